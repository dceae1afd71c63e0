/- The law MerkleRoots, walked. -/
import Derived.Test.YteddkdlbipehcaaOpenT
namespace Go.Proofs.Yteddkdlbipehcaa
open Go.RowKit
set_option linter.unusedVariables false

set_option maxRecDepth 100000 in
set_option maxHeartbeats 2000000 in
theorem merkleRoots_any (a0 : Option Addr) (ss : List By) (c : Nat) (w : World) (hT : Txts w a0 ss) (hm : TxtsOk ss c) :
    Calls Try.prog 3 #[.slice a0 ss.length c] w fun e w' => e = .returned (.bool true) ∧ Below w.heap.size w w' := by
  obtain ⟨m1, m2, m3⟩ := hm
  have haw := hide mawake_any
  have hfew := hide (fun w' (hb : Below w.heap.size w w') => few_any ss a0 c 40 1100 w' (hT.below hb) (by omega) (by omega) (by omega) m3)
  cases hF : fewB ss 40 1100 with
  | false =>
    rw [hF] at hfew
    clear hT m3 hF
    generalize ss.length = n at *
    go_enter Try.func3, Try.ntmps3
    go_wp2_with fail
    refine (unhide hfew _ (Below.refl _ _)).mono ?_
    rintro e w1 ⟨rfl, rfl⟩
    go_wp2_with fail
    refine (unhide haw _).mono ?_
    rintro e w1 ⟨rfl, b1⟩
    go_wp2
    go_ret
    exact ⟨rfl, b1⟩
  | true =>
    rw [hF] at hfew
    obtain ⟨f1, f2⟩ := of_decide_eq_true hF
    have hr := hide (fun w' (hb : Below w.heap.size w w') => root_any ss a0 c w' (hT.below hb) (by omega) (fun s hs => Nat.le_trans (f2 s hs) (by omega)))
    have hr2 := hide (fun w' (hb : Below w.heap.size w w') => rroot_any ss a0 c w' (hT.below hb) m1 m2 (by omega) (fun s hs => Nat.le_trans (f2 s hs) (by omega)))
    generalize bs (if mayE ss = 0 then (treeP shaSum (ss.map (leafP shaSum))).1 else []) = R at *
    have hE := mayE_cases ss
    generalize mayE ss = E at *
    have HT := hide hT
    have F2 := hide f2
    clear hT m3 hF f2
    generalize hn : ss.length = n at *
    have HN := hide hn
    clear hn
    unfold maxLen at m2
    have hEb : E ≤ 2 := by omega
    clear hE
    go_enter Try.func3, Try.ntmps3
    go_wp2_with fail
    refine (unhide hfew _ (Below.refl _ _)).mono ?_
    rintro e w1 ⟨rfl, rfl⟩
    go_wp2_with fail
    refine (unhide hr _ (Below.refl _ _)).mono ?_
    rintro e w1 ⟨rfl, b1⟩
    go_wp2_with fail
    refine (unhide hr2 _ b1).mono ?_
    rintro e w2 ⟨rfl, b2⟩
    have B2 := hide (b1.trans (b2.mono b1.size))
    clear b1 b2 hr hr2 hfew
    go_wp2_with fail
    go_loopw [7] (fun i wr => ∃ k : Nat, k ≤ n ∧ i = .int .i64 k ∧ Below w.heap.size w wr) (fun i _ => n - (intOf i).toNat)
    case atStart => exact ⟨0, Nat.zero_le _, rfl, unhide B2⟩
    case round =>
      obtain ⟨k, hk, rfl, hb⟩ := hrel
      by_cases hlt : k + 1 < n
      · have hl1 : k < ss.length := by rw [unhide HN]; omega
        have hl2 : k + 1 < ss.length := by rw [unhide HN]; omega
        obtain ⟨g, o, rfl, y0⟩ := unhide HT k hl1
        obtain ⟨g', o', ha, y1⟩ := unhide HT (k + 1) hl2
        simp only [Option.some.injEq, Addr.mk.injEq] at ha
        obtain ⟨rfl, rfl, _⟩ := ha
        have z0 := cell_below y0 hb
        have z1 := cell_below y1 hb
        have s0 := unhide F2 ss[k] (List.getElem_mem hl1)
        have s1 := unhide F2 ss[k + 1] (List.getElem_mem hl2)
        have k1 := hide (fun w => mleaf_any ss[k] w (by omega))
        have k2 := hide (fun w => mknot_any ss[k] ss[k + 1] w (by omega) (by omega))
        have k3 := hide (fun w => rleafText_any ss[k] w (by omega))
        have k4 := hide (fun w => rknotText_any ss[k] ss[k + 1] w (by omega) (by omega))
        have k5 := hide (fun w => rsum_t (leafT ss[k]) w (by simp [leafT]; omega))
        have k6 := hide (fun w => rsum_t (knotT ss[k] ss[k + 1]) w (by simp [knotT]; omega))
        generalize bs (shaSum (leafT ss[k])) = D1 at *
        generalize bs (shaSum (knotT ss[k] ss[k + 1])) = D2 at *
        generalize bs (leafT ss[k]) = T1 at *
        generalize bs (knotT ss[k] ss[k + 1]) = T2 at *
        generalize bs ss[k] = S1 at *
        generalize bs ss[k + 1] = S2 at *
        clear s0 s1 y0 y1 hl1 hl2
        have q0 : (k : Int) < n := by omega
        have q1 : (k : Int) + 1 < n := by omega
        have HB := hide hb
        clear hb
        go_wp2_with fail
        have hc0 : ∀ x : Gb wr, x.w.cell? ⟨g, o + k, none⟩ = some (.string S1) := fun x => gb_cell z0 x
        have hc1 : ∀ x : Gb wr, x.w.cell? ⟨g, o + (k + 1), none⟩ = some (.string S2) := fun x => gb_cell z1 x
        have hne := gb_ne wr
        refine wp_region_gr (fun x => Below wr.heap.size wr x) (by kernel_rfl) (by kernel_rfl) (gb_start wr) ?_
        iterate 11 (go_big_quiet_step ((first | (go_at_call 13; exact gb_call (unhide k1 _)) | (go_at_call 16; exact gb_call (unhide k2 _)) | (go_at_call 15; exact gb_same (unhide k3 _)) | (go_at_call 17; exact gb_same (unhide k4 _)) | (go_at_call 14; exact gb_call (unhide k5 _)))))
        repeat (go_big_quiet_step ((first | (go_at_call 13; exact gb_call (unhide k1 _)) | (go_at_call 16; exact gb_call (unhide k2 _)) | (go_at_call 15; exact gb_same (unhide k3 _)) | (go_at_call 17; exact gb_same (unhide k4 _)) | (go_at_call 14; exact gb_call (unhide k6 _)))))
        refine wpQuiet_nil ?_
        rintro w7 ⟨⟨_, b7⟩, rfl⟩
        have B7 := hide ((unhide HB).trans (b7.mono (unhide HB).size))
        clear b7 hc0 hc1 hne z0 z1 k1 k2 k3 k4 k5 k6
        go_wp2
        go_roundw
        case rel => exact ⟨k + 1, by omega, by go_num, unhide B7⟩
        case measure => simp [intOf]; omega
      · have q1 : ¬ (k : Int) + 1 < n := by omega
        have HB := hide hb
        clear hb
        go_wp2_with fail
        refine (unhide haw _).mono ?_
        rintro e w5 ⟨rfl, b5⟩
        have B5 := hide ((unhide HB).trans (b5.mono (unhide HB).size))
        clear b5
        go_wp2
        go_ret
        exact ⟨rfl, unhide B5⟩

end Go.Proofs.Yteddkdlbipehcaa

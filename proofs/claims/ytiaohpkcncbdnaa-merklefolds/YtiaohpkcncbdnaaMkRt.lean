/- The document's Top and Root. -/
import Derived.Test.YtiaohpkcncbdnaaMkR
namespace Go.Proofs.Ytiaohpkcncbdnaa
open Go.RowKit
set_option linter.unusedVariables false

theorem Txts.drop {w : World} {g o : Nat} {T : List By} (h : Txts w (some ⟨g, o, none⟩) T) (k : Nat) : Txts w (some ⟨g, o + k, none⟩) (T.drop k) := fun i hi => by
  have hi' : k + i < T.length := by rw [List.length_drop] at hi; omega
  obtain ⟨g', o', h1, h2⟩ := h (k + i) hi'
  simp only [Option.some.injEq, Addr.mk.injEq] at h1
  obtain ⟨rfl, rfl, _⟩ := h1
  exact ⟨g, o + k, rfl, by rw [Nat.add_assoc, h2, List.getElem_drop]⟩

set_option maxRecDepth 100000 in
set_option maxHeartbeats 1000000 in
theorem rtop_any (N : Nat) : ∀ (ss : List By) (g o c : Nat) (w : World), ss.length = N → Txts w (some ⟨g, o, none⟩) ss → 1 ≤ N → N ≤ 256 → N ≤ c → c ≤ maxLen → (∀ s ∈ ss, s.length ≤ 1100) →
    Calls Try.prog 36 #[.slice (some ⟨g, o, none⟩) N c] w fun e w' => e = .returned (.string (bs (treeP shaSum (ss.map (leafP shaSum))).1)) ∧ Below w.heap.size w w' := by
  induction N using Nat.strongRecOn with
  | ind N ih =>
    intro ss g o c w hN hT h1 h2 h3 h4 h5
    unfold maxLen at h4
    by_cases e1 : N = 1
    · subst e1
      obtain ⟨s, rfl⟩ : ∃ s, ss = [s] := by
        match ss, hN with
        | [s], _ => exact ⟨s, rfl⟩
      obtain ⟨g', o', ha, hc⟩ := hT 0 (by simp)
      simp only [Option.some.injEq, Addr.mk.injEq] at ha
      obtain ⟨rfl, rfl, _⟩ := ha
      simp only [List.getElem_cons_zero, Nat.add_zero] at hc
      have hs := h5 s (by simp)
      have k1 := hide (fun w => rleafText_any s w (by omega))
      have k2 := hide (fun w => rsum_t (leafT s) w (by simp [leafT]; omega))
      rw [List.map_cons, List.map_nil, treeP_one]
      show Calls _ _ _ _ fun e w' => e = .returned (.string (bs (shaSum (leafT s)))) ∧ _
      generalize bs s = B at *
      generalize bs (leafT s) = T at *
      generalize bs (shaSum (leafT s)) = D at *
      clear hT h5 ih hN
      go_enter Try.func36, Try.ntmps36
      go_wp2_with fail
      refine (unhide k1 _).mono ?_
      rintro e w1 ⟨rfl, rfl⟩
      go_wp2_with fail
      refine (unhide k2 _).mono ?_
      rintro e w2 ⟨rfl, b2⟩
      go_wp2
      go_ret
      exact ⟨rfl, b2⟩
    · have hk1 := half_lt N (by omega)
      have hk2 := half_pos N
      have hh := hide (fun w => rhalf_any N w (by omega) (by omega))
      have ht := hide (fun w' (hb : Below w.heap.size w w') => ih (half N) hk1 (ss.take (half N)) g o c w' (by rw [List.length_take]; omega) ((hT.below hb).take _) (by omega) (by omega) (by omega) (by unfold maxLen; omega) (fun s hs => h5 s (List.mem_of_mem_take hs)))
      have hd := hide (fun w' (hb : Below w.heap.size w w') => ih (N - half N) (by omega) (ss.drop (half N)) g (o + half N) (c - half N) w' (by rw [List.length_drop]; omega) ((hT.below hb).drop _) (by omega) (by omega) (by omega) (by unfold maxLen; omega) (fun s hs => h5 s (List.mem_of_mem_drop hs)))
      have hm : treeP shaSum (ss.map (leafP shaSum)) = joinP shaSum (treeP shaSum ((ss.take (half N)).map (leafP shaSum))) (treeP shaSum ((ss.drop (half N)).map (leafP shaSum))) := by
        rw [treeP_more shaSum _ (by rw [List.length_map]; omega), List.length_map, hN, List.map_take, List.map_drop]
      rw [hm]
      have L1 : (treeP shaSum ((ss.take (half N)).map (leafP shaSum))).1.length = 32 := tree_len32 shaSum shaSum_length _ (by rw [List.length_map, List.length_take]; omega) (fun p hp => by obtain ⟨s, _, rfl⟩ := List.mem_map.1 hp; exact shaSum_length _)
      have L2 : (treeP shaSum ((ss.drop (half N)).map (leafP shaSum))).1.length = 32 := tree_len32 shaSum shaSum_length _ (by rw [List.length_map, List.length_drop]; omega) (fun p hp => by obtain ⟨s, _, rfl⟩ := List.mem_map.1 hp; exact shaSum_length _)
      generalize treeP shaSum ((ss.take (half N)).map (leafP shaSum)) = P1 at *
      generalize treeP shaSum ((ss.drop (half N)).map (leafP shaSum)) = P2 at *
      have kt := hide (fun w => rknotText_any P1.1 P2.1 w (by omega) (by omega))
      have sm := hide (fun w => rsum_t (knotT P1.1 P2.1) w (by simp [knotT]; omega))
      show Calls _ _ _ _ fun e w' => e = .returned (.string (bs (shaSum (knotT P1.1 P2.1)))) ∧ _
      generalize bs P1.1 = B1 at *
      generalize bs P2.1 = B2 at *
      generalize bs (shaSum (knotT P1.1 P2.1)) = D at *
      generalize bs (knotT P1.1 P2.1) = T at *
      clear hm L1 L2 hT h5 ih hN
      generalize half N = k at *
      have q1 : ¬ (N : Int) = 1 := by omega
      have q2 : (k : Int) ≤ N := by omega
      have q3 : (k : Int) ≤ c := by omega
      have q4 : (N : Int) ≤ c := by omega
      have ht' : Hid (∀ x : Gb w, Calls Try.prog 36 #[.slice (some ⟨g, o, none⟩) k c] x.w fun e w' => e = .returned (.string B1) ∧ Below x.w.heap.size x.w w') := fun x => unhide ht x.w x.ok
      have hd' : Hid (∀ x : Gb w, Calls Try.prog 36 #[.slice (some ⟨g, o + k, none⟩) (N - k) (c - k)] x.w fun e w' => e = .returned (.string B2) ∧ Below x.w.heap.size x.w w') := fun x => unhide hd x.w x.ok
      clear ht hd
      go_enter Try.func36, Try.ntmps36
      go_wp2_with fail
      refine (unhide hh _).mono ?_
      rintro e w1 ⟨rfl, rfl⟩
      go_wp2_with fail
      have hne := gb_ne w
      refine wp_region_gr (fun x => Below w.heap.size w x) (by kernel_rfl) (by kernel_rfl) (gb_start w) ?_
      iterate 7 (go_big_quiet_step ((go_at_call 36; exact gb_call (unhide ht' _))))
      repeat (go_big_quiet_step ((first | (go_at_call 36; exact gb_call (unhide hd' _)) | (go_at_call 17; exact gb_same (unhide kt _)) | (go_at_call 14; exact gb_call (unhide sm _)))))
      refine wpQuiet_nil ?_
      rintro w7 ⟨⟨_, b7⟩, rfl⟩
      have B7 := hide b7
      clear b7 hne ht' hd'
      go_wp2
      go_ret
      exact ⟨rfl, unhide B7⟩

set_option maxRecDepth 100000 in
theorem rroot_any (ss : List By) (a0 : Option Addr) (c : Nat) (w : World) (hT : Txts w a0 ss) (hc : ss.length ≤ c) (hcm : c ≤ maxLen) (h2 : ss.length ≤ 100000) (h3 : ∀ s ∈ ss, s.length ≤ 100000) :
    Calls Try.prog 12 #[.slice a0 ss.length c] w fun e w' => e = .returned (.tuple #[.string (bs (if mayE ss = 0 then (treeP shaSum (ss.map (leafP shaSum))).1 else [])), .int .i64 (mayE ss)]) ∧ Below w.heap.size w w' := by
  have hf := hide (fun w' (hb : Below w.heap.size w w') => rmay_any ss a0 c w' (hT.below hb) h2 h3)
  rcases mayE_cases ss with h0 | hE
  · obtain ⟨x1, x2, x3⟩ := mayE_ok h0
    obtain ⟨g, o, rfl, hcc⟩ := hT 0 (by omega)
    clear hcc
    have ht := hide (fun w' (hb : Below w.heap.size w w') => rtop_any ss.length ss g o c w' rfl (hT.below hb) x1 x2 hc hcm (fun s hs => Nat.le_trans (x3 s hs) (by omega)))
    rw [if_pos h0]
    rw [h0] at hf ⊢
    clear hT h3 x3 h0
    generalize ss.length = n at *
    go_enter Try.func12, Try.ntmps12
    go_wp2_with fail
    refine (unhide hf _ (Below.refl _ _)).mono ?_
    rintro e w1 ⟨rfl, rfl⟩
    go_wp2_with fail
    refine (unhide ht _ (Below.refl _ _)).mono ?_
    rintro e w2 ⟨rfl, b2⟩
    go_wp2
    go_ret2
    exact ⟨rfl, b2⟩
  · rw [if_neg (by omega)]
    clear hT h3
    generalize ss.length = n at *
    generalize mayE ss = E at *
    rcases hE with rfl | rfl
    all_goals
      go_enter Try.func12, Try.ntmps12
      go_wp2_with fail
      refine (unhide hf _ (Below.refl _ _)).mono ?_
      rintro e w1 ⟨rfl, rfl⟩
      go_wp2
      go_ret2
      exact ⟨rfl, Below.refl _ _⟩

end Go.Proofs.Ytiaohpkcncbdnaa

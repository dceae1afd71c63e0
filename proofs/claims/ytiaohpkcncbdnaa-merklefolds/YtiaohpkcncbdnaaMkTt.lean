/- Contracts of the document's texts and Texts. -/
import Derived.Test.YtiaohpkcncbdnaaMkT
import Derived.Test.YtiaohpkcncbdnaaLate
import Derived.Deep.AppendLies
namespace Go.Proofs.Ytiaohpkcncbdnaa
open Go.RowKit
set_option linter.unusedVariables false

theorem OwnS.form {w : World} {base : Nat} {v : Value} {T : List By} (h : OwnS w base v T) (hT : 1 ≤ T.length) : ∃ g c, v = .slice (some ⟨g, 0, none⟩) T.length c ∧ base ≤ g ∧ g < w.heap.size := World.ownsRow.form (h : World.ownsRow _ _ _ _ _ _ _) hT
theorem OwnS.at0 {w : World} {base g c : Nat} {T : List By} (h : OwnS w base (.slice (some ⟨g, 0, none⟩) T.length c) T) (i : Nat) (hi : i < T.length) : w.cell? ⟨g, i, none⟩ = some (.string (bs T[i])) := by
  have := World.ownsRow.cells (h : World.ownsRow _ _ _ _ _ _ _) rfl i _ (sc_get T i hi)
  rwa [Addr.add_mid, Nat.zero_add] at this
theorem tree_texts_len (ss : List By) (h : 1 ≤ ss.length) : (treeP shaSum (ss.map (leafP shaSum))).2.length = 2 * ss.length - 1 := by
  rw [tree_texts shaSum _ (by rw [List.length_map]; exact h) (fun p hp => by obtain ⟨s, _, rfl⟩ := List.mem_map.1 hp; rfl), List.length_map]

set_option maxRecDepth 100000 in
set_option maxHeartbeats 4000000 in
theorem rtexts_any (N : Nat) : ∀ (ss : List By) (g o c : Nat) (w : World), ss.length = N → Txts w (some ⟨g, o, none⟩) ss → 1 ≤ N → N ≤ 256 → N ≤ c → c ≤ maxLen → (∀ s ∈ ss, s.length ≤ 1100) →
    Calls Try.prog 51 #[.slice (some ⟨g, o, none⟩) N c] w fun e w' => ∃ v, e = .returned v ∧ OwnS w' w.heap.size v (treeP shaSum (ss.map (leafP shaSum))).2 ∧ Below w.heap.size w w' := by
  obtain ⟨i0, hi0, hz0, hz1, hz2⟩ := info_parts Try.infoS
  induction N using Nat.strongRecOn with
  | ind N ih =>
    intro ss g o c w hN hT h1 h2 h3 h4 h5
    by_cases e1 : N = 1
    · subst e1
      obtain ⟨s, rfl⟩ : ∃ s, ss = [s] := by
        match ss, hN with
        | [s], _ => exact ⟨s, rfl⟩
      obtain ⟨g', o', eg, hc0⟩ := hT 0 (by simp)
      simp only [Option.some.injEq, Addr.mk.injEq, and_true] at eg
      obtain ⟨rfl, rfl⟩ := eg
      simp only [List.getElem_cons_zero, Nat.add_zero] at hc0
      have hl := hide (fun w => rleafText_any s w (by have := h5 s (by simp); omega))
      rw [show (treeP shaSum ([s].map (leafP shaSum))).2 = [leafT s] by show (treeP shaSum [leafP shaSum s]).2 = _; rw [treeP_one]; rfl]
      generalize bs s = B at *
      have hown : Hid (OwnS (w.alloc (.cells #[.string (bs (leafT s))] 9)) w.heap.size (.slice (some ⟨w.heap.size, 0, none⟩) 1 1) [leafT s]) := by
        show World.ownsRow _ _ _ _ _ _ _
        refine ⟨rfl, .inr ⟨w.heap.size, 1, #[.string (bs (leafT s))], rfl, Nat.le_refl _, heap_alloc_new w _, by omega, by unfold maxLen; omega, rfl, rfl⟩⟩
      generalize bs (leafT s) = D at *
      clear hT h5 ih hN
      unfold maxLen at h4
      go_enter Try.func51, Try.ntmps51
      go_wp2_with fail
      refine (unhide hl _).mono ?_
      rintro e w1 ⟨rfl, rfl⟩
      go_wp2
      go_ret
      exact ⟨_, rfl, unhide hown, (Below.refl _ _).alloc (Nat.le_refl _) _⟩
    · have hk1 := half_lt N (by omega)
      have hk2 := half_pos N
      have hh := hide (fun w => rhalf_any N w (by omega) (by omega))
      have hA := hide (ih (half N) hk1 (ss.take (half N)) g o c w (by rw [List.length_take]; omega) (hT.take _) (by omega) (by omega) (by omega) h4 (fun s hs => h5 s (List.mem_of_mem_take hs)))
      have hB := hide (fun w' (hb : Below w.heap.size w w') => ih (N - half N) (by omega) (ss.drop (half N)) g (o + half N) (c - half N) w' (by rw [List.length_drop]; omega) ((hT.below hb).drop _) (by omega) (by omega) (by omega) (by unfold maxLen at *; omega) (fun s hs => h5 s (List.mem_of_mem_drop hs)))
      have ht := hide (fun w' (hb : Below w.heap.size w w') => rtop_any (half N) (ss.take (half N)) g o c w' (by rw [List.length_take]; omega) ((hT.below hb).take _) (by omega) (by omega) (by omega) h4 (fun s hs => h5 s (List.mem_of_mem_take hs)))
      have hd := hide (fun w' (hb : Below w.heap.size w w') => rtop_any (N - half N) (ss.drop (half N)) g (o + half N) (c - half N) w' (by rw [List.length_drop]; omega) ((hT.below hb).drop _) (by omega) (by omega) (by omega) (by unfold maxLen at *; omega) (fun s hs => h5 s (List.mem_of_mem_drop hs)))
      have hm : treeP shaSum (ss.map (leafP shaSum)) = joinP shaSum (treeP shaSum ((ss.take (half N)).map (leafP shaSum))) (treeP shaSum ((ss.drop (half N)).map (leafP shaSum))) := by
        rw [treeP_more shaSum _ (by rw [List.length_map]; omega), List.length_map, hN, List.map_take, List.map_drop]
      rw [hm]
      have L1 : (treeP shaSum ((ss.take (half N)).map (leafP shaSum))).1.length = 32 := tree_len32 shaSum shaSum_length _ (by rw [List.length_map, List.length_take]; omega) (fun p hp => by obtain ⟨s, _, rfl⟩ := List.mem_map.1 hp; exact shaSum_length _)
      have L2 : (treeP shaSum ((ss.drop (half N)).map (leafP shaSum))).1.length = 32 := tree_len32 shaSum shaSum_length _ (by rw [List.length_map, List.length_drop]; omega) (fun p hp => by obtain ⟨s, _, rfl⟩ := List.mem_map.1 hp; exact shaSum_length _)
      have L3 := tree_texts_len (ss.take (half N)) (by rw [List.length_take]; omega)
      have L4 := tree_texts_len (ss.drop (half N)) (by rw [List.length_drop]; omega)
      rw [List.length_take] at L3
      rw [List.length_drop] at L4
      generalize treeP shaSum ((ss.take (half N)).map (leafP shaSum)) = P1 at *
      generalize treeP shaSum ((ss.drop (half N)).map (leafP shaSum)) = P2 at *
      have M3 : 1 ≤ P1.2.length ∧ P1.2.length ≤ 512 := by omega
      have M4 : 1 ≤ P2.2.length ∧ P2.2.length ≤ 512 := by omega
      have kt := hide (fun w => rknotText_any P1.1 P2.1 w (by omega) (by omega))
      show Calls _ _ _ _ fun e w' => ∃ v, e = .returned v ∧ OwnS w' w.heap.size v (P1.2 ++ P2.2 ++ [knotT P1.1 P2.1]) ∧ _
      generalize bs P1.1 = B1 at *
      generalize bs P2.1 = B2 at *
      generalize hKT : knotT P1.1 P2.1 = KT at *
      clear hm L1 L2 L3 L4 hT h5 ih hN hKT
      generalize P1.2 = T1 at *
      generalize P2.2 = T2 at *
      clear P1 P2
      generalize half N = k at *
      unfold maxLen at h4
      have q1 : ¬ (N : Int) = 1 := by omega
      have q2 : (k : Int) ≤ N := by omega
      have q3 : (k : Int) ≤ c := by omega
      have q4 : (N : Int) ≤ c := by omega
      go_enter Try.func51, Try.ntmps51
      go_wp2_with fail
      refine (unhide hh _).mono ?_
      rintro e w0 ⟨rfl, rfl⟩
      go_wp2_with fail
      refine (unhide hA).mono ?_
      rintro e w1 ⟨v1, rfl, ho1, b1⟩
      obtain ⟨g1, c1, rfl, hg1, hl1⟩ := ho1.form M3.1
      go_wp2_with fail
      refine (unhide hB _ b1).mono ?_
      rintro e w2 ⟨v2, rfl, ho2, b2⟩
      obtain ⟨g2, c2, rfl, hg2, hl2⟩ := ho2.form M4.1
      have HO := hide (own_below2 (show World.ownsRow _ _ _ _ _ _ _ from ho1) b2)
      have HC : Hid (∀ i (hi : i < T2.length), w2.cell? ⟨g2, i, none⟩ = some (.string (bs T2[i]))) := fun i hi => ho2.at0 i hi
      have BB := hide (b1.trans (b2.mono b1.size))
      have hne : g1 ≠ g2 := by omega
      clear ho1 ho2 b1 b2 hA hB
      go_wp2_with fail
      go_loopw [4, 6] (fun ov iv wr => ∃ (i gx cx : Nat), i ≤ T2.length ∧ iv = .int .i64 i ∧ ov = .slice (some ⟨gx, 0, none⟩) (T1.length + i) cx ∧ gx ≠ g2 ∧ wr.ownsRow w.heap.size 9 1 (.slice (some ⟨gx, 0, none⟩) (T1.length + i) cx) (T1.length + i) (sc (T1 ++ T2.take i)) ∧ g2 < wr.heap.size ∧ (∀ i (hi : i < T2.length), wr.cell? ⟨g2, i, none⟩ = some (.string (bs T2[i]))) ∧ Below w.heap.size w wr) (fun _ iv _ => T2.length - (intOf iv).toNat)
      case atStart => exact ⟨0, g1, c1, Nat.zero_le _, rfl, rfl, hne, by simpa using unhide HO, hl2, unhide HC, unhide BB⟩
      case round =>
        clear HO HC BB
        obtain ⟨i, gx, cx, hi, rfl, rfl, hgx, hown, hg2l, hcells, hb⟩ := hrel
        have hzs := hb.size
        by_cases hlt : i < T2.length
        · have y1 := hcells i hlt
          have qi : (i : Int) < T2.length := by omega
          have hts : Hid (T1 ++ T2.take (i + 1) = T1 ++ T2.take i ++ [T2[i]]) := by
            show _ = _
            rw [List.take_succ_eq_append_getElem hlt, List.append_assoc]
          generalize hTe : bs T2[i] = Ti at *
          have HTe := hide hTe
          have HO := hide hown
          have HC := hide hcells
          have HB := hide hb
          clear hown hcells hb hTe
          go_wp2_with (at_builtin; refine wpList_append_lies _ rfl _ _ 22 rfl w.heap.size 9 i0 (.string ⟨#[]⟩) 1 16 Try.undS hi0 hz0 hz1 hz2 rfl (by decide) _ _ _ rfl ((unhide HO).alloc _) ⟨wr.heap.size, 0, none⟩ 1 1 [.string Ti] rfl rfl (news_one' _ _ _) ?c2 (by decide) ?c3 ?c4 ?c5 (wr.heap.size + 1) ?c6 ?_)
          case c2 => first | rfl | (intro u hu; simp at hu; subst hu; rfl)
          case c3 => unfold maxLen; omega
          case c4 => omega
          case c5 => first | omega | (simp; omega)
          case c6 => simp
          intro g7 c7 w7 hown7 hgrow7 hat hlt7
          have hg7 : g7 ≠ g2 := by
            rcases hat with h | h
            · have : gx = g7 := by simpa [Value.ownBlock] using h
              omega
            · omega
          have hblk : w7.heap[g2]? = wr.heap[g2]? := by
            rw [hgrow7.block g2 (by simp; omega) (by simp [Value.ownBlock]; omega)]
            exact Below.heap_alloc _ _ _ (by omega)
          have H7 : Hid (w7.ownsRow w.heap.size 9 1 (.slice (some ⟨g7, 0, none⟩) (T1.length + (i + 1)) c7) (T1.length + (i + 1)) (sc (T1 ++ T2.take (i + 1)))) := by
            show World.ownsRow _ _ _ _ _ _ _
            rw [unhide hts, sc_append (T1 ++ T2.take i), show sc [T2[i]] = [.string Ti] by rw [← unhide HTe]; rfl]
            exact hown7
          have HC7 : Hid (∀ i (hi : i < T2.length), w7.cell? ⟨g2, i, none⟩ = some (.string (bs T2[i]))) := fun j hj => (cell_same hblk).trans (unhide HC j hj)
          have B7 := hide (((unhide HB).alloc hzs (.cells #[.string Ti] 9)).grown hgrow7 (by simp; omega) (fun q hq => ((unhide HO).lt q hq).1))
          have hs7 : g2 < w7.heap.size := by have := hgrow7.size; simp at this; omega
          clear hown7 hgrow7 hat hblk y1 HO HC HB hts
          obtain ⟨I, hI⟩ : ∃ I, I = i + 1 := ⟨_, rfl⟩
          have e2 : T1.length + i + 1 = T1.length + I := by omega
          rw [e2]
          rw [← hI] at H7
          have HI := hide hI
          clear hI e2
          go_wp2
          go_roundw
          case rel => exact ⟨I, g7, c7, by have := unhide HI; omega, by have := unhide HI; subst this; go_num, rfl, hg7, unhide H7, hs7, unhide HC7, unhide B7⟩
          case measure => have := unhide HI; simp [intOf]; omega
        · have hiT : i = T2.length := by omega
          subst hiT
          have qi : ¬ (T2.length : Int) < T2.length := by omega
          rw [List.take_length] at hown
          obtain ⟨M, hM⟩ : ∃ M, M = T1.length + T2.length := ⟨_, rfl⟩
          rw [← hM] at hown ⊢
          have HO := hide hown
          have HB := hide hb
          have HM := hide hM
          have ht' : Hid (∀ (x : Gb wr) (y : Gb x.w), Calls Try.prog 36 #[.slice (some ⟨g, o, none⟩) k c] y.w fun e w' => e = .returned (.string B1) ∧ Below y.w.heap.size y.w w') := fun x y => unhide ht y.w ((unhide HB).trans ((x.ok.trans (y.ok.mono x.ok.size)).mono hzs))
          have hd' : Hid (∀ (x : Gb wr) (y : Gb x.w), Calls Try.prog 36 #[.slice (some ⟨g, o + k, none⟩) (N - k) (c - k)] y.w fun e w' => e = .returned (.string B2) ∧ Below y.w.heap.size y.w w') := fun x y => unhide hd y.w ((unhide HB).trans ((x.ok.trans (y.ok.mono x.ok.size)).mono hzs))
          clear hown hb hcells hM ht hd hg2l
          go_wp2_with fail
          refine wp_region_late 10 ?A0 (by kernel_rfl) (by kernel_rfl) (by kernel_rfl) ?lex ?_
          case lex =>
            intro X
            have hneX := gb_ne X.w
            dsimp only [List.take_succ_cons, List.take_zero]
            iterate 5 (go_big_quiet_step ((go_at_call 36; exact gb_call (unhide ht' X _))))
            repeat (go_big_quiet_step ((first | (go_at_call 36; exact gb_call (unhide hd' X _)) | (go_at_call 17; exact gb_same (unhide kt _)))))
            refine wpQuiet_nil ?_
            exact rfl
          intro w8 b8
          try simp only [List.drop_succ_cons, List.drop_zero]
          have HO8 := hide (own_below2 (unhide HO) b8)
          have B8 := hide ((unhide HB).trans (b8.mono hzs))
          have hz8 := (unhide B8).size
          clear HO HB b8 ht' hd'
          go_wp2_with (at_builtin; refine wpList_append_own _ rfl _ _ 22 rfl w.heap.size 9 i0 (.string ⟨#[]⟩) 1 16 Try.undS hi0 hz0 hz1 hz2 rfl (by decide) _ _ _ rfl ((unhide HO8).alloc _) ⟨w8.heap.size, 0, none⟩ 1 1 [.string (bs KT)] rfl rfl (news_one' _ _ _) ?d2 ?d3 ?d4 ?d5 ?_)
          case d2 => first | rfl | (intro u hu; simp at hu; subst hu; rfl)
          case d3 => have := unhide HM; unfold maxLen; omega
          case d4 => have := unhide HM; omega
          case d5 => first | omega | (simp; omega)
          intro v9 w9 hown9 hgrow9 _
          have B9 := hide (((unhide B8).alloc hz8 (.cells #[.string (bs KT)] 9)).grown hgrow9 (by simp; omega) (fun q hq => ((unhide HO8).lt q hq).1))
          have H9 : Hid (OwnS w9 w.heap.size v9 (T1 ++ T2 ++ [KT])) := by
            have hm := unhide HM
            show World.ownsRow _ _ _ _ _ _ _
            rw [sc_append, List.length_append, List.length_append, List.length_singleton]
            rw [hm] at hown9
            exact hown9
          obtain ⟨a9, c9, rfl⟩ := own_shapeN hown9
          clear hown9 hgrow9 HO8 B8
          go_wp2
          refine onlyN ?_
          go_wp2
          go_ret
          exact ⟨_, rfl, unhide H9, unhide B9⟩

end Go.Proofs.Ytiaohpkcncbdnaa

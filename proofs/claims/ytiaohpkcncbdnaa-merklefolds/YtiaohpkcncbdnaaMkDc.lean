/- Contracts of the document's climb, folds, Fold, Check, Climb, Road. -/
import Derived.Test.YtiaohpkcncbdnaaMkFo
namespace Go.Proofs.Ytiaohpkcncbdnaa
open Go.RowKit
set_option linter.unusedVariables false

theorem own_set {w : World} {base n size : Nat} {e : TypeId} {v : Value} {xs : List Value} (h : w.ownsRow base e size v n xs) {g : Nat} {t : TypeId} {cs : Array Value} {fr : Nat × Nat} (hg : w.heap[g]? = some (.cells cs t fr)) (ht : t ≠ e) (p : Addr) (hp : p.block = g) (u : Value) : (w.setCell p u).ownsRow base e size v n xs := by
  refine ⟨h.1, ?_⟩
  rcases h.2 with h' | ⟨q, cap, cur, h1, h2, h3, h4⟩
  · exact .inl h'
  · refine .inr ⟨q, cap, cur, h1, h2, ?_, h4⟩
    have hq : q ≠ p.block := fun e' => by
      rw [hp] at e'
      rw [e', hg] at h3
      simp at h3
      exact ht h3.2.1
    exact (Below.heap_setCell _ _ _ _ hq).trans h3
theorem knotT_len' (a b : By) : (knotT a b).length = a.length + b.length + 1 := by simp [knotT]
theorem climbP_32 (pl : List Bool) (d : By) (path : List By) (h : pl.length = path.length) (hd : d.length = 32) : (climbP shaSum pl d path).1.length = 32 := by
  have key : ∀ (l : List (Bool × By)) (q : By × List By), q.1.length = 32 → (l.foldl (knotS shaSum) q).1.length = 32 := by
    intro l
    induction l with
    | nil => intro q h; exact h
    | cons x l ih => intro q _; rw [List.foldl_cons]; exact ih _ (shaSum_length _)
  exact key _ _ hd
set_option maxRecDepth 100000 in
set_option maxHeartbeats 4000000 in
theorem rclimb_any (M : Nat) : ∀ (n i : Nat) (d : By) (path : List By) (a0 : Option Addr) (c : Nat) (w : World), path.length = M → Txts w a0 path → M ≤ c → c ≤ maxLen → 1 ≤ n → n ≤ 256 → i < n → M = (plan n i).length → (∀ p ∈ path, p.length = 32) → d.length = 32 →
    Calls Try.prog 50 #[.int .i64 n, .int .i64 i, .string (bs d), .slice a0 M c] w fun e w' => ∃ v, e = .returned (.agg #[.string (bs (climbP shaSum (plan n i) d path).1), v]) ∧ OwnS w' w.heap.size v (climbP shaSum (plan n i) d path).2 ∧ Below w.heap.size w w' := by
  obtain ⟨i0, hi0, hz0, hz1, hz2⟩ := info_parts Try.infoS
  induction M with
  | zero =>
    intro n i d path a0 c w hM hT h1 h2 h3 h4 h5 h6 h7 h8
    rw [show plan n i = [] from List.length_eq_zero_iff.1 h6.symm, show climbP shaSum [] d path = (d, []) by unfold climbP; simp]
    clear hT h7 h8 h6 hM
    generalize bs d = B at *
    go_enter Try.func50, Try.ntmps50
    go_wp2
    refine ret_cell rfl w.heap.size 74 #[.string B, .slice none 0 0] (0, 0) _ rfl (heap_alloc_new _ _) rfl Try.underlying74 (by kernel_rfl) ⟨_, rfl, World.ownsRow_nil _ _ _ _, (Below.refl _ _).alloc (Nat.le_refl _) _⟩
  | succ M ih =>
    intro n i d path a0 c w hM hT h1 h2 h3 h4 h5 h6 h7 h8
    have hn2 : 2 ≤ n := by
      rcases Nat.lt_or_ge n 2 with h | h
      · rw [plan_one n i (by omega)] at h6
        simp at h6
      · exact h
    have hk1 := half_lt n (by omega)
    have hk2 := half_pos n
    have hM1 : M < path.length := by omega
    obtain ⟨g, o, rfl, hc0⟩ := hT M hM1
    have hx32 := h7 _ (List.getElem_mem hM1)
    have hpt : path = path.take M ++ [path[M]] := by
      have := List.take_succ_eq_append_getElem hM1
      rw [← this, ← hM, List.take_length]
    have hh := hide (fun w => rhalf_any n w (by omega) (by omega))
    have hlt : (path.take M).length = M := by rw [List.length_take]; omega
    by_cases hik : i < half n
    · have hpl := plan_left n i hn2 hik
      have hpm : M = (plan (half n) i).length := by
        rw [hpl, List.length_append] at h6
        simp at h6
        exact h6
      have hcl := hide (fun w' (hb : Below w.heap.size w w') => ih (half n) i d (path.take M) (some ⟨g, o, none⟩) c w' hlt ((hT.below hb).take M) (by omega) h2 (by omega) (by omega) hik hpm (fun p hp => h7 p (List.mem_of_mem_take hp)) h8)
      have hsn : climbP shaSum (plan n i) d path = knotS shaSum (climbP shaSum (plan (half n) i) d (path.take M)) (false, path[M]) := by
        conv => lhs; rw [hpt, hpl]
        exact climbP_snoc shaSum _ _ _ _ _ (by omega)
      rw [hsn]
      have hdl : (climbP shaSum (plan (half n) i) d (path.take M)).1.length = 32 := climbP_32 _ _ _ (by omega) h8
      have hTl : (climbP shaSum (plan (half n) i) d (path.take M)).2.length = M := by rw [climbP_len shaSum _ _ _ (by omega), hlt]
      have hMb : M ≤ 8 := by have := plan_length (half n) i 8 hik (by omega); omega
      generalize climbP shaSum (plan (half n) i) d (path.take M) = P at *
      obtain ⟨D, T⟩ := P
      simp only at hcl hdl hTl ⊢
      generalize hxx : path[M] = x at *
      show Calls _ _ _ _ fun e w' => ∃ v, e = .returned (.agg #[.string (bs (shaSum (knotT D x))), v]) ∧ OwnS w' w.heap.size v (T ++ [knotT D x]) ∧ _
      have kt := hide (fun w => rknotText_any D x w (by omega) (by omega))
      have ks := hide (fun w => rsum_t (knotT D x) w (by rw [knotT_len']; omega))
      have hTb : T.length ≤ 8 := by omega
      generalize bs x = X at *
      generalize bs d = B at *
      generalize knotT D x = KT at *
      clear hT hM hM1 hx32 hpt hlt hpl hpm hsn hdl h6 h7 h8 hxx ih hTl
      generalize bs (shaSum KT) = SK at *
      generalize half n = k at *
      unfold maxLen at h2
      have q1 : ((M : Int) + 1) ≤ c := by omega
      have q2 : (i : Int) < k := by omega
      go_enter Try.func50, Try.ntmps50
      go_wp2_with fail
      generalize hW : World.alloc _ _ = W
      have r0 : W.heap[w.heap.size]? = some (.cells #[.string ⟨#[]⟩, .slice none 0 0] 74 (0, 0)) := by rw [← hW]; exact heap_alloc_new _ _
      have b0 : Below w.heap.size w W := by rw [← hW]; exact (Below.refl _ _).alloc (Nat.le_refl _) _
      have hWs : W.heap.size = w.heap.size + 1 := by rw [← hW]; simp
      have y0 := cell_below hc0 b0
      have HWs := hide hWs
      have hcl' := hide (unhide hcl W b0)
      clear hW hcl hWs
      refine (unhide hh _).mono ?_
      rintro e w0 ⟨rfl, rfl⟩
      go_wp2_with fail
      refine (unhide hcl').mono ?_
      rintro e w1 ⟨v, rfl, ho, b1⟩
      obtain ⟨a1, c1, rfl⟩ := own_shapeN (show World.ownsRow _ _ _ _ _ _ _ from ho)
      have r1 : w1.heap[w.heap.size]? = some (.cells #[.string ⟨#[]⟩, .slice none 0 0] 74 (0, 0)) := (b1.block _ (lt_of_block r0)).trans r0
      have B1 := hide (b0.trans (b1.mono b0.size))
      have HO := hide (show World.ownsRow _ _ _ _ _ _ _ from ho)
      have hz1' := hide b1.size
      clear ho b1 b0 r0 y0 hc0 hcl'
      go_wp2_with fail
      generalize hV : World.alloc _ _ = V
      have r2 : V.heap[w1.heap.size]? = some (.cells #[.string (bs D), .slice a1 T.length c1] 74 (0, 0)) := by rw [← hV]; exact heap_alloc_new _ _
      have hWs := unhide HWs
      have hz1'' := unhide hz1'
      have bV : Below w1.heap.size w1 V := by rw [← hV]; exact (Below.refl _ _).alloc (Nat.le_refl _) _
      have hVs : V.heap.size = w1.heap.size + 1 := by rw [← hV]; simp
      have r2' : V.heap[w.heap.size]? = some (.cells #[.string ⟨#[]⟩, .slice none 0 0] 74 (0, 0)) := (bV.block _ (by omega)).trans r1
      have HOV := hide (own_below2 (unhide HO) bV)
      have BV := hide ((unhide B1).trans (bV.mono (unhide B1).size))
      have d1 := cell1_of_two r2
      have HVs := hide hVs
      clear hV bV r1 B1 hVs hWs hz1''
      refine (unhide kt _).mono ?_
      rintro e w0 ⟨rfl, rfl⟩
      go_wp2_with (at_builtin; refine wpList_append_own _ rfl _ _ 22 rfl W.heap.size 9 i0 (.string ⟨#[]⟩) 1 16 Try.undS hi0 hz0 hz1 hz2 rfl (by decide) _ _ _ rfl ((unhide HOV).alloc _) ⟨V.heap.size, 0, none⟩ 1 1 [.string (bs KT)] rfl rfl (news_one' _ _ _) ?d2 ?d3 ?d4 ?d5 ?_)
      case d2 => first | rfl | (intro u hu; simp at hu; subst hu; rfl)
      case d3 => first | (unfold maxLen; omega) | omega
      case d4 => omega
      case d5 => have := unhide HVs; have := unhide HWs; have := unhide hz1'; first | omega | (simp; done) | (simp; omega)
      intro v9 w9 hown9 hgrow9 _
      have hVs := unhide HVs
      have hWs := unhide HWs
      have hz1'' := unhide hz1'
      have n1 : (Value.slice a1 T.length c1).ownBlock ≠ some w1.heap.size := fun h => by have := ((unhide HO).lt _ h).2; omega
      have n2 : (Value.slice a1 T.length c1).ownBlock ≠ some w.heap.size := fun h => by have := ((unhide HO).lt _ h).1; omega
      have r3 : w9.heap[w1.heap.size]? = some (.cells #[.string (bs D), .slice a1 T.length c1] 74 (0, 0)) := by
        rw [hgrow9.block _ (by simp; omega) n1.symm, Below.heap_alloc _ _ _ (by omega)]
        exact r2
      have r3' : w9.heap[w.heap.size]? = some (.cells #[.string ⟨#[]⟩, .slice none 0 0] 74 (0, 0)) := by
        rw [hgrow9.block _ (by simp; omega) n2.symm, Below.heap_alloc _ _ _ (by omega)]
        exact r2'
      have B9 := hide (((unhide BV).alloc (by omega) (.cells #[.string (bs KT)] 9)).grown hgrow9 (by simp; omega) (fun q hq => by have := ((unhide HO).lt q hq).1; omega))
      obtain ⟨a9, c9, rfl⟩ := own_shapeN hown9
      have H9 : Hid (w9.ownsRow W.heap.size 9 1 (.slice a9 (T.length + 1) c9) (T.length + 1) (sc T ++ [.string (bs KT)])) := hown9
      have hle : w.heap.size < w1.heap.size := by omega
      clear hown9 hgrow9 HO HOV BV r2 r2' n1 n2 d1 hVs hz1''
      have HWs' := hide hWs
      clear hWs
      have c1' := cell1_of_two r3
      have f1' := free_of_two (j := 1) r3
      go_wp2_with fail
      generalize hU : World.setCell _ _ _ = U
      have r4 : U.heap[w1.heap.size]? = some (.cells #[.string (bs D), .slice a9 (T.length + 1) c9] 74 (0, 0)) := by rw [← hU]; exact set_row r3 1 _
      have r4' : U.heap[w.heap.size]? = some (.cells #[.string ⟨#[]⟩, .slice none 0 0] 74 (0, 0)) := by rw [← hU]; exact (Below.heap_setCell _ _ _ _ (by show w.heap.size ≠ w1.heap.size; omega)).trans r3'
      have H4 : Hid (U.ownsRow W.heap.size 9 1 (.slice a9 (T.length + 1) c9) (T.length + 1) (sc T ++ [.string (bs KT)])) := by rw [← hU]; exact own_set (unhide H9) r3 (by decide) _ rfl _
      have B4 : Hid (Below w.heap.size w U) := by rw [← hU]; exact (unhide B9).setCell (by show w.heap.size ≤ w1.heap.size; omega) _
      clear hU r3 r3' c1' f1' H9 B9
      refine (unhide ks _).mono ?_
      rintro e w5 ⟨rfl, b5⟩
      have r5 : w5.heap[w1.heap.size]? = some (.cells #[.string (bs D), .slice a9 (T.length + 1) c9] 74 (0, 0)) := (b5.block _ (lt_of_block r4)).trans r4
      have r5' : w5.heap[w.heap.size]? = some (.cells #[.string ⟨#[]⟩, .slice none 0 0] 74 (0, 0)) := (b5.block _ (lt_of_block r4')).trans r4'
      have H5 := hide (own_below2 (unhide H4) b5)
      have B5 := hide ((unhide B4).trans (b5.mono (unhide B4).size))
      have m0 := cell0_of_two r5
      have m1 := cell1_of_two r5
      have m2 := free_of_two (j := 0) r5
      have s0 := cell0_of_two r5'
      have s1 := cell1_of_two r5'
      have s2 := free_of_two (j := 0) r5'
      have s3 := free_of_two (j := 1) r5'
      have hne : w1.heap.size ≠ w.heap.size := by omega
      have hne' : w.heap.size ≠ w1.heap.size := by omega
      have R5 := hide r5
      have R5' := hide r5'
      clear r4 r4' H4 B4 b5 r5 r5'
      generalize hb1 : w1.heap.size = b1 at *
      go_wp2
      have row : (w5.setCell ⟨b1, 0, none⟩ (.string SK)).heap[w.heap.size]? = some (.cells #[.string ⟨#[]⟩, .slice none 0 0] 74 (0, 0)) := (Below.heap_setCell _ _ _ _ hne').trans (unhide R5')
      refine ret_cell rfl w.heap.size 74 #[.string SK, .slice a9 (T.length + 1) c9] (0, 0) _ rfl (set_row (set_row row 0 _) 1 _) rfl Try.underlying74 (by kernel_rfl) ⟨_, rfl, ?_, ?_⟩
      · show World.ownsRow _ _ _ _ _ _ _
        rw [sc_append, List.length_append, List.length_singleton]
        exact own_mono (own_set (own_set (own_set (unhide H5) (unhide R5) (by decide) ⟨b1, 0, none⟩ rfl _) row (by decide) ⟨w.heap.size, 0, none⟩ rfl _) (set_row row 0 _) (by decide) ⟨w.heap.size, 1, none⟩ rfl _) (by have := unhide HWs'; omega)
      · exact (((unhide B5).setCell (p := ⟨b1, 0, none⟩) (Nat.le_of_lt hle) _).setCell (p := ⟨w.heap.size, 0, none⟩) (Nat.le_refl _) _).setCell (p := ⟨w.heap.size, 1, none⟩) (Nat.le_refl _) _
    · have hpl := plan_right n i hn2 hik
      have hpm : M = (plan (n - half n) (i - half n)).length := by
        rw [hpl, List.length_append] at h6
        simp at h6
        exact h6
      have hcl := hide (fun w' (hb : Below w.heap.size w w') => ih (n - half n) (i - half n) d (path.take M) (some ⟨g, o, none⟩) c w' hlt ((hT.below hb).take M) (by omega) h2 (by omega) (by omega) (by omega) hpm (fun p hp => h7 p (List.mem_of_mem_take hp)) h8)
      have hsn : climbP shaSum (plan n i) d path = knotS shaSum (climbP shaSum (plan (n - half n) (i - half n)) d (path.take M)) (true, path[M]) := by
        conv => lhs; rw [hpt, hpl]
        exact climbP_snoc shaSum _ _ _ _ _ (by omega)
      rw [hsn]
      have hdl : (climbP shaSum (plan (n - half n) (i - half n)) d (path.take M)).1.length = 32 := climbP_32 _ _ _ (by omega) h8
      have hTl : (climbP shaSum (plan (n - half n) (i - half n)) d (path.take M)).2.length = M := by rw [climbP_len shaSum _ _ _ (by omega), hlt]
      have hMb : M ≤ 8 := by have := plan_length (n - half n) (i - half n) 8 (by omega) (by omega); omega
      generalize climbP shaSum (plan (n - half n) (i - half n)) d (path.take M) = P at *
      have e1 : (n : Int) - (half n : Nat) = ((n - half n : Nat) : Int) := by omega
      have e2 : (i : Int) - (half n : Nat) = ((i - half n : Nat) : Int) := by omega
      have e3 : n - half n ≤ 256 ∧ i - half n ≤ 256 := by omega
      generalize n - half n = n' at *
      generalize i - half n = i' at *
      obtain ⟨D, T⟩ := P
      simp only at hcl hdl hTl ⊢
      generalize hxx : path[M] = x at *
      show Calls _ _ _ _ fun e w' => ∃ v, e = .returned (.agg #[.string (bs (shaSum (knotT x D))), v]) ∧ OwnS w' w.heap.size v (T ++ [knotT x D]) ∧ _
      have kt := hide (fun w => rknotText_any x D w (by omega) (by omega))
      have ks := hide (fun w => rsum_t (knotT x D) w (by rw [knotT_len']; omega))
      have hTb : T.length ≤ 8 := by omega
      generalize bs x = X at *
      generalize bs d = B at *
      generalize knotT x D = KT at *
      clear hT hM hM1 hx32 hpt hlt hpl hpm hsn hdl h6 h7 h8 hxx ih hTl
      generalize bs (shaSum KT) = SK at *
      generalize half n = k at *
      unfold maxLen at h2
      have q1 : ((M : Int) + 1) ≤ c := by omega
      have q2 : ¬ (i : Int) < k := by omega
      go_enter Try.func50, Try.ntmps50
      go_wp2_with fail
      generalize hW : World.alloc _ _ = W
      have r0 : W.heap[w.heap.size]? = some (.cells #[.string ⟨#[]⟩, .slice none 0 0] 74 (0, 0)) := by rw [← hW]; exact heap_alloc_new _ _
      have b0 : Below w.heap.size w W := by rw [← hW]; exact (Below.refl _ _).alloc (Nat.le_refl _) _
      have hWs : W.heap.size = w.heap.size + 1 := by rw [← hW]; simp
      have y0 := cell_below hc0 b0
      have HWs := hide hWs
      have hcl' := hide (unhide hcl W b0)
      clear hW hcl hWs
      refine (unhide hh _).mono ?_
      rintro e w0 ⟨rfl, rfl⟩
      go_wp2_with fail
      refine (unhide hcl').mono ?_
      rintro e w1 ⟨v, rfl, ho, b1⟩
      obtain ⟨a1, c1, rfl⟩ := own_shapeN (show World.ownsRow _ _ _ _ _ _ _ from ho)
      have r1 : w1.heap[w.heap.size]? = some (.cells #[.string ⟨#[]⟩, .slice none 0 0] 74 (0, 0)) := (b1.block _ (lt_of_block r0)).trans r0
      have B1 := hide (b0.trans (b1.mono b0.size))
      have HO := hide (show World.ownsRow _ _ _ _ _ _ _ from ho)
      have hz1' := hide b1.size
      clear ho b1 b0 r0 y0 hc0 hcl'
      go_wp2_with fail
      generalize hV : World.alloc _ _ = V
      have r2 : V.heap[w1.heap.size]? = some (.cells #[.string (bs D), .slice a1 T.length c1] 74 (0, 0)) := by rw [← hV]; exact heap_alloc_new _ _
      have hWs := unhide HWs
      have hz1'' := unhide hz1'
      have bV : Below w1.heap.size w1 V := by rw [← hV]; exact (Below.refl _ _).alloc (Nat.le_refl _) _
      have hVs : V.heap.size = w1.heap.size + 1 := by rw [← hV]; simp
      have r2' : V.heap[w.heap.size]? = some (.cells #[.string ⟨#[]⟩, .slice none 0 0] 74 (0, 0)) := (bV.block _ (by omega)).trans r1
      have HOV := hide (own_below2 (unhide HO) bV)
      have BV := hide ((unhide B1).trans (bV.mono (unhide B1).size))
      have d1 := cell1_of_two r2
      have HVs := hide hVs
      clear hV bV r1 B1 hVs hWs hz1''
      refine (unhide kt _).mono ?_
      rintro e w0 ⟨rfl, rfl⟩
      go_wp2_with (at_builtin; refine wpList_append_own _ rfl _ _ 22 rfl W.heap.size 9 i0 (.string ⟨#[]⟩) 1 16 Try.undS hi0 hz0 hz1 hz2 rfl (by decide) _ _ _ rfl ((unhide HOV).alloc _) ⟨V.heap.size, 0, none⟩ 1 1 [.string (bs KT)] rfl rfl (news_one' _ _ _) ?d2 ?d3 ?d4 ?d5 ?_)
      case d2 => first | rfl | (intro u hu; simp at hu; subst hu; rfl)
      case d3 => first | (unfold maxLen; omega) | omega
      case d4 => omega
      case d5 => have := unhide HVs; have := unhide HWs; have := unhide hz1'; first | omega | (simp; done) | (simp; omega)
      intro v9 w9 hown9 hgrow9 _
      have hVs := unhide HVs
      have hWs := unhide HWs
      have hz1'' := unhide hz1'
      have n1 : (Value.slice a1 T.length c1).ownBlock ≠ some w1.heap.size := fun h => by have := ((unhide HO).lt _ h).2; omega
      have n2 : (Value.slice a1 T.length c1).ownBlock ≠ some w.heap.size := fun h => by have := ((unhide HO).lt _ h).1; omega
      have r3 : w9.heap[w1.heap.size]? = some (.cells #[.string (bs D), .slice a1 T.length c1] 74 (0, 0)) := by
        rw [hgrow9.block _ (by simp; omega) n1.symm, Below.heap_alloc _ _ _ (by omega)]
        exact r2
      have r3' : w9.heap[w.heap.size]? = some (.cells #[.string ⟨#[]⟩, .slice none 0 0] 74 (0, 0)) := by
        rw [hgrow9.block _ (by simp; omega) n2.symm, Below.heap_alloc _ _ _ (by omega)]
        exact r2'
      have B9 := hide (((unhide BV).alloc (by omega) (.cells #[.string (bs KT)] 9)).grown hgrow9 (by simp; omega) (fun q hq => by have := ((unhide HO).lt q hq).1; omega))
      obtain ⟨a9, c9, rfl⟩ := own_shapeN hown9
      have H9 : Hid (w9.ownsRow W.heap.size 9 1 (.slice a9 (T.length + 1) c9) (T.length + 1) (sc T ++ [.string (bs KT)])) := hown9
      have hle : w.heap.size < w1.heap.size := by omega
      clear hown9 hgrow9 HO HOV BV r2 r2' n1 n2 d1 hVs hz1''
      have HWs' := hide hWs
      clear hWs
      have c1' := cell1_of_two r3
      have f1' := free_of_two (j := 1) r3
      go_wp2_with fail
      generalize hU : World.setCell _ _ _ = U
      have r4 : U.heap[w1.heap.size]? = some (.cells #[.string (bs D), .slice a9 (T.length + 1) c9] 74 (0, 0)) := by rw [← hU]; exact set_row r3 1 _
      have r4' : U.heap[w.heap.size]? = some (.cells #[.string ⟨#[]⟩, .slice none 0 0] 74 (0, 0)) := by rw [← hU]; exact (Below.heap_setCell _ _ _ _ (by show w.heap.size ≠ w1.heap.size; omega)).trans r3'
      have H4 : Hid (U.ownsRow W.heap.size 9 1 (.slice a9 (T.length + 1) c9) (T.length + 1) (sc T ++ [.string (bs KT)])) := by rw [← hU]; exact own_set (unhide H9) r3 (by decide) _ rfl _
      have B4 : Hid (Below w.heap.size w U) := by rw [← hU]; exact (unhide B9).setCell (by show w.heap.size ≤ w1.heap.size; omega) _
      clear hU r3 r3' c1' f1' H9 B9
      refine (unhide ks _).mono ?_
      rintro e w5 ⟨rfl, b5⟩
      have r5 : w5.heap[w1.heap.size]? = some (.cells #[.string (bs D), .slice a9 (T.length + 1) c9] 74 (0, 0)) := (b5.block _ (lt_of_block r4)).trans r4
      have r5' : w5.heap[w.heap.size]? = some (.cells #[.string ⟨#[]⟩, .slice none 0 0] 74 (0, 0)) := (b5.block _ (lt_of_block r4')).trans r4'
      have H5 := hide (own_below2 (unhide H4) b5)
      have B5 := hide ((unhide B4).trans (b5.mono (unhide B4).size))
      have m0 := cell0_of_two r5
      have m1 := cell1_of_two r5
      have m2 := free_of_two (j := 0) r5
      have s0 := cell0_of_two r5'
      have s1 := cell1_of_two r5'
      have s2 := free_of_two (j := 0) r5'
      have s3 := free_of_two (j := 1) r5'
      have hne : w1.heap.size ≠ w.heap.size := by omega
      have hne' : w.heap.size ≠ w1.heap.size := by omega
      have R5 := hide r5
      have R5' := hide r5'
      clear r4 r4' H4 B4 b5 r5 r5'
      generalize hb1 : w1.heap.size = b1 at *
      go_wp2
      have row : (w5.setCell ⟨b1, 0, none⟩ (.string SK)).heap[w.heap.size]? = some (.cells #[.string ⟨#[]⟩, .slice none 0 0] 74 (0, 0)) := (Below.heap_setCell _ _ _ _ hne').trans (unhide R5')
      refine ret_cell rfl w.heap.size 74 #[.string SK, .slice a9 (T.length + 1) c9] (0, 0) _ rfl (set_row (set_row row 0 _) 1 _) rfl Try.underlying74 (by kernel_rfl) ⟨_, rfl, ?_, ?_⟩
      · show World.ownsRow _ _ _ _ _ _ _
        rw [sc_append, List.length_append, List.length_singleton]
        exact own_mono (own_set (own_set (own_set (unhide H5) (unhide R5) (by decide) ⟨b1, 0, none⟩ rfl _) row (by decide) ⟨w.heap.size, 0, none⟩ rfl _) (set_row row 0 _) (by decide) ⟨w.heap.size, 1, none⟩ rfl _) (by have := unhide HWs'; omega)
      · exact (((unhide B5).setCell (p := ⟨b1, 0, none⟩) (Nat.le_of_lt hle) _).setCell (p := ⟨w.heap.size, 0, none⟩) (Nat.le_refl _) _).setCell (p := ⟨w.heap.size, 1, none⟩) (Nat.le_refl _) _

end Go.Proofs.Ytiaohpkcncbdnaa

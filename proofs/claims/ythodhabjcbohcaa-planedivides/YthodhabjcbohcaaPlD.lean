/- What the law PlaneDivides does, whatever the world: it answers true and changes nothing that was there. -/
import Derived.Test.YthodhabjcbohcaaPlZ
namespace Go.Proofs.Ythodhabjcbohcaa
open Go.RowKit
set_option linter.unusedVariables false

theorem zero_div (w : World) : (zeroValue 54).run Try.prog w = .ok (.agg #[.int .i64 0, .int .i64 0, .int .i64 0, .int .i64 0, .int .i64 0]) w := by kernel_rfl
theorem five_one (x y z u v : Int) : (#[Value.int .i64 x, Value.int .i64 y, Value.int .i64 z, Value.int .i64 u, Value.int .i64 v].all fun v => v.oneCell') = true := by simp [Value.oneCell']
theorem gb_five {w : World} {b : Nat} {p q r s z : Value} {t : TypeId} (h : Five w b p q r s z t) (X : Gb w) : Five X.w b p q r s z t := h.up X.ok
theorem nrm_lim (x y : Int) : -1 ≤ nrmA x y ∧ nrmA x y ≤ 2199023255552 := by
  unfold nrmA
  split
  · rename_i h
    obtain ⟨⟨a1, a2⟩, a3, a4⟩ := okP_t h
    have m1 := abs_mul_le (n := 1048576) (m := 1048576) (show x.natAbs ≤ _ by omega) (show x.natAbs ≤ _ by omega)
    have m2 := abs_mul_le (n := 1048576) (m := 1048576) (show y.natAbs ≤ _ by omega) (show y.natAbs ≤ _ by omega)
    have := sq_nonneg x
    have := sq_nonneg y
    omega
  · omega

set_option maxRecDepth 100000 in
set_option maxHeartbeats 1000000 in
theorem divides_yes (a b c d x y u v N1 N2 : Int) (w : World) (h0 : ∀ w, Calls Try.prog 28 #[rv a b, rv c d] w fun e w' => e = .returned (quoV x y u v 0) ∧ Below w.heap.size w w') (h1 : ∀ w, Calls Try.prog 29 #[rv a b, rv c d] w fun e w' => e = .returned (divV x y u v 0) ∧ Below w.heap.size w w') (n1 : ∀ w, Calls Try.prog 19 #[rv u v] w fun e w' => e = .returned (.int .i64 N1) ∧ Below w.heap.size w w') (n2 : ∀ w, Calls Try.prog 19 #[rv c d] w fun e w' => e = .returned (.int .i64 N2) ∧ Below w.heap.size w w') (hle : 2 * N1 ≤ N2) (l1 : -1 ≤ N1 ∧ N1 ≤ 2199023255552) (l2 : -1 ≤ N2 ∧ N2 ≤ 2199023255552) :
    Calls Try.prog 6 #[rv a b, rv c d] w fun e w' => e = .returned (.bool true) ∧ Below w.heap.size w w' := by
  have H0 := hide h0
  have H1 := hide h1
  have M1 := hide n1
  have M2 := hide n2
  have Ra := hide (fun w => ref_any a b w)
  have Rc := hide (fun w => ref_any c d w)
  have Rx := hide (fun w => ref_any x y w)
  have Ru := hide (fun w => ref_any u v w)
  clear h0 h1 n1 n2
  unfold quoV divV at *
  unfold rv at *
  have t0 := (two_alloc w (.int .i64 a) (.int .i64 b) 23).alloc (.cells #[.int .i64 c, .int .i64 d] 23)
  have T0 := hide t0
  have e1 : (w.alloc (.cells #[.int .i64 a, .int .i64 b] 23)).heap.size = w.heap.size + 1 := by simp
  have t1 := two_alloc (w.alloc (.cells #[.int .i64 a, .int .i64 b] 23)) (.int .i64 c) (.int .i64 d) 23
  rw [e1] at t1
  have T1 := hide t1
  have BB : Hid (Below w.heap.size w ((w.alloc (.cells #[.int .i64 a, .int .i64 b] 23)).alloc (.cells #[.int .i64 c, .int .i64 d] 23))) := (((Below.refl _ _).alloc (by first | exact Nat.le_refl _ | (simp; done) | (simp; omega)) _).alloc (by first | exact Nat.le_refl _ | (simp; done) | (simp; omega)) _)
  clear t0 t1 e1
  go_enter Try.func6, Try.ntmps6
  have fT00 := (unhide T0).c0
  have fT01 := (unhide T0).c1
  have fT10 := (unhide T1).c0
  have fT11 := (unhide T1).c1
  go_wp2_with fail
  clear fT00 fT01 fT10 fT11
  refine (unhide H0 _).mono ?_
  rintro e w1 ⟨rfl, b1⟩
  have e1 : (w1.alloc (.cells #[.int .i64 x, .int .i64 y] 23)).heap.size = w1.heap.size + 1 := by simp
  have new := hide ((two_alloc w1 (.int .i64 x) (.int .i64 y) 23).alloc (.cells #[.int .i64 u, .int .i64 v] 23))
  have new2 := two_alloc (w1.alloc (.cells #[.int .i64 x, .int .i64 y] 23)) (.int .i64 u) (.int .i64 v) 23
  rw [e1] at new2
  have T0n := hide ((((unhide T0).up b1).alloc (.cells #[.int .i64 x, .int .i64 y] 23)).alloc (.cells #[.int .i64 u, .int .i64 v] 23))
  have T1n := hide ((((unhide T1).up b1).alloc (.cells #[.int .i64 x, .int .i64 y] 23)).alloc (.cells #[.int .i64 u, .int .i64 v] 23))
  have BBn : Hid (Below w.heap.size w ((w1.alloc (.cells #[.int .i64 x, .int .i64 y] 23)).alloc (.cells #[.int .i64 u, .int .i64 v] 23))) := by
    have := (unhide BB).trans (b1.mono (unhide BB).size)
    exact (this.alloc this.size _).alloc (by have := this.size; simp; omega) _
  clear BB T0 T1 b1 e1
  have T0 := T0n
  have T1 := T1n
  have BB := BBn
  have S0 := new
  have S1 := hide new2
  clear T0n T1n BBn new new2
  go_wp2_with fail
  generalize (w1.alloc (.cells #[.int .i64 x, .int .i64 y] 23)).alloc (.cells #[.int .i64 u, .int .i64 v] 23) = W at *
  generalize w1.heap.size = s0 at *
  refine wp_region_box 5 6 8 20 54 #[.int .i64 0, .int .i64 0, .int .i64 0, .int .i64 0, .int .i64 0] #[.int .i64 x, .int .i64 y, .int .i64 u, .int .i64 v, .int .i64 0] ?A1 (by omega) (by omega) (by kernel_rfl) (by kernel_rfl) (by kernel_rfl) (by kernel_rfl) zero_div rfl (by kernel_rfl) (five_one _ _ _ _ _) ?lex1 ?hq1 ?_
  case lex1 =>
    intro X
    have p00 : ∀ x : Gb X.w, _ := fun x => (gb_two (gb_two (unhide T0) X) x).c0
    have p01 : ∀ x : Gb X.w, _ := fun x => (gb_two (gb_two (unhide T0) X) x).c1
    have p10 : ∀ x : Gb X.w, _ := fun x => (gb_two (gb_two (unhide T1) X) x).c0
    have p11 : ∀ x : Gb X.w, _ := fun x => (gb_two (gb_two (unhide T1) X) x).c1
    have hne := gb_ne X.w
    dsimp only [boxRest, List.eraseIdx_cons_succ, List.eraseIdx_cons_zero]
    iterate 2 (go_big_quiet_step ((go_at_call 13; exact gb_call (unhide Ra _))))
    iterate 2 (go_big_quiet_step ((go_at_call 13; exact gb_call (unhide Rc _))))
    repeat (go_big_quiet_step ((go_at_call 29; exact gb_call (unhide H1 _))))
    refine wpQuiet_nil ?_
    exact rfl
  case hq1 => exact rfl
  intro g w2 b2 hu tu
  simp only [Act.put, List.setIfInBounds_toArray, List.set_cons_succ, List.set_cons_zero]
  have D0 : Hid (Five w2 g (.int .i64 x) (.int .i64 y) (.int .i64 u) (.int .i64 v) (.int .i64 0) 54) := tu
  have T0n := hide ((unhide T0).up b2)
  have T1n := hide ((unhide T1).up b2)
  have S0n := hide ((unhide S0).up b2)
  have S1n := hide ((unhide S1).up b2)
  have BBn := hide ((unhide BB).trans (b2.mono (unhide BB).size))
  clear BB T0 T1 S0 S1
  have T0 := T0n
  have T1 := T1n
  have S0 := S0n
  have S1 := S1n
  have BB := BBn
  clear BBn T0n T1n S0n S1n
  clear hu tu b2
  go_wp2_with fail
  have pS00 : ∀ x : Gb w2, _ := fun x => (gb_two (unhide S0) x).c0
  have pS01 : ∀ x : Gb w2, _ := fun x => (gb_two (unhide S0) x).c1
  have pS10 : ∀ x : Gb w2, _ := fun x => (gb_two (unhide S1) x).c0
  have pS11 : ∀ x : Gb w2, _ := fun x => (gb_two (unhide S1) x).c1
  have d0 : ∀ x : Gb w2, _ := fun x => (gb_five (unhide D0) x).c0
  have d1 : ∀ x : Gb w2, _ := fun x => (gb_five (unhide D0) x).c1
  have d2 : ∀ x : Gb w2, _ := fun x => (gb_five (unhide D0) x).c2
  have d3 : ∀ x : Gb w2, _ := fun x => (gb_five (unhide D0) x).c3
  have d4 : ∀ x : Gb w2, _ := fun x => (gb_five (unhide D0) x).c4
  have hne := gb_ne w2
  refine wp_region_grB (by kernel_rfl) (by kernel_rfl) ?_
  iterate 6 (go_big_quiet_step ((go_at_call 13; exact gb_call (unhide Rx _))))
  repeat (go_big_quiet_step ((go_at_call 13; exact gb_call (unhide Ru _))))
  refine wpQuiet_nil ?_
  rintro w7 ⟨⟨_, b7⟩, rfl⟩
  clear hne pS00 pS01 pS10 pS11 d0 d1 d2 d3 d4 D0
  have T0n := hide ((unhide T0).up b7)
  have T1n := hide ((unhide T1).up b7)
  have S0n := hide ((unhide S0).up b7)
  have S1n := hide ((unhide S1).up b7)
  have BBn := hide ((unhide BB).trans (b7.mono (unhide BB).size))
  clear BB T0 T1 S0 S1
  have T0 := T0n
  have T1 := T1n
  have S0 := S0n
  have S1 := S1n
  have BB := BBn
  clear BBn T0n T1n S0n S1n
  clear b7
  go_wp2_with fail
  have pS10 : ∀ x : Gb w7, _ := fun x => (gb_two (unhide S1) x).c0
  have pS11 : ∀ x : Gb w7, _ := fun x => (gb_two (unhide S1) x).c1
  have pT10 : ∀ x : Gb w7, _ := fun x => (gb_two (unhide T1) x).c0
  have pT11 : ∀ x : Gb w7, _ := fun x => (gb_two (unhide T1) x).c1
  have hne := gb_ne w7
  refine wp_region_grB (by kernel_rfl) (by kernel_rfl) ?_
  iterate 7 (go_big_quiet_step ((first | (go_at_call 16; exact gb_call (awake_any _)) | (go_at_call 19; exact gb_call (unhide M1 _)))))
  repeat (go_big_quiet_step ((first | (go_at_call 19; exact gb_call (unhide M2 _)))))
  refine wpQuiet_nil ?_
  rintro w7 ⟨⟨_, b7⟩, rfl⟩
  clear hne pS10 pS11 pT10 pT11
  have T0n := hide ((unhide T0).up b7)
  have T1n := hide ((unhide T1).up b7)
  have S0n := hide ((unhide S0).up b7)
  have S1n := hide ((unhide S1).up b7)
  have BBn := hide ((unhide BB).trans (b7.mono (unhide BB).size))
  clear BB T0 T1 S0 S1
  have T0 := T0n
  have T1 := T1n
  have S0 := S0n
  have S1 := S1n
  have BB := BBn
  clear BBn T0n T1n S0n S1n
  clear b7
  go_wp2
  go_ret
  exact ⟨rfl, unhide BB⟩

set_option maxRecDepth 100000 in
set_option maxHeartbeats 1000000 in
theorem divides_no (a b c d x y u v N1 N2 : Int) (w : World) (h0 : ∀ w, Calls Try.prog 28 #[rv a b, rv c d] w fun e w' => e = .returned (quoV x y u v 1) ∧ Below w.heap.size w w') (h1 : ∀ w, Calls Try.prog 29 #[rv a b, rv c d] w fun e w' => e = .returned (divV x y u v 1) ∧ Below w.heap.size w w') (n1 : ∀ w, Calls Try.prog 19 #[rv u v] w fun e w' => e = .returned (.int .i64 N1) ∧ Below w.heap.size w w') (n2 : ∀ w, Calls Try.prog 19 #[rv c d] w fun e w' => e = .returned (.int .i64 N2) ∧ Below w.heap.size w w') :
    Calls Try.prog 6 #[rv a b, rv c d] w fun e w' => e = .returned (.bool true) ∧ Below w.heap.size w w' := by
  have H0 := hide h0
  have H1 := hide h1
  have M1 := hide n1
  have M2 := hide n2
  have Ra := hide (fun w => ref_any a b w)
  have Rc := hide (fun w => ref_any c d w)
  have Rx := hide (fun w => ref_any x y w)
  have Ru := hide (fun w => ref_any u v w)
  clear h0 h1 n1 n2
  unfold quoV divV at *
  unfold rv at *
  have t0 := (two_alloc w (.int .i64 a) (.int .i64 b) 23).alloc (.cells #[.int .i64 c, .int .i64 d] 23)
  have T0 := hide t0
  have e1 : (w.alloc (.cells #[.int .i64 a, .int .i64 b] 23)).heap.size = w.heap.size + 1 := by simp
  have t1 := two_alloc (w.alloc (.cells #[.int .i64 a, .int .i64 b] 23)) (.int .i64 c) (.int .i64 d) 23
  rw [e1] at t1
  have T1 := hide t1
  have BB : Hid (Below w.heap.size w ((w.alloc (.cells #[.int .i64 a, .int .i64 b] 23)).alloc (.cells #[.int .i64 c, .int .i64 d] 23))) := (((Below.refl _ _).alloc (by first | exact Nat.le_refl _ | (simp; done) | (simp; omega)) _).alloc (by first | exact Nat.le_refl _ | (simp; done) | (simp; omega)) _)
  clear t0 t1 e1
  go_enter Try.func6, Try.ntmps6
  have fT00 := (unhide T0).c0
  have fT01 := (unhide T0).c1
  have fT10 := (unhide T1).c0
  have fT11 := (unhide T1).c1
  go_wp2_with fail
  clear fT00 fT01 fT10 fT11
  refine (unhide H0 _).mono ?_
  rintro e w1 ⟨rfl, b1⟩
  have e1 : (w1.alloc (.cells #[.int .i64 x, .int .i64 y] 23)).heap.size = w1.heap.size + 1 := by simp
  have new := hide ((two_alloc w1 (.int .i64 x) (.int .i64 y) 23).alloc (.cells #[.int .i64 u, .int .i64 v] 23))
  have new2 := two_alloc (w1.alloc (.cells #[.int .i64 x, .int .i64 y] 23)) (.int .i64 u) (.int .i64 v) 23
  rw [e1] at new2
  have T0n := hide ((((unhide T0).up b1).alloc (.cells #[.int .i64 x, .int .i64 y] 23)).alloc (.cells #[.int .i64 u, .int .i64 v] 23))
  have T1n := hide ((((unhide T1).up b1).alloc (.cells #[.int .i64 x, .int .i64 y] 23)).alloc (.cells #[.int .i64 u, .int .i64 v] 23))
  have BBn : Hid (Below w.heap.size w ((w1.alloc (.cells #[.int .i64 x, .int .i64 y] 23)).alloc (.cells #[.int .i64 u, .int .i64 v] 23))) := by
    have := (unhide BB).trans (b1.mono (unhide BB).size)
    exact (this.alloc this.size _).alloc (by have := this.size; simp; omega) _
  clear BB T0 T1 b1 e1
  have T0 := T0n
  have T1 := T1n
  have BB := BBn
  have S0 := new
  have S1 := hide new2
  clear T0n T1n BBn new new2
  go_wp2_with fail
  generalize (w1.alloc (.cells #[.int .i64 x, .int .i64 y] 23)).alloc (.cells #[.int .i64 u, .int .i64 v] 23) = W at *
  generalize w1.heap.size = s0 at *
  refine wp_region_box 5 6 8 20 54 #[.int .i64 0, .int .i64 0, .int .i64 0, .int .i64 0, .int .i64 0] #[.int .i64 x, .int .i64 y, .int .i64 u, .int .i64 v, .int .i64 1] ?A1 (by omega) (by omega) (by kernel_rfl) (by kernel_rfl) (by kernel_rfl) (by kernel_rfl) zero_div rfl (by kernel_rfl) (five_one _ _ _ _ _) ?lex1 ?hq1 ?_
  case lex1 =>
    intro X
    have p00 : ∀ x : Gb X.w, _ := fun x => (gb_two (gb_two (unhide T0) X) x).c0
    have p01 : ∀ x : Gb X.w, _ := fun x => (gb_two (gb_two (unhide T0) X) x).c1
    have p10 : ∀ x : Gb X.w, _ := fun x => (gb_two (gb_two (unhide T1) X) x).c0
    have p11 : ∀ x : Gb X.w, _ := fun x => (gb_two (gb_two (unhide T1) X) x).c1
    have hne := gb_ne X.w
    dsimp only [boxRest, List.eraseIdx_cons_succ, List.eraseIdx_cons_zero]
    iterate 2 (go_big_quiet_step ((go_at_call 13; exact gb_call (unhide Ra _))))
    iterate 2 (go_big_quiet_step ((go_at_call 13; exact gb_call (unhide Rc _))))
    repeat (go_big_quiet_step ((go_at_call 29; exact gb_call (unhide H1 _))))
    refine wpQuiet_nil ?_
    exact rfl
  case hq1 => exact rfl
  intro g w2 b2 hu tu
  simp only [Act.put, List.setIfInBounds_toArray, List.set_cons_succ, List.set_cons_zero]
  have D0 : Hid (Five w2 g (.int .i64 x) (.int .i64 y) (.int .i64 u) (.int .i64 v) (.int .i64 1) 54) := tu
  have T0n := hide ((unhide T0).up b2)
  have T1n := hide ((unhide T1).up b2)
  have S0n := hide ((unhide S0).up b2)
  have S1n := hide ((unhide S1).up b2)
  have BBn := hide ((unhide BB).trans (b2.mono (unhide BB).size))
  clear BB T0 T1 S0 S1
  have T0 := T0n
  have T1 := T1n
  have S0 := S0n
  have S1 := S1n
  have BB := BBn
  clear BBn T0n T1n S0n S1n
  clear hu tu b2
  go_wp2_with fail
  have pS00 : ∀ x : Gb w2, _ := fun x => (gb_two (unhide S0) x).c0
  have pS01 : ∀ x : Gb w2, _ := fun x => (gb_two (unhide S0) x).c1
  have pS10 : ∀ x : Gb w2, _ := fun x => (gb_two (unhide S1) x).c0
  have pS11 : ∀ x : Gb w2, _ := fun x => (gb_two (unhide S1) x).c1
  have d0 : ∀ x : Gb w2, _ := fun x => (gb_five (unhide D0) x).c0
  have d1 : ∀ x : Gb w2, _ := fun x => (gb_five (unhide D0) x).c1
  have d2 : ∀ x : Gb w2, _ := fun x => (gb_five (unhide D0) x).c2
  have d3 : ∀ x : Gb w2, _ := fun x => (gb_five (unhide D0) x).c3
  have d4 : ∀ x : Gb w2, _ := fun x => (gb_five (unhide D0) x).c4
  have hne := gb_ne w2
  refine wp_region_grB (by kernel_rfl) (by kernel_rfl) ?_
  iterate 6 (go_big_quiet_step ((go_at_call 13; exact gb_call (unhide Rx _))))
  repeat (go_big_quiet_step ((go_at_call 13; exact gb_call (unhide Ru _))))
  refine wpQuiet_nil ?_
  rintro w7 ⟨⟨_, b7⟩, rfl⟩
  clear hne pS00 pS01 pS10 pS11 d0 d1 d2 d3 d4 D0
  have T0n := hide ((unhide T0).up b7)
  have T1n := hide ((unhide T1).up b7)
  have S0n := hide ((unhide S0).up b7)
  have S1n := hide ((unhide S1).up b7)
  have BBn := hide ((unhide BB).trans (b7.mono (unhide BB).size))
  clear BB T0 T1 S0 S1
  have T0 := T0n
  have T1 := T1n
  have S0 := S0n
  have S1 := S1n
  have BB := BBn
  clear BBn T0n T1n S0n S1n
  clear b7
  go_wp2_with fail
  have pS10 : ∀ x : Gb w7, _ := fun x => (gb_two (unhide S1) x).c0
  have pS11 : ∀ x : Gb w7, _ := fun x => (gb_two (unhide S1) x).c1
  have pT10 : ∀ x : Gb w7, _ := fun x => (gb_two (unhide T1) x).c0
  have pT11 : ∀ x : Gb w7, _ := fun x => (gb_two (unhide T1) x).c1
  have hne := gb_ne w7
  refine wp_region_grB (by kernel_rfl) (by kernel_rfl) ?_
  repeat (go_big_quiet_step ((first | (go_at_call 16; exact gb_call (awake_any _)))))
  refine wpQuiet_nil ?_
  rintro w7 ⟨⟨_, b7⟩, rfl⟩
  clear hne pS10 pS11 pT10 pT11
  have T0n := hide ((unhide T0).up b7)
  have T1n := hide ((unhide T1).up b7)
  have S0n := hide ((unhide S0).up b7)
  have S1n := hide ((unhide S1).up b7)
  have BBn := hide ((unhide BB).trans (b7.mono (unhide BB).size))
  clear BB T0 T1 S0 S1
  have T0 := T0n
  have T1 := T1n
  have S0 := S0n
  have S1 := S1n
  have BB := BBn
  clear BBn T0n T1n S0n S1n
  clear b7
  go_wp2
  go_ret
  exact ⟨rfl, unhide BB⟩

theorem planeDivides_any (a b c d : Int) (w : World) (wa : (Lit.int .i64 a).wf = true) (wb : (Lit.int .i64 b).wf = true) (wc : (Lit.int .i64 c).wf = true) (wd : (Lit.int .i64 d).wf = true) :
    Calls Try.prog 6 #[rv a b, rv c d] w fun e w' => e = .returned (.bool true) ∧ Below w.heap.size w w' := by
  cases h : okP a b
  · exact divides_no a b c d 0 0 0 0 _ _ w (fun w => quo_bad1 a b c d w h) (fun w => dquo_bad1 a b c d w h) (fun w => nrm_any 0 0 w) (fun w => nrm_any c d w)
  · cases h' : okP c d
    · exact divides_no a b c d 0 0 0 0 _ _ w (fun w => quo_bad2 a b c d w h h') (fun w => dquo_bad2 a b c d w h h') (fun w => nrm_any 0 0 w) (fun w => nrm_any c d w)
    · by_cases hz : c = 0 ∧ d = 0
      · obtain ⟨rfl, rfl⟩ := hz
        exact divides_no a b 0 0 0 0 0 0 _ _ w (fun w => quo_bad3 a b w h) (fun w => dquo_bad3 a b 0 0 w h rfl rfl) (fun w => nrm_any 0 0 w) (fun w => nrm_any 0 0 w)
      · have hr := rest_le a b c d hz
        have hnc : nrmA c d = c * c + d * d := by unfold nrmA; rw [if_pos h']
        refine divides_yes a b c d _ _ _ _ _ _ w (fun w => ?_) (fun w => dquo_good a b c d w h h' hz) (fun w => nrm_any _ _ w) (fun w => nrm_any c d w) ?_ (nrm_lim _ _) (nrm_lim _ _)
        · by_cases hc : c = 0
          · subst hc
            exact quo_good2 a b d w h h' hz (fun hd => hz ⟨rfl, hd⟩)
          · exact quo_good1 a b c d w h h' hz hc
        · have hp := norm_pos hz
          rw [hnc]
          unfold nrmA
          split
          · exact hr
          · omega

end Go.Proofs.Ythodhabjcbohcaa

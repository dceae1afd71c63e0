/- What the law PlaneReckons does, whatever the world: it answers true and changes nothing that was there. -/
import Derived.Test.YthodhabjcbohcaaPlH
namespace Go.Proofs.Ythodhabjcbohcaa
open Go.RowKit
set_option linter.unusedVariables false

theorem zero_ref (w : World) : (zeroValue 27).run Try.prog w = .ok (.agg #[.int .i64 0, .int .i64 0]) w := by kernel_rfl

set_option maxRecDepth 100000 in
set_option maxHeartbeats 4000000 in
theorem planeReckons_any (a b c d : Int) (w : World) (wa : (Lit.int .i64 a).wf = true) (wb : (Lit.int .i64 b).wf = true) (wc : (Lit.int .i64 c).wf = true) (wd : (Lit.int .i64 d).wf = true) :
    Calls Try.prog 3 #[rv a b, rv c d] w fun e w' => e = .returned (.bool true) ∧ Below w.heap.size w w' := by
  clear wa wb wc wd
  have hx := fun w => ref_any a b w
  have hy := fun w => ref_any c d w
  have hc1 := fun w => check_any a b w
  have hc2 := fun w => dcheck_any a b w
  have hn1 := fun w => nrm_any a b w
  have hn2 := fun w => dnrm_any a b w
  have hd1 := fun w => dist_any a b c d w
  have hd2 := fun w => ddist_any a b c d w
  generalize okP a b = OK at *
  generalize nrmA a b = NR at *
  generalize distA a b c d = DI at *
  have hp0 := fun w => add_any a b c d w
  have hr0 := fun w => dadd_any a b c d w
  have hp1 := fun w => sub_any a b c d w
  have hr1 := fun w => dsub_any a b c d w
  have hp2 := fun w => mul_any a b c d w
  have hr2 := fun w => dmul_any a b c d w
  generalize addA a b c d = R0 at *
  obtain ⟨x0, y0, z0⟩ := R0
  have hl0 := fun w => ref_any x0 y0 w
  generalize subA a b c d = R1 at *
  obtain ⟨x1, y1, z1⟩ := R1
  have hl1 := fun w => ref_any x1 y1 w
  generalize mulA a b c d = R2 at *
  obtain ⟨x2, y2, z2⟩ := R2
  have hl2 := fun w => ref_any x2 y2 w
  simp only [rvE, rv] at hx hy hc1 hc2 hn1 hn2 hd1 hd2 hp0 hr0 hl0 hp1 hr1 hl1 hp2 hr2 hl2 ⊢
  have Hx := hide hx
  have Hy := hide hy
  have Hc1 := hide hc1
  have Hc2 := hide hc2
  have Hn1 := hide hn1
  have Hn2 := hide hn2
  have Hd1 := hide hd1
  have Hd2 := hide hd2
  have Hp0 := hide hp0
  have Hr0 := hide hr0
  have Hl0 := hide hl0
  have Hp1 := hide hp1
  have Hr1 := hide hr1
  have Hl1 := hide hl1
  have Hp2 := hide hp2
  have Hr2 := hide hr2
  have Hl2 := hide hl2
  clear hx hy hc1 hc2 hn1 hn2 hd1 hd2 hp0 hr0 hl0 hp1 hr1 hl1 hp2 hr2 hl2
  have t0 := (two_alloc w (.int .i64 a) (.int .i64 b) 23).alloc (.cells #[.int .i64 c, .int .i64 d] 23)
  have T0 := hide t0
  have e1 : (w.alloc (.cells #[.int .i64 a, .int .i64 b] 23)).heap.size = w.heap.size + 1 := by simp
  have t1 := two_alloc (w.alloc (.cells #[.int .i64 a, .int .i64 b] 23)) (.int .i64 c) (.int .i64 d) 23
  rw [e1] at t1
  have T1 := hide t1
  have BB : Hid (Below w.heap.size w ((w.alloc (.cells #[.int .i64 a, .int .i64 b] 23)).alloc (.cells #[.int .i64 c, .int .i64 d] 23))) := (((Below.refl _ _).alloc (by first | exact Nat.le_refl _ | (simp; done) | (simp; omega)) _).alloc (by first | exact Nat.le_refl _ | (simp; done) | (simp; omega)) _)
  clear t0 t1 e1
  go_enter Try.func3, Try.ntmps3
  have fT00 := (unhide T0).c0
  have fT01 := (unhide T0).c1
  have fT10 := (unhide T1).c0
  have fT11 := (unhide T1).c1
  go_wp2_with fail
  clear fT00 fT01 fT10 fT11
  refine (unhide Hp0 _).mono ?_
  rintro e w1 ⟨rfl, b1⟩
  have new := hide (two_alloc w1 (.int .i64 x0) (.int .i64 y0) 23)
  have T0n := hide (((unhide T0).up b1).alloc (.cells #[.int .i64 x0, .int .i64 y0] 23))
  have T1n := hide (((unhide T1).up b1).alloc (.cells #[.int .i64 x0, .int .i64 y0] 23))
  have BBn : Hid (Below w.heap.size w (w1.alloc (.cells #[.int .i64 x0, .int .i64 y0] 23))) := by
    have := (unhide BB).trans (b1.mono (unhide BB).size)
    exact this.alloc this.size _
  clear BB T0 T1
  have T0 := T0n
  have T1 := T1n
  have BB := BBn
  clear BBn T0n T1n
  have S0 := new
  clear new b1
  have fT00 := (unhide T0).c0
  have fT01 := (unhide T0).c1
  have fT10 := (unhide T1).c0
  have fT11 := (unhide T1).c1
  go_wp2_with fail
  clear fT00 fT01 fT10 fT11
  generalize w1.alloc (.cells #[.int .i64 x0, .int .i64 y0] 23) = W at *
  generalize w1.heap.size = s0 at *
  refine (unhide Hp1 _).mono ?_
  rintro e w1 ⟨rfl, b1⟩
  have new := hide (two_alloc w1 (.int .i64 x1) (.int .i64 y1) 23)
  have T0n := hide (((unhide T0).up b1).alloc (.cells #[.int .i64 x1, .int .i64 y1] 23))
  have T1n := hide (((unhide T1).up b1).alloc (.cells #[.int .i64 x1, .int .i64 y1] 23))
  have S0n := hide (((unhide S0).up b1).alloc (.cells #[.int .i64 x1, .int .i64 y1] 23))
  have BBn : Hid (Below w.heap.size w (w1.alloc (.cells #[.int .i64 x1, .int .i64 y1] 23))) := by
    have := (unhide BB).trans (b1.mono (unhide BB).size)
    exact this.alloc this.size _
  clear BB T0 T1 S0
  have T0 := T0n
  have T1 := T1n
  have S0 := S0n
  have BB := BBn
  clear BBn T0n T1n S0n
  have S1 := new
  clear new b1
  have fT00 := (unhide T0).c0
  have fT01 := (unhide T0).c1
  have fT10 := (unhide T1).c0
  have fT11 := (unhide T1).c1
  go_wp2_with fail
  clear fT00 fT01 fT10 fT11
  generalize w1.alloc (.cells #[.int .i64 x1, .int .i64 y1] 23) = W at *
  generalize w1.heap.size = s1 at *
  refine (unhide Hp2 _).mono ?_
  rintro e w1 ⟨rfl, b1⟩
  have new := hide (two_alloc w1 (.int .i64 x2) (.int .i64 y2) 23)
  have T0n := hide (((unhide T0).up b1).alloc (.cells #[.int .i64 x2, .int .i64 y2] 23))
  have T1n := hide (((unhide T1).up b1).alloc (.cells #[.int .i64 x2, .int .i64 y2] 23))
  have S0n := hide (((unhide S0).up b1).alloc (.cells #[.int .i64 x2, .int .i64 y2] 23))
  have S1n := hide (((unhide S1).up b1).alloc (.cells #[.int .i64 x2, .int .i64 y2] 23))
  have BBn : Hid (Below w.heap.size w (w1.alloc (.cells #[.int .i64 x2, .int .i64 y2] 23))) := by
    have := (unhide BB).trans (b1.mono (unhide BB).size)
    exact this.alloc this.size _
  clear BB T0 T1 S0 S1
  have T0 := T0n
  have T1 := T1n
  have S0 := S0n
  have S1 := S1n
  have BB := BBn
  clear BBn T0n T1n S0n S1n
  have S2 := new
  clear new b1
  have fT00 := (unhide T0).c0
  have fT01 := (unhide T0).c1
  have fT10 := (unhide T1).c0
  have fT11 := (unhide T1).c1
  go_wp2_with fail
  clear fT00 fT01 fT10 fT11
  generalize w1.alloc (.cells #[.int .i64 x2, .int .i64 y2] 23) = W at *
  generalize w1.heap.size = s2 at *
  refine wp_region_box 8 9 11 41 27 #[.int .i64 0, .int .i64 0] #[.int .i64 x0, .int .i64 y0] ?A1 (by omega) (by omega) (by kernel_rfl) (by kernel_rfl) (by kernel_rfl) (by kernel_rfl) zero_ref rfl (by kernel_rfl) (two_one _ _) ?lex1 ?hq1 ?_
  case lex1 =>
    intro X
    have pT00 : ∀ x : Gb X.w, _ := fun x => (gb_two (gb_two (unhide T0) X) x).c0
    have pT01 : ∀ x : Gb X.w, _ := fun x => (gb_two (gb_two (unhide T0) X) x).c1
    have pT10 : ∀ x : Gb X.w, _ := fun x => (gb_two (gb_two (unhide T1) X) x).c0
    have pT11 : ∀ x : Gb X.w, _ := fun x => (gb_two (gb_two (unhide T1) X) x).c1
    have hne := gb_ne X.w
    dsimp only [boxRest, List.eraseIdx_cons_succ, List.eraseIdx_cons_zero]
    iterate 2 (go_big_quiet_step ((go_at_call 13; exact gb_call (unhide Hx _))))
    iterate 2 (go_big_quiet_step ((go_at_call 13; exact gb_call (unhide Hy _))))
    repeat (go_big_quiet_step ((go_at_call 12; exact gb_call (unhide Hr0 _))))
    refine wpQuiet_nil ?_
    exact rfl
  case hq1 => exact rfl
  intro u1 w2 b2 hu tu
  simp only [Act.put, List.setIfInBounds_toArray, List.set_cons_succ, List.set_cons_zero]
  have new : Hid (Two w2 u1 (.int .i64 x0) (.int .i64 y0) 27) := tu
  have T0n := hide ((unhide T0).up b2)
  have T1n := hide ((unhide T1).up b2)
  have S0n := hide ((unhide S0).up b2)
  have S1n := hide ((unhide S1).up b2)
  have S2n := hide ((unhide S2).up b2)
  have BBn := hide ((unhide BB).trans (b2.mono (unhide BB).size))
  clear BB T0 T1 S0 S1 S2
  have T0 := T0n
  have T1 := T1n
  have S0 := S0n
  have S1 := S1n
  have S2 := S2n
  have BB := BBn
  clear BBn T0n T1n S0n S1n S2n
  have U0 := new
  clear new b2 hu tu
  go_wp2_with fail
  generalize w2 = W0 at *
  refine wp_region_box 8 9 13 49 27 #[.int .i64 0, .int .i64 0] #[.int .i64 x1, .int .i64 y1] ?A2 (by omega) (by omega) (by kernel_rfl) (by kernel_rfl) (by kernel_rfl) (by kernel_rfl) zero_ref rfl (by kernel_rfl) (two_one _ _) ?lex2 ?hq2 ?_
  case lex2 =>
    intro X
    have pT00 : ∀ x : Gb X.w, _ := fun x => (gb_two (gb_two (unhide T0) X) x).c0
    have pT01 : ∀ x : Gb X.w, _ := fun x => (gb_two (gb_two (unhide T0) X) x).c1
    have pT10 : ∀ x : Gb X.w, _ := fun x => (gb_two (gb_two (unhide T1) X) x).c0
    have pT11 : ∀ x : Gb X.w, _ := fun x => (gb_two (gb_two (unhide T1) X) x).c1
    have hne := gb_ne X.w
    dsimp only [boxRest, List.eraseIdx_cons_succ, List.eraseIdx_cons_zero]
    iterate 2 (go_big_quiet_step ((go_at_call 13; exact gb_call (unhide Hx _))))
    iterate 2 (go_big_quiet_step ((go_at_call 13; exact gb_call (unhide Hy _))))
    repeat (go_big_quiet_step ((go_at_call 14; exact gb_call (unhide Hr1 _))))
    refine wpQuiet_nil ?_
    exact rfl
  case hq2 => exact rfl
  intro u2 w2 b2 hu tu
  simp only [Act.put, List.setIfInBounds_toArray, List.set_cons_succ, List.set_cons_zero]
  have new : Hid (Two w2 u2 (.int .i64 x1) (.int .i64 y1) 27) := tu
  have T0n := hide ((unhide T0).up b2)
  have T1n := hide ((unhide T1).up b2)
  have S0n := hide ((unhide S0).up b2)
  have S1n := hide ((unhide S1).up b2)
  have S2n := hide ((unhide S2).up b2)
  have U0n := hide ((unhide U0).up b2)
  have BBn := hide ((unhide BB).trans (b2.mono (unhide BB).size))
  clear BB T0 T1 S0 S1 S2 U0
  have T0 := T0n
  have T1 := T1n
  have S0 := S0n
  have S1 := S1n
  have S2 := S2n
  have U0 := U0n
  have BB := BBn
  clear BBn T0n T1n S0n S1n S2n U0n
  have U1 := new
  clear new b2 hu tu
  go_wp2_with fail
  generalize w2 = W1 at *
  refine wp_region_box 8 9 15 57 27 #[.int .i64 0, .int .i64 0] #[.int .i64 x2, .int .i64 y2] ?A3 (by omega) (by omega) (by kernel_rfl) (by kernel_rfl) (by kernel_rfl) (by kernel_rfl) zero_ref rfl (by kernel_rfl) (two_one _ _) ?lex3 ?hq3 ?_
  case lex3 =>
    intro X
    have pT00 : ∀ x : Gb X.w, _ := fun x => (gb_two (gb_two (unhide T0) X) x).c0
    have pT01 : ∀ x : Gb X.w, _ := fun x => (gb_two (gb_two (unhide T0) X) x).c1
    have pT10 : ∀ x : Gb X.w, _ := fun x => (gb_two (gb_two (unhide T1) X) x).c0
    have pT11 : ∀ x : Gb X.w, _ := fun x => (gb_two (gb_two (unhide T1) X) x).c1
    have hne := gb_ne X.w
    dsimp only [boxRest, List.eraseIdx_cons_succ, List.eraseIdx_cons_zero]
    iterate 2 (go_big_quiet_step ((go_at_call 13; exact gb_call (unhide Hx _))))
    iterate 2 (go_big_quiet_step ((go_at_call 13; exact gb_call (unhide Hy _))))
    repeat (go_big_quiet_step ((go_at_call 15; exact gb_call (unhide Hr2 _))))
    refine wpQuiet_nil ?_
    exact rfl
  case hq3 => exact rfl
  intro u3 w2 b2 hu tu
  simp only [Act.put, List.setIfInBounds_toArray, List.set_cons_succ, List.set_cons_zero]
  have new : Hid (Two w2 u3 (.int .i64 x2) (.int .i64 y2) 27) := tu
  have T0n := hide ((unhide T0).up b2)
  have T1n := hide ((unhide T1).up b2)
  have S0n := hide ((unhide S0).up b2)
  have S1n := hide ((unhide S1).up b2)
  have S2n := hide ((unhide S2).up b2)
  have U0n := hide ((unhide U0).up b2)
  have U1n := hide ((unhide U1).up b2)
  have BBn := hide ((unhide BB).trans (b2.mono (unhide BB).size))
  clear BB T0 T1 S0 S1 S2 U0 U1
  have T0 := T0n
  have T1 := T1n
  have S0 := S0n
  have S1 := S1n
  have S2 := S2n
  have U0 := U0n
  have U1 := U1n
  have BB := BBn
  clear BBn T0n T1n S0n S1n S2n U0n U1n
  have U2 := new
  clear new b2 hu tu
  go_wp2_with fail
  generalize w2 = W2 at *
  have pS00 : ∀ x : Gb W2, _ := fun x => (gb_two (unhide S0) x).c0
  have pS01 : ∀ x : Gb W2, _ := fun x => (gb_two (unhide S0) x).c1
  have pU00 : ∀ x : Gb W2, _ := fun x => (gb_two (unhide U0) x).c0
  have pU01 : ∀ x : Gb W2, _ := fun x => (gb_two (unhide U0) x).c1
  have pS10 : ∀ x : Gb W2, _ := fun x => (gb_two (unhide S1) x).c0
  have pS11 : ∀ x : Gb W2, _ := fun x => (gb_two (unhide S1) x).c1
  have pU10 : ∀ x : Gb W2, _ := fun x => (gb_two (unhide U1) x).c0
  have pU11 : ∀ x : Gb W2, _ := fun x => (gb_two (unhide U1) x).c1
  have pS20 : ∀ x : Gb W2, _ := fun x => (gb_two (unhide S2) x).c0
  have pS21 : ∀ x : Gb W2, _ := fun x => (gb_two (unhide S2) x).c1
  have pU20 : ∀ x : Gb W2, _ := fun x => (gb_two (unhide U2) x).c0
  have pU21 : ∀ x : Gb W2, _ := fun x => (gb_two (unhide U2) x).c1
  have hne := gb_ne W2
  refine wp_region_grB (by kernel_rfl) (by kernel_rfl) ?_
  iterate 5 (go_big_quiet_step ((go_at_call 13; exact gb_call (unhide Hl0 _))))
  iterate 5 (go_big_quiet_step ((go_at_call 13; exact gb_call (unhide Hl1 _))))
  repeat (go_big_quiet_step ((go_at_call 13; exact gb_call (unhide Hl2 _))))
  refine wpQuiet_nil ?_
  rintro w7 ⟨⟨_, b7⟩, rfl⟩
  clear hne pS00 pS01 pU00 pU01 pS10 pS11 pU10 pU11 pS20 pS21 pU20 pU21
  have T0n := hide ((unhide T0).up b7)
  have T1n := hide ((unhide T1).up b7)
  have S0n := hide ((unhide S0).up b7)
  have S1n := hide ((unhide S1).up b7)
  have S2n := hide ((unhide S2).up b7)
  have U0n := hide ((unhide U0).up b7)
  have U1n := hide ((unhide U1).up b7)
  have U2n := hide ((unhide U2).up b7)
  have BBn := hide ((unhide BB).trans (b7.mono (unhide BB).size))
  clear BB T0 T1 S0 S1 S2 U0 U1 U2
  have T0 := T0n
  have T1 := T1n
  have S0 := S0n
  have S1 := S1n
  have S2 := S2n
  have U0 := U0n
  have U1 := U1n
  have U2 := U2n
  have BB := BBn
  clear BBn T0n T1n S0n S1n S2n U0n U1n U2n
  clear b7
  go_wp2_with fail
  have pT00 : ∀ x : Gb w7, _ := fun x => (gb_two (unhide T0) x).c0
  have pT01 : ∀ x : Gb w7, _ := fun x => (gb_two (unhide T0) x).c1
  have pT10 : ∀ x : Gb w7, _ := fun x => (gb_two (unhide T1) x).c0
  have pT11 : ∀ x : Gb w7, _ := fun x => (gb_two (unhide T1) x).c1
  have hne := gb_ne w7
  refine wp_region_grB (by kernel_rfl) (by kernel_rfl) ?_
  iterate 23 (go_big_quiet_step ((first | (go_at_call 16; exact gb_call (awake_any _)) | (go_at_call 13; exact gb_call (unhide Hx _)) | (go_at_call 17; exact gb_call (unhide Hc1 _)) | (go_at_call 18; exact gb_call (unhide Hc2 _)) | (go_at_call 19; exact gb_call (unhide Hn1 _)) | (go_at_call 20; exact gb_call (unhide Hn2 _)) | (go_at_call 21; exact gb_call (unhide Hd1 _)))))
  repeat (go_big_quiet_step ((first | (go_at_call 13; exact gb_call (unhide Hy _)) | (go_at_call 22; exact gb_call (unhide Hd2 _)))))
  refine wpQuiet_nil ?_
  rintro w7 ⟨⟨_, b7⟩, rfl⟩
  clear hne pT00 pT01 pT10 pT11
  have T0n := hide ((unhide T0).up b7)
  have T1n := hide ((unhide T1).up b7)
  have S0n := hide ((unhide S0).up b7)
  have S1n := hide ((unhide S1).up b7)
  have S2n := hide ((unhide S2).up b7)
  have U0n := hide ((unhide U0).up b7)
  have U1n := hide ((unhide U1).up b7)
  have U2n := hide ((unhide U2).up b7)
  have BBn := hide ((unhide BB).trans (b7.mono (unhide BB).size))
  clear BB T0 T1 S0 S1 S2 U0 U1 U2
  have T0 := T0n
  have T1 := T1n
  have S0 := S0n
  have S1 := S1n
  have S2 := S2n
  have U0 := U0n
  have U1 := U1n
  have U2 := U2n
  have BB := BBn
  clear BBn T0n T1n S0n S1n S2n U0n U1n U2n
  clear b7
  go_wp2
  go_ret
  exact ⟨rfl, unhide BB⟩

end Go.Proofs.Ythodhabjcbohcaa

/- What the law RatioReckons does, whatever the world: it answers true and changes nothing that was there. -/
import Derived.Test.YtmaeebgphblilaaRtMk
import Derived.Test.YtmaeebgphblilaaBox
namespace Go.Proofs.Ytmaeebgphblilaa
open Go.RowKit
set_option linter.unusedVariables false

theorem zero_ref (w : World) : (zeroValue 27).run Try.prog w = .ok (.agg #[.int .i64 0, .int .i64 0]) w := by kernel_rfl
theorem two_one (k k2 : IntKind) (x y : Int) : (#[Value.int k x, Value.int k2 y].all fun v => v.oneCell') = true := by simp [Value.oneCell']
theorem gb_of_two {w : World} {b : Nat} {x y : Value} {t : TypeId} (h : Two w b x y t) (g : Gb w) : Two g.w b x y t := h.up g.ok

set_option maxRecDepth 100000 in
set_option maxHeartbeats 8000000 in
theorem ratioReckons_any (a b c d : Int) (w : World) (wa : (Lit.int .i64 a).wf = true) (wb : (Lit.int .i64 b).wf = true) (wc : (Lit.int .i64 c).wf = true) (wd : (Lit.int .i64 d).wf = true) :
    Calls Try.prog 4 #[rv a b, rv c d] w fun e w' => e = .returned (.bool true) ∧ Below w.heap.size w w' := by
  obtain ⟨a0, a1⟩ := bounds_i64 wa
  obtain ⟨b0, b1⟩ := bounds_i64 wb
  obtain ⟨c0, c1⟩ := bounds_i64 wc
  obtain ⟨d0, d1⟩ := bounds_i64 wd
  have hx := fun w => lref_any a b w
  have hy := fun w => lref_any c d w
  have hp0 := fun w => add_any a b c d w (by omega) (by omega) (by omega) (by omega) (by omega) (by omega) (by omega) (by omega)
  have hr0 := fun w => rsum_any a b c d w (by omega) (by omega) (by omega) (by omega) (by omega) (by omega) (by omega) (by omega)
  have hp1 := fun w => sub_any a b c d w (by omega) (by omega) (by omega) (by omega) (by omega) (by omega) (by omega) (by omega)
  have hr1 := fun w => rdif_any a b c d w (by omega) (by omega) (by omega) (by omega) (by omega) (by omega) (by omega) (by omega)
  have hp2 := fun w => mul_any a b c d w (by omega) (by omega) (by omega) (by omega) (by omega) (by omega) (by omega) (by omega)
  have hr2 := fun w => rmul_any a b c d w (by omega) (by omega) (by omega) (by omega) (by omega) (by omega) (by omega) (by omega)
  have hp3 := fun w => div_any a b c d w (by omega) (by omega) (by omega) (by omega) (by omega) (by omega) (by omega) (by omega)
  have hr3 := fun w => rdiv_any a b c d w (by omega) (by omega) (by omega) (by omega) (by omega) (by omega) (by omega) (by omega)
  generalize addA a b c d = R0 at *
  obtain ⟨x0, y0, z0⟩ := R0
  have hl0 := fun w => lref_any x0 y0 w
  generalize addA a b (-c) d = R1 at *
  obtain ⟨x1, y1, z1⟩ := R1
  have hl1 := fun w => lref_any x1 y1 w
  generalize mulA a b c d = R2 at *
  obtain ⟨x2, y2, z2⟩ := R2
  have hl2 := fun w => lref_any x2 y2 w
  generalize divA a b c d = R3 at *
  obtain ⟨x3, y3, z3⟩ := R3
  have hl3 := fun w => lref_any x3 y3 w
  simp only [rvE, rv] at hx hy hp0 hr0 hl0 hp1 hr1 hl1 hp2 hr2 hl2 hp3 hr3 hl3 ⊢
  have Hx := hide hx
  have Hy := hide hy
  have Hp0 := hide hp0
  have Hr0 := hide hr0
  have Hl0 := hide hl0
  have Hp1 := hide hp1
  have Hr1 := hide hr1
  have Hl1 := hide hl1
  have Hp2 := hide hp2
  have Hr2 := hide hr2
  have Hl2 := hide hl2
  have Hp3 := hide hp3
  have Hr3 := hide hr3
  have Hl3 := hide hl3
  clear hx hy hp0 hr0 hl0 hp1 hr1 hl1 hp2 hr2 hl2 hp3 hr3 hl3 wa wb wc wd a0 a1 b0 b1 c0 c1 d0 d1
  obtain ⟨t1, t2, b0⟩ := twice_new w (.int .i64 a) (.int .i64 b) (.int .i64 c) (.int .i64 d) 23
  have T1 := hide t1
  have T2 := hide t2
  have BB := hide b0
  clear t1 t2 b0
  go_enter Try.func4, Try.ntmps4
  go_wp2_with fail
  refine (unhide Hp0 _).mono ?_
  rintro e w1 ⟨rfl, b1⟩
  have T1n := hide (((unhide T1).up b1).alloc (.cells #[.int .i64 x0, .int .i64 y0] 23))
  have T2n := hide (((unhide T2).up b1).alloc (.cells #[.int .i64 x0, .int .i64 y0] 23))
  have S0 := hide (two_alloc w1 (.int .i64 x0) (.int .i64 y0) 23)
  have BBn : Hid (Below w.heap.size w (w1.alloc (.cells #[.int .i64 x0, .int .i64 y0] 23))) := by
    have := (unhide BB).trans (b1.mono (unhide BB).size)
    exact this.alloc this.size _
  clear b1 BB T1 T2
  have T1 := T1n
  have T2 := T2n
  have BB := BBn
  clear BBn T1n T2n
  have fT10 := (unhide T1).c0
  have fT11 := (unhide T1).c1
  have fT20 := (unhide T2).c0
  have fT21 := (unhide T2).c1
  go_wp2_with fail
  clear fT10 fT11 fT20 fT21
  generalize w1.alloc (.cells #[.int .i64 x0, .int .i64 y0] 23) = W at *
  generalize w1.heap.size = s0 at *
  refine wp_region_box 8 9 7 33 27 #[.int .i64 0, .int .i64 0] #[.int .i64 x0, .int .i64 y0] ?A0 (by omega) (by omega) (by kernel_rfl) (by kernel_rfl) (by kernel_rfl) (by kernel_rfl) zero_ref rfl (by kernel_rfl) (two_one _ _ _ _) ?lex ?hq ?_
  case lex =>
    intro X
    obtain ⟨p0, p1⟩ := gb_two (gb_of_two (unhide T1) X)
    obtain ⟨q0, q1⟩ := gb_two (gb_of_two (unhide T2) X)
    have hne := gb_ne X.w
    dsimp only [boxRest, List.eraseIdx_cons_succ, List.eraseIdx_cons_zero]
    iterate 2 (go_big_quiet_step ((go_at_call 12; exact gb_call (unhide Hx _))))
    repeat (go_big_quiet_step ((first | (go_at_call 12; exact gb_call (unhide Hy _)) | (go_at_call 18; exact gb_call (unhide Hr0 _)))))
    refine wpQuiet_nil ?_
    exact rfl
  case hq => exact rfl
  intro u0 w2 b2 hu tu
  simp only [Act.put, List.setIfInBounds_toArray, List.set_cons_succ, List.set_cons_zero]
  have T1n := hide ((unhide T1).up b2)
  have T2n := hide ((unhide T2).up b2)
  have S0n := hide ((unhide S0).up b2)
  have U0 : Hid (Two w2 u0 (.int .i64 x0) (.int .i64 y0) 27) := tu
  have BBn := hide ((unhide BB).trans (b2.mono (unhide BB).size))
  clear b2 BB hu tu T1 T2 S0
  have T1 := T1n
  have T2 := T2n
  have S0 := S0n
  have BB := BBn
  clear BBn T1n T2n S0n
  have fT10 := (unhide T1).c0
  have fT11 := (unhide T1).c1
  have fT20 := (unhide T2).c0
  have fT21 := (unhide T2).c1
  go_wp2_with fail
  clear fT10 fT11 fT20 fT21
  refine (unhide Hp1 _).mono ?_
  rintro e w1 ⟨rfl, b1⟩
  have T1n := hide (((unhide T1).up b1).alloc (.cells #[.int .i64 x1, .int .i64 y1] 23))
  have T2n := hide (((unhide T2).up b1).alloc (.cells #[.int .i64 x1, .int .i64 y1] 23))
  have S0n := hide (((unhide S0).up b1).alloc (.cells #[.int .i64 x1, .int .i64 y1] 23))
  have U0n := hide (((unhide U0).up b1).alloc (.cells #[.int .i64 x1, .int .i64 y1] 23))
  have S1 := hide (two_alloc w1 (.int .i64 x1) (.int .i64 y1) 23)
  have BBn : Hid (Below w.heap.size w (w1.alloc (.cells #[.int .i64 x1, .int .i64 y1] 23))) := by
    have := (unhide BB).trans (b1.mono (unhide BB).size)
    exact this.alloc this.size _
  clear b1 BB T1 T2 S0 U0
  have T1 := T1n
  have T2 := T2n
  have S0 := S0n
  have U0 := U0n
  have BB := BBn
  clear BBn T1n T2n S0n U0n
  have fT10 := (unhide T1).c0
  have fT11 := (unhide T1).c1
  have fT20 := (unhide T2).c0
  have fT21 := (unhide T2).c1
  go_wp2_with fail
  clear fT10 fT11 fT20 fT21
  generalize w1.alloc (.cells #[.int .i64 x1, .int .i64 y1] 23) = W at *
  generalize w1.heap.size = s1 at *
  refine wp_region_box 8 9 11 47 27 #[.int .i64 0, .int .i64 0] #[.int .i64 x1, .int .i64 y1] ?A1 (by omega) (by omega) (by kernel_rfl) (by kernel_rfl) (by kernel_rfl) (by kernel_rfl) zero_ref rfl (by kernel_rfl) (two_one _ _ _ _) ?lex ?hq ?_
  case lex =>
    intro X
    obtain ⟨p0, p1⟩ := gb_two (gb_of_two (unhide T1) X)
    obtain ⟨q0, q1⟩ := gb_two (gb_of_two (unhide T2) X)
    have hne := gb_ne X.w
    dsimp only [boxRest, List.eraseIdx_cons_succ, List.eraseIdx_cons_zero]
    iterate 2 (go_big_quiet_step ((go_at_call 12; exact gb_call (unhide Hx _))))
    repeat (go_big_quiet_step ((first | (go_at_call 12; exact gb_call (unhide Hy _)) | (go_at_call 18; exact gb_call (unhide Hr1 _)))))
    refine wpQuiet_nil ?_
    exact rfl
  case hq => exact rfl
  intro u1 w2 b2 hu tu
  simp only [Act.put, List.setIfInBounds_toArray, List.set_cons_succ, List.set_cons_zero]
  have T1n := hide ((unhide T1).up b2)
  have T2n := hide ((unhide T2).up b2)
  have S0n := hide ((unhide S0).up b2)
  have U0n := hide ((unhide U0).up b2)
  have S1n := hide ((unhide S1).up b2)
  have U1 : Hid (Two w2 u1 (.int .i64 x1) (.int .i64 y1) 27) := tu
  have BBn := hide ((unhide BB).trans (b2.mono (unhide BB).size))
  clear b2 BB hu tu T1 T2 S0 U0 S1
  have T1 := T1n
  have T2 := T2n
  have S0 := S0n
  have U0 := U0n
  have S1 := S1n
  have BB := BBn
  clear BBn T1n T2n S0n U0n S1n
  have fT10 := (unhide T1).c0
  have fT11 := (unhide T1).c1
  have fT20 := (unhide T2).c0
  have fT21 := (unhide T2).c1
  go_wp2_with fail
  clear fT10 fT11 fT20 fT21
  refine (unhide Hp2 _).mono ?_
  rintro e w1 ⟨rfl, b1⟩
  have T1n := hide (((unhide T1).up b1).alloc (.cells #[.int .i64 x2, .int .i64 y2] 23))
  have T2n := hide (((unhide T2).up b1).alloc (.cells #[.int .i64 x2, .int .i64 y2] 23))
  have S0n := hide (((unhide S0).up b1).alloc (.cells #[.int .i64 x2, .int .i64 y2] 23))
  have U0n := hide (((unhide U0).up b1).alloc (.cells #[.int .i64 x2, .int .i64 y2] 23))
  have S1n := hide (((unhide S1).up b1).alloc (.cells #[.int .i64 x2, .int .i64 y2] 23))
  have U1n := hide (((unhide U1).up b1).alloc (.cells #[.int .i64 x2, .int .i64 y2] 23))
  have S2 := hide (two_alloc w1 (.int .i64 x2) (.int .i64 y2) 23)
  have BBn : Hid (Below w.heap.size w (w1.alloc (.cells #[.int .i64 x2, .int .i64 y2] 23))) := by
    have := (unhide BB).trans (b1.mono (unhide BB).size)
    exact this.alloc this.size _
  clear b1 BB T1 T2 S0 U0 S1 U1
  have T1 := T1n
  have T2 := T2n
  have S0 := S0n
  have U0 := U0n
  have S1 := S1n
  have U1 := U1n
  have BB := BBn
  clear BBn T1n T2n S0n U0n S1n U1n
  have fT10 := (unhide T1).c0
  have fT11 := (unhide T1).c1
  have fT20 := (unhide T2).c0
  have fT21 := (unhide T2).c1
  go_wp2_with fail
  clear fT10 fT11 fT20 fT21
  generalize w1.alloc (.cells #[.int .i64 x2, .int .i64 y2] 23) = W at *
  generalize w1.heap.size = s2 at *
  refine wp_region_box 8 9 15 61 27 #[.int .i64 0, .int .i64 0] #[.int .i64 x2, .int .i64 y2] ?A2 (by omega) (by omega) (by kernel_rfl) (by kernel_rfl) (by kernel_rfl) (by kernel_rfl) zero_ref rfl (by kernel_rfl) (two_one _ _ _ _) ?lex ?hq ?_
  case lex =>
    intro X
    obtain ⟨p0, p1⟩ := gb_two (gb_of_two (unhide T1) X)
    obtain ⟨q0, q1⟩ := gb_two (gb_of_two (unhide T2) X)
    have hne := gb_ne X.w
    dsimp only [boxRest, List.eraseIdx_cons_succ, List.eraseIdx_cons_zero]
    iterate 2 (go_big_quiet_step ((go_at_call 12; exact gb_call (unhide Hx _))))
    repeat (go_big_quiet_step ((first | (go_at_call 12; exact gb_call (unhide Hy _)) | (go_at_call 21; exact gb_call (unhide Hr2 _)))))
    refine wpQuiet_nil ?_
    exact rfl
  case hq => exact rfl
  intro u2 w2 b2 hu tu
  simp only [Act.put, List.setIfInBounds_toArray, List.set_cons_succ, List.set_cons_zero]
  have T1n := hide ((unhide T1).up b2)
  have T2n := hide ((unhide T2).up b2)
  have S0n := hide ((unhide S0).up b2)
  have U0n := hide ((unhide U0).up b2)
  have S1n := hide ((unhide S1).up b2)
  have U1n := hide ((unhide U1).up b2)
  have S2n := hide ((unhide S2).up b2)
  have U2 : Hid (Two w2 u2 (.int .i64 x2) (.int .i64 y2) 27) := tu
  have BBn := hide ((unhide BB).trans (b2.mono (unhide BB).size))
  clear b2 BB hu tu T1 T2 S0 U0 S1 U1 S2
  have T1 := T1n
  have T2 := T2n
  have S0 := S0n
  have U0 := U0n
  have S1 := S1n
  have U1 := U1n
  have S2 := S2n
  have BB := BBn
  clear BBn T1n T2n S0n U0n S1n U1n S2n
  have fT10 := (unhide T1).c0
  have fT11 := (unhide T1).c1
  have fT20 := (unhide T2).c0
  have fT21 := (unhide T2).c1
  go_wp2_with fail
  clear fT10 fT11 fT20 fT21
  refine (unhide Hp3 _).mono ?_
  rintro e w1 ⟨rfl, b1⟩
  have T1n := hide (((unhide T1).up b1).alloc (.cells #[.int .i64 x3, .int .i64 y3] 23))
  have T2n := hide (((unhide T2).up b1).alloc (.cells #[.int .i64 x3, .int .i64 y3] 23))
  have S0n := hide (((unhide S0).up b1).alloc (.cells #[.int .i64 x3, .int .i64 y3] 23))
  have U0n := hide (((unhide U0).up b1).alloc (.cells #[.int .i64 x3, .int .i64 y3] 23))
  have S1n := hide (((unhide S1).up b1).alloc (.cells #[.int .i64 x3, .int .i64 y3] 23))
  have U1n := hide (((unhide U1).up b1).alloc (.cells #[.int .i64 x3, .int .i64 y3] 23))
  have S2n := hide (((unhide S2).up b1).alloc (.cells #[.int .i64 x3, .int .i64 y3] 23))
  have U2n := hide (((unhide U2).up b1).alloc (.cells #[.int .i64 x3, .int .i64 y3] 23))
  have S3 := hide (two_alloc w1 (.int .i64 x3) (.int .i64 y3) 23)
  have BBn : Hid (Below w.heap.size w (w1.alloc (.cells #[.int .i64 x3, .int .i64 y3] 23))) := by
    have := (unhide BB).trans (b1.mono (unhide BB).size)
    exact this.alloc this.size _
  clear b1 BB T1 T2 S0 U0 S1 U1 S2 U2
  have T1 := T1n
  have T2 := T2n
  have S0 := S0n
  have U0 := U0n
  have S1 := S1n
  have U1 := U1n
  have S2 := S2n
  have U2 := U2n
  have BB := BBn
  clear BBn T1n T2n S0n U0n S1n U1n S2n U2n
  have fT10 := (unhide T1).c0
  have fT11 := (unhide T1).c1
  have fT20 := (unhide T2).c0
  have fT21 := (unhide T2).c1
  go_wp2_with fail
  clear fT10 fT11 fT20 fT21
  generalize w1.alloc (.cells #[.int .i64 x3, .int .i64 y3] 23) = W at *
  generalize w1.heap.size = s3 at *
  refine wp_region_box 8 9 19 75 27 #[.int .i64 0, .int .i64 0] #[.int .i64 x3, .int .i64 y3] ?A3 (by omega) (by omega) (by kernel_rfl) (by kernel_rfl) (by kernel_rfl) (by kernel_rfl) zero_ref rfl (by kernel_rfl) (two_one _ _ _ _) ?lex ?hq ?_
  case lex =>
    intro X
    obtain ⟨p0, p1⟩ := gb_two (gb_of_two (unhide T1) X)
    obtain ⟨q0, q1⟩ := gb_two (gb_of_two (unhide T2) X)
    have hne := gb_ne X.w
    dsimp only [boxRest, List.eraseIdx_cons_succ, List.eraseIdx_cons_zero]
    iterate 2 (go_big_quiet_step ((go_at_call 12; exact gb_call (unhide Hx _))))
    repeat (go_big_quiet_step ((first | (go_at_call 12; exact gb_call (unhide Hy _)) | (go_at_call 23; exact gb_call (unhide Hr3 _)))))
    refine wpQuiet_nil ?_
    exact rfl
  case hq => exact rfl
  intro u3 w2 b2 hu tu
  simp only [Act.put, List.setIfInBounds_toArray, List.set_cons_succ, List.set_cons_zero]
  have T1n := hide ((unhide T1).up b2)
  have T2n := hide ((unhide T2).up b2)
  have S0n := hide ((unhide S0).up b2)
  have U0n := hide ((unhide U0).up b2)
  have S1n := hide ((unhide S1).up b2)
  have U1n := hide ((unhide U1).up b2)
  have S2n := hide ((unhide S2).up b2)
  have U2n := hide ((unhide U2).up b2)
  have S3n := hide ((unhide S3).up b2)
  have U3 : Hid (Two w2 u3 (.int .i64 x3) (.int .i64 y3) 27) := tu
  have BBn := hide ((unhide BB).trans (b2.mono (unhide BB).size))
  clear b2 BB hu tu T1 T2 S0 U0 S1 U1 S2 U2 S3
  have T1 := T1n
  have T2 := T2n
  have S0 := S0n
  have U0 := U0n
  have S1 := S1n
  have U1 := U1n
  have S2 := S2n
  have U2 := U2n
  have S3 := S3n
  have BB := BBn
  clear BBn T1n T2n S0n U0n S1n U1n S2n U2n S3n
  go_wp2_with fail
  generalize w2 = W3 at *
  have hne := gb_ne W3
  obtain ⟨pS00, pS01⟩ := gb_two (unhide S0)
  obtain ⟨pU00, pU01⟩ := gb_two (unhide U0)
  obtain ⟨pS10, pS11⟩ := gb_two (unhide S1)
  obtain ⟨pU10, pU11⟩ := gb_two (unhide U1)
  obtain ⟨pS20, pS21⟩ := gb_two (unhide S2)
  obtain ⟨pU20, pU21⟩ := gb_two (unhide U2)
  obtain ⟨pS30, pS31⟩ := gb_two (unhide S3)
  obtain ⟨pU30, pU31⟩ := gb_two (unhide U3)
  clear T1 T2 S0 U0 S1 U1 S2 U2 S3 U3
  refine wp_region_gr (fun x => Below W3.heap.size W3 x) (by kernel_rfl) (by kernel_rfl) (gb_start W3) ?_
  iterate 12 (go_big_quiet_step ((first | (go_at_call 11; exact gb_call (rtawake_any _)) | (go_at_call 12; exact gb_call (unhide Hl0 _)))))
  iterate 11 (go_big_quiet_step ((first | (go_at_call 11; exact gb_call (rtawake_any _)) | (go_at_call 12; exact gb_call (unhide Hl1 _)))))
  iterate 11 (go_big_quiet_step ((first | (go_at_call 11; exact gb_call (rtawake_any _)) | (go_at_call 12; exact gb_call (unhide Hl2 _)))))
  repeat (go_big_quiet_step ((first | (go_at_call 11; exact gb_call (rtawake_any _)) | (go_at_call 12; exact gb_call (unhide Hl3 _)))))
  refine wpQuiet_nil ?_
  rintro w7 ⟨⟨_, b7⟩, rfl⟩
  have B7 := hide ((unhide BB).trans (b7.mono (unhide BB).size))
  clear b7 hne pS00 pS01 pU00 pU01 pS10 pS11 pU10 pU11 pS20 pS21 pU20 pU21 pS30 pS31 pU30 pU31
  go_wp2
  go_ret
  exact ⟨rfl, unhide B7⟩

end Go.Proofs.Ytmaeebgphblilaa

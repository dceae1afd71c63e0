/- What the law RatioScales does, whatever the world: it answers true and changes nothing that was there. -/
import Derived.Test.YtmaeebgphblilaaRtMk
import Derived.Test.YtmaeebgphblilaaRtP
namespace Go.Proofs.Ytmaeebgphblilaa
open Go.RowKit
set_option linter.unusedVariables false

theorem scA_ok {a b k : Int} (h : okR a b = true) (h0 : 0 ≤ k) (h1 : k ≤ 4294967296) : scA a b k = (a * k / b, 0) := by
  unfold scA scOk
  rw [h, decide_eq_true ⟨h0, h1⟩]
  rfl

set_option maxRecDepth 100000 in
set_option maxHeartbeats 8000000 in
theorem ratioScales_any (a b c d k : Int) (w : World) (wa : (Lit.int .i64 a).wf = true) (wb : (Lit.int .i64 b).wf = true) (wc : (Lit.int .i64 c).wf = true) (wd : (Lit.int .i64 d).wf = true) (wk : (Lit.int .i64 k).wf = true) :
    Calls Try.prog 8 #[rv a b, rv c d, .int .i64 k] w fun e w' => e = .returned (.bool true) ∧ Below w.heap.size w w' := by
  obtain ⟨a0, a1⟩ := bounds_i64 wa
  obtain ⟨b0, b1⟩ := bounds_i64 wb
  obtain ⟨c0, c1⟩ := bounds_i64 wc
  obtain ⟨d0, d1⟩ := bounds_i64 wd
  obtain ⟨k0, k1⟩ := bounds_i64 wk
  have hc0 := fun w => check_any a b w (by omega) (by omega) (by omega) (by omega)
  have hc1 := fun w => check_any c d w (by omega) (by omega) (by omega) (by omega)
  obtain ⟨t1, t2, b0⟩ := twice_new w (.int .i64 a) (.int .i64 b) (.int .i64 c) (.int .i64 d) 23
  have T1 := hide t1
  have T2 := hide t2
  have BB := hide b0
  clear t1 t2 b0
  cases hE0 : okR a b
  · rw [hE0] at hc0
    clear hE0
    have hc0 := hide hc0
    unfold rv at *
    go_enter Try.func8, Try.ntmps8
    go_wp2_with fail
    refine (unhide hc0 _).mono ?_
    rintro e w1 ⟨rfl, b1⟩
    have T1n := hide ((unhide T1).up b1)
    have T2n := hide ((unhide T2).up b1)
    have BBn := hide ((unhide BB).trans (b1.mono (unhide BB).size))
    clear b1 BB T1 T2
    have T1 := T1n
    have T2 := T2n
    have BB := BBn
    clear BBn T1n T2n
    go_wp2_with fail
    refine (rtawake_any _).mono ?_
    rintro e w2 ⟨rfl, b2⟩
    have BBn := hide ((unhide BB).trans (b2.mono (unhide BB).size))
    clear b2
    go_wp2
    go_ret
    exact ⟨rfl, unhide BBn⟩
  rw [hE0] at hc0
  cases hE1 : okR c d
  · rw [hE1] at hc1
    clear hE1 hE0
    have hc1 := hide hc1
    have hc0 := hide hc0
    unfold rv at *
    go_enter Try.func8, Try.ntmps8
    go_wp2_with fail
    refine (unhide hc0 _).mono ?_
    rintro e w1 ⟨rfl, b1⟩
    have T1n := hide ((unhide T1).up b1)
    have T2n := hide ((unhide T2).up b1)
    have BBn := hide ((unhide BB).trans (b1.mono (unhide BB).size))
    clear b1 BB T1 T2
    have T1 := T1n
    have T2 := T2n
    have BB := BBn
    clear BBn T1n T2n
    have fT20 := (unhide T2).c0
    have fT21 := (unhide T2).c1
    go_wp2_with fail
    clear fT20 fT21
    refine (unhide hc1 _).mono ?_
    rintro e w1 ⟨rfl, b1⟩
    have T1n := hide ((unhide T1).up b1)
    have T2n := hide ((unhide T2).up b1)
    have BBn := hide ((unhide BB).trans (b1.mono (unhide BB).size))
    clear b1 BB T1 T2
    have T1 := T1n
    have T2 := T2n
    have BB := BBn
    clear BBn T1n T2n
    go_wp2_with fail
    refine (rtawake_any _).mono ?_
    rintro e w2 ⟨rfl, b2⟩
    have BBn := hide ((unhide BB).trans (b2.mono (unhide BB).size))
    clear b2
    go_wp2
    go_ret
    exact ⟨rfl, unhide BBn⟩
  rw [hE1] at hc1
  by_cases g0 : k < 0
  · have hc0 := hide hc0
    have hc1 := hide hc1
    clear hE0 hE1
    unfold rv at *
    go_enter Try.func8, Try.ntmps8
    go_wp2_with fail
    refine (unhide hc0 _).mono ?_
    rintro e w1 ⟨rfl, b1⟩
    have T1n := hide ((unhide T1).up b1)
    have T2n := hide ((unhide T2).up b1)
    have BBn := hide ((unhide BB).trans (b1.mono (unhide BB).size))
    clear b1 BB T1 T2
    have T1 := T1n
    have T2 := T2n
    have BB := BBn
    clear BBn T1n T2n
    have fT20 := (unhide T2).c0
    have fT21 := (unhide T2).c1
    go_wp2_with fail
    clear fT20 fT21
    refine (unhide hc1 _).mono ?_
    rintro e w2 ⟨rfl, b2⟩
    have T1n := hide ((unhide T1).up b2)
    have T2n := hide ((unhide T2).up b2)
    have BBn := hide ((unhide BB).trans (b2.mono (unhide BB).size))
    clear b2 BB T1 T2
    have T1 := T1n
    have T2 := T2n
    have BB := BBn
    clear BBn T1n T2n
    go_wp2_with fail
    refine (rtawake_any _).mono ?_
    rintro e w2 ⟨rfl, b2⟩
    have BBn := hide ((unhide BB).trans (b2.mono (unhide BB).size))
    clear b2
    go_wp2
    go_ret
    exact ⟨rfl, unhide BBn⟩
  by_cases g1 : 4294967296 < k
  · have hc0 := hide hc0
    have hc1 := hide hc1
    clear hE0 hE1
    unfold rv at *
    go_enter Try.func8, Try.ntmps8
    go_wp2_with fail
    refine (unhide hc0 _).mono ?_
    rintro e w1 ⟨rfl, b1⟩
    have T1n := hide ((unhide T1).up b1)
    have T2n := hide ((unhide T2).up b1)
    have BBn := hide ((unhide BB).trans (b1.mono (unhide BB).size))
    clear b1 BB T1 T2
    have T1 := T1n
    have T2 := T2n
    have BB := BBn
    clear BBn T1n T2n
    have fT20 := (unhide T2).c0
    have fT21 := (unhide T2).c1
    go_wp2_with fail
    clear fT20 fT21
    refine (unhide hc1 _).mono ?_
    rintro e w2 ⟨rfl, b2⟩
    have T1n := hide ((unhide T1).up b2)
    have T2n := hide ((unhide T2).up b2)
    have BBn := hide ((unhide BB).trans (b2.mono (unhide BB).size))
    clear b2 BB T1 T2
    have T1 := T1n
    have T2 := T2n
    have BB := BBn
    clear BBn T1n T2n
    go_wp2_with fail
    refine (rtawake_any _).mono ?_
    rintro e w2 ⟨rfl, b2⟩
    have BBn := hide ((unhide BB).trans (b2.mono (unhide BB).size))
    clear b2
    go_wp2
    go_ret
    exact ⟨rfl, unhide BBn⟩
  obtain ⟨o1, o2, o3, o4, _⟩ := okR_of hE0
  obtain ⟨o5, o6, o7, o8, _⟩ := okR_of hE1
  have hs1 := fun w => scale_any a b k w (by omega) (by omega) (by omega) (by omega) (by omega) (by omega)
  have hs2 := fun w => scale_any c d k w (by omega) (by omega) (by omega) (by omega) (by omega) (by omega)
  have hs3 := fun w => scale_any a b 0 w (by omega) (by omega) (by omega) (by omega) (by omega) (by omega)
  have hs4 := fun w => scale_any 1 1 k w (by omega) (by omega) (by omega) (by omega) (by omega) (by omega)
  rw [scA_ok hE0 (by omega) (by omega)] at hs1
  rw [scA_ok hE1 (by omega) (by omega)] at hs2
  rw [scA_ok hE0 (by omega) (by omega), Int.mul_zero, Int.zero_ediv] at hs3
  rw [scA_ok (by decide) (by omega) (by omega), Int.one_mul, Int.ediv_one] at hs4
  have ha1 := fun w => add_any a b c d w (by omega) (by omega) (by omega) (by omega) (by omega) (by omega) (by omega) (by omega)
  have hcp := fun w => compare_any a b c d w (by omega) (by omega) (by omega) (by omega) (by omega) (by omega) (by omega) (by omega)
  have hAd : Hid (∀ x y : Int, addA a b c d = (x, y, 0) → okR x y = true ∧ (a * k / b + c * k / d ≤ x * k / y ∧ x * k / y ≤ a * k / b + c * k / d + 1) ∧ (-9223372032559808512 ≤ x * k / y ∧ x * k / y ≤ 9223372032559808512) ∧ ∀ w, Calls Try.prog 24 #[rv x y, .int .i64 k] w fun e w' => e = .returned (.tuple #[.int .i64 (x * k / y), .int .i64 0]) ∧ Below w.heap.size w w') := by
    intro x y h
    obtain ⟨_, h2, h3⟩ := addA_back hE0 hE1 h
    obtain ⟨u1, u2, u3, u4, _⟩ := okR_of h2
    have hb := scale_bound (x := x) (y := k) (by omega) (by omega) (by omega) (by omega)
    refine ⟨h2, scale_sum o3 o7 u3 h3 (by omega), ediv_bound hb.1 hb.2 u3, fun w => ?_⟩
    have := scale_any x y k w (by omega) (by omega) (by omega) (by omega) (by omega) (by omega)
    rwa [scA_ok h2 (by omega) (by omega)] at this
  have hCm : Hid (cmpA a b c d = 1 ∨ (¬ 0 < cmpA a b c d ∧ a * k / b ≤ c * k / d)) := by
    show _ ∨ _
    have e1 : cmpA a b c d = cmpV (a * d) (c * b) := by unfold cmpA; rw [hE0, hE1]; rfl
    rw [e1]
    rcases cmpV_cases (a * d) (c * b) with ⟨h1, h2⟩ | ⟨h1, h2⟩ | ⟨h1, h2⟩
    · exact .inr ⟨by omega, scale_mono o3 o7 (by omega) (by omega)⟩
    · exact .inr ⟨by omega, scale_mono o3 o7 (by omega) (by omega)⟩
    · exact .inl h1
  have hA := ediv_bound (a := a * k) (b := b) (m := 9223372032559808512) (scale_bound (x := a) (y := k) (by omega) (by omega) (by omega) (by omega)).1 (scale_bound (x := a) (y := k) (by omega) (by omega) (by omega) (by omega)).2 o3
  have hC := ediv_bound (a := c * k) (b := d) (m := 9223372032559808512) (scale_bound (x := c) (y := k) (by omega) (by omega) (by omega) (by omega)).1 (scale_bound (x := c) (y := k) (by omega) (by omega) (by omega) (by omega)).2 o7
  generalize cmpA a b c d = M at *
  generalize a * k / b = A at *
  generalize c * k / d = C at *
  generalize addA a b c d = RA at *
  obtain ⟨x, y, z⟩ := RA
  clear hE0 hE1 o1 o2 o3 o4 o5 o6 o7 o8
  simp only [rvE, rv] at hc0 hc1 hs1 hs2 hs3 hs4 ha1 hcp ⊢
  have Hc0 := hide hc0
  have Hc1 := hide hc1
  have Hs1 := hide hs1
  have Hs2 := hide hs2
  have Hs3 := hide hs3
  have Hs4 := hide hs4
  have Ha1 := hide ha1
  have Hcp := hide hcp
  clear hc0 hc1 hs1 hs2 hs3 hs4 ha1 hcp wa a0 a1 wb b0 b1 wc c0 c1 wd d0 d1 wk k0 k1
  rcases unhide hCm with hM | ⟨hM, hAC⟩
  · subst hM
    by_cases ga : z = 0
    · subst ga
      obtain ⟨_, hsm, hsb, HS⟩ := unhide hAd x y rfl
      simp only [rv] at HS
      have HS := hide HS
      generalize x * k / y = S at *
      have n1 : ¬ S < A + C := by omega
      have n2 : ¬ A + C + 1 < S := by omega
      go_enter Try.func8, Try.ntmps8
      go_wp2_with fail
      refine (unhide Hc0 _).mono ?_
      rintro e w1 ⟨rfl, b1⟩
      have T1n := hide ((unhide T1).up b1)
      have T2n := hide ((unhide T2).up b1)
      have BBn := hide ((unhide BB).trans (b1.mono (unhide BB).size))
      clear b1 BB T1 T2
      have T1 := T1n
      have T2 := T2n
      have BB := BBn
      clear BBn T1n T2n
      have fT20 := (unhide T2).c0
      have fT21 := (unhide T2).c1
      go_wp2_with fail
      clear fT20 fT21
      refine (unhide Hc1 _).mono ?_
      rintro e w2 ⟨rfl, b2⟩
      have T1n := hide ((unhide T1).up b2)
      have T2n := hide ((unhide T2).up b2)
      have BBn := hide ((unhide BB).trans (b2.mono (unhide BB).size))
      clear b2 BB T1 T2
      have T1 := T1n
      have T2 := T2n
      have BB := BBn
      clear BBn T1n T2n
      have fT10 := (unhide T1).c0
      have fT11 := (unhide T1).c1
      have fT20 := (unhide T2).c0
      have fT21 := (unhide T2).c1
      go_wp2_with fail
      clear fT10 fT11 fT20 fT21
      refine (unhide Hs1 _).mono ?_
      rintro e w3 ⟨rfl, b3⟩
      have T1n := hide ((unhide T1).up b3)
      have T2n := hide ((unhide T2).up b3)
      have BBn := hide ((unhide BB).trans (b3.mono (unhide BB).size))
      clear b3 BB T1 T2
      have T1 := T1n
      have T2 := T2n
      have BB := BBn
      clear BBn T1n T2n
      have fT10 := (unhide T1).c0
      have fT11 := (unhide T1).c1
      have fT20 := (unhide T2).c0
      have fT21 := (unhide T2).c1
      go_wp2_with fail
      clear fT10 fT11 fT20 fT21
      refine (unhide Hs2 _).mono ?_
      rintro e w4 ⟨rfl, b4⟩
      have T1n := hide ((unhide T1).up b4)
      have T2n := hide ((unhide T2).up b4)
      have BBn := hide ((unhide BB).trans (b4.mono (unhide BB).size))
      clear b4 BB T1 T2
      have T1 := T1n
      have T2 := T2n
      have BB := BBn
      clear BBn T1n T2n
      have fT10 := (unhide T1).c0
      have fT11 := (unhide T1).c1
      have fT20 := (unhide T2).c0
      have fT21 := (unhide T2).c1
      go_wp2_with fail
      clear fT10 fT11 fT20 fT21
      refine (unhide Hs3 _).mono ?_
      rintro e w5 ⟨rfl, b5⟩
      have T1n := hide ((unhide T1).up b5)
      have T2n := hide ((unhide T2).up b5)
      have BBn := hide ((unhide BB).trans (b5.mono (unhide BB).size))
      clear b5 BB T1 T2
      have T1 := T1n
      have T2 := T2n
      have BB := BBn
      clear BBn T1n T2n
      have fT10 := (unhide T1).c0
      have fT11 := (unhide T1).c1
      have fT20 := (unhide T2).c0
      have fT21 := (unhide T2).c1
      go_wp2_with fail
      clear fT10 fT11 fT20 fT21
      refine (unhide Hs4 _).mono ?_
      rintro e w6 ⟨rfl, b6⟩
      have T1n := hide ((unhide T1).up b6)
      have T2n := hide ((unhide T2).up b6)
      have BBn := hide ((unhide BB).trans (b6.mono (unhide BB).size))
      clear b6 BB T1 T2
      have T1 := T1n
      have T2 := T2n
      have BB := BBn
      clear BBn T1n T2n
      have fT10 := (unhide T1).c0
      have fT11 := (unhide T1).c1
      have fT20 := (unhide T2).c0
      have fT21 := (unhide T2).c1
      go_wp2_with fail
      clear fT10 fT11 fT20 fT21
      refine (unhide Ha1 _).mono ?_
      rintro e w7 ⟨rfl, b7⟩
      have T1n := hide ((unhide T1).up b7)
      have T2n := hide ((unhide T2).up b7)
      have BBn := hide ((unhide BB).trans (b7.mono (unhide BB).size))
      clear b7 BB T1 T2
      have T1 := T1n
      have T2 := T2n
      have BB := BBn
      clear BBn T1n T2n
      have T1n := hide ((unhide T1).alloc (.cells #[.int .i64 x, .int .i64 y] 23))
      have T2n := hide ((unhide T2).alloc (.cells #[.int .i64 x, .int .i64 y] 23))
      have S1 := hide (two_alloc w7 (.int .i64 x) (.int .i64 y) 23)
      have BBn := hide ((unhide BB).alloc (unhide BB).size (.cells #[.int .i64 x, .int .i64 y] 23))
      clear BB T1 T2
      have T1 := T1n
      have T2 := T2n
      have BB := BBn
      clear BBn T1n T2n
      have fT10 := (unhide T1).c0
      have fT11 := (unhide T1).c1
      have fT20 := (unhide T2).c0
      have fT21 := (unhide T2).c1
      have fS10 := (unhide S1).c0
      have fS11 := (unhide S1).c1
      go_wp2_with fail
      clear fT10 fT11 fT20 fT21 fS10 fS11
      refine (unhide HS _).mono ?_
      rintro e w8 ⟨rfl, b8⟩
      have T1n := hide ((unhide T1).up b8)
      have T2n := hide ((unhide T2).up b8)
      have S1n := hide ((unhide S1).up b8)
      have BBn := hide ((unhide BB).trans (b8.mono (unhide BB).size))
      clear b8 BB T1 T2 S1
      have T1 := T1n
      have T2 := T2n
      have S1 := S1n
      have BB := BBn
      clear BBn T1n T2n S1n
      have fT10 := (unhide T1).c0
      have fT11 := (unhide T1).c1
      have fT20 := (unhide T2).c0
      have fT21 := (unhide T2).c1
      have fS10 := (unhide S1).c0
      have fS11 := (unhide S1).c1
      go_wp2_with fail
      clear fT10 fT11 fT20 fT21 fS10 fS11
      refine (rtawake_any _).mono ?_
      rintro e w9 ⟨rfl, b9⟩
      have T1n := hide ((unhide T1).up b9)
      have T2n := hide ((unhide T2).up b9)
      have S1n := hide ((unhide S1).up b9)
      have BBn := hide ((unhide BB).trans (b9.mono (unhide BB).size))
      clear b9 BB T1 T2 S1
      have T1 := T1n
      have T2 := T2n
      have S1 := S1n
      have BB := BBn
      clear BBn T1n T2n S1n
      have fT10 := (unhide T1).c0
      have fT11 := (unhide T1).c1
      have fT20 := (unhide T2).c0
      have fT21 := (unhide T2).c1
      have fS10 := (unhide S1).c0
      have fS11 := (unhide S1).c1
      go_wp2_with fail
      clear fT10 fT11 fT20 fT21 fS10 fS11
      refine (unhide Hcp _).mono ?_
      rintro e w10 ⟨rfl, b10⟩
      have T1n := hide ((unhide T1).up b10)
      have T2n := hide ((unhide T2).up b10)
      have S1n := hide ((unhide S1).up b10)
      have BBn := hide ((unhide BB).trans (b10.mono (unhide BB).size))
      clear b10 BB T1 T2 S1
      have T1 := T1n
      have T2 := T2n
      have S1 := S1n
      have BB := BBn
      clear BBn T1n T2n S1n
      go_wp2
      go_ret
      exact ⟨rfl, unhide BB⟩
    · go_enter Try.func8, Try.ntmps8
      go_wp2_with fail
      refine (unhide Hc0 _).mono ?_
      rintro e w1 ⟨rfl, b1⟩
      have T1n := hide ((unhide T1).up b1)
      have T2n := hide ((unhide T2).up b1)
      have BBn := hide ((unhide BB).trans (b1.mono (unhide BB).size))
      clear b1 BB T1 T2
      have T1 := T1n
      have T2 := T2n
      have BB := BBn
      clear BBn T1n T2n
      have fT20 := (unhide T2).c0
      have fT21 := (unhide T2).c1
      go_wp2_with fail
      clear fT20 fT21
      refine (unhide Hc1 _).mono ?_
      rintro e w2 ⟨rfl, b2⟩
      have T1n := hide ((unhide T1).up b2)
      have T2n := hide ((unhide T2).up b2)
      have BBn := hide ((unhide BB).trans (b2.mono (unhide BB).size))
      clear b2 BB T1 T2
      have T1 := T1n
      have T2 := T2n
      have BB := BBn
      clear BBn T1n T2n
      have fT10 := (unhide T1).c0
      have fT11 := (unhide T1).c1
      have fT20 := (unhide T2).c0
      have fT21 := (unhide T2).c1
      go_wp2_with fail
      clear fT10 fT11 fT20 fT21
      refine (unhide Hs1 _).mono ?_
      rintro e w3 ⟨rfl, b3⟩
      have T1n := hide ((unhide T1).up b3)
      have T2n := hide ((unhide T2).up b3)
      have BBn := hide ((unhide BB).trans (b3.mono (unhide BB).size))
      clear b3 BB T1 T2
      have T1 := T1n
      have T2 := T2n
      have BB := BBn
      clear BBn T1n T2n
      have fT10 := (unhide T1).c0
      have fT11 := (unhide T1).c1
      have fT20 := (unhide T2).c0
      have fT21 := (unhide T2).c1
      go_wp2_with fail
      clear fT10 fT11 fT20 fT21
      refine (unhide Hs2 _).mono ?_
      rintro e w4 ⟨rfl, b4⟩
      have T1n := hide ((unhide T1).up b4)
      have T2n := hide ((unhide T2).up b4)
      have BBn := hide ((unhide BB).trans (b4.mono (unhide BB).size))
      clear b4 BB T1 T2
      have T1 := T1n
      have T2 := T2n
      have BB := BBn
      clear BBn T1n T2n
      have fT10 := (unhide T1).c0
      have fT11 := (unhide T1).c1
      have fT20 := (unhide T2).c0
      have fT21 := (unhide T2).c1
      go_wp2_with fail
      clear fT10 fT11 fT20 fT21
      refine (unhide Hs3 _).mono ?_
      rintro e w5 ⟨rfl, b5⟩
      have T1n := hide ((unhide T1).up b5)
      have T2n := hide ((unhide T2).up b5)
      have BBn := hide ((unhide BB).trans (b5.mono (unhide BB).size))
      clear b5 BB T1 T2
      have T1 := T1n
      have T2 := T2n
      have BB := BBn
      clear BBn T1n T2n
      have fT10 := (unhide T1).c0
      have fT11 := (unhide T1).c1
      have fT20 := (unhide T2).c0
      have fT21 := (unhide T2).c1
      go_wp2_with fail
      clear fT10 fT11 fT20 fT21
      refine (unhide Hs4 _).mono ?_
      rintro e w6 ⟨rfl, b6⟩
      have T1n := hide ((unhide T1).up b6)
      have T2n := hide ((unhide T2).up b6)
      have BBn := hide ((unhide BB).trans (b6.mono (unhide BB).size))
      clear b6 BB T1 T2
      have T1 := T1n
      have T2 := T2n
      have BB := BBn
      clear BBn T1n T2n
      have fT10 := (unhide T1).c0
      have fT11 := (unhide T1).c1
      have fT20 := (unhide T2).c0
      have fT21 := (unhide T2).c1
      go_wp2_with fail
      clear fT10 fT11 fT20 fT21
      refine (unhide Ha1 _).mono ?_
      rintro e w7 ⟨rfl, b7⟩
      have T1n := hide ((unhide T1).up b7)
      have T2n := hide ((unhide T2).up b7)
      have BBn := hide ((unhide BB).trans (b7.mono (unhide BB).size))
      clear b7 BB T1 T2
      have T1 := T1n
      have T2 := T2n
      have BB := BBn
      clear BBn T1n T2n
      have T1n := hide ((unhide T1).alloc (.cells #[.int .i64 x, .int .i64 y] 23))
      have T2n := hide ((unhide T2).alloc (.cells #[.int .i64 x, .int .i64 y] 23))
      have S1 := hide (two_alloc w7 (.int .i64 x) (.int .i64 y) 23)
      have BBn := hide ((unhide BB).alloc (unhide BB).size (.cells #[.int .i64 x, .int .i64 y] 23))
      clear BB T1 T2
      have T1 := T1n
      have T2 := T2n
      have BB := BBn
      clear BBn T1n T2n
      have fT10 := (unhide T1).c0
      have fT11 := (unhide T1).c1
      have fT20 := (unhide T2).c0
      have fT21 := (unhide T2).c1
      have fS10 := (unhide S1).c0
      have fS11 := (unhide S1).c1
      go_wp2_with fail
      clear fT10 fT11 fT20 fT21 fS10 fS11
      refine (rtawake_any _).mono ?_
      rintro e w8 ⟨rfl, b8⟩
      have T1n := hide ((unhide T1).up b8)
      have T2n := hide ((unhide T2).up b8)
      have S1n := hide ((unhide S1).up b8)
      have BBn := hide ((unhide BB).trans (b8.mono (unhide BB).size))
      clear b8 BB T1 T2 S1
      have T1 := T1n
      have T2 := T2n
      have S1 := S1n
      have BB := BBn
      clear BBn T1n T2n S1n
      have fT10 := (unhide T1).c0
      have fT11 := (unhide T1).c1
      have fT20 := (unhide T2).c0
      have fT21 := (unhide T2).c1
      have fS10 := (unhide S1).c0
      have fS11 := (unhide S1).c1
      go_wp2_with fail
      clear fT10 fT11 fT20 fT21 fS10 fS11
      refine (unhide Hcp _).mono ?_
      rintro e w9 ⟨rfl, b9⟩
      have T1n := hide ((unhide T1).up b9)
      have T2n := hide ((unhide T2).up b9)
      have S1n := hide ((unhide S1).up b9)
      have BBn := hide ((unhide BB).trans (b9.mono (unhide BB).size))
      clear b9 BB T1 T2 S1
      have T1 := T1n
      have T2 := T2n
      have S1 := S1n
      have BB := BBn
      clear BBn T1n T2n S1n
      go_wp2
      go_ret
      exact ⟨rfl, unhide BB⟩
  · by_cases ga : z = 0
    · subst ga
      obtain ⟨_, hsm, hsb, HS⟩ := unhide hAd x y rfl
      simp only [rv] at HS
      have HS := hide HS
      generalize x * k / y = S at *
      have n1 : ¬ S < A + C := by omega
      have n2 : ¬ A + C + 1 < S := by omega
      go_enter Try.func8, Try.ntmps8
      go_wp2_with fail
      refine (unhide Hc0 _).mono ?_
      rintro e w1 ⟨rfl, b1⟩
      have T1n := hide ((unhide T1).up b1)
      have T2n := hide ((unhide T2).up b1)
      have BBn := hide ((unhide BB).trans (b1.mono (unhide BB).size))
      clear b1 BB T1 T2
      have T1 := T1n
      have T2 := T2n
      have BB := BBn
      clear BBn T1n T2n
      have fT20 := (unhide T2).c0
      have fT21 := (unhide T2).c1
      go_wp2_with fail
      clear fT20 fT21
      refine (unhide Hc1 _).mono ?_
      rintro e w2 ⟨rfl, b2⟩
      have T1n := hide ((unhide T1).up b2)
      have T2n := hide ((unhide T2).up b2)
      have BBn := hide ((unhide BB).trans (b2.mono (unhide BB).size))
      clear b2 BB T1 T2
      have T1 := T1n
      have T2 := T2n
      have BB := BBn
      clear BBn T1n T2n
      have fT10 := (unhide T1).c0
      have fT11 := (unhide T1).c1
      have fT20 := (unhide T2).c0
      have fT21 := (unhide T2).c1
      go_wp2_with fail
      clear fT10 fT11 fT20 fT21
      refine (unhide Hs1 _).mono ?_
      rintro e w3 ⟨rfl, b3⟩
      have T1n := hide ((unhide T1).up b3)
      have T2n := hide ((unhide T2).up b3)
      have BBn := hide ((unhide BB).trans (b3.mono (unhide BB).size))
      clear b3 BB T1 T2
      have T1 := T1n
      have T2 := T2n
      have BB := BBn
      clear BBn T1n T2n
      have fT10 := (unhide T1).c0
      have fT11 := (unhide T1).c1
      have fT20 := (unhide T2).c0
      have fT21 := (unhide T2).c1
      go_wp2_with fail
      clear fT10 fT11 fT20 fT21
      refine (unhide Hs2 _).mono ?_
      rintro e w4 ⟨rfl, b4⟩
      have T1n := hide ((unhide T1).up b4)
      have T2n := hide ((unhide T2).up b4)
      have BBn := hide ((unhide BB).trans (b4.mono (unhide BB).size))
      clear b4 BB T1 T2
      have T1 := T1n
      have T2 := T2n
      have BB := BBn
      clear BBn T1n T2n
      have fT10 := (unhide T1).c0
      have fT11 := (unhide T1).c1
      have fT20 := (unhide T2).c0
      have fT21 := (unhide T2).c1
      go_wp2_with fail
      clear fT10 fT11 fT20 fT21
      refine (unhide Hs3 _).mono ?_
      rintro e w5 ⟨rfl, b5⟩
      have T1n := hide ((unhide T1).up b5)
      have T2n := hide ((unhide T2).up b5)
      have BBn := hide ((unhide BB).trans (b5.mono (unhide BB).size))
      clear b5 BB T1 T2
      have T1 := T1n
      have T2 := T2n
      have BB := BBn
      clear BBn T1n T2n
      have fT10 := (unhide T1).c0
      have fT11 := (unhide T1).c1
      have fT20 := (unhide T2).c0
      have fT21 := (unhide T2).c1
      go_wp2_with fail
      clear fT10 fT11 fT20 fT21
      refine (unhide Hs4 _).mono ?_
      rintro e w6 ⟨rfl, b6⟩
      have T1n := hide ((unhide T1).up b6)
      have T2n := hide ((unhide T2).up b6)
      have BBn := hide ((unhide BB).trans (b6.mono (unhide BB).size))
      clear b6 BB T1 T2
      have T1 := T1n
      have T2 := T2n
      have BB := BBn
      clear BBn T1n T2n
      have fT10 := (unhide T1).c0
      have fT11 := (unhide T1).c1
      have fT20 := (unhide T2).c0
      have fT21 := (unhide T2).c1
      go_wp2_with fail
      clear fT10 fT11 fT20 fT21
      refine (unhide Ha1 _).mono ?_
      rintro e w7 ⟨rfl, b7⟩
      have T1n := hide ((unhide T1).up b7)
      have T2n := hide ((unhide T2).up b7)
      have BBn := hide ((unhide BB).trans (b7.mono (unhide BB).size))
      clear b7 BB T1 T2
      have T1 := T1n
      have T2 := T2n
      have BB := BBn
      clear BBn T1n T2n
      have T1n := hide ((unhide T1).alloc (.cells #[.int .i64 x, .int .i64 y] 23))
      have T2n := hide ((unhide T2).alloc (.cells #[.int .i64 x, .int .i64 y] 23))
      have S1 := hide (two_alloc w7 (.int .i64 x) (.int .i64 y) 23)
      have BBn := hide ((unhide BB).alloc (unhide BB).size (.cells #[.int .i64 x, .int .i64 y] 23))
      clear BB T1 T2
      have T1 := T1n
      have T2 := T2n
      have BB := BBn
      clear BBn T1n T2n
      have fT10 := (unhide T1).c0
      have fT11 := (unhide T1).c1
      have fT20 := (unhide T2).c0
      have fT21 := (unhide T2).c1
      have fS10 := (unhide S1).c0
      have fS11 := (unhide S1).c1
      go_wp2_with fail
      clear fT10 fT11 fT20 fT21 fS10 fS11
      refine (unhide HS _).mono ?_
      rintro e w8 ⟨rfl, b8⟩
      have T1n := hide ((unhide T1).up b8)
      have T2n := hide ((unhide T2).up b8)
      have S1n := hide ((unhide S1).up b8)
      have BBn := hide ((unhide BB).trans (b8.mono (unhide BB).size))
      clear b8 BB T1 T2 S1
      have T1 := T1n
      have T2 := T2n
      have S1 := S1n
      have BB := BBn
      clear BBn T1n T2n S1n
      have fT10 := (unhide T1).c0
      have fT11 := (unhide T1).c1
      have fT20 := (unhide T2).c0
      have fT21 := (unhide T2).c1
      have fS10 := (unhide S1).c0
      have fS11 := (unhide S1).c1
      go_wp2_with fail
      clear fT10 fT11 fT20 fT21 fS10 fS11
      refine (rtawake_any _).mono ?_
      rintro e w9 ⟨rfl, b9⟩
      have T1n := hide ((unhide T1).up b9)
      have T2n := hide ((unhide T2).up b9)
      have S1n := hide ((unhide S1).up b9)
      have BBn := hide ((unhide BB).trans (b9.mono (unhide BB).size))
      clear b9 BB T1 T2 S1
      have T1 := T1n
      have T2 := T2n
      have S1 := S1n
      have BB := BBn
      clear BBn T1n T2n S1n
      have fT10 := (unhide T1).c0
      have fT11 := (unhide T1).c1
      have fT20 := (unhide T2).c0
      have fT21 := (unhide T2).c1
      have fS10 := (unhide S1).c0
      have fS11 := (unhide S1).c1
      go_wp2_with fail
      clear fT10 fT11 fT20 fT21 fS10 fS11
      refine (unhide Hcp _).mono ?_
      rintro e w10 ⟨rfl, b10⟩
      have T1n := hide ((unhide T1).up b10)
      have T2n := hide ((unhide T2).up b10)
      have S1n := hide ((unhide S1).up b10)
      have BBn := hide ((unhide BB).trans (b10.mono (unhide BB).size))
      clear b10 BB T1 T2 S1
      have T1 := T1n
      have T2 := T2n
      have S1 := S1n
      have BB := BBn
      clear BBn T1n T2n S1n
      go_wp2
      go_ret
      exact ⟨rfl, unhide BB⟩
    · go_enter Try.func8, Try.ntmps8
      go_wp2_with fail
      refine (unhide Hc0 _).mono ?_
      rintro e w1 ⟨rfl, b1⟩
      have T1n := hide ((unhide T1).up b1)
      have T2n := hide ((unhide T2).up b1)
      have BBn := hide ((unhide BB).trans (b1.mono (unhide BB).size))
      clear b1 BB T1 T2
      have T1 := T1n
      have T2 := T2n
      have BB := BBn
      clear BBn T1n T2n
      have fT20 := (unhide T2).c0
      have fT21 := (unhide T2).c1
      go_wp2_with fail
      clear fT20 fT21
      refine (unhide Hc1 _).mono ?_
      rintro e w2 ⟨rfl, b2⟩
      have T1n := hide ((unhide T1).up b2)
      have T2n := hide ((unhide T2).up b2)
      have BBn := hide ((unhide BB).trans (b2.mono (unhide BB).size))
      clear b2 BB T1 T2
      have T1 := T1n
      have T2 := T2n
      have BB := BBn
      clear BBn T1n T2n
      have fT10 := (unhide T1).c0
      have fT11 := (unhide T1).c1
      have fT20 := (unhide T2).c0
      have fT21 := (unhide T2).c1
      go_wp2_with fail
      clear fT10 fT11 fT20 fT21
      refine (unhide Hs1 _).mono ?_
      rintro e w3 ⟨rfl, b3⟩
      have T1n := hide ((unhide T1).up b3)
      have T2n := hide ((unhide T2).up b3)
      have BBn := hide ((unhide BB).trans (b3.mono (unhide BB).size))
      clear b3 BB T1 T2
      have T1 := T1n
      have T2 := T2n
      have BB := BBn
      clear BBn T1n T2n
      have fT10 := (unhide T1).c0
      have fT11 := (unhide T1).c1
      have fT20 := (unhide T2).c0
      have fT21 := (unhide T2).c1
      go_wp2_with fail
      clear fT10 fT11 fT20 fT21
      refine (unhide Hs2 _).mono ?_
      rintro e w4 ⟨rfl, b4⟩
      have T1n := hide ((unhide T1).up b4)
      have T2n := hide ((unhide T2).up b4)
      have BBn := hide ((unhide BB).trans (b4.mono (unhide BB).size))
      clear b4 BB T1 T2
      have T1 := T1n
      have T2 := T2n
      have BB := BBn
      clear BBn T1n T2n
      have fT10 := (unhide T1).c0
      have fT11 := (unhide T1).c1
      have fT20 := (unhide T2).c0
      have fT21 := (unhide T2).c1
      go_wp2_with fail
      clear fT10 fT11 fT20 fT21
      refine (unhide Hs3 _).mono ?_
      rintro e w5 ⟨rfl, b5⟩
      have T1n := hide ((unhide T1).up b5)
      have T2n := hide ((unhide T2).up b5)
      have BBn := hide ((unhide BB).trans (b5.mono (unhide BB).size))
      clear b5 BB T1 T2
      have T1 := T1n
      have T2 := T2n
      have BB := BBn
      clear BBn T1n T2n
      have fT10 := (unhide T1).c0
      have fT11 := (unhide T1).c1
      have fT20 := (unhide T2).c0
      have fT21 := (unhide T2).c1
      go_wp2_with fail
      clear fT10 fT11 fT20 fT21
      refine (unhide Hs4 _).mono ?_
      rintro e w6 ⟨rfl, b6⟩
      have T1n := hide ((unhide T1).up b6)
      have T2n := hide ((unhide T2).up b6)
      have BBn := hide ((unhide BB).trans (b6.mono (unhide BB).size))
      clear b6 BB T1 T2
      have T1 := T1n
      have T2 := T2n
      have BB := BBn
      clear BBn T1n T2n
      have fT10 := (unhide T1).c0
      have fT11 := (unhide T1).c1
      have fT20 := (unhide T2).c0
      have fT21 := (unhide T2).c1
      go_wp2_with fail
      clear fT10 fT11 fT20 fT21
      refine (unhide Ha1 _).mono ?_
      rintro e w7 ⟨rfl, b7⟩
      have T1n := hide ((unhide T1).up b7)
      have T2n := hide ((unhide T2).up b7)
      have BBn := hide ((unhide BB).trans (b7.mono (unhide BB).size))
      clear b7 BB T1 T2
      have T1 := T1n
      have T2 := T2n
      have BB := BBn
      clear BBn T1n T2n
      have T1n := hide ((unhide T1).alloc (.cells #[.int .i64 x, .int .i64 y] 23))
      have T2n := hide ((unhide T2).alloc (.cells #[.int .i64 x, .int .i64 y] 23))
      have S1 := hide (two_alloc w7 (.int .i64 x) (.int .i64 y) 23)
      have BBn := hide ((unhide BB).alloc (unhide BB).size (.cells #[.int .i64 x, .int .i64 y] 23))
      clear BB T1 T2
      have T1 := T1n
      have T2 := T2n
      have BB := BBn
      clear BBn T1n T2n
      have fT10 := (unhide T1).c0
      have fT11 := (unhide T1).c1
      have fT20 := (unhide T2).c0
      have fT21 := (unhide T2).c1
      have fS10 := (unhide S1).c0
      have fS11 := (unhide S1).c1
      go_wp2_with fail
      clear fT10 fT11 fT20 fT21 fS10 fS11
      refine (rtawake_any _).mono ?_
      rintro e w8 ⟨rfl, b8⟩
      have T1n := hide ((unhide T1).up b8)
      have T2n := hide ((unhide T2).up b8)
      have S1n := hide ((unhide S1).up b8)
      have BBn := hide ((unhide BB).trans (b8.mono (unhide BB).size))
      clear b8 BB T1 T2 S1
      have T1 := T1n
      have T2 := T2n
      have S1 := S1n
      have BB := BBn
      clear BBn T1n T2n S1n
      have fT10 := (unhide T1).c0
      have fT11 := (unhide T1).c1
      have fT20 := (unhide T2).c0
      have fT21 := (unhide T2).c1
      have fS10 := (unhide S1).c0
      have fS11 := (unhide S1).c1
      go_wp2_with fail
      clear fT10 fT11 fT20 fT21 fS10 fS11
      refine (unhide Hcp _).mono ?_
      rintro e w9 ⟨rfl, b9⟩
      have T1n := hide ((unhide T1).up b9)
      have T2n := hide ((unhide T2).up b9)
      have S1n := hide ((unhide S1).up b9)
      have BBn := hide ((unhide BB).trans (b9.mono (unhide BB).size))
      clear b9 BB T1 T2 S1
      have T1 := T1n
      have T2 := T2n
      have S1 := S1n
      have BB := BBn
      clear BBn T1n T2n S1n
      go_wp2
      go_ret
      exact ⟨rfl, unhide BB⟩

end Go.Proofs.Ytmaeebgphblilaa

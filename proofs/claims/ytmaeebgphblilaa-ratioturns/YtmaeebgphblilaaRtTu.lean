/- What the law RatioTurns does, whatever the world: it answers true and changes nothing that was there. -/
import Derived.Test.YtmaeebgphblilaaRtMk
import Derived.Test.YtmaeebgphblilaaRtP
namespace Go.Proofs.Ytmaeebgphblilaa
open Go.RowKit
set_option linter.unusedVariables false

set_option maxRecDepth 100000 in
set_option maxHeartbeats 8000000 in
theorem ratioTurns_any (a b c d : Int) (w : World) (wa : (Lit.int .i64 a).wf = true) (wb : (Lit.int .i64 b).wf = true) (wc : (Lit.int .i64 c).wf = true) (wd : (Lit.int .i64 d).wf = true) :
    Calls Try.prog 6 #[rv a b, rv c d] w fun e w' => e = .returned (.bool true) ∧ Below w.heap.size w w' := by
  obtain ⟨a0, a1⟩ := bounds_i64 wa
  obtain ⟨b0, b1⟩ := bounds_i64 wb
  obtain ⟨c0, c1⟩ := bounds_i64 wc
  obtain ⟨d0, d1⟩ := bounds_i64 wd
  have hc0 := fun w => check_any a b w (by omega) (by omega) (by omega) (by omega)
  have hc1 := fun w => check_any c d w (by omega) (by omega) (by omega) (by omega)
  obtain ⟨t1, t2, b0⟩ := twice_new w (.int .i64 a) (.int .i64 b) (.int .i64 c) (.int .i64 d) 23
  have T1 := hide t1
  have T2 := hide t2
  have BB := hide b0
  clear t1 t2 b0
  cases hE0 : okR a b
  · rw [hE0] at hc0
    clear hE0
    have hc0 := hide hc0
    unfold rv at *
    go_enter Try.func6, Try.ntmps6
    go_wp2_with fail
    refine (unhide hc0 _).mono ?_
    rintro e w1 ⟨rfl, b1⟩
    have T1n := hide ((unhide T1).up b1)
    have T2n := hide ((unhide T2).up b1)
    have BBn := hide ((unhide BB).trans (b1.mono (unhide BB).size))
    clear b1 BB T1 T2
    have T1 := T1n
    have T2 := T2n
    have BB := BBn
    clear BBn T1n T2n
    go_wp2_with fail
    refine (rtawake_any _).mono ?_
    rintro e w2 ⟨rfl, b2⟩
    have BBn := hide ((unhide BB).trans (b2.mono (unhide BB).size))
    clear b2
    go_wp2
    go_ret
    exact ⟨rfl, unhide BBn⟩
  rw [hE0] at hc0
  cases hE1 : okR c d
  · rw [hE1] at hc1
    clear hE1 hE0
    have hc1 := hide hc1
    have hc0 := hide hc0
    unfold rv at *
    go_enter Try.func6, Try.ntmps6
    go_wp2_with fail
    refine (unhide hc0 _).mono ?_
    rintro e w1 ⟨rfl, b1⟩
    have T1n := hide ((unhide T1).up b1)
    have T2n := hide ((unhide T2).up b1)
    have BBn := hide ((unhide BB).trans (b1.mono (unhide BB).size))
    clear b1 BB T1 T2
    have T1 := T1n
    have T2 := T2n
    have BB := BBn
    clear BBn T1n T2n
    have fT20 := (unhide T2).c0
    have fT21 := (unhide T2).c1
    go_wp2_with fail
    clear fT20 fT21
    refine (unhide hc1 _).mono ?_
    rintro e w1 ⟨rfl, b1⟩
    have T1n := hide ((unhide T1).up b1)
    have T2n := hide ((unhide T2).up b1)
    have BBn := hide ((unhide BB).trans (b1.mono (unhide BB).size))
    clear b1 BB T1 T2
    have T1 := T1n
    have T2 := T2n
    have BB := BBn
    clear BBn T1n T2n
    go_wp2_with fail
    refine (rtawake_any _).mono ?_
    rintro e w2 ⟨rfl, b2⟩
    have BBn := hide ((unhide BB).trans (b2.mono (unhide BB).size))
    clear b2
    go_wp2
    go_ret
    exact ⟨rfl, unhide BBn⟩
  rw [hE1] at hc1
  have ha1 := fun w => add_any a b c d w (by omega) (by omega) (by omega) (by omega) (by omega) (by omega) (by omega) (by omega)
  have ha2 := fun w => add_any c d a b w (by omega) (by omega) (by omega) (by omega) (by omega) (by omega) (by omega) (by omega)
  have hm1 := fun w => mul_any a b c d w (by omega) (by omega) (by omega) (by omega) (by omega) (by omega) (by omega) (by omega)
  have hm2 := fun w => mul_any c d a b w (by omega) (by omega) (by omega) (by omega) (by omega) (by omega) (by omega) (by omega)
  rw [← addA_comm] at ha2
  rw [← mulA_comm] at hm2
  have kA : ∀ x y : Int, addA a b c d = (x, y, 0) → okR x y = true ∧ ∀ w, Calls Try.prog 19 #[rv x y, rv c d] w fun e w' => e = .returned (rvE (a, b, 0)) ∧ Below w.heap.size w w' := by
    intro x y h
    obtain ⟨h1, h2, _⟩ := addA_back hE0 hE1 h
    refine ⟨h2, fun w => ?_⟩
    obtain ⟨o1, o2, o3, o4, _⟩ := okR_of h2
    have := sub_any x y c d w (by omega) (by omega) (by omega) (by omega) (by omega) (by omega) (by omega) (by omega)
    rwa [h1] at this
  have kM : ∀ x y : Int, c ≠ 0 → mulA a b c d = (x, y, 0) → okR x y = true ∧ ∀ w, Calls Try.prog 22 #[rv x y, rv c d] w fun e w' => e = .returned (rvE (a, b, 0)) ∧ Below w.heap.size w w' := by
    intro x y hc h
    obtain ⟨_, _, u1, _, _⟩ := okR_of hE0
    obtain ⟨_, _, u2, _, _⟩ := okR_of hE1
    have h2 : okR x y = true := by
      have h' := h
      unfold mulA at h'
      rw [hE0, hE1, Bool.and_self, if_pos rfl] at h'
      exact (loA_ok (Int.ne_of_gt (Int.mul_pos u1 u2)) h').1
    refine ⟨h2, fun w => ?_⟩
    obtain ⟨o1, o2, o3, o4, _⟩ := okR_of h2
    have := div_any x y c d w (by omega) (by omega) (by omega) (by omega) (by omega) (by omega) (by omega) (by omega)
    rwa [mulA_back hE0 hE1 hc h] at this
  have HkA := hide kA
  have HkM := hide kM
  clear kA kM
  generalize addA a b c d = RA at *
  obtain ⟨x, y, z⟩ := RA
  generalize mulA a b c d = RM at *
  obtain ⟨x', y', z'⟩ := RM
  clear hE0 hE1
  have zA : Hid (z = 0 ∨ ¬ z = 0) := by show _ ∨ _; omega
  simp only [rvE, rv] at hc0 hc1 ha1 ha2 hm1 hm2 ⊢
  have Hc0 := hide hc0
  have Hc1 := hide hc1
  have Ha1 := hide ha1
  have Ha2 := hide ha2
  have Hm1 := hide hm1
  have Hm2 := hide hm2
  clear hc0 hc1 ha1 ha2 hm1 hm2 wa a0 a1 wb b0 b1 wc c0 c1 wd d0 d1
  by_cases ga : z = 0
  · subst ga
    have HA := (unhide HkA x y rfl).2
    simp only [rvE, rv] at HA
    have HA := hide HA
    by_cases gm : z' = 0
    · subst gm
      by_cases gc : c = 0
      · subst gc
        go_enter Try.func6, Try.ntmps6
        go_wp2_with fail
        refine (unhide Hc0 _).mono ?_
        rintro e w1 ⟨rfl, b1⟩
        have T1n := hide ((unhide T1).up b1)
        have T2n := hide ((unhide T2).up b1)
        have BBn := hide ((unhide BB).trans (b1.mono (unhide BB).size))
        clear b1 BB T1 T2
        have T1 := T1n
        have T2 := T2n
        have BB := BBn
        clear BBn T1n T2n
        have fT20 := (unhide T2).c0
        have fT21 := (unhide T2).c1
        go_wp2_with fail
        clear fT20 fT21
        refine (unhide Hc1 _).mono ?_
        rintro e w2 ⟨rfl, b2⟩
        have T1n := hide ((unhide T1).up b2)
        have T2n := hide ((unhide T2).up b2)
        have BBn := hide ((unhide BB).trans (b2.mono (unhide BB).size))
        clear b2 BB T1 T2
        have T1 := T1n
        have T2 := T2n
        have BB := BBn
        clear BBn T1n T2n
        have fT10 := (unhide T1).c0
        have fT11 := (unhide T1).c1
        have fT20 := (unhide T2).c0
        have fT21 := (unhide T2).c1
        go_wp2_with fail
        clear fT10 fT11 fT20 fT21
        refine (unhide Ha1 _).mono ?_
        rintro e w3 ⟨rfl, b3⟩
        have T1n := hide ((unhide T1).up b3)
        have T2n := hide ((unhide T2).up b3)
        have BBn := hide ((unhide BB).trans (b3.mono (unhide BB).size))
        clear b3 BB T1 T2
        have T1 := T1n
        have T2 := T2n
        have BB := BBn
        clear BBn T1n T2n
        have T1n := hide ((unhide T1).alloc (.cells #[.int .i64 x, .int .i64 y] 23))
        have T2n := hide ((unhide T2).alloc (.cells #[.int .i64 x, .int .i64 y] 23))
        have S1 := hide (two_alloc w3 (.int .i64 x) (.int .i64 y) 23)
        have BBn := hide ((unhide BB).alloc (unhide BB).size (.cells #[.int .i64 x, .int .i64 y] 23))
        clear BB T1 T2
        have T1 := T1n
        have T2 := T2n
        have BB := BBn
        clear BBn T1n T2n
        have fT10 := (unhide T1).c0
        have fT11 := (unhide T1).c1
        have fT20 := (unhide T2).c0
        have fT21 := (unhide T2).c1
        go_wp2_with fail
        clear fT10 fT11 fT20 fT21
        refine (unhide Ha2 _).mono ?_
        rintro e w4 ⟨rfl, b4⟩
        have T1n := hide ((unhide T1).up b4)
        have T2n := hide ((unhide T2).up b4)
        have S1n := hide ((unhide S1).up b4)
        have BBn := hide ((unhide BB).trans (b4.mono (unhide BB).size))
        clear b4 BB T1 T2 S1
        have T1 := T1n
        have T2 := T2n
        have S1 := S1n
        have BB := BBn
        clear BBn T1n T2n S1n
        have T1n := hide ((unhide T1).alloc (.cells #[.int .i64 x, .int .i64 y] 23))
        have T2n := hide ((unhide T2).alloc (.cells #[.int .i64 x, .int .i64 y] 23))
        have S1n := hide ((unhide S1).alloc (.cells #[.int .i64 x, .int .i64 y] 23))
        have S2 := hide (two_alloc w4 (.int .i64 x) (.int .i64 y) 23)
        have BBn := hide ((unhide BB).alloc (unhide BB).size (.cells #[.int .i64 x, .int .i64 y] 23))
        clear BB T1 T2 S1
        have T1 := T1n
        have T2 := T2n
        have S1 := S1n
        have BB := BBn
        clear BBn T1n T2n S1n
        have fT10 := (unhide T1).c0
        have fT11 := (unhide T1).c1
        have fT20 := (unhide T2).c0
        have fT21 := (unhide T2).c1
        go_wp2_with fail
        clear fT10 fT11 fT20 fT21
        refine (unhide Hm1 _).mono ?_
        rintro e w5 ⟨rfl, b5⟩
        have T1n := hide ((unhide T1).up b5)
        have T2n := hide ((unhide T2).up b5)
        have S1n := hide ((unhide S1).up b5)
        have S2n := hide ((unhide S2).up b5)
        have BBn := hide ((unhide BB).trans (b5.mono (unhide BB).size))
        clear b5 BB T1 T2 S1 S2
        have T1 := T1n
        have T2 := T2n
        have S1 := S1n
        have S2 := S2n
        have BB := BBn
        clear BBn T1n T2n S1n S2n
        have T1n := hide ((unhide T1).alloc (.cells #[.int .i64 x', .int .i64 y'] 23))
        have T2n := hide ((unhide T2).alloc (.cells #[.int .i64 x', .int .i64 y'] 23))
        have S1n := hide ((unhide S1).alloc (.cells #[.int .i64 x', .int .i64 y'] 23))
        have S2n := hide ((unhide S2).alloc (.cells #[.int .i64 x', .int .i64 y'] 23))
        have S3 := hide (two_alloc w5 (.int .i64 x') (.int .i64 y') 23)
        have BBn := hide ((unhide BB).alloc (unhide BB).size (.cells #[.int .i64 x', .int .i64 y'] 23))
        clear BB T1 T2 S1 S2
        have T1 := T1n
        have T2 := T2n
        have S1 := S1n
        have S2 := S2n
        have BB := BBn
        clear BBn T1n T2n S1n S2n
        have fT10 := (unhide T1).c0
        have fT11 := (unhide T1).c1
        have fT20 := (unhide T2).c0
        have fT21 := (unhide T2).c1
        go_wp2_with fail
        clear fT10 fT11 fT20 fT21
        refine (unhide Hm2 _).mono ?_
        rintro e w6 ⟨rfl, b6⟩
        have T1n := hide ((unhide T1).up b6)
        have T2n := hide ((unhide T2).up b6)
        have S1n := hide ((unhide S1).up b6)
        have S2n := hide ((unhide S2).up b6)
        have S3n := hide ((unhide S3).up b6)
        have BBn := hide ((unhide BB).trans (b6.mono (unhide BB).size))
        clear b6 BB T1 T2 S1 S2 S3
        have T1 := T1n
        have T2 := T2n
        have S1 := S1n
        have S2 := S2n
        have S3 := S3n
        have BB := BBn
        clear BBn T1n T2n S1n S2n S3n
        have T1n := hide ((unhide T1).alloc (.cells #[.int .i64 x', .int .i64 y'] 23))
        have T2n := hide ((unhide T2).alloc (.cells #[.int .i64 x', .int .i64 y'] 23))
        have S1n := hide ((unhide S1).alloc (.cells #[.int .i64 x', .int .i64 y'] 23))
        have S2n := hide ((unhide S2).alloc (.cells #[.int .i64 x', .int .i64 y'] 23))
        have S3n := hide ((unhide S3).alloc (.cells #[.int .i64 x', .int .i64 y'] 23))
        have S4 := hide (two_alloc w6 (.int .i64 x') (.int .i64 y') 23)
        have BBn := hide ((unhide BB).alloc (unhide BB).size (.cells #[.int .i64 x', .int .i64 y'] 23))
        clear BB T1 T2 S1 S2 S3
        have T1 := T1n
        have T2 := T2n
        have S1 := S1n
        have S2 := S2n
        have S3 := S3n
        have BB := BBn
        clear BBn T1n T2n S1n S2n S3n
        have fT10 := (unhide T1).c0
        have fT11 := (unhide T1).c1
        have fT20 := (unhide T2).c0
        have fT21 := (unhide T2).c1
        have fS10 := (unhide S1).c0
        have fS11 := (unhide S1).c1
        have fS20 := (unhide S2).c0
        have fS21 := (unhide S2).c1
        have fS30 := (unhide S3).c0
        have fS31 := (unhide S3).c1
        have fS40 := (unhide S4).c0
        have fS41 := (unhide S4).c1
        go_wp2_with fail
        clear fT10 fT11 fT20 fT21 fS10 fS11 fS20 fS21 fS30 fS31 fS40 fS41
        refine (unhide HA _).mono ?_
        rintro e w7 ⟨rfl, b7⟩
        have T1n := hide ((unhide T1).up b7)
        have T2n := hide ((unhide T2).up b7)
        have S1n := hide ((unhide S1).up b7)
        have S2n := hide ((unhide S2).up b7)
        have S3n := hide ((unhide S3).up b7)
        have S4n := hide ((unhide S4).up b7)
        have BBn := hide ((unhide BB).trans (b7.mono (unhide BB).size))
        clear b7 BB T1 T2 S1 S2 S3 S4
        have T1 := T1n
        have T2 := T2n
        have S1 := S1n
        have S2 := S2n
        have S3 := S3n
        have S4 := S4n
        have BB := BBn
        clear BBn T1n T2n S1n S2n S3n S4n
        have T1n := hide ((unhide T1).alloc (.cells #[.int .i64 a, .int .i64 b] 23))
        have T2n := hide ((unhide T2).alloc (.cells #[.int .i64 a, .int .i64 b] 23))
        have S1n := hide ((unhide S1).alloc (.cells #[.int .i64 a, .int .i64 b] 23))
        have S2n := hide ((unhide S2).alloc (.cells #[.int .i64 a, .int .i64 b] 23))
        have S3n := hide ((unhide S3).alloc (.cells #[.int .i64 a, .int .i64 b] 23))
        have S4n := hide ((unhide S4).alloc (.cells #[.int .i64 a, .int .i64 b] 23))
        have S5 := hide (two_alloc w7 (.int .i64 a) (.int .i64 b) 23)
        have BBn := hide ((unhide BB).alloc (unhide BB).size (.cells #[.int .i64 a, .int .i64 b] 23))
        clear BB T1 T2 S1 S2 S3 S4
        have T1 := T1n
        have T2 := T2n
        have S1 := S1n
        have S2 := S2n
        have S3 := S3n
        have S4 := S4n
        have BB := BBn
        clear BBn T1n T2n S1n S2n S3n S4n
        have fT10 := (unhide T1).c0
        have fT11 := (unhide T1).c1
        have fT20 := (unhide T2).c0
        have fT21 := (unhide T2).c1
        have fS10 := (unhide S1).c0
        have fS11 := (unhide S1).c1
        have fS20 := (unhide S2).c0
        have fS21 := (unhide S2).c1
        have fS30 := (unhide S3).c0
        have fS31 := (unhide S3).c1
        have fS40 := (unhide S4).c0
        have fS41 := (unhide S4).c1
        have fS50 := (unhide S5).c0
        have fS51 := (unhide S5).c1
        go_wp2_with fail
        clear fT10 fT11 fT20 fT21 fS10 fS11 fS20 fS21 fS30 fS31 fS40 fS41 fS50 fS51
        refine (rtawake_any _).mono ?_
        rintro e w8 ⟨rfl, b8⟩
        have BBn := hide ((unhide BB).trans (b8.mono (unhide BB).size))
        clear b8
        go_wp2
        go_ret
        exact ⟨rfl, unhide BBn⟩
      · have HM := (unhide HkM x' y' gc rfl).2
        simp only [rvE, rv] at HM
        have HM := hide HM
        go_enter Try.func6, Try.ntmps6
        go_wp2_with fail
        refine (unhide Hc0 _).mono ?_
        rintro e w1 ⟨rfl, b1⟩
        have T1n := hide ((unhide T1).up b1)
        have T2n := hide ((unhide T2).up b1)
        have BBn := hide ((unhide BB).trans (b1.mono (unhide BB).size))
        clear b1 BB T1 T2
        have T1 := T1n
        have T2 := T2n
        have BB := BBn
        clear BBn T1n T2n
        have fT20 := (unhide T2).c0
        have fT21 := (unhide T2).c1
        go_wp2_with fail
        clear fT20 fT21
        refine (unhide Hc1 _).mono ?_
        rintro e w2 ⟨rfl, b2⟩
        have T1n := hide ((unhide T1).up b2)
        have T2n := hide ((unhide T2).up b2)
        have BBn := hide ((unhide BB).trans (b2.mono (unhide BB).size))
        clear b2 BB T1 T2
        have T1 := T1n
        have T2 := T2n
        have BB := BBn
        clear BBn T1n T2n
        have fT10 := (unhide T1).c0
        have fT11 := (unhide T1).c1
        have fT20 := (unhide T2).c0
        have fT21 := (unhide T2).c1
        go_wp2_with fail
        clear fT10 fT11 fT20 fT21
        refine (unhide Ha1 _).mono ?_
        rintro e w3 ⟨rfl, b3⟩
        have T1n := hide ((unhide T1).up b3)
        have T2n := hide ((unhide T2).up b3)
        have BBn := hide ((unhide BB).trans (b3.mono (unhide BB).size))
        clear b3 BB T1 T2
        have T1 := T1n
        have T2 := T2n
        have BB := BBn
        clear BBn T1n T2n
        have T1n := hide ((unhide T1).alloc (.cells #[.int .i64 x, .int .i64 y] 23))
        have T2n := hide ((unhide T2).alloc (.cells #[.int .i64 x, .int .i64 y] 23))
        have S1 := hide (two_alloc w3 (.int .i64 x) (.int .i64 y) 23)
        have BBn := hide ((unhide BB).alloc (unhide BB).size (.cells #[.int .i64 x, .int .i64 y] 23))
        clear BB T1 T2
        have T1 := T1n
        have T2 := T2n
        have BB := BBn
        clear BBn T1n T2n
        have fT10 := (unhide T1).c0
        have fT11 := (unhide T1).c1
        have fT20 := (unhide T2).c0
        have fT21 := (unhide T2).c1
        go_wp2_with fail
        clear fT10 fT11 fT20 fT21
        refine (unhide Ha2 _).mono ?_
        rintro e w4 ⟨rfl, b4⟩
        have T1n := hide ((unhide T1).up b4)
        have T2n := hide ((unhide T2).up b4)
        have S1n := hide ((unhide S1).up b4)
        have BBn := hide ((unhide BB).trans (b4.mono (unhide BB).size))
        clear b4 BB T1 T2 S1
        have T1 := T1n
        have T2 := T2n
        have S1 := S1n
        have BB := BBn
        clear BBn T1n T2n S1n
        have T1n := hide ((unhide T1).alloc (.cells #[.int .i64 x, .int .i64 y] 23))
        have T2n := hide ((unhide T2).alloc (.cells #[.int .i64 x, .int .i64 y] 23))
        have S1n := hide ((unhide S1).alloc (.cells #[.int .i64 x, .int .i64 y] 23))
        have S2 := hide (two_alloc w4 (.int .i64 x) (.int .i64 y) 23)
        have BBn := hide ((unhide BB).alloc (unhide BB).size (.cells #[.int .i64 x, .int .i64 y] 23))
        clear BB T1 T2 S1
        have T1 := T1n
        have T2 := T2n
        have S1 := S1n
        have BB := BBn
        clear BBn T1n T2n S1n
        have fT10 := (unhide T1).c0
        have fT11 := (unhide T1).c1
        have fT20 := (unhide T2).c0
        have fT21 := (unhide T2).c1
        go_wp2_with fail
        clear fT10 fT11 fT20 fT21
        refine (unhide Hm1 _).mono ?_
        rintro e w5 ⟨rfl, b5⟩
        have T1n := hide ((unhide T1).up b5)
        have T2n := hide ((unhide T2).up b5)
        have S1n := hide ((unhide S1).up b5)
        have S2n := hide ((unhide S2).up b5)
        have BBn := hide ((unhide BB).trans (b5.mono (unhide BB).size))
        clear b5 BB T1 T2 S1 S2
        have T1 := T1n
        have T2 := T2n
        have S1 := S1n
        have S2 := S2n
        have BB := BBn
        clear BBn T1n T2n S1n S2n
        have T1n := hide ((unhide T1).alloc (.cells #[.int .i64 x', .int .i64 y'] 23))
        have T2n := hide ((unhide T2).alloc (.cells #[.int .i64 x', .int .i64 y'] 23))
        have S1n := hide ((unhide S1).alloc (.cells #[.int .i64 x', .int .i64 y'] 23))
        have S2n := hide ((unhide S2).alloc (.cells #[.int .i64 x', .int .i64 y'] 23))
        have S3 := hide (two_alloc w5 (.int .i64 x') (.int .i64 y') 23)
        have BBn := hide ((unhide BB).alloc (unhide BB).size (.cells #[.int .i64 x', .int .i64 y'] 23))
        clear BB T1 T2 S1 S2
        have T1 := T1n
        have T2 := T2n
        have S1 := S1n
        have S2 := S2n
        have BB := BBn
        clear BBn T1n T2n S1n S2n
        have fT10 := (unhide T1).c0
        have fT11 := (unhide T1).c1
        have fT20 := (unhide T2).c0
        have fT21 := (unhide T2).c1
        go_wp2_with fail
        clear fT10 fT11 fT20 fT21
        refine (unhide Hm2 _).mono ?_
        rintro e w6 ⟨rfl, b6⟩
        have T1n := hide ((unhide T1).up b6)
        have T2n := hide ((unhide T2).up b6)
        have S1n := hide ((unhide S1).up b6)
        have S2n := hide ((unhide S2).up b6)
        have S3n := hide ((unhide S3).up b6)
        have BBn := hide ((unhide BB).trans (b6.mono (unhide BB).size))
        clear b6 BB T1 T2 S1 S2 S3
        have T1 := T1n
        have T2 := T2n
        have S1 := S1n
        have S2 := S2n
        have S3 := S3n
        have BB := BBn
        clear BBn T1n T2n S1n S2n S3n
        have T1n := hide ((unhide T1).alloc (.cells #[.int .i64 x', .int .i64 y'] 23))
        have T2n := hide ((unhide T2).alloc (.cells #[.int .i64 x', .int .i64 y'] 23))
        have S1n := hide ((unhide S1).alloc (.cells #[.int .i64 x', .int .i64 y'] 23))
        have S2n := hide ((unhide S2).alloc (.cells #[.int .i64 x', .int .i64 y'] 23))
        have S3n := hide ((unhide S3).alloc (.cells #[.int .i64 x', .int .i64 y'] 23))
        have S4 := hide (two_alloc w6 (.int .i64 x') (.int .i64 y') 23)
        have BBn := hide ((unhide BB).alloc (unhide BB).size (.cells #[.int .i64 x', .int .i64 y'] 23))
        clear BB T1 T2 S1 S2 S3
        have T1 := T1n
        have T2 := T2n
        have S1 := S1n
        have S2 := S2n
        have S3 := S3n
        have BB := BBn
        clear BBn T1n T2n S1n S2n S3n
        have fT10 := (unhide T1).c0
        have fT11 := (unhide T1).c1
        have fT20 := (unhide T2).c0
        have fT21 := (unhide T2).c1
        have fS10 := (unhide S1).c0
        have fS11 := (unhide S1).c1
        have fS20 := (unhide S2).c0
        have fS21 := (unhide S2).c1
        have fS30 := (unhide S3).c0
        have fS31 := (unhide S3).c1
        have fS40 := (unhide S4).c0
        have fS41 := (unhide S4).c1
        go_wp2_with fail
        clear fT10 fT11 fT20 fT21 fS10 fS11 fS20 fS21 fS30 fS31 fS40 fS41
        refine (unhide HA _).mono ?_
        rintro e w7 ⟨rfl, b7⟩
        have T1n := hide ((unhide T1).up b7)
        have T2n := hide ((unhide T2).up b7)
        have S1n := hide ((unhide S1).up b7)
        have S2n := hide ((unhide S2).up b7)
        have S3n := hide ((unhide S3).up b7)
        have S4n := hide ((unhide S4).up b7)
        have BBn := hide ((unhide BB).trans (b7.mono (unhide BB).size))
        clear b7 BB T1 T2 S1 S2 S3 S4
        have T1 := T1n
        have T2 := T2n
        have S1 := S1n
        have S2 := S2n
        have S3 := S3n
        have S4 := S4n
        have BB := BBn
        clear BBn T1n T2n S1n S2n S3n S4n
        have T1n := hide ((unhide T1).alloc (.cells #[.int .i64 a, .int .i64 b] 23))
        have T2n := hide ((unhide T2).alloc (.cells #[.int .i64 a, .int .i64 b] 23))
        have S1n := hide ((unhide S1).alloc (.cells #[.int .i64 a, .int .i64 b] 23))
        have S2n := hide ((unhide S2).alloc (.cells #[.int .i64 a, .int .i64 b] 23))
        have S3n := hide ((unhide S3).alloc (.cells #[.int .i64 a, .int .i64 b] 23))
        have S4n := hide ((unhide S4).alloc (.cells #[.int .i64 a, .int .i64 b] 23))
        have S5 := hide (two_alloc w7 (.int .i64 a) (.int .i64 b) 23)
        have BBn := hide ((unhide BB).alloc (unhide BB).size (.cells #[.int .i64 a, .int .i64 b] 23))
        clear BB T1 T2 S1 S2 S3 S4
        have T1 := T1n
        have T2 := T2n
        have S1 := S1n
        have S2 := S2n
        have S3 := S3n
        have S4 := S4n
        have BB := BBn
        clear BBn T1n T2n S1n S2n S3n S4n
        have fT10 := (unhide T1).c0
        have fT11 := (unhide T1).c1
        have fT20 := (unhide T2).c0
        have fT21 := (unhide T2).c1
        have fS10 := (unhide S1).c0
        have fS11 := (unhide S1).c1
        have fS20 := (unhide S2).c0
        have fS21 := (unhide S2).c1
        have fS30 := (unhide S3).c0
        have fS31 := (unhide S3).c1
        have fS40 := (unhide S4).c0
        have fS41 := (unhide S4).c1
        have fS50 := (unhide S5).c0
        have fS51 := (unhide S5).c1
        go_wp2_with fail
        clear fT10 fT11 fT20 fT21 fS10 fS11 fS20 fS21 fS30 fS31 fS40 fS41 fS50 fS51
        refine (unhide HM _).mono ?_
        rintro e w8 ⟨rfl, b8⟩
        have T1n := hide ((unhide T1).up b8)
        have T2n := hide ((unhide T2).up b8)
        have S1n := hide ((unhide S1).up b8)
        have S2n := hide ((unhide S2).up b8)
        have S3n := hide ((unhide S3).up b8)
        have S4n := hide ((unhide S4).up b8)
        have S5n := hide ((unhide S5).up b8)
        have BBn := hide ((unhide BB).trans (b8.mono (unhide BB).size))
        clear b8 BB T1 T2 S1 S2 S3 S4 S5
        have T1 := T1n
        have T2 := T2n
        have S1 := S1n
        have S2 := S2n
        have S3 := S3n
        have S4 := S4n
        have S5 := S5n
        have BB := BBn
        clear BBn T1n T2n S1n S2n S3n S4n S5n
        have T1n := hide ((unhide T1).alloc (.cells #[.int .i64 a, .int .i64 b] 23))
        have T2n := hide ((unhide T2).alloc (.cells #[.int .i64 a, .int .i64 b] 23))
        have S1n := hide ((unhide S1).alloc (.cells #[.int .i64 a, .int .i64 b] 23))
        have S2n := hide ((unhide S2).alloc (.cells #[.int .i64 a, .int .i64 b] 23))
        have S3n := hide ((unhide S3).alloc (.cells #[.int .i64 a, .int .i64 b] 23))
        have S4n := hide ((unhide S4).alloc (.cells #[.int .i64 a, .int .i64 b] 23))
        have S5n := hide ((unhide S5).alloc (.cells #[.int .i64 a, .int .i64 b] 23))
        have S6 := hide (two_alloc w8 (.int .i64 a) (.int .i64 b) 23)
        have BBn := hide ((unhide BB).alloc (unhide BB).size (.cells #[.int .i64 a, .int .i64 b] 23))
        clear BB T1 T2 S1 S2 S3 S4 S5
        have T1 := T1n
        have T2 := T2n
        have S1 := S1n
        have S2 := S2n
        have S3 := S3n
        have S4 := S4n
        have S5 := S5n
        have BB := BBn
        clear BBn T1n T2n S1n S2n S3n S4n S5n
        have fT10 := (unhide T1).c0
        have fT11 := (unhide T1).c1
        have fT20 := (unhide T2).c0
        have fT21 := (unhide T2).c1
        have fS10 := (unhide S1).c0
        have fS11 := (unhide S1).c1
        have fS20 := (unhide S2).c0
        have fS21 := (unhide S2).c1
        have fS30 := (unhide S3).c0
        have fS31 := (unhide S3).c1
        have fS40 := (unhide S4).c0
        have fS41 := (unhide S4).c1
        have fS50 := (unhide S5).c0
        have fS51 := (unhide S5).c1
        have fS60 := (unhide S6).c0
        have fS61 := (unhide S6).c1
        go_wp2_with fail
        clear fT10 fT11 fT20 fT21 fS10 fS11 fS20 fS21 fS30 fS31 fS40 fS41 fS50 fS51 fS60 fS61
        refine (rtawake_any _).mono ?_
        rintro e w9 ⟨rfl, b9⟩
        have BBn := hide ((unhide BB).trans (b9.mono (unhide BB).size))
        clear b9
        go_wp2
        go_ret
        exact ⟨rfl, unhide BBn⟩
    · go_enter Try.func6, Try.ntmps6
      go_wp2_with fail
      refine (unhide Hc0 _).mono ?_
      rintro e w1 ⟨rfl, b1⟩
      have T1n := hide ((unhide T1).up b1)
      have T2n := hide ((unhide T2).up b1)
      have BBn := hide ((unhide BB).trans (b1.mono (unhide BB).size))
      clear b1 BB T1 T2
      have T1 := T1n
      have T2 := T2n
      have BB := BBn
      clear BBn T1n T2n
      have fT20 := (unhide T2).c0
      have fT21 := (unhide T2).c1
      go_wp2_with fail
      clear fT20 fT21
      refine (unhide Hc1 _).mono ?_
      rintro e w2 ⟨rfl, b2⟩
      have T1n := hide ((unhide T1).up b2)
      have T2n := hide ((unhide T2).up b2)
      have BBn := hide ((unhide BB).trans (b2.mono (unhide BB).size))
      clear b2 BB T1 T2
      have T1 := T1n
      have T2 := T2n
      have BB := BBn
      clear BBn T1n T2n
      have fT10 := (unhide T1).c0
      have fT11 := (unhide T1).c1
      have fT20 := (unhide T2).c0
      have fT21 := (unhide T2).c1
      go_wp2_with fail
      clear fT10 fT11 fT20 fT21
      refine (unhide Ha1 _).mono ?_
      rintro e w3 ⟨rfl, b3⟩
      have T1n := hide ((unhide T1).up b3)
      have T2n := hide ((unhide T2).up b3)
      have BBn := hide ((unhide BB).trans (b3.mono (unhide BB).size))
      clear b3 BB T1 T2
      have T1 := T1n
      have T2 := T2n
      have BB := BBn
      clear BBn T1n T2n
      have T1n := hide ((unhide T1).alloc (.cells #[.int .i64 x, .int .i64 y] 23))
      have T2n := hide ((unhide T2).alloc (.cells #[.int .i64 x, .int .i64 y] 23))
      have S1 := hide (two_alloc w3 (.int .i64 x) (.int .i64 y) 23)
      have BBn := hide ((unhide BB).alloc (unhide BB).size (.cells #[.int .i64 x, .int .i64 y] 23))
      clear BB T1 T2
      have T1 := T1n
      have T2 := T2n
      have BB := BBn
      clear BBn T1n T2n
      have fT10 := (unhide T1).c0
      have fT11 := (unhide T1).c1
      have fT20 := (unhide T2).c0
      have fT21 := (unhide T2).c1
      go_wp2_with fail
      clear fT10 fT11 fT20 fT21
      refine (unhide Ha2 _).mono ?_
      rintro e w4 ⟨rfl, b4⟩
      have T1n := hide ((unhide T1).up b4)
      have T2n := hide ((unhide T2).up b4)
      have S1n := hide ((unhide S1).up b4)
      have BBn := hide ((unhide BB).trans (b4.mono (unhide BB).size))
      clear b4 BB T1 T2 S1
      have T1 := T1n
      have T2 := T2n
      have S1 := S1n
      have BB := BBn
      clear BBn T1n T2n S1n
      have T1n := hide ((unhide T1).alloc (.cells #[.int .i64 x, .int .i64 y] 23))
      have T2n := hide ((unhide T2).alloc (.cells #[.int .i64 x, .int .i64 y] 23))
      have S1n := hide ((unhide S1).alloc (.cells #[.int .i64 x, .int .i64 y] 23))
      have S2 := hide (two_alloc w4 (.int .i64 x) (.int .i64 y) 23)
      have BBn := hide ((unhide BB).alloc (unhide BB).size (.cells #[.int .i64 x, .int .i64 y] 23))
      clear BB T1 T2 S1
      have T1 := T1n
      have T2 := T2n
      have S1 := S1n
      have BB := BBn
      clear BBn T1n T2n S1n
      have fT10 := (unhide T1).c0
      have fT11 := (unhide T1).c1
      have fT20 := (unhide T2).c0
      have fT21 := (unhide T2).c1
      go_wp2_with fail
      clear fT10 fT11 fT20 fT21
      refine (unhide Hm1 _).mono ?_
      rintro e w5 ⟨rfl, b5⟩
      have T1n := hide ((unhide T1).up b5)
      have T2n := hide ((unhide T2).up b5)
      have S1n := hide ((unhide S1).up b5)
      have S2n := hide ((unhide S2).up b5)
      have BBn := hide ((unhide BB).trans (b5.mono (unhide BB).size))
      clear b5 BB T1 T2 S1 S2
      have T1 := T1n
      have T2 := T2n
      have S1 := S1n
      have S2 := S2n
      have BB := BBn
      clear BBn T1n T2n S1n S2n
      have T1n := hide ((unhide T1).alloc (.cells #[.int .i64 x', .int .i64 y'] 23))
      have T2n := hide ((unhide T2).alloc (.cells #[.int .i64 x', .int .i64 y'] 23))
      have S1n := hide ((unhide S1).alloc (.cells #[.int .i64 x', .int .i64 y'] 23))
      have S2n := hide ((unhide S2).alloc (.cells #[.int .i64 x', .int .i64 y'] 23))
      have S3 := hide (two_alloc w5 (.int .i64 x') (.int .i64 y') 23)
      have BBn := hide ((unhide BB).alloc (unhide BB).size (.cells #[.int .i64 x', .int .i64 y'] 23))
      clear BB T1 T2 S1 S2
      have T1 := T1n
      have T2 := T2n
      have S1 := S1n
      have S2 := S2n
      have BB := BBn
      clear BBn T1n T2n S1n S2n
      have fT10 := (unhide T1).c0
      have fT11 := (unhide T1).c1
      have fT20 := (unhide T2).c0
      have fT21 := (unhide T2).c1
      go_wp2_with fail
      clear fT10 fT11 fT20 fT21
      refine (unhide Hm2 _).mono ?_
      rintro e w6 ⟨rfl, b6⟩
      have T1n := hide ((unhide T1).up b6)
      have T2n := hide ((unhide T2).up b6)
      have S1n := hide ((unhide S1).up b6)
      have S2n := hide ((unhide S2).up b6)
      have S3n := hide ((unhide S3).up b6)
      have BBn := hide ((unhide BB).trans (b6.mono (unhide BB).size))
      clear b6 BB T1 T2 S1 S2 S3
      have T1 := T1n
      have T2 := T2n
      have S1 := S1n
      have S2 := S2n
      have S3 := S3n
      have BB := BBn
      clear BBn T1n T2n S1n S2n S3n
      have T1n := hide ((unhide T1).alloc (.cells #[.int .i64 x', .int .i64 y'] 23))
      have T2n := hide ((unhide T2).alloc (.cells #[.int .i64 x', .int .i64 y'] 23))
      have S1n := hide ((unhide S1).alloc (.cells #[.int .i64 x', .int .i64 y'] 23))
      have S2n := hide ((unhide S2).alloc (.cells #[.int .i64 x', .int .i64 y'] 23))
      have S3n := hide ((unhide S3).alloc (.cells #[.int .i64 x', .int .i64 y'] 23))
      have S4 := hide (two_alloc w6 (.int .i64 x') (.int .i64 y') 23)
      have BBn := hide ((unhide BB).alloc (unhide BB).size (.cells #[.int .i64 x', .int .i64 y'] 23))
      clear BB T1 T2 S1 S2 S3
      have T1 := T1n
      have T2 := T2n
      have S1 := S1n
      have S2 := S2n
      have S3 := S3n
      have BB := BBn
      clear BBn T1n T2n S1n S2n S3n
      have fT10 := (unhide T1).c0
      have fT11 := (unhide T1).c1
      have fT20 := (unhide T2).c0
      have fT21 := (unhide T2).c1
      have fS10 := (unhide S1).c0
      have fS11 := (unhide S1).c1
      have fS20 := (unhide S2).c0
      have fS21 := (unhide S2).c1
      have fS30 := (unhide S3).c0
      have fS31 := (unhide S3).c1
      have fS40 := (unhide S4).c0
      have fS41 := (unhide S4).c1
      go_wp2_with fail
      clear fT10 fT11 fT20 fT21 fS10 fS11 fS20 fS21 fS30 fS31 fS40 fS41
      refine (unhide HA _).mono ?_
      rintro e w7 ⟨rfl, b7⟩
      have T1n := hide ((unhide T1).up b7)
      have T2n := hide ((unhide T2).up b7)
      have S1n := hide ((unhide S1).up b7)
      have S2n := hide ((unhide S2).up b7)
      have S3n := hide ((unhide S3).up b7)
      have S4n := hide ((unhide S4).up b7)
      have BBn := hide ((unhide BB).trans (b7.mono (unhide BB).size))
      clear b7 BB T1 T2 S1 S2 S3 S4
      have T1 := T1n
      have T2 := T2n
      have S1 := S1n
      have S2 := S2n
      have S3 := S3n
      have S4 := S4n
      have BB := BBn
      clear BBn T1n T2n S1n S2n S3n S4n
      have T1n := hide ((unhide T1).alloc (.cells #[.int .i64 a, .int .i64 b] 23))
      have T2n := hide ((unhide T2).alloc (.cells #[.int .i64 a, .int .i64 b] 23))
      have S1n := hide ((unhide S1).alloc (.cells #[.int .i64 a, .int .i64 b] 23))
      have S2n := hide ((unhide S2).alloc (.cells #[.int .i64 a, .int .i64 b] 23))
      have S3n := hide ((unhide S3).alloc (.cells #[.int .i64 a, .int .i64 b] 23))
      have S4n := hide ((unhide S4).alloc (.cells #[.int .i64 a, .int .i64 b] 23))
      have S5 := hide (two_alloc w7 (.int .i64 a) (.int .i64 b) 23)
      have BBn := hide ((unhide BB).alloc (unhide BB).size (.cells #[.int .i64 a, .int .i64 b] 23))
      clear BB T1 T2 S1 S2 S3 S4
      have T1 := T1n
      have T2 := T2n
      have S1 := S1n
      have S2 := S2n
      have S3 := S3n
      have S4 := S4n
      have BB := BBn
      clear BBn T1n T2n S1n S2n S3n S4n
      have fT10 := (unhide T1).c0
      have fT11 := (unhide T1).c1
      have fT20 := (unhide T2).c0
      have fT21 := (unhide T2).c1
      have fS10 := (unhide S1).c0
      have fS11 := (unhide S1).c1
      have fS20 := (unhide S2).c0
      have fS21 := (unhide S2).c1
      have fS30 := (unhide S3).c0
      have fS31 := (unhide S3).c1
      have fS40 := (unhide S4).c0
      have fS41 := (unhide S4).c1
      have fS50 := (unhide S5).c0
      have fS51 := (unhide S5).c1
      go_wp2_with fail
      clear fT10 fT11 fT20 fT21 fS10 fS11 fS20 fS21 fS30 fS31 fS40 fS41 fS50 fS51
      refine (rtawake_any _).mono ?_
      rintro e w8 ⟨rfl, b8⟩
      have BBn := hide ((unhide BB).trans (b8.mono (unhide BB).size))
      clear b8
      go_wp2
      go_ret
      exact ⟨rfl, unhide BBn⟩
  · by_cases gm : z' = 0
    · subst gm
      by_cases gc : c = 0
      · subst gc
        go_enter Try.func6, Try.ntmps6
        go_wp2_with fail
        refine (unhide Hc0 _).mono ?_
        rintro e w1 ⟨rfl, b1⟩
        have T1n := hide ((unhide T1).up b1)
        have T2n := hide ((unhide T2).up b1)
        have BBn := hide ((unhide BB).trans (b1.mono (unhide BB).size))
        clear b1 BB T1 T2
        have T1 := T1n
        have T2 := T2n
        have BB := BBn
        clear BBn T1n T2n
        have fT20 := (unhide T2).c0
        have fT21 := (unhide T2).c1
        go_wp2_with fail
        clear fT20 fT21
        refine (unhide Hc1 _).mono ?_
        rintro e w2 ⟨rfl, b2⟩
        have T1n := hide ((unhide T1).up b2)
        have T2n := hide ((unhide T2).up b2)
        have BBn := hide ((unhide BB).trans (b2.mono (unhide BB).size))
        clear b2 BB T1 T2
        have T1 := T1n
        have T2 := T2n
        have BB := BBn
        clear BBn T1n T2n
        have fT10 := (unhide T1).c0
        have fT11 := (unhide T1).c1
        have fT20 := (unhide T2).c0
        have fT21 := (unhide T2).c1
        go_wp2_with fail
        clear fT10 fT11 fT20 fT21
        refine (unhide Ha1 _).mono ?_
        rintro e w3 ⟨rfl, b3⟩
        have T1n := hide ((unhide T1).up b3)
        have T2n := hide ((unhide T2).up b3)
        have BBn := hide ((unhide BB).trans (b3.mono (unhide BB).size))
        clear b3 BB T1 T2
        have T1 := T1n
        have T2 := T2n
        have BB := BBn
        clear BBn T1n T2n
        have T1n := hide ((unhide T1).alloc (.cells #[.int .i64 x, .int .i64 y] 23))
        have T2n := hide ((unhide T2).alloc (.cells #[.int .i64 x, .int .i64 y] 23))
        have S1 := hide (two_alloc w3 (.int .i64 x) (.int .i64 y) 23)
        have BBn := hide ((unhide BB).alloc (unhide BB).size (.cells #[.int .i64 x, .int .i64 y] 23))
        clear BB T1 T2
        have T1 := T1n
        have T2 := T2n
        have BB := BBn
        clear BBn T1n T2n
        have fT10 := (unhide T1).c0
        have fT11 := (unhide T1).c1
        have fT20 := (unhide T2).c0
        have fT21 := (unhide T2).c1
        go_wp2_with fail
        clear fT10 fT11 fT20 fT21
        refine (unhide Ha2 _).mono ?_
        rintro e w4 ⟨rfl, b4⟩
        have T1n := hide ((unhide T1).up b4)
        have T2n := hide ((unhide T2).up b4)
        have S1n := hide ((unhide S1).up b4)
        have BBn := hide ((unhide BB).trans (b4.mono (unhide BB).size))
        clear b4 BB T1 T2 S1
        have T1 := T1n
        have T2 := T2n
        have S1 := S1n
        have BB := BBn
        clear BBn T1n T2n S1n
        have T1n := hide ((unhide T1).alloc (.cells #[.int .i64 x, .int .i64 y] 23))
        have T2n := hide ((unhide T2).alloc (.cells #[.int .i64 x, .int .i64 y] 23))
        have S1n := hide ((unhide S1).alloc (.cells #[.int .i64 x, .int .i64 y] 23))
        have S2 := hide (two_alloc w4 (.int .i64 x) (.int .i64 y) 23)
        have BBn := hide ((unhide BB).alloc (unhide BB).size (.cells #[.int .i64 x, .int .i64 y] 23))
        clear BB T1 T2 S1
        have T1 := T1n
        have T2 := T2n
        have S1 := S1n
        have BB := BBn
        clear BBn T1n T2n S1n
        have fT10 := (unhide T1).c0
        have fT11 := (unhide T1).c1
        have fT20 := (unhide T2).c0
        have fT21 := (unhide T2).c1
        go_wp2_with fail
        clear fT10 fT11 fT20 fT21
        refine (unhide Hm1 _).mono ?_
        rintro e w5 ⟨rfl, b5⟩
        have T1n := hide ((unhide T1).up b5)
        have T2n := hide ((unhide T2).up b5)
        have S1n := hide ((unhide S1).up b5)
        have S2n := hide ((unhide S2).up b5)
        have BBn := hide ((unhide BB).trans (b5.mono (unhide BB).size))
        clear b5 BB T1 T2 S1 S2
        have T1 := T1n
        have T2 := T2n
        have S1 := S1n
        have S2 := S2n
        have BB := BBn
        clear BBn T1n T2n S1n S2n
        have T1n := hide ((unhide T1).alloc (.cells #[.int .i64 x', .int .i64 y'] 23))
        have T2n := hide ((unhide T2).alloc (.cells #[.int .i64 x', .int .i64 y'] 23))
        have S1n := hide ((unhide S1).alloc (.cells #[.int .i64 x', .int .i64 y'] 23))
        have S2n := hide ((unhide S2).alloc (.cells #[.int .i64 x', .int .i64 y'] 23))
        have S3 := hide (two_alloc w5 (.int .i64 x') (.int .i64 y') 23)
        have BBn := hide ((unhide BB).alloc (unhide BB).size (.cells #[.int .i64 x', .int .i64 y'] 23))
        clear BB T1 T2 S1 S2
        have T1 := T1n
        have T2 := T2n
        have S1 := S1n
        have S2 := S2n
        have BB := BBn
        clear BBn T1n T2n S1n S2n
        have fT10 := (unhide T1).c0
        have fT11 := (unhide T1).c1
        have fT20 := (unhide T2).c0
        have fT21 := (unhide T2).c1
        go_wp2_with fail
        clear fT10 fT11 fT20 fT21
        refine (unhide Hm2 _).mono ?_
        rintro e w6 ⟨rfl, b6⟩
        have T1n := hide ((unhide T1).up b6)
        have T2n := hide ((unhide T2).up b6)
        have S1n := hide ((unhide S1).up b6)
        have S2n := hide ((unhide S2).up b6)
        have S3n := hide ((unhide S3).up b6)
        have BBn := hide ((unhide BB).trans (b6.mono (unhide BB).size))
        clear b6 BB T1 T2 S1 S2 S3
        have T1 := T1n
        have T2 := T2n
        have S1 := S1n
        have S2 := S2n
        have S3 := S3n
        have BB := BBn
        clear BBn T1n T2n S1n S2n S3n
        have T1n := hide ((unhide T1).alloc (.cells #[.int .i64 x', .int .i64 y'] 23))
        have T2n := hide ((unhide T2).alloc (.cells #[.int .i64 x', .int .i64 y'] 23))
        have S1n := hide ((unhide S1).alloc (.cells #[.int .i64 x', .int .i64 y'] 23))
        have S2n := hide ((unhide S2).alloc (.cells #[.int .i64 x', .int .i64 y'] 23))
        have S3n := hide ((unhide S3).alloc (.cells #[.int .i64 x', .int .i64 y'] 23))
        have S4 := hide (two_alloc w6 (.int .i64 x') (.int .i64 y') 23)
        have BBn := hide ((unhide BB).alloc (unhide BB).size (.cells #[.int .i64 x', .int .i64 y'] 23))
        clear BB T1 T2 S1 S2 S3
        have T1 := T1n
        have T2 := T2n
        have S1 := S1n
        have S2 := S2n
        have S3 := S3n
        have BB := BBn
        clear BBn T1n T2n S1n S2n S3n
        have fT10 := (unhide T1).c0
        have fT11 := (unhide T1).c1
        have fT20 := (unhide T2).c0
        have fT21 := (unhide T2).c1
        have fS10 := (unhide S1).c0
        have fS11 := (unhide S1).c1
        have fS20 := (unhide S2).c0
        have fS21 := (unhide S2).c1
        have fS30 := (unhide S3).c0
        have fS31 := (unhide S3).c1
        have fS40 := (unhide S4).c0
        have fS41 := (unhide S4).c1
        go_wp2_with fail
        clear fT10 fT11 fT20 fT21 fS10 fS11 fS20 fS21 fS30 fS31 fS40 fS41
        refine (rtawake_any _).mono ?_
        rintro e w7 ⟨rfl, b7⟩
        have BBn := hide ((unhide BB).trans (b7.mono (unhide BB).size))
        clear b7
        go_wp2
        go_ret
        exact ⟨rfl, unhide BBn⟩
      · have HM := (unhide HkM x' y' gc rfl).2
        simp only [rvE, rv] at HM
        have HM := hide HM
        go_enter Try.func6, Try.ntmps6
        go_wp2_with fail
        refine (unhide Hc0 _).mono ?_
        rintro e w1 ⟨rfl, b1⟩
        have T1n := hide ((unhide T1).up b1)
        have T2n := hide ((unhide T2).up b1)
        have BBn := hide ((unhide BB).trans (b1.mono (unhide BB).size))
        clear b1 BB T1 T2
        have T1 := T1n
        have T2 := T2n
        have BB := BBn
        clear BBn T1n T2n
        have fT20 := (unhide T2).c0
        have fT21 := (unhide T2).c1
        go_wp2_with fail
        clear fT20 fT21
        refine (unhide Hc1 _).mono ?_
        rintro e w2 ⟨rfl, b2⟩
        have T1n := hide ((unhide T1).up b2)
        have T2n := hide ((unhide T2).up b2)
        have BBn := hide ((unhide BB).trans (b2.mono (unhide BB).size))
        clear b2 BB T1 T2
        have T1 := T1n
        have T2 := T2n
        have BB := BBn
        clear BBn T1n T2n
        have fT10 := (unhide T1).c0
        have fT11 := (unhide T1).c1
        have fT20 := (unhide T2).c0
        have fT21 := (unhide T2).c1
        go_wp2_with fail
        clear fT10 fT11 fT20 fT21
        refine (unhide Ha1 _).mono ?_
        rintro e w3 ⟨rfl, b3⟩
        have T1n := hide ((unhide T1).up b3)
        have T2n := hide ((unhide T2).up b3)
        have BBn := hide ((unhide BB).trans (b3.mono (unhide BB).size))
        clear b3 BB T1 T2
        have T1 := T1n
        have T2 := T2n
        have BB := BBn
        clear BBn T1n T2n
        have T1n := hide ((unhide T1).alloc (.cells #[.int .i64 x, .int .i64 y] 23))
        have T2n := hide ((unhide T2).alloc (.cells #[.int .i64 x, .int .i64 y] 23))
        have S1 := hide (two_alloc w3 (.int .i64 x) (.int .i64 y) 23)
        have BBn := hide ((unhide BB).alloc (unhide BB).size (.cells #[.int .i64 x, .int .i64 y] 23))
        clear BB T1 T2
        have T1 := T1n
        have T2 := T2n
        have BB := BBn
        clear BBn T1n T2n
        have fT10 := (unhide T1).c0
        have fT11 := (unhide T1).c1
        have fT20 := (unhide T2).c0
        have fT21 := (unhide T2).c1
        go_wp2_with fail
        clear fT10 fT11 fT20 fT21
        refine (unhide Ha2 _).mono ?_
        rintro e w4 ⟨rfl, b4⟩
        have T1n := hide ((unhide T1).up b4)
        have T2n := hide ((unhide T2).up b4)
        have S1n := hide ((unhide S1).up b4)
        have BBn := hide ((unhide BB).trans (b4.mono (unhide BB).size))
        clear b4 BB T1 T2 S1
        have T1 := T1n
        have T2 := T2n
        have S1 := S1n
        have BB := BBn
        clear BBn T1n T2n S1n
        have T1n := hide ((unhide T1).alloc (.cells #[.int .i64 x, .int .i64 y] 23))
        have T2n := hide ((unhide T2).alloc (.cells #[.int .i64 x, .int .i64 y] 23))
        have S1n := hide ((unhide S1).alloc (.cells #[.int .i64 x, .int .i64 y] 23))
        have S2 := hide (two_alloc w4 (.int .i64 x) (.int .i64 y) 23)
        have BBn := hide ((unhide BB).alloc (unhide BB).size (.cells #[.int .i64 x, .int .i64 y] 23))
        clear BB T1 T2 S1
        have T1 := T1n
        have T2 := T2n
        have S1 := S1n
        have BB := BBn
        clear BBn T1n T2n S1n
        have fT10 := (unhide T1).c0
        have fT11 := (unhide T1).c1
        have fT20 := (unhide T2).c0
        have fT21 := (unhide T2).c1
        go_wp2_with fail
        clear fT10 fT11 fT20 fT21
        refine (unhide Hm1 _).mono ?_
        rintro e w5 ⟨rfl, b5⟩
        have T1n := hide ((unhide T1).up b5)
        have T2n := hide ((unhide T2).up b5)
        have S1n := hide ((unhide S1).up b5)
        have S2n := hide ((unhide S2).up b5)
        have BBn := hide ((unhide BB).trans (b5.mono (unhide BB).size))
        clear b5 BB T1 T2 S1 S2
        have T1 := T1n
        have T2 := T2n
        have S1 := S1n
        have S2 := S2n
        have BB := BBn
        clear BBn T1n T2n S1n S2n
        have T1n := hide ((unhide T1).alloc (.cells #[.int .i64 x', .int .i64 y'] 23))
        have T2n := hide ((unhide T2).alloc (.cells #[.int .i64 x', .int .i64 y'] 23))
        have S1n := hide ((unhide S1).alloc (.cells #[.int .i64 x', .int .i64 y'] 23))
        have S2n := hide ((unhide S2).alloc (.cells #[.int .i64 x', .int .i64 y'] 23))
        have S3 := hide (two_alloc w5 (.int .i64 x') (.int .i64 y') 23)
        have BBn := hide ((unhide BB).alloc (unhide BB).size (.cells #[.int .i64 x', .int .i64 y'] 23))
        clear BB T1 T2 S1 S2
        have T1 := T1n
        have T2 := T2n
        have S1 := S1n
        have S2 := S2n
        have BB := BBn
        clear BBn T1n T2n S1n S2n
        have fT10 := (unhide T1).c0
        have fT11 := (unhide T1).c1
        have fT20 := (unhide T2).c0
        have fT21 := (unhide T2).c1
        go_wp2_with fail
        clear fT10 fT11 fT20 fT21
        refine (unhide Hm2 _).mono ?_
        rintro e w6 ⟨rfl, b6⟩
        have T1n := hide ((unhide T1).up b6)
        have T2n := hide ((unhide T2).up b6)
        have S1n := hide ((unhide S1).up b6)
        have S2n := hide ((unhide S2).up b6)
        have S3n := hide ((unhide S3).up b6)
        have BBn := hide ((unhide BB).trans (b6.mono (unhide BB).size))
        clear b6 BB T1 T2 S1 S2 S3
        have T1 := T1n
        have T2 := T2n
        have S1 := S1n
        have S2 := S2n
        have S3 := S3n
        have BB := BBn
        clear BBn T1n T2n S1n S2n S3n
        have T1n := hide ((unhide T1).alloc (.cells #[.int .i64 x', .int .i64 y'] 23))
        have T2n := hide ((unhide T2).alloc (.cells #[.int .i64 x', .int .i64 y'] 23))
        have S1n := hide ((unhide S1).alloc (.cells #[.int .i64 x', .int .i64 y'] 23))
        have S2n := hide ((unhide S2).alloc (.cells #[.int .i64 x', .int .i64 y'] 23))
        have S3n := hide ((unhide S3).alloc (.cells #[.int .i64 x', .int .i64 y'] 23))
        have S4 := hide (two_alloc w6 (.int .i64 x') (.int .i64 y') 23)
        have BBn := hide ((unhide BB).alloc (unhide BB).size (.cells #[.int .i64 x', .int .i64 y'] 23))
        clear BB T1 T2 S1 S2 S3
        have T1 := T1n
        have T2 := T2n
        have S1 := S1n
        have S2 := S2n
        have S3 := S3n
        have BB := BBn
        clear BBn T1n T2n S1n S2n S3n
        have fT10 := (unhide T1).c0
        have fT11 := (unhide T1).c1
        have fT20 := (unhide T2).c0
        have fT21 := (unhide T2).c1
        have fS10 := (unhide S1).c0
        have fS11 := (unhide S1).c1
        have fS20 := (unhide S2).c0
        have fS21 := (unhide S2).c1
        have fS30 := (unhide S3).c0
        have fS31 := (unhide S3).c1
        have fS40 := (unhide S4).c0
        have fS41 := (unhide S4).c1
        go_wp2_with fail
        clear fT10 fT11 fT20 fT21 fS10 fS11 fS20 fS21 fS30 fS31 fS40 fS41
        refine (unhide HM _).mono ?_
        rintro e w7 ⟨rfl, b7⟩
        have T1n := hide ((unhide T1).up b7)
        have T2n := hide ((unhide T2).up b7)
        have S1n := hide ((unhide S1).up b7)
        have S2n := hide ((unhide S2).up b7)
        have S3n := hide ((unhide S3).up b7)
        have S4n := hide ((unhide S4).up b7)
        have BBn := hide ((unhide BB).trans (b7.mono (unhide BB).size))
        clear b7 BB T1 T2 S1 S2 S3 S4
        have T1 := T1n
        have T2 := T2n
        have S1 := S1n
        have S2 := S2n
        have S3 := S3n
        have S4 := S4n
        have BB := BBn
        clear BBn T1n T2n S1n S2n S3n S4n
        have T1n := hide ((unhide T1).alloc (.cells #[.int .i64 a, .int .i64 b] 23))
        have T2n := hide ((unhide T2).alloc (.cells #[.int .i64 a, .int .i64 b] 23))
        have S1n := hide ((unhide S1).alloc (.cells #[.int .i64 a, .int .i64 b] 23))
        have S2n := hide ((unhide S2).alloc (.cells #[.int .i64 a, .int .i64 b] 23))
        have S3n := hide ((unhide S3).alloc (.cells #[.int .i64 a, .int .i64 b] 23))
        have S4n := hide ((unhide S4).alloc (.cells #[.int .i64 a, .int .i64 b] 23))
        have S6 := hide (two_alloc w7 (.int .i64 a) (.int .i64 b) 23)
        have BBn := hide ((unhide BB).alloc (unhide BB).size (.cells #[.int .i64 a, .int .i64 b] 23))
        clear BB T1 T2 S1 S2 S3 S4
        have T1 := T1n
        have T2 := T2n
        have S1 := S1n
        have S2 := S2n
        have S3 := S3n
        have S4 := S4n
        have BB := BBn
        clear BBn T1n T2n S1n S2n S3n S4n
        have fT10 := (unhide T1).c0
        have fT11 := (unhide T1).c1
        have fT20 := (unhide T2).c0
        have fT21 := (unhide T2).c1
        have fS10 := (unhide S1).c0
        have fS11 := (unhide S1).c1
        have fS20 := (unhide S2).c0
        have fS21 := (unhide S2).c1
        have fS30 := (unhide S3).c0
        have fS31 := (unhide S3).c1
        have fS40 := (unhide S4).c0
        have fS41 := (unhide S4).c1
        have fS60 := (unhide S6).c0
        have fS61 := (unhide S6).c1
        go_wp2_with fail
        clear fT10 fT11 fT20 fT21 fS10 fS11 fS20 fS21 fS30 fS31 fS40 fS41 fS60 fS61
        refine (rtawake_any _).mono ?_
        rintro e w8 ⟨rfl, b8⟩
        have BBn := hide ((unhide BB).trans (b8.mono (unhide BB).size))
        clear b8
        go_wp2
        go_ret
        exact ⟨rfl, unhide BBn⟩
    · go_enter Try.func6, Try.ntmps6
      go_wp2_with fail
      refine (unhide Hc0 _).mono ?_
      rintro e w1 ⟨rfl, b1⟩
      have T1n := hide ((unhide T1).up b1)
      have T2n := hide ((unhide T2).up b1)
      have BBn := hide ((unhide BB).trans (b1.mono (unhide BB).size))
      clear b1 BB T1 T2
      have T1 := T1n
      have T2 := T2n
      have BB := BBn
      clear BBn T1n T2n
      have fT20 := (unhide T2).c0
      have fT21 := (unhide T2).c1
      go_wp2_with fail
      clear fT20 fT21
      refine (unhide Hc1 _).mono ?_
      rintro e w2 ⟨rfl, b2⟩
      have T1n := hide ((unhide T1).up b2)
      have T2n := hide ((unhide T2).up b2)
      have BBn := hide ((unhide BB).trans (b2.mono (unhide BB).size))
      clear b2 BB T1 T2
      have T1 := T1n
      have T2 := T2n
      have BB := BBn
      clear BBn T1n T2n
      have fT10 := (unhide T1).c0
      have fT11 := (unhide T1).c1
      have fT20 := (unhide T2).c0
      have fT21 := (unhide T2).c1
      go_wp2_with fail
      clear fT10 fT11 fT20 fT21
      refine (unhide Ha1 _).mono ?_
      rintro e w3 ⟨rfl, b3⟩
      have T1n := hide ((unhide T1).up b3)
      have T2n := hide ((unhide T2).up b3)
      have BBn := hide ((unhide BB).trans (b3.mono (unhide BB).size))
      clear b3 BB T1 T2
      have T1 := T1n
      have T2 := T2n
      have BB := BBn
      clear BBn T1n T2n
      have T1n := hide ((unhide T1).alloc (.cells #[.int .i64 x, .int .i64 y] 23))
      have T2n := hide ((unhide T2).alloc (.cells #[.int .i64 x, .int .i64 y] 23))
      have S1 := hide (two_alloc w3 (.int .i64 x) (.int .i64 y) 23)
      have BBn := hide ((unhide BB).alloc (unhide BB).size (.cells #[.int .i64 x, .int .i64 y] 23))
      clear BB T1 T2
      have T1 := T1n
      have T2 := T2n
      have BB := BBn
      clear BBn T1n T2n
      have fT10 := (unhide T1).c0
      have fT11 := (unhide T1).c1
      have fT20 := (unhide T2).c0
      have fT21 := (unhide T2).c1
      go_wp2_with fail
      clear fT10 fT11 fT20 fT21
      refine (unhide Ha2 _).mono ?_
      rintro e w4 ⟨rfl, b4⟩
      have T1n := hide ((unhide T1).up b4)
      have T2n := hide ((unhide T2).up b4)
      have S1n := hide ((unhide S1).up b4)
      have BBn := hide ((unhide BB).trans (b4.mono (unhide BB).size))
      clear b4 BB T1 T2 S1
      have T1 := T1n
      have T2 := T2n
      have S1 := S1n
      have BB := BBn
      clear BBn T1n T2n S1n
      have T1n := hide ((unhide T1).alloc (.cells #[.int .i64 x, .int .i64 y] 23))
      have T2n := hide ((unhide T2).alloc (.cells #[.int .i64 x, .int .i64 y] 23))
      have S1n := hide ((unhide S1).alloc (.cells #[.int .i64 x, .int .i64 y] 23))
      have S2 := hide (two_alloc w4 (.int .i64 x) (.int .i64 y) 23)
      have BBn := hide ((unhide BB).alloc (unhide BB).size (.cells #[.int .i64 x, .int .i64 y] 23))
      clear BB T1 T2 S1
      have T1 := T1n
      have T2 := T2n
      have S1 := S1n
      have BB := BBn
      clear BBn T1n T2n S1n
      have fT10 := (unhide T1).c0
      have fT11 := (unhide T1).c1
      have fT20 := (unhide T2).c0
      have fT21 := (unhide T2).c1
      go_wp2_with fail
      clear fT10 fT11 fT20 fT21
      refine (unhide Hm1 _).mono ?_
      rintro e w5 ⟨rfl, b5⟩
      have T1n := hide ((unhide T1).up b5)
      have T2n := hide ((unhide T2).up b5)
      have S1n := hide ((unhide S1).up b5)
      have S2n := hide ((unhide S2).up b5)
      have BBn := hide ((unhide BB).trans (b5.mono (unhide BB).size))
      clear b5 BB T1 T2 S1 S2
      have T1 := T1n
      have T2 := T2n
      have S1 := S1n
      have S2 := S2n
      have BB := BBn
      clear BBn T1n T2n S1n S2n
      have T1n := hide ((unhide T1).alloc (.cells #[.int .i64 x', .int .i64 y'] 23))
      have T2n := hide ((unhide T2).alloc (.cells #[.int .i64 x', .int .i64 y'] 23))
      have S1n := hide ((unhide S1).alloc (.cells #[.int .i64 x', .int .i64 y'] 23))
      have S2n := hide ((unhide S2).alloc (.cells #[.int .i64 x', .int .i64 y'] 23))
      have S3 := hide (two_alloc w5 (.int .i64 x') (.int .i64 y') 23)
      have BBn := hide ((unhide BB).alloc (unhide BB).size (.cells #[.int .i64 x', .int .i64 y'] 23))
      clear BB T1 T2 S1 S2
      have T1 := T1n
      have T2 := T2n
      have S1 := S1n
      have S2 := S2n
      have BB := BBn
      clear BBn T1n T2n S1n S2n
      have fT10 := (unhide T1).c0
      have fT11 := (unhide T1).c1
      have fT20 := (unhide T2).c0
      have fT21 := (unhide T2).c1
      go_wp2_with fail
      clear fT10 fT11 fT20 fT21
      refine (unhide Hm2 _).mono ?_
      rintro e w6 ⟨rfl, b6⟩
      have T1n := hide ((unhide T1).up b6)
      have T2n := hide ((unhide T2).up b6)
      have S1n := hide ((unhide S1).up b6)
      have S2n := hide ((unhide S2).up b6)
      have S3n := hide ((unhide S3).up b6)
      have BBn := hide ((unhide BB).trans (b6.mono (unhide BB).size))
      clear b6 BB T1 T2 S1 S2 S3
      have T1 := T1n
      have T2 := T2n
      have S1 := S1n
      have S2 := S2n
      have S3 := S3n
      have BB := BBn
      clear BBn T1n T2n S1n S2n S3n
      have T1n := hide ((unhide T1).alloc (.cells #[.int .i64 x', .int .i64 y'] 23))
      have T2n := hide ((unhide T2).alloc (.cells #[.int .i64 x', .int .i64 y'] 23))
      have S1n := hide ((unhide S1).alloc (.cells #[.int .i64 x', .int .i64 y'] 23))
      have S2n := hide ((unhide S2).alloc (.cells #[.int .i64 x', .int .i64 y'] 23))
      have S3n := hide ((unhide S3).alloc (.cells #[.int .i64 x', .int .i64 y'] 23))
      have S4 := hide (two_alloc w6 (.int .i64 x') (.int .i64 y') 23)
      have BBn := hide ((unhide BB).alloc (unhide BB).size (.cells #[.int .i64 x', .int .i64 y'] 23))
      clear BB T1 T2 S1 S2 S3
      have T1 := T1n
      have T2 := T2n
      have S1 := S1n
      have S2 := S2n
      have S3 := S3n
      have BB := BBn
      clear BBn T1n T2n S1n S2n S3n
      have fT10 := (unhide T1).c0
      have fT11 := (unhide T1).c1
      have fT20 := (unhide T2).c0
      have fT21 := (unhide T2).c1
      have fS10 := (unhide S1).c0
      have fS11 := (unhide S1).c1
      have fS20 := (unhide S2).c0
      have fS21 := (unhide S2).c1
      have fS30 := (unhide S3).c0
      have fS31 := (unhide S3).c1
      have fS40 := (unhide S4).c0
      have fS41 := (unhide S4).c1
      go_wp2_with fail
      clear fT10 fT11 fT20 fT21 fS10 fS11 fS20 fS21 fS30 fS31 fS40 fS41
      refine (rtawake_any _).mono ?_
      rintro e w7 ⟨rfl, b7⟩
      have BBn := hide ((unhide BB).trans (b7.mono (unhide BB).size))
      clear b7
      go_wp2
      go_ret
      exact ⟨rfl, unhide BBn⟩

end Go.Proofs.Ytmaeebgphblilaa

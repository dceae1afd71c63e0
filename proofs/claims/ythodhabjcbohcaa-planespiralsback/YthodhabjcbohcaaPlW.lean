/- What the law PlaneSpiralsBack does, whatever the world: it answers true and changes nothing that was there. -/
import Derived.Test.YthodhabjcbohcaaPlV
import Derived.Test.YthodhabjcbohcaaPlG
namespace Go.Proofs.Ythodhabjcbohcaa
open Go.RowKit
set_option linter.unusedVariables false

set_option maxRecDepth 100000 in
set_option maxHeartbeats 2000000 in
theorem back_out (n : Int) (w : World) (h : n < 0 ∨ 1099511627776 < n) :
    Calls Try.prog 8 #[.int .i64 n] w fun e w' => e = .returned (.bool true) ∧ Below w.heap.size w w' := by
  have h0 := hide (fun w => spiral_any n w)
  have e0 : spA n = (0, 0, 1) := by unfold spA; rw [if_neg (by omega)]
  rw [e0] at h0
  unfold rvE rv at h0
  by_cases h1 : n < 0
  · clear h
    have BB : Hid (Below w.heap.size w w) := Below.refl _ _
    go_enter Try.func8, Try.ntmps8
    go_wp2_with fail
    refine (unhide h0 _).mono ?_
    rintro e w1 ⟨rfl, b1⟩
    have new := hide (two_alloc w1 (.int .i64 0) (.int .i64 0) 23)
    have BBn : Hid (Below w.heap.size w (w1.alloc (.cells #[.int .i64 0, .int .i64 0] 23))) := by
      have := (unhide BB).trans (b1.mono (unhide BB).size)
      exact this.alloc this.size _
    clear BB 
    have BB := BBn
    clear BBn 
    have S0 := new
    clear new b1
    go_wp2_with fail
    generalize w1.alloc (.cells #[.int .i64 0, .int .i64 0] 23) = W at *
    generalize w1.heap.size = s0 at *
    refine (awake_any _).mono ?_
    rintro e w6 ⟨rfl, b6⟩
    have S0n := hide ((unhide S0).up b6)
    have BBn := hide ((unhide BB).trans (b6.mono (unhide BB).size))
    clear BB S0
    have S0 := S0n
    have BB := BBn
    clear BBn S0n
    clear b6
    have fS00 := (unhide S0).c0
    have fS01 := (unhide S0).c1
    go_wp2
    go_ret
    exact ⟨rfl, unhide BB⟩
  · have h2 : 1099511627776 < n := by omega
    clear h
    have BB : Hid (Below w.heap.size w w) := Below.refl _ _
    go_enter Try.func8, Try.ntmps8
    go_wp2_with fail
    refine (unhide h0 _).mono ?_
    rintro e w1 ⟨rfl, b1⟩
    have new := hide (two_alloc w1 (.int .i64 0) (.int .i64 0) 23)
    have BBn : Hid (Below w.heap.size w (w1.alloc (.cells #[.int .i64 0, .int .i64 0] 23))) := by
      have := (unhide BB).trans (b1.mono (unhide BB).size)
      exact this.alloc this.size _
    clear BB 
    have BB := BBn
    clear BBn 
    have S0 := new
    clear new b1
    go_wp2_with fail
    generalize w1.alloc (.cells #[.int .i64 0, .int .i64 0] 23) = W at *
    generalize w1.heap.size = s0 at *
    refine (awake_any _).mono ?_
    rintro e w6 ⟨rfl, b6⟩
    have S0n := hide ((unhide S0).up b6)
    have BBn := hide ((unhide BB).trans (b6.mono (unhide BB).size))
    clear BB S0
    have S0 := S0n
    have BB := BBn
    clear BBn S0n
    clear b6
    have fS00 := (unhide S0).c0
    have fS01 := (unhide S0).c1
    go_wp2
    go_ret
    exact ⟨rfl, unhide BB⟩

set_option maxRecDepth 100000 in
set_option maxHeartbeats 2000000 in
theorem back_zero (w : World) :
    Calls Try.prog 8 #[.int .i64 0] w fun e w' => e = .returned (.bool true) ∧ Below w.heap.size w w' := by
  have h0 := hide (fun w => spiral_any 0 w)
  have e0 : spA 0 = (0, 0, 0) := by decide +kernel
  rw [e0] at h0
  have hc := hide (fun w => check_any 0 0 w)
  have hu := hide (fun w => unspiral_any 0 0 w)
  rw [show okP 0 0 = true by decide] at hc
  rw [show unA 0 0 = 0 by decide +kernel] at hu
  unfold rvE at h0
  unfold rv at h0 hc hu
  have BB : Hid (Below w.heap.size w w) := Below.refl _ _
  go_enter Try.func8, Try.ntmps8
  go_wp2_with fail
  refine (unhide h0 _).mono ?_
  rintro e w1 ⟨rfl, b1⟩
  have new := hide (two_alloc w1 (.int .i64 0) (.int .i64 0) 23)
  have BBn : Hid (Below w.heap.size w (w1.alloc (.cells #[.int .i64 0, .int .i64 0] 23))) := by
    have := (unhide BB).trans (b1.mono (unhide BB).size)
    exact this.alloc this.size _
  clear BB 
  have BB := BBn
  clear BBn 
  have S0 := new
  clear new b1
  have fS00 := (unhide S0).c0
  have fS01 := (unhide S0).c1
  go_wp2_with fail
  clear fS00 fS01
  generalize w1.alloc (.cells #[.int .i64 0, .int .i64 0] 23) = W at *
  generalize w1.heap.size = s0 at *
  refine (unhide hc _).mono ?_
  rintro e w5 ⟨rfl, b5⟩
  have S0n := hide ((unhide S0).up b5)
  have BBn := hide ((unhide BB).trans (b5.mono (unhide BB).size))
  clear BB S0
  have S0 := S0n
  have BB := BBn
  clear BBn S0n
  clear b5
  have fS00 := (unhide S0).c0
  have fS01 := (unhide S0).c1
  go_wp2_with fail
  clear fS00 fS01
  refine (unhide hu _).mono ?_
  rintro e w8 ⟨rfl, b5⟩
  have S0n := hide ((unhide S0).up b5)
  have BBn := hide ((unhide BB).trans (b5.mono (unhide BB).size))
  clear BB S0
  have S0 := S0n
  have BB := BBn
  clear BBn S0n
  clear b5
  go_wp2_with fail
  refine (awake_any _).mono ?_
  rintro e w6 ⟨rfl, b6⟩
  have S0n := hide ((unhide S0).up b6)
  have BBn := hide ((unhide BB).trans (b6.mono (unhide BB).size))
  clear BB S0
  have S0 := S0n
  have BB := BBn
  clear BBn S0n
  clear b6
  have fS00 := (unhide S0).c0
  have fS01 := (unhide S0).c1
  go_wp2
  go_ret
  exact ⟨rfl, unhide BB⟩

set_option maxRecDepth 100000 in
set_option maxHeartbeats 2000000 in
theorem back_in (n x y u v : Int) (w : World) (h1 : 0 < n) (h2 : n ≤ 1099511627776)
    (h0 : ∀ w, Calls Try.prog 30 #[.int .i64 n] w fun e w' => e = .returned (.tuple #[.agg #[.int .i64 x, .int .i64 y], .int .i64 0]) ∧ Below w.heap.size w w')
    (h3 : ∀ w, Calls Try.prog 30 #[.int .i64 (n - 1)] w fun e w' => e = .returned (.tuple #[.agg #[.int .i64 u, .int .i64 v], .int .i64 0]) ∧ Below w.heap.size w w')
    (hc : ∀ w, Calls Try.prog 17 #[rv x y] w fun e w' => e = .returned (.bool true) ∧ Below w.heap.size w w')
    (hu : ∀ w, Calls Try.prog 32 #[rv x y] w fun e w' => e = .returned (.int .i64 n) ∧ Below w.heap.size w w')
    (hd : ∀ w, Calls Try.prog 21 #[rv x y, rv u v] w fun e w' => e = .returned (.int .i64 1) ∧ Below w.heap.size w w') :
    Calls Try.prog 8 #[.int .i64 n] w fun e w' => e = .returned (.bool true) ∧ Below w.heap.size w w' := by
  unfold rv at hc hu hd
  have H0 := hide h0
  have H3 := hide h3
  have HC := hide hc
  have HU := hide hu
  have HD := hide hd
  clear h0 h3 hc hu hd
  have d0 : ¬ n < 0 := by omega
  have d1 : ¬ 1099511627776 < n := by omega
  have d2 : ¬ n = 0 := by omega
  have d3 : (n == 0) = false := by simpa using d2
  have BB : Hid (Below w.heap.size w w) := Below.refl _ _
  go_enter Try.func8, Try.ntmps8
  go_wp2_with fail
  refine (unhide H0 _).mono ?_
  rintro e w1 ⟨rfl, b1⟩
  have new := hide (two_alloc w1 (.int .i64 x) (.int .i64 y) 23)
  have BBn : Hid (Below w.heap.size w (w1.alloc (.cells #[.int .i64 x, .int .i64 y] 23))) := by
    have := (unhide BB).trans (b1.mono (unhide BB).size)
    exact this.alloc this.size _
  clear BB 
  have BB := BBn
  clear BBn 
  have S0 := new
  clear new b1
  have fS00 := (unhide S0).c0
  have fS01 := (unhide S0).c1
  go_wp2_with fail
  clear fS00 fS01
  generalize w1.alloc (.cells #[.int .i64 x, .int .i64 y] 23) = W at *
  generalize w1.heap.size = s0 at *
  refine (unhide HC _).mono ?_
  rintro e w5 ⟨rfl, b5⟩
  have S0n := hide ((unhide S0).up b5)
  have BBn := hide ((unhide BB).trans (b5.mono (unhide BB).size))
  clear BB S0
  have S0 := S0n
  have BB := BBn
  clear BBn S0n
  clear b5
  have fS00 := (unhide S0).c0
  have fS01 := (unhide S0).c1
  go_wp2_with fail
  clear fS00 fS01
  refine (unhide HU _).mono ?_
  rintro e w8 ⟨rfl, b5⟩
  have S0n := hide ((unhide S0).up b5)
  have BBn := hide ((unhide BB).trans (b5.mono (unhide BB).size))
  clear BB S0
  have S0 := S0n
  have BB := BBn
  clear BBn S0n
  clear b5
  go_wp2_with fail
  refine (unhide H3 _).mono ?_
  rintro e w1 ⟨rfl, b1⟩
  have new := hide (two_alloc w1 (.int .i64 u) (.int .i64 v) 23)
  have S0n := hide (((unhide S0).up b1).alloc (.cells #[.int .i64 u, .int .i64 v] 23))
  have BBn : Hid (Below w.heap.size w (w1.alloc (.cells #[.int .i64 u, .int .i64 v] 23))) := by
    have := (unhide BB).trans (b1.mono (unhide BB).size)
    exact this.alloc this.size _
  clear BB S0
  have S0 := S0n
  have BB := BBn
  clear BBn S0n
  have S1 := new
  clear new b1
  go_wp2_with fail
  generalize w1.alloc (.cells #[.int .i64 u, .int .i64 v] 23) = W at *
  generalize w1.heap.size = s1 at *
  refine (awake_any _).mono ?_
  rintro e w6 ⟨rfl, b6⟩
  have S0n := hide ((unhide S0).up b6)
  have S1n := hide ((unhide S1).up b6)
  have BBn := hide ((unhide BB).trans (b6.mono (unhide BB).size))
  clear BB S0 S1
  have S0 := S0n
  have S1 := S1n
  have BB := BBn
  clear BBn S0n S1n
  clear b6
  have fS00 := (unhide S0).c0
  have fS01 := (unhide S0).c1
  have fS10 := (unhide S1).c0
  have fS11 := (unhide S1).c1
  go_wp2_with fail
  clear fS00 fS01 fS10 fS11
  refine (unhide HD _).mono ?_
  rintro e w9 ⟨rfl, b5⟩
  have S0n := hide ((unhide S0).up b5)
  have S1n := hide ((unhide S1).up b5)
  have BBn := hide ((unhide BB).trans (b5.mono (unhide BB).size))
  clear BB S0 S1
  have S0 := S0n
  have S1 := S1n
  have BB := BBn
  clear BBn S0n S1n
  clear b5
  go_wp2
  go_ret
  exact ⟨rfl, unhide BB⟩

theorem planeSpiralsBack_any (n : Int) (w : World) (wn : (Lit.int .i64 n).wf = true) :
    Calls Try.prog 8 #[.int .i64 n] w fun e w' => e = .returned (.bool true) ∧ Below w.heap.size w w' := by
  by_cases h : n < 0 ∨ 1099511627776 < n
  · exact back_out n w h
  · by_cases h0 : n = 0
    · subst h0; exact back_zero w
    · obtain ⟨m, rfl⟩ := Int.eq_ofNat_of_zero_le (show 0 ≤ n by omega)
      have hm : 1 ≤ m := by omega
      have hm2 : m ≤ 1099511627776 := by omega
      obtain ⟨p1, p2⟩ := spP_le hm2
      obtain ⟨q1, q2⟩ := spP_le (show m - 1 ≤ 1099511627776 by omega)
      have e0 : spA (m : Int) = ((spP m).1, (spP m).2, 0) := by unfold spA; rw [if_pos (by omega)]; rfl
      have e1 : spA ((m : Int) - 1) = ((spP (m - 1)).1, (spP (m - 1)).2, 0) := by
        unfold spA; rw [if_pos (by omega), show ((m : Int) - 1).toNat = m - 1 by omega]
      have o1 : okP (spP m).1 (spP m).2 = true := okP_mk (by omega) (by omega) (by omega) (by omega)
      have o2 : okP (spP (m - 1)).1 (spP (m - 1)).2 = true := okP_mk (by omega) (by omega) (by omega) (by omega)
      have e2 : unA (spP m).1 (spP m).2 = (m : Int) := by unfold unA; rw [if_pos o1, un_sp]
      have e3 : distA (spP m).1 (spP m).2 (spP (m - 1)).1 (spP (m - 1)).2 = 1 := by
        unfold distA; rw [o1, o2, if_pos (by decide), sp_near m hm]
      refine back_in _ (spP m).1 (spP m).2 (spP (m - 1)).1 (spP (m - 1)).2 w (by omega) (by omega) (fun w => ?_) (fun w => ?_) (fun w => ?_) (fun w => ?_) (fun w => ?_)
      · have := spiral_any (m : Int) w; rwa [e0] at this
      · have := spiral_any ((m : Int) - 1) w; rwa [e1] at this
      · have := check_any (spP m).1 (spP m).2 w; rwa [o1] at this
      · have := unspiral_any (spP m).1 (spP m).2 w; rwa [e2] at this
      · have := dist_any (spP m).1 (spP m).2 (spP (m - 1)).1 (spP (m - 1)).2 w; rwa [e3] at this

end Go.Proofs.Ythodhabjcbohcaa

/- What the law PlaneNorms, some of its ways does, whatever the world: it answers true and changes nothing that was there. -/
import Derived.Test.YthodhabjcbohcabPlN
namespace Go.Proofs.Ythodhabjcbohcab
open Go.RowKit
set_option linter.unusedVariables false

set_option maxRecDepth 100000 in
set_option maxHeartbeats 4000000 in
theorem n_tt (a b c d e f x0 y0 x2 y2 x3 y3 x4 y4 N1 N2 : Int) (w : World) (h0 : ∀ w, Calls Try.prog 4 #[.agg #[.int .i64 a, .int .i64 b], .agg #[.int .i64 c, .int .i64 d]] w fun e w' => e = .returned (.tuple #[.agg #[.int .i64 x0, .int .i64 y0], .int .i64 0]) ∧ Below w.heap.size w w') (h1 : ∀ w, Calls Try.prog 4 #[.agg #[.int .i64 c, .int .i64 d], .agg #[.int .i64 a, .int .i64 b]] w fun e w' => e = .returned (.tuple #[.agg #[.int .i64 x0, .int .i64 y0], .int .i64 0]) ∧ Below w.heap.size w w') (h2 : ∀ w, Calls Try.prog 6 #[.agg #[.int .i64 c, .int .i64 d], .agg #[.int .i64 e, .int .i64 f]] w fun e w' => e = .returned (.tuple #[.agg #[.int .i64 x2, .int .i64 y2], .int .i64 0]) ∧ Below w.heap.size w w') (h3 : ∀ w, Calls Try.prog 4 #[.agg #[.int .i64 a, .int .i64 b], .agg #[.int .i64 x2, .int .i64 y2]] w fun e w' => e = .returned (.tuple #[.agg #[.int .i64 x3, .int .i64 y3], .int .i64 0]) ∧ Below w.heap.size w w') (h4 : ∀ w, Calls Try.prog 4 #[.agg #[.int .i64 a, .int .i64 b], .agg #[.int .i64 e, .int .i64 f]] w fun e w' => e = .returned (.tuple #[.agg #[.int .i64 x4, .int .i64 y4], .int .i64 0]) ∧ Below w.heap.size w w') (h5 : ∀ w, Calls Try.prog 6 #[.agg #[.int .i64 x0, .int .i64 y0], .agg #[.int .i64 x4, .int .i64 y4]] w fun e w' => e = .returned (.tuple #[.agg #[.int .i64 x3, .int .i64 y3], .int .i64 0]) ∧ Below w.heap.size w w') (n1 : ∀ w, Calls Try.prog 5 #[.agg #[.int .i64 a, .int .i64 b]] w fun e w' => e = .returned (.int .i64 N1) ∧ Below w.heap.size w w') (n2 : ∀ w, Calls Try.prog 5 #[.agg #[.int .i64 c, .int .i64 d]] w fun e w' => e = .returned (.int .i64 N2) ∧ Below w.heap.size w w') (n3 : ∀ w, Calls Try.prog 5 #[.agg #[.int .i64 x0, .int .i64 y0]] w fun e w' => e = .returned (.int .i64 (N1 * N2)) ∧ Below w.heap.size w w') (g1 : N1 < 1073741824) (g2 : N2 < 1073741824) (m1 : -1073741825 ≤ N1 * N2 ∧ N1 * N2 ≤ 1152921504606846976) :
    Calls Try.prog 3 #[rv a b, rv c d, rv e f] w fun e w' => e = .returned (.bool true) ∧ Below w.heap.size w w' := by
  unfold rv
  have H0 := hide h0
  have H1 := hide h1
  have H2 := hide h2
  have H3 := hide h3
  have H4 := hide h4
  have H5 := hide h5
  have M1 := hide n1
  have M2 := hide n2
  have M3 := hide n3
  clear h0 h1 h2 h3 h4 h5 n1 n2 n3
  have t0 := ((two_alloc w (.int .i64 a) (.int .i64 b) 23).alloc (.cells #[.int .i64 c, .int .i64 d] 23)).alloc (.cells #[.int .i64 e, .int .i64 f] 23)
  have T0 := hide t0
  have e1 : (w.alloc (.cells #[.int .i64 a, .int .i64 b] 23)).heap.size = w.heap.size + 1 := by simp
  have t1 := (two_alloc (w.alloc (.cells #[.int .i64 a, .int .i64 b] 23)) (.int .i64 c) (.int .i64 d) 23).alloc (.cells #[.int .i64 e, .int .i64 f] 23)
  rw [e1] at t1
  have T1 := hide t1
  have e2 : ((w.alloc (.cells #[.int .i64 a, .int .i64 b] 23)).alloc (.cells #[.int .i64 c, .int .i64 d] 23)).heap.size = w.heap.size + 2 := by simp
  have t2 := two_alloc ((w.alloc (.cells #[.int .i64 a, .int .i64 b] 23)).alloc (.cells #[.int .i64 c, .int .i64 d] 23)) (.int .i64 e) (.int .i64 f) 23
  rw [e2] at t2
  have T2 := hide t2
  have BB : Hid (Below w.heap.size w (((w.alloc (.cells #[.int .i64 a, .int .i64 b] 23)).alloc (.cells #[.int .i64 c, .int .i64 d] 23)).alloc (.cells #[.int .i64 e, .int .i64 f] 23))) := ((((Below.refl _ _).alloc (by first | exact Nat.le_refl _ | (simp; done) | (simp; omega)) _).alloc (by first | exact Nat.le_refl _ | (simp; done) | (simp; omega)) _).alloc (by first | exact Nat.le_refl _ | (simp; done) | (simp; omega)) _)
  clear t0 t1 t2 e1 e2
  go_enter Try.func3, Try.ntmps3
  have fT00 := (unhide T0).c0
  have fT01 := (unhide T0).c1
  have fT10 := (unhide T1).c0
  have fT11 := (unhide T1).c1
  go_wp2_with fail
  clear fT00 fT01 fT10 fT11
  refine (unhide H0 _).mono ?_
  rintro e w1 ⟨rfl, b1⟩
  have new := hide (two_alloc w1 (.int .i64 x0) (.int .i64 y0) 23)
  have T0n := hide (((unhide T0).up b1).alloc (.cells #[.int .i64 x0, .int .i64 y0] 23))
  have T1n := hide (((unhide T1).up b1).alloc (.cells #[.int .i64 x0, .int .i64 y0] 23))
  have T2n := hide (((unhide T2).up b1).alloc (.cells #[.int .i64 x0, .int .i64 y0] 23))
  have BBn : Hid (Below w.heap.size w (w1.alloc (.cells #[.int .i64 x0, .int .i64 y0] 23))) := by
    have := (unhide BB).trans (b1.mono (unhide BB).size)
    exact this.alloc this.size _
  clear BB T0 T1 T2
  have T0 := T0n
  have T1 := T1n
  have T2 := T2n
  have BB := BBn
  clear BBn T0n T1n T2n
  have S0 := new
  clear new b1
  have fT00 := (unhide T0).c0
  have fT01 := (unhide T0).c1
  have fT10 := (unhide T1).c0
  have fT11 := (unhide T1).c1
  go_wp2_with fail
  clear fT00 fT01 fT10 fT11
  generalize w1.alloc (.cells #[.int .i64 x0, .int .i64 y0] 23) = W at *
  generalize w1.heap.size = s0 at *
  refine (unhide H1 _).mono ?_
  rintro e w1 ⟨rfl, b1⟩
  have new := hide (two_alloc w1 (.int .i64 x0) (.int .i64 y0) 23)
  have T0n := hide (((unhide T0).up b1).alloc (.cells #[.int .i64 x0, .int .i64 y0] 23))
  have T1n := hide (((unhide T1).up b1).alloc (.cells #[.int .i64 x0, .int .i64 y0] 23))
  have T2n := hide (((unhide T2).up b1).alloc (.cells #[.int .i64 x0, .int .i64 y0] 23))
  have S0n := hide (((unhide S0).up b1).alloc (.cells #[.int .i64 x0, .int .i64 y0] 23))
  have BBn : Hid (Below w.heap.size w (w1.alloc (.cells #[.int .i64 x0, .int .i64 y0] 23))) := by
    have := (unhide BB).trans (b1.mono (unhide BB).size)
    exact this.alloc this.size _
  clear BB T0 T1 T2 S0
  have T0 := T0n
  have T1 := T1n
  have T2 := T2n
  have S0 := S0n
  have BB := BBn
  clear BBn T0n T1n T2n S0n
  have S1 := new
  clear new b1
  have fS00 := (unhide S0).c0
  have fS01 := (unhide S0).c1
  have fS10 := (unhide S1).c0
  have fS11 := (unhide S1).c1
  go_wp2_with fail
  clear fS00 fS01 fS10 fS11
  generalize w1.alloc (.cells #[.int .i64 x0, .int .i64 y0] 23) = W at *
  generalize w1.heap.size = s1 at *
  have pT00 : ∀ x : Gb W, _ := fun x => (gb_two (unhide T0) x).c0
  have pT01 : ∀ x : Gb W, _ := fun x => (gb_two (unhide T0) x).c1
  have pT10 : ∀ x : Gb W, _ := fun x => (gb_two (unhide T1) x).c0
  have pT11 : ∀ x : Gb W, _ := fun x => (gb_two (unhide T1) x).c1
  have pS00 : ∀ x : Gb W, _ := fun x => (gb_two (unhide S0) x).c0
  have pS01 : ∀ x : Gb W, _ := fun x => (gb_two (unhide S0) x).c1
  have hne := gb_ne W
  refine wp_region_grB (by kernel_rfl) (by kernel_rfl) ?_
  iterate 7 (go_big_quiet_step ((go_at_call 5; exact gb_call (unhide M1 _))))
  iterate 5 (go_big_quiet_step ((go_at_call 5; exact gb_call (unhide M2 _))))
  iterate 3 (go_big_quiet_step ((go_at_call 5; exact gb_call (unhide M3 _))))
  iterate 2 (go_big_quiet_step ((go_at_call 5; exact gb_call (unhide M1 _))))
  repeat (go_big_quiet_step ((go_at_call 5; exact gb_call (unhide M2 _))))
  refine wpQuiet_nil ?_
  rintro w7 ⟨⟨_, b7⟩, rfl⟩
  clear hne pT00 pT01 pT10 pT11 pS00 pS01
  have T0n := hide ((unhide T0).up b7)
  have T1n := hide ((unhide T1).up b7)
  have T2n := hide ((unhide T2).up b7)
  have S0n := hide ((unhide S0).up b7)
  have S1n := hide ((unhide S1).up b7)
  have BBn := hide ((unhide BB).trans (b7.mono (unhide BB).size))
  clear BB T0 T1 T2 S0 S1
  have T0 := T0n
  have T1 := T1n
  have T2 := T2n
  have S0 := S0n
  have S1 := S1n
  have BB := BBn
  clear BBn T0n T1n T2n S0n S1n
  clear b7
  have fT10 := (unhide T1).c0
  have fT11 := (unhide T1).c1
  have fT20 := (unhide T2).c0
  have fT21 := (unhide T2).c1
  go_wp2_with fail
  clear fT10 fT11 fT20 fT21
  refine (unhide H2 _).mono ?_
  rintro e w1 ⟨rfl, b1⟩
  have new := hide (two_alloc w1 (.int .i64 x2) (.int .i64 y2) 23)
  have T0n := hide (((unhide T0).up b1).alloc (.cells #[.int .i64 x2, .int .i64 y2] 23))
  have T1n := hide (((unhide T1).up b1).alloc (.cells #[.int .i64 x2, .int .i64 y2] 23))
  have T2n := hide (((unhide T2).up b1).alloc (.cells #[.int .i64 x2, .int .i64 y2] 23))
  have S0n := hide (((unhide S0).up b1).alloc (.cells #[.int .i64 x2, .int .i64 y2] 23))
  have S1n := hide (((unhide S1).up b1).alloc (.cells #[.int .i64 x2, .int .i64 y2] 23))
  have BBn : Hid (Below w.heap.size w (w1.alloc (.cells #[.int .i64 x2, .int .i64 y2] 23))) := by
    have := (unhide BB).trans (b1.mono (unhide BB).size)
    exact this.alloc this.size _
  clear BB T0 T1 T2 S0 S1
  have T0 := T0n
  have T1 := T1n
  have T2 := T2n
  have S0 := S0n
  have S1 := S1n
  have BB := BBn
  clear BBn T0n T1n T2n S0n S1n
  have S2 := new
  clear new b1
  have fT00 := (unhide T0).c0
  have fT01 := (unhide T0).c1
  have fS20 := (unhide S2).c0
  have fS21 := (unhide S2).c1
  go_wp2_with fail
  clear fT00 fT01 fS20 fS21
  generalize w1.alloc (.cells #[.int .i64 x2, .int .i64 y2] 23) = W at *
  generalize w1.heap.size = sS2 at *
  refine (unhide H3 _).mono ?_
  rintro e w1 ⟨rfl, b1⟩
  have new := hide (two_alloc w1 (.int .i64 x3) (.int .i64 y3) 23)
  have T0n := hide (((unhide T0).up b1).alloc (.cells #[.int .i64 x3, .int .i64 y3] 23))
  have T1n := hide (((unhide T1).up b1).alloc (.cells #[.int .i64 x3, .int .i64 y3] 23))
  have T2n := hide (((unhide T2).up b1).alloc (.cells #[.int .i64 x3, .int .i64 y3] 23))
  have S0n := hide (((unhide S0).up b1).alloc (.cells #[.int .i64 x3, .int .i64 y3] 23))
  have S1n := hide (((unhide S1).up b1).alloc (.cells #[.int .i64 x3, .int .i64 y3] 23))
  have S2n := hide (((unhide S2).up b1).alloc (.cells #[.int .i64 x3, .int .i64 y3] 23))
  have BBn : Hid (Below w.heap.size w (w1.alloc (.cells #[.int .i64 x3, .int .i64 y3] 23))) := by
    have := (unhide BB).trans (b1.mono (unhide BB).size)
    exact this.alloc this.size _
  clear BB T0 T1 T2 S0 S1 S2
  have T0 := T0n
  have T1 := T1n
  have T2 := T2n
  have S0 := S0n
  have S1 := S1n
  have S2 := S2n
  have BB := BBn
  clear BBn T0n T1n T2n S0n S1n S2n
  have S3 := new
  clear new b1
  have fT00 := (unhide T0).c0
  have fT01 := (unhide T0).c1
  have fT20 := (unhide T2).c0
  have fT21 := (unhide T2).c1
  go_wp2_with fail
  clear fT00 fT01 fT20 fT21
  generalize w1.alloc (.cells #[.int .i64 x3, .int .i64 y3] 23) = W at *
  generalize w1.heap.size = sS3 at *
  refine (unhide H4 _).mono ?_
  rintro e w1 ⟨rfl, b1⟩
  have new := hide (two_alloc w1 (.int .i64 x4) (.int .i64 y4) 23)
  have T0n := hide (((unhide T0).up b1).alloc (.cells #[.int .i64 x4, .int .i64 y4] 23))
  have T1n := hide (((unhide T1).up b1).alloc (.cells #[.int .i64 x4, .int .i64 y4] 23))
  have T2n := hide (((unhide T2).up b1).alloc (.cells #[.int .i64 x4, .int .i64 y4] 23))
  have S0n := hide (((unhide S0).up b1).alloc (.cells #[.int .i64 x4, .int .i64 y4] 23))
  have S1n := hide (((unhide S1).up b1).alloc (.cells #[.int .i64 x4, .int .i64 y4] 23))
  have S2n := hide (((unhide S2).up b1).alloc (.cells #[.int .i64 x4, .int .i64 y4] 23))
  have S3n := hide (((unhide S3).up b1).alloc (.cells #[.int .i64 x4, .int .i64 y4] 23))
  have BBn : Hid (Below w.heap.size w (w1.alloc (.cells #[.int .i64 x4, .int .i64 y4] 23))) := by
    have := (unhide BB).trans (b1.mono (unhide BB).size)
    exact this.alloc this.size _
  clear BB T0 T1 T2 S0 S1 S2 S3
  have T0 := T0n
  have T1 := T1n
  have T2 := T2n
  have S0 := S0n
  have S1 := S1n
  have S2 := S2n
  have S3 := S3n
  have BB := BBn
  clear BBn T0n T1n T2n S0n S1n S2n S3n
  have S4 := new
  clear new b1
  have fS00 := (unhide S0).c0
  have fS01 := (unhide S0).c1
  have fS40 := (unhide S4).c0
  have fS41 := (unhide S4).c1
  go_wp2_with fail
  clear fS00 fS01 fS40 fS41
  generalize w1.alloc (.cells #[.int .i64 x4, .int .i64 y4] 23) = W at *
  generalize w1.heap.size = sS4 at *
  refine (unhide H5 _).mono ?_
  rintro e w1 ⟨rfl, b1⟩
  have new := hide (two_alloc w1 (.int .i64 x3) (.int .i64 y3) 23)
  have T0n := hide (((unhide T0).up b1).alloc (.cells #[.int .i64 x3, .int .i64 y3] 23))
  have T1n := hide (((unhide T1).up b1).alloc (.cells #[.int .i64 x3, .int .i64 y3] 23))
  have T2n := hide (((unhide T2).up b1).alloc (.cells #[.int .i64 x3, .int .i64 y3] 23))
  have S0n := hide (((unhide S0).up b1).alloc (.cells #[.int .i64 x3, .int .i64 y3] 23))
  have S1n := hide (((unhide S1).up b1).alloc (.cells #[.int .i64 x3, .int .i64 y3] 23))
  have S2n := hide (((unhide S2).up b1).alloc (.cells #[.int .i64 x3, .int .i64 y3] 23))
  have S3n := hide (((unhide S3).up b1).alloc (.cells #[.int .i64 x3, .int .i64 y3] 23))
  have S4n := hide (((unhide S4).up b1).alloc (.cells #[.int .i64 x3, .int .i64 y3] 23))
  have BBn : Hid (Below w.heap.size w (w1.alloc (.cells #[.int .i64 x3, .int .i64 y3] 23))) := by
    have := (unhide BB).trans (b1.mono (unhide BB).size)
    exact this.alloc this.size _
  clear BB T0 T1 T2 S0 S1 S2 S3 S4
  have T0 := T0n
  have T1 := T1n
  have T2 := T2n
  have S0 := S0n
  have S1 := S1n
  have S2 := S2n
  have S3 := S3n
  have S4 := S4n
  have BB := BBn
  clear BBn T0n T1n T2n S0n S1n S2n S3n S4n
  have S5 := new
  clear new b1
  go_wp2_with fail
  refine (awake_any _).mono ?_
  rintro e w9 ⟨rfl, b9⟩
  have T0n := hide ((unhide T0).up b9)
  have T1n := hide ((unhide T1).up b9)
  have T2n := hide ((unhide T2).up b9)
  have S0n := hide ((unhide S0).up b9)
  have S1n := hide ((unhide S1).up b9)
  have S2n := hide ((unhide S2).up b9)
  have S3n := hide ((unhide S3).up b9)
  have S4n := hide ((unhide S4).up b9)
  have S5n := hide ((unhide S5).up b9)
  have BBn := hide ((unhide BB).trans (b9.mono (unhide BB).size))
  clear BB T0 T1 T2 S0 S1 S2 S3 S4 S5
  have T0 := T0n
  have T1 := T1n
  have T2 := T2n
  have S0 := S0n
  have S1 := S1n
  have S2 := S2n
  have S3 := S3n
  have S4 := S4n
  have S5 := S5n
  have BB := BBn
  clear BBn T0n T1n T2n S0n S1n S2n S3n S4n S5n
  have fS30 := (unhide S3).c0
  have fS31 := (unhide S3).c1
  have fS50 := (unhide S5).c0
  have fS51 := (unhide S5).c1
  go_wp2
  go_ret
  exact ⟨rfl, unhide BB⟩

set_option maxRecDepth 100000 in
set_option maxHeartbeats 4000000 in
theorem n_tf (a b c d e f x0 y0 x2 y2 x3 y3 x4 y4 N1 N2 x5 y5 z2 z3 z4 z5 : Int) (w : World) (h0 : ∀ w, Calls Try.prog 4 #[.agg #[.int .i64 a, .int .i64 b], .agg #[.int .i64 c, .int .i64 d]] w fun e w' => e = .returned (.tuple #[.agg #[.int .i64 x0, .int .i64 y0], .int .i64 0]) ∧ Below w.heap.size w w') (h1 : ∀ w, Calls Try.prog 4 #[.agg #[.int .i64 c, .int .i64 d], .agg #[.int .i64 a, .int .i64 b]] w fun e w' => e = .returned (.tuple #[.agg #[.int .i64 x0, .int .i64 y0], .int .i64 0]) ∧ Below w.heap.size w w') (h2 : ∀ w, Calls Try.prog 6 #[.agg #[.int .i64 c, .int .i64 d], .agg #[.int .i64 e, .int .i64 f]] w fun e w' => e = .returned (.tuple #[.agg #[.int .i64 x2, .int .i64 y2], .int .i64 z2]) ∧ Below w.heap.size w w') (h3 : ∀ w, Calls Try.prog 4 #[.agg #[.int .i64 a, .int .i64 b], .agg #[.int .i64 x2, .int .i64 y2]] w fun e w' => e = .returned (.tuple #[.agg #[.int .i64 x3, .int .i64 y3], .int .i64 z3]) ∧ Below w.heap.size w w') (h4 : ∀ w, Calls Try.prog 4 #[.agg #[.int .i64 a, .int .i64 b], .agg #[.int .i64 e, .int .i64 f]] w fun e w' => e = .returned (.tuple #[.agg #[.int .i64 x4, .int .i64 y4], .int .i64 z4]) ∧ Below w.heap.size w w') (h5 : ∀ w, Calls Try.prog 6 #[.agg #[.int .i64 x0, .int .i64 y0], .agg #[.int .i64 x4, .int .i64 y4]] w fun e w' => e = .returned (.tuple #[.agg #[.int .i64 x5, .int .i64 y5], .int .i64 z5]) ∧ Below w.heap.size w w') (n1 : ∀ w, Calls Try.prog 5 #[.agg #[.int .i64 a, .int .i64 b]] w fun e w' => e = .returned (.int .i64 N1) ∧ Below w.heap.size w w') (n2 : ∀ w, Calls Try.prog 5 #[.agg #[.int .i64 c, .int .i64 d]] w fun e w' => e = .returned (.int .i64 N2) ∧ Below w.heap.size w w') (n3 : ∀ w, Calls Try.prog 5 #[.agg #[.int .i64 x0, .int .i64 y0]] w fun e w' => e = .returned (.int .i64 (N1 * N2)) ∧ Below w.heap.size w w') (g1 : N1 < 1073741824) (g2 : N2 < 1073741824) (m1 : -1073741825 ≤ N1 * N2 ∧ N1 * N2 ≤ 1152921504606846976) (j2 : 0 ≤ z2 ∧ z2 ≤ 8) (j3 : 0 ≤ z3 ∧ z3 ≤ 8) (j4 : 0 ≤ z4 ∧ z4 ≤ 8) (j5 : 0 ≤ z5 ∧ z5 ≤ 8) (hs : Hid (¬ (z2 = 0 ∧ z3 = 0 ∧ z4 = 0 ∧ z5 = 0))) :
    Calls Try.prog 3 #[rv a b, rv c d, rv e f] w fun e w' => e = .returned (.bool true) ∧ Below w.heap.size w w' := by
  unfold rv
  have H0 := hide h0
  have H1 := hide h1
  have H2 := hide h2
  have H3 := hide h3
  have H4 := hide h4
  have H5 := hide h5
  have M1 := hide n1
  have M2 := hide n2
  have M3 := hide n3
  clear h0 h1 h2 h3 h4 h5 n1 n2 n3
  have t0 := ((two_alloc w (.int .i64 a) (.int .i64 b) 23).alloc (.cells #[.int .i64 c, .int .i64 d] 23)).alloc (.cells #[.int .i64 e, .int .i64 f] 23)
  have T0 := hide t0
  have e1 : (w.alloc (.cells #[.int .i64 a, .int .i64 b] 23)).heap.size = w.heap.size + 1 := by simp
  have t1 := (two_alloc (w.alloc (.cells #[.int .i64 a, .int .i64 b] 23)) (.int .i64 c) (.int .i64 d) 23).alloc (.cells #[.int .i64 e, .int .i64 f] 23)
  rw [e1] at t1
  have T1 := hide t1
  have e2 : ((w.alloc (.cells #[.int .i64 a, .int .i64 b] 23)).alloc (.cells #[.int .i64 c, .int .i64 d] 23)).heap.size = w.heap.size + 2 := by simp
  have t2 := two_alloc ((w.alloc (.cells #[.int .i64 a, .int .i64 b] 23)).alloc (.cells #[.int .i64 c, .int .i64 d] 23)) (.int .i64 e) (.int .i64 f) 23
  rw [e2] at t2
  have T2 := hide t2
  have BB : Hid (Below w.heap.size w (((w.alloc (.cells #[.int .i64 a, .int .i64 b] 23)).alloc (.cells #[.int .i64 c, .int .i64 d] 23)).alloc (.cells #[.int .i64 e, .int .i64 f] 23))) := ((((Below.refl _ _).alloc (by first | exact Nat.le_refl _ | (simp; done) | (simp; omega)) _).alloc (by first | exact Nat.le_refl _ | (simp; done) | (simp; omega)) _).alloc (by first | exact Nat.le_refl _ | (simp; done) | (simp; omega)) _)
  clear t0 t1 t2 e1 e2
  go_enter Try.func3, Try.ntmps3
  have fT00 := (unhide T0).c0
  have fT01 := (unhide T0).c1
  have fT10 := (unhide T1).c0
  have fT11 := (unhide T1).c1
  go_wp2_with fail
  clear fT00 fT01 fT10 fT11
  refine (unhide H0 _).mono ?_
  rintro e w1 ⟨rfl, b1⟩
  have new := hide (two_alloc w1 (.int .i64 x0) (.int .i64 y0) 23)
  have T0n := hide (((unhide T0).up b1).alloc (.cells #[.int .i64 x0, .int .i64 y0] 23))
  have T1n := hide (((unhide T1).up b1).alloc (.cells #[.int .i64 x0, .int .i64 y0] 23))
  have T2n := hide (((unhide T2).up b1).alloc (.cells #[.int .i64 x0, .int .i64 y0] 23))
  have BBn : Hid (Below w.heap.size w (w1.alloc (.cells #[.int .i64 x0, .int .i64 y0] 23))) := by
    have := (unhide BB).trans (b1.mono (unhide BB).size)
    exact this.alloc this.size _
  clear BB T0 T1 T2
  have T0 := T0n
  have T1 := T1n
  have T2 := T2n
  have BB := BBn
  clear BBn T0n T1n T2n
  have S0 := new
  clear new b1
  have fT00 := (unhide T0).c0
  have fT01 := (unhide T0).c1
  have fT10 := (unhide T1).c0
  have fT11 := (unhide T1).c1
  go_wp2_with fail
  clear fT00 fT01 fT10 fT11
  generalize w1.alloc (.cells #[.int .i64 x0, .int .i64 y0] 23) = W at *
  generalize w1.heap.size = s0 at *
  refine (unhide H1 _).mono ?_
  rintro e w1 ⟨rfl, b1⟩
  have new := hide (two_alloc w1 (.int .i64 x0) (.int .i64 y0) 23)
  have T0n := hide (((unhide T0).up b1).alloc (.cells #[.int .i64 x0, .int .i64 y0] 23))
  have T1n := hide (((unhide T1).up b1).alloc (.cells #[.int .i64 x0, .int .i64 y0] 23))
  have T2n := hide (((unhide T2).up b1).alloc (.cells #[.int .i64 x0, .int .i64 y0] 23))
  have S0n := hide (((unhide S0).up b1).alloc (.cells #[.int .i64 x0, .int .i64 y0] 23))
  have BBn : Hid (Below w.heap.size w (w1.alloc (.cells #[.int .i64 x0, .int .i64 y0] 23))) := by
    have := (unhide BB).trans (b1.mono (unhide BB).size)
    exact this.alloc this.size _
  clear BB T0 T1 T2 S0
  have T0 := T0n
  have T1 := T1n
  have T2 := T2n
  have S0 := S0n
  have BB := BBn
  clear BBn T0n T1n T2n S0n
  have S1 := new
  clear new b1
  have fS00 := (unhide S0).c0
  have fS01 := (unhide S0).c1
  have fS10 := (unhide S1).c0
  have fS11 := (unhide S1).c1
  go_wp2_with fail
  clear fS00 fS01 fS10 fS11
  generalize w1.alloc (.cells #[.int .i64 x0, .int .i64 y0] 23) = W at *
  generalize w1.heap.size = s1 at *
  have pT00 : ∀ x : Gb W, _ := fun x => (gb_two (unhide T0) x).c0
  have pT01 : ∀ x : Gb W, _ := fun x => (gb_two (unhide T0) x).c1
  have pT10 : ∀ x : Gb W, _ := fun x => (gb_two (unhide T1) x).c0
  have pT11 : ∀ x : Gb W, _ := fun x => (gb_two (unhide T1) x).c1
  have pS00 : ∀ x : Gb W, _ := fun x => (gb_two (unhide S0) x).c0
  have pS01 : ∀ x : Gb W, _ := fun x => (gb_two (unhide S0) x).c1
  have hne := gb_ne W
  refine wp_region_grB (by kernel_rfl) (by kernel_rfl) ?_
  iterate 7 (go_big_quiet_step ((go_at_call 5; exact gb_call (unhide M1 _))))
  iterate 5 (go_big_quiet_step ((go_at_call 5; exact gb_call (unhide M2 _))))
  iterate 3 (go_big_quiet_step ((go_at_call 5; exact gb_call (unhide M3 _))))
  iterate 2 (go_big_quiet_step ((go_at_call 5; exact gb_call (unhide M1 _))))
  repeat (go_big_quiet_step ((go_at_call 5; exact gb_call (unhide M2 _))))
  refine wpQuiet_nil ?_
  rintro w7 ⟨⟨_, b7⟩, rfl⟩
  clear hne pT00 pT01 pT10 pT11 pS00 pS01
  have T0n := hide ((unhide T0).up b7)
  have T1n := hide ((unhide T1).up b7)
  have T2n := hide ((unhide T2).up b7)
  have S0n := hide ((unhide S0).up b7)
  have S1n := hide ((unhide S1).up b7)
  have BBn := hide ((unhide BB).trans (b7.mono (unhide BB).size))
  clear BB T0 T1 T2 S0 S1
  have T0 := T0n
  have T1 := T1n
  have T2 := T2n
  have S0 := S0n
  have S1 := S1n
  have BB := BBn
  clear BBn T0n T1n T2n S0n S1n
  clear b7
  have fT10 := (unhide T1).c0
  have fT11 := (unhide T1).c1
  have fT20 := (unhide T2).c0
  have fT21 := (unhide T2).c1
  go_wp2_with fail
  clear fT10 fT11 fT20 fT21
  refine (unhide H2 _).mono ?_
  rintro e w1 ⟨rfl, b1⟩
  have new := hide (two_alloc w1 (.int .i64 x2) (.int .i64 y2) 23)
  have T0n := hide (((unhide T0).up b1).alloc (.cells #[.int .i64 x2, .int .i64 y2] 23))
  have T1n := hide (((unhide T1).up b1).alloc (.cells #[.int .i64 x2, .int .i64 y2] 23))
  have T2n := hide (((unhide T2).up b1).alloc (.cells #[.int .i64 x2, .int .i64 y2] 23))
  have S0n := hide (((unhide S0).up b1).alloc (.cells #[.int .i64 x2, .int .i64 y2] 23))
  have S1n := hide (((unhide S1).up b1).alloc (.cells #[.int .i64 x2, .int .i64 y2] 23))
  have BBn : Hid (Below w.heap.size w (w1.alloc (.cells #[.int .i64 x2, .int .i64 y2] 23))) := by
    have := (unhide BB).trans (b1.mono (unhide BB).size)
    exact this.alloc this.size _
  clear BB T0 T1 T2 S0 S1
  have T0 := T0n
  have T1 := T1n
  have T2 := T2n
  have S0 := S0n
  have S1 := S1n
  have BB := BBn
  clear BBn T0n T1n T2n S0n S1n
  have S2 := new
  clear new b1
  have fT00 := (unhide T0).c0
  have fT01 := (unhide T0).c1
  have fS20 := (unhide S2).c0
  have fS21 := (unhide S2).c1
  go_wp2_with fail
  clear fT00 fT01 fS20 fS21
  generalize w1.alloc (.cells #[.int .i64 x2, .int .i64 y2] 23) = W at *
  generalize w1.heap.size = sS2 at *
  refine (unhide H3 _).mono ?_
  rintro e w1 ⟨rfl, b1⟩
  have new := hide (two_alloc w1 (.int .i64 x3) (.int .i64 y3) 23)
  have T0n := hide (((unhide T0).up b1).alloc (.cells #[.int .i64 x3, .int .i64 y3] 23))
  have T1n := hide (((unhide T1).up b1).alloc (.cells #[.int .i64 x3, .int .i64 y3] 23))
  have T2n := hide (((unhide T2).up b1).alloc (.cells #[.int .i64 x3, .int .i64 y3] 23))
  have S0n := hide (((unhide S0).up b1).alloc (.cells #[.int .i64 x3, .int .i64 y3] 23))
  have S1n := hide (((unhide S1).up b1).alloc (.cells #[.int .i64 x3, .int .i64 y3] 23))
  have S2n := hide (((unhide S2).up b1).alloc (.cells #[.int .i64 x3, .int .i64 y3] 23))
  have BBn : Hid (Below w.heap.size w (w1.alloc (.cells #[.int .i64 x3, .int .i64 y3] 23))) := by
    have := (unhide BB).trans (b1.mono (unhide BB).size)
    exact this.alloc this.size _
  clear BB T0 T1 T2 S0 S1 S2
  have T0 := T0n
  have T1 := T1n
  have T2 := T2n
  have S0 := S0n
  have S1 := S1n
  have S2 := S2n
  have BB := BBn
  clear BBn T0n T1n T2n S0n S1n S2n
  have S3 := new
  clear new b1
  have fT00 := (unhide T0).c0
  have fT01 := (unhide T0).c1
  have fT20 := (unhide T2).c0
  have fT21 := (unhide T2).c1
  go_wp2_with fail
  clear fT00 fT01 fT20 fT21
  generalize w1.alloc (.cells #[.int .i64 x3, .int .i64 y3] 23) = W at *
  generalize w1.heap.size = sS3 at *
  refine (unhide H4 _).mono ?_
  rintro e w1 ⟨rfl, b1⟩
  have new := hide (two_alloc w1 (.int .i64 x4) (.int .i64 y4) 23)
  have T0n := hide (((unhide T0).up b1).alloc (.cells #[.int .i64 x4, .int .i64 y4] 23))
  have T1n := hide (((unhide T1).up b1).alloc (.cells #[.int .i64 x4, .int .i64 y4] 23))
  have T2n := hide (((unhide T2).up b1).alloc (.cells #[.int .i64 x4, .int .i64 y4] 23))
  have S0n := hide (((unhide S0).up b1).alloc (.cells #[.int .i64 x4, .int .i64 y4] 23))
  have S1n := hide (((unhide S1).up b1).alloc (.cells #[.int .i64 x4, .int .i64 y4] 23))
  have S2n := hide (((unhide S2).up b1).alloc (.cells #[.int .i64 x4, .int .i64 y4] 23))
  have S3n := hide (((unhide S3).up b1).alloc (.cells #[.int .i64 x4, .int .i64 y4] 23))
  have BBn : Hid (Below w.heap.size w (w1.alloc (.cells #[.int .i64 x4, .int .i64 y4] 23))) := by
    have := (unhide BB).trans (b1.mono (unhide BB).size)
    exact this.alloc this.size _
  clear BB T0 T1 T2 S0 S1 S2 S3
  have T0 := T0n
  have T1 := T1n
  have T2 := T2n
  have S0 := S0n
  have S1 := S1n
  have S2 := S2n
  have S3 := S3n
  have BB := BBn
  clear BBn T0n T1n T2n S0n S1n S2n S3n
  have S4 := new
  clear new b1
  have fS00 := (unhide S0).c0
  have fS01 := (unhide S0).c1
  have fS40 := (unhide S4).c0
  have fS41 := (unhide S4).c1
  go_wp2_with fail
  clear fS00 fS01 fS40 fS41
  generalize w1.alloc (.cells #[.int .i64 x4, .int .i64 y4] 23) = W at *
  generalize w1.heap.size = sS4 at *
  refine (unhide H5 _).mono ?_
  rintro e w1 ⟨rfl, b1⟩
  have new := hide (two_alloc w1 (.int .i64 x5) (.int .i64 y5) 23)
  have T0n := hide (((unhide T0).up b1).alloc (.cells #[.int .i64 x5, .int .i64 y5] 23))
  have T1n := hide (((unhide T1).up b1).alloc (.cells #[.int .i64 x5, .int .i64 y5] 23))
  have T2n := hide (((unhide T2).up b1).alloc (.cells #[.int .i64 x5, .int .i64 y5] 23))
  have S0n := hide (((unhide S0).up b1).alloc (.cells #[.int .i64 x5, .int .i64 y5] 23))
  have S1n := hide (((unhide S1).up b1).alloc (.cells #[.int .i64 x5, .int .i64 y5] 23))
  have S2n := hide (((unhide S2).up b1).alloc (.cells #[.int .i64 x5, .int .i64 y5] 23))
  have S3n := hide (((unhide S3).up b1).alloc (.cells #[.int .i64 x5, .int .i64 y5] 23))
  have S4n := hide (((unhide S4).up b1).alloc (.cells #[.int .i64 x5, .int .i64 y5] 23))
  have BBn : Hid (Below w.heap.size w (w1.alloc (.cells #[.int .i64 x5, .int .i64 y5] 23))) := by
    have := (unhide BB).trans (b1.mono (unhide BB).size)
    exact this.alloc this.size _
  clear BB T0 T1 T2 S0 S1 S2 S3 S4
  have T0 := T0n
  have T1 := T1n
  have T2 := T2n
  have S0 := S0n
  have S1 := S1n
  have S2 := S2n
  have S3 := S3n
  have S4 := S4n
  have BB := BBn
  clear BBn T0n T1n T2n S0n S1n S2n S3n S4n
  have S5 := new
  clear new b1
  have hz := unhide hs
  have hq : (z2 + z3 + z4 + z5 != 0) = true := by simp; omega
  have hq2 : ¬ z2 + z3 + z4 + z5 = 0 := by omega
  clear hz
  go_wp2_with fail
  refine (awake_any _).mono ?_
  rintro e w9 ⟨rfl, b9⟩
  have T0n := hide ((unhide T0).up b9)
  have T1n := hide ((unhide T1).up b9)
  have T2n := hide ((unhide T2).up b9)
  have S0n := hide ((unhide S0).up b9)
  have S1n := hide ((unhide S1).up b9)
  have S2n := hide ((unhide S2).up b9)
  have S3n := hide ((unhide S3).up b9)
  have S4n := hide ((unhide S4).up b9)
  have S5n := hide ((unhide S5).up b9)
  have BBn := hide ((unhide BB).trans (b9.mono (unhide BB).size))
  clear BB T0 T1 T2 S0 S1 S2 S3 S4 S5
  have T0 := T0n
  have T1 := T1n
  have T2 := T2n
  have S0 := S0n
  have S1 := S1n
  have S2 := S2n
  have S3 := S3n
  have S4 := S4n
  have S5 := S5n
  have BB := BBn
  clear BBn T0n T1n T2n S0n S1n S2n S3n S4n S5n
  go_wp2
  go_ret
  exact ⟨rfl, unhide BB⟩

end Go.Proofs.Ythodhabjcbohcab

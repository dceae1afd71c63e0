/- What the law PlaneSpirals, some of its ways does, whatever the world: it answers true and changes nothing that was there. -/
import Derived.Test.YthodhabjcbohcaaPlI
import Derived.Test.YthodhabjcbohcaaPlG
namespace Go.Proofs.Ythodhabjcbohcaa
open Go.RowKit
set_option linter.unusedVariables false

set_option maxRecDepth 100000 in
set_option maxHeartbeats 1000000 in
theorem sp_Ca (n x y u v er N : Int) (w : World) (h0 : ∀ w, Calls Try.prog 30 #[.int .i64 n] w fun e w' => e = .returned (.tuple #[rv u v, .int .i64 er]) ∧ Below w.heap.size w w') (h1 : ∀ w, Calls Try.prog 31 #[.int .i64 n] w fun e w' => e = .returned (.tuple #[rv u v, .int .i64 er]) ∧ Below w.heap.size w w') (u1 : ∀ w, Calls Try.prog 32 #[rv x y] w fun e w' => e = .returned (.int .i64 N) ∧ Below w.heap.size w w') (u2 : ∀ w, Calls Try.prog 33 #[rv x y] w fun e w' => e = .returned (.int .i64 N) ∧ Below w.heap.size w w') (hc : ∀ w, Calls Try.prog 17 #[rv x y] w fun e w' => e = .returned (.bool false) ∧ Below w.heap.size w w') (na : 1099511627776 < n) :
    Calls Try.prog 7 #[.int .i64 n, rv x y] w fun e w' => e = .returned (.bool true) ∧ Below w.heap.size w w' := by
  have H0 := hide h0
  have H1 := hide h1
  have U1 := hide u1
  have U2 := hide u2
  have HC := hide hc
  have Ru := hide (fun w => ref_any u v w)
  have Rp := hide (fun w => ref_any x y w)
  clear h0 h1 u1 u2 hc
  unfold rv at *
  have nb : 20000 < n := by omega
  have nc : ¬ n ≤ 1099511627776 := by omega
  have nd : decide (n ≤ 1099511627776) = false := decide_eq_false nc
  have t0 := two_alloc w (.int .i64 x) (.int .i64 y) 23
  have T0 := hide t0
  have BB : Hid (Below w.heap.size w (w.alloc (.cells #[.int .i64 x, .int .i64 y] 23))) := ((Below.refl _ _).alloc (by first | exact Nat.le_refl _ | (simp; done) | (simp; omega)) _)
  clear t0 
  go_enter Try.func7, Try.ntmps7
  have fT00 := (unhide T0).c0
  have fT01 := (unhide T0).c1
  go_wp2_with fail
  clear fT00 fT01
  refine (unhide HC _).mono ?_
  rintro e w2 ⟨rfl, b2⟩
  have T0n := hide ((unhide T0).up b2)
  have BBn := hide ((unhide BB).trans (b2.mono (unhide BB).size))
  clear BB T0
  have T0 := T0n
  have BB := BBn
  clear BBn T0n
  clear b2
  go_wp2_with fail
  refine (unhide H0 _).mono ?_
  rintro e w1 ⟨rfl, b1⟩
  have new := hide (two_alloc w1 (.int .i64 u) (.int .i64 v) 23)
  have T0n := hide (((unhide T0).up b1).alloc (.cells #[.int .i64 u, .int .i64 v] 23))
  have BBn : Hid (Below w.heap.size w (w1.alloc (.cells #[.int .i64 u, .int .i64 v] 23))) := by
    have := (unhide BB).trans (b1.mono (unhide BB).size)
    exact this.alloc this.size _
  clear BB T0
  have T0 := T0n
  have BB := BBn
  clear BBn T0n
  have S0 := new
  clear new b1
  go_wp2_with fail
  generalize w1.alloc (.cells #[.int .i64 u, .int .i64 v] 23) = W at *
  generalize w1.heap.size = s0 at *
  refine (unhide H1 _).mono ?_
  rintro e w1 ⟨rfl, b1⟩
  have new := hide (two_alloc w1 (.int .i64 u) (.int .i64 v) 27)
  have T0n := hide (((unhide T0).up b1).alloc (.cells #[.int .i64 u, .int .i64 v] 27))
  have S0n := hide (((unhide S0).up b1).alloc (.cells #[.int .i64 u, .int .i64 v] 27))
  have BBn : Hid (Below w.heap.size w (w1.alloc (.cells #[.int .i64 u, .int .i64 v] 27))) := by
    have := (unhide BB).trans (b1.mono (unhide BB).size)
    exact this.alloc this.size _
  clear BB T0 S0
  have T0 := T0n
  have S0 := S0n
  have BB := BBn
  clear BBn T0n S0n
  have V0 := new
  clear new b1
  go_wp2_with fail
  generalize w1.alloc (.cells #[.int .i64 u, .int .i64 v] 27) = W at *
  generalize w1.heap.size = s1 at *
  have pT00 : ∀ x : Gb W, _ := fun x => (gb_two (unhide T0) x).c0
  have pT01 : ∀ x : Gb W, _ := fun x => (gb_two (unhide T0) x).c1
  have pS00 : ∀ x : Gb W, _ := fun x => (gb_two (unhide S0) x).c0
  have pS01 : ∀ x : Gb W, _ := fun x => (gb_two (unhide S0) x).c1
  have pV00 : ∀ x : Gb W, _ := fun x => (gb_two (unhide V0) x).c0
  have pV01 : ∀ x : Gb W, _ := fun x => (gb_two (unhide V0) x).c1
  have hne := gb_ne W
  refine wp_region_grB (by kernel_rfl) (by kernel_rfl) ?_
  iterate 4 (go_big_quiet_step ((first | (go_at_call 16; exact gb_call (awake_any _)) | (go_at_call 13; exact gb_call (unhide Ru _)))))
  repeat (go_big_quiet_step ((first | (go_at_call 32; exact gb_call (unhide U1 _)) | (go_at_call 13; exact gb_call (unhide Rp _)) | (go_at_call 33; exact gb_call (unhide U2 _)))))
  refine wpQuiet_nil ?_
  rintro w7 ⟨⟨_, b7⟩, rfl⟩
  clear hne pT00 pT01 pS00 pS01 pV00 pV01
  have T0n := hide ((unhide T0).up b7)
  have S0n := hide ((unhide S0).up b7)
  have V0n := hide ((unhide V0).up b7)
  have BBn := hide ((unhide BB).trans (b7.mono (unhide BB).size))
  clear BB T0 S0 V0
  have T0 := T0n
  have S0 := S0n
  have V0 := V0n
  have BB := BBn
  clear BBn T0n S0n V0n
  clear b7
  go_wp2
  go_ret
  exact ⟨rfl, unhide BB⟩

set_option maxRecDepth 100000 in
set_option maxHeartbeats 1000000 in
theorem sp_Cb (n x y u v er N : Int) (w : World) (h0 : ∀ w, Calls Try.prog 30 #[.int .i64 n] w fun e w' => e = .returned (.tuple #[rv u v, .int .i64 er]) ∧ Below w.heap.size w w') (h1 : ∀ w, Calls Try.prog 31 #[.int .i64 n] w fun e w' => e = .returned (.tuple #[rv u v, .int .i64 er]) ∧ Below w.heap.size w w') (u1 : ∀ w, Calls Try.prog 32 #[rv x y] w fun e w' => e = .returned (.int .i64 N) ∧ Below w.heap.size w w') (u2 : ∀ w, Calls Try.prog 33 #[rv x y] w fun e w' => e = .returned (.int .i64 N) ∧ Below w.heap.size w w') (hc : ∀ w, Calls Try.prog 17 #[rv x y] w fun e w' => e = .returned (.bool true) ∧ Below w.heap.size w w') (na : 1099511627776 < n) (pa : -300 ≤ x ∧ x ≤ 300) (pb : -300 ≤ y ∧ y ≤ 300) :
    Calls Try.prog 7 #[.int .i64 n, rv x y] w fun e w' => e = .returned (.bool true) ∧ Below w.heap.size w w' := by
  have H0 := hide h0
  have H1 := hide h1
  have U1 := hide u1
  have U2 := hide u2
  have HC := hide hc
  have Ru := hide (fun w => ref_any u v w)
  have Rp := hide (fun w => ref_any x y w)
  clear h0 h1 u1 u2 hc
  unfold rv at *
  have nb : 20000 < n := by omega
  have nc : ¬ n ≤ 1099511627776 := by omega
  have nd : decide (n ≤ 1099511627776) = false := decide_eq_false nc
  have q1 : ¬ 300 < x := by omega
  have q2 : ¬ x < -300 := by omega
  have q3 : ¬ 300 < y := by omega
  have q4 : ¬ y < -300 := by omega
  have r1 : decide (300 < x) = false := decide_eq_false (by omega)
  have r2 : decide (x < -300) = false := decide_eq_false (by omega)
  have r3 : decide (300 < y) = false := decide_eq_false (by omega)
  have r4 : decide (y < -300) = false := decide_eq_false (by omega)
  have t0 := two_alloc w (.int .i64 x) (.int .i64 y) 23
  have T0 := hide t0
  have BB : Hid (Below w.heap.size w (w.alloc (.cells #[.int .i64 x, .int .i64 y] 23))) := ((Below.refl _ _).alloc (by first | exact Nat.le_refl _ | (simp; done) | (simp; omega)) _)
  clear t0 
  go_enter Try.func7, Try.ntmps7
  have fT00 := (unhide T0).c0
  have fT01 := (unhide T0).c1
  go_wp2_with fail
  clear fT00 fT01
  refine (unhide HC _).mono ?_
  rintro e w2 ⟨rfl, b2⟩
  have T0n := hide ((unhide T0).up b2)
  have BBn := hide ((unhide BB).trans (b2.mono (unhide BB).size))
  clear BB T0
  have T0 := T0n
  have BB := BBn
  clear BBn T0n
  clear b2
  have fT00 := (unhide T0).c0
  have fT01 := (unhide T0).c1
  go_wp2_with fail
  clear fT00 fT01
  refine (unhide H0 _).mono ?_
  rintro e w1 ⟨rfl, b1⟩
  have new := hide (two_alloc w1 (.int .i64 u) (.int .i64 v) 23)
  have T0n := hide (((unhide T0).up b1).alloc (.cells #[.int .i64 u, .int .i64 v] 23))
  have BBn : Hid (Below w.heap.size w (w1.alloc (.cells #[.int .i64 u, .int .i64 v] 23))) := by
    have := (unhide BB).trans (b1.mono (unhide BB).size)
    exact this.alloc this.size _
  clear BB T0
  have T0 := T0n
  have BB := BBn
  clear BBn T0n
  have S0 := new
  clear new b1
  go_wp2_with fail
  generalize w1.alloc (.cells #[.int .i64 u, .int .i64 v] 23) = W at *
  generalize w1.heap.size = s0 at *
  refine (unhide H1 _).mono ?_
  rintro e w1 ⟨rfl, b1⟩
  have new := hide (two_alloc w1 (.int .i64 u) (.int .i64 v) 27)
  have T0n := hide (((unhide T0).up b1).alloc (.cells #[.int .i64 u, .int .i64 v] 27))
  have S0n := hide (((unhide S0).up b1).alloc (.cells #[.int .i64 u, .int .i64 v] 27))
  have BBn : Hid (Below w.heap.size w (w1.alloc (.cells #[.int .i64 u, .int .i64 v] 27))) := by
    have := (unhide BB).trans (b1.mono (unhide BB).size)
    exact this.alloc this.size _
  clear BB T0 S0
  have T0 := T0n
  have S0 := S0n
  have BB := BBn
  clear BBn T0n S0n
  have V0 := new
  clear new b1
  go_wp2_with fail
  generalize w1.alloc (.cells #[.int .i64 u, .int .i64 v] 27) = W at *
  generalize w1.heap.size = s1 at *
  have pT00 : ∀ x : Gb W, _ := fun x => (gb_two (unhide T0) x).c0
  have pT01 : ∀ x : Gb W, _ := fun x => (gb_two (unhide T0) x).c1
  have pS00 : ∀ x : Gb W, _ := fun x => (gb_two (unhide S0) x).c0
  have pS01 : ∀ x : Gb W, _ := fun x => (gb_two (unhide S0) x).c1
  have pV00 : ∀ x : Gb W, _ := fun x => (gb_two (unhide V0) x).c0
  have pV01 : ∀ x : Gb W, _ := fun x => (gb_two (unhide V0) x).c1
  have hne := gb_ne W
  refine wp_region_grB (by kernel_rfl) (by kernel_rfl) ?_
  iterate 4 (go_big_quiet_step ((first | (go_at_call 16; exact gb_call (awake_any _)) | (go_at_call 13; exact gb_call (unhide Ru _)))))
  repeat (go_big_quiet_step ((first | (go_at_call 32; exact gb_call (unhide U1 _)) | (go_at_call 13; exact gb_call (unhide Rp _)) | (go_at_call 33; exact gb_call (unhide U2 _)))))
  refine wpQuiet_nil ?_
  rintro w7 ⟨⟨_, b7⟩, rfl⟩
  clear hne pT00 pT01 pS00 pS01 pV00 pV01
  have T0n := hide ((unhide T0).up b7)
  have S0n := hide ((unhide S0).up b7)
  have V0n := hide ((unhide V0).up b7)
  have BBn := hide ((unhide BB).trans (b7.mono (unhide BB).size))
  clear BB T0 S0 V0
  have T0 := T0n
  have S0 := S0n
  have V0 := V0n
  have BB := BBn
  clear BBn T0n S0n V0n
  clear b7
  go_wp2
  go_ret
  exact ⟨rfl, unhide BB⟩

set_option maxRecDepth 100000 in
set_option maxHeartbeats 1000000 in
theorem sp_Cc (n x y u v er N x' y' : Int) (w : World) (h0 : ∀ w, Calls Try.prog 30 #[.int .i64 n] w fun e w' => e = .returned (.tuple #[rv u v, .int .i64 er]) ∧ Below w.heap.size w w') (h1 : ∀ w, Calls Try.prog 31 #[.int .i64 n] w fun e w' => e = .returned (.tuple #[rv u v, .int .i64 er]) ∧ Below w.heap.size w w') (u1 : ∀ w, Calls Try.prog 32 #[rv x' y'] w fun e w' => e = .returned (.int .i64 N) ∧ Below w.heap.size w w') (u2 : ∀ w, Calls Try.prog 33 #[rv x' y'] w fun e w' => e = .returned (.int .i64 N) ∧ Below w.heap.size w w') (hc : ∀ w, Calls Try.prog 17 #[rv x y] w fun e w' => e = .returned (.bool true) ∧ Below w.heap.size w w') (na : 1099511627776 < n) (pa : 300 < x) (xm : x.tmod 301 = x') (ym : y.tmod 301 = y') (xl : -300 ≤ x' ∧ x' ≤ 300) (yl : -300 ≤ y' ∧ y' ≤ 300) :
    Calls Try.prog 7 #[.int .i64 n, rv x y] w fun e w' => e = .returned (.bool true) ∧ Below w.heap.size w w' := by
  have H0 := hide h0
  have H1 := hide h1
  have U1 := hide u1
  have U2 := hide u2
  have HC := hide hc
  have Ru := hide (fun w => ref_any u v w)
  have Rp := hide (fun w => ref_any x' y' w)
  clear h0 h1 u1 u2 hc
  unfold rv at *
  have nb : 20000 < n := by omega
  have nc : ¬ n ≤ 1099511627776 := by omega
  have nd : decide (n ≤ 1099511627776) = false := decide_eq_false nc
  have t0 := two_alloc w (.int .i64 x) (.int .i64 y) 23
  have T0 := hide t0
  have BB : Hid (Below w.heap.size w (w.alloc (.cells #[.int .i64 x, .int .i64 y] 23))) := ((Below.refl _ _).alloc (by first | exact Nat.le_refl _ | (simp; done) | (simp; omega)) _)
  clear t0 
  go_enter Try.func7, Try.ntmps7
  have fT00 := (unhide T0).c0
  have fT01 := (unhide T0).c1
  go_wp2_with fail
  clear fT00 fT01
  refine (unhide HC _).mono ?_
  rintro e w2 ⟨rfl, b2⟩
  have T0n := hide ((unhide T0).up b2)
  have BBn := hide ((unhide BB).trans (b2.mono (unhide BB).size))
  clear BB T0
  have T0 := T0n
  have BB := BBn
  clear BBn T0n
  clear b2
  have fT00 := (unhide T0).c0
  have fT01 := (unhide T0).c1
  have fT02 := (unhide T0).free 0
  have fT03 := (unhide T0).free 1
  go_wp2_with fail
  clear fT00 fT01 fT02 fT03
  have T9 := hide (((unhide T0).set0 (.int .i64 x')).set1 (.int .i64 y'))
  have B9 := hide (below_two (b := w.heap.size) (unhide BB) (Nat.le_refl _) (.int .i64 x') (.int .i64 y'))
  clear T0 BB
  have T0 := T9
  have BB := B9
  clear T9 B9
  generalize (w2.setCell ⟨w.heap.size, 0, none⟩ (.int .i64 x')).setCell ⟨w.heap.size, 1, none⟩ (.int .i64 y') = W2 at *
  refine (unhide H0 _).mono ?_
  rintro e w1 ⟨rfl, b1⟩
  have new := hide (two_alloc w1 (.int .i64 u) (.int .i64 v) 23)
  have T0n := hide (((unhide T0).up b1).alloc (.cells #[.int .i64 u, .int .i64 v] 23))
  have BBn : Hid (Below w.heap.size w (w1.alloc (.cells #[.int .i64 u, .int .i64 v] 23))) := by
    have := (unhide BB).trans (b1.mono (unhide BB).size)
    exact this.alloc this.size _
  clear BB T0
  have T0 := T0n
  have BB := BBn
  clear BBn T0n
  have S0 := new
  clear new b1
  go_wp2_with fail
  generalize w1.alloc (.cells #[.int .i64 u, .int .i64 v] 23) = W at *
  generalize w1.heap.size = s0 at *
  refine (unhide H1 _).mono ?_
  rintro e w1 ⟨rfl, b1⟩
  have new := hide (two_alloc w1 (.int .i64 u) (.int .i64 v) 27)
  have T0n := hide (((unhide T0).up b1).alloc (.cells #[.int .i64 u, .int .i64 v] 27))
  have S0n := hide (((unhide S0).up b1).alloc (.cells #[.int .i64 u, .int .i64 v] 27))
  have BBn : Hid (Below w.heap.size w (w1.alloc (.cells #[.int .i64 u, .int .i64 v] 27))) := by
    have := (unhide BB).trans (b1.mono (unhide BB).size)
    exact this.alloc this.size _
  clear BB T0 S0
  have T0 := T0n
  have S0 := S0n
  have BB := BBn
  clear BBn T0n S0n
  have V0 := new
  clear new b1
  go_wp2_with fail
  generalize w1.alloc (.cells #[.int .i64 u, .int .i64 v] 27) = W at *
  generalize w1.heap.size = s1 at *
  have pT00 : ∀ x : Gb W, _ := fun x => (gb_two (unhide T0) x).c0
  have pT01 : ∀ x : Gb W, _ := fun x => (gb_two (unhide T0) x).c1
  have pS00 : ∀ x : Gb W, _ := fun x => (gb_two (unhide S0) x).c0
  have pS01 : ∀ x : Gb W, _ := fun x => (gb_two (unhide S0) x).c1
  have pV00 : ∀ x : Gb W, _ := fun x => (gb_two (unhide V0) x).c0
  have pV01 : ∀ x : Gb W, _ := fun x => (gb_two (unhide V0) x).c1
  have hne := gb_ne W
  refine wp_region_grB (by kernel_rfl) (by kernel_rfl) ?_
  iterate 4 (go_big_quiet_step ((first | (go_at_call 16; exact gb_call (awake_any _)) | (go_at_call 13; exact gb_call (unhide Ru _)))))
  repeat (go_big_quiet_step ((first | (go_at_call 32; exact gb_call (unhide U1 _)) | (go_at_call 13; exact gb_call (unhide Rp _)) | (go_at_call 33; exact gb_call (unhide U2 _)))))
  refine wpQuiet_nil ?_
  rintro w7 ⟨⟨_, b7⟩, rfl⟩
  clear hne pT00 pT01 pS00 pS01 pV00 pV01
  have T0n := hide ((unhide T0).up b7)
  have S0n := hide ((unhide S0).up b7)
  have V0n := hide ((unhide V0).up b7)
  have BBn := hide ((unhide BB).trans (b7.mono (unhide BB).size))
  clear BB T0 S0 V0
  have T0 := T0n
  have S0 := S0n
  have V0 := V0n
  have BB := BBn
  clear BBn T0n S0n V0n
  clear b7
  go_wp2
  go_ret
  exact ⟨rfl, unhide BB⟩

set_option maxRecDepth 100000 in
set_option maxHeartbeats 1000000 in
theorem sp_Cd (n x y u v er N x' y' : Int) (w : World) (h0 : ∀ w, Calls Try.prog 30 #[.int .i64 n] w fun e w' => e = .returned (.tuple #[rv u v, .int .i64 er]) ∧ Below w.heap.size w w') (h1 : ∀ w, Calls Try.prog 31 #[.int .i64 n] w fun e w' => e = .returned (.tuple #[rv u v, .int .i64 er]) ∧ Below w.heap.size w w') (u1 : ∀ w, Calls Try.prog 32 #[rv x' y'] w fun e w' => e = .returned (.int .i64 N) ∧ Below w.heap.size w w') (u2 : ∀ w, Calls Try.prog 33 #[rv x' y'] w fun e w' => e = .returned (.int .i64 N) ∧ Below w.heap.size w w') (hc : ∀ w, Calls Try.prog 17 #[rv x y] w fun e w' => e = .returned (.bool true) ∧ Below w.heap.size w w') (na : 1099511627776 < n) (pa : x < -300) (xm : x.tmod 301 = x') (ym : y.tmod 301 = y') (xl : -300 ≤ x' ∧ x' ≤ 300) (yl : -300 ≤ y' ∧ y' ≤ 300) :
    Calls Try.prog 7 #[.int .i64 n, rv x y] w fun e w' => e = .returned (.bool true) ∧ Below w.heap.size w w' := by
  have H0 := hide h0
  have H1 := hide h1
  have U1 := hide u1
  have U2 := hide u2
  have HC := hide hc
  have Ru := hide (fun w => ref_any u v w)
  have Rp := hide (fun w => ref_any x' y' w)
  clear h0 h1 u1 u2 hc
  unfold rv at *
  have nb : 20000 < n := by omega
  have nc : ¬ n ≤ 1099511627776 := by omega
  have nd : decide (n ≤ 1099511627776) = false := decide_eq_false nc
  have q1 : ¬ 300 < x := by omega
  have r1 : decide (300 < x) = false := decide_eq_false (by omega)
  have t0 := two_alloc w (.int .i64 x) (.int .i64 y) 23
  have T0 := hide t0
  have BB : Hid (Below w.heap.size w (w.alloc (.cells #[.int .i64 x, .int .i64 y] 23))) := ((Below.refl _ _).alloc (by first | exact Nat.le_refl _ | (simp; done) | (simp; omega)) _)
  clear t0 
  go_enter Try.func7, Try.ntmps7
  have fT00 := (unhide T0).c0
  have fT01 := (unhide T0).c1
  go_wp2_with fail
  clear fT00 fT01
  refine (unhide HC _).mono ?_
  rintro e w2 ⟨rfl, b2⟩
  have T0n := hide ((unhide T0).up b2)
  have BBn := hide ((unhide BB).trans (b2.mono (unhide BB).size))
  clear BB T0
  have T0 := T0n
  have BB := BBn
  clear BBn T0n
  clear b2
  have fT00 := (unhide T0).c0
  have fT01 := (unhide T0).c1
  have fT02 := (unhide T0).free 0
  have fT03 := (unhide T0).free 1
  go_wp2_with fail
  clear fT00 fT01 fT02 fT03
  have T9 := hide (((unhide T0).set0 (.int .i64 x')).set1 (.int .i64 y'))
  have B9 := hide (below_two (b := w.heap.size) (unhide BB) (Nat.le_refl _) (.int .i64 x') (.int .i64 y'))
  clear T0 BB
  have T0 := T9
  have BB := B9
  clear T9 B9
  generalize (w2.setCell ⟨w.heap.size, 0, none⟩ (.int .i64 x')).setCell ⟨w.heap.size, 1, none⟩ (.int .i64 y') = W2 at *
  refine (unhide H0 _).mono ?_
  rintro e w1 ⟨rfl, b1⟩
  have new := hide (two_alloc w1 (.int .i64 u) (.int .i64 v) 23)
  have T0n := hide (((unhide T0).up b1).alloc (.cells #[.int .i64 u, .int .i64 v] 23))
  have BBn : Hid (Below w.heap.size w (w1.alloc (.cells #[.int .i64 u, .int .i64 v] 23))) := by
    have := (unhide BB).trans (b1.mono (unhide BB).size)
    exact this.alloc this.size _
  clear BB T0
  have T0 := T0n
  have BB := BBn
  clear BBn T0n
  have S0 := new
  clear new b1
  go_wp2_with fail
  generalize w1.alloc (.cells #[.int .i64 u, .int .i64 v] 23) = W at *
  generalize w1.heap.size = s0 at *
  refine (unhide H1 _).mono ?_
  rintro e w1 ⟨rfl, b1⟩
  have new := hide (two_alloc w1 (.int .i64 u) (.int .i64 v) 27)
  have T0n := hide (((unhide T0).up b1).alloc (.cells #[.int .i64 u, .int .i64 v] 27))
  have S0n := hide (((unhide S0).up b1).alloc (.cells #[.int .i64 u, .int .i64 v] 27))
  have BBn : Hid (Below w.heap.size w (w1.alloc (.cells #[.int .i64 u, .int .i64 v] 27))) := by
    have := (unhide BB).trans (b1.mono (unhide BB).size)
    exact this.alloc this.size _
  clear BB T0 S0
  have T0 := T0n
  have S0 := S0n
  have BB := BBn
  clear BBn T0n S0n
  have V0 := new
  clear new b1
  go_wp2_with fail
  generalize w1.alloc (.cells #[.int .i64 u, .int .i64 v] 27) = W at *
  generalize w1.heap.size = s1 at *
  have pT00 : ∀ x : Gb W, _ := fun x => (gb_two (unhide T0) x).c0
  have pT01 : ∀ x : Gb W, _ := fun x => (gb_two (unhide T0) x).c1
  have pS00 : ∀ x : Gb W, _ := fun x => (gb_two (unhide S0) x).c0
  have pS01 : ∀ x : Gb W, _ := fun x => (gb_two (unhide S0) x).c1
  have pV00 : ∀ x : Gb W, _ := fun x => (gb_two (unhide V0) x).c0
  have pV01 : ∀ x : Gb W, _ := fun x => (gb_two (unhide V0) x).c1
  have hne := gb_ne W
  refine wp_region_grB (by kernel_rfl) (by kernel_rfl) ?_
  iterate 4 (go_big_quiet_step ((first | (go_at_call 16; exact gb_call (awake_any _)) | (go_at_call 13; exact gb_call (unhide Ru _)))))
  repeat (go_big_quiet_step ((first | (go_at_call 32; exact gb_call (unhide U1 _)) | (go_at_call 13; exact gb_call (unhide Rp _)) | (go_at_call 33; exact gb_call (unhide U2 _)))))
  refine wpQuiet_nil ?_
  rintro w7 ⟨⟨_, b7⟩, rfl⟩
  clear hne pT00 pT01 pS00 pS01 pV00 pV01
  have T0n := hide ((unhide T0).up b7)
  have S0n := hide ((unhide S0).up b7)
  have V0n := hide ((unhide V0).up b7)
  have BBn := hide ((unhide BB).trans (b7.mono (unhide BB).size))
  clear BB T0 S0 V0
  have T0 := T0n
  have S0 := S0n
  have V0 := V0n
  have BB := BBn
  clear BBn T0n S0n V0n
  clear b7
  go_wp2
  go_ret
  exact ⟨rfl, unhide BB⟩

set_option maxRecDepth 100000 in
set_option maxHeartbeats 1000000 in
theorem sp_Ce (n x y u v er N x' y' : Int) (w : World) (h0 : ∀ w, Calls Try.prog 30 #[.int .i64 n] w fun e w' => e = .returned (.tuple #[rv u v, .int .i64 er]) ∧ Below w.heap.size w w') (h1 : ∀ w, Calls Try.prog 31 #[.int .i64 n] w fun e w' => e = .returned (.tuple #[rv u v, .int .i64 er]) ∧ Below w.heap.size w w') (u1 : ∀ w, Calls Try.prog 32 #[rv x' y'] w fun e w' => e = .returned (.int .i64 N) ∧ Below w.heap.size w w') (u2 : ∀ w, Calls Try.prog 33 #[rv x' y'] w fun e w' => e = .returned (.int .i64 N) ∧ Below w.heap.size w w') (hc : ∀ w, Calls Try.prog 17 #[rv x y] w fun e w' => e = .returned (.bool true) ∧ Below w.heap.size w w') (na : 1099511627776 < n) (pa : -300 ≤ x ∧ x ≤ 300) (pb : 300 < y) (xm : x.tmod 301 = x') (ym : y.tmod 301 = y') (xl : -300 ≤ x' ∧ x' ≤ 300) (yl : -300 ≤ y' ∧ y' ≤ 300) :
    Calls Try.prog 7 #[.int .i64 n, rv x y] w fun e w' => e = .returned (.bool true) ∧ Below w.heap.size w w' := by
  have H0 := hide h0
  have H1 := hide h1
  have U1 := hide u1
  have U2 := hide u2
  have HC := hide hc
  have Ru := hide (fun w => ref_any u v w)
  have Rp := hide (fun w => ref_any x' y' w)
  clear h0 h1 u1 u2 hc
  unfold rv at *
  have nb : 20000 < n := by omega
  have nc : ¬ n ≤ 1099511627776 := by omega
  have nd : decide (n ≤ 1099511627776) = false := decide_eq_false nc
  have q1 : ¬ 300 < x := by omega
  have q2 : ¬ x < -300 := by omega
  have r1 : decide (300 < x) = false := decide_eq_false (by omega)
  have r2 : decide (x < -300) = false := decide_eq_false (by omega)
  have t0 := two_alloc w (.int .i64 x) (.int .i64 y) 23
  have T0 := hide t0
  have BB : Hid (Below w.heap.size w (w.alloc (.cells #[.int .i64 x, .int .i64 y] 23))) := ((Below.refl _ _).alloc (by first | exact Nat.le_refl _ | (simp; done) | (simp; omega)) _)
  clear t0 
  go_enter Try.func7, Try.ntmps7
  have fT00 := (unhide T0).c0
  have fT01 := (unhide T0).c1
  go_wp2_with fail
  clear fT00 fT01
  refine (unhide HC _).mono ?_
  rintro e w2 ⟨rfl, b2⟩
  have T0n := hide ((unhide T0).up b2)
  have BBn := hide ((unhide BB).trans (b2.mono (unhide BB).size))
  clear BB T0
  have T0 := T0n
  have BB := BBn
  clear BBn T0n
  clear b2
  have fT00 := (unhide T0).c0
  have fT01 := (unhide T0).c1
  have fT02 := (unhide T0).free 0
  have fT03 := (unhide T0).free 1
  go_wp2_with fail
  clear fT00 fT01 fT02 fT03
  have T9 := hide (((unhide T0).set0 (.int .i64 x')).set1 (.int .i64 y'))
  have B9 := hide (below_two (b := w.heap.size) (unhide BB) (Nat.le_refl _) (.int .i64 x') (.int .i64 y'))
  clear T0 BB
  have T0 := T9
  have BB := B9
  clear T9 B9
  generalize (w2.setCell ⟨w.heap.size, 0, none⟩ (.int .i64 x')).setCell ⟨w.heap.size, 1, none⟩ (.int .i64 y') = W2 at *
  refine (unhide H0 _).mono ?_
  rintro e w1 ⟨rfl, b1⟩
  have new := hide (two_alloc w1 (.int .i64 u) (.int .i64 v) 23)
  have T0n := hide (((unhide T0).up b1).alloc (.cells #[.int .i64 u, .int .i64 v] 23))
  have BBn : Hid (Below w.heap.size w (w1.alloc (.cells #[.int .i64 u, .int .i64 v] 23))) := by
    have := (unhide BB).trans (b1.mono (unhide BB).size)
    exact this.alloc this.size _
  clear BB T0
  have T0 := T0n
  have BB := BBn
  clear BBn T0n
  have S0 := new
  clear new b1
  go_wp2_with fail
  generalize w1.alloc (.cells #[.int .i64 u, .int .i64 v] 23) = W at *
  generalize w1.heap.size = s0 at *
  refine (unhide H1 _).mono ?_
  rintro e w1 ⟨rfl, b1⟩
  have new := hide (two_alloc w1 (.int .i64 u) (.int .i64 v) 27)
  have T0n := hide (((unhide T0).up b1).alloc (.cells #[.int .i64 u, .int .i64 v] 27))
  have S0n := hide (((unhide S0).up b1).alloc (.cells #[.int .i64 u, .int .i64 v] 27))
  have BBn : Hid (Below w.heap.size w (w1.alloc (.cells #[.int .i64 u, .int .i64 v] 27))) := by
    have := (unhide BB).trans (b1.mono (unhide BB).size)
    exact this.alloc this.size _
  clear BB T0 S0
  have T0 := T0n
  have S0 := S0n
  have BB := BBn
  clear BBn T0n S0n
  have V0 := new
  clear new b1
  go_wp2_with fail
  generalize w1.alloc (.cells #[.int .i64 u, .int .i64 v] 27) = W at *
  generalize w1.heap.size = s1 at *
  have pT00 : ∀ x : Gb W, _ := fun x => (gb_two (unhide T0) x).c0
  have pT01 : ∀ x : Gb W, _ := fun x => (gb_two (unhide T0) x).c1
  have pS00 : ∀ x : Gb W, _ := fun x => (gb_two (unhide S0) x).c0
  have pS01 : ∀ x : Gb W, _ := fun x => (gb_two (unhide S0) x).c1
  have pV00 : ∀ x : Gb W, _ := fun x => (gb_two (unhide V0) x).c0
  have pV01 : ∀ x : Gb W, _ := fun x => (gb_two (unhide V0) x).c1
  have hne := gb_ne W
  refine wp_region_grB (by kernel_rfl) (by kernel_rfl) ?_
  iterate 4 (go_big_quiet_step ((first | (go_at_call 16; exact gb_call (awake_any _)) | (go_at_call 13; exact gb_call (unhide Ru _)))))
  repeat (go_big_quiet_step ((first | (go_at_call 32; exact gb_call (unhide U1 _)) | (go_at_call 13; exact gb_call (unhide Rp _)) | (go_at_call 33; exact gb_call (unhide U2 _)))))
  refine wpQuiet_nil ?_
  rintro w7 ⟨⟨_, b7⟩, rfl⟩
  clear hne pT00 pT01 pS00 pS01 pV00 pV01
  have T0n := hide ((unhide T0).up b7)
  have S0n := hide ((unhide S0).up b7)
  have V0n := hide ((unhide V0).up b7)
  have BBn := hide ((unhide BB).trans (b7.mono (unhide BB).size))
  clear BB T0 S0 V0
  have T0 := T0n
  have S0 := S0n
  have V0 := V0n
  have BB := BBn
  clear BBn T0n S0n V0n
  clear b7
  go_wp2
  go_ret
  exact ⟨rfl, unhide BB⟩

set_option maxRecDepth 100000 in
set_option maxHeartbeats 1000000 in
theorem sp_Cf (n x y u v er N x' y' : Int) (w : World) (h0 : ∀ w, Calls Try.prog 30 #[.int .i64 n] w fun e w' => e = .returned (.tuple #[rv u v, .int .i64 er]) ∧ Below w.heap.size w w') (h1 : ∀ w, Calls Try.prog 31 #[.int .i64 n] w fun e w' => e = .returned (.tuple #[rv u v, .int .i64 er]) ∧ Below w.heap.size w w') (u1 : ∀ w, Calls Try.prog 32 #[rv x' y'] w fun e w' => e = .returned (.int .i64 N) ∧ Below w.heap.size w w') (u2 : ∀ w, Calls Try.prog 33 #[rv x' y'] w fun e w' => e = .returned (.int .i64 N) ∧ Below w.heap.size w w') (hc : ∀ w, Calls Try.prog 17 #[rv x y] w fun e w' => e = .returned (.bool true) ∧ Below w.heap.size w w') (na : 1099511627776 < n) (pa : -300 ≤ x ∧ x ≤ 300) (pb : y < -300) (xm : x.tmod 301 = x') (ym : y.tmod 301 = y') (xl : -300 ≤ x' ∧ x' ≤ 300) (yl : -300 ≤ y' ∧ y' ≤ 300) :
    Calls Try.prog 7 #[.int .i64 n, rv x y] w fun e w' => e = .returned (.bool true) ∧ Below w.heap.size w w' := by
  have H0 := hide h0
  have H1 := hide h1
  have U1 := hide u1
  have U2 := hide u2
  have HC := hide hc
  have Ru := hide (fun w => ref_any u v w)
  have Rp := hide (fun w => ref_any x' y' w)
  clear h0 h1 u1 u2 hc
  unfold rv at *
  have nb : 20000 < n := by omega
  have nc : ¬ n ≤ 1099511627776 := by omega
  have nd : decide (n ≤ 1099511627776) = false := decide_eq_false nc
  have q1 : ¬ 300 < x := by omega
  have q2 : ¬ x < -300 := by omega
  have q3 : ¬ 300 < y := by omega
  have r1 : decide (300 < x) = false := decide_eq_false (by omega)
  have r2 : decide (x < -300) = false := decide_eq_false (by omega)
  have r3 : decide (300 < y) = false := decide_eq_false (by omega)
  have t0 := two_alloc w (.int .i64 x) (.int .i64 y) 23
  have T0 := hide t0
  have BB : Hid (Below w.heap.size w (w.alloc (.cells #[.int .i64 x, .int .i64 y] 23))) := ((Below.refl _ _).alloc (by first | exact Nat.le_refl _ | (simp; done) | (simp; omega)) _)
  clear t0 
  go_enter Try.func7, Try.ntmps7
  have fT00 := (unhide T0).c0
  have fT01 := (unhide T0).c1
  go_wp2_with fail
  clear fT00 fT01
  refine (unhide HC _).mono ?_
  rintro e w2 ⟨rfl, b2⟩
  have T0n := hide ((unhide T0).up b2)
  have BBn := hide ((unhide BB).trans (b2.mono (unhide BB).size))
  clear BB T0
  have T0 := T0n
  have BB := BBn
  clear BBn T0n
  clear b2
  have fT00 := (unhide T0).c0
  have fT01 := (unhide T0).c1
  have fT02 := (unhide T0).free 0
  have fT03 := (unhide T0).free 1
  go_wp2_with fail
  clear fT00 fT01 fT02 fT03
  have T9 := hide (((unhide T0).set0 (.int .i64 x')).set1 (.int .i64 y'))
  have B9 := hide (below_two (b := w.heap.size) (unhide BB) (Nat.le_refl _) (.int .i64 x') (.int .i64 y'))
  clear T0 BB
  have T0 := T9
  have BB := B9
  clear T9 B9
  generalize (w2.setCell ⟨w.heap.size, 0, none⟩ (.int .i64 x')).setCell ⟨w.heap.size, 1, none⟩ (.int .i64 y') = W2 at *
  refine (unhide H0 _).mono ?_
  rintro e w1 ⟨rfl, b1⟩
  have new := hide (two_alloc w1 (.int .i64 u) (.int .i64 v) 23)
  have T0n := hide (((unhide T0).up b1).alloc (.cells #[.int .i64 u, .int .i64 v] 23))
  have BBn : Hid (Below w.heap.size w (w1.alloc (.cells #[.int .i64 u, .int .i64 v] 23))) := by
    have := (unhide BB).trans (b1.mono (unhide BB).size)
    exact this.alloc this.size _
  clear BB T0
  have T0 := T0n
  have BB := BBn
  clear BBn T0n
  have S0 := new
  clear new b1
  go_wp2_with fail
  generalize w1.alloc (.cells #[.int .i64 u, .int .i64 v] 23) = W at *
  generalize w1.heap.size = s0 at *
  refine (unhide H1 _).mono ?_
  rintro e w1 ⟨rfl, b1⟩
  have new := hide (two_alloc w1 (.int .i64 u) (.int .i64 v) 27)
  have T0n := hide (((unhide T0).up b1).alloc (.cells #[.int .i64 u, .int .i64 v] 27))
  have S0n := hide (((unhide S0).up b1).alloc (.cells #[.int .i64 u, .int .i64 v] 27))
  have BBn : Hid (Below w.heap.size w (w1.alloc (.cells #[.int .i64 u, .int .i64 v] 27))) := by
    have := (unhide BB).trans (b1.mono (unhide BB).size)
    exact this.alloc this.size _
  clear BB T0 S0
  have T0 := T0n
  have S0 := S0n
  have BB := BBn
  clear BBn T0n S0n
  have V0 := new
  clear new b1
  go_wp2_with fail
  generalize w1.alloc (.cells #[.int .i64 u, .int .i64 v] 27) = W at *
  generalize w1.heap.size = s1 at *
  have pT00 : ∀ x : Gb W, _ := fun x => (gb_two (unhide T0) x).c0
  have pT01 : ∀ x : Gb W, _ := fun x => (gb_two (unhide T0) x).c1
  have pS00 : ∀ x : Gb W, _ := fun x => (gb_two (unhide S0) x).c0
  have pS01 : ∀ x : Gb W, _ := fun x => (gb_two (unhide S0) x).c1
  have pV00 : ∀ x : Gb W, _ := fun x => (gb_two (unhide V0) x).c0
  have pV01 : ∀ x : Gb W, _ := fun x => (gb_two (unhide V0) x).c1
  have hne := gb_ne W
  refine wp_region_grB (by kernel_rfl) (by kernel_rfl) ?_
  iterate 4 (go_big_quiet_step ((first | (go_at_call 16; exact gb_call (awake_any _)) | (go_at_call 13; exact gb_call (unhide Ru _)))))
  repeat (go_big_quiet_step ((first | (go_at_call 32; exact gb_call (unhide U1 _)) | (go_at_call 13; exact gb_call (unhide Rp _)) | (go_at_call 33; exact gb_call (unhide U2 _)))))
  refine wpQuiet_nil ?_
  rintro w7 ⟨⟨_, b7⟩, rfl⟩
  clear hne pT00 pT01 pS00 pS01 pV00 pV01
  have T0n := hide ((unhide T0).up b7)
  have S0n := hide ((unhide S0).up b7)
  have V0n := hide ((unhide V0).up b7)
  have BBn := hide ((unhide BB).trans (b7.mono (unhide BB).size))
  clear BB T0 S0 V0
  have T0 := T0n
  have S0 := S0n
  have V0 := V0n
  have BB := BBn
  clear BBn T0n S0n V0n
  clear b7
  go_wp2
  go_ret
  exact ⟨rfl, unhide BB⟩

end Go.Proofs.Ythodhabjcbohcaa

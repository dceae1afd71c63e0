/- Contracts of the document's Turn. -/
import Derived.Test.YthodhabjcbohcaaPlR
namespace Go.Proofs.Ythodhabjcbohcaa
open Go.RowKit
set_option linter.unusedVariables false

set_option maxRecDepth 100000 in
theorem dturn_p0 (x y k : Int) (w : World) (hk : k.tmod 4 = 0) (hE : okP x y = true) : Calls Try.prog 24 #[rv x y, .int .i64 k] w fun e w' => e = .returned (rvE (x, y, 0)) ∧ Below w.heap.size w w' := by
  have h1 := hide (fun w => dcheck_any x y w)
  rw [hE] at h1
  obtain ⟨⟨a1, a2⟩, a3, a4⟩ := okP_t hE
  clear hE
  have T0 := hide ((two_alloc w (.int .i64 x) (.int .i64 y) 27).alloc (.cells #[.int .i64 0, .int .i64 0] 27))
  have e1 : (w.alloc (.cells #[.int .i64 x, .int .i64 y] 27)).heap.size = w.heap.size + 1 := by simp
  have t1 := two_alloc (w.alloc (.cells #[.int .i64 x, .int .i64 y] 27)) (.int .i64 0) (.int .i64 0) 27
  rw [e1] at t1
  have T1 := hide t1
  clear e1 t1
  have BB : Hid (Below w.heap.size w ((w.alloc (.cells #[.int .i64 x, .int .i64 y] 27)).alloc (.cells #[.int .i64 0, .int .i64 0] 27))) := ((Below.refl _ _).alloc (Nat.le_refl _) _).alloc (by simp) _
  have f0 := (unhide T0).c0
  have f1 := (unhide T0).c1
  unfold rv rvE at *
  go_enter Try.func24, Try.ntmps24
  go_wp2_with fail
  refine (unhide h1 _).mono ?_
  rintro e w1 ⟨rfl, b1⟩
  have T0n := hide ((unhide T0).up b1)
  have T1n := hide ((unhide T1).up b1)
  have B1 := hide ((unhide BB).trans (b1.mono (unhide BB).size))
  clear b1 BB T0 T1 f0 f1
  have f0 := (unhide T0n).c0
  have f1 := (unhide T0n).c1
  have x0 := (unhide T1n).c0
  have x1 := (unhide T1n).c1
  have x2 := (unhide T1n).free 0
  have x3 := (unhide T1n).free 1
  go_wp2
  exact ret_two (p := 4) (q := 5) (ty := 27) (by kernel_rfl) (w.heap.size + 1) 27 (.int .i64 (x)) (.int .i64 (y)) (.int .i64 0) _ rfl rfl (((unhide T1n).set0 _).set1 _) rfl Try.underlying27 (by kernel_rfl) ⟨rfl, below_two (unhide B1) (by omega) _ _⟩

set_option maxRecDepth 100000 in
theorem dturn_p1 (x y k : Int) (w : World) (hk : k.tmod 4 = 1) (hE : okP x y = true) : Calls Try.prog 24 #[rv x y, .int .i64 k] w fun e w' => e = .returned (rvE (-y, x, 0)) ∧ Below w.heap.size w w' := by
  have h1 := hide (fun w => dcheck_any x y w)
  rw [hE] at h1
  obtain ⟨⟨a1, a2⟩, a3, a4⟩ := okP_t hE
  clear hE
  have T0 := hide ((two_alloc w (.int .i64 x) (.int .i64 y) 27).alloc (.cells #[.int .i64 0, .int .i64 0] 27))
  have e1 : (w.alloc (.cells #[.int .i64 x, .int .i64 y] 27)).heap.size = w.heap.size + 1 := by simp
  have t1 := two_alloc (w.alloc (.cells #[.int .i64 x, .int .i64 y] 27)) (.int .i64 0) (.int .i64 0) 27
  rw [e1] at t1
  have T1 := hide t1
  clear e1 t1
  have BB : Hid (Below w.heap.size w ((w.alloc (.cells #[.int .i64 x, .int .i64 y] 27)).alloc (.cells #[.int .i64 0, .int .i64 0] 27))) := ((Below.refl _ _).alloc (Nat.le_refl _) _).alloc (by simp) _
  have f0 := (unhide T0).c0
  have f1 := (unhide T0).c1
  unfold rv rvE at *
  go_enter Try.func24, Try.ntmps24
  go_wp2_with fail
  refine (unhide h1 _).mono ?_
  rintro e w1 ⟨rfl, b1⟩
  have T0n := hide ((unhide T0).up b1)
  have T1n := hide ((unhide T1).up b1)
  have B1 := hide ((unhide BB).trans (b1.mono (unhide BB).size))
  clear b1 BB T0 T1 f0 f1
  have f0 := (unhide T0n).c0
  have f1 := (unhide T0n).c1
  have x0 := (unhide T1n).c0
  have x1 := (unhide T1n).c1
  have x2 := (unhide T1n).free 0
  have x3 := (unhide T1n).free 1
  go_wp2
  exact ret_two (p := 4) (q := 5) (ty := 27) (by kernel_rfl) (w.heap.size + 1) 27 (.int .i64 (-y)) (.int .i64 (x)) (.int .i64 0) _ rfl rfl (((unhide T1n).set0 _).set1 _) rfl Try.underlying27 (by kernel_rfl) ⟨rfl, below_two (unhide B1) (by omega) _ _⟩

set_option maxRecDepth 100000 in
theorem dturn_m1 (x y k : Int) (w : World) (hk : k.tmod 4 = -3) (hE : okP x y = true) : Calls Try.prog 24 #[rv x y, .int .i64 k] w fun e w' => e = .returned (rvE (-y, x, 0)) ∧ Below w.heap.size w w' := by
  have h1 := hide (fun w => dcheck_any x y w)
  rw [hE] at h1
  obtain ⟨⟨a1, a2⟩, a3, a4⟩ := okP_t hE
  clear hE
  have T0 := hide ((two_alloc w (.int .i64 x) (.int .i64 y) 27).alloc (.cells #[.int .i64 0, .int .i64 0] 27))
  have e1 : (w.alloc (.cells #[.int .i64 x, .int .i64 y] 27)).heap.size = w.heap.size + 1 := by simp
  have t1 := two_alloc (w.alloc (.cells #[.int .i64 x, .int .i64 y] 27)) (.int .i64 0) (.int .i64 0) 27
  rw [e1] at t1
  have T1 := hide t1
  clear e1 t1
  have BB : Hid (Below w.heap.size w ((w.alloc (.cells #[.int .i64 x, .int .i64 y] 27)).alloc (.cells #[.int .i64 0, .int .i64 0] 27))) := ((Below.refl _ _).alloc (Nat.le_refl _) _).alloc (by simp) _
  have f0 := (unhide T0).c0
  have f1 := (unhide T0).c1
  unfold rv rvE at *
  go_enter Try.func24, Try.ntmps24
  go_wp2_with fail
  refine (unhide h1 _).mono ?_
  rintro e w1 ⟨rfl, b1⟩
  have T0n := hide ((unhide T0).up b1)
  have T1n := hide ((unhide T1).up b1)
  have B1 := hide ((unhide BB).trans (b1.mono (unhide BB).size))
  clear b1 BB T0 T1 f0 f1
  have f0 := (unhide T0n).c0
  have f1 := (unhide T0n).c1
  have x0 := (unhide T1n).c0
  have x1 := (unhide T1n).c1
  have x2 := (unhide T1n).free 0
  have x3 := (unhide T1n).free 1
  go_wp2
  exact ret_two (p := 4) (q := 5) (ty := 27) (by kernel_rfl) (w.heap.size + 1) 27 (.int .i64 (-y)) (.int .i64 (x)) (.int .i64 0) _ rfl rfl (((unhide T1n).set0 _).set1 _) rfl Try.underlying27 (by kernel_rfl) ⟨rfl, below_two (unhide B1) (by omega) _ _⟩

set_option maxRecDepth 100000 in
theorem dturn_p2 (x y k : Int) (w : World) (hk : k.tmod 4 = 2) (hE : okP x y = true) : Calls Try.prog 24 #[rv x y, .int .i64 k] w fun e w' => e = .returned (rvE (-x, -y, 0)) ∧ Below w.heap.size w w' := by
  have h1 := hide (fun w => dcheck_any x y w)
  rw [hE] at h1
  obtain ⟨⟨a1, a2⟩, a3, a4⟩ := okP_t hE
  clear hE
  have T0 := hide ((two_alloc w (.int .i64 x) (.int .i64 y) 27).alloc (.cells #[.int .i64 0, .int .i64 0] 27))
  have e1 : (w.alloc (.cells #[.int .i64 x, .int .i64 y] 27)).heap.size = w.heap.size + 1 := by simp
  have t1 := two_alloc (w.alloc (.cells #[.int .i64 x, .int .i64 y] 27)) (.int .i64 0) (.int .i64 0) 27
  rw [e1] at t1
  have T1 := hide t1
  clear e1 t1
  have BB : Hid (Below w.heap.size w ((w.alloc (.cells #[.int .i64 x, .int .i64 y] 27)).alloc (.cells #[.int .i64 0, .int .i64 0] 27))) := ((Below.refl _ _).alloc (Nat.le_refl _) _).alloc (by simp) _
  have f0 := (unhide T0).c0
  have f1 := (unhide T0).c1
  unfold rv rvE at *
  go_enter Try.func24, Try.ntmps24
  go_wp2_with fail
  refine (unhide h1 _).mono ?_
  rintro e w1 ⟨rfl, b1⟩
  have T0n := hide ((unhide T0).up b1)
  have T1n := hide ((unhide T1).up b1)
  have B1 := hide ((unhide BB).trans (b1.mono (unhide BB).size))
  clear b1 BB T0 T1 f0 f1
  have f0 := (unhide T0n).c0
  have f1 := (unhide T0n).c1
  have x0 := (unhide T1n).c0
  have x1 := (unhide T1n).c1
  have x2 := (unhide T1n).free 0
  have x3 := (unhide T1n).free 1
  go_wp2
  exact ret_two (p := 4) (q := 5) (ty := 27) (by kernel_rfl) (w.heap.size + 1) 27 (.int .i64 (-x)) (.int .i64 (-y)) (.int .i64 0) _ rfl rfl (((unhide T1n).set0 _).set1 _) rfl Try.underlying27 (by kernel_rfl) ⟨rfl, below_two (unhide B1) (by omega) _ _⟩

set_option maxRecDepth 100000 in
theorem dturn_m2 (x y k : Int) (w : World) (hk : k.tmod 4 = -2) (hE : okP x y = true) : Calls Try.prog 24 #[rv x y, .int .i64 k] w fun e w' => e = .returned (rvE (-x, -y, 0)) ∧ Below w.heap.size w w' := by
  have h1 := hide (fun w => dcheck_any x y w)
  rw [hE] at h1
  obtain ⟨⟨a1, a2⟩, a3, a4⟩ := okP_t hE
  clear hE
  have T0 := hide ((two_alloc w (.int .i64 x) (.int .i64 y) 27).alloc (.cells #[.int .i64 0, .int .i64 0] 27))
  have e1 : (w.alloc (.cells #[.int .i64 x, .int .i64 y] 27)).heap.size = w.heap.size + 1 := by simp
  have t1 := two_alloc (w.alloc (.cells #[.int .i64 x, .int .i64 y] 27)) (.int .i64 0) (.int .i64 0) 27
  rw [e1] at t1
  have T1 := hide t1
  clear e1 t1
  have BB : Hid (Below w.heap.size w ((w.alloc (.cells #[.int .i64 x, .int .i64 y] 27)).alloc (.cells #[.int .i64 0, .int .i64 0] 27))) := ((Below.refl _ _).alloc (Nat.le_refl _) _).alloc (by simp) _
  have f0 := (unhide T0).c0
  have f1 := (unhide T0).c1
  unfold rv rvE at *
  go_enter Try.func24, Try.ntmps24
  go_wp2_with fail
  refine (unhide h1 _).mono ?_
  rintro e w1 ⟨rfl, b1⟩
  have T0n := hide ((unhide T0).up b1)
  have T1n := hide ((unhide T1).up b1)
  have B1 := hide ((unhide BB).trans (b1.mono (unhide BB).size))
  clear b1 BB T0 T1 f0 f1
  have f0 := (unhide T0n).c0
  have f1 := (unhide T0n).c1
  have x0 := (unhide T1n).c0
  have x1 := (unhide T1n).c1
  have x2 := (unhide T1n).free 0
  have x3 := (unhide T1n).free 1
  go_wp2
  exact ret_two (p := 4) (q := 5) (ty := 27) (by kernel_rfl) (w.heap.size + 1) 27 (.int .i64 (-x)) (.int .i64 (-y)) (.int .i64 0) _ rfl rfl (((unhide T1n).set0 _).set1 _) rfl Try.underlying27 (by kernel_rfl) ⟨rfl, below_two (unhide B1) (by omega) _ _⟩

set_option maxRecDepth 100000 in
theorem dturn_p3 (x y k : Int) (w : World) (hk : k.tmod 4 = 3) (hE : okP x y = true) : Calls Try.prog 24 #[rv x y, .int .i64 k] w fun e w' => e = .returned (rvE (y, -x, 0)) ∧ Below w.heap.size w w' := by
  have h1 := hide (fun w => dcheck_any x y w)
  rw [hE] at h1
  obtain ⟨⟨a1, a2⟩, a3, a4⟩ := okP_t hE
  clear hE
  have T0 := hide ((two_alloc w (.int .i64 x) (.int .i64 y) 27).alloc (.cells #[.int .i64 0, .int .i64 0] 27))
  have e1 : (w.alloc (.cells #[.int .i64 x, .int .i64 y] 27)).heap.size = w.heap.size + 1 := by simp
  have t1 := two_alloc (w.alloc (.cells #[.int .i64 x, .int .i64 y] 27)) (.int .i64 0) (.int .i64 0) 27
  rw [e1] at t1
  have T1 := hide t1
  clear e1 t1
  have BB : Hid (Below w.heap.size w ((w.alloc (.cells #[.int .i64 x, .int .i64 y] 27)).alloc (.cells #[.int .i64 0, .int .i64 0] 27))) := ((Below.refl _ _).alloc (Nat.le_refl _) _).alloc (by simp) _
  have f0 := (unhide T0).c0
  have f1 := (unhide T0).c1
  unfold rv rvE at *
  go_enter Try.func24, Try.ntmps24
  go_wp2_with fail
  refine (unhide h1 _).mono ?_
  rintro e w1 ⟨rfl, b1⟩
  have T0n := hide ((unhide T0).up b1)
  have T1n := hide ((unhide T1).up b1)
  have B1 := hide ((unhide BB).trans (b1.mono (unhide BB).size))
  clear b1 BB T0 T1 f0 f1
  have f0 := (unhide T0n).c0
  have f1 := (unhide T0n).c1
  have x0 := (unhide T1n).c0
  have x1 := (unhide T1n).c1
  have x2 := (unhide T1n).free 0
  have x3 := (unhide T1n).free 1
  go_wp2
  exact ret_two (p := 4) (q := 5) (ty := 27) (by kernel_rfl) (w.heap.size + 1) 27 (.int .i64 (y)) (.int .i64 (-x)) (.int .i64 0) _ rfl rfl (((unhide T1n).set0 _).set1 _) rfl Try.underlying27 (by kernel_rfl) ⟨rfl, below_two (unhide B1) (by omega) _ _⟩

set_option maxRecDepth 100000 in
theorem dturn_m3 (x y k : Int) (w : World) (hk : k.tmod 4 = -1) (hE : okP x y = true) : Calls Try.prog 24 #[rv x y, .int .i64 k] w fun e w' => e = .returned (rvE (y, -x, 0)) ∧ Below w.heap.size w w' := by
  have h1 := hide (fun w => dcheck_any x y w)
  rw [hE] at h1
  obtain ⟨⟨a1, a2⟩, a3, a4⟩ := okP_t hE
  clear hE
  have T0 := hide ((two_alloc w (.int .i64 x) (.int .i64 y) 27).alloc (.cells #[.int .i64 0, .int .i64 0] 27))
  have e1 : (w.alloc (.cells #[.int .i64 x, .int .i64 y] 27)).heap.size = w.heap.size + 1 := by simp
  have t1 := two_alloc (w.alloc (.cells #[.int .i64 x, .int .i64 y] 27)) (.int .i64 0) (.int .i64 0) 27
  rw [e1] at t1
  have T1 := hide t1
  clear e1 t1
  have BB : Hid (Below w.heap.size w ((w.alloc (.cells #[.int .i64 x, .int .i64 y] 27)).alloc (.cells #[.int .i64 0, .int .i64 0] 27))) := ((Below.refl _ _).alloc (Nat.le_refl _) _).alloc (by simp) _
  have f0 := (unhide T0).c0
  have f1 := (unhide T0).c1
  unfold rv rvE at *
  go_enter Try.func24, Try.ntmps24
  go_wp2_with fail
  refine (unhide h1 _).mono ?_
  rintro e w1 ⟨rfl, b1⟩
  have T0n := hide ((unhide T0).up b1)
  have T1n := hide ((unhide T1).up b1)
  have B1 := hide ((unhide BB).trans (b1.mono (unhide BB).size))
  clear b1 BB T0 T1 f0 f1
  have f0 := (unhide T0n).c0
  have f1 := (unhide T0n).c1
  have x0 := (unhide T1n).c0
  have x1 := (unhide T1n).c1
  have x2 := (unhide T1n).free 0
  have x3 := (unhide T1n).free 1
  go_wp2
  exact ret_two (p := 4) (q := 5) (ty := 27) (by kernel_rfl) (w.heap.size + 1) 27 (.int .i64 (y)) (.int .i64 (-x)) (.int .i64 0) _ rfl rfl (((unhide T1n).set0 _).set1 _) rfl Try.underlying27 (by kernel_rfl) ⟨rfl, below_two (unhide B1) (by omega) _ _⟩

set_option maxRecDepth 100000 in
theorem dturn_no (x y k : Int) (w : World) (hE : okP x y = false) : Calls Try.prog 24 #[rv x y, .int .i64 k] w fun e w' => e = .returned (rvE (0, 0, 1)) ∧ Below w.heap.size w w' := by
  have h1 := hide (fun w => dcheck_any x y w)
  rw [hE] at h1
  clear hE
  have T0 := hide ((two_alloc w (.int .i64 x) (.int .i64 y) 27).alloc (.cells #[.int .i64 0, .int .i64 0] 27))
  have e1 : (w.alloc (.cells #[.int .i64 x, .int .i64 y] 27)).heap.size = w.heap.size + 1 := by simp
  have t1 := two_alloc (w.alloc (.cells #[.int .i64 x, .int .i64 y] 27)) (.int .i64 0) (.int .i64 0) 27
  rw [e1] at t1
  have T1 := hide t1
  clear e1 t1
  have BB : Hid (Below w.heap.size w ((w.alloc (.cells #[.int .i64 x, .int .i64 y] 27)).alloc (.cells #[.int .i64 0, .int .i64 0] 27))) := ((Below.refl _ _).alloc (Nat.le_refl _) _).alloc (by simp) _
  have f0 := (unhide T0).c0
  have f1 := (unhide T0).c1
  unfold rv rvE at *
  go_enter Try.func24, Try.ntmps24
  go_wp2_with fail
  refine (unhide h1 _).mono ?_
  rintro e w1 ⟨rfl, b1⟩
  have T1n := hide ((unhide T1).up b1)
  have B1 := hide ((unhide BB).trans (b1.mono (unhide BB).size))
  clear b1 BB T0 T1 f0 f1
  have x0 := (unhide T1n).c0
  have x1 := (unhide T1n).c1
  have x2 := (unhide T1n).free 0
  have x3 := (unhide T1n).free 1
  go_wp2
  exact ret_two (p := 4) (q := 5) (ty := 27) (by kernel_rfl) (w.heap.size + 1) 27 (.int .i64 0) (.int .i64 0) (.int .i64 1) _ rfl rfl (((unhide T1n).set0 _).set1 _) rfl Try.underlying27 (by kernel_rfl) ⟨rfl, below_two (unhide B1) (by omega) _ _⟩

theorem dturn_any (x y k : Int) (w : World) : Calls Try.prog 24 #[rv x y, .int .i64 k] w fun e w' => e = .returned (rvE (turnA x y k)) ∧ Below w.heap.size w w' := by
  unfold turnA
  cases hE : okP x y
  · exact dturn_no x y k w hE
  · rw [if_pos rfl]
    have htm : k.tmod 4 = k % 4 ∨ k.tmod 4 = k % 4 - 4 ∧ k % 4 ≠ 0 := by
      rcases Int.le_total 0 k with h | h
      · left; exact Int.tmod_eq_emod_of_nonneg h
      · have e1 : k.tmod 4 = -((-k) % 4) := by
          have := Int.neg_tmod (a := -k) (b := 4)
          rw [Int.neg_neg] at this
          rw [this, Int.tmod_eq_emod_of_nonneg (by omega)]
        omega
    have hq : k % 4 = 0 ∨ k % 4 = 1 ∨ k % 4 = 2 ∨ k % 4 = 3 := by omega
    rcases hq with h | h | h | h <;> rw [h] at htm ⊢
    · exact dturn_p0 x y k w (by omega) hE
    · rcases htm with h' | h'
      · exact dturn_p1 x y k w h' hE
      · exact dturn_m1 x y k w (by omega) hE
    · rcases htm with h' | h'
      · exact dturn_p2 x y k w h' hE
      · exact dturn_m2 x y k w (by omega) hE
    · have e3 : quart (Int.toNat 3) (x, y) = (y, -x) := by show (-(-y), -x) = _; rw [Int.neg_neg]
      rw [e3]
      rcases htm with h' | h'
      · exact dturn_p3 x y k w h' hE
      · exact dturn_m3 x y k w (by omega) hE

end Go.Proofs.Ythodhabjcbohcaa

/- Contracts of plane's Norm, Dist, turned, Turn, conjugate. -/
import Derived.Test.YthodhabjcbohcaaPlB
import Derived.Laws.Bits128
namespace Go.Proofs.Ythodhabjcbohcaa
open Go.RowKit
set_option linter.unusedVariables false

def nrmA (x y : Int) : Int := if okP x y = true then x * x + y * y else -1
def distA (a b c d : Int) : Int := if (okP a b && okP c d) = true then (a - c) * (a - c) + (b - d) * (b - d) else -1

set_option maxRecDepth 100000 in
theorem nrm_any (x y : Int) (w : World) : Calls Try.prog 19 #[rv x y] w fun e w' => e = .returned (.int .i64 (nrmA x y)) ∧ Below w.heap.size w w' := by
  have h1 := hide (fun w => check_any x y w)
  have n1 := hide (fun w => number_any x y w)
  have T0 := hide (two_alloc w (.int .i64 x) (.int .i64 y) 23)
  have BB : Hid (Below w.heap.size w (w.alloc (.cells #[.int .i64 x, .int .i64 y] 23))) := (Below.refl _ _).alloc (Nat.le_refl _) _
  have f0 := (unhide T0).c0
  have f1 := (unhide T0).c1
  have hA : nrmA x y = if okP x y = true then x * x + y * y else -1 := rfl
  have HA := hide hA
  generalize nrmA x y = R at *
  have q1 := hide (@okP_t x y)
  clear hA
  generalize okP x y = E at *
  unfold rv at *
  go_enter Try.func19, Try.ntmps19
  go_wp2_with fail
  refine (unhide h1 _).mono ?_
  rintro e w1 ⟨rfl, b1⟩
  have T1 := hide ((unhide T0).up b1)
  have B1 := hide ((unhide BB).trans (b1.mono (unhide BB).size))
  clear b1 BB T0 f0 f1
  cases E
  · go_wp2
    go_ret
    exact ⟨by rw [unhide HA]; rfl, unhide B1⟩
  · obtain ⟨⟨a1, a2⟩, a3, a4⟩ := unhide q1 (by first | rfl | trivial)
    have hn := hide (fun w => norm_any _ _ x y w (fl_of x (by omega)) (fl_of y (by omega)) (by omega) (by omega))
    have hR : R = x * x + y * y := by rw [unhide HA]; rfl
    rw [← hR] at hn
    clear a1 a2 a3 a4 hR HA q1
    have g0 := (unhide T1).c0
    have g1 := (unhide T1).c1
    go_wp2_with fail
    refine (unhide n1 _).mono ?_
    rintro e w2 ⟨rfl, b2⟩
    have B2 := hide ((unhide B1).trans (b2.mono (unhide B1).size))
    clear b2 B1 g0 g1
    go_wp2_with fail
    refine (unhide hn _).mono ?_
    rintro e w3 ⟨rfl, rfl⟩
    go_wp2
    go_ret
    exact ⟨rfl, unhide B2⟩

set_option maxRecDepth 100000 in
theorem dist_any (a b c d : Int) (w : World) : Calls Try.prog 21 #[rv a b, rv c d] w fun e w' => e = .returned (.int .i64 (distA a b c d)) ∧ Below w.heap.size w w' := by
  have h1 := hide (fun w => check_any a b w)
  have h2 := hide (fun w => check_any c d w)
  have n1 := hide (fun w => number_any a b w)
  have n2 := hide (fun w => number_any c d w)
  have T0 := hide ((two_alloc w (.int .i64 a) (.int .i64 b) 23).alloc (.cells #[.int .i64 c, .int .i64 d] 23))
  have e1 : (w.alloc (.cells #[.int .i64 a, .int .i64 b] 23)).heap.size = w.heap.size + 1 := by simp
  have t1 := two_alloc (w.alloc (.cells #[.int .i64 a, .int .i64 b] 23)) (.int .i64 c) (.int .i64 d) 23
  rw [e1] at t1
  have T1 := hide t1
  clear e1 t1
  have BB : Hid (Below w.heap.size w ((w.alloc (.cells #[.int .i64 a, .int .i64 b] 23)).alloc (.cells #[.int .i64 c, .int .i64 d] 23))) := ((Below.refl _ _).alloc (Nat.le_refl _) _).alloc (by simp) _
  have f00 := (unhide T0).c0
  have f01 := (unhide T0).c1
  have hA : distA a b c d = if (okP a b && okP c d) = true then (a - c) * (a - c) + (b - d) * (b - d) else -1 := rfl
  have HA := hide hA
  generalize distA a b c d = R at *
  have Q1 := hide (@okP_t a b)
  have Q2 := hide (@okP_t c d)
  clear hA
  generalize okP a b = E1 at *
  generalize okP c d = E2 at *
  unfold rv at *
  go_enter Try.func21, Try.ntmps21
  go_wp2_with fail
  refine (unhide h1 _).mono ?_
  rintro e w1 ⟨rfl, b1⟩
  have T0n := hide ((unhide T0).up b1)
  have T1n := hide ((unhide T1).up b1)
  have BBn := hide ((unhide BB).trans (b1.mono (unhide BB).size))
  clear b1 BB T0 T1 f00 f01
  have g0 := (unhide T1n).c0
  have g1 := (unhide T1n).c1
  cases E1
  · go_wp2
    go_ret
    exact ⟨by rw [unhide HA]; rfl, unhide BBn⟩
  go_wp2_with fail
  refine (unhide h2 _).mono ?_
  rintro e w2 ⟨rfl, b2⟩
  have T0 := hide ((unhide T0n).up b2)
  have T1 := hide ((unhide T1n).up b2)
  have BB := hide ((unhide BBn).trans (b2.mono (unhide BBn).size))
  clear b2 BBn T0n T1n g0 g1
  cases E2
  · go_wp2
    go_ret
    exact ⟨by rw [unhide HA]; rfl, unhide BB⟩
  obtain ⟨⟨a1, a2⟩, a3, a4⟩ := unhide Q1 (by first | rfl | trivial)
  obtain ⟨⟨c1, c2⟩, c3, c4⟩ := unhide Q2 (by first | rfl | trivial)
  obtain ⟨re, im, k1, k2, k3⟩ := fl_csub (fl_of a (by omega)) (fl_of b (by omega)) (fl_of c (by omega)) (fl_of d (by omega)) (by omega) (by omega) (by omega) (by omega)
  have hop := fun t w => run_complex_sum (P := Try.prog) w .sub (Or.inr rfl) t .f64 _ _ _ _ re im k1
  have h3 := hide (fun w => norm_any re im (a - c) (b - d) w k2 k3 (by omega) (by omega))
  have hR : R = (a - c) * (a - c) + (b - d) * (b - d) := by rw [unhide HA]; rfl
  rw [← hR] at h3
  clear HA hR
  clear k1 k2 k3 a1 a2 a3 a4 c1 c2 c3 c4 Q1 Q2
  generalize floatOfInt .f64 a = fa at *
  generalize floatOfInt .f64 b = fb at *
  generalize floatOfInt .f64 c = fc at *
  generalize floatOfInt .f64 d = fd at *
  go_wp2_with fail
  refine wp_region_grB (by kernel_rfl) (by kernel_rfl) ?_
  have p0 : ∀ x : Gb w2, _ := fun x => (gb_two (unhide T0) x).c0
  have p1 : ∀ x : Gb w2, _ := fun x => (gb_two (unhide T0) x).c1
  have p2 : ∀ x : Gb w2, _ := fun x => (gb_two (unhide T1) x).c0
  have p3 : ∀ x : Gb w2, _ := fun x => (gb_two (unhide T1) x).c1
  have hne := gb_ne w2
  iterate 2 (go_big_quiet_step ((go_at_call 35; exact gb_call (unhide n1 _))))
  iterate 2 (go_big_quiet_step ((go_at_call 35; exact gb_call (unhide n2 _))))
  repeat (go_big_quiet_step ((go_at_call 38; exact gb_same (unhide h3 _))))
  refine wpQuiet_nil ?_
  rintro w7 ⟨⟨_, b7⟩, rfl⟩
  have B7 := hide ((unhide BB).trans (b7.mono (unhide BB).size))
  clear b7 p0 p1 p2 p3 hne
  go_wp2
  go_ret
  exact ⟨rfl, unhide B7⟩

set_option maxRecDepth 100000 in
theorem conj_any (re im : Nat) (w : World) : Calls Try.prog 45 #[.complex .f64 re im] w fun e w' => e = .returned (.complex .f64 re (Op.negFloat .f64 im)) ∧ w = w' := by
  have hn : ∀ w, (Op.unary .neg (.float .f64 im)).run Try.prog w = .ok (.float .f64 (Op.negFloat .f64 im)) w := fun _ => rfl
  go_enter Try.func45, Try.ntmps45
  go_wp2_with (simp only [hn])
  go_ret
  exact ⟨rfl, rfl⟩

/-- so many quarters -/
def quart : Nat → Int × Int → Int × Int
  | 0, p => p
  | n + 1, p => (-(quart n p).2, (quart n p).1)

theorem quart_abs (n : Nat) (p : Int × Int) (m : Nat) (h1 : p.1.natAbs ≤ m) (h2 : p.2.natAbs ≤ m) : (quart n p).1.natAbs ≤ m ∧ (quart n p).2.natAbs ≤ m := by
  induction n with
  | zero => exact ⟨h1, h2⟩
  | succ n ih => exact ⟨by simp only [quart, Int.natAbs_neg]; exact ih.2, ih.1⟩

theorem i64_and3 (n : Int) : bits .and .i64 n 3 = n % 4 := by
  have h3 : (BitVec.ofInt 64 3).toNat = 2 ^ 2 - 1 := by decide
  have key : (BitVec.ofInt 64 n &&& BitVec.ofInt 64 3).toNat = (n % ((2 ^ 64 : Nat) : Int)).toNat % 2 ^ 2 := by
    rw [BitVec.toNat_and, BitVec.toNat_ofInt, h3, Nat.and_two_pow_sub_one_eq_mod]
  show IntKind.i64.wrap ((BitVec.ofInt 64 n &&& BitVec.ofInt 64 3).toNat : Nat) = n % 4
  rw [key, IntKind.wrap_i64]
  omega

theorem fl_i : Fl 4607182418800017408 1 := fl_of 1 (by decide)
theorem fl_z : Fl 0 0 := fl_of 0 (by decide)

set_option maxRecDepth 100000 in
theorem turned_any (re im : Nat) (x y : Int) (k : Int) (w : World) (hx : Fl re x) (hy : Fl im y) (h1 : x.natAbs ≤ 1125899906842624) (h2 : y.natAbs ≤ 1125899906842624) : Calls Try.prog 40 #[.complex .f64 re im, .int .i64 k] w fun e w' => w = w' ∧ ∃ r i, e = .returned (.complex .f64 r i) ∧ Fl r (quart (k % 4).toNat (x, y)).1 ∧ Fl i (quart (k % 4).toNat (x, y)).2 := by
  have ha := i64_and3 k
  have hq : ((k % 4).toNat : Int) = k % 4 := by omega
  have hq3 : (k % 4).toNat ≤ 3 := by omega
  generalize (k % 4).toNat = q at *
  rw [← hq] at ha
  clear hq
  have Hx := hide hx
  have Hy := hide hy
  clear hx hy
  go_enter Try.func40, Try.ntmps40
  go_wp2_with (simp only [ha])
  go_loopw [0, 7] (fun zv jv wr => w = wr ∧ ∃ (j : Nat) (r i : Nat), zv = .complex .f64 r i ∧ jv = .int .i64 (j : Nat) ∧ Hid (Fl r (quart j (x, y)).1 ∧ Fl i (quart j (x, y)).2) ∧ j ≤ q) (fun _ jv _ => q - (intOf jv).toNat)
  case atStart => exact ⟨rfl, 0, re, im, rfl, rfl, ⟨unhide Hx, unhide Hy⟩, by omega⟩
  case round =>
    obtain ⟨rfl, j, r, i, rfl, rfl, hf, hj⟩ := hrel
    by_cases hjq : j < q
    · have hlt : ((j : Int) < (q : Int)) := by omega
      obtain ⟨f1, f2⟩ := unhide hf
      obtain ⟨m1, m2⟩ := quart_abs j (x, y) 1125899906842624 h1 h2
      obtain ⟨re', im', k1, k2, k3⟩ := fl_cmul f1 f2 fl_z fl_i 1125899906842624 1 (by decide) m1 m2 (by decide) (by decide)
      have hop := fun t w => run_complex_mul (P := Try.prog) w t _ _ _ _ re' im' k1
      have hF : Hid (Fl re' (quart (j + 1) (x, y)).1 ∧ Fl im' (quart (j + 1) (x, y)).2) := by
        refine ⟨?_, ?_⟩
        · have e : (quart j (x, y)).1 * 0 - (quart j (x, y)).2 * 1 = (quart (j + 1) (x, y)).1 := by simp [quart]
          rw [← e]; exact k2
        · have e : (quart j (x, y)).1 * 1 + (quart j (x, y)).2 * 0 = (quart (j + 1) (x, y)).2 := by simp [quart]
          rw [← e]; exact k3
      clear f1 f2 m1 m2 k1 k2 k3 hf
      go_wp2_with (simp only [hop])
      go_roundw
      case rel => exact ⟨trivial, j + 1, re', im', rfl, rfl, hF, by omega⟩
      case measure => simp [intOf]; omega
    · obtain rfl : j = q := by omega
      obtain ⟨f1, f2⟩ := unhide hf
      go_wp2
      go_ret
      exact ⟨rfl, r, i, rfl, f1, f2⟩


def turnA (x y k : Int) : Int × Int × Int := if okP x y = true then ((quart (k % 4).toNat (x, y)).1, (quart (k % 4).toNat (x, y)).2, 0) else (0, 0, 1)

set_option maxRecDepth 100000 in
theorem turn_any (x y k : Int) (w : World) : Calls Try.prog 23 #[rv x y, .int .i64 k] w fun e w' => e = .returned (rvE (turnA x y k)) ∧ Below w.heap.size w w' := by
  have h1 := hide (fun w => check_any x y w)
  have n1 := hide (fun w => number_any x y w)
  have T0 := hide ((two_alloc w (.int .i64 x) (.int .i64 y) 23).alloc (.cells #[.int .i64 0, .int .i64 0] 23))
  have e1 : (w.alloc (.cells #[.int .i64 x, .int .i64 y] 23)).heap.size = w.heap.size + 1 := by simp
  have t1 := two_alloc (w.alloc (.cells #[.int .i64 x, .int .i64 y] 23)) (.int .i64 0) (.int .i64 0) 23
  rw [e1] at t1
  have T1 := hide t1
  clear e1 t1
  have BB : Hid (Below w.heap.size w ((w.alloc (.cells #[.int .i64 x, .int .i64 y] 23)).alloc (.cells #[.int .i64 0, .int .i64 0] 23))) := ((Below.refl _ _).alloc (Nat.le_refl _) _).alloc (by simp) _
  have f0 := (unhide T0).c0
  have f1 := (unhide T0).c1
  have HA : Hid (turnA x y k = if okP x y = true then ((quart (k % 4).toNat (x, y)).1, (quart (k % 4).toNat (x, y)).2, 0) else (0, 0, 1)) := rfl
  generalize turnA x y k = R at *
  have q1 := hide (@okP_t x y)
  generalize okP x y = E at *
  unfold rv at *
  go_enter Try.func23, Try.ntmps23
  go_wp2_with fail
  refine (unhide h1 _).mono ?_
  rintro e w1 ⟨rfl, b1⟩
  have T0n := hide ((unhide T0).up b1)
  have T1n := hide ((unhide T1).up b1)
  have B1 := hide ((unhide BB).trans (b1.mono (unhide BB).size))
  clear b1 BB T0 T1 f0 f1
  cases E
  · have x0 := (unhide T1n).c0
    have x1 := (unhide T1n).c1
    have x2 := (unhide T1n).free 0
    have x3 := (unhide T1n).free 1
    go_wp2
    exact ret_two (p := 4) (q := 5) (ty := 23) (by kernel_rfl) (w.heap.size + 1) 23 (.int .i64 0) (.int .i64 0) (.int .i64 1) _ rfl rfl (((unhide T1n).set0 _).set1 _) rfl Try.underlying23 (by kernel_rfl) ⟨by rw [unhide HA]; rfl, below_two (unhide B1) (by omega) _ _⟩
  · obtain ⟨⟨a1, a2⟩, a3, a4⟩ := unhide q1 (by first | rfl | trivial)
    have hn := hide (fun w => turned_any _ _ x y k w (fl_of x (by omega)) (fl_of y (by omega)) (by omega) (by omega))
    obtain ⟨m1, m2⟩ := quart_abs (k % 4).toNat (x, y) 1048576 (by show x.natAbs ≤ _; omega) (by show y.natAbs ≤ _; omega)
    have hR : R = ((quart (k % 4).toNat (x, y)).1, (quart (k % 4).toNat (x, y)).2, 0) := by rw [unhide HA]; rfl
    have HR := hide hR
    clear a1 a2 a3 a4 hR HA q1
    generalize (quart (k % 4).toNat (x, y)).1 = u at *
    generalize (quart (k % 4).toNat (x, y)).2 = v at *
    have g0 := (unhide T0n).c0
    have g1 := (unhide T0n).c1
    go_wp2_with fail
    refine (unhide n1 _).mono ?_
    rintro e w2 ⟨rfl, b2⟩
    have T2 := hide ((unhide T1n).up b2)
    have B2 := hide ((unhide B1).trans (b2.mono (unhide B1).size))
    clear b2 B1 g0 g1 T0n T1n
    go_wp2_with fail
    refine (unhide hn _).mono ?_
    rintro e w3 ⟨rfl, r, i, rfl, fr, fi⟩
    have hp := hide (fun w => place_any r i u v w fr fi (by omega) (by omega))
    clear fr fi hn m1 m2
    unfold rv at hp
    go_wp2_with fail
    refine (unhide hp _).mono ?_
    rintro e w4 ⟨rfl, b4⟩
    have T4 := hide ((unhide T2).up b4)
    have B4 := hide ((unhide B2).trans (b4.mono (unhide B2).size))
    have x0 := (unhide T4).c0
    have x1 := (unhide T4).c1
    have x2 := (unhide T4).free 0
    have x3 := (unhide T4).free 1
    clear b4 T2 B2 hp
    go_wp2
    exact ret_two (p := 4) (q := 5) (ty := 23) (by kernel_rfl) (w.heap.size + 1) 23 (.int .i64 u) (.int .i64 v) (.int .i64 0) _ rfl rfl (((unhide T4).set0 _).set1 _) rfl Try.underlying23 (by kernel_rfl) ⟨by rw [unhide HR]; rfl, below_two (unhide B4) (by omega) _ _⟩

end Go.Proofs.Ythodhabjcbohcaa

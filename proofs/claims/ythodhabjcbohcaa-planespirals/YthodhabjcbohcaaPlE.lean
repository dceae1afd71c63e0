/- Contracts of plane's ringOf, before, Spiral. -/
import Derived.Test.YthodhabjcbohcaaPlC
import Derived.Laws.Externs
namespace Go.Proofs.Ythodhabjcbohcaa
open Go.RowKit
set_option linter.unusedVariables false

theorem sqrt_run (x y : Nat) (h : Ieee.double.sqrt x = some y) (w : World) : (callFunc 55 #[.float .f64 x]).run Try.prog w = .ok (.value (.float .f64 y)) w := by
  rw [run_callFunc_extern (fn := Try.f55) (e := Extern.MathSqrt.sqrt) Try.func55 (by kernel_rfl) (by kernel_rfl) (by kernel_rfl) (by kernel_rfl)]
  have key : Extern.MathSqrt.sqrt #[.float .f64 x] = (match FloatKind.f64.format.sqrt x with
    | some r => (pure (Value.float .f64 r) : Sem Value)
    | none => do pure (Value.float .f64 (← choose (.nanBits .f64 x x)))) := rfl
  have this : (Extern.MathSqrt.sqrt #[.float .f64 x]).run Try.prog w = .ok (.float .f64 y) w := by
    rw [key, show FloatKind.f64.format.sqrt x = some y from h]; rfl
  rw [this]; rfl

/-- the root, cut down -/
def isq (n : Nat) : Nat := Ieee.Datum.rootFrom n (n.log2 / 2 + 1) 0
theorem isq_spec (n : Nat) : isq n * isq n ≤ n ∧ n < (isq n + 1) * (isq n + 1) := whole_spec n

set_option maxRecDepth 100000 in
theorem msqrt_any (x y : Nat) (w : World) (h : Ieee.double.sqrt x = some y) : Calls Try.prog 52 #[.float .f64 x] w fun e w' => e = .returned (.float .f64 y) ∧ w = w' := by
  have hs := sqrt_run x y h
  go_enter Try.func52, Try.ntmps52
  go_wp2_with (simp only [hs])
  go_ret
  exact ⟨rfl, rfl⟩


/-- the ring of a number -/
def ring (n : Nat) : Nat := (isq n + 1) / 2

set_option maxRecDepth 100000 in
theorem ring_any (n : Nat) (w : World) (hn : n ≤ 1099511627776) : Calls Try.prog 48 #[.int .i64 (n : Nat)] w fun e w' => e = .returned (.int .i64 (ring n : Nat)) ∧ w = w' := by
  obtain ⟨s1, s2⟩ := isq_spec n
  have hb : isq n ≤ 1048576 := by
    refine Nat.le_of_not_lt fun hlt => ?_
    have := Nat.mul_le_mul (show 1048577 ≤ isq n from hlt) (show 1048577 ≤ isq n from hlt)
    omega
  obtain ⟨y, e1, e2⟩ := fl_sqrt (fl_of (n : Int) (by omega)) hn s1 s2
  have hs := hide (fun w => msqrt_any _ y w e1)
  have hc : ∀ w, (convert 72 3 (.float .f64 y)).run Try.prog w = .ok (.int .i64 (isq n : Nat)) w := fun w => run_convert_float_int w 72 3 .f64 .i64 y _ (by rw [Try.underlying72]; rfl) Try.underlying3 e2
  have hd : ((isq n : Nat) + 1 : Int).tdiv 2 = ((ring n : Nat) : Int) := rfl
  have hR : ring n ≤ 1048576 := by unfold ring; omega
  generalize ring n = R at *
  generalize isq n = q at *
  clear e1 e2 s1 s2
  go_enter Try.func48, Try.ntmps48
  go_wp2_with fail
  refine (unhide hs _).mono ?_
  rintro e w1 ⟨rfl, rfl⟩
  go_wp2
  go_ret
  exact ⟨rfl, rfl⟩

set_option maxRecDepth 100000 in
theorem before_any (k : Nat) (w : World) (h0 : 1 ≤ k) (hn : k ≤ 1048576) : Calls Try.prog 49 #[.int .i64 (k : Nat)] w fun e w' => e = .returned (.int .i64 (((2 * k - 1) * (2 * k - 1) - 1 : Nat) : Int)) ∧ w = w' := by
  obtain ⟨m, hm⟩ : ∃ m : Nat, m = 2 * k - 1 := ⟨_, rfl⟩
  have h1 : (2 * (k : Int) - 1) = (m : Int) := by omega
  have h2 : m * m ≤ 2097152 * 2097152 := Nat.mul_le_mul (by omega) (by omega)
  have h4 : 1 ≤ m * m := Nat.mul_pos (by omega) (by omega)
  have h3 : (m : Int) * (m : Int) = ((m * m : Nat) : Int) := rfl
  rw [← hm]
  have h5 : (((m * m - 1 : Nat)) : Int) = ((m * m : Nat) : Int) - 1 := by omega
  rw [h5]
  clear hm h5
  generalize m * m = M at *
  go_enter Try.func49, Try.ntmps49
  go_wp2_with (simp only [h1, h3])
  go_ret
  exact ⟨rfl, rfl⟩

end Go.Proofs.Ythodhabjcbohcaa

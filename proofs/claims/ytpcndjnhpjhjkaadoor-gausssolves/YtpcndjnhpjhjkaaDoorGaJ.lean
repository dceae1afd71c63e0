/- gauss: rows compared as wholes. -/
import Derived.Test.YtpcndjnhpjhjkaaDoorGaH
import Derived.DeepKeys
namespace Go.Proofs.YtpcndjnhpjhjkaaDoor
open Go.RowKit
set_option linter.unusedVariables false

theorem Tryd.undRow : Tryd.prog.underlying 68 = some (.array 3 66) := by kernel_rfl
theorem Tryd.undU64 : Tryd.prog.underlying 66 = some (.int .u64) := by kernel_rfl
theorem Tryd.cellRow : Tryd.prog.cellsOf 68 = 3 := by kernel_rfl
theorem Tryd.cellU64 : Tryd.prog.cellsOf 66 = 1 := by kernel_rfl
theorem wf_u64 (x : Nat) (h : x < 2 ^ 64) : (Lit.int .u64 (x : Int)).wf = true := by
  simp [Lit.wf, IntKind.min, IntKind.max, IntKind.signed, IntKind.bits]
  omega
theorem row_lits (R : Nat) : Tryd.prog.keyLits 2 68 (rowV R).cells.toList = some [.int .u64 (wd R 0), .int .u64 (wd R 1), .int .u64 (wd R 2)] := by
  have e : (rowV R).cells.toList = [.int .u64 (wd R 0), .int .u64 (wd R 1), .int .u64 (wd R 2)] := rfl
  rw [e]
  unfold Program.keyLits
  rw [Tryd.undRow]
  simp only [Tryd.cellRow, Tryd.cellU64]
  unfold Program.keyLits
  simp [List.range_succ, wf_u64 _ (wd_lt R 0), wf_u64 _ (wd_lt R 1), wf_u64 _ (wd_lt R 2)]
theorem row_formed (R : Nat) : (rowV R).formed Tryd.prog 68 = true := by
  unfold rowV Value.formed
  rw [Tryd.undRow, Tryd.cellRow]
  rfl
theorem wd_ext {R S : Nat} (hR : R < 2 ^ 192) (hS : S < 2 ^ 192) (h : wd R 0 = wd S 0 ∧ wd R 1 = wd S 1 ∧ wd R 2 = wd S 2) : R = S := by
  apply Nat.eq_of_testBit_eq
  intro i
  by_cases hi : i < 192
  · have key : ∀ k, k < 3 → wd R k = wd S k := fun k hk => by
      obtain rfl | rfl | rfl : k = 0 ∨ k = 1 ∨ k = 2 := by omega
      · exact h.1
      · exact h.2.1
      · exact h.2.2
    have h1 := wd_bit R (i / 64) (i % 64) (by omega)
    have h2 := wd_bit S (i / 64) (i % 64) (by omega)
    rw [show 64 * (i / 64) + i % 64 = i by omega] at h1 h2
    rw [← h1, ← h2, key _ (by omega)]
  · rw [Nat.testBit_lt_two_pow (Nat.lt_of_lt_of_le hR (Nat.pow_le_pow_right (by omega) (by omega))), Nat.testBit_lt_two_pow (Nat.lt_of_lt_of_le hS (Nat.pow_le_pow_right (by omega) (by omega)))]
theorem row_eq (R S : Nat) (hR : R < 2 ^ 192) (hS : S < 2 ^ 192) (w : World) : (Op.equalIn 10000 68 (rowV R) (rowV S)).run Tryd.prog w = .ok (decide (R = S)) w := by
  obtain ⟨r, h1, h2⟩ := run_equalIn_deep (P := Tryd.prog) 9998 2 68 (by kernel_rfl) w 2 2 (rowV R) (rowV S) _ _ (row_formed R) (row_formed S) (row_lits R) (row_lits S)
  have e : r = decide (R = S) := by
    rw [Bool.eq_iff_iff, h2, decide_eq_true_eq]
    constructor
    · intro h
      simp only [List.cons.injEq, Lit.int.injEq, true_and, and_true] at h
      exact wd_ext hR hS ⟨by omega, by omega, by omega⟩
    · intro h; rw [h]
  rw [← e]
  exact h1
end Go.Proofs.YtpcndjnhpjhjkaaDoor


/- Contracts of block's small functions, and of the document's: sizes, counts, blocks of bytes 0. -/
import Derived.Test.YtfihpmhobjjaaaaTxtS
import Derived.Test.YtfihpmhobjjaaaaBrow
namespace Go.Proofs.Ytfihpmhobjjaaaa
open Go.RowKit
set_option linter.unusedVariables false

/-- may a size be? -/
def may (n : Int) : Bool := decide (1 ≤ n ∧ n ≤ 64)
theorem may_iff {n : Int} : may n = true ↔ 1 ≤ n ∧ n ≤ 64 := by unfold may; simp
theorem may_not {n : Int} : may n = false ↔ n < 1 ∨ 64 < n := by unfold may; simp; omega

/-- a block of bytes 0 -/
def zeroL (n : Int) : By := if may n = true then List.replicate n.toNat 0 else []
theorem zeroL_nat (m : Nat) (h1 : 1 ≤ m) (h2 : m ≤ 64) : zeroL m = List.replicate m 0 := by
  unfold zeroL
  rw [if_pos (may_iff.2 (by omega)), Int.toNat_natCast]
/-- how many blocks of a size there are -/
def countN (long size : Int) : Nat :=
  if (1 ≤ long ∧ long ≤ 4096) ∧ may size = true then (if ((long + size - 1) / size) ≤ 96 then ((long + size - 1) / size).toNat else 0) else 0
theorem countN_le (long size : Int) : countN long size ≤ 96 := by
  unfold countN
  split
  · split
    · omega
    · omega
  · omega
theorem countN_pos {long size : Int} (h : countN long size ≠ 0) : ∃ l s : Nat, long = l ∧ size = s ∧ 1 ≤ l ∧ l ≤ 4096 ∧ 1 ≤ s ∧ s ≤ 64 ∧ countN long size = (l + s - 1) / s := by
  unfold countN at h ⊢
  by_cases h1 : (1 ≤ long ∧ long ≤ 4096) ∧ may size = true
  · rw [if_pos h1] at h ⊢
    by_cases h2 : ((long + size - 1) / size) ≤ 96
    · rw [if_pos h2]
      obtain ⟨m1, m2⟩ := may_iff.1 h1.2
      obtain ⟨l, rfl⟩ : ∃ m : Nat, long = m := ⟨long.toNat, by omega⟩
      obtain ⟨s, rfl⟩ : ∃ m : Nat, size = m := ⟨size.toNat, by omega⟩
      refine ⟨l, s, rfl, rfl, by omega, by omega, by omega, by omega, ?_⟩
      have : ((l : Int) + s - 1) / s = (((l + s - 1) / s : Nat) : Int) := by
        rw [Int.natCast_ediv]
        congr 1
        omega
      rw [this]
      exact Int.toNat_natCast _
    · rw [if_neg h2] at h; exact absurd rfl h
  · rw [if_neg h1] at h; exact absurd rfl h
/-- the least number of blocks that hold all -/
theorem ceil_lt (l s k : Nat) (hs : 1 ≤ s) (hl : 1 ≤ l) : k * s < l ↔ k < (l + s - 1) / s := by
  rw [Nat.lt_div_iff_mul_lt (by omega)]
  constructor
  · intro h
    omega
  · intro h
    omega
end Go.Proofs.Ytfihpmhobjjaaaa

/- meter: levels behind ticks. -/
import Derived.Test.YtiibdlddamcfaaaMeG
import Derived.Test.YtiibdlddamcfaaaOpenD
namespace Go.Proofs.Ytiibdlddamcfaaa
open Go.RowKit
set_option linter.unusedVariables false
attribute [local go_sem] Oper.semAt_some

/-- a bucket's level behind so many ticks -/
def lv (r s L : Int) (j : Nat) : Int := min (L + (j : Int) * r) s
theorem lv_zero {r s L : Int} (h : L ≤ s) : lv r s L 0 = L := by unfold lv; simp; omega
theorem lv_succ {r s L : Int} (hr : 0 ≤ r) (j : Nat) : tickL r s (lv r s L j) = lv r s L (j + 1) := by
  unfold tickL lv
  have : ((j + 1 : Nat) : Int) * r = (j : Int) * r + r := by
    rw [Int.natCast_add, Int.add_mul]; simp
  rw [this]
  omega
theorem lv_in {r s L : Int} (hr : 0 ≤ r) (h : 0 ≤ L ∧ L ≤ s) (j : Nat) : 0 ≤ lv r s L j ∧ lv r s L j ≤ s := by
  have : 0 ≤ (j : Int) * r := Int.mul_nonneg (by omega) hr
  unfold lv
  omega
theorem wait_parts {r s L N : Int} (hr : 1 ≤ r) (h1 : ¬ s < N) (h2 : ¬ N ≤ L) : ((waitN r s L N) - 1) * r ≤ N - L - 1 ∧ N - L ≤ (waitN r s L N) * r ∧ 0 ≤ waitN r s L N := by
  unfold waitN
  rw [if_neg h1, if_neg h2, Int.tdiv_eq_ediv_of_nonneg (by omega)]
  have e1 := Int.mul_ediv_add_emod (N - L + r - 1) r
  have e2 := Int.emod_lt_of_pos (N - L + r - 1) (show 0 < r by omega)
  have e3 := Int.emod_nonneg (N - L + r - 1) (show r ≠ 0 by omega)
  have e4 : 0 ≤ (N - L + r - 1) / r := Int.ediv_nonneg (by omega) (by omega)
  generalize (N - L + r - 1) / r = z at *
  generalize (N - L + r - 1) % r = y at *
  rw [Int.mul_comm] at e1
  have e5 : (z - 1) * r = z * r - r := by rw [Int.sub_mul]; simp
  rw [e5]
  omega
theorem wait_lt {r s L N : Int} {j : Nat} (hr : 1 ≤ r) (h1 : ¬ s < N) (hj : (j : Int) < waitN r s L N) : lv r s L j < N := by
  by_cases h2 : N ≤ L
  · unfold waitN at hj
    rw [if_neg h1, if_pos h2] at hj
    omega
  · obtain ⟨p1, p2, p3⟩ := wait_parts hr h1 h2
    have : (j : Int) * r ≤ (waitN r s L N - 1) * r := Int.mul_le_mul_of_nonneg_right (by omega) (by omega)
    unfold lv
    omega
theorem wait_ge {r s L N : Int} {j : Nat} (hr : 1 ≤ r) (hL : L ≤ s) (h1 : ¬ s < N) (hj : (j : Int) = waitN r s L N) : N ≤ lv r s L j := by
  by_cases h2 : N ≤ L
  · have : 0 ≤ (j : Int) * r := Int.mul_nonneg (by omega) (by omega)
    unfold lv
    omega
  · obtain ⟨p1, p2, p3⟩ := wait_parts hr h1 h2
    rw [← hj] at p2
    unfold lv
    omega
theorem drop_cells {w w' : World} {a0 : Option Addr} {len : Nat} {F : Nat → Int × Int} (h : DropsAt w a0 len F) (hb : Below w.heap.size w w') (i : Nat) (hi : i < len) :
    ∃ g o, a0 = some ⟨g, o, none⟩ ∧ w'.cell? ⟨g, o + i * 2, none⟩ = some (.int .i64 (F i).1) ∧ w'.cell? ⟨g, o + i * 2 + 1, none⟩ = some (.int .i64 (F i).2) ∧ -9223372036854775808 ≤ (F i).2 ∧ (F i).2 ≤ 9223372036854775807 := by
  obtain ⟨g, o, h1, h2, ⟨h3, h4⟩, h5, h6⟩ := h i hi
  exact ⟨g, o, h1, cell_below h3 hb, cell_below h4 hb, (wf64 h6).1, (wf64 h6).2⟩
end Go.Proofs.Ytiibdlddamcfaaa

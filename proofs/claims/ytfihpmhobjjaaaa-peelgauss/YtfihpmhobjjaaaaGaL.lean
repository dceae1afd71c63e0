
/- gauss: the numbers of a row. -/
import Derived.Test.YtfihpmhobjjaaaaGaK
namespace Go.Proofs.Ytfihpmhobjjaaaa
open Go.RowKit
set_option linter.unusedVariables false
attribute [local go_sem] Oper.semAt_some

/-- the bits of a word, rising -/
def wnums (x : Nat) : List Nat := (List.range 64).filter fun i => x.testBit i
theorem wnums_zero : wnums 0 = [] := by
  unfold wnums
  rw [List.filter_eq_nil_iff]
  simp
theorem and_pred_lt {x : Nat} (hb : x < 2 ^ 64) : x &&& (x - 1) < 2 ^ 64 := Nat.lt_of_le_of_lt Nat.and_le_left hb
theorem and_pred_less {x : Nat} (hx : x ≠ 0) : x &&& (x - 1) < x := by
  have : x &&& (x - 1) ≤ x - 1 := Nat.and_le_right
  omega
theorem wnums_step {x : Nat} (hx : x ≠ 0) (hb : x < 2 ^ 64) : wnums x = fb x :: wnums (x &&& (x - 1)) := by
  have hb2 : x < 2 ^ 200 := Nat.lt_of_lt_of_le hb (Nat.pow_le_pow_right (by omega) (by omega))
  obtain ⟨h1, h2⟩ := fb_spec hx hb2
  have ht : fb x < 64 := (Nat.pow_lt_pow_iff_right (show 1 < 2 by omega)).1 (Nat.lt_of_le_of_lt (Nat.ge_two_pow_of_testBit h1) hb)
  refine eq_of_ord (fun x : Nat => x) _ _ (List.Pairwise.filter _ List.pairwise_lt_range) (List.pairwise_cons.2 ⟨fun y hy => ?_, List.Pairwise.filter _ List.pairwise_lt_range⟩) (fun i => ?_)
  · unfold wnums at hy
    rw [List.mem_filter, and_pred hx hb] at hy
    simp only [Bool.and_eq_true, decide_eq_true_eq] at hy
    have := fb_le hb2 hy.2.1
    omega
  · unfold wnums
    rw [List.mem_cons, List.mem_filter, List.mem_filter, and_pred hx hb, List.mem_range]
    simp only [Bool.and_eq_true, decide_eq_true_eq]
    constructor
    · rintro ⟨a, b⟩
      by_cases e : i = fb x
      · exact .inl e
      · exact .inr ⟨a, b, e⟩
    · rintro (e | ⟨a, b, _⟩)
      · rw [e]; exact ⟨ht, h1⟩
      · exact ⟨a, b⟩
/-- the numbers of the first k words -/
def nk (R : Nat) : Nat → List Nat
  | 0 => []
  | k + 1 => nk R k ++ (wnums (wd R k)).map fun i => 64 * k + i
theorem nk_mem (R : Nat) : ∀ (k i : Nat), i ∈ nk R k ↔ i < 64 * k ∧ R.testBit i = true
  | 0, i => by simp [nk]
  | k + 1, i => by
    unfold nk
    rw [List.mem_append, nk_mem R k i, List.mem_map]
    constructor
    · rintro (⟨a, b⟩ | ⟨j, hj, rfl⟩)
      · exact ⟨by omega, b⟩
      · unfold wnums at hj
        rw [List.mem_filter, List.mem_range] at hj
        have := hj.1
        rw [wd_bit R k j hj.1] at hj
        exact ⟨by omega, hj.2⟩
    · rintro ⟨a, b⟩
      by_cases h : i < 64 * k
      · exact .inl ⟨h, b⟩
      · refine .inr ⟨i - 64 * k, ?_, by omega⟩
        unfold wnums
        rw [List.mem_filter, List.mem_range, wd_bit R k _ (by omega), show 64 * k + (i - 64 * k) = i by omega]
        exact ⟨by omega, b⟩
theorem nk_ord (R : Nat) : ∀ (k : Nat), (nk R k).Pairwise (· < ·)
  | 0 => List.Pairwise.nil
  | k + 1 => by
    unfold nk
    refine List.pairwise_append.2 ⟨nk_ord R k, ?_, fun x hx y hy => ?_⟩
    · rw [List.pairwise_map]
      exact List.Pairwise.imp (fun h => by omega) (List.Pairwise.filter _ List.pairwise_lt_range)
    · have h1 := (nk_mem R k x).1 hx
      obtain ⟨j, _, rfl⟩ := List.mem_map.1 hy
      omega
theorem nk_nums {R n : Nat} (hn : n ≤ 192) (hR : R < 2 ^ n) : nk R 3 = numsR n R := by
  refine eq_of_ord (fun x : Nat => x) _ _ (nk_ord R 3) (List.Pairwise.filter _ List.pairwise_lt_range) (fun i => ?_)
  rw [nk_mem]
  unfold numsR
  rw [List.mem_filter, List.mem_range]
  constructor
  · rintro ⟨_, b⟩
    exact ⟨(Nat.pow_lt_pow_iff_right (show 1 < 2 by omega)).1 (Nat.lt_of_le_of_lt (Nat.ge_two_pow_of_testBit b) hR), b⟩
  · rintro ⟨a, b⟩
    exact ⟨by omega, b⟩
theorem wnums_len (x : Nat) : (wnums x).length ≤ 64 := by
  unfold wnums
  have := List.length_filter_le (fun i => x.testBit i) (List.range 64)
  simpa using this
theorem nk_len (R : Nat) : ∀ k, (nk R k).length ≤ 64 * k
  | 0 => by simp [nk]
  | k + 1 => by
    unfold nk
    have := nk_len R k
    have := wnums_len (wd R k)
    rw [List.length_append, List.length_map]
    omega
theorem wrap_pred (x : Nat) (hx : x ≠ 0) (hb : x < 2 ^ 64) : IntKind.u64.wrap ((x : Int) - 1) = ((x - 1 : Nat) : Int) := by
  simp [IntKind.wrap, IntKind.bits, IntKind.signed]
  omega
theorem zs_append (a b : List Nat) : zs (a ++ b) = zs a ++ zs b := by simp [zs]
end Go.Proofs.Ytfihpmhobjjaaaa

/- The lowest bit of a word, by the library's table. -/
import Derived.Test.YtpcndjnhpjhjkaaDoorGaI
namespace Go.Proofs.YtpcndjnhpjhjkaaDoor
open Go.RowKit
set_option linter.unusedVariables false
attribute [local go_sem] Oper.semAt_some

/-- the library's table -/
def tab64 : List Nat := [0, 1, 56, 2, 57, 49, 28, 3, 61, 58, 42, 50, 38, 29, 17, 4, 62, 47, 59, 36, 45, 43, 51, 22, 53, 39, 33, 30, 24, 18, 12, 5, 63, 55, 48, 27, 60, 41, 37, 16, 46, 35, 44, 21, 52, 32, 23, 11, 54, 26, 40, 15, 34, 20, 31, 10, 25, 14, 19, 9, 13, 8, 7, 6]
/-- the table lies where it was laid -/
def Tz (w : World) : Prop := ∀ j, j < 64 → w.cell? ⟨0, j, none⟩ = some (.int .u8 (tab64.getD j 0))
theorem Tz.below {w w' : World} (h : Tz w) (hb : Below w.heap.size w w') : Tz w' := fun j hj => cell_below (h j hj) hb
theorem tab64_at : ∀ t, t < 64 → tab64.getD ((2 ^ t * 285870213051353865 % 2 ^ 64) / 2 ^ 58) 0 = t := by decide +kernel
theorem tab64_ix (t : Nat) : (2 ^ t * 285870213051353865 % 2 ^ 64) / 2 ^ 58 < 64 := by
  have : 2 ^ t * 285870213051353865 % 2 ^ 64 < 2 ^ 64 := Nat.mod_lt _ (by decide)
  omega
/-- a number's lowest bit, and what is above it -/
theorem low_form {x : Nat} (hx : x ≠ 0) (hb : x < 2 ^ 64) : ∃ t m, t < 64 ∧ x = 2 ^ t * (2 * m + 1) ∧ fb x = t := by
  have hb2 : x < 2 ^ 200 := Nat.lt_of_lt_of_le hb (Nat.pow_le_pow_right (by omega) (by omega))
  obtain ⟨h1, h2⟩ := fb_spec hx hb2
  have ht : fb x < 64 := (Nat.pow_lt_pow_iff_right (show 1 < 2 by omega)).1 (Nat.lt_of_le_of_lt (Nat.ge_two_pow_of_testBit h1) hb)
  refine ⟨fb x, x / 2 ^ fb x / 2, ht, ?_, rfl⟩
  have hd : x % 2 ^ fb x = 0 := by
    refine zero_of_bits (n := fb x) (Nat.mod_lt _ (Nat.two_pow_pos _)) (fun b hb => ?_)
    rw [Nat.testBit_mod_two_pow, h2 b hb]
    simp
  have ho : x / 2 ^ fb x % 2 = 1 := by
    rw [Nat.testBit, Nat.shiftRight_eq_div_pow, Nat.one_and_eq_mod_two] at h1
    simp at h1
    omega
  have e1 : 2 * (x / 2 ^ fb x / 2) + 1 = x / 2 ^ fb x := by omega
  rw [e1]
  have := Nat.div_add_mod x (2 ^ fb x)
  rw [hd] at this
  omega
theorem bit_pred {t m i : Nat} : (2 ^ t * (2 * m + 1) - 1).testBit i = if i < t then true else if i = t then false else (2 ^ t * (2 * m + 1)).testBit i := by
  have hp := Nat.two_pow_pos t
  have e : 2 ^ t * (2 * m + 1) - 1 = 2 ^ t * (2 * m) + (2 ^ t - 1) := by
    rw [Nat.mul_add, Nat.mul_one]; omega
  have e2 : 2 ^ t * (2 * m + 1) = 2 ^ t * (2 * m + 1) + 0 := rfl
  rw [e, Nat.testBit_two_pow_mul_add _ (by omega), e2, Nat.testBit_two_pow_mul_add _ hp]
  by_cases h1 : i < t
  · simp [h1, Nat.testBit_two_pow_sub_one]
  · rw [if_neg h1, if_neg h1]
    by_cases h2 : i = t
    · subst h2
      simp
    · rw [if_neg h2, if_neg h1]
      obtain ⟨d, hd⟩ : ∃ d, i - t = d + 1 := ⟨i - t - 1, by omega⟩
      rw [hd, Nat.testBit_succ, Nat.testBit_succ]
      congr 1
      omega
theorem form_bit {t m i : Nat} : (2 ^ t * (2 * m + 1)).testBit i = if i < t then false else if i = t then true else (2 * m + 1).testBit (i - t) := by
  have hp := Nat.two_pow_pos t
  have e2 : 2 ^ t * (2 * m + 1) = 2 ^ t * (2 * m + 1) + 0 := rfl
  rw [e2, Nat.testBit_two_pow_mul_add _ hp]
  by_cases h1 : i < t
  · simp [h1]
  · rw [if_neg h1, if_neg h1]
    by_cases h2 : i = t
    · subst h2
      simp
    · rw [if_neg h2]
theorem and_neg {x : Nat} (hx : x ≠ 0) (hb : x < 2 ^ 64) : x &&& (2 ^ 64 - x) = 2 ^ fb x := by
  obtain ⟨t, m, ht, he, hf⟩ := low_form hx hb
  rw [hf]
  apply Nat.eq_of_testBit_eq
  intro i
  have e : 2 ^ 64 - x = 2 ^ 64 - ((x - 1) + 1) := by omega
  rw [Nat.testBit_and, e, Nat.testBit_two_pow_sub_succ (by omega), he, bit_pred, form_bit, Nat.testBit_two_pow]
  by_cases h1 : i < t
  · have : ¬ t = i := by omega
    simp [h1, this]
  · rw [if_neg h1, if_neg h1]
    by_cases h2 : i = t
    · subst h2
      simp [ht]
    · have h3 : ¬ t = i := fun h => h2 h.symm
      rw [if_neg h2, if_neg h2]
      simp [h3]
      exact fun h _ => h
/-- a word without its lowest bit -/
theorem and_pred {x i : Nat} (hx : x ≠ 0) (hb : x < 2 ^ 64) : (x &&& (x - 1)).testBit i = (x.testBit i && decide (i ≠ fb x)) := by
  obtain ⟨t, m, ht, he, hf⟩ := low_form hx hb
  rw [hf, Nat.testBit_and, he, bit_pred]
  by_cases h1 : i < t
  · have h2 : i ≠ t := by omega
    simp [h1, h2]
  · rw [if_neg h1]
    by_cases h2 : i = t
    · subst h2
      simp
    · rw [if_neg h2]
      simp [h2]
theorem wrap_neg (x : Nat) (hx : x ≠ 0) (hb : x < 2 ^ 64) : IntKind.u64.wrap (-(x : Int)) = ((2 ^ 64 - x : Nat) : Int) := by
  simp [IntKind.wrap, IntKind.bits, IntKind.signed]
  omega
theorem wrap_mul (t : Nat) : IntKind.u64.wrap (((2 ^ t : Nat) : Int) * 285870213051353865) = ((2 ^ t * 285870213051353865 % 2 ^ 64 : Nat) : Int) := by
  simp [IntKind.wrap, IntKind.bits, IntKind.signed]
theorem div58 (Y : Nat) : (Y : Int) / 288230376151711744 = ((Y / 2 ^ 58 : Nat) : Int) := by
  rw [show (2 : Nat) ^ 58 = 288230376151711744 by rfl]
  omega
theorem tz_facts (x : Nat) (hx : x ≠ 0) (hb : x < 2 ^ 64) : ∃ (Pt : Int) (Y j : Nat), bits .and .u64 (x : Int) (IntKind.u64.wrap (-(x : Int))) = Pt ∧ IntKind.u64.wrap (Pt * 285870213051353865) = (Y : Int) ∧ (Y : Int) / 288230376151711744 = (j : Int) ∧ j < 64 ∧ tab64.getD j 0 = fb x ∧ fb x < 64 := by
  have h1 := bits_and_u64_nat x (2 ^ 64 - x) hb (by omega)
  rw [and_neg hx hb, ← wrap_neg x hx hb] at h1
  obtain ⟨t, m, ht, he, hf⟩ := low_form hx hb
  rw [hf] at h1 ⊢
  exact ⟨_, _, _, h1, wrap_mul t, div58 _, tab64_ix t, tab64_at t ht, ht⟩
set_option maxRecDepth 100000 in
set_option maxHeartbeats 1000000 in
theorem tz_any (x : Nat) (hx : x ≠ 0) (hb : x < 2 ^ 64) (w : World) (hT : Tz w) :
    Calls Tryd.prog 47 #[.int .u64 (x : Int)] w fun e w' => e = .returned (.int .i64 (fb x : Nat)) ∧ w = w' := by
  obtain ⟨Pt, Y, j, h1, h2, h3, h4, h5, h6⟩ := tz_facts x hx hb
  have hc := hT j h4
  rw [h5] at hc
  have q0 : ((x : Int) == 0) = false := by simp; omega
  have q1 : ¬ (x : Int) = 0 := by omega
  have q2 : (j : Int) < 64 := by omega
  generalize fb x = t at *
  have q3 : IntKind.i64.wrap (t : Int) = t := by simp [IntKind.wrap, IntKind.bits, IntKind.signed]; omega
  have h3' : (Y : Int) / 2 ^ 58 = (j : Int) := by rw [← h3]; rfl
  clear hT h5 hx hb
  go_enter Tryd.func47, Tryd.ntmps47
  go_wp2
  go_ret
  exact ⟨rfl, rfl⟩
end Go.Proofs.YtpcndjnhpjhjkaaDoor

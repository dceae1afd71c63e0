/- What the law OctOrder does, whatever the world: it answers true and changes nothing that was there. -/
import Derived.Test.YtahejlimdgniiacOctAwake
namespace Go.Proofs.Ytahejlimdgniiac
open Go.RowKit
set_option linter.unusedVariables false

theorem putB_succ (n : Int) (k : Nat) : putB n (k + 1) = byteAt n k :: putB n k := by
  unfold putB
  rw [List.range_succ_eq_map, List.map_cons, List.map_map]
  congr 1
  apply List.map_congr_left
  intro j hj
  simp only [Function.comp]
  congr 1
  omega

theorem pow_succ8 (k : Nat) : (2 : Int) ^ (8 * (k + 1)) = 2 ^ (8 * k) * 256 := by
  rw [show 8 * (k + 1) = 8 * k + 8 by omega, Int.pow_add]
  rfl
theorem pow8_pos (k : Nat) : (0 : Int) < 2 ^ (8 * k) := Int.pow_pos (by omega)
theorem split8 (n : Int) (k : Nat) : n % 2 ^ (8 * (k + 1)) = (n / 2 ^ (8 * k) % 256) * 2 ^ (8 * k) + n % 2 ^ (8 * k) := by
  have hp := pow8_pos k
  rw [pow_succ8]
  generalize (2 : Int) ^ (8 * k) = P at *
  have h1 := Int.mul_ediv_add_emod n P
  have h2 := Int.mul_ediv_add_emod (n / P) 256
  have h3 := Int.mul_ediv_add_emod n (P * 256)
  have h4 : n / (P * 256) = n / P / 256 := (Int.ediv_ediv_of_nonneg (by omega)).symm
  rw [h4] at h3
  have h5 : P * (n / P) = P * (256 * (n / P / 256)) + n / P % 256 * P := by
    conv => lhs; rw [← h2]
    rw [Int.mul_add, Int.mul_comm (n / P % 256)]
  rw [Int.mul_assoc] at h3
  omega
theorem byteAt_val (n : Int) (k : Nat) : ((byteAt n k).toNat : Int) = n / 2 ^ (8 * k) % 256 := u8_toNat _ (by omega) (by omega)
theorem byte_lt (n m : Int) (k : Nat) : (byteAt n k < byteAt m k) ↔ n / 2 ^ (8 * k) % 256 < m / 2 ^ (8 * k) % 256 := by
  rw [UInt8.lt_iff_toNat_lt, ← byteAt_val, ← byteAt_val]
  omega
theorem byte_eq (n m : Int) (k : Nat) : (byteAt n k = byteAt m k) ↔ n / 2 ^ (8 * k) % 256 = m / 2 ^ (8 * k) % 256 := by
  rw [← UInt8.toNat_inj, ← byteAt_val, ← byteAt_val]
  omega

theorem lex_lt {q q' r r' P : Int} (h0 : 0 ≤ r) (h1 : r < P) (h2 : 0 ≤ r') (h3 : r' < P) : q * P + r < q' * P + r' ↔ q < q' ∨ q = q' ∧ r < r' := by
  constructor
  · intro h
    rcases Int.lt_trichotomy q q' with c | c | c
    · exact .inl c
    · subst c; exact .inr ⟨rfl, by omega⟩
    · have : (q' + 1) * P ≤ q * P := Int.mul_le_mul_of_nonneg_right (by omega) (by omega)
      rw [Int.add_mul] at this
      omega
  · rintro (c | ⟨rfl, c⟩)
    · have : (q + 1) * P ≤ q' * P := Int.mul_le_mul_of_nonneg_right (by omega) (by omega)
      rw [Int.add_mul] at this
      omega
    · omega

theorem putB_less (n m : Int) (k : Nat) : Op.bytesLess (putB n k) (putB m k) = decide (n % 2 ^ (8 * k) < m % 2 ^ (8 * k)) := by
  induction k with
  | zero => simp [putB, Op.bytesLess, Int.emod_one]
  | succ k ih =>
    have hp := pow8_pos k
    rw [putB_succ, putB_succ, Op.bytesLess, ih, split8, split8]
    rw [Bool.eq_iff_iff]
    simp only [Bool.or_eq_true, Bool.and_eq_true, decide_eq_true_eq, beq_iff_eq, byte_lt, byte_eq]
    rw [lex_lt (Int.emod_nonneg _ (by omega)) (Int.emod_lt_of_pos _ hp) (Int.emod_nonneg _ (by omega)) (Int.emod_lt_of_pos _ hp)]

theorem putB_inj (n m : Int) (k : Nat) : putB n k = putB m k ↔ n % 2 ^ (8 * k) = m % 2 ^ (8 * k) := by
  induction k with
  | zero => simp [putB, Int.emod_one]
  | succ k ih =>
    have hp := pow8_pos k
    rw [putB_succ, putB_succ, List.cons.injEq, ih, byte_eq, split8, split8]
    constructor
    · rintro ⟨h1, h2⟩
      rw [h1, h2]
    · intro h
      have a := lex_lt (q := n / 2 ^ (8 * k) % 256) (q' := m / 2 ^ (8 * k) % 256) (Int.emod_nonneg n (by omega)) (Int.emod_lt_of_pos n hp) (Int.emod_nonneg m (by omega)) (Int.emod_lt_of_pos m hp)
      have b := lex_lt (q := m / 2 ^ (8 * k) % 256) (q' := n / 2 ^ (8 * k) % 256) (Int.emod_nonneg m (by omega)) (Int.emod_lt_of_pos m hp) (Int.emod_nonneg n (by omega)) (Int.emod_lt_of_pos n hp)
      omega

theorem mod_of_div0 (n : Int) (k : Nat) (h0 : ¬ n < 0) (h : n / 2 ^ (8 * k) = 0) : n % 2 ^ (8 * k) = n := by
  have := Int.emod_def n (2 ^ (8 * k))
  rw [h] at this
  omega

/-- of numbers that may be: they stand as their bytes do -/
theorem putS_order (a b size : Int) (ha : (putS a size).2 = 0) (hb : (putS b size).2 = 0) :
    Op.bytesLess (putS a size).1 (putS b size).1 = decide (a < b) ∧ ((putS a size).1 = (putS b size).1 ↔ a = b) := by
  unfold putS at *
  by_cases hs : size < 1 ∨ 7 < size
  · rw [if_pos hs] at ha; simp at ha
  · rw [if_neg hs] at *
    by_cases ca : a < 0 ∨ a / 2 ^ (8 * size.toNat) ≠ 0
    · rw [if_pos ca] at ha; simp at ha
    · by_cases cb : b < 0 ∨ b / 2 ^ (8 * size.toNat) ≠ 0
      · rw [if_pos cb] at hb; simp at hb
      · rw [if_neg hs, if_neg ca, if_neg cb]
        rw [putB_less, putB_inj, mod_of_div0 a _ (by omega) (by omega), mod_of_div0 b _ (by omega) (by omega)]
        exact ⟨rfl, Iff.rfl⟩

theorem octOrder_any (a b size : Int) (w : World) (_h0 : (Lit.int .i64 a).wf = true) (_h1 : (Lit.int .i64 b).wf = true) (_h2 : (Lit.int .i64 size).wf = true) :
    Calls Try.prog 3 #[.int .i64 a, .int .i64 b, .int .i64 size] w fun e w' => e = .returned (.bool true) ∧ Below w.heap.size w w' := by
  have ho := hide (putS_order a b size)
  have hp1 := hide (put_any a size)
  have hp2 := hide (put_any b size)
  generalize (putS a size).1 = t1 at *
  generalize (putS a size).2 = e1 at *
  generalize (putS b size).1 = t2 at *
  generalize (putS b size).2 = e2 at *
  clear _h0 _h1 _h2
  by_cases c1 : e1 = 0
  · by_cases c2 : e2 = 0
    · subst c1 c2
      obtain ⟨o1, o2⟩ := unhide ho rfl rfl
      have q2 : (t1 == t2) = (a == b) := by rw [Bool.eq_iff_iff]; simp [o2]
      clear o2 ho
      go_enter Try.func3, Try.ntmps3
      go_wp2_with fail
      refine (unhide hp1 w).mono ?_
      rintro e w1 ⟨rfl, b1⟩
      go_wp2_with fail
      refine (unhide hp2 w1).mono ?_
      rintro e w2 ⟨rfl, b2⟩
      go_wp2_with fail
      refine (awake_any w2).mono ?_
      rintro e w3 ⟨rfl, b3⟩
      have hb := hide ((b1.trans (b2.mono b1.size)).trans (b3.mono (Nat.le_trans b1.size b2.size)))
      clear b1 b2 b3
      go_wp2
      go_ret
      exact ⟨rfl, unhide hb⟩
    · have hne : (e2 != 0) = true := by simpa using c2
      subst c1
      go_enter Try.func3, Try.ntmps3
      go_wp2_with fail
      refine (unhide hp1 w).mono ?_
      rintro e w1 ⟨rfl, b1⟩
      go_wp2_with fail
      refine (unhide hp2 w1).mono ?_
      rintro e w2 ⟨rfl, b2⟩
      go_wp2_with fail
      refine (awake_any w2).mono ?_
      rintro e w3 ⟨rfl, b3⟩
      have hb := hide ((b1.trans (b2.mono b1.size)).trans (b3.mono (Nat.le_trans b1.size b2.size)))
      clear b1 b2 b3
      go_wp2
      go_ret
      exact ⟨rfl, unhide hb⟩
  · have hne : (e1 != 0) = true := by simpa using c1
    go_enter Try.func3, Try.ntmps3
    go_wp2_with fail
    refine (unhide hp1 w).mono ?_
    rintro e w1 ⟨rfl, b1⟩
    go_wp2_with fail
    refine (unhide hp2 w1).mono ?_
    rintro e w2 ⟨rfl, b2⟩
    go_wp2_with fail
    refine (awake_any w2).mono ?_
    rintro e w3 ⟨rfl, b3⟩
    have hb := hide ((b1.trans (b2.mono b1.size)).trans (b3.mono (Nat.le_trans b1.size b2.size)))
    clear b1 b2 b3
    go_wp2
    go_ret
    exact ⟨rfl, unhide hb⟩

end Go.Proofs.Ytahejlimdgniiac

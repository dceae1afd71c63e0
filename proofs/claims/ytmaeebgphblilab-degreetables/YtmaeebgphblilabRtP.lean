/- Mathematics of ratios: lowest terms are the only ones; sums and products undone; order; floors. Nothing of the program. -/
import Derived.Test.YtmaeebgphblilabRtG
namespace Go.Proofs.Ytmaeebgphblilab
open Go.RowKit
set_option linter.unusedVariables false

theorem lo_parts (n d : Int) (hd : d ≠ 0) : n = (Nat.gcd n.natAbs d.natAbs : Nat) * loQ n d ∧ d = (Nat.gcd n.natAbs d.natAbs : Nat) * loR n d := by
  have h1 : ((Nat.gcd n.natAbs d.natAbs : Nat) : Int) ∣ n := Int.natAbs_dvd_natAbs.1 (by rw [Int.natAbs_natCast]; exact Nat.gcd_dvd_left _ _)
  have h2 : ((Nat.gcd n.natAbs d.natAbs : Nat) : Int) ∣ d := Int.natAbs_dvd_natAbs.1 (by rw [Int.natAbs_natCast]; exact Nat.gcd_dvd_right _ _)
  exact ⟨(Int.mul_tdiv_cancel' h1).symm, (Int.mul_tdiv_cancel' h2).symm⟩
theorem lo_cross (n d : Int) (hd : d ≠ 0) : loN n d * d = n * loD n d := by
  obtain ⟨h1, h2⟩ := lo_parts n d hd
  unfold loN loD
  generalize loQ n d = N at *
  generalize loR n d = D at *
  generalize ((Nat.gcd n.natAbs d.natAbs : Nat) : Int) = g at *
  have key : N * d = n * D := by
    rw [h2]
    conv => rhs; rw [h1]
    rw [Int.mul_left_comm, Int.mul_assoc]
  split
  · rw [Int.neg_mul, Int.mul_neg, key]
  · exact key
theorem lo_err (n d : Int) : (loA n d).2.2 = 0 ∨ (loA n d).2.2 = 8 := by unfold loA; split <;> simp
theorem loA_ok {n d x y : Int} (hd : d ≠ 0) (h : loA n d = (x, y, 0)) : okR x y = true ∧ x * d = n * y := by
  unfold loA at h
  split at h
  · rename_i hok
    simp only [Prod.mk.injEq, and_true] at h
    obtain ⟨rfl, rfl⟩ := h
    exact ⟨hok, lo_cross n d hd⟩
  · simp at h
theorem coprime_int {p q : Int} (h : Nat.gcd p.natAbs q.natAbs = 1) {d : Int} (hdvd : q ∣ p * d) : q ∣ d := by
  have h1 : q.natAbs ∣ p.natAbs * d.natAbs := by rw [← Int.natAbs_mul]; exact Int.natAbs_dvd_natAbs.2 hdvd
  have h2 : q.natAbs ∣ d.natAbs := Nat.Coprime.dvd_of_dvd_mul_left (Nat.Coprime.symm h) h1
  exact Int.natAbs_dvd_natAbs.1 h2
theorem loA_eq {n d p q : Int} (hd : d ≠ 0) (hok : okR p q = true) (h : p * d = n * q) : loA n d = (p, q, 0) := by
  obtain ⟨_, _, hq, _, hg⟩ := okR_of hok
  obtain ⟨k, hk⟩ : q ∣ d := coprime_int hg ⟨n, by rw [h, Int.mul_comm]⟩
  have hn : n = p * k := by
    have : q * n = q * (p * k) := by rw [Int.mul_comm q n, ← h, hk, Int.mul_left_comm]
    exact Int.eq_of_mul_eq_mul_left (by omega) this
  have hk0 : k ≠ 0 := by rintro rfl; simp at hk; exact hd hk
  have hG : Nat.gcd n.natAbs d.natAbs = k.natAbs := by rw [hn, hk, Int.natAbs_mul, Int.natAbs_mul, Nat.gcd_mul_right, hg, Nat.one_mul]
  have hN : loN n d = p ∧ loD n d = q := by
    unfold loN loD loQ loR
    rw [hG]
    rcases Int.lt_or_gt_of_ne hk0 with hs | hs
    · have hds : d < 0 := by rw [hk]; exact Int.mul_neg_of_pos_of_neg hq hs
      have e1 : ((k.natAbs : Nat) : Int) = -k := by omega
      rw [if_pos hds, if_pos hds, e1, Int.tdiv_neg, Int.tdiv_neg, hn, Int.mul_tdiv_cancel _ hk0, hk, Int.mul_tdiv_cancel _ hk0]
      omega
    · have hds : ¬ d < 0 := by rw [hk]; have := Int.mul_pos hq hs; omega
      have e1 : ((k.natAbs : Nat) : Int) = k := by omega
      rw [if_neg hds, if_neg hds, e1, hn, Int.mul_tdiv_cancel _ hk0, hk, Int.mul_tdiv_cancel _ hk0]
      exact ⟨rfl, rfl⟩
  unfold loA
  rw [hN.1, hN.2, if_pos hok]

theorem addA_comm (a b c d : Int) : addA a b c d = addA c d a b := by
  unfold addA
  rw [Bool.and_comm, Int.add_comm, Int.mul_comm b d]
theorem mulA_comm (a b c d : Int) : mulA a b c d = mulA c d a b := by
  unfold mulA
  rw [Bool.and_comm, Int.mul_comm a c, Int.mul_comm b d]
theorem addA_back {a b c d x y : Int} (h1 : okR a b = true) (h2 : okR c d = true) (h : addA a b c d = (x, y, 0)) : addA x y (-c) d = (a, b, 0) ∧ okR x y = true ∧ x * (b * d) = (a * d + c * b) * y := by
  obtain ⟨_, _, hb, _, _⟩ := okR_of h1
  obtain ⟨_, _, hd, _, _⟩ := okR_of h2
  have hbd : b * d ≠ 0 := Int.ne_of_gt (Int.mul_pos hb hd)
  unfold addA at h
  rw [h1, h2, Bool.and_self, if_pos rfl] at h
  obtain ⟨hx, hc⟩ := loA_ok hbd h
  obtain ⟨_, _, hy, _, _⟩ := okR_of hx
  refine ⟨?_, hx, hc⟩
  unfold addA
  rw [okR_neg, hx, h2, Bool.and_self, if_pos rfl]
  refine loA_eq (Int.ne_of_gt (Int.mul_pos hy hd)) h1 ?_
  rw [Int.add_mul, Int.neg_mul, Int.neg_mul]
  rw [Int.add_mul] at hc
  have e1 : a * (y * d) = a * d * y := by rw [Int.mul_comm y d, Int.mul_assoc]
  have e2 : x * d * b = x * (b * d) := by rw [Int.mul_assoc, Int.mul_comm d b]
  have e3 : c * y * b = c * b * y := by rw [Int.mul_assoc, Int.mul_comm y b, ← Int.mul_assoc]
  rw [e1, e2, e3]
  omega
theorem mulA_back {a b c d x y : Int} (h1 : okR a b = true) (h2 : okR c d = true) (hc0 : c ≠ 0) (h : mulA a b c d = (x, y, 0)) : divA x y c d = (a, b, 0) := by
  obtain ⟨_, _, hb, _, _⟩ := okR_of h1
  obtain ⟨_, _, hd, _, _⟩ := okR_of h2
  have hbd : b * d ≠ 0 := Int.ne_of_gt (Int.mul_pos hb hd)
  unfold mulA at h
  rw [h1, h2, Bool.and_self, if_pos rfl] at h
  obtain ⟨hx, hc⟩ := loA_ok hbd h
  obtain ⟨_, _, hy, _, _⟩ := okR_of hx
  unfold divA
  rw [hx, h2, Bool.and_self, if_pos ⟨rfl, hc0⟩]
  refine loA_eq (fun e => by rcases Int.mul_eq_zero.1 e with e | e <;> omega) h1 ?_
  have e1 : a * (y * c) = a * c * y := by rw [Int.mul_comm y c, Int.mul_assoc]
  have e2 : x * d * b = x * (b * d) := by rw [Int.mul_assoc, Int.mul_comm d b]
  rw [e1, e2, hc]

/-- floor and ceil of a ratio in lowest terms -/
theorem floor_facts {a b : Int} (h : okR a b = true) : a / b ≤ -(-a / b) ∧ -(-a / b) - a / b ≤ 1 ∧ (a / b = -(-a / b) ↔ b = 1) ∧ a / b * b ≤ a ∧ a ≤ -(-a / b) * b := by
  obtain ⟨_, _, hb, _, hg⟩ := okR_of h
  obtain ⟨f1, f2⟩ := div_floor a b hb
  obtain ⟨c1, c2⟩ := div_ceil a b hb
  have hm := Int.mul_tdiv_add_tmod a b
  have hlo : a / b * b ≤ a := Int.ediv_mul_le a (by omega)
  have hhi : -a / b * b ≤ -a := Int.ediv_mul_le (-a) (by omega)
  have hhi' : a ≤ -(-a / b) * b := by rw [Int.neg_mul]; omega
  refine ⟨?_, ?_, ?_, hlo, hhi'⟩
  · rcases Int.lt_trichotomy (a.tmod b) 0 with h1 | h1 | h1
    · rw [f1 h1, c2 (by omega)]; omega
    · rw [f2 (by omega), c2 (by omega)]; omega
    · rw [f2 (by omega), c1 h1]; omega
  · rcases Int.lt_trichotomy (a.tmod b) 0 with h1 | h1 | h1
    · rw [f1 h1, c2 (by omega)]; omega
    · rw [f2 (by omega), c2 (by omega)]; omega
    · rw [f2 (by omega), c1 h1]; omega
  · constructor
    · intro he
      have h0 : a.tmod b = 0 := by
        rcases Int.lt_trichotomy (a.tmod b) 0 with h1 | h1 | h1
        · rw [f1 h1, c2 (by omega)] at he; omega
        · exact h1
        · rw [f2 (by omega), c1 h1] at he; omega
      have hdv : b.natAbs ∣ a.natAbs := Int.natAbs_dvd_natAbs.2 (Int.dvd_of_tmod_eq_zero h0)
      rw [Nat.gcd_eq_right hdv] at hg
      omega
    · rintro rfl
      simp

theorem cmpV_cases (x y : Int) : (cmpV x y = -1 ∧ x < y) ∨ (cmpV x y = 0 ∧ x = y) ∨ (cmpV x y = 1 ∧ y < x) := by
  unfold cmpV
  split
  · exact .inl ⟨rfl, by assumption⟩
  split
  · exact .inr (.inr ⟨rfl, by assumption⟩)
  · exact .inr (.inl ⟨rfl, by omega⟩)
theorem cross_eq {a b c d : Int} (h1 : okR a b = true) (h2 : okR c d = true) (h : a * d = c * b) : a = c ∧ b = d := by
  obtain ⟨_, _, hd, _, _⟩ := okR_of h2
  have e1 := loA_eq (n := c) (d := d) (p := a) (q := b) (by omega) h1 h
  have e2 := loA_eq (n := c) (d := d) (p := c) (q := d) (by omega) h2 rfl
  rw [e1] at e2
  simp only [Prod.mk.injEq, and_true] at e2
  exact e2
/-- of three ratios what is not greater goes on -/
theorem cross_trans {a b c d e f : Int} (hb : 0 < b) (hd : 0 < d) (hf : 0 < f) (h1 : a * d ≤ c * b) (h2 : c * f ≤ e * d) : a * f ≤ e * b ∧ (a * d < c * b ∨ c * f < e * d → a * f < e * b) := by
  have e1 : a * d * f ≤ c * b * f := Int.mul_le_mul_of_nonneg_right h1 (by omega)
  have e2 : c * f * b ≤ e * d * b := Int.mul_le_mul_of_nonneg_right h2 (by omega)
  have r1 : a * d * f = a * f * d := by rw [Int.mul_assoc, Int.mul_comm d f, ← Int.mul_assoc]
  have r2 : c * b * f = c * f * b := by rw [Int.mul_assoc, Int.mul_comm b f, ← Int.mul_assoc]
  have r3 : e * d * b = e * b * d := by rw [Int.mul_assoc, Int.mul_comm d b, ← Int.mul_assoc]
  rw [r1, r2] at e1
  rw [r3] at e2
  refine ⟨Int.le_of_mul_le_mul_right (Int.le_trans e1 e2) hd, fun h => ?_⟩
  refine Int.lt_of_mul_lt_mul_right (a := d) ?_ (by omega)
  rcases h with h | h
  · have e3 : a * d * f < c * b * f := Int.mul_lt_mul_of_pos_right h hf
    rw [r1, r2] at e3
    omega
  · have e3 : c * f * b < e * d * b := Int.mul_lt_mul_of_pos_right h hb
    rw [r3] at e3
    omega

/-- what is scaled, of a sum -/
theorem scale_sum {a b c d x y k : Int} (hb : 0 < b) (hd : 0 < d) (hy : 0 < y) (h : x * (b * d) = (a * d + c * b) * y) (hk : 0 ≤ k) : a * k / b + c * k / d ≤ x * k / y ∧ x * k / y ≤ a * k / b + c * k / d + 1 := by
  have p1 := Int.ediv_mul_le (a * k) (b := b) (by omega)
  have p2 := Int.ediv_mul_le (c * k) (b := d) (by omega)
  have p3 := Int.lt_ediv_add_one_mul_self (a * k) hb
  have p4 := Int.lt_ediv_add_one_mul_self (c * k) hd
  have q3 := Int.lt_ediv_add_one_mul_self (x * k) hy
  have q1 := Int.ediv_mul_le (x * k) (b := y) (by omega)
  generalize a * k / b = A at *
  generalize c * k / d = C at *
  generalize x * k / y = X at *
  have hbd : 0 < b * d := Int.mul_pos hb hd
  have hbdy : 0 < b * d * y := Int.mul_pos hbd hy
  -- everything times b d y
  have key : x * k * (b * d) = (a * k * d + c * k * b) * y := by
    have : x * k * (b * d) = x * (b * d) * k := by rw [Int.mul_assoc, Int.mul_comm k, ← Int.mul_assoc]
    rw [this, h, Int.add_mul, Int.add_mul, Int.add_mul]
    congr 1
    · rw [Int.mul_assoc (a * d) y k, Int.mul_comm y k, ← Int.mul_assoc, Int.mul_assoc a d k, Int.mul_comm d k, ← Int.mul_assoc]
    · rw [Int.mul_assoc (c * b) y k, Int.mul_comm y k, ← Int.mul_assoc, Int.mul_assoc c b k, Int.mul_comm b k, ← Int.mul_assoc]
  have m1 : A * b * d ≤ a * k * d := Int.mul_le_mul_of_nonneg_right p1 (by omega)
  have m2 : C * d * b ≤ c * k * b := Int.mul_le_mul_of_nonneg_right p2 (by omega)
  have m3 : a * k * d < (A + 1) * b * d := Int.mul_lt_mul_of_pos_right p3 hd
  have m4 : c * k * b < (C + 1) * d * b := Int.mul_lt_mul_of_pos_right p4 hb
  have s1 : A * b * d = A * (b * d) := Int.mul_assoc _ _ _
  have s2 : C * d * b = C * (b * d) := by rw [Int.mul_assoc, Int.mul_comm d b]
  have s3 : (A + 1) * b * d = A * (b * d) + b * d := by rw [Int.mul_assoc, Int.add_mul, Int.one_mul]
  have s4 : (C + 1) * d * b = C * (b * d) + b * d := by rw [Int.mul_assoc, Int.mul_comm d b, Int.add_mul, Int.one_mul]
  have lo : (A + C) * (b * d) ≤ a * k * d + c * k * b := by rw [Int.add_mul]; omega
  have hi : a * k * d + c * k * b < (A + C + 2) * (b * d) := by rw [Int.add_mul, Int.add_mul]; omega
  have lo' : (A + C) * (b * d) * y ≤ x * k * (b * d) := by rw [key]; exact Int.mul_le_mul_of_nonneg_right lo (by omega)
  have hi' : x * k * (b * d) < (A + C + 2) * (b * d) * y := by rw [key]; exact Int.mul_lt_mul_of_pos_right hi hy
  have lo2 : (A + C) * y ≤ x * k := by
    refine Int.le_of_mul_le_mul_right (a := b * d) ?_ hbd
    rw [Int.mul_assoc, Int.mul_comm y, ← Int.mul_assoc]
    exact lo'
  have hi2 : x * k < (A + C + 2) * y := by
    refine Int.lt_of_mul_lt_mul_right (a := b * d) ?_ (by omega)
    rw [show (A + C + 2) * y * (b * d) = (A + C + 2) * (b * d) * y by rw [Int.mul_assoc, Int.mul_comm y, ← Int.mul_assoc]]
    exact hi'
  constructor
  · have : (A + C) * y < (X + 1) * y := by omega
    have := Int.lt_of_mul_lt_mul_right this (by omega)
    omega
  · have : X * y < (A + C + 2) * y := by omega
    have := Int.lt_of_mul_lt_mul_right this (by omega)
    omega
theorem scale_mono {a b c d k : Int} (hb : 0 < b) (hd : 0 < d) (h : a * d ≤ c * b) (hk : 0 ≤ k) : a * k / b ≤ c * k / d := by
  have p1 := Int.ediv_mul_le (a * k) (b := b) (by omega)
  have p4 := Int.lt_ediv_add_one_mul_self (c * k) hd
  generalize a * k / b = A at *
  generalize c * k / d = C at *
  have m1 : A * b * d ≤ a * k * d := Int.mul_le_mul_of_nonneg_right p1 (by omega)
  have m4 : c * k * b < (C + 1) * d * b := Int.mul_lt_mul_of_pos_right p4 hb
  have m5 : a * d * k ≤ c * b * k := Int.mul_le_mul_of_nonneg_right h hk
  have r1 : a * k * d = a * d * k := by rw [Int.mul_assoc, Int.mul_comm k d, ← Int.mul_assoc]
  have r2 : c * k * b = c * b * k := by rw [Int.mul_assoc, Int.mul_comm k b, ← Int.mul_assoc]
  have s1 : A * b * d = A * (b * d) := Int.mul_assoc _ _ _
  have s4 : (C + 1) * d * b = (C + 1) * (b * d) := by rw [Int.mul_assoc, Int.mul_comm d b]
  have hbd : 0 < b * d := Int.mul_pos hb hd
  have : A * (b * d) < (C + 1) * (b * d) := by omega
  have := Int.lt_of_mul_lt_mul_right this (by omega)
  omega

end Go.Proofs.Ytmaeebgphblilab

/- Whole numbers below 2^53 as floating-point numbers: sums, differences, products, roots and the way back are exact; nothing of the program. -/
import Derived.Test.YtjdphcjapdklpaaLib
import Derived.Laws.ComplexArith
namespace Go.Proofs.Ytjdphcjapdklpaa
open Ieee

/-- A datum stands for an integer. -/
def Dt (d : Datum) (z : Int) : Prop := ∃ s : Bool, ∃ k : Nat, d = .number s (z.natAbs * 2 ^ k) (-(k : Int)) ∧ (z ≠ 0 → s = decide (z < 0))

/-- A word stands for an integer. -/
def Fl (x : Nat) (z : Int) : Prop := Dt (double.read x) z

theorem signed_dt (s : Bool) (z : Int) (k u : Nat) (h : z ≠ 0 → s = decide (z < 0)) : signed s (z.natAbs * 2 ^ k) u = z * 2 ^ (k + u) := by
  unfold signed
  rw [Nat.shiftLeft_eq, Nat.mul_assoc, ← Nat.pow_add]
  by_cases hz : z = 0
  · subst hz; simp
  · rw [h hz]
    by_cases hn : z < 0
    · simp only [hn, decide_true, if_true]
      rw [Int.natCast_mul, Int.natCast_pow, Int.ofNat_natAbs_of_nonpos (by omega)]
      simp only [Int.neg_mul, Int.neg_neg]; rfl
    · simp only [hn, decide_false, Bool.false_eq_true, if_false]
      rw [Int.natCast_mul, Int.natCast_pow, Int.natAbs_of_nonneg (by omega)]; rfl

theorem dt_sum {d e : Datum} {a b : Int} (h : Dt d a) (g : Dt e b) : ∃ r, d.sum e = some r ∧ Dt r (a + b) := by
  obtain ⟨s, k, rfl, hs⟩ := h
  obtain ⟨t, j, rfl, ht⟩ := g
  have hb : min (-(k : Int)) (-(j : Int)) = -((max k j : Nat) : Int) := by omega
  have h1 : (-(k : Int) - -((max k j : Nat) : Int)).toNat = max k j - k := by omega
  have h2 : (-(j : Int) - -((max k j : Nat) : Int)).toNat = max k j - j := by omega
  have htot : signed s (a.natAbs * 2 ^ k) (max k j - k) + signed t (b.natAbs * 2 ^ j) (max k j - j) = (a + b) * 2 ^ (max k j) := by
    rw [signed_dt s a k _ hs, signed_dt t b j _ ht, show k + (max k j - k) = max k j by omega, show j + (max k j - j) = max k j by omega, Int.add_mul]
  refine ⟨_, rfl, ?_⟩
  simp only [hb, h1, h2, htot]
  have hp : (0 : Int) < 2 ^ (max k j) := Int.pow_pos (by decide)
  refine ⟨if (a + b) * 2 ^ max k j = 0 then s && t else decide ((a + b) * 2 ^ max k j < 0), max k j, ?_, ?_⟩
  · rw [Int.natAbs_mul, show ((2 : Int) ^ (max k j)).natAbs = 2 ^ (max k j) by rw [Int.natAbs_pow]; rfl]
  · intro hz
    have : (a + b) * 2 ^ (max k j) ≠ 0 := Int.mul_ne_zero hz (by omega)
    rw [if_neg this]
    by_cases hn : a + b < 0
    · simp only [hn, decide_true, decide_eq_true_eq]; exact Int.mul_neg_of_neg_of_pos hn hp
    · simp only [hn, decide_false, decide_eq_false_iff_not]
      have := Int.mul_nonneg (show 0 ≤ a + b by omega) (Int.le_of_lt hp); omega

theorem dt_opp {d : Datum} {a : Int} (h : Dt d a) : Dt d.opposite (-a) := by
  obtain ⟨s, k, rfl, hs⟩ := h
  refine ⟨!s, k, by simp [Datum.opposite], fun hz => ?_⟩
  rw [hs (by omega)]
  by_cases hn : a < 0
  · simp [hn]; omega
  · simp [hn]; omega

theorem dt_prod {d e : Datum} {a b : Int} (h : Dt d a) (g : Dt e b) : ∃ r, d.product e = some r ∧ Dt r (a * b) := by
  obtain ⟨s, k, rfl, hs⟩ := h
  obtain ⟨t, j, rfl, ht⟩ := g
  refine ⟨_, rfl, s ^^ t, k + j, ?_, fun hz => ?_⟩
  · have e1 : a.natAbs * 2 ^ k * (b.natAbs * 2 ^ j) = (a * b).natAbs * 2 ^ (k + j) := by
      rw [Int.natAbs_mul, Nat.pow_add]; ac_rfl
    rw [e1, show -(k : Int) + -(j : Int) = -((k + j : Nat) : Int) by omega]
  · have ha : a ≠ 0 := fun h => hz (by simp [h])
    have hb : b ≠ 0 := fun h => hz (by simp [h])
    rw [hs ha, ht hb]
    by_cases h1 : a < 0 <;> by_cases h2 : b < 0
    · have := Int.mul_pos_of_neg_of_neg h1 h2
      simp [h1, h2, show ¬ (a * b < 0) by omega]
    · have := Int.mul_neg_of_neg_of_pos h1 (show 0 < b by omega)
      simp [h1, h2, this]
    · have := Int.mul_neg_of_pos_of_neg (show 0 < a by omega) h2
      simp [h1, h2, this]
    · have := Int.mul_pos (show 0 < a by omega) (show 0 < b by omega)
      simp [h1, h2, show ¬ (a * b < 0) by omega]

theorem log2_mul_pow (z k : Nat) (h : z ≠ 0) : (z * 2 ^ k).log2 = z.log2 + k := by
  induction k with
  | zero => simp
  | succ k ih => rw [Nat.pow_succ, ← Nat.mul_assoc, Nat.mul_comm _ 2, Nat.log2_two_mul (Nat.mul_ne_zero h (by have := Nat.two_pow_pos k; omega)), ih]; omega

theorem pow_le_of_log2 (z : Nat) (h : z ≠ 0) : 2 ^ z.log2 ≤ z := (Nat.le_log2 h).1 (Nat.le_refl _)
theorem lt_pow_of_log2 (z : Nat) : z < 2 ^ (z.log2 + 1) := Nat.lt_log2_self

/-- What is cut off is nothing. -/
theorem cut_exact (way : Toward) (neg : Bool) (n q : Nat) : way.cut neg (n * 2 ^ q) q = n := by
  by_cases hn : n = 0
  · subst hn; cases way <;> simp [Toward.cut]
  · unfold Toward.cut
    have hl : min q ((n * 2 ^ q).log2 + 2) = q := by rw [log2_mul_pow n q hn]; omega
    have hp := Nat.two_pow_pos q
    simp only [hl, Nat.one_shiftLeft, Nat.mul_div_cancel n hp, Nat.mul_mod_left]
    cases way <;> simp <;> omega

theorem read_word (neg : Bool) (L kept : Nat) (hL : L ≤ 1500) (h1 : 4503599627370496 ≤ kept) (h2 : kept < 9007199254740992) :
    double.read (double.word neg (min (L * double.binade + kept) double.infRung)) = .number neg kept (-1074 + (L : Int)) := by
  have e1 : double.binade = 4503599627370496 := by decide
  have e2 : double.infRung = 9218868437227405312 := by decide
  have e3 : double.signWeight = 9223372036854775808 := by decide
  have e4 : double.leastPlace = -1074 := by decide
  have hm : min (L * 4503599627370496 + kept) 9218868437227405312 = L * 4503599627370496 + kept := by omega
  unfold Format.read Format.word
  simp only [e1, e2, e3, e4, hm]
  have hw : (if neg then 9223372036854775808 + (L * 4503599627370496 + kept) else L * 4503599627370496 + kept) % 9223372036854775808 = L * 4503599627370496 + kept := by
    cases neg <;> simp <;> omega
  have hn : ((if neg then 9223372036854775808 + (L * 4503599627370496 + kept) else L * 4503599627370496 + kept) / 9223372036854775808 % 2 == 1) = neg := by
    cases neg
    · simp; omega
    · simp; omega
  rw [hw, hn, if_neg (by omega), if_pos (by omega)]
  congr 1
  · omega
  · omega

/-- A whole number below 2^53 is written as it is. -/
theorem fl_write {d : Datum} {z : Int} (h : Dt d z) (hz : z.natAbs < 9007199254740992) : Fl (double.write d) z := by
  obtain ⟨s, k, rfl, hs⟩ := h
  by_cases h0 : z = 0
  · subst h0
    obtain ⟨q, hq⟩ : ∃ q : Nat, q = 1074 := ⟨_, rfl⟩
    refine ⟨s, q, ?_, fun h => absurd rfl h⟩
    rw [Int.natAbs_zero, Nat.zero_mul, Nat.zero_mul, hq]
    show double.read (double.nearest s 0 _) = _
    unfold Format.nearest
    rw [if_pos rfl]
    cases s <;> decide
  · have hz0 : z.natAbs ≠ 0 := by omega
    have hlog : z.natAbs.log2 ≤ 52 := by
      have := (Nat.log2_lt hz0 (k := 53)).2 (by omega)
      omega
    obtain ⟨q, hq⟩ : ∃ q, z.natAbs.log2 + q = 52 := ⟨52 - z.natAbs.log2, by omega⟩
    have hmag : z.natAbs * 2 ^ k ≠ 0 := Nat.mul_ne_zero hz0 (by have := Nat.two_pow_pos k; omega)
    have hlast : max (-(k : Int) + ((z.natAbs * 2 ^ k).log2 : Nat) - (double.fractionBits : Nat)) double.leastPlace = -(q : Int) := by
      rw [log2_mul_pow _ _ hz0, show double.leastPlace = -1074 by decide, show (double.fractionBits : Nat) = 52 by rfl]; omega
    have hkept : Toward.even.cut s ((z.natAbs * 2 ^ k) <<< (-(k : Int) - -(q : Int)).toNat) (-(q : Int) - -(k : Int)).toNat = z.natAbs * 2 ^ q := by
      rw [Nat.shiftLeft_eq]
      by_cases hkq : k ≤ q
      · rw [show (-(q : Int) - -(k : Int)).toNat = 0 by omega, show (-(k : Int) - -(q : Int)).toNat = q - k by omega, Nat.mul_assoc, ← Nat.pow_add, show k + (q - k) = q by omega]
        have := cut_exact .even s (z.natAbs * 2 ^ q) 0
        simpa using this
      · rw [show (-(k : Int) - -(q : Int)).toNat = 0 by omega, show (-(q : Int) - -(k : Int)).toNat = k - q by omega, Nat.pow_zero, Nat.mul_one]
        have := cut_exact .even s (z.natAbs * 2 ^ q) (k - q)
        rw [Nat.mul_assoc, ← Nat.pow_add, show q + (k - q) = k by omega] at this
        exact this
    have hlo : 4503599627370496 ≤ z.natAbs * 2 ^ q := by
      have h1 := Nat.mul_le_mul_right (2 ^ q) (pow_le_of_log2 _ hz0)
      rw [← Nat.pow_add, hq] at h1
      exact h1
    have hhi : z.natAbs * 2 ^ q < 9007199254740992 := by
      have h1 := Nat.mul_lt_mul_of_pos_right (lt_pow_of_log2 z.natAbs) (Nat.two_pow_pos q)
      rw [← Nat.pow_add, show z.natAbs.log2 + 1 + q = 53 by omega] at h1
      exact h1
    have hr := read_word s (1074 - q) (z.natAbs * 2 ^ q) (by omega) hlo hhi
    refine ⟨s, q, ?_, hs⟩
    show double.read (double.nearest s (z.natAbs * 2 ^ k) (-(k : Int))) = _
    unfold Format.nearest
    rw [if_neg hmag]
    simp only [hlast, hkept]
    rw [show (-(q : Int) - double.leastPlace).toNat = 1074 - q by rw [show double.leastPlace = -1074 by decide]; omega, hr]
    congr 1
    omega

theorem dt_toInt {d : Datum} {z : Int} (h : Dt d z) : d.toInt .zero = some z := by
  obtain ⟨s, k, rfl, hs⟩ := h
  have e1 : (-(k : Int)).toNat = 0 := by omega
  have e2 : (- -(k : Int)).toNat = k := by omega
  simp only [Datum.toInt, Datum.integral, e1, e2, Nat.shiftLeft_zero, cut_exact]
  have := signed_dt s z 0 0 hs
  simp at this
  rw [this]

theorem fl_of (z : Int) (h : z.natAbs < 9007199254740992) : Fl (floatOfInt .f64 z) z := by
  refine fl_write (d := .number (decide (z < 0)) z.natAbs 0) ⟨decide (z < 0), 0, by simp, fun _ => rfl⟩ h

theorem fl_int {x : Nat} {z : Int} (h : Fl x z) (hz : z.natAbs < 9007199254740992) : floatToIntVal .f64 x .i64 = some z := by
  have h1 := dt_toInt h
  unfold floatToIntVal
  rw [show FloatKind.f64.decode x = double.read x from rfl, h1]
  simp only
  rw [if_pos]
  constructor
  · show (-9223372036854775808 : Int) ≤ z; omega
  · show z ≤ (9223372036854775807 : Int); omega

theorem fl_add {x y : Nat} {a b : Int} (h : Fl x a) (g : Fl y b) (hz : (a + b).natAbs < 9007199254740992) : ∃ r, floatBits .add .f64 x y = some r ∧ Fl r (a + b) := by
  obtain ⟨d, e1, hd⟩ := dt_sum h g
  exact ⟨double.write d, by show ((double.read x).sum (double.read y)).map double.write = _; rw [e1]; rfl, fl_write hd hz⟩

theorem fl_sub {x y : Nat} {a b : Int} (h : Fl x a) (g : Fl y b) (hz : (a - b).natAbs < 9007199254740992) : ∃ r, floatBits .sub .f64 x y = some r ∧ Fl r (a - b) := by
  obtain ⟨d, e1, hd⟩ := dt_sum h (dt_opp g)
  exact ⟨double.write d, by show ((double.read x).sum (double.read y).opposite).map double.write = _; rw [e1]; rfl, fl_write hd hz⟩

theorem fl_mul {x y : Nat} {a b : Int} (h : Fl x a) (g : Fl y b) (hz : (a * b).natAbs < 9007199254740992) : ∃ r, floatBits .mul .f64 x y = some r ∧ Fl r (a * b) := by
  obtain ⟨d, e1, hd⟩ := dt_prod h g
  exact ⟨double.write d, by show ((double.read x).product (double.read y)).map double.write = _; rw [e1]; rfl, fl_write hd hz⟩

theorem fl_csum {x y u v : Nat} {a b c d : Int} (h1 : Fl x a) (h2 : Fl y b) (h3 : Fl u c) (h4 : Fl v d) (ha : a.natAbs < 1125899906842624) (hb : b.natAbs < 1125899906842624) (hc : c.natAbs < 1125899906842624) (hd : d.natAbs < 1125899906842624) :
    ∃ re im, cSumBits .add .f64 x y u v = some (re, im) ∧ Fl re (a + c) ∧ Fl im (b + d) := by
  obtain ⟨r, e1, k1⟩ := fl_add h1 h3 (by omega)
  obtain ⟨t, e2, k2⟩ := fl_add h2 h4 (by omega)
  exact ⟨r, t, by unfold cSumBits; rw [e1, e2]; rfl, k1, k2⟩

theorem fl_csub {x y u v : Nat} {a b c d : Int} (h1 : Fl x a) (h2 : Fl y b) (h3 : Fl u c) (h4 : Fl v d) (ha : a.natAbs < 1125899906842624) (hb : b.natAbs < 1125899906842624) (hc : c.natAbs < 1125899906842624) (hd : d.natAbs < 1125899906842624) :
    ∃ re im, cSumBits .sub .f64 x y u v = some (re, im) ∧ Fl re (a - c) ∧ Fl im (b - d) := by
  obtain ⟨r, e1, k1⟩ := fl_sub h1 h3 (by omega)
  obtain ⟨t, e2, k2⟩ := fl_sub h2 h4 (by omega)
  exact ⟨r, t, by unfold cSumBits; rw [e1, e2]; rfl, k1, k2⟩

theorem abs_mul_le {a b : Int} {n m : Nat} (h : a.natAbs ≤ n) (g : b.natAbs ≤ m) : (a * b).natAbs ≤ n * m := by
  rw [Int.natAbs_mul]; exact Nat.mul_le_mul h g

theorem fl_cmul {x y u v : Nat} {a b c d : Int} (h1 : Fl x a) (h2 : Fl y b) (h3 : Fl u c) (h4 : Fl v d) (n m : Nat) (hnm : n * m ≤ 1125899906842624) (ha : a.natAbs ≤ n) (hb : b.natAbs ≤ n) (hc : c.natAbs ≤ m) (hd : d.natAbs ≤ m) :
    ∃ re im, cMulBits x y u v = some (re, im) ∧ Fl re (a * c - b * d) ∧ Fl im (a * d + b * c) := by
  have b1 := abs_mul_le ha hc
  have b2 := abs_mul_le hb hd
  have b3 := abs_mul_le ha hd
  have b4 := abs_mul_le hb hc
  obtain ⟨r1, e1, k1⟩ := fl_mul h1 h3 (by omega)
  obtain ⟨r2, e2, k2⟩ := fl_mul h2 h4 (by omega)
  obtain ⟨r3, e3, k3⟩ := fl_sub k1 k2 (by omega)
  obtain ⟨r4, e4, k4⟩ := fl_mul h1 h4 (by omega)
  obtain ⟨r5, e5, k5⟩ := fl_mul h2 h3 (by omega)
  obtain ⟨r6, e6, k6⟩ := fl_add k4 k5 (by omega)
  exact ⟨r3, r6, by unfold cMulBits; rw [e1, e2]; simp only [Option.bind_some]; rw [e3, e4]; simp only [Option.bind_some]; rw [e5]; simp only [Option.bind_some]; rw [e6]; rfl, k3, k6⟩

theorem fl_neg {x : Nat} {a : Int} (h : Fl x a) : Fl (Op.negFloat .f64 x) (-a) := by
  have hr : double.read (Op.negFloat .f64 x) = (double.read x).opposite := by
    have e3 : double.signWeight = 2 ^ 63 := by decide
    have hx : Op.negFloat .f64 x = x ^^^ 2 ^ 63 := rfl
    have h1 : (x ^^^ 2 ^ 63) % 2 ^ 63 = x % 2 ^ 63 := by
      rw [Nat.xor_mod_two_pow]; simp
    have h2 : ((x ^^^ 2 ^ 63) / 2 ^ 63 % 2 == 1) = !(x / 2 ^ 63 % 2 == 1) := by
      rw [Nat.xor_div_two_pow, Nat.div_self (Nat.two_pow_pos 63)]
      have h3 := Nat.xor_mod_two_pow (a := x / 2 ^ 63) (b := 1) (n := 1)
      simp only [Nat.pow_one] at h3
      rw [h3]
      rcases Nat.mod_two_eq_zero_or_one (x / 2 ^ 63) with h | h <;> rw [h] <;> rfl
    unfold Format.read
    rw [hx, e3, h1, h2]
    simp only
    split
    · rfl
    · split
      · rfl
      · split <;> rfl
  unfold Fl
  rw [hr]
  exact dt_opp h


theorem rootFrom_spec (n : Nat) : ∀ (todo root : Nat), root * root ≤ n → n < (root + 2 ^ todo) * (root + 2 ^ todo) → Datum.rootFrom n todo root * Datum.rootFrom n todo root ≤ n ∧ n < (Datum.rootFrom n todo root + 1) * (Datum.rootFrom n todo root + 1)
  | 0, root, h1, h2 => by simpa [Datum.rootFrom] using And.intro h1 h2
  | todo + 1, root, h1, h2 => by
    unfold Datum.rootFrom
    simp only [Nat.one_shiftLeft]
    by_cases hc : (root + 2 ^ todo) * (root + 2 ^ todo) ≤ n
    · rw [if_pos hc]
      refine rootFrom_spec n todo _ hc ?_
      rw [Nat.pow_succ] at h2
      rw [show root + 2 ^ todo + 2 ^ todo = root + 2 ^ todo * 2 by omega]
      exact h2
    · rw [if_neg hc]
      exact rootFrom_spec n todo _ h1 (by omega)

theorem whole_spec (n : Nat) : Datum.rootFrom n (n.log2 / 2 + 1) 0 * Datum.rootFrom n (n.log2 / 2 + 1) 0 ≤ n ∧ n < (Datum.rootFrom n (n.log2 / 2 + 1) 0 + 1) * (Datum.rootFrom n (n.log2 / 2 + 1) 0 + 1) := by
  refine rootFrom_spec n _ 0 (by simp) ?_
  rw [Nat.zero_add, ← Nat.pow_add]
  exact Nat.lt_of_lt_of_le (lt_pow_of_log2 n) (Nat.pow_le_pow_right (by decide) (by omega))

theorem log2_between {r e M : Nat} (hr : r ≠ 0) (h1 : r * 2 ^ e ≤ M) (h2 : M < (r + 1) * 2 ^ e) : M.log2 = r.log2 + e := by
  have hp := Nat.two_pow_pos e
  have hM : M ≠ 0 := by
    have : 0 < r * 2 ^ e := Nat.mul_pos (by omega) hp
    omega
  have a1 : r.log2 + e ≤ M.log2 := by
    refine (Nat.le_log2 hM).2 ?_
    rw [Nat.pow_add]
    exact Nat.le_trans (Nat.mul_le_mul_right _ (pow_le_of_log2 r hr)) h1
  have a2 : M.log2 < r.log2 + 1 + e := by
    refine (Nat.log2_lt hM).2 ?_
    rw [Nat.pow_add]
    exact Nat.lt_of_lt_of_le h2 (Nat.mul_le_mul_right _ (lt_pow_of_log2 r))
  omega

/-- The mathematics: a root that was rounded up to a half stays below the next whole number. -/
theorem root_gap {n r whole E Q : Nat} (hn : n < (r + 1) * (r + 1)) (hw : whole * whole ≤ n * ((E * Q) * (E * Q))) (hE : 0 < E) (hQ : 1073741824 ≤ Q) (hr : r ≤ 4194304) : whole + E < (r + 1) * (E * Q) := by
  refine Nat.lt_of_not_le fun hle => ?_
  have h1 : ((r + 1) * (E * Q)) * ((r + 1) * (E * Q)) ≤ (whole + E) * (whole + E) := Nat.mul_le_mul hle hle
  have h2 : n * ((E * Q) * (E * Q)) + (E * Q) * (E * Q) ≤ ((r + 1) * (r + 1)) * ((E * Q) * (E * Q)) := by
    have := Nat.mul_le_mul_right ((E * Q) * (E * Q)) (show n + 1 ≤ (r + 1) * (r + 1) from hn)
    rwa [Nat.add_mul, Nat.one_mul] at this
  have h3 : ((r + 1) * (r + 1)) * ((E * Q) * (E * Q)) = ((r + 1) * (E * Q)) * ((r + 1) * (E * Q)) := by ac_rfl
  have h4 : (whole + E) * (whole + E) = whole * whole + 2 * (whole * E) + E * E := by
    rw [Nat.add_mul, Nat.mul_add, Nat.mul_add, Nat.mul_comm E whole]; omega
  -- the root is at most the next one
  have h5 : whole ≤ (r + 1) * (E * Q) := by
    refine Nat.le_of_not_lt fun hlt => ?_
    have := Nat.mul_lt_mul'' hlt hlt
    have hpos : 0 < (E * Q) * (E * Q) := Nat.mul_pos (Nat.mul_pos hE (by omega)) (Nat.mul_pos hE (by omega))
    omega
  have h6 : whole * E ≤ (r + 1) * (E * Q) * E := Nat.mul_le_mul_right E h5
  have h7 : (E * Q) * (E * Q) ≤ 2 * ((r + 1) * (E * Q) * E) + E * E := by omega
  have h8 : (E * Q) * (E * Q) = (E * E) * (Q * Q) := by ac_rfl
  have h9 : 2 * ((r + 1) * (E * Q) * E) + E * E = (E * E) * (2 * (r + 1) * Q + 1) := by
    rw [Nat.mul_add, Nat.mul_one]; congr 1; ac_rfl
  rw [h8, h9] at h7
  have h10 : Q * Q ≤ 2 * (r + 1) * Q + 1 := Nat.le_of_mul_le_mul_left h7 (Nat.mul_pos hE hE)
  have h11 : 1073741824 * Q ≤ Q * Q := Nat.mul_le_mul_right Q hQ
  have h12 : 2 * (r + 1) * Q ≤ 8388610 * Q := Nat.mul_le_mul_right Q (by omega)
  omega

/-- The square root of a whole number, cut down. -/
theorem fl_sqrt {x n r : Nat} (h : Fl x (n : Int)) (hn : n ≤ 1099511627776) (h1 : r * r ≤ n) (h2 : n < (r + 1) * (r + 1)) :
    ∃ y, double.sqrt x = some y ∧ floatToIntVal .f64 y .i64 = some (r : Int) := by
  obtain ⟨s, k, hx, hs⟩ := h
  by_cases h0 : n = 0
  · subst h0
    have hr0 : r = 0 := by
      rcases Nat.eq_zero_or_pos r with h | h
      · exact h
      · have := Nat.mul_pos h h; omega
    subst hr0
    refine ⟨double.write (.number s (((0 : Nat) : Int).natAbs * 2 ^ k) (-(k : Int))), ?_, ?_⟩
    · unfold Format.sqrt
      rw [hx]
      simp [Datum.root]
    · exact fl_int (fl_write ⟨s, k, rfl, hs⟩ (by decide)) (by decide)
  · have hsf : s = false := by rw [hs (by omega)]; simp
    subst hsf
    have hr1 : r ≠ 0 := by rintro rfl; simp at h2; omega
    have hrb : r ≤ 1048576 := by
      refine Nat.le_of_not_lt fun hlt => ?_
      have := Nat.mul_le_mul (show 1048577 ≤ r from hlt) (show 1048577 ≤ r from hlt)
      omega
    have hab : ((n : Int)).natAbs = n := by omega
    rw [hab] at hx
    have hlr : r.log2 ≤ 20 := by
      have := (Nat.log2_lt hr1 (k := 21)).2 (by omega)
      omega
    have hln : n.log2 ≤ 2 * r.log2 + 1 := by
      have : n.log2 < 2 * r.log2 + 2 := by
        refine (Nat.log2_lt h0).2 (Nat.lt_of_lt_of_le h2 ?_)
        have := lt_pow_of_log2 r
        rw [show 2 * r.log2 + 2 = (r.log2 + 1) + (r.log2 + 1) by omega, Nat.pow_add]
        exact Nat.mul_le_mul this this
      omega
    obtain ⟨q, hq⟩ : ∃ q, r.log2 + q = 52 := ⟨52 - r.log2, by omega⟩
    have hlm : (n * 2 ^ k).log2 = n.log2 + k := log2_mul_pow n k h0
    obtain ⟨m0, hm0⟩ : ∃ m0, m0 = 108 - (n * 2 ^ k).log2 := ⟨_, rfl⟩
    obtain ⟨m1, hm1⟩ : ∃ m1, m1 = m0 + ((-(k : Int) - m0) % 2).toNat := ⟨_, rfl⟩
    obtain ⟨t, ht⟩ : ∃ t, k + m1 = 2 * t := ⟨(k + m1) / 2, by omega⟩
    have htq : q + 2 ≤ t := by omega
    obtain ⟨N, hN⟩ : ∃ N, N = n * 2 ^ k * 2 ^ m1 := ⟨_, rfl⟩
    have hN' : N = n * (2 ^ t * 2 ^ t) := by
      rw [hN, Nat.mul_assoc, ← Nat.pow_add, ht, ← Nat.pow_add]; congr 2; omega
    obtain ⟨hw1, hw2⟩ := whole_spec N
    obtain ⟨whole, hwh⟩ : ∃ v, v = Datum.rootFrom N (N.log2 / 2 + 1) 0 := ⟨_, rfl⟩
    rw [← hwh] at hw1 hw2
    obtain ⟨b, hb, hb1⟩ : ∃ b, b = (whole * whole != N).toNat ∧ b ≤ 1 := ⟨_, rfl, by cases (whole * whole != N) <;> decide⟩
    -- what the root gives
    have hroot : (double.read x).root (double.fractionBits + 2) = some (.number false (2 * whole + b) (-((t + 1 : Nat) : Int))) := by
      rw [hx]
      have hmne : n * 2 ^ k ≠ 0 := Nat.mul_ne_zero h0 (by have := Nat.two_pow_pos k; omega)
      unfold Datum.root
      simp only [hmne, if_false, Bool.false_eq_true, show 2 * (double.fractionBits + 2) = 108 from rfl, ← hm0, Nat.shiftLeft_eq, ← hm1, ← hN, ← hwh, ← hb]
      rw [show (-(k : Int) - (m1 : Int)) / 2 - 1 = -((t + 1 : Nat) : Int) by omega]
    -- the root is between
    have hlow : r * 2 ^ t ≤ whole := by
      refine Nat.le_of_not_lt fun hlt => ?_
      have g1 : (whole + 1) * (whole + 1) ≤ (r * 2 ^ t) * (r * 2 ^ t) := Nat.mul_le_mul hlt hlt
      have g2 : (r * 2 ^ t) * (r * 2 ^ t) = (r * r) * (2 ^ t * 2 ^ t) := by ac_rfl
      have g3 := Nat.mul_le_mul_right (2 ^ t * 2 ^ t) h1
      omega
    obtain ⟨D, hD⟩ : ∃ D, t = D + q := ⟨t - q, by omega⟩
    have hgap : whole + 2 ^ D < (r + 1) * (2 ^ D * 2 ^ q) := by
      refine root_gap h2 ?_ (Nat.two_pow_pos D) ?_ (by omega)
      · rw [← Nat.pow_add, ← hD, ← hN']; exact hw1
      · exact Nat.le_trans (by decide) (Nat.pow_le_pow_right (show 0 < 2 by decide) (show 30 ≤ q by omega))
    have hpt : 2 ^ t = 2 ^ D * 2 ^ q := by rw [hD, Nat.pow_add]
    have hpt1 : 2 ^ (t + 1) = 2 * (2 ^ D * 2 ^ q) := by rw [Nat.pow_succ, hpt]; omega
    have hpD1 : 2 ^ (D + 1) = 2 * 2 ^ D := by rw [Nat.pow_succ]; omega
    have hpD := Nat.two_pow_pos D
    have hpq := Nat.two_pow_pos q
    rw [hpt] at hlow
    have hM1 : r * 2 ^ (t + 1) ≤ 2 * whole + b := by
      rw [hpt1, show r * (2 * (2 ^ D * 2 ^ q)) = 2 * (r * (2 ^ D * 2 ^ q)) by ac_rfl]; omega
    have hM2 : 2 * whole + b + 2 ^ (D + 1) ≤ (r + 1) * 2 ^ (t + 1) := by
      rw [hpt1, hpD1, show (r + 1) * (2 * (2 ^ D * 2 ^ q)) = 2 * ((r + 1) * (2 ^ D * 2 ^ q)) by ac_rfl]; omega
    have hlogM : (2 * whole + b).log2 = r.log2 + (t + 1) := log2_between hr1 hM1 (by have := Nat.two_pow_pos (D + 1); omega)
    have hMne : 2 * whole + b ≠ 0 := by
      intro h
      have := Nat.mul_pos (Nat.pos_of_ne_zero hr1) (Nat.two_pow_pos (t + 1))
      omega
    -- what is kept
    obtain ⟨kept, hk, hk1, hk2⟩ : ∃ kept, Toward.even.cut false (2 * whole + b) (D + 1) = kept ∧ r * 2 ^ q ≤ kept ∧ kept < (r + 1) * 2 ^ q := by
      refine ⟨_, rfl, ?_, ?_⟩
      all_goals
        unfold Toward.cut
        simp only [show min (D + 1) ((2 * whole + b).log2 + 2) = D + 1 by omega, Nat.one_shiftLeft]
      · refine Nat.le_trans ?_ (Nat.le_add_right _ _)
        rw [Nat.le_div_iff_mul_le (Nat.two_pow_pos _), Nat.mul_assoc, ← Nat.pow_add, show q + (D + 1) = t + 1 by omega]
        exact hM1
      · have hlow2 : (2 * whole + b) / 2 ^ (D + 1) + 1 ≤ (r + 1) * 2 ^ q - 1 + 0 ∨ (2 * whole + b) / 2 ^ (D + 1) + 1 ≤ (r + 1) * 2 ^ q := by
          right
          have : (2 * whole + b) / 2 ^ (D + 1) < (r + 1) * 2 ^ q := by
            rw [Nat.div_lt_iff_lt_mul (Nat.two_pow_pos _), Nat.mul_assoc, ← Nat.pow_add, show q + (D + 1) = t + 1 by omega]
            have := Nat.two_pow_pos (D + 1); omega
          omega
        have hlt : (2 * whole + b) / 2 ^ (D + 1) + 1 < (r + 1) * 2 ^ q := by
          have hdiv : (2 * whole + b + 2 ^ (D + 1)) / 2 ^ (D + 1) = (2 * whole + b) / 2 ^ (D + 1) + 1 := Nat.add_div_right _ (Nat.two_pow_pos _)
          rw [← hdiv, Nat.div_lt_iff_lt_mul (Nat.two_pow_pos _), Nat.mul_assoc, ← Nat.pow_add, show q + (D + 1) = t + 1 by omega, hpt1, hpD1, show (r + 1) * (2 * (2 ^ D * 2 ^ q)) = 2 * ((r + 1) * (2 ^ D * 2 ^ q)) by ac_rfl]
          omega
        refine Nat.lt_of_le_of_lt (Nat.add_le_add_left (?_ : _ ≤ 1) _) hlt
        exact Bool.toNat_le _
    have hkl : 4503599627370496 ≤ kept := by
      have h1 := Nat.mul_le_mul_right (2 ^ q) (pow_le_of_log2 r hr1)
      rw [← Nat.pow_add, hq] at h1
      exact Nat.le_trans h1 hk1
    have hkh : kept < 9007199254740992 := by
      have h1 := Nat.mul_le_mul_right (2 ^ q) (lt_pow_of_log2 r)
      rw [← Nat.pow_add, show r.log2 + 1 + q = 53 by omega] at h1
      exact Nat.lt_of_lt_of_le hk2 h1
    have hlast : max (-((t + 1 : Nat) : Int) + ((2 * whole + b).log2 : Nat) - (double.fractionBits : Nat)) double.leastPlace = -(q : Int) := by
      rw [hlogM, show double.leastPlace = -1074 by decide, show (double.fractionBits : Nat) = 52 by rfl]; omega
    have hy : double.read (double.nearest false (2 * whole + b) (-((t + 1 : Nat) : Int))) = .number false kept (-(q : Int)) := by
      unfold Format.nearest
      rw [if_neg hMne]
      simp only [hlast]
      rw [show (-((t + 1 : Nat) : Int) - -(q : Int)).toNat = 0 by omega, show (-(q : Int) - -((t + 1 : Nat) : Int)).toNat = D + 1 by omega, Nat.shiftLeft_zero, hk, show (-(q : Int) - double.leastPlace).toNat = 1074 - q by rw [show double.leastPlace = -1074 by decide]; omega, read_word false (1074 - q) kept (by omega) hkl hkh]
      congr 1
      omega
    refine ⟨double.nearest false (2 * whole + b) (-((t + 1 : Nat) : Int)), ?_, ?_⟩
    · unfold Format.sqrt
      rw [hroot]; rfl
    · have hklog : kept.log2 = 52 := by
        have a1 : 52 ≤ kept.log2 := (Nat.le_log2 (by omega)).2 hkl
        have a2 : kept.log2 < 53 := (Nat.log2_lt (by omega)).2 hkh
        omega
      have hcut : Toward.zero.cut false kept q = r := by
        unfold Toward.cut
        simp only [show min q (kept.log2 + 2) = q by omega, Nat.one_shiftLeft, Bool.toNat_false, Nat.add_zero]
        exact Nat.div_eq_of_lt_le hk1 hk2
      have ht : (double.read (double.nearest false (2 * whole + b) (-((t + 1 : Nat) : Int)))).toInt .zero = some (r : Int) := by
        rw [hy]
        simp only [Datum.toInt, Datum.integral, show (-(q : Int)).toNat = 0 by omega, show (- -(q : Int)).toNat = q by omega, Nat.shiftLeft_zero, hcut]
        simp [signed]
      unfold floatToIntVal
      rw [show FloatKind.f64.decode (double.nearest false (2 * whole + b) (-((t + 1 : Nat) : Int))) = double.read (double.nearest false (2 * whole + b) (-((t + 1 : Nat) : Int))) from rfl, ht]
      simp only
      rw [if_pos]
      constructor
      · show (-9223372036854775808 : Int) ≤ (r : Int); omega
      · show (r : Int) ≤ (9223372036854775807 : Int); omega

end Go.Proofs.Ytjdphcjapdklpaa

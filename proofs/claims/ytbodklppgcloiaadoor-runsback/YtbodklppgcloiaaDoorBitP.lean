/- Sets as bytes: their bits; nothing of the program. -/
import Derived.Test.YtbodklppgcloiaaDoorTxt
import Derived.Test.YtbodklppgcloiaaDoorU8
namespace Go.Proofs.YtbodklppgcloiaaDoor
set_option linter.unusedVariables false

/-- a bit of a byte -/
def bitB (x : UInt8) (j : Nat) : Bool := x.toNat.testBit j
theorem bitB_zero (j : Nat) : bitB 0 j = false := by unfold bitB; simp
theorem bitB_big (x : UInt8) (j : Nat) (h : 8 ≤ j) : bitB x j = false := by
  unfold bitB
  apply Nat.testBit_lt_two_pow
  exact Nat.lt_of_lt_of_le x.toNat_lt (Nat.pow_le_pow_right (by omega) h)
theorem byte_ext {x y : UInt8} (h : ∀ j, j < 8 → bitB x j = bitB y j) : x = y := by
  apply UInt8.toNat_inj.1
  apply Nat.eq_of_testBit_eq
  intro j
  rcases Nat.lt_or_ge j 8 with hj | hj
  · exact h j hj
  · exact (bitB_big x j hj).trans (bitB_big y j hj).symm
/-- a bit of a text -/
def bitAt (s : By) (i : Nat) : Bool := bitB (s.getD (i / 8) 0) (i % 8)
theorem bitAt_out (s : By) (i : Nat) (h : s.length ≤ i / 8) : bitAt s i = false := by
  unfold bitAt
  rw [List.getD_eq_getElem?_getD, List.getElem?_eq_none h]
  exact bitB_zero _
theorem bitAt_in (s : By) (i : Nat) (h : i / 8 < s.length) : bitAt s i = bitB s[i / 8] (i % 8) := by
  unfold bitAt
  simp [List.getD, h]
theorem bits_ext {a b : By} (h : a.length = b.length) (h' : ∀ i, i < 8 * a.length → bitAt a i = bitAt b i) : a = b := by
  apply List.ext_getElem h
  intro k h1 h2
  apply byte_ext
  intro j hj
  have := h' (8 * k + j) (by omega)
  have e1 : (8 * k + j) / 8 = k := by omega
  have e2 : (8 * k + j) % 8 = j := by omega
  rw [bitAt_in a _ (by rw [e1]; exact h1), bitAt_in b _ (by rw [e1]; exact h2)] at this
  simp only [e1, e2] at this
  exact this

/-- bits as they are put together, the highest first -/
def acc (q : Nat → Bool) : Nat → Nat
  | 0 => 0
  | t + 1 => 2 * acc q t + (if q (7 - t) then 1 else 0)
theorem acc_lt (q : Nat → Bool) (t : Nat) : acc q t < 2 ^ t := by
  induction t with
  | zero => simp [acc]
  | succ t ih =>
    unfold acc
    rw [Nat.pow_succ]
    split <;> omega
theorem acc_bit (q : Nat → Bool) (t : Nat) : t ≤ 8 → ∀ j, (acc q t).testBit j = (decide (j < t) && q (8 - t + j)) := by
  induction t with
  | zero => intro _ j; simp [acc]
  | succ t ih =>
    intro ht j
    cases j with
    | zero =>
      rw [Nat.testBit_zero]
      have e : 8 - (t + 1) + 0 = 7 - t := by omega
      rw [e]
      unfold acc
      cases hq : q (7 - t)
      · simp
      · simp
    | succ j =>
      rw [Nat.testBit_add_one]
      have e : acc q (t + 1) / 2 = acc q t := by
        conv => lhs; unfold acc
        split <;> omega
      rw [e, ih (by omega) j]
      have e2 : 8 - (t + 1) + (j + 1) = 8 - t + j := by omega
      rw [e2]
      congr 1
      simp
/-- the byte of bits -/
def byteP (q : Nat → Bool) : UInt8 := UInt8.ofNat (acc q 8)
theorem byteP_nat (q : Nat → Bool) : (byteP q).toNat = acc q 8 := by
  unfold byteP
  rw [UInt8.toNat_ofNat']
  exact Nat.mod_eq_of_lt (acc_lt q 8)
theorem byteP_bit (q : Nat → Bool) (j : Nat) (h : j < 8) : bitB (byteP q) j = q j := by
  unfold bitB
  rw [byteP_nat, acc_bit q 8 (Nat.le_refl _)]
  simp [h]
/-- the text of bits -/
def makeP (m : Nat) (p : Nat → Bool) : By := (List.range m).map fun k => byteP fun j => p (8 * k + j)
theorem makeP_length (m : Nat) (p : Nat → Bool) : (makeP m p).length = m := by simp [makeP]
theorem makeP_succ (m : Nat) (p : Nat → Bool) : makeP (m + 1) p = makeP m p ++ [byteP fun j => p (8 * m + j)] := by simp [makeP, List.range_succ]
theorem makeP_bit (m : Nat) (p : Nat → Bool) (i : Nat) : bitAt (makeP m p) i = (decide (i < 8 * m) && p i) := by
  by_cases h : i < 8 * m
  · rw [bitAt_in _ _ (by rw [makeP_length]; omega), decide_eq_true h, Bool.true_and]
    simp only [makeP, List.getElem_map, List.getElem_range]
    rw [byteP_bit _ _ (by omega)]
    congr 1
    omega
  · rw [bitAt_out _ _ (by rw [makeP_length]; omega), decide_eq_false h, Bool.false_and]
theorem eq_makeP {s : By} {m : Nat} {p : Nat → Bool} (h : s.length = m) (h' : ∀ i, i < 8 * m → bitAt s i = p i) : s = makeP m p := by
  apply bits_ext (by rw [makeP_length, h])
  intro i hi
  rw [makeP_bit, h' i (by omega), decide_eq_true (by omega), Bool.true_and]
theorem makeP_congr {m : Nat} {p q : Nat → Bool} (h : ∀ i, i < 8 * m → p i = q i) : makeP m p = makeP m q :=
  eq_makeP (makeP_length m p) fun i hi => by rw [makeP_bit, decide_eq_true hi, Bool.true_and, h i hi]

/-- the bit of a number within its byte -/
def maskB (i : Nat) : UInt8 := UInt8.ofNat (2 ^ (i % 8))
theorem maskB_nat (i : Nat) : (maskB i).toNat = 2 ^ (i % 8) := by
  unfold maskB
  rw [UInt8.toNat_ofNat']
  apply Nat.mod_eq_of_lt
  have : 2 ^ (i % 8) ≤ 2 ^ 7 := Nat.pow_le_pow_right (by omega) (by omega)
  omega
theorem maskB_bit (i j : Nat) : bitB (maskB i) j = decide (i % 8 = j) := by
  unfold bitB
  rw [maskB_nat, Nat.testBit_two_pow]
theorem or_bit (x y : UInt8) (j : Nat) : bitB (x ||| y) j = (bitB x j || bitB y j) := by
  unfold bitB
  rw [UInt8.toNat_or, Nat.testBit_or]
theorem and_bit (x y : UInt8) (j : Nat) : bitB (x &&& y) j = (bitB x j && bitB y j) := by
  unfold bitB
  rw [UInt8.toNat_and, Nat.testBit_and]
theorem not_bit (x : UInt8) (j : Nat) (h : j < 8) : bitB (~~~x) j = !bitB x j := by
  unfold bitB
  have e : (~~~x).toNat = 2 ^ 8 - (x.toNat + 1) := by
    rw [UInt8.toNat_not]
    have := x.toNat_lt
    show 256 - 1 - x.toNat = _
    omega
  rw [e, Nat.testBit_two_pow_sub_succ x.toNat_lt]
  simp [h]
theorem has_bit (x : UInt8) (i : Nat) : (x &&& maskB i = 0) ↔ bitB x (i % 8) = false := by
  constructor
  · intro h
    have := and_bit x (maskB i) (i % 8)
    rw [h, bitB_zero, maskB_bit] at this
    simpa using this.symm
  · intro h
    apply byte_ext
    intro j hj
    rw [and_bit, maskB_bit, bitB_zero]
    by_cases e : i % 8 = j
    · subst e; rw [h]; rfl
    · rw [decide_eq_false e, Bool.and_false]
theorem bitAt_set (s : By) (k : Nat) (x : UInt8) (i : Nat) (hk : k < s.length) : bitAt (s.set k x) i = if i / 8 = k then bitB x (i % 8) else bitAt s i := by
  by_cases h : i / 8 = k
  · rw [if_pos h, bitAt_in _ _ (by rw [List.length_set]; omega)]
    simp [h]
  · rw [if_neg h]
    unfold bitAt
    rw [List.getD_eq_getElem?_getD, List.getD_eq_getElem?_getD, List.getElem?_set_ne (fun e => h e.symm)]
theorem bitAt_or (s : By) (i j : Nat) (h : i / 8 < s.length) : bitAt (s.set (i / 8) (s[i / 8] ||| maskB i)) j = (bitAt s j || decide (j = i)) := by
  rw [bitAt_set _ _ _ _ h]
  by_cases e : j / 8 = i / 8
  · rw [if_pos e, or_bit, maskB_bit, bitAt_in s j (by omega)]
    congr 1
    · simp only [e]
    · rw [decide_eq_decide]
      omega
  · rw [if_neg e, decide_eq_false (by intro h; rw [h] at e; exact e rfl), Bool.or_false]
theorem bitAt_andNot (s : By) (i j : Nat) (h : i / 8 < s.length) : bitAt (s.set (i / 8) (s[i / 8] &&& ~~~maskB i)) j = (bitAt s j && !decide (j = i)) := by
  rw [bitAt_set _ _ _ _ h]
  by_cases e : j / 8 = i / 8
  · rw [if_pos e, and_bit, not_bit _ _ (by omega), maskB_bit, bitAt_in s j (by omega)]
    congr 1
    · simp only [e]
    · congr 1
      rw [decide_eq_decide]
      omega
  · rw [if_neg e, decide_eq_false (by intro h; rw [h] at e; exact e rfl)]; simp

/-- how many bytes hold n bits -/
def wid (n : Nat) : Nat := (n + 7) / 8
theorem wid_le (n : Nat) : n ≤ 8 * wid n := by unfold wid; omega
/-- is a text a set below n? -/
def chk (n : Nat) (s : By) : Bool := decide (n ≤ 160 ∧ s.length = wid n ∧ ∀ i, i < 8 * wid n → n ≤ i → bitAt s i = false)
theorem chk_iff {n : Nat} {s : By} : chk n s = true ↔ n ≤ 160 ∧ s.length = wid n ∧ ∀ i, i < 8 * wid n → n ≤ i → bitAt s i = false := by unfold chk; exact decide_eq_true_iff
def chkI (n : Int) (s : By) : Bool := decide (0 ≤ n) && chk n.toNat s
theorem chk_hi {n : Nat} {s : By} (h : chk n s = true) (i : Nat) (hi : n ≤ i) : bitAt s i = false := by
  obtain ⟨h1, h2, h3⟩ := chk_iff.1 h
  by_cases h4 : i < 8 * wid n
  · exact h3 i h4 hi
  · exact bitAt_out s i (by omega)
/-- has a text a number? -/
def hasI (s : By) (i : Int) : Bool := decide (0 ≤ i) && bitAt s i.toNat
/-- how many bits below k are 1 -/
def rankN (s : By) : Nat → Nat
  | 0 => 0
  | k + 1 => rankN s k + (if bitAt s k then 1 else 0)
theorem rankN_le (s : By) (k : Nat) : rankN s k ≤ k := by
  induction k with
  | zero => exact Nat.le_refl _
  | succ k ih => unfold rankN; split <;> omega
theorem rankN_mono (s : By) {a b : Nat} (h : a ≤ b) : rankN s a ≤ rankN s b := by
  induction b with
  | zero => have : a = 0 := by omega
            subst this; exact Nat.le_refl _
  | succ b ih =>
    rcases Nat.lt_or_ge b a with h' | h'
    · have : a = b + 1 := by omega
      subst this; exact Nat.le_refl _
    · have := ih h'
      show rankN s a ≤ rankN s b + _
      omega
/-- a set's first numbers -/
def listN (s : By) : Nat → List Int
  | 0 => []
  | k + 1 => if bitAt s k then listN s k ++ [(k : Int)] else listN s k
theorem listN_length (s : By) (k : Nat) : (listN s k).length = rankN s k := by
  induction k with
  | zero => rfl
  | succ k ih =>
    unfold listN rankN
    split
    · rw [List.length_append, ih]; rfl
    · rw [ih]; rfl
theorem listN_mem (s : By) (k : Nat) (x : Int) : x ∈ listN s k ↔ ∃ i : Nat, i < k ∧ bitAt s i = true ∧ x = i := by
  induction k with
  | zero => simp [listN]
  | succ k ih =>
    unfold listN
    by_cases hb : bitAt s k = true
    · rw [if_pos hb, List.mem_append, ih]
      simp only [List.mem_singleton]
      constructor
      · rintro (⟨i, h1, h2, h3⟩ | h)
        · exact ⟨i, by omega, h2, h3⟩
        · exact ⟨k, by omega, hb, h⟩
      · rintro ⟨i, h1, h2, h3⟩
        rcases Nat.lt_succ_iff_lt_or_eq.1 h1 with h | rfl
        · exact .inl ⟨i, h, h2, h3⟩
        · exact .inr h3
    · rw [if_neg hb, ih]
      constructor
      · rintro ⟨i, h1, h2, h3⟩
        exact ⟨i, by omega, h2, h3⟩
      · rintro ⟨i, h1, h2, h3⟩
        rcases Nat.lt_succ_iff_lt_or_eq.1 h1 with h | rfl
        · exact ⟨i, h, h2, h3⟩
        · exact absurd h2 hb

end Go.Proofs.YtbodklppgcloiaaDoor

/- trace: mathematics of what is packed and unpacked. -/
import Derived.Test.YthgijdhifhnmfaaTrF
import Derived.Test.YthgijdhifhnmfaaTrG
namespace Go.Proofs.Ythgijdhifhnmfaa
open Go.RowKit
set_option linter.unusedVariables false

theorem ext_bs (l : By) (i j : Nat) (hi : i ≤ j) (hj : j ≤ l.length) : (bs l).extract i j = bs ((l.drop i).take (j - i)) := by
  apply ByteArray.ext
  apply Array.ext'
  simp [bs]
theorem raw_ok (l : By) (n : Nat) (h : n ≤ l.length) : raw (bs l, 0) (n : Nat) = (bs (l.take n), (bs (l.drop n), 0)) := by
  have e : (l.drop n).take (l.length - n) = l.drop n := List.take_of_length_le (by rw [List.length_drop]; exact Nat.le_refl _)
  unfold raw
  dsimp only
  rw [if_neg (by simp), if_neg (by omega), if_neg (by rw [bs_size]; omega), Int.toNat_natCast, ext_bs l 0 n (Nat.zero_le _) h, bs_size, ext_bs l n l.length h (Nat.le_refl _), List.drop_zero, Nat.sub_zero, e]
theorem num_ok (l : By) (n : Nat) (h1 : 1 ≤ n) (h7 : n ≤ 7) (h : n ≤ l.length) : num (bs l, 0) (n : Nat) = (getV (l.take n), (bs (l.drop n), 0)) := by
  unfold num
  dsimp only
  rw [if_neg (by simp), if_neg (by omega), raw_ok l n h, bs_list]
def Fit (x : Int) (s : Nat) : Prop := 0 ≤ x ∧ x / 2 ^ (8 * s) = 0
theorem fit_of {x : Int} {s : Nat} (h0 : 0 ≤ x) (h1 : x < 2 ^ (8 * s)) : Fit x s := ⟨h0, Int.ediv_eq_zero_of_lt h0 h1⟩
theorem wNum_ok (L : By) (x : Int) (s : Nat) (h1 : 1 ≤ s) (h7 : s ≤ 7) (hx : Fit x s) (hl : L.length + s ≤ 65536) : wNum (L, 0) x (s : Nat) = (L ++ putB x s, 0) := by
  have hp : putS x (s : Nat) = (putB x s, 0) := by
    unfold putS
    rw [if_neg (by omega), if_neg (by rw [Int.toNat_natCast]; have := hx.1; have := hx.2; omega), Int.toNat_natCast]
  unfold wNum
  rw [hp]
  simp only [ne_eq, not_true_eq_false, if_false]
  unfold wRaw
  simp only [ne_eq, not_true_eq_false, if_false]
  rw [putB_length, if_neg (by omega)]
theorem wRaw_ok (L s : By) (hl : L.length + s.length ≤ 65536) : wRaw (L, 0) s = (L ++ s, 0) := by
  unfold wRaw
  simp only [ne_eq, not_true_eq_false, if_false]
  rw [if_neg (by omega)]
theorem wText_ok (L s : By) (hs : s.length ≤ 65535) (hl : L.length + 2 + s.length ≤ 65536) : wText (L, 0) s = (L ++ putB s.length 2 ++ s, 0) := by
  unfold wText
  have h2 := wNum_ok L s.length 2 (by omega) (by omega) (fit_of (by omega) (by show (s.length : Int) < 65536; omega)) (by omega)
  rw [if_neg (by omega)]
  rw [show ((2 : Nat) : Int) = 2 from rfl] at h2
  rw [h2, wRaw_ok _ _ (by rw [List.length_append, putB_length]; omega)]
/-- an event's bytes -/
def encE (e : Ev) : By := putB e.k 1 ++ putB e.n 2 ++ (if e.k = 1 then putB e.t.size 2 ++ e.t.data.toList else [])
theorem encE_len (e : Ev) : (encE e).length = 3 + (if e.k = 1 then 2 + e.t.size else 0) := by
  unfold encE
  split
  · simp only [List.length_append, putB_length]
    have : e.t.data.toList.length = e.t.size := by simp
    omega
  · simp [putB_length]
theorem empty_of {t : ByteArray} (h : t.toList.isEmpty = true) : t = ⟨#[]⟩ := by
  have h1 : t.toList = [] := by simpa using h
  rw [ByteArray.toList_eq] at h1
  apply ByteArray.ext
  apply Array.ext'
  exact h1
/-- what an event that may be has -/
theorem may_facts {e : Ev} (h : mayB e = true) : (e.k = 1 ∧ 1 ≤ e.n ∧ e.n ≤ 15 ∧ e.t.size ≤ 400) ∨ ((e.k = 2 ∨ e.k = 3) ∧ 0 ≤ e.n ∧ e.n ≤ 65535 ∧ e.t = ⟨#[]⟩) := by
  unfold mayB at h
  by_cases h1 : e.k = 1
  · rw [if_pos h1] at h
    unfold isPe at h
    simp at h
    exact .inl ⟨h1, h.1.1, h.1.2, h.2⟩
  · rw [if_neg h1] at h
    by_cases h2 : e.k = 2
    · rw [if_pos h2, Bool.and_eq_true] at h
      have := of_decide_eq_true h.1
      exact .inr ⟨.inl h2, this.1, this.2, empty_of h.2⟩
    · rw [if_neg h2] at h
      by_cases h3 : e.k = 3
      · rw [if_pos h3, Bool.and_eq_true] at h
        have h5 : 1 ≤ e.n ∧ e.n ≤ 15 := by
          have := h.1
          unfold isPe at this
          exact of_decide_eq_true this
        exact .inr ⟨.inr h3, by omega, by omega, empty_of h.2⟩
      · rw [if_neg h3] at h
        cases h
theorem pkE_ok (L : By) (e : Ev) (h : mayB e = true) (hl : L.length + (encE e).length ≤ 65536) : pkE (L, 0) e = (L ++ encE e, 0) := by
  have hf := may_facts h
  have hk : 1 ≤ e.k ∧ e.k ≤ 3 := by rcases hf with h | h <;> omega
  have hn : 0 ≤ e.n ∧ e.n ≤ 65535 := by rcases hf with h | h <;> omega
  rw [encE_len] at hl
  have e1 := wNum_ok L e.k 1 (by omega) (by omega) (fit_of (by omega) (by show e.k < 256; omega)) (by omega)
  have e2 := wNum_ok (L ++ putB e.k 1) e.n 2 (by omega) (by omega) (fit_of (by omega) (by show e.n < 65536; omega)) (by rw [List.length_append, putB_length]; omega)
  rw [show ((1 : Nat) : Int) = 1 from rfl] at e1
  rw [show ((2 : Nat) : Int) = 2 from rfl] at e2
  unfold pkE encE
  rw [e1, e2]
  by_cases hk1 : e.k = 1
  · rw [if_pos hk1] at hl
    rw [if_pos hk1, if_pos hk1]
    have hsz : e.t.data.toList.length = e.t.size := by simp
    have hs4 : e.t.size ≤ 400 := by rcases hf with h | h <;> omega
    have e3 := wText_ok (L ++ putB e.k 1 ++ putB e.n 2) e.t.data.toList (by omega) (by simp only [List.length_append, putB_length]; omega)
    rw [e3, hsz]
    simp [List.append_assoc]
  · rw [if_neg hk1, if_neg hk1]
    simp [List.append_assoc]
def hd (n : Nat) : By := [116, 114, 99, 49] ++ putB n 2
theorem pk0_ok (n : Nat) (hn : n ≤ 65535) : pk0 n = (hd n, 0) := by
  unfold pk0 hd
  rw [wRaw_ok [] _ (by decide), List.nil_append]
  have e2 := wNum_ok [116, 114, 99, 49] n 2 (by omega) (by omega) (fit_of (by omega) (by show (n : Int) < 65536; omega)) (by simp)
  rw [show ((2 : Nat) : Int) = 2 from rfl] at e2
  exact e2
theorem fold_ok (l : List Ev) : ∀ L : By, (∀ e ∈ l, mayB e = true) → L.length + (l.flatMap encE).length ≤ 65536 → l.foldl pkE (L, 0) = (L ++ l.flatMap encE, 0) := by
  induction l with
  | nil => intro L _ _; simp
  | cons x l ih =>
    intro L hm hl
    rw [List.flatMap_cons, List.length_append] at hl
    rw [List.foldl_cons, pkE_ok L x (hm x (by simp)) (by omega), ih _ (fun e he => hm e (by simp [he])) (by rw [List.length_append]; omega), List.flatMap_cons, List.append_assoc]
theorem hd_len (n : Nat) : (hd n).length = 6 := by unfold hd; simp [putB_length]
theorem pkS_ok (l : List Ev) (n : Nat) (hn : n ≤ 65535) (hm : ∀ e ∈ l, mayB e = true) (hl : 6 + (l.flatMap encE).length ≤ 65536) : pkS l n = (hd n ++ l.flatMap encE, 0) := by
  unfold pkS
  rw [pk0_ok n hn, fold_ok l _ hm (by rw [hd_len]; exact hl)]
theorem flat_len (l : List Ev) (hm : ∀ e ∈ l, mayB e = true) : (l.flatMap encE).length ≤ l.length * 405 := by
  induction l with
  | nil => simp
  | cons x l ih =>
    rw [List.flatMap_cons, List.length_append, List.length_cons, encE_len]
    have := ih (fun e he => hm e (by simp [he]))
    have hf := may_facts (hm x (by simp))
    split <;> rcases hf with h | h <;> omega
/-- what was packed is read -/
theorem numB (x : Int) (k : Nat) (r : By) (h1 : 1 ≤ k) (h7 : k ≤ 7) (hx : Fit x k) : num (bs (putB x k ++ r), 0) (k : Nat) = (x, (bs r, 0)) := by
  rw [num_ok _ k h1 h7 (by rw [List.length_append, putB_length]; omega)]
  rw [List.take_append_of_le_length (by rw [putB_length]; omega), List.take_of_length_le (by rw [putB_length]; omega), getV_putB x k (by have := hx.1; omega) hx.2]
  rw [List.drop_append_of_le_length (by rw [putB_length]; omega), List.drop_of_length_le (by rw [putB_length]; omega), List.nil_append]
theorem upE_ok (e : Ev) (r : By) (h : mayB e = true) : upE (bs (encE e ++ r), 0) = (some e, (bs r, 0)) := by
  have hf := may_facts h
  have hk : 1 ≤ e.k ∧ e.k ≤ 3 := by rcases hf with h | h <;> omega
  have hn : 0 ≤ e.n ∧ e.n ≤ 65535 := by rcases hf with h | h <;> omega
  obtain ⟨T, hT⟩ : ∃ T, T = (if e.k = 1 then putB e.t.size 2 ++ e.t.data.toList else []) := ⟨_, rfl⟩
  have e0 : encE e ++ r = putB e.k 1 ++ (putB e.n 2 ++ (T ++ r)) := by unfold encE; rw [← hT]; simp [List.append_assoc]
  have e1 := numB e.k 1 (putB e.n 2 ++ (T ++ r)) (by omega) (by omega) (fit_of (by omega) (by show e.k < 256; omega))
  have e2 := numB e.n 2 (T ++ r) (by omega) (by omega) (fit_of (by omega) (by show e.n < 65536; omega))
  rw [show ((1 : Nat) : Int) = 1 from rfl] at e1
  rw [show ((2 : Nat) : Int) = 2 from rfl] at e2
  unfold upE
  rw [e0, e1]
  dsimp only
  rw [e2]
  dsimp only
  by_cases hk1 : e.k = 1
  · rw [if_pos hk1]
    have hs4 : e.t.size ≤ 400 := by rcases hf with h | h <;> omega
    have hsz : e.t.data.toList.length = e.t.size := by simp
    rw [hT, if_pos hk1, List.append_assoc]
    have e3 := numB e.t.size 2 (e.t.data.toList ++ r) (by omega) (by omega) (fit_of (by omega) (by show (e.t.size : Int) < 65536; omega))
    rw [show ((2 : Nat) : Int) = 2 from rfl] at e3
    unfold text
    rw [e3]
    dsimp only
    rw [raw_ok _ e.t.size (by rw [List.length_append]; omega)]
    rw [List.take_append_of_le_length (by omega), List.take_of_length_le (by omega), List.drop_append_of_le_length (by omega), List.drop_of_length_le (by omega), List.nil_append, bs_of]
    obtain ⟨ek, en, et⟩ := e
    dsimp only at hk1
    subst hk1
    rfl
  · rw [if_neg hk1, if_pos (by omega)]
    rw [hT, if_neg hk1, List.nil_append]
    have ht : e.t = ⟨#[]⟩ := by
      rcases hf with h | h
      · exact absurd h.1 hk1
      · exact h.2.2.2
    obtain ⟨ek, en, et⟩ := e
    dsimp only at ht
    subst ht
    rfl
theorem ups_ok (r : By) : ∀ (l m : List Ev), (∀ e ∈ m ++ l, mayB e = true) → ups (bs ((m ++ l).flatMap encE ++ r), 0) m.length = some (m, (bs (l.flatMap encE ++ r), 0)) → ups (bs ((m ++ l).flatMap encE ++ r), 0) (m ++ l).length = some (m ++ l, (bs r, 0)) := by
  intro l
  induction l with
  | nil => intro m hm h; simpa using h
  | cons x l ih =>
    intro m hm h
    have e1 : m ++ x :: l = (m ++ [x]) ++ l := by simp
    rw [e1] at h hm ⊢
    refine ih (m ++ [x]) hm ?_
    rw [List.length_append, show [x].length = 1 from rfl, ups_step h, List.flatMap_cons, List.append_assoc, upE_ok x _ (hm x (by simp))]
theorem unp_pk (l : List Ev) (hc : chkB l = true) (hl : l.length ≤ 500) : unp (bs (hd l.length ++ l.flatMap encE)) = some l := by
  have hm : ∀ e ∈ l, mayB e = true := by
    unfold chkB at hc
    rw [Bool.and_eq_true] at hc
    exact List.all_eq_true.1 hc.2
  have e0 : hd l.length ++ l.flatMap encE = [116, 114, 99, 49] ++ (putB l.length 2 ++ l.flatMap encE) := by unfold hd; rw [List.append_assoc]
  have er := raw_ok (hd l.length ++ l.flatMap encE) 4 (by rw [List.length_append, hd_len]; omega)
  rw [show ((4 : Nat) : Int) = 4 from rfl] at er
  rw [e0] at er ⊢
  have et : ([116, 114, 99, 49] ++ (putB l.length 2 ++ l.flatMap encE) : By).take 4 = [116, 114, 99, 49] := rfl
  have ed : ([116, 114, 99, 49] ++ (putB l.length 2 ++ l.flatMap encE) : By).drop 4 = putB l.length 2 ++ l.flatMap encE := rfl
  rw [et, ed] at er
  have en := numB l.length 2 (l.flatMap encE) (by omega) (by omega) (fit_of (by omega) (by show (l.length : Int) < 65536; omega))
  rw [show ((2 : Nat) : Int) = 2 from rfl] at en
  have ec : cnt (bs ([116, 114, 99, 49] ++ (putB l.length 2 ++ l.flatMap encE))) = ((l.length : Int), (bs (l.flatMap encE), 0)) := by
    unfold cnt
    rw [er]
    exact en
  have eu := ups_ok [] l [] (by simpa using hm) (by simp [ups])
  simp only [List.nil_append, List.append_nil] at eu
  unfold unp
  rw [ec]
  dsimp only
  rw [Int.toNat_natCast, eu]
  dsimp only
  rw [if_pos]
  refine ⟨?_, by rfl, hc⟩
  unfold begB
  rw [er]
  dsimp only
  rw [ByteArray.toList_eq, bs_list]
  rfl
end Go.Proofs.Ythgijdhifhnmfaa

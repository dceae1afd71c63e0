/- gauss: what true equations solve to; mathematics. -/
import Derived.Test.YtpcndjnhpjhjkaaDoorGaW
namespace Go.Proofs.YtpcndjnhpjhjkaaDoor
set_option linter.unusedVariables false

theorem evL_cat (X : List By) (m : Nat) (ns ks : List Nat) : evL X m (ns ++ ks) = ks.foldl (fun s i => xorL s (X.getD i [])) (evL X m ns) := by
  unfold evL
  rw [List.foldl_append]
/-- the sum of the blocks that a row has, of the first n -/
def evn (X : List By) (m n r : Nat) : By := evL X m (numsR n r)
theorem evn_succ (X : List By) (m n r : Nat) : evn X m (n + 1) r = if r.testBit n = true then xorL (evn X m n r) (X.getD n []) else evn X m n r := by
  unfold evn numsR
  rw [List.range_succ, List.filter_append, evL_cat]
  by_cases h : r.testBit n = true
  · rw [if_pos h, List.filter_cons_of_pos h]; rfl
  · rw [if_neg h, List.filter_cons_of_neg h]; rfl
theorem evn_len {X : List By} {m : Nat} (hX : ∀ s ∈ X, s.length = m) (n r : Nat) (hn : n ≤ X.length) : (evn X m n r).length = m :=
  evL_len hX _ _ (by simp) (fun i hi => by
    unfold numsR at hi
    rw [List.mem_filter, List.mem_range] at hi
    omega)
theorem evn_zero (X : List By) (m : Nat) : ∀ n, evn X m n 0 = List.replicate m 0
  | 0 => rfl
  | n + 1 => by rw [evn_succ, if_neg (by simp), evn_zero X m n]
theorem xorL_zero_right (a : By) : xorL a (List.replicate a.length 0) = a := by rw [xorL_comm]; exact xorL_nil_zero a
theorem evn_add {X : List By} {m : Nat} (hX : ∀ s ∈ X, s.length = m) (r s : Nat) : ∀ n, n ≤ X.length → evn X m n (r ^^^ s) = xorL (evn X m n r) (evn X m n s)
  | 0, _ => by
    show List.replicate m 0 = xorL (List.replicate m 0) (List.replicate m 0)
    rw [xorL_self, List.length_replicate]
  | n + 1, h => by
    have ih := evn_add hX r s n (by omega)
    have l1 := evn_len hX n r (by omega)
    have l2 := evn_len hX n s (by omega)
    have hx : (X.getD n []).length = m := hX _ (by simp [List.getD, show n < X.length by omega])
    rw [evn_succ, evn_succ, evn_succ, Nat.testBit_xor, ih]
    generalize evn X m n r = a at *
    generalize evn X m n s = b at *
    generalize X.getD n [] = x at *
    cases r.testBit n <;> cases s.testBit n
    · rfl
    · simp only [Bool.false_xor, if_true, Bool.false_eq_true, if_false]
      rw [xorL_assoc]
    · simp only [Bool.xor_false, if_true, Bool.false_eq_true, if_false]
      rw [xorL_assoc, xorL_assoc, xorL_comm b x]
    · simp only [Bool.xor_self, if_true, Bool.false_eq_true, if_false]
      have e : xorL (xorL a x) (xorL b x) = xorL (xorL a b) (xorL x x) := by
        rw [xorL_assoc, xorL_assoc, ← xorL_assoc x b x, xorL_comm x b, xorL_assoc b x x]
      rw [e, xorL_self, hx]
      have : (xorL a b).length = m := by rw [xorL_len _ _ (by rw [l1, l2]), l1]
      have h2 := xorL_zero_right (xorL a b)
      rw [this] at h2
      exact h2.symm
theorem evn_one {X : List By} {m : Nat} (hX : ∀ s ∈ X, s.length = m) (i : Nat) : ∀ n, n ≤ X.length → evn X m n (2 ^ i) = if i < n then X.getD i [] else List.replicate m 0
  | 0, _ => by rw [if_neg (by omega)]; rfl
  | n + 1, h => by
    have ih := evn_one hX i n (by omega)
    have hx : (X.getD n []).length = m := hX _ (by simp [List.getD, show n < X.length by omega])
    rw [evn_succ, Nat.testBit_two_pow, ih]
    by_cases e : i = n
    · subst e
      rw [if_pos (by simp), if_neg (by omega), if_pos (by omega)]
      have := xorL_nil_zero (X.getD i [])
      rwa [hx] at this
    · rw [if_neg (by simpa using e)]
      by_cases h2 : i < n
      · rw [if_pos h2, if_pos (by omega)]
      · rw [if_neg h2, if_neg (by omega)]
/-- what Solve answers of lines each of whose single ones is known -/
theorem slv_get (f : Nat → By) : ∀ (K : List Ln) (B : List By), (∀ x ∈ K, onlyB x.1 = true → x.2 = f (fb x.1)) → ∀ i, i < B.length → (K.foldl slvS B).getD i [] = if i ∈ fixN K then f i else B.getD i []
  | [], B, _, i, _ => by simp [fixN]
  | x :: K, B, h, i, hi => by
    rw [List.foldl_cons, slv_get f K _ (fun y hy => h y (by simp [hy])) i (by rw [slvS_len]; exact hi)]
    by_cases hb : onlyB x.1 = true
    · have e1 : fixN (x :: K) = fb x.1 :: fixN K := by unfold fixN; rw [List.filter_cons_of_pos (p := fun x : Ln => onlyB x.1) hb]; rfl
      have e2 : slvS B x = B.set (fb x.1) x.2 := by unfold slvS; rw [if_pos hb]
      rw [e1, e2]
      by_cases hk : i ∈ fixN K
      · rw [if_pos hk, if_pos (by simp [hk])]
      · rw [if_neg hk]
        by_cases hf : fb x.1 = i
        · subst hf
          rw [if_pos (by simp)]
          have := h x (by simp) hb
          simp [List.getD, hi, this]
        · rw [if_neg (by simp; exact ⟨fun h => hf h.symm, hk⟩)]
          simp only [List.getD, List.getElem?_set_ne hf]
    · have e1 : fixN (x :: K) = fixN K := by unfold fixN; rw [List.filter_cons_of_neg (p := fun x : Ln => onlyB x.1) hb]
      have e2 : slvS B x = B := by unfold slvS; rw [if_neg hb]
      rw [e1, e2]
theorem slv_emp : ∀ (K : List Ln) (B : List By), (∀ x ∈ K, x.2 ≠ []) → ∀ i, i < B.length → ((K.foldl slvS B).getD i [] = [] ↔ i ∉ fixN K ∧ B.getD i [] = [])
  | [], B, _, i, _ => by simp [fixN]
  | x :: K, B, h, i, hi => by
    rw [List.foldl_cons, slv_emp K _ (fun y hy => h y (by simp [hy])) i (by rw [slvS_len]; exact hi)]
    by_cases hb : onlyB x.1 = true
    · have e1 : fixN (x :: K) = fb x.1 :: fixN K := by unfold fixN; rw [List.filter_cons_of_pos (p := fun x : Ln => onlyB x.1) hb]; rfl
      have e2 : slvS B x = B.set (fb x.1) x.2 := by unfold slvS; rw [if_pos hb]
      rw [e1, e2]
      by_cases hf : fb x.1 = i
      · subst hf
        have := h x (by simp)
        simp [List.getD, hi, this]
      · simp only [List.getD, List.getElem?_set_ne hf, List.mem_cons, not_or]
        constructor
        · exact fun ⟨a, b⟩ => ⟨⟨fun h => hf h.symm, a⟩, b⟩
        · exact fun ⟨⟨_, a⟩, b⟩ => ⟨a, b⟩
    · have e1 : fixN (x :: K) = fixN K := by unfold fixN; rw [List.filter_cons_of_neg (p := fun x : Ln => onlyB x.1) hb]
      have e2 : slvS B x = B := by unfold slvS; rw [if_neg hb]
      rw [e1, e2]
theorem fixN_pj (K : List Ln) : fixN (K.map pj) = fixN K := by
  induction K with
  | nil => rfl
  | cons x K ih =>
    unfold fixN at *
    rw [List.map_cons]
    by_cases hb : onlyB x.1 = true
    · rw [List.filter_cons_of_pos (p := fun x : Ln => onlyB x.1) (a := pj x) hb, List.filter_cons_of_pos (p := fun x : Ln => onlyB x.1) (a := x) hb, List.map_cons, List.map_cons, ih]
      rfl
    · rw [List.filter_cons_of_neg (p := fun x : Ln => onlyB x.1) (a := pj x) hb, List.filter_cons_of_neg (p := fun x : Ln => onlyB x.1) (a := x) hb, ih]
theorem eL_pj (R : List (List Nat)) (E : List Eq2) : (eL R E R.length).map pj = gL R := by
  apply List.ext_getElem
  · simp [eL, gL]
  · intro i h1 h2
    have hi : i < R.length := by simpa [eL] using h1
    simp [eL, gL, pj, List.getD, hi]
theorem fixN_eL {n : Nat} (R : List (List Nat)) (E : List Eq2) : fixN (kep (eL R E R.length) n) = fixN (kep (gL R) n) := by
  rw [← eL_pj R E, kep_pj, fixN_pj]
/-- true equations -/
theorem true_solved {n m : Nat} {X : List By} {Rs : List (List Int)} {R : List (List Nat)} {E : List Eq2} (hm : 1 ≤ m) (hX : ∀ s ∈ X, s.length = m) (hXl : X.length = n) (hR : Rws n Rs R) (hE : ∀ t, t < R.length → (E.getD t ([], [])).2 = evL X m (R.getD t [])) :
    slvBad (eL R E R.length) n m = false ∧ ∀ i, i < n → (slv n (kep (eL R E R.length) n)).getD i [] = if i ∈ fixN (kep (gL R) n) then X.getD i [] else [] := by
  have h160 := hR.n160
  have hmem : ∀ t, t < R.length → R.getD t [] ∈ R := fun t h => by simp [List.getD, h]
  have hev : ∀ x ∈ eL R E R.length, x.2 = evn X m n x.1 := fun x hx => by
    obtain ⟨t, ht, rfl⟩ := List.mem_map.1 hx
    rw [List.mem_range] at ht
    show (E.getD t ([], [])).2 = evL X m (numsR n (rowN (R.getD t [])))
    rw [hE t ht, ← sorted_nums (hR.lt _ (hmem t ht)) (hR.ord _ (hmem t ht))]
  have hs : Szd m (eL R E R.length) := fun x hx => by
    rw [hev x hx]
    exact evn_len hX n _ (by omega)
  have hbd : ∀ x ∈ eL R E R.length, x.1 < 2 ^ n := fun x hx => by
    obtain ⟨t, ht, rfl⟩ := List.mem_map.1 hx
    rw [List.mem_range] at ht
    exact rowN_lt _ _ (hR.lt _ (hmem t ht))
  have hnc := true_nocontra (evn X m n) (evn_zero X m n) (fun r s => evn_add hX r s n (by omega)) hev
  obtain ⟨_, k2, _, _, _, kb, _⟩ := kep_rd (n := n) (by omega) hs hbd
  have hsame := (kep_same (n := n) (by omega) hs hbd hnc)
  refine ⟨?_, fun i hi => ?_⟩
  · unfold slvBad
    rw [List.any_eq_false]
    intro x hx
    rw [hsame.2 x hx]
    simp [zeroV]
  · unfold slv
    rw [slv_get (fun i => X.getD i []) _ _ (fun x hx hb => ?_) i (by simp; exact hi), fixN_eL]
    · have : (List.replicate n ([] : By)).getD i [] = [] := by simp [List.getD, hi]
      rw [this]
    · have h1 : x.2 = evn X m n x.1 := true_spn (evn X m n) (evn_zero X m n) (fun r s => evn_add hX r s n (by omega)) hev ((hsame.1 x).2 (Spn.mem k2 hx))
      have h2 := only_lt (kb x hx) hb
      unfold onlyB at hb
      have h3 := (of_decide_eq_true hb).2
      rw [h1, h3, evn_one hX _ n (by omega), ← h3, if_pos h2]
/-- where something is solved hangs on the rows alone -/
theorem slv_rows {n m : Nat} {Rs : List (List Int)} {R : List (List Nat)} {E : List Eq2} (hm : 1 ≤ m) (hR : Rws n Rs R) (hE : ∀ t, t < R.length → (E.getD t ([], [])).2.length = m) : ∀ i, i < n → ((slv n (kep (eL R E R.length) n)).getD i [] = [] ↔ i ∉ fixN (kep (gL R) n)) := by
  have h160 := hR.n160
  have hmem : ∀ t, t < R.length → R.getD t [] ∈ R := fun t h => by simp [List.getD, h]
  have hs : Szd m (eL R E R.length) := fun x hx => by
    obtain ⟨t, ht, rfl⟩ := List.mem_map.1 hx
    rw [List.mem_range] at ht
    exact hE t ht
  have hbd : ∀ x ∈ eL R E R.length, x.1 < 2 ^ n := fun x hx => by
    obtain ⟨t, ht, rfl⟩ := List.mem_map.1 hx
    rw [List.mem_range] at ht
    exact rowN_lt _ _ (hR.lt _ (hmem t ht))
  obtain ⟨_, k2, _⟩ := kep_rd (n := n) (by omega) hs hbd
  intro i hi
  unfold slv
  rw [slv_emp _ _ (fun x hx e => by have := k2 x hx; rw [e] at this; simp at this; omega) i (by simp; exact hi), fixN_eL]
  have : (List.replicate n ([] : By)).getD i [] = [] := by simp [List.getD, hi]
  rw [this]
  simp
end Go.Proofs.YtpcndjnhpjhjkaaDoor

/- What is picked: unlike numbers below the bound; more picks go on as fewer began. -/
import Derived.Test.YtcdnpdmcijiffaaPrPo
namespace Go.Proofs.Ytcdnpdmcijiffaa
set_option linter.unusedVariables false

theorem getD_set' (l : List Nat) (i a x : Nat) (h : i < l.length) : (l.set i x).getD a 0 = if a = i then x else l.getD a 0 := by
  by_cases e : a = i
  · subst e; simp [List.getD, h]
  · rw [if_neg e]
    simp [List.getD, List.getElem?_set_ne (Ne.symm e)]
theorem swapL_get (l : List Nat) (i j a : Nat) (hi : i < l.length) (hj : j < l.length) : (swapL l i j).getD a 0 = l.getD (if a = j then i else if a = i then j else a) 0 := by
  unfold swapL
  rw [getD_set' _ _ _ _ (by simpa using hj)]
  by_cases e : a = j
  · rw [if_pos e, if_pos e]
  · rw [if_neg e, if_neg e, getD_set' _ _ _ _ hi]
    by_cases e2 : a = i
    · rw [if_pos e2, if_pos e2]
    · rw [if_neg e2, if_neg e2]

theorem pkS_inj (seed : List UInt8) (n u : Nat) : ∀ i, i ≤ n → (∀ a b, a < n → b < n → (pkS seed n u i).2.getD a 0 = (pkS seed n u i).2.getD b 0 → a = b) ∧ ∀ a, a < n → (pkS seed n u i).2.getD a 0 < n := by
  intro i
  induction i with
  | zero =>
    intro _
    have e : ∀ a, a < n → (pkS seed n u 0).2.getD a 0 = a := fun a ha => by simp [pkS, List.getD, ha]
    refine ⟨fun a b ha hb h => ?_, fun a ha => by rw [e a ha]; exact ha⟩
    rwa [e a ha, e b hb] at h
  | succ i ih =>
    intro hi
    obtain ⟨h1, h2⟩ := ih (by omega)
    have hl := pkS_length seed n u i
    have hj := pkJ_lt seed n (pkS seed n u i).1 i (by omega)
    have e : ∀ a, (pkS seed n u (i + 1)).2.getD a 0 = (pkS seed n u i).2.getD (if a = pkJ seed n (pkS seed n u i).1 i then i else if a = i then pkJ seed n (pkS seed n u i).1 i else a) 0 := fun a => swapL_get _ _ _ _ (by omega) (by omega)
    generalize pkJ seed n (pkS seed n u i).1 i = j at *
    have sb : ∀ a, a < n → (if a = j then i else if a = i then j else a) < n := fun a ha => by
      by_cases a1 : a = j
      · rw [if_pos a1]; omega
      · rw [if_neg a1]
        by_cases a2 : a = i
        · rw [if_pos a2]; omega
        · rw [if_neg a2]; exact ha
    constructor
    · intro a b ha hb h
      rw [e, e] at h
      have h3 := h1 _ _ (sb a ha) (sb b hb) h
      clear h e
      repeat' split at h3
      all_goals omega
    · intro a ha
      rw [e]
      exact h2 _ (sb a ha)
theorem pkS_fix (seed : List UInt8) (n u : Nat) (k a : Nat) (ha : a < k) : ∀ m, k ≤ m → m ≤ n → (pkS seed n u m).2.getD a 0 = (pkS seed n u k).2.getD a 0 := by
  intro m hkm
  obtain ⟨d, rfl⟩ := Nat.exists_eq_add_of_le hkm
  clear hkm
  induction d with
  | zero => intro _; rfl
  | succ d ih0 =>
    intro hmn
    have hm : k ≤ k + d := by omega
    have ih : k + d ≤ n → (pkS seed n u (k + d)).2.getD a 0 = (pkS seed n u k).2.getD a 0 := ih0
    rw [show k + (d + 1) = (k + d) + 1 by omega] at hmn ⊢
    generalize k + d = m at *
    have hl := pkS_length seed n u m
    have hj := pkJ_lt seed n (pkS seed n u m).1 m (by omega)
    have e : (pkS seed n u (m + 1)).2.getD a 0 = (pkS seed n u m).2.getD (if a = pkJ seed n (pkS seed n u m).1 m then m else if a = m then pkJ seed n (pkS seed n u m).1 m else a) 0 := swapL_get _ _ _ _ (by omega) (by omega)
    rw [e, if_neg (by omega), if_neg (by omega)]
    exact ih (by omega)

/-- which numbers were seen -/
def snB (A : Nat → Nat) (i x : Nat) : Bool := (List.range i).any fun j => A j == x
theorem snB_zero (A : Nat → Nat) (x : Nat) : snB A 0 x = false := rfl
theorem snB_succ (A : Nat → Nat) (i x : Nat) : snB A (i + 1) x = (snB A i x || A i == x) := by simp [snB, List.range_succ]
theorem snB_fresh (A : Nat → Nat) (n i : Nat) (hi : i < n) (h : ∀ a b, a < n → b < n → A a = A b → a = b) : snB A i (A i) = false := by
  unfold snB
  rw [List.any_eq_false]
  intro j hj he
  have := List.mem_range.1 hj
  have := h j i (by omega) hi (by simpa using he)
  omega

end Go.Proofs.Ytcdnpdmcijiffaa

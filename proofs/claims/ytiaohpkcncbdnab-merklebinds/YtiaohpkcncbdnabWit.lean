/- The first two unlike texts of one sum: mathematics. -/
import Derived.Test.YtiaohpkcncbdnabMkA
import Derived.Maps.OwnSet
import Derived.Maps.Views
namespace Go.Proofs.Ytiaohpkcncbdnab
open Go.RowKit
set_option linter.unusedVariables false

/-- the i-th and the k-th are unlike and have one sum -/
def Bad (T : List By) (i k : Nat) : Prop := ∃ (hi : i < T.length) (hk : k < T.length), i < k ∧ T[i] ≠ T[k] ∧ shaSum T[i] = shaSum T[k]
/-- what is known of the first j texts: the first pair of them is left and right, or there is none -/
def WitAt (T : List By) (j l r : Nat) : Prop := (l = T.length ∧ ∀ i k, k < j → ¬ Bad T i k) ∨ (l < j ∧ r < j ∧ Bad T l r ∧ (∀ k, k < r → ¬ Bad T l k) ∧ ∀ i k, i < l → k < j → ¬ Bad T i k)
theorem witAt_zero (T : List By) : WitAt T 0 T.length 0 := .inl ⟨rfl, fun i k h => absurd h (by omega)⟩
/-- a sum that was not seen -/
theorem witAt_new {T : List By} {j l r : Nat} (h : WitAt T j l r) (hj : j < T.length) (hn : ∀ i (hi : i < T.length), i < j → shaSum T[i] ≠ shaSum T[j]) : WitAt T (j + 1) l r := by
  have nb : ∀ i, ¬ Bad T i j := fun i ⟨hi, _, h1, _, h3⟩ => hn i hi h1 h3
  rcases h with ⟨h1, h2⟩ | ⟨h1, h2, h3, h4, h5⟩
  · refine .inl ⟨h1, fun i k hk => ?_⟩
    by_cases e : k = j
    · rw [e]; exact nb i
    · exact h2 i k (by omega)
  · refine .inr ⟨by omega, by omega, h3, h4, fun i k hi hk => ?_⟩
    by_cases e : k = j
    · rw [e]; exact nb i
    · exact h5 i k hi (by omega)
/-- one that was seen first at a, by an unlike text, ahead of the left one -/
theorem witAt_set {T : List By} {j l r a : Nat} (h : WitAt T j l r) (hj : j < T.length) (ha : a < j) (hs : shaSum (T[a]'(by omega)) = shaSum T[j]) (hf : ∀ i (hi : i < T.length), i < a → shaSum T[i] ≠ shaSum T[j]) (hal : a < l) (hu : T[a]'(by omega) ≠ T[j]) : WitAt T (j + 1) a j := by
  refine .inr ⟨by omega, by omega, ⟨by omega, hj, ha, hu, hs⟩, fun k hk => ?_, fun i k hi hk => ?_⟩
  · rcases h with ⟨h1, h2⟩ | ⟨h1, h2, h3, h4, h5⟩
    · exact h2 a k hk
    · exact h5 a k hal hk
  · by_cases e : k = j
    · rw [e]
      exact fun ⟨h1, _, _, _, h5⟩ => hf i h1 hi h5
    · rcases h with ⟨h1, h2⟩ | ⟨h1, h2, h3, h4, h5⟩
      · exact h2 i k (by omega)
      · exact h5 i k (by omega) (by omega)
/-- one that was seen first at a, and is not set -/
theorem witAt_keep {T : List By} {j l r a : Nat} (h : WitAt T j l r) (hj : j < T.length) (ha : a < j) (hs : shaSum (T[a]'(by omega)) = shaSum T[j]) (hf : ∀ i (hi : i < T.length), i < a → shaSum T[i] ≠ shaSum T[j]) (hk : ¬ a < l ∨ T[a]'(by omega) = T[j]) : WitAt T (j + 1) l r := by
  -- a pair with the new one would have been a pair with the first one
  have key : ∀ i, Bad T i j → T[a]'(by omega) = T[j] → a ≤ i ∧ Bad T a i := by
    rintro i ⟨hi, _, h1, h2, h3⟩ he
    have h4 : a ≤ i := by
      rcases Nat.lt_or_ge i a with h | h
      · exact absurd h3 (hf i hi h)
      · exact h
    have h5 : a ≠ i := by
      rintro rfl
      exact h2 he
    exact ⟨h4, by omega, hi, by omega, (by rw [he]; exact fun e => h2 e.symm), hs.trans h3.symm⟩
  rcases h with ⟨h1, h2⟩ | ⟨h1, h2, h3, h4, h5⟩
  · have he : T[a]'(by omega) = T[j] := by
      rcases hk with h | h
      · omega
      · exact h
    refine .inl ⟨h1, fun i k hk' => ?_⟩
    by_cases e : k = j
    · rw [e]
      intro hb
      have hij : i < j := hb.2.2.1
      exact h2 a i hij (key i hb he).2
    · exact h2 i k (by omega)
  · refine .inr ⟨by omega, by omega, h3, h4, fun i k hi hk' => ?_⟩
    by_cases e : k = j
    · rw [e]
      intro hb
      have hij : i < j := hb.2.2.1
      rcases hk with h | he
      · obtain ⟨hi', _, _, _, h3'⟩ := hb
        rcases Nat.lt_or_ge i a with h' | h'
        · exact hf i hi' h' h3'
        · omega
      · obtain ⟨h6, h7⟩ := key i hb he
        exact h5 a i (by omega) hij h7
    · exact h5 i k hi (by omega)
/-- the answer is one -/
theorem witAt_eq {T : List By} {l r l' r' : Nat} (h : WitAt T T.length l r) (h' : WitAt T T.length l' r') : l = l' ∧ (l < T.length → r = r') := by
  rcases h with ⟨h1, h2⟩ | ⟨h1, h2, h3, h4, h5⟩
  · rcases h' with ⟨g1, g2⟩ | ⟨g1, g2, g3, g4, g5⟩
    · exact ⟨by omega, fun h => by omega⟩
    · exact absurd g3 (h2 _ _ g2)
  · rcases h' with ⟨g1, g2⟩ | ⟨g1, g2, g3, g4, g5⟩
    · exact absurd h3 (g2 _ _ h2)
    · have e : l = l' := by
        rcases Nat.lt_trichotomy l l' with h | h | h
        · exact absurd h3 (g5 l r h h2)
        · exact h
        · exact absurd g3 (h5 l' r' h g2)
      subst e
      refine ⟨rfl, fun _ => ?_⟩
      rcases Nat.lt_trichotomy r r' with h | h | h
      · exact absurd h3 (g4 r h)
      · exact h
      · exact absurd g3 (h4 r' h)

/-- the map of the first places of the sums of the first j texts -/
def MapAt (T : List By) (j : Nat) (D : DataW Unit) : Prop := Maps.IsMap D ∧ (∀ x : By, (∀ i (hi : i < T.length), i < j → shaSum T[i] ≠ x) → Maps.has D (.string x) = false) ∧
  ∀ i (hi : i < T.length), i < j → (∀ i' (hi' : i' < T.length), i' < i → shaSum T[i'] ≠ shaSum T[i]) → Maps.has D (.string (shaSum T[i])) = true ∧ ∀ z, D.atKey (.string (shaSum T[i])) z = .lit (.int .i64 i)
theorem mapAt_zero (T : List By) : MapAt T 0 (.map []) := ⟨⟨[], rfl⟩, fun _ _ => rfl, fun i _ h => absurd h (by omega)⟩
theorem lit_ne {x y : By} (h : x ≠ y) : (Lit.string x) ≠ .string y := fun e => h (by cases e; rfl)
theorem key_lit (x : By) : WideAt.IsKeyLit (.string x) := by trivial
theorem mapAt_new {T : List By} {j : Nat} {D : DataW Unit} (h : MapAt T j D) (hj : j < T.length) (hn : ∀ i (hi : i < T.length), i < j → shaSum T[i] ≠ shaSum T[j]) : MapAt T (j + 1) (D.put (.string (shaSum T[j])) (.lit (.int .i64 j))) := by
  obtain ⟨h1, h2, h3⟩ := h
  refine ⟨?_, fun x hx => ?_, fun i hi hij hf => ?_⟩
  · obtain ⟨es, rfl⟩ := h1
    exact ⟨_, rfl⟩
  · rw [Maps.has_put_other (lit_ne (fun e => hx j hj (by omega) e.symm))]
    exact h2 x (fun i hi h => hx i hi (by omega))
  · by_cases e : i = j
    · subst e
      exact ⟨Maps.has_put_same h1 (key_lit _) _, fun z => Maps.atKey_put_same h1 (key_lit _) _ _⟩
    · have hne := lit_ne (hn i hi (by omega))
      rw [Maps.has_put_other hne]
      obtain ⟨g1, g2⟩ := h3 i hi (by omega) hf
      exact ⟨g1, fun z => by rw [Maps.atKey_put_other hne]; exact g2 z⟩
theorem mapAt_old {T : List By} {j a : Nat} {D : DataW Unit} (h : MapAt T j D) (hj : j < T.length) (ha : a < j) (hs : shaSum (T[a]'(by omega)) = shaSum T[j]) : MapAt T (j + 1) D := by
  obtain ⟨h1, h2, h3⟩ := h
  refine ⟨h1, fun x hx => h2 x (fun i hi h => hx i hi (by omega)), fun i hi hij hf => ?_⟩
  by_cases e : i = j
  · subst e
    exact absurd hs (hf a (by omega) ha)
  · exact h3 i hi (by omega) hf
/-- the first place of a sum among the first j, or none -/
theorem first_of (T : List By) (x : By) : ∀ j, (∀ i (hi : i < T.length), i < j → shaSum T[i] ≠ x) ∨ ∃ (a : Nat) (ha : a < T.length), a < j ∧ shaSum T[a] = x ∧ ∀ i (hi : i < T.length), i < a → shaSum T[i] ≠ x
  | 0 => .inl fun i _ h => absurd h (by omega)
  | j + 1 => by
    rcases first_of T x j with h | ⟨a, ha, h1, h2, h3⟩
    · by_cases hj : j < T.length
      · by_cases e : shaSum T[j] = x
        · exact .inr ⟨j, hj, by omega, e, h⟩
        · refine .inl fun i hi hij => ?_
          by_cases ei : i = j
          · subst ei; exact e
          · exact h i hi (by omega)
      · exact .inl fun i hi hij => h i hi (by omega)
    · exact .inr ⟨a, ha, by omega, h2, h3⟩

end Go.Proofs.Ytiaohpkcncbdnab

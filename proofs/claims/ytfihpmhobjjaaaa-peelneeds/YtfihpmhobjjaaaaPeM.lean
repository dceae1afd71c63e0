/- Mathematics of peeling: steps, what gets known, that it hangs on no order. -/
import Derived.Test.YtfihpmhobjjaaaaLib
namespace Go.Proofs.Ytfihpmhobjjaaaa
set_option linter.unusedVariables false

/-- what of a row is not known -/
def unk (S : Nat → Bool) (r : List Nat) : List Nat := r.filter fun i => !S i
def one? : List Nat → Option Nat
  | [i] => some i
  | _ => none
/-- the number that alone is not known -/
def lstN (S : Nat → Bool) (r : List Nat) : Option Nat := one? (unk S r)
def mkS (S : Nat → Bool) (i : Nat) : Nat → Bool := fun j => decide (j = i) || S j
/-- the first ripe row, counted from k on, and its number -/
def ripe1 (S : Nat → Bool) : Nat → List (List Nat) → Option (Nat × Nat)
  | _, [] => none
  | k, r :: R => match lstN S r with
    | some i => some (k, i)
    | none => ripe1 S (k + 1) R
def peelF : Nat → (Nat → Bool) → List (List Nat) → List (Nat × Nat) × (Nat → Bool)
  | 0, S, _ => ([], S)
  | f + 1, S, R => match ripe1 S 0 R with
    | none => ([], S)
    | some p => (p :: (peelF f (mkS S p.2) R).1, (peelF f (mkS S p.2) R).2)
/-- how many below n are not known -/
def un (n : Nat) (S : Nat → Bool) : Nat := ((List.range n).filter fun i => !S i).length
def inS (K : List Nat) : Nat → Bool := fun i => decide (i ∈ K)

theorem one?_some {l : List Nat} {i : Nat} (h : one? l = some i) : l = [i] := by
  match l, h with
  | [j], h => simp [one?] at h; rw [h]
theorem lstN_some {S : Nat → Bool} {r : List Nat} {i : Nat} (h : lstN S r = some i) : i ∈ r ∧ S i = false ∧ ∀ j ∈ r, S j = false → j = i := by
  have e := one?_some h
  have hi : i ∈ unk S r := by rw [e]; simp
  unfold unk at hi
  rw [List.mem_filter] at hi
  refine ⟨hi.1, by simpa using hi.2, fun j hj hs => ?_⟩
  have : j ∈ unk S r := by
    unfold unk
    rw [List.mem_filter]
    exact ⟨hj, by simp [hs]⟩
  rw [e] at this
  simpa using this
theorem nodup_one {l : List Nat} {i : Nat} (hn : l.Nodup) (hi : i ∈ l) (h : ∀ j ∈ l, j = i) : l = [i] := by
  match l, hn, hi, h with
  | [a], _, hi, _ => simp at hi; rw [hi]
  | a :: b :: t, hn, _, h =>
    have h1 := h a (by simp)
    have h2 := h b (by simp)
    simp [h1, h2] at hn
theorem lstN_of {S : Nat → Bool} {r : List Nat} {i : Nat} (hn : r.Nodup) (hi : i ∈ r) (hs : S i = false) (h : ∀ j ∈ r, S j = false → j = i) : lstN S r = some i := by
  have e : unk S r = [i] := by
    unfold unk
    refine nodup_one (hn.filter _) (by rw [List.mem_filter]; exact ⟨hi, by simp [hs]⟩) (fun j hj => ?_)
    rw [List.mem_filter] at hj
    exact h j hj.1 (by simpa using hj.2)
  unfold lstN
  rw [e]
  rfl
theorem ripe1_none {S : Nat → Bool} : ∀ {R : List (List Nat)} {k : Nat}, ripe1 S k R = none → ∀ r ∈ R, lstN S r = none
  | [], _, _, r, hr => by simp at hr
  | x :: R, k, h, r, hr => by
    unfold ripe1 at h
    cases hx : lstN S x with
    | some i => rw [hx] at h; simp at h
    | none =>
      rw [hx] at h
      rcases List.mem_cons.1 hr with rfl | hr
      · exact hx
      · exact ripe1_none h r hr
theorem ripe1_no {S : Nat → Bool} : ∀ {R : List (List Nat)} {k : Nat}, (∀ r ∈ R, lstN S r = none) → ripe1 S k R = none
  | [], _, _ => rfl
  | x :: R, k, h => by
    unfold ripe1
    rw [h x (by simp)]
    exact ripe1_no (fun r hr => h r (by simp [hr]))
theorem ripe1_some {S : Nat → Bool} : ∀ {R : List (List Nat)} {k : Nat} {p : Nat × Nat}, ripe1 S k R = some p → ∃ t, p.1 = k + t ∧ ∃ h : t < R.length, lstN S R[t] = some p.2
  | [], _, _, h => by simp [ripe1] at h
  | x :: R, k, p, h => by
    unfold ripe1 at h
    cases hx : lstN S x with
    | some i =>
      rw [hx] at h
      simp at h
      subst h
      exact ⟨0, rfl, by simp, hx⟩
    | none =>
      rw [hx] at h
      obtain ⟨t, h1, h2, h3⟩ := ripe1_some h
      exact ⟨t + 1, by omega, by simpa using h2, by simpa using h3⟩
theorem ripe1_at {S : Nat → Bool} : ∀ {R : List (List Nat)} {k t i : Nat} (ht : t < R.length), (∀ s (h : s < R.length), s < t → lstN S R[s] = none) → lstN S R[t] = some i → ripe1 S k R = some (k + t, i)
  | [], _, _, _, ht, _, _ => by simp at ht
  | x :: R, k, 0, i, ht, _, h => by
    unfold ripe1
    have : lstN S x = some i := h
    rw [this]
    rfl
  | x :: R, k, t + 1, i, ht, hb, h => by
    unfold ripe1
    have h0 : lstN S x = none := hb 0 (by simp) (by omega)
    rw [h0]
    have := ripe1_at (S := S) (R := R) (k := k + 1) (t := t) (i := i) (by simpa using ht) (fun s hs hst => by
      have := hb (s + 1) (by simpa using hs) (by omega)
      simpa using this) (by simpa using h)
    rw [this, show k + 1 + t = k + (t + 1) by omega]
theorem filter_len_lt (p q : Nat → Bool) : ∀ l : List Nat, (∀ j ∈ l, q j = true → p j = true) → (∃ j ∈ l, p j = true ∧ q j = false) → (l.filter q).length < (l.filter p).length
  | [], _, ⟨j, hj, _⟩ => by simp at hj
  | x :: l, h, ⟨j, hj, h1, h2⟩ => by
    have hle : (l.filter q).length ≤ (l.filter p).length := by
      rw [← List.countP_eq_length_filter, ← List.countP_eq_length_filter]
      exact List.countP_mono_left (fun j hj => h j (by simp [hj]))
    rcases List.mem_cons.1 hj with rfl | hj'
    · rw [List.filter_cons, List.filter_cons, h1, h2]
      simp
      omega
    · have ih := filter_len_lt p q l (fun j hj => h j (by simp [hj])) ⟨j, hj', h1, h2⟩
      rw [List.filter_cons, List.filter_cons]
      cases hq : q x with
      | true => rw [h x (by simp) hq]; simpa using ih
      | false =>
        cases p x with
        | true => simp; omega
        | false => simpa using ih
theorem un_mk {n i : Nat} {S : Nat → Bool} (hi : i < n) (hs : S i = false) : un n (mkS S i) < un n S := by
  unfold un
  refine filter_len_lt _ _ _ (fun j _ h => ?_) ⟨i, List.mem_range.2 hi, by simp [hs], by simp [mkS]⟩
  simp [mkS] at h
  simp [h.2]
theorem un_le (n : Nat) (S : Nat → Bool) : un n S ≤ n := by
  unfold un
  have := List.length_filter_le (fun i => !S i) (List.range n)
  simpa using this
/-- rows below n -/
def RLt (n : Nat) (R : List (List Nat)) : Prop := ∀ r ∈ R, ∀ x ∈ r, x < n
theorem ripe_num {n : Nat} {R : List (List Nat)} {S : Nat → Bool} {p : Nat × Nat} (hR : RLt n R) (h : ripe1 S 0 R = some p) : p.2 < n ∧ S p.2 = false ∧ ∃ r ∈ R, lstN S r = some p.2 := by
  obtain ⟨t, h1, h2, h3⟩ := ripe1_some h
  obtain ⟨a, b, c⟩ := lstN_some h3
  exact ⟨hR _ (List.getElem_mem h2) _ a, b, _, List.getElem_mem h2, h3⟩
theorem peelF_none {S : Nat → Bool} {R : List (List Nat)} (h : ripe1 S 0 R = none) : ∀ f, peelF f S R = ([], S)
  | 0 => rfl
  | f + 1 => by unfold peelF; rw [h]
theorem peelF_some {S : Nat → Bool} {R : List (List Nat)} {p : Nat × Nat} (h : ripe1 S 0 R = some p) (f : Nat) : peelF (f + 1) S R = (p :: (peelF f (mkS S p.2) R).1, (peelF f (mkS S p.2) R).2) := by
  show (match ripe1 S 0 R with | none => ([], S) | some p => (p :: (peelF f (mkS S p.2) R).1, (peelF f (mkS S p.2) R).2)) = _
  rw [h]
/-- how much fuel there is does not matter, if it is enough -/
theorem peelF_fuel {n : Nat} {R : List (List Nat)} (hR : RLt n R) : ∀ (f g : Nat) (S : Nat → Bool), un n S ≤ f → un n S ≤ g → peelF f S R = peelF g S R := by
  intro f
  induction f with
  | zero =>
    intro g S h1 h2
    cases h : ripe1 S 0 R with
    | none => rw [peelF_none h, peelF_none h]
    | some p =>
      obtain ⟨a, b, _⟩ := ripe_num hR h
      have := un_mk a b
      omega
  | succ f ih =>
    intro g S h1 h2
    cases h : ripe1 S 0 R with
    | none => rw [peelF_none h, peelF_none h]
    | some p =>
      obtain ⟨a, b, _⟩ := ripe_num hR h
      have := un_mk a b
      cases g with
      | zero => omega
      | succ g => rw [peelF_some h, peelF_some h, ih g (mkS S p.2) (by omega) (by omega)]
/-- nothing is ripe -/
def Shut (T : Nat → Bool) (R : List (List Nat)) : Prop := ∀ r ∈ R, lstN T r = none
theorem peelF_shut {n : Nat} {R : List (List Nat)} (hR : RLt n R) : ∀ (f : Nat) (S : Nat → Bool), un n S ≤ f → Shut (peelF f S R).2 R := by
  intro f
  induction f with
  | zero =>
    intro S h1
    cases h : ripe1 S 0 R with
    | none => rw [peelF_none h]; exact ripe1_none h
    | some p =>
      obtain ⟨a, b, _⟩ := ripe_num hR h
      have := un_mk a b
      omega
  | succ f ih =>
    intro S h1
    cases h : ripe1 S 0 R with
    | none => rw [peelF_none h]; exact ripe1_none h
    | some p =>
      obtain ⟨a, b, _⟩ := ripe_num hR h
      have := un_mk a b
      rw [peelF_some h]
      exact ih (mkS S p.2) (by omega)
theorem mkS_up {S : Nat → Bool} {i j : Nat} (h : S j = true) : mkS S i j = true := by simp [mkS, h]
theorem mkS_self (S : Nat → Bool) (i : Nat) : mkS S i i = true := by simp [mkS]
theorem mkS_cases {S : Nat → Bool} {i j : Nat} (h : mkS S i j = true) : j = i ∨ S j = true := by simpa [mkS] using h
theorem peelF_up {R : List (List Nat)} : ∀ (f : Nat) (S : Nat → Bool) (j : Nat), S j = true → (peelF f S R).2 j = true := by
  intro f
  induction f with
  | zero => intro S j h; exact h
  | succ f ih =>
    intro S j hj
    cases h : ripe1 S 0 R with
    | none => rw [peelF_none h]; exact hj
    | some p => rw [peelF_some h]; exact ih _ _ (mkS_up hj)
/-- what gets known is known to whoever has nothing ripe -/
theorem peelF_least {R : List (List Nat)} (hN : ∀ r ∈ R, r.Nodup) {T : Nat → Bool} (hT : Shut T R) : ∀ (f : Nat) (S : Nat → Bool), (∀ j, S j = true → T j = true) → ∀ j, (peelF f S R).2 j = true → T j = true := by
  intro f
  induction f with
  | zero => intro S h j hj; exact h j hj
  | succ f ih =>
    intro S hS j hj
    cases h : ripe1 S 0 R with
    | none => rw [peelF_none h] at hj; exact hS j hj
    | some p =>
      rw [peelF_some h] at hj
      refine ih (mkS S p.2) (fun i hi => ?_) j hj
      rcases mkS_cases hi with rfl | hi
      · obtain ⟨t, h1, h2, h3⟩ := ripe1_some h
        obtain ⟨a, b, c⟩ := lstN_some h3
        cases hp : T p.2 with
        | true => rfl
        | false =>
          have := lstN_of (S := T) (hN _ (List.getElem_mem h2)) a hp (fun k hk hs => c k hk (by
            cases hk2 : S k with
            | false => rfl
            | true => rw [hS k hk2] at hs; cases hs))
          rw [hT _ (List.getElem_mem h2)] at this
          cases this
      · exact hS i hi
theorem peelF_lt {n : Nat} {R : List (List Nat)} (hR : RLt n R) : ∀ (f : Nat) (S : Nat → Bool), (∀ j, S j = true → j < n) → ∀ j, (peelF f S R).2 j = true → j < n := by
  intro f
  induction f with
  | zero => intro S h j hj; exact h j hj
  | succ f ih =>
    intro S hS j hj
    cases h : ripe1 S 0 R with
    | none => rw [peelF_none h] at hj; exact hS j hj
    | some p =>
      rw [peelF_some h] at hj
      refine ih (mkS S p.2) (fun i hi => ?_) j hj
      rcases mkS_cases hi with rfl | hi
      · exact (ripe_num hR h).1
      · exact hS i hi
/-- the numbers that are known behind peeling -/
def knN (n : Nat) (R : List (List Nat)) (K : List Nat) : List Nat := (List.range n).filter fun i => (peelF n (inS K) R).2 i
theorem mem_knN {n : Nat} {R : List (List Nat)} {K : List Nat} {i : Nat} : i ∈ knN n R K ↔ i < n ∧ (peelF n (inS K) R).2 i = true := by
  unfold knN
  rw [List.mem_filter, List.mem_range]
theorem knN_sorted (n : Nat) (R : List (List Nat)) (K : List Nat) : (knN n R K).Pairwise (· < ·) := List.Pairwise.filter _ List.pairwise_lt_range
theorem knN_len (n : Nat) (R : List (List Nat)) (K : List Nat) : (knN n R K).length ≤ n := by
  have := List.length_filter_le (fun i => (peelF n (inS K) R).2 i) (List.range n)
  simpa [knN] using this
theorem known_sub {n : Nat} {R R' : List (List Nat)} {K K' : List Nat} (hR : RLt n R) (hN : ∀ r ∈ R', r.Nodup) (hs : ∀ r ∈ R', r ∈ R) (hK : ∀ i ∈ K', (peelF n (inS K) R).2 i = true) (i : Nat) (h : i ∈ knN n R' K') : i ∈ knN n R K := by
  rw [mem_knN] at h ⊢
  refine ⟨h.1, peelF_least hN (T := (peelF n (inS K) R).2) (fun r hr => peelF_shut hR n (inS K) (un_le _ _) r (hs r hr)) n (inS K') (fun j hj => hK j (by simpa [inS] using hj)) i h.2⟩
theorem peel_self {n : Nat} {R : List (List Nat)} {K : List Nat} {i : Nat} (h : i ∈ K) : (peelF n (inS K) R).2 i = true := peelF_up _ _ _ (by simp [inS, h])
theorem filter_ext {p q : Nat → Bool} {n : Nat} (h : ∀ i, i < n → (p i = true ↔ q i = true)) : (List.range n).filter p = (List.range n).filter q := by
  refine List.filter_congr (fun i hi => ?_)
  have := h i (List.mem_range.1 hi)
  cases hp : p i <;> cases hq : q i <;> simp [hp, hq] at this ⊢
theorem knN_eq {n : Nat} {R R' : List (List Nat)} {K K' : List Nat} (h1 : ∀ i ∈ knN n R K, i ∈ knN n R' K') (h2 : ∀ i ∈ knN n R' K', i ∈ knN n R K) : knN n R K = knN n R' K' :=
  filter_ext fun i hi => ⟨fun h => (mem_knN.1 (h1 i (mem_knN.2 ⟨hi, h⟩))).2, fun h => (mem_knN.1 (h2 i (mem_knN.2 ⟨hi, h⟩))).2⟩
/-- in which order rows stand does not matter -/
theorem known_order {n : Nat} {R R' : List (List Nat)} {K : List Nat} (hR : RLt n R) (hN : ∀ r ∈ R, r.Nodup) (hs : ∀ r, r ∈ R' ↔ r ∈ R) : knN n R' K = knN n R K :=
  knN_eq (fun i hi => known_sub hR (fun r hr => hN r ((hs r).1 hr)) (fun r hr => (hs r).1 hr) (fun i hi => peel_self hi) i hi)
    (fun i hi => known_sub (fun r hr => hR r ((hs r).1 hr)) hN (fun r hr => (hs r).2 hr) (fun i hi => peel_self hi) i hi)
/-- peeled again, nothing more gets known -/
theorem known_again {n : Nat} {R : List (List Nat)} {K : List Nat} (hR : RLt n R) (hN : ∀ r ∈ R, r.Nodup) : knN n R (knN n R K) = knN n R K :=
  knN_eq (fun i hi => known_sub hR hN (fun r hr => hr) (fun i hi => (mem_knN.1 hi).2) i hi)
    (fun i hi => mem_knN.2 ⟨(mem_knN.1 hi).1, peel_self hi⟩)
/-- more makes no less known -/
theorem known_more {n : Nat} {R R' : List (List Nat)} {K K' : List Nat} (hR : RLt n R) (hN : ∀ r ∈ R, r.Nodup) (hs : ∀ r ∈ R', r ∈ R) (hk : ∀ i ∈ K', i ∈ K) (i : Nat) (h : i ∈ knN n R' K') : i ∈ knN n R K :=
  known_sub hR (fun r hr => hN r (hs r hr)) hs (fun i hi => peel_self (hk i hi)) i h
theorem known_own {n : Nat} {R : List (List Nat)} {K : List Nat} (hK : ∀ i ∈ K, i < n) (i : Nat) (h : i ∈ K) : i ∈ knN n R K := mem_knN.2 ⟨hK i h, peel_self h⟩
end Go.Proofs.Ytfihpmhobjjaaaa

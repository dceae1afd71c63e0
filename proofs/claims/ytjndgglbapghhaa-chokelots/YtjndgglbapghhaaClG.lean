/- choke: mathematics of ChokeSlots. -/
import Derived.Test.YtjndgglbapghhaaClE
namespace Go.Proofs.Ytjndgglbapghhaa
open Go.RowKit Go.Sort
set_option linter.unusedVariables false

def wan (l : List Pr) : Nat := (l.filter fun p => p.wa).length
theorem dTop_len (x y : Int) (s : Nat) (l : List Pr) (hr : Ris l) : (dTop x y s l).length = min s (wan l) := by
  have hO := swo_st x y
  have hO2 := swo_nm
  let F := l.filter fun p => p.wa
  let L := F.mergeSort fun a b => !(ltOf (stC x y) b a)
  have hL : L.Perm F := List.mergeSort_perm _ _
  have asy : ∀ (f : Pr → Pr → Bool), SWO f → ∀ a b, f a b = true → f b a = false := fun f h a b hab => by
    cases hba : f b a with
    | false => rfl
    | true =>
      have := h.trans a b a hab hba
      rw [h.irrefl] at this
      cases this
  have hLs : L.Pairwise fun a b => ltOf (stC x y) b a = false := by
    have h := List.pairwise_mergeSort (le := fun a b => !(ltOf (stC x y) b a)) (fun a b c h1 h2 => by
      simp only [Bool.not_eq_true'] at h1 h2 ⊢
      exact hO.ntrans c b a h2 h1) (fun a b => by
      cases h1 : ltOf (stC x y) b a with
      | false => rfl
      | true => rw [asy _ hO _ _ h1]; rfl) F
    exact h.imp (fun {a b} hab => by simpa using hab)
  let S := (L.take s).mergeSort fun a b => !(ltOf nmC b a)
  have hS : S.Perm (L.take s) := List.mergeSort_perm _ _
  have hSs : S.Pairwise fun a b => ltOf nmC b a = false := by
    have h := List.pairwise_mergeSort (le := fun a b => !(ltOf nmC b a)) (fun a b c h1 h2 => by
      simp only [Bool.not_eq_true'] at h1 h2 ⊢
      exact hO2.ntrans c b a h2 h1) (fun a b => by
      cases h1 : ltOf nmC b a with
      | false => rfl
      | true => rw [asy _ hO2 _ _ h1]; rfl) (L.take s)
    exact h.imp (fun {a b} hab => by simpa using hab)
  rw [← top_eq x y s l hr L S hL hLs hS hSs, hS.length_eq, List.length_take, hL.length_eq]
  rfl
theorem ndL_len (l : List Pr) : (ndL l).length = l.length := by unfold ndL; exact List.length_map _
theorem ot_len (x y : Int) (s : Nat) (l : List Pr) (hr : Ris l) : (l.filter (otP (ndL (dTop x y s l)))).length + (ndL (dTop x y s l)).length = wan l := by
  rw [ndL_len]
  have key : ∀ m : List Pr, (∀ p ∈ m, p ∈ l) → (m.filter (otP (ndL (dTop x y s l)))).length + (m.filter (topP x y s l)).length = (m.filter fun p => p.wa).length := by
    intro m
    induction m with
    | nil => intro _; rfl
    | cons a m ih =>
      intro h
      have ih := ih (fun p hp => h p (List.mem_cons_of_mem _ hp))
      have ha := hasTop hr (topP x y s l) (h a (by simp))
      rw [dTop_eq] at *
      cases hw : a.wa with
      | false =>
        have h1 : otP (ndL (l.filter (topP x y s l))) a = false := by unfold otP; rw [hw]; rfl
        have h2 : topP x y s l a = false := by unfold topP; rw [hw]; rfl
        simp [h1, h2, hw]
        omega
      | true =>
        cases ht : topP x y s l a with
        | true =>
          have h1 : otP (ndL (l.filter (topP x y s l))) a = false := by unfold otP; rw [ha, ht]; simp
          simp [h1, ht, hw]
          omega
        | false =>
          have h1 : otP (ndL (l.filter (topP x y s l))) a = true := by unfold otP; rw [ha, ht, hw]; rfl
          simp [h1, ht, hw]
          omega
  rw [dTop_eq] at *
  exact key l (fun _ h => h)
theorem cho_len (x y : Int) (s lot : Nat) (l : List Pr) (ha : arP 1 l = true) : (choL x y s lot l).length = (ndL (dTop x y s l)).length + (if (ndL (dTop x y s l)).length < wan l then 1 else 0) := by
  have ho := ot_len x y s l (arP_ris ha).1
  rcases Nat.eq_zero_or_pos (l.filter (otP (ndL (dTop x y s l)))).length with h | h
  · rw [← cho_none ha h, srtI_len, if_neg (by omega)]
    omega
  · rw [← cho_some (lot := lot) ha (Nat.mod_lt _ h), srtI_len, List.length_append, if_pos (by omega)]
    rfl
theorem hasTopB {x y : Int} {s : Nat} {l : List Pr} (ha : arP 1 l = true) {p : Pr} (hp : p ∈ l) : hasI (ndL (dTop x y s l)) p.nd = topP x y s l p := by
  rw [dTop_eq]
  exact hasTop (arP_ris ha).1 _ hp
theorem hasCho {x y : Int} {s lot : Nat} {l : List Pr} (ha : arP 1 l = true) {p : Pr} (hp : p ∈ l) : hasI (choL x y s lot l) p.nd = (topP x y s l p || decide (p.nd = luck (ndL (dTop x y s l)) lot l)) := by
  unfold choL chL
  rw [hasTop (arP_ris ha).1 _ hp]
  unfold chP
  rw [hasTopB ha hp]
/-- who is of the top wants some, and is chosen -/
theorem slot1 {x y : Int} {s lot : Nat} {l : List Pr} (ha : arP 1 l = true) {p : Pr} (hp : p ∈ l) (h : hasI (ndL (dTop x y s l)) p.nd = true) : p.wa = true ∧ hasI (choL x y s lot l) p.nd = true := by
  rw [hasTopB ha hp] at h
  refine ⟨?_, by rw [hasCho ha hp, h]; rfl⟩
  unfold topP at h
  rw [Bool.and_eq_true] at h
  exact h.1
/-- who is chosen wants some -/
theorem slot2 {x y : Int} {s lot : Nat} {l : List Pr} (ha : arP 1 l = true) {p : Pr} (hp : p ∈ l) (h : hasI (choL x y s lot l) p.nd = true) : p.wa = true := by
  rw [hasCho ha hp, Bool.or_eq_true] at h
  rcases h with h | h
  · unfold topP at h
    rw [Bool.and_eq_true] at h
    exact h.1
  · have e := of_decide_eq_true h
    unfold luck at e
    split at e
    · rename_i q hq
      have hm := List.mem_of_getElem? hq
      obtain ⟨h1, h2⟩ := List.mem_filter.1 hm
      rw [ris_inj (arP_ris ha).1 p hp q h1 e]
      unfold otP at h2
      rw [Bool.and_eq_true] at h2
      exact h2.1
    · have := ((arP_ris ha).2 p hp).1
      omega
theorem filter_sub {α : Type} (P Q : α → Bool) (z : α) : ∀ (l : List α), (∀ q ∈ l, P q = true → Q q = true) → z ∈ l → P z = false → Q z = true → (l.filter P).length < (l.filter Q).length
  | [], _, h, _, _ => by simp at h
  | a :: l, hs, hz, hp, hq => by
    have hle : ∀ m : List α, (∀ q ∈ m, P q = true → Q q = true) → (m.filter P).length ≤ (m.filter Q).length := by
      intro m
      induction m with
      | nil => intro _; exact Nat.le_refl _
      | cons b m ih =>
        intro h
        have ih := ih (fun q hq => h q (List.mem_cons_of_mem _ hq))
        cases hb : P b with
        | true => rw [List.filter_cons, if_pos hb, List.filter_cons, if_pos (h b (by simp) hb)]; simpa using ih
        | false =>
          rw [List.filter_cons, if_neg (by rw [hb]; simp), List.filter_cons]
          split
          · simp; omega
          · exact ih
    rw [List.mem_cons] at hz
    rcases hz with rfl | hz
    · rw [List.filter_cons, if_neg (by rw [hp]; simp), List.filter_cons, if_pos hq]
      have := hle l (fun q h => hs q (List.mem_cons_of_mem _ h))
      simp
      omega
    · have ih := filter_sub P Q z l (fun q h => hs q (List.mem_cons_of_mem _ h)) hz hp hq
      cases hb : P a with
      | true => rw [List.filter_cons, if_pos hb, List.filter_cons, if_pos (hs a (by simp) hb)]; simpa using ih
      | false =>
        rw [List.filter_cons, if_neg (by rw [hb]; simp), List.filter_cons]
        split
        · simp; omega
        · exact ih
/-- none of the others sends more than one of the top -/
theorem slot3 {x y : Int} {s : Nat} {l : List Pr} (ha : arP 1 l = true) {p q : Pr} (hp : p ∈ l) (hq : q ∈ l) (h1 : p.wa = true) (h2 : hasI (ndL (dTop x y s l)) p.nd = false) (h3 : hasI (ndL (dTop x y s l)) q.nd = true) : ¬ q.ra < p.ra := by
  intro hlt
  rw [hasTopB ha hp] at h2
  rw [hasTopB ha hq] at h3
  unfold topP at h2 h3
  rw [h1, Bool.true_and] at h2
  rw [Bool.and_eq_true] at h3
  have c1 := of_decide_eq_false h2
  have c2 := of_decide_eq_true h3.2
  have hpq : ahP x y p q = true := by unfold ahP; rw [lexB_iff]; omega
  have hlt2 := filter_sub (fun r => r.wa && ahP x y r p) (fun r => r.wa && ahP x y r q) p l (fun r _ hr => by
    rw [Bool.and_eq_true] at hr ⊢
    refine ⟨hr.1, ?_⟩
    have h4 := hr.2
    unfold ahP at h4 ⊢
    rw [lexB_iff] at *
    omega) hp (by
    have : ahP x y p p = false := by unfold ahP; rw [lexB_not]; omega
    simp [this]) (by simp [h1, hpq])
  unfold cnt at c1 c2
  omega
end Go.Proofs.Ytjndgglbapghhaa

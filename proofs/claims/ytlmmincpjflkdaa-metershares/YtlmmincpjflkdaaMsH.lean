/- meter: what the document's share finds: mathematics. -/
import Derived.Test.YtlmmincpjflkdaaMsF
namespace Go.Proofs.Ytlmmincpjflkdaa
open Go.RowKit
set_option linter.unusedVariables false

theorem wst_put {q x : Dr} {l : List Dr} (h : q.p < x.p) : wst q (l, true) x = (l ++ [x], true) := by
  rw [wst_n (by omega), wput_t rfl]
theorem fold_put {q : Dr} : ∀ (D : List Dr) (l : List Dr), (∀ x ∈ D, q.p < x.p) → D.foldl (wst q) (l, true) = (l ++ D, true)
  | [], l, _ => by simp
  | x :: D, l, h => by
    rw [List.foldl_cons, wst_put (h x (List.mem_cons_self)), fold_put D _ (fun y hy => h y (List.mem_cons_of_mem _ hy)), List.append_assoc]
    rfl
def ltD (q : Dr) (D : List Dr) : List Dr := D.filter fun x => decide (x.p < q.p)
def gtD (q : Dr) (D : List Dr) : List Dr := D.filter fun x => decide (q.p < x.p)
theorem fold_with {q : Dr} : ∀ (D : List Dr) (l : List Dr), D.Pairwise (fun x y => x.p < y.p) →
    (if (D.foldl (wst q) (l, false)).2 = true then (D.foldl (wst q) (l, false)).1 else (D.foldl (wst q) (l, false)).1 ++ [q]) = l ++ (ltD q D ++ q :: gtD q D)
  | [], l, _ => by simp [ltD, gtD]
  | x :: D, l, h => by
    have h1 : ∀ {y : Dr}, y ∈ D → x.p < y.p := fun {y} hy => List.rel_of_pairwise_cons h hy
    have h2 := h.of_cons
    rw [List.foldl_cons]
    by_cases hx : x.p < q.p
    · rw [wst_n (by omega), wput_n rfl (by omega)]
      have ih := fold_with (q := q) D (l ++ [x]) h2
      dsimp only
      rw [ih]
      have e1 : ltD q (x :: D) = x :: ltD q D := by unfold ltD; rw [List.filter_cons, if_pos (by simpa using hx)]
      have e2 : gtD q (x :: D) = gtD q D := by unfold gtD; rw [List.filter_cons, if_neg (by simp; omega)]
      rw [e1, e2]
      simp
    · have hg : ∀ y ∈ D, q.p < y.p := fun y hy => by have := h1 hy; omega
      have e1 : ltD q (x :: D) = [] := by
        unfold ltD
        rw [List.filter_eq_nil_iff]
        intro y hy
        rcases List.mem_cons.1 hy with rfl | hy
        · simpa using hx
        · have := hg y hy
          simp
          omega
      have e3 : gtD q D = D := by
        unfold gtD
        rw [List.filter_eq_self]
        intro y hy
        simpa using hg y hy
      by_cases he : x.p = q.p
      · rw [wst_e he, wput_y rfl (by omega), fold_put D _ hg]
        have e2 : gtD q (x :: D) = D := by
          have : gtD q (x :: D) = gtD q D := by unfold gtD; rw [List.filter_cons, if_neg (by simp; omega)]
          rw [this, e3]
        rw [e1, e2, if_pos rfl]
        simp
      · rw [wst_n he, wput_y rfl (by omega)]
        dsimp only
        rw [fold_put D _ hg]
        have e2 : gtD q (x :: D) = x :: D := by
          have : gtD q (x :: D) = x :: gtD q D := by unfold gtD; rw [List.filter_cons, if_pos (by simp; omega)]
          rw [this, e3]
        rw [e1, e2, if_pos rfl]
        simp
abbrev Srt (D : List Dr) : Prop := D.Pairwise fun x y => x.p < y.p
theorem withD_eq {q : Dr} {D : List Dr} (h : Srt D) : withD D q = ltD q D ++ q :: gtD q D := by
  have := fold_with (q := q) D [] h
  rw [List.nil_append] at this
  rw [← this]
  unfold withD wS
  rw [List.take_length]
theorem withD_srt {q : Dr} {D : List Dr} (h : Srt D) : Srt (withD D q) := by
  rw [withD_eq h]
  refine List.pairwise_append.2 ⟨h.filter _, List.pairwise_cons.2 ⟨fun y hy => ?_, h.filter _⟩, fun x hx y hy => ?_⟩
  · have := (List.mem_filter.1 hy).2
    simpa using this
  · have h1 := (List.mem_filter.1 hx).2
    have h1 : x.p < q.p := by simpa using h1
    rcases List.mem_cons.1 hy with rfl | hy
    · exact h1
    · have h2 := (List.mem_filter.1 hy).2
      have h2 : q.p < y.p := by simpa using h2
      omega
theorem withD_mem {q : Dr} {D : List Dr} (h : Srt D) {x : Dr} (hx : x ∈ withD D q) : x = q ∨ x ∈ D := by
  rw [withD_eq h] at hx
  rcases List.mem_append.1 hx with hx | hx
  · exact .inr (List.mem_filter.1 hx).1
  · rcases List.mem_cons.1 hx with hx | hx
    · exact .inl hx
    · exact .inr (List.mem_filter.1 hx).1
theorem find_with_same {q : Dr} {D : List Dr} (h : Srt D) : findD (withD D q) q.p = q := by
  unfold findD
  rw [withD_eq h, List.find?_append]
  have : (ltD q D).find? (fun x : Dr => decide (x.p = q.p)) = none := by
    rw [List.find?_eq_none]
    intro x hx
    have h1 := (List.mem_filter.1 hx).2
    have h1 : x.p < q.p := by simpa using h1
    simp
    omega
  rw [this]
  simp
theorem find_with_other {q : Dr} {D : List Dr} (h : Srt D) {p : Int} (hp : p ≠ q.p) : findD (withD D q) p = findD D p := by
  unfold findD
  rw [withD_eq h, List.find?_append, List.find?_cons]
  have hq : decide (q.p = p) = false := by simp; omega
  rw [hq]
  unfold ltD gtD
  rw [List.find?_filter, List.find?_filter]
  rcases Int.lt_or_gt_of_ne hp with h1 | h1
  · have e1 : (fun x : Dr => decide (decide (x.p < q.p) = true ∧ decide (x.p = p) = true)) = fun x : Dr => decide (x.p = p) := by
      funext x
      by_cases hx : x.p = p
      · simp [hx, h1]
      · simp [hx]
    have e2 : D.find? (fun x : Dr => decide (decide (q.p < x.p) = true ∧ decide (x.p = p) = true)) = none := by
      rw [List.find?_eq_none]
      intro x _
      by_cases hx : x.p = p
      · simp [hx]; omega
      · simp [hx]
    rw [e1]
    dsimp only
    rw [e2]
    cases D.find? (fun x : Dr => decide (x.p = p)) <;> rfl
  · have e1 : (fun x : Dr => decide (decide (q.p < x.p) = true ∧ decide (x.p = p) = true)) = fun x : Dr => decide (x.p = p) := by
      funext x
      by_cases hx : x.p = p
      · simp [hx, h1]
      · simp [hx]
    have e2 : D.find? (fun x : Dr => decide (decide (x.p < q.p) = true ∧ decide (x.p = p) = true)) = none := by
      rw [List.find?_eq_none]
      intro x _
      by_cases hx : x.p = p
      · simp [hx]; omega
      · simp [hx]
    rw [e2]
    dsimp only
    rw [e1]
    cases D.find? (fun x : Dr => decide (x.p = p)) <;> rfl
theorem find_mem {D : List Dr} (h : Srt D) {x : Dr} (hx : x ∈ D) : findD D x.p = x := by
  obtain ⟨i, hi⟩ := List.getElem?_of_mem hx
  refine findD_at hi rfl (fun j y hj hy e => ?_)
  obtain ⟨h1, rfl⟩ := List.getElem?_eq_some_iff.1 hi
  obtain ⟨h2, rfl⟩ := List.getElem?_eq_some_iff.1 hy
  have := List.pairwise_iff_getElem.1 h j i h2 h1 hj
  omega
theorem find_p (D : List Dr) (p : Int) : (findD D p).p = p := by
  unfold findD
  cases hf : D.find? (fun x : Dr => decide (x.p = p)) with
  | none => rfl
  | some x => simpa using List.find?_some hf
theorem find_in {D : List Dr} {p : Int} : findD D p ∈ D ∨ ((∀ x ∈ D, x.p ≠ p) ∧ findD D p = ⟨p, 0, 0, [], none, 0⟩) := by
  cases hf : D.find? (fun x : Dr => decide (x.p = p)) with
  | none =>
    right
    refine ⟨fun x hx => by simpa using List.find?_eq_none.1 hf x hx, ?_⟩
    unfold findD
    rw [hf]
    rfl
  | some x =>
    left
    unfold findD
    rw [hf]
    exact List.mem_of_find?_eq_some hf
end Go.Proofs.Ytlmmincpjflkdaa

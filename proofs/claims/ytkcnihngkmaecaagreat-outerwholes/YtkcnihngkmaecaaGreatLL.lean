/- Rows of rows of numbers, of the call's own. -/
import Derived.Test.YtkcnihngkmaecaaGreatPrZ
import Derived.Deep.AppendLies
namespace Go.Proofs.YtkcnihngkmaecaaGreat
open Go.RowKit
set_option linter.unusedVariables false

/-- one place turned -/
def updN {α : Type} (f : Nat → α) (j : Nat) (x : α) : Nat → α := fun i => if i = j then x else f i
theorem updN_same {α : Type} (f : Nat → α) (j : Nat) (x : α) : updN f j x j = x := by simp [updN]
theorem updN_other {α : Type} (f : Nat → α) {i j : Nat} (x : α) (h : i ≠ j) : updN f j x i = f i := by simp [updN, h]
/-- block g holds the rows V, and row j is one of the call's own, with the numbers L j; no two lie in one block -/
structure Rows2 (w : World) (base g n : Nat) (V : Nat → Value) (L : Nat → List Nat) : Prop where
  blk : w.heap[g]? = some (.cells ((List.range n).map V).toArray 26 (0, 0))
  ge : base ≤ g
  row : ∀ j, j < n → w.ownsRow base 3 1 (V j) (L j).length (ic (L j))
  dis : ∀ i j b, i < n → j < n → (V i).ownBlock = some b → (V j).ownBlock = some b → i = j
theorem own_type {w : World} {base n b : Nat} {v : Value} {xs : List Value} (h : w.ownsRow base 3 1 v n xs) (hb : v.ownBlock = some b) : ∃ cur, w.heap[b]? = some (.cells cur 3 (0, 0)) := by
  rcases h.2 with ⟨rfl, _⟩ | ⟨g, cap, cur, rfl, _, hg, _⟩
  · simp [Value.ownBlock] at hb
  · simp [Value.ownBlock] at hb
    subst hb
    exact ⟨cur, hg⟩
theorem own_not {w : World} {base n g : Nat} {v : Value} {xs cur : List Value} (h : w.ownsRow base 3 1 v n xs) (hg : w.heap[g]? = some (.cells cur.toArray 26 (0, 0))) : v.ownBlock ≠ some g := fun e => by
  obtain ⟨c, hc⟩ := own_type h e
  rw [hg] at hc
  simp at hc
theorem Rows2.cell {w : World} {base g n : Nat} {V : Nat → Value} {L : Nat → List Nat} (h : Rows2 w base g n V L) (j : Nat) (hj : j < n) : w.cell? ⟨g, j, none⟩ = some (V j) := by
  rw [cell_of_row _ _ _ _ _ (0, 0) h.blk]
  simp [hj]
theorem Rows2.free {w : World} {base g n : Nat} {V : Nat → Value} {L : Nat → List Nat} (h : Rows2 w base g n V L) (j : Nat) : w.frozen? ⟨g, j, none⟩ = false := by simp [World.frozen?, h.blk]
theorem Rows2.below {w w' : World} {base g n : Nat} {V : Nat → Value} {L : Nat → List Nat} (h : Rows2 w base g n V L) (hb : Below w.heap.size w w') : Rows2 w' base g n V L :=
  ⟨(hb.block _ (lt_of_block h.blk)).trans h.blk, h.ge, fun j hj => by
    rcases (h.row j hj).2 with h1 | ⟨b, cap, cur, h1, h2, h3, h4⟩
    · exact ⟨(h.row j hj).1, .inl h1⟩
    · exact ⟨(h.row j hj).1, .inr ⟨b, cap, cur, h1, h2, (hb.block _ (lt_of_block h3)).trans h3, h4⟩⟩, h.dis⟩
/-- behind an append to row j and the store of what it hands back -/
theorem Rows2.appended {w w1 : World} {base g n j gb cap : Nat} {V : Nat → Value} {L : Nat → List Nat} {x : Nat} (h : Rows2 w base g n V L) (hj : j < n)
    (hown : w1.ownsRow base 3 1 (.slice (some ⟨gb, 0, none⟩) ((L j).length + 1) cap) ((L j).length + 1) (ic (L j) ++ [.int .i64 (x : Int)]))
    (hgrow : w.grownBy w1 (V j).ownBlock) (hl : (V j).ownBlock = some gb ∨ w.heap.size ≤ gb) :
    Rows2 (w1.setCell ⟨g, j, none⟩ (.slice (some ⟨gb, 0, none⟩) ((L j).length + 1) cap)) base g n (updN V j (.slice (some ⟨gb, 0, none⟩) ((L j).length + 1) cap)) (updN L j (L j ++ [x])) := by
  have hg1 : w1.heap[g]? = some (.cells ((List.range n).map V).toArray 26 (0, 0)) := (hgrow.block g (lt_of_block h.blk) (fun e => own_not (h.row j hj) h.blk e.symm)).trans h.blk
  have hset : w1.grownBy (w1.setCell ⟨g, j, none⟩ (.slice (some ⟨gb, 0, none⟩) ((L j).length + 1) cap)) (some g) := ⟨rfl, rfl, rfl, by simp, fun k _ hk => Below.heap_setCell _ _ _ _ (fun e => hk (by rw [e]))⟩
  refine ⟨?_, h.ge, fun i hi => ?_, fun i k b hi hk h1 h2 => ?_⟩
  · rw [heap_setCell_same w1 g j _ 26 _ hg1]
    congr 2
    apply Array.toList_inj.1
    rw [Array.toList_setIfInBounds]
    apply List.ext_getElem?
    intro i
    simp only [List.getElem?_set, List.length_map, List.length_range, List.getElem?_map]
    by_cases e : j = i
    · subst e
      simp [hj, updN]
    · rw [if_neg e]
      by_cases hi : i < n
      · simp [hi, updN]
        intro h
        exact absurd h.symm e
      · simp [hi]
  · by_cases e : i = j
    · subst e
      rw [updN_same, updN_same, ic_append, List.length_append]
      exact hown.kept hset (.inr (own_not hown hg1))
    · rw [updN_other _ _ e, updN_other _ _ e]
      have h1 : w1.ownsRow base 3 1 (V i) (L i).length (ic (L i)) := by
        refine (h.row i hi).kept hgrow ?_
        cases hb : (V i).ownBlock with
        | none => exact .inl rfl
        | some b => exact .inr (fun e' => e (h.dis i j b hi hj hb e'.symm))
      exact h1.kept hset (.inr (own_not h1 hg1))
  · have key : ∀ i, i < n → i ≠ j → ∀ b, (V i).ownBlock = some b → b ≠ gb := by
      intro i hi hne b hb e
      subst e
      rcases hl with hl | hl
      · exact hne (h.dis i j b hi hj hb hl)
      · obtain ⟨c, hc⟩ := own_type (h.row i hi) hb
        have := lt_of_block hc
        omega
    by_cases e1 : i = j
    · by_cases e2 : k = j
      · rw [e1, e2]
      · subst e1
        rw [updN_same] at h1
        rw [updN_other _ _ e2] at h2
        simp [Value.ownBlock] at h1
        exact absurd h1.symm (key k hk e2 b h2)
    · rw [updN_other _ _ e1] at h1
      by_cases e2 : k = j
      · subst e2
        rw [updN_same] at h2
        simp [Value.ownBlock] at h2
        exact absurd h2.symm (key i hi e1 b h1)
      · rw [updN_other _ _ e2] at h2
        exact h.dis i k b hi hk h1 h2
/-- rows that are nil -/
theorem Rows2.made (w : World) (n base : Nat) (hb : base ≤ w.heap.size) : Rows2 (w.alloc (.cells ((List.range n).map fun _ => (.slice none 0 0 : Value)).toArray 26)) base w.heap.size n (fun _ => .slice none 0 0) (fun _ => []) :=
  ⟨heap_alloc_new _ _, hb, fun j hj => World.ownsRow_nil _ _ _ _, fun i j b _ _ h => by simp [Value.ownBlock] at h⟩
end Go.Proofs.YtkcnihngkmaecaaGreat

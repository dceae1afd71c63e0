/- What the order of plane.Near is: mathematics. -/
import Derived.Test.YtjdphcjapdklpaaTkZd
namespace Go.Proofs.Ytjdphcjapdklpaa
open Go.RowKit Go.Sort
set_option linter.unusedVariables false

/-- the notes in the order in which they are near -/
def nearF (x y : Int) (L : List Nt) : List Nt :=
  if h : 0 < L.length then (ordN x y (L.map Nt.pl) (by rw [List.length_map]; exact h)).map fun k => L.getD k.toNat zN else []
theorem ord_spec (x y : Int) (l : List (Int × Int)) (hpos : 0 < l.length) : ∃ d : List (Fin l.length), ordN x y l hpos = d.map (fun (i : Fin l.length) => ((i : Nat) : Int)) ∧ d.Perm (List.ofFn fun i : Fin l.length => i) ∧
    d.Pairwise (fun i j => distA x y l[i].1 l[i].2 ≤ distA x y l[j].1 l[j].2) := by
  letI : Inhabited (Fin l.length) := ⟨⟨0, hpos⟩⟩
  obtain ⟨h1, h2⟩ := insertionSort_holds (near_swo x y l) (Array.ofFn (fun i : Fin l.length => i)) 0 l.length (Nat.zero_le _) (by simp)
  have hsz : (Sort.insertionSort (ltOf (cfN x y l)) (Array.ofFn (fun i : Fin l.length => i)) 0 l.length).size = l.length := by rw [h1.1]; simp
  refine ⟨(Sort.insertionSort (ltOf (cfN x y l)) (Array.ofFn (fun i : Fin l.length => i)) 0 l.length).toList, rfl, ?_, ?_⟩
  · have h3 := h1.2.2
    rw [Array.extract_eq_self_of_le (by rw [hsz]; exact Nat.le_refl _), Array.extract_eq_self_of_le (by simp)] at h3
    rw [Array.toList_ofFn] at h3
    exact h3
  · rw [List.pairwise_iff_getElem]
    intro i j hi hj hij
    have hj2 : j < l.length := by simpa [hsz] using hj
    have h4 := h2 i j (Nat.zero_le _) hij hj2
    rw [lt_cf, decide_eq_false_iff_not] at h4
    have hi3 : i < (Sort.insertionSort (ltOf (cfN x y l)) (Array.ofFn (fun i : Fin l.length => i)) 0 l.length).size := by rw [hsz]; omega
    have hj3 : j < (Sort.insertionSort (ltOf (cfN x y l)) (Array.ofFn (fun i : Fin l.length => i)) 0 l.length).size := by rw [hsz]; omega
    rw [getElem!_pos _ i hi3, getElem!_pos _ j hj3] at h4
    simp only [Array.getElem_toList]
    omega
theorem ord_len (x y : Int) (l : List (Int × Int)) (hpos : 0 < l.length) : (ordN x y l hpos).length = l.length := by
  obtain ⟨d, e, hp, _⟩ := ord_spec x y l hpos
  rw [e, List.length_map, hp.length_eq, List.length_ofFn]
theorem ord_at (x y : Int) (l : List (Int × Int)) (hpos : 0 < l.length) (i : Nat) (hi : i < l.length) : ∃ k : Nat, k < l.length ∧ (ordN x y l hpos)[i]? = some ((k : Nat) : Int) := by
  obtain ⟨d, e, hp, _⟩ := ord_spec x y l hpos
  have hl : d.length = l.length := by rw [hp.length_eq, List.length_ofFn]
  refine ⟨(d[i]'(by omega)).val, (d[i]'(by omega)).isLt, ?_⟩
  rw [e, List.getElem?_map, List.getElem?_eq_getElem (by omega)]
  rfl
theorem near_spec (x y : Int) (L : List Nt) : (nearF x y L).Perm L ∧ (nearF x y L).Pairwise (fun p q => distA x y p.x p.y ≤ distA x y q.x q.y) := by
  unfold nearF
  by_cases h : 0 < L.length
  · rw [dif_pos h]
    obtain ⟨d, e, hp, hs⟩ := ord_spec x y (L.map Nt.pl) (by rw [List.length_map]; exact h)
    rw [e, List.map_map]
    have hf : ∀ i : Fin (L.map Nt.pl).length, ((fun k : Int => L.getD k.toNat zN) ∘ fun (i : Fin (L.map Nt.pl).length) => ((i : Nat) : Int)) i = L[i.val]'(by have := i.isLt; simpa using this) := fun i => by
      have hi : i.val < L.length := by have := i.isLt; simpa using this
      simp [List.getD, hi]
    constructor
    · refine (hp.map _).trans ?_
      have : (List.ofFn fun i : Fin (L.map Nt.pl).length => i).map ((fun k : Int => L.getD k.toNat zN) ∘ fun (i : Fin (L.map Nt.pl).length) => ((i : Nat) : Int)) = L := by
        apply List.ext_getElem
        · simp
        · intro i h1 h2
          simp [List.getD, h2]
      rw [this]
    · rw [List.pairwise_map]
      refine hs.imp ?_
      intro i j hij
      rw [hf i, hf j]
      simpa [Nt.pl] using hij
  · rw [dif_neg h]
    have : L = [] := List.length_eq_zero_iff.1 (by omega)
    subst this
    exact ⟨List.Perm.refl _, List.Pairwise.nil⟩
theorem near_len (x y : Int) (L : List Nt) : (nearF x y L).length = L.length := (near_spec x y L).1.length_eq
end Go.Proofs.Ytjdphcjapdklpaa

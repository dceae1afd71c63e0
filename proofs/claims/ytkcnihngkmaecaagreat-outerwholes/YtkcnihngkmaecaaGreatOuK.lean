/- Mathematics of outer's rules: how many, in what order. -/
import Derived.Test.YtkcnihngkmaecaaGreatOuI
namespace Go.Proofs.YtkcnihngkmaecaaGreat
open Go.RowKit
set_option linter.unusedVariables false

theorem cnt_nodup : ∀ (a : Nat) (L : List Nat), L.Nodup → (∀ x ∈ L, x < a) → ((List.range a).filter fun j => decide (j ∈ L)).length = L.length
  | 0, L, _, h => by
    cases L with
    | nil => rfl
    | cons x L => exact absurd (h x (by simp)) (by omega)
  | a + 1, L, hn, h => by
    rw [List.range_succ, List.filter_append, List.length_append]
    by_cases ha : a ∈ L
    · have h1 := cnt_nodup a (L.erase a) (hn.erase a) (fun x hx => by
        have h2 := h x (List.mem_of_mem_erase hx)
        have h3 : x ≠ a := fun e => by
          subst e
          exact absurd hx (hn.not_mem_erase)
        omega)
      have h2 : ((List.range a).filter fun j => decide (j ∈ L)) = (List.range a).filter fun j => decide (j ∈ L.erase a) := by
        refine List.filter_congr (fun j hj => ?_)
        have hj' := List.mem_range.1 hj
        have : j ∈ L.erase a ↔ j ∈ L := List.mem_erase_of_ne (by omega)
        simp [this]
      rw [h2, h1, List.length_erase_of_mem ha]
      have : 0 < L.length := List.length_pos_of_mem ha
      simp [ha]
      omega
    · rw [cnt_nodup a L hn (fun x hx => by
        have h2 := h x hx
        have h3 : x ≠ a := fun e => ha (by rw [← e]; exact hx)
        omega)]
      simp [ha]
/-- of all auxiliary blocks, those that block i joins -/
theorem cnt_joI (sd a q i : Nat) : ((List.range a).filter fun (j : Nat) => decide ((j : Int) ∈ joI sd a q i)).length = min q a := by
  obtain ⟨h1, h2⟩ := base_nodup sd a q i
  have h3 : ∀ j : Nat, ((j : Int) ∈ joI sd a q i) ↔ j ∈ (pkS (jseed sd i) a 0 (min q a)).2.take (min q a) := by
    intro j
    rw [(joI_perm sd a q i).mem_iff, List.mem_map]
    constructor
    · rintro ⟨z, hz, e⟩
      have : z = j := by omega
      rw [← this]; exact hz
    · intro h
      exact ⟨j, h, rfl⟩
  have h4 : ((List.range a).filter fun (j : Nat) => decide ((j : Int) ∈ joI sd a q i)) = (List.range a).filter fun j => decide (j ∈ (pkS (jseed sd i) a 0 (min q a)).2.take (min q a)) := List.filter_congr (fun j _ => by simp only [h3 j])
  rw [h4, cnt_nodup a _ h1 h2]
  have := (joI_perm sd a q i).length_eq
  rw [List.length_map, joI_len] at this
  exact this.symm
/-- members of the first j rules -/
def sumM (sd n a q j : Nat) : Nat := ((List.range j).map fun j => (memL sd a q j n).length).sum
theorem sumM_succ (sd n a q j : Nat) : sumM sd n a q (j + 1) = sumM sd n a q j + (memL sd a q j n).length := by
  simp [sumM, List.range_succ]
theorem sumM_le (sd n a q : Nat) : ∀ j, sumM sd n a q j ≤ j * n
  | 0 => by simp [sumM]
  | j + 1 => by
    rw [sumM_succ]
    have := sumM_le sd n a q j
    have := memL_len sd a q j n
    rw [Nat.add_mul, Nat.one_mul]
    omega
theorem sumM_more (sd n a q : Nat) : ∀ j, sumM sd (n + 1) a q j = sumM sd n a q j + ((List.range j).filter fun (j : Nat) => decide ((j : Int) ∈ joI sd a q n)).length
  | 0 => rfl
  | j + 1 => by
    rw [sumM_succ, sumM_succ, sumM_more sd n a q j, memL_succ, List.length_append, List.range_succ, List.filter_append, List.length_append]
    by_cases h : (j : Int) ∈ joI sd a q n
    · rw [if_pos h]; simp [h]; omega
    · rw [if_neg h]; simp [h]; omega
theorem sumM_all (sd a q : Nat) : ∀ n, sumM sd n a q a = n * min q a
  | 0 => by
    have : ∀ j, sumM sd 0 a q j = 0 := fun j => by have := sumM_le sd 0 a q j; omega
    rw [this, Nat.zero_mul]
  | n + 1 => by
    rw [sumM_more, cnt_joI, sumM_all sd a q n, Nat.add_mul, Nat.one_mul]
theorem memL_up (sd a q j n : Nat) : (memL sd a q j n).Pairwise (· < ·) := by
  unfold memL
  exact List.Pairwise.filter _ List.pairwise_lt_range
theorem joI_up (sd a q i : Nat) : (joI sd a q i).Pairwise (· < ·) := by
  have h1 : (joI sd a q i).Pairwise fun x y => decide (x ≤ y) = true := List.pairwise_mergeSort (fun a b c h1 h2 => by simp at *; omega) (fun a b => by simp; omega) _
  have h2 := joI_nodup sd a q i
  unfold List.Nodup at h2
  refine (h1.and h2).imp ?_
  rintro x y ⟨h3, h4⟩
  have := of_decide_eq_true h3
  omega
theorem ruL_len (sd n a q j : Nat) : (ruL sd n a q j).length = (memL sd a q j n).length + 1 := by simp [ruL]
theorem ruL_last (sd n a q j : Nat) (h : (memL sd a q j n).length < (ruL sd n a q j).length) : (ruL sd n a q j)[(memL sd a q j n).length] = n + j := by simp [ruL]
theorem ruL_get (sd n a q j k : Nat) (h : k < (memL sd a q j n).length) (h' : k < (ruL sd n a q j).length) : (ruL sd n a q j)[k] = (memL sd a q j n)[k] := by
  unfold ruL
  exact List.getElem_append_left h
theorem ruL_has (sd n a q i j : Nat) (hi : i < n) (h : (j : Int) ∈ joI sd a q i) : i ∈ ruL sd n a q j := by
  unfold ruL memL
  refine List.mem_append_left _ (List.mem_filter.2 ⟨List.mem_range.2 hi, ?_⟩)
  simpa using h
end Go.Proofs.YtkcnihngkmaecaaGreat

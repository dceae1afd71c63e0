/- tracker: plane.Near of a few places. -/
import Derived.Test.YtjdphcjapdklpaaTkZb
namespace Go.Proofs.Ytjdphcjapdklpaa
open Go.RowKit Go.Sort
set_option linter.unusedVariables false
attribute [local go_sem] Oper.semAt_some

/-- the order's row while it is made -/
def mkN (n i : Nat) : List Int := (List.range n).map fun k => if k < i then ((k : Nat) : Int) else 0
theorem mkN_len (n i : Nat) : (mkN n i).length = n := by simp [mkN]
theorem mkN_zero (n : Nat) : mkN n 0 = List.replicate n 0 := by
  unfold mkN
  apply List.ext_getElem?
  intro j
  by_cases h : j < n
  · simp [h]
  · simp [h]
theorem mkN_set (n i : Nat) (h : i < n) : (mkN n i).set i ((i : Nat) : Int) = mkN n (i + 1) := by
  unfold mkN
  apply List.ext_getElem?
  intro j
  rw [List.getElem?_set]
  by_cases e : i = j
  · subst e; simp [h]
  · rw [if_neg e]
    by_cases hj : j < n
    · simp only [List.getElem?_map, List.getElem?_range hj, Option.map_some]
      by_cases h1 : j < i
      · rw [if_pos h1, if_pos (by omega)]
      · rw [if_neg h1, if_neg (by omega)]
    · simp [hj]
theorem mkN_get (n j : Nat) (h : j < n) : (ic (mkN n n))[j]? = some (.int .i64 ((j : Nat) : Int)) := by
  unfold mkN ic
  simp [h]
theorem lt_cf (x y : Int) (l : List (Int × Int)) (i j : Fin l.length) : ltOf (cfN x y l) i j = decide (distA x y l[i].1 l[i].2 < distA x y l[j].1 l[j].2) := by
  unfold ltOf cfN Lib.compareInt
  generalize distA x y l[i].1 l[i].2 = a
  generalize distA x y l[j].1 l[j].2 = b
  by_cases h : a < b
  · simp [h]
  · by_cases h2 : b < a
    · simp [h, h2]
    · simp [h, h2]
theorem near_swo (x y : Int) (l : List (Int × Int)) : SWO (ltOf (cfN x y l)) :=
  ⟨fun i => by rw [lt_cf]; simp, fun i j k h1 h2 => by rw [lt_cf, decide_eq_true_iff] at *; omega, fun i j k h1 h2 => by rw [lt_cf, decide_eq_false_iff_not] at *; omega⟩
/-- the order that Near tells -/
def ordN (x y : Int) (l : List (Int × Int)) (hpos : 0 < l.length) : List Int :=
  letI : Inhabited (Fin l.length) := ⟨⟨0, hpos⟩⟩
  (Sort.insertionSort (ltOf (cfN x y l)) (Array.ofFn (fun i : Fin l.length => i)) 0 l.length).toList.map fun (i : Fin l.length) => ((i : Nat) : Int)
structure NearK (w0 : World) (blk : Nat) (W : World) : Prop where
  blk : ∀ k, k < w0.heap.size → k ≠ blk → W.heap[k]? = w0.heap[k]?
  size : w0.heap.size ≤ W.heap.size
  os : W.os = w0.os
  tape : W.tape = w0.tape
  output : W.output = w0.output
theorem near_sort (ga gl g o c blk cap B : Nat) (x y : Int) (l : List (Int × Int)) (hpos : 0 < l.length) (hl : l.length < 20) (w0 : World) (hA : Two w0 ga (.int .i64 x) (.int .i64 y) 23) (hL : w0.cell? ⟨gl, 0, none⟩ = some (.slice (some ⟨g, o, none⟩) l.length c)) (hglt : gl < w0.heap.size)
    (hP : PlsAt w0 (some ⟨g, o, none⟩) l) (h1 : ga ≠ blk) (h2 : gl ≠ blk) (h3 : g ≠ blk) (hOw : w0.ownsRow B 3 1 (.slice (some ⟨blk, 0, none⟩) l.length cap) l.length (ic (mkN l.length l.length))) :
    Calls Try.prog 34 #[.slice (some ⟨blk, 0, none⟩) l.length cap, .func (.func 35) #[] #[.pointer (some ⟨ga, 0, none⟩), .pointer (some ⟨gl, 0, none⟩)]] w0 fun e w' => e = .returned (.tuple #[]) ∧ (OwnI w' B (.slice (some ⟨blk, 0, none⟩) l.length cap) (ordN x y l hpos) ∧ NearK w0 blk w') := by
  letI : Inhabited (Fin l.length) := ⟨⟨0, hpos⟩⟩
  have hd : (Array.ofFn (fun i : Fin l.length => i)).size = l.length := by simp
  have hb : blk < w0.heap.size := by
    rcases hOw.2 with ⟨h, _⟩ | ⟨g', cp, cur, h, _, hg, _⟩
    · cases h
    · cases h
      exact lt_of_block hg
  have hH : Holds (encN l) w0 blk 0 (Array.ofFn (fun i : Fin l.length => i)) := fun j hj => by
    have hj2 : j < l.length := by rw [← hd]; exact hj
    refine ⟨?_, by rw [Nat.zero_add]; exact hOw.frozenAt j⟩
    rw [Nat.zero_add, hOw.cellAt j (by omega), mkN_get _ j hj2]
    rw [getElem!_pos _ j hj]
    simp [encN]
  have hI := near_ins ga gl g o c blk cap x y l hpos (by omega) w0 hA hL hglt hP h1 h2 h3 hb (Array.ofFn (fun i : Fin l.length => i)) hd hH
  rw [hd] at hI
  refine sortStable_few blk 0 l.length cap _ _ hl (fun w' => OwnI w' B (.slice (some ⟨blk, 0, none⟩) l.length cap) (ordN x y l hpos) ∧ NearK w0 blk w') w0 (hI.mono ?_)
  rintro e w' ⟨rfl, hS⟩
  have hs2 : (Sort.insertionSort (ltOf (cfN x y l)) (Array.ofFn (fun i : Fin l.length => i)) 0 l.length).size = l.length := by
    have hp := (insertionSort_holds (near_swo x y l) (Array.ofFn (fun i : Fin l.length => i)) 0 l.length (Nat.zero_le _) (by rw [hd]; exact Nat.le_refl _)).1.1
    rw [hp, hd]
  obtain ⟨k1, k2, k3, k4, k5, k6⟩ := sw_own l hpos _ w0 w' B blk cap _ hOw hs2 hS
  exact ⟨rfl, k1, ⟨k2, k3, k4, k5, k6⟩⟩
end Go.Proofs.Ytjdphcjapdklpaa

/- choke: slices.SortFunc of a group of the call's own, by any order. -/
import Derived.Shelf.SlSortCmp.NoneTotal
import Derived.Test.YtjndgglbapghhaaCkLays
import Derived.Test.YtjndgglbapghhaaCkO
import Derived.Test.YtjndgglbapghhaaCkM
namespace Go.Proofs.Ytjndgglbapghhaa
open Go.RowKit Go.Sort Go.Shelf
set_option linter.unusedVariables false
attribute [local go_sem] Oper.semAt_some

abbrev prInh : Inhabited Pr := ⟨zP⟩
theorem peC_at (l : List Pr) (t : Nat) (h : t < l.length * 10) : (peC l)[t]? = (l[t / 10]?.bind fun p => p.cl[t % 10]?) := by
  have h1 : t / 10 < l.length := by omega
  have e := peC_get l (t / 10) (t % 10) l[t / 10] (List.getElem?_eq_getElem h1) (by omega)
  rw [show t / 10 * 10 + t % 10 = t by omega] at e
  rw [e, List.getElem?_eq_getElem h1]
  rfl
theorem peC_length (l : List Pr) : (peC l).length = l.length * 10 := by
  induction l with
  | nil => rfl
  | cons a l ih => rw [show peC (a :: l) = a.cl ++ peC l from rfl, List.length_append, ih, Pr.cl_len, List.length_cons]; omega
/-- who keeps all but one block -/
def Oth (w : World) (b : Option Nat) (W : World) : Prop := w.heap.size ≤ W.heap.size ∧ ∀ k, k < w.heap.size → b ≠ some k → W.heap[k]? = w.heap[k]?
theorem sortW_oth (enc : Pr → List Value) (w : World) (g n : Nat) (d : Array Pr) (os : Array Obj) : letI := prInh; Oth w (some g) (sortWorldK enc 10 w g 0 n d os) := by
  letI := prInh
  refine ⟨size_sortWorldK_c enc 10 w g 0 n d os, fun k hk hne => ?_⟩
  unfold sortWorldK putRowK
  rw [Sort.heap_grow_old _ _ (by simp [Sort.putRow, Sort.mapBlock, Sort.ahead]; exact hk)]
  simp only [Sort.putRow, Sort.mapBlock, Sort.ahead, Array.getElem?_modify]
  rw [if_neg (fun e => hne (by rw [e]))]
set_option maxHeartbeats 1000000 in
theorem sortPe_own (gf : Nat) (cb : Array Value) (cf : Pr → Pr → Int) (hO : letI := prInh; SWO (ltOf cf)) (eg : ∀ args w, (callFunc gf args).run Try.prog w = .ok (.enter gf args) w)
    (base : Nat) (v : Value) (l : List Pr) (w : World) (hOw : OwnPt 48 w base v l) (hl : l.length ≤ 100000)
    (hcmp : ∀ W, Oth w v.ownBlock W → ∀ x y : Pr, Calls Try.prog gf (#[.agg x.cl.toArray, .agg y.cl.toArray] ++ cb) W fun e W' => e = .returned (.int .i64 (cf x y)) ∧ Grown W W') :
    Calls Try.prog 62 #[v, .func (.func gf) #[] cb] w fun e w' => e = .returned (.tuple #[]) ∧ (∃ l', l'.Perm l ∧ l'.Pairwise (fun a b => ltOf cf b a = false) ∧ OwnPt 48 w' base v l') ∧ Below base w w' := by
  letI := prInh
  rcases hOw.2 with ⟨rfl, h0⟩ | ⟨g, cap, cur, rfl, hb, hg, hnc, hcm, hcs, htake⟩
  · have hx : l = [] := List.length_eq_zero_iff.1 h0
    subst hx
    refine (AnyF.slices_SortFunc_none (P := Try.prog) (ρ := Try.sortPe_ren) Try.sortPe none 0 _ w).mono ?_
    rintro e w' ⟨rfl, rfl⟩
    exact ⟨rfl, ⟨[], List.Perm.refl _, List.Pairwise.nil, hOw⟩, Below.refl _ _⟩
  · have hgl := lt_of_block hg
    have hH : HoldsK Pr.cl 10 w g 0 l.toArray := fun j hj => by
      have hj' : j < l.length * 10 := by simpa using hj
      refine ⟨?_, hOw.frozenAt _⟩
      rw [Nat.zero_add, hOw.cellAt j hj', get_flatK _ _ _ _ (by simpa using hj'), peC_at l j hj']
      have h1 : j / 10 < l.length := by omega
      rw [List.getElem?_eq_getElem h1]
      have h2 : j % 10 < (l[j / 10]).cl.length := by rw [Pr.cl_len]; omega
      simp [h1, List.getElem?_eq_getElem h2, getElem!_pos]
    have hC : CmpLays Try.prog gf cb Pr.cl 10 cf g 0 l.toArray.size w := fun m os dk hs x y => hcmp _ (sortW_oth Pr.cl w g m dk os) x y
    have hs := AnyQ.slices_SortFunc (P := Try.prog) (ρ := Try.sortPe_ren) Try.sortPe 10 Try.isAgg48 Try.sizeOf48 Pr.cl (fun x => rfl) Pr.cl_one cf hO gf cb g 0 cap l.toArray w eg hC hH hgl (by simp; omega)
    simp only [List.size_toArray] at hs
    refine hs.mono ?_
    rintro e w' ⟨rfl, d', n, os, hp, hso, rfl⟩
    have hsz : d'.size = l.length := by rw [hp.1]; simp
    have hperm : d'.toList.Perm l := by
      have := hp.2.2
      rw [show d'.extract 0 l.length = d' by rw [← hsz]; simp, show l.toArray.extract 0 l.length = l.toArray by simp] at this
      simpa using this
    refine ⟨rfl, ⟨d'.toList, hperm, ?_, ?_⟩, ?_⟩
    · rw [List.pairwise_iff_getElem]
      intro i j hi hj hij
      have := hso i j (Nat.zero_le _) hij (by simp at hj; omega)
      simp at hi hj
      simpa [getElem!_pos, hi, hj] using this
    · have hh := holdsK_sortWorldK_c Pr.cl 10 w g 0 l.toArray d' n os hH hgl (by rw [hsz]; simp)
      have hlen : d'.toList.length = l.length := by simp [hsz]
      have hblk : (sortWorldK Pr.cl 10 w g 0 n d' os).heap[g]? = some (.cells (putCells id 0 (flatK Pr.cl 10 d') cur) 48 (0, 0)) := by
        unfold sortWorldK putRowK
        rw [Sort.heap_grow_old _ _ (by simp [Sort.putRow, Sort.mapBlock, Sort.ahead]; exact hgl)]
        simp only [Sort.putRow, Sort.mapBlock, Sort.ahead, Array.getElem?_modify, if_true]
        rw [hg]
        rfl
      refine ⟨by rw [peC_length], .inr ⟨g, cap, _, by rw [hlen], hb, hblk, by rw [hlen]; exact hnc, hcm, by simp [putCells]; exact hcs, ?_⟩⟩
      apply List.ext_getElem?
      intro t
      rw [hlen, List.getElem?_take]
      by_cases ht : t < l.length * 10
      · rw [if_pos ht, peC_at d'.toList t (by rw [hlen]; exact ht)]
        have hc1 : t < cur.size := by
          have := Nat.mul_le_mul_right 10 hnc
          omega
        have hq : t / 10 < d'.size := by omega
        have h2 : t % 10 < (d'[t / 10]).cl.length := by rw [Pr.cl_len]; omega
        have hf := get_flatK Pr.cl 10 d' t (by rw [hsz]; exact ht)
        have e2 : (flatK Pr.cl 10 d')[t]! = (d'[t / 10]'hq).cl[t % 10]'h2 := by rw [hf, getElem!_pos d' (t / 10) hq, getElem!_pos (d'[t / 10]'hq).cl (t % 10) h2]
        have e3 : d'.toList[t / 10]? = some d'[t / 10] := by simp [hq]
        rw [e3, Option.bind_some, List.getElem?_eq_getElem h2, ← e2]
        simp [putCells, hc1, hsz, ht]
      · rw [if_neg ht, List.getElem?_eq_none (by rw [peC_length, hlen]; omega)]
    · refine ⟨rfl, rfl, rfl, (sortW_oth Pr.cl w g n d' os).1, fun k hk => (sortW_oth Pr.cl w g n d' os).2 k (by omega) (fun e => by cases e; omega)⟩
end Go.Proofs.Ytjndgglbapghhaa

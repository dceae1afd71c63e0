/- choke: the closures of Choose; the chosen put in order. -/
import Derived.Test.YtjndgglbapghhaaCkS
import Derived.Test.YtjndgglbapghhaaShelf
import Derived.Test.YtjndgglbapghhaaEff
namespace Go.Proofs.Ytjndgglbapghhaa
open Go.RowKit Go.Sort
set_option linter.unusedVariables false
attribute [local go_sem] Oper.semAt_some

/-- a block of one cell -/
def One (w : World) (g : Nat) (v : Value) (t : TypeId) : Prop := w.heap[g]? = some (.cells #[v] t (0, 0))
theorem one_alloc (w : World) (v : Value) (t : TypeId) : One (w.alloc (.cells #[v] t)) w.heap.size v t := heap_alloc_new w _
theorem One.c0 {w : World} {g : Nat} {v : Value} {t : TypeId} (h : One w g v t) : w.cell? ⟨g, 0, none⟩ = some v := by unfold One at h; simp [World.cell?, h]
theorem One.free {w : World} {g : Nat} {v : Value} {t : TypeId} (h : One w g v t) : w.frozen? ⟨g, 0, none⟩ = false := by unfold One at h; simp [World.frozen?, h]
theorem One.lt {w : World} {g : Nat} {v : Value} {t : TypeId} (h : One w g v t) : g < w.heap.size := lt_of_block h
theorem One.up {w w' : World} {g : Nat} {v : Value} {t : TypeId} (h : One w g v t) (hb : Below w.heap.size w w') : One w' g v t := (hb.block g h.lt).trans h
theorem contains_hasI (l : List Int) (n : Int) : l.contains n = hasI l n := by
  have hb : ∀ u v : Bool, (u = true ↔ v = true) → u = v := fun u v h => by cases u <;> cases v <;> simp_all
  apply hb
  rw [hasI_mem]
  simp
theorem contains_any (a0 : Option Addr) (l : List Int) (c : Nat) (n : Int) (w : World) (hA : Ints w a0 l) (hl : l.length ≤ 100000) :
    Calls Try.prog 23 #[.slice a0 l.length c, .int .i64 n] w fun e w' => e = .returned (.bool (hasI l n)) ∧ w' = w := by
  cases l with
  | nil =>
    refine (Try.slices_Contains_int_empty a0 c n w).mono ?_
    rintro e w' ⟨rfl, rfl⟩
    exact ⟨rfl, rfl⟩
  | cons x l =>
    obtain ⟨g, o, rfl, _⟩ := hA 0 (by simp)
    have h := Try.slices_Contains_int g o (x :: l).length c (x :: l) n w (Nat.le_refl _) (by omega) (fun j hj => by
      obtain ⟨g', o', e, h⟩ := hA j hj
      cases e
      rw [h]
      simp [List.getD_eq_getElem?_getD, List.getElem?_eq_getElem hj])
    rw [List.take_length, contains_hasI] at h
    exact h
theorem Ints.up {w w' : World} {a0 : Option Addr} {l : List Int} (h : Ints w a0 l) (hb : Below w.heap.size w w') : Ints w' a0 l := fun i hi => by
  obtain ⟨g, o, e, hc⟩ := h i hi
  exact ⟨g, o, e, cell_below hc hb⟩
set_option maxRecDepth 100000 in
theorem ch1_any (g : Nat) (b0 : Option Addr) (ch : List Int) (d : Nat) (p : Pr) (w : World) (h1 : w.cell? ⟨g, 0, none⟩ = some (.slice b0 ch.length d)) (hI : Ints w b0 ch) (hc : ch.length ≤ 100000) :
    Calls Try.prog 22 #[.agg p.cl.toArray, .pointer (some ⟨g, 0, none⟩)] w fun e w' => e = .returned (.bool (otP ch p)) ∧ Below w.heap.size w w' := by
  have hb : Below w.heap.size w (w.alloc (.cells p.cl.toArray 48)) := (Below.refl _ w).alloc (Nat.le_refl _) _
  have HC := hide (contains_any b0 ch d p.nd (w.alloc (.cells p.cl.toArray 48)) (hI.up hb) hc)
  have HB := hide hb
  have c1 := cell_below h1 hb
  have hot : otP ch p = (p.wa && !(hasI ch p.nd)) := rfl
  rw [hot]
  clear hot hI hc h1 hb
  generalize ch.length = m at *
  generalize hasI ch p.nd = b at *
  obtain ⟨nd, px, py, hv, wa, op, os, se, nw, ra⟩ := p
  unfold Pr.cl at *
  dsimp only at *
  have hsz : (w.alloc (.cells #[.int .i64 nd, .int .i64 px, .int .i64 py, .string hv, .bool wa, .bool op, .bool os, .int .i64 se, .int .i64 nw, .int .i64 ra] 48)).heap.size = w.heap.size + 1 := by simp
  have HSZ := hide hsz
  clear hsz
  cases wa
  · go_enter Try.func22, Try.ntmps22
    go_wp2
    go_ret
    exact ⟨rfl, unhide HB⟩
  · go_enter Try.func22, Try.ntmps22
    go_wp2_with fail
    refine (unhide HC).mono ?_
    rintro e w1 ⟨rfl, rfl⟩
    go_wp2_with fail
    go_ret
    exact ⟨by simp, unhide HB⟩
theorem sortI_row (w : World) (g cap : Nat) (zs : List Int) (hc : ∀ k (h : k < zs.length), w.cell? ⟨g, k, none⟩ = some (.int .i64 zs[k])) (hf : ∀ k, w.frozen? ⟨g, k, none⟩ = false) (hg : g < w.heap.size) (hz : zs.length ≤ 100000) :
    Calls Try.prog 24 #[.slice (some ⟨g, 0, none⟩) zs.length cap] w fun e w' => e = .returned (.tuple #[]) ∧ (∀ k (h : k < (srtI zs).length), w'.cell? ⟨g, k, none⟩ = some (.int .i64 (srtI zs)[k])) ∧ Oth w (some g) w' ∧ w'.os = w.os ∧ w'.tape = w.tape ∧ w'.output = w.output := by
  have hH : Sort.Holds (Value.int .i64) w g 0 zs.toArray := fun j hj => by
    have hj' : j < zs.length := by simpa using hj
    refine ⟨?_, by rw [Nat.zero_add]; exact hf j⟩
    rw [Nat.zero_add, hc j hj']
    simp [hj']
  refine (Try.slices_Sort_int g 0 cap zs w hH hg (by omega)).mono ?_
  rintro e w' ⟨rfl, n, os, rfl⟩
  have hsz : (zs.mergeSort fun x y => decide (x ≤ y)).toArray.size = zs.toArray.size := by simp
  have hP := Sort.holds_putRow (Value.int .i64) (Sort.ahead w n) g 0 zs.toArray (zs.mergeSort fun x y => decide (x ≤ y)).toArray (Sort.holds_ahead _ _ _ _ _ _ hH) hsz
  have hlt : g < (Sort.putRow (Value.int .i64) (Sort.ahead w n) g 0 (zs.mergeSort fun x y => decide (x ≤ y)).toArray).heap.size := by
    simp [Sort.putRow, Sort.mapBlock, Sort.ahead]; exact hg
  refine ⟨rfl, fun k hk => ?_, ⟨?_, fun k hk hne => ?_⟩, rfl, rfl, rfl⟩
  · rw [Sort.cell?_grow _ _ _ hlt]
    have := (hP k (by simpa [srtI] using hk)).1
    rw [Nat.zero_add] at this
    rw [this]
    unfold srtI at hk ⊢
    simp at hk
    simp [hk]
  · simp [Sort.grow, Sort.putRow, Sort.mapBlock, Sort.ahead]
  · rw [Sort.heap_grow_old _ _ (by simp [Sort.putRow, Sort.mapBlock, Sort.ahead]; exact hk)]
    simp only [Sort.putRow, Sort.mapBlock, Sort.ahead, Array.getElem?_modify]
    rw [if_neg (fun e => hne (by rw [e]))]
/-- the integers of a row of the call's own, put in order -/
structure SrtI (w : World) (base : Nat) (v : Value) (xs : List Int) (w' : World) : Prop where
  ints : ∃ a c, v = .slice a xs.length c ∧ Ints w' a (srtI xs)
  oth : ∀ k, k < w.heap.size → v.ownBlock ≠ some k → w'.heap[k]? = w.heap[k]?
  be : Below base w w'
theorem sortI_own (w : World) (base : Nat) (v : Value) (xs : List Int) (hO : OwnI w base v xs) (hl : xs.length ≤ 100000) :
    Calls Try.prog 24 #[v] w fun e w' => e = .returned (.tuple #[]) ∧ SrtI w base v xs w' := by
  rcases hO.2 with ⟨rfl, h0⟩ | ⟨g, cap, cur, rfl, hb, hg, hnc, hcm, hcs, htake⟩
  · have hx : xs = [] := List.length_eq_zero_iff.1 h0
    subst hx
    refine (Try.slices_Sort_int_none none 0 w).mono ?_
    rintro e w' ⟨rfl, rfl⟩
    exact ⟨rfl, ⟨none, 0, rfl, fun i hi => by simp [srtI] at hi⟩, fun _ _ _ => rfl, Below.refl _ _⟩
  · refine (sortI_row w g cap xs (fun k hk => ?_) (fun k => World.ownsRow.frozenAt hO k) (lt_of_block hg) hl).mono ?_
    · rw [World.ownsRow.cellAt hO k (by omega)]
      simp [ic, hk]
    · rintro e w' ⟨rfl, h1, h2, h3, h4, h5⟩
      exact ⟨rfl, ⟨_, _, rfl, fun i hi => ⟨g, 0, rfl, by rw [Nat.zero_add]; exact h1 i hi⟩⟩, fun k hk hne => h2.2 k hk (fun e => hne (by cases e; rfl)), ⟨h3, h4, h5, h2.1, fun i hi => h2.2 i (Nat.lt_of_lt_of_le hi (by have := lt_of_block hg; omega)) (fun e => by cases e; omega)⟩⟩
end Go.Proofs.Ytjndgglbapghhaa

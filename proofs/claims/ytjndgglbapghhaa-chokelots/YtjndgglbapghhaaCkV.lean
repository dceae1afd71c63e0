/- choke: awake. -/
import Derived.Test.YtjndgglbapghhaaCkU
namespace Go.Proofs.Ytjndgglbapghhaa
open Go.RowKit Go.Sort
set_option linter.unusedVariables false
attribute [local go_sem] Oper.semAt_some

theorem prsAt_lit (w : World) (l : List Pr) (T : TypeId) : PrsAt (w.alloc (.cells (peC l).toArray T)) (some ⟨w.heap.size, 0, none⟩) l := fun t c ht => by
  refine ⟨w.heap.size, 0, rfl, by simp, fun j v hv => ?_⟩
  have hj : j < 10 := by
    have := (List.getElem?_eq_some_iff.1 hv).1
    rwa [Pr.cl_len] at this
  rw [Nat.zero_add, cell_of_row _ _ _ _ _ _ (heap_alloc_new w _)]
  rw [List.getElem?_toArray, peC_get l t j c ht hj]
  exact hv
def aw4 : List Pr := [⟨1, 0, 0, ⟨#[]⟩, true, false, false, 0, 0, 5⟩, ⟨2, 0, 0, ⟨#[]⟩, true, false, false, 0, 0, 9⟩, ⟨3, 0, 0, ⟨#[]⟩, true, false, false, 0, 0, 9⟩, ⟨4, 0, 0, ⟨#[]⟩, true, false, false, 0, 0, 0⟩]
set_option maxRecDepth 100000 in
theorem aw4_cho : choL 0 0 2 3 aw4 = [2, 3, 4] := by decide +kernel
theorem aw4_ar : arP 1 aw4 = true := by decide +kernel
set_option maxRecDepth 100000 in
set_option maxHeartbeats 4000000 in
theorem cawake_any (w : World) : Calls Try.prog 8 #[] w fun e w' => e = .returned (.bool true) ∧ Below w.heap.size w w' := by
  have hb : Below w.heap.size w (w.alloc (.cells (peC aw4).toArray 48)) := (Below.refl _ w).alloc (Nat.le_refl _) _
  have h1 := choose_good (some ⟨w.heap.size, 0, none⟩) aw4 4 2 3 0 0 _ (prsAt_lit w aw4 48) (by decide) (by decide) (by decide) aw4_ar
  rw [aw4_cho] at h1
  have HC := hide h1
  have HB := hide hb
  have HS := hide (fun x a b c d h1 h2 => isame_any x [2, 3, 4] a b c d (by decide) h1 h2)
  clear h1 hb
  unfold rv at HC
  have e4 : (peC aw4).toArray = #[.int .i64 1, .int .i64 0, .int .i64 0, .string ⟨#[]⟩, .bool true, .bool false, .bool false, .int .i64 0, .int .i64 0, .int .i64 5, .int .i64 2, .int .i64 0, .int .i64 0, .string ⟨#[]⟩, .bool true, .bool false, .bool false, .int .i64 0, .int .i64 0, .int .i64 9, .int .i64 3, .int .i64 0, .int .i64 0, .string ⟨#[]⟩, .bool true, .bool false, .bool false, .int .i64 0, .int .i64 0, .int .i64 9, .int .i64 4, .int .i64 0, .int .i64 0, .string ⟨#[]⟩, .bool true, .bool false, .bool false, .int .i64 0, .int .i64 0, .int .i64 0] := rfl
  rw [e4] at HC HB
  simp only [show List.length aw4 = 4 from rfl, List.length_cons, List.length_nil, Nat.zero_add, Nat.reduceAdd] at HC HS
  clear e4
  go_enter Try.func8, Try.ntmps8
  go_wp2_with fail
  refine (unhide HC).mono ?_
  rintro e w1 ⟨v, rfl, h1⟩
  obtain ⟨a1, c1, rfl, hI⟩ := h1.ints
  have B1 := hide ((unhide HB).trans (h1.be.mono (unhide HB).size))
  have HI := hide hI
  clear h1 hI HC HB
  go_wp2_with fail
  have hb2 : Below w1.heap.size w1 (w1.alloc (.cells #[.int .i64 2, .int .i64 3, .int .i64 4] 3)) := (Below.refl _ w1).alloc (Nat.le_refl _) _
  have hI2 : Ints (w1.alloc (.cells #[.int .i64 2, .int .i64 3, .int .i64 4] 3)) (some ⟨w1.heap.size, 0, none⟩) [2, 3, 4] := fun i hi => by
    refine ⟨w1.heap.size, 0, rfl, ?_⟩
    rw [Nat.zero_add, cell_of_row _ _ _ _ _ _ (heap_alloc_new w1 _)]
    match i, hi with
    | 0, _ => rfl
    | 1, _ => rfl
    | 2, _ => rfl
  have B2 := hide ((unhide B1).trans (hb2.mono (unhide B1).size))
  refine (unhide HS _ a1 (some ⟨w1.heap.size, 0, none⟩) c1 3 ((unhide HI).up hb2) hI2).mono ?_
  rintro e w2 ⟨rfl, b2⟩
  have B3 := hide ((unhide B2).trans (b2.mono (unhide B2).size))
  clear b2 hI2 hb2
  go_wp2_with fail
  go_ret
  exact ⟨rfl, unhide B3⟩
end Go.Proofs.Ytjndgglbapghhaa

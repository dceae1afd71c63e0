/- peel's may; the law's few. -/
import Derived.Test.YtfihpmhobjjaaaaPeP
import Derived.Test.YtfihpmhobjjaaaaPeO
namespace Go.Proofs.Ytfihpmhobjjaaaa
open Go.RowKit
set_option linter.unusedVariables false
attribute [local go_sem] Oper.semAt_some

theorem one_row {w : World} {k0 : Option Addr} {Ks : List Int} (kc : Nat) (t : TypeId) (h : Ints w k0 Ks) : RowsA (w.alloc (.cells #[.slice k0 Ks.length kc] t)) (some ⟨w.heap.size, 0, none⟩) [Ks] := fun i hi => by
  obtain rfl : i = 0 := by simp at hi; omega
  refine ⟨w.heap.size, 0, rfl, k0, kc, ?_, h.below ((Below.refl _ _).alloc (Nat.le_refl _) _)⟩
  rw [cell_of_row _ _ _ _ _ _ (heap_alloc_new _ _)]
  rfl
set_option maxRecDepth 100000 in
set_option maxHeartbeats 1000000 in
theorem pmay_any (n : Int) (Rs : List (List Int)) (Ks : List Int) (a0 k0 : Option Addr) (c kc : Nat) (hn : -9223372036854775808 ≤ n ∧ n ≤ 9223372036854775807) (hk : Rs.length ≤ maxLen) (hk2 : ∀ r ∈ Rs, r.length ≤ maxLen) (hk3 : Ks.length ≤ maxLen) (w : World) (hI : RowsA w a0 Rs) (hK : Ints w k0 Ks) :
    Calls Try.prog 25 #[.int .i64 n, .slice a0 Rs.length c, .slice k0 Ks.length kc] w fun e w' => e = .returned (.bool (mayB n Rs && mayB n [Ks])) ∧ Below w.heap.size w w' := by
  have h1 := hide (fun W (hb : Below w.heap.size w W) => may_any n Rs a0 c hn hk hk2 W (hI.below hb))
  have hb1 : Below w.heap.size w (w.alloc (.cells #[.slice k0 Ks.length kc] 23)) := (Below.refl _ _).alloc (Nat.le_refl _) _
  have h2 := hide (may_any n [Ks] (some ⟨w.heap.size, 0, none⟩) 1 hn (by unfold maxLen; simp) (by simpa using hk3) _ (one_row kc 23 hK))
  have HB1 := hide hb1
  simp only [List.length_singleton] at h2
  generalize Rs.length = m at *
  generalize Ks.length = l at *
  cases hm1 : mayB n Rs with
  | false =>
    rw [hm1] at h1
    clear hI hK hb1 hm1 hk hk3
    go_enter Try.func25, Try.ntmps25
    go_wp2_with fail
    refine (unhide h1 _ (Below.refl _ _)).mono ?_
    rintro e w1 ⟨rfl, rfl⟩
    go_wp2
    go_ret
    exact ⟨rfl, Below.refl _ _⟩
  | true =>
    rw [hm1] at h1
    generalize mayB n [Ks] = x at *
    clear hI hK hb1 hm1 hk hk3
    go_enter Try.func25, Try.ntmps25
    go_wp2_with fail
    refine (unhide h1 _ (Below.refl _ _)).mono ?_
    rintro e w1 ⟨rfl, rfl⟩
    go_wp2_with fail
    refine (unhide h2).mono ?_
    rintro e w1 ⟨rfl, rfl⟩
    go_wp2
    go_ret
    exact ⟨by simp, unhide HB1⟩
set_option maxRecDepth 100000 in
set_option maxHeartbeats 1000000 in
theorem pfew_any (n : Int) (Rs : List (List Int)) (Ks : List Int) (a0 k0 : Option Addr) (c kc : Nat) (hk : Rs.length ≤ maxLen) (hk2 : ∀ r ∈ Rs, r.length ≤ maxLen) (hk3 : Ks.length ≤ maxLen) (w : World) (hI : RowsA w a0 Rs) (hK : Ints w k0 Ks) :
    Calls Try.prog 8 #[.int .i64 n, .slice a0 Rs.length c, .slice k0 Ks.length kc] w fun e w' => e = .returned (.bool (fewB n Rs && fewB n [Ks])) ∧ Below w.heap.size w w' := by
  have h1 := hide (fun W (hb : Below w.heap.size w W) => gfew_any n Rs a0 c hk hk2 W (hI.below hb))
  have hb1 : Below w.heap.size w (w.alloc (.cells #[.slice k0 Ks.length kc] 23)) := (Below.refl _ _).alloc (Nat.le_refl _) _
  have h2 := hide (gfew_any n [Ks] (some ⟨w.heap.size, 0, none⟩) 1 (by unfold maxLen; simp) (by simpa using hk3) _ (one_row kc 23 hK))
  have HB1 := hide hb1
  simp only [List.length_singleton] at h2
  generalize Rs.length = m at *
  generalize Ks.length = l at *
  cases hm1 : fewB n Rs with
  | false =>
    rw [hm1] at h1
    clear hI hK hb1 hm1 hk hk3
    go_enter Try.func8, Try.ntmps8
    go_wp2_with fail
    refine (unhide h1 _ (Below.refl _ _)).mono ?_
    rintro e w1 ⟨rfl, rfl⟩
    go_wp2
    go_ret
    exact ⟨rfl, Below.refl _ _⟩
  | true =>
    rw [hm1] at h1
    generalize fewB n [Ks] = x at *
    clear hI hK hb1 hm1 hk hk3
    go_enter Try.func8, Try.ntmps8
    go_wp2_with fail
    refine (unhide h1 _ (Below.refl _ _)).mono ?_
    rintro e w1 ⟨rfl, rfl⟩
    go_wp2_with fail
    refine (unhide h2).mono ?_
    rintro e w1 ⟨rfl, rfl⟩
    go_wp2
    go_ret
    exact ⟨by simp, unhide HB1⟩
theorem heap_setCells_full (g : Nat) (t : TypeId) : ∀ (vs : List Value) (o : Nat) (w : World) (cs : List Value), w.heap[g]? = some (.cells cs.toArray t (0, 0)) → o + vs.length = cs.length →
    (w.setCells g o vs).heap[g]? = some (.cells (cs.take o ++ vs).toArray t (0, 0))
  | [], o, w, cs, h, hl => by
    simp only [List.length_nil, Nat.add_zero] at hl
    rw [List.append_nil, List.take_of_length_le (by omega)]
    exact h
  | v :: vs, o, w, cs, h, hl => by
    simp only [List.length_cons] at hl
    have h1 : (w.setCell ⟨g, o, none⟩ v).heap[g]? = some (.cells (cs.set o v).toArray t (0, 0)) := by
      rw [heap_setCell_same w g o _ t v h]
      simp
    have := heap_setCells_full g t vs (o + 1) _ (cs.set o v) h1 (by simp; omega)
    show ((w.setCell ⟨g, o, none⟩ v).setCells g (o + 1) vs).heap[g]? = _
    rw [this]
    congr 3
    have ho : o < (cs.set o v).length := by simp; omega
    rw [List.take_succ_eq_append_getElem ho, List.getElem_set_self, List.append_assoc, List.take_set_of_le (Nat.le_refl o)]
    rfl
theorem zero_marks : Try.zeroCells47 = (mc (inS [])).toArray := by kernel_rfl
theorem mk_new (w : World) (S : Nat → Bool) : MkAt ((w.alloc (.cells Try.zeroCells47 47)).setCells w.heap.size 0 (mc S)) w.heap.size S := by
  rw [zero_marks]
  have := heap_setCells_full w.heap.size 47 (mc S) 0 (w.alloc (.cells (mc (inS [])).toArray 47)) (mc (inS [])) (heap_alloc_new _ _) (by rw [mc_length, mc_length])
  unfold MkAt
  rw [this]
  simp
theorem mk_there (w : World) : (w.alloc (.cells Try.zeroCells47 47)).there w.heap.size 0 160 := fun j hj => by
  rw [zero_marks]
  have h : MkAt (w.alloc (.cells (mc (inS [])).toArray 47)) w.heap.size (inS []) := heap_alloc_new _ _
  rw [Nat.zero_add, h.cell j hj]
  exact ⟨rfl, h.free j⟩
theorem mk_below (w : World) (S : Nat → Bool) : Below w.heap.size w ((w.alloc (.cells Try.zeroCells47 47)).setCells w.heap.size 0 (mc S)) := below_setCells2 (Nat.le_refl _) _ _ _ ((Below.refl _ _).alloc (Nat.le_refl _) _)
end Go.Proofs.Ytfihpmhobjjaaaa

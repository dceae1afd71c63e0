/- store: copied, has, Len, Room, Add, Drop. -/
import Derived.Test.YtgomnmhjkjahlaaStE
import Derived.Test.YtgomnmhjkjahlaaLate
import Derived.Test.YtgomnmhjkjahlaaEff
namespace Go.Proofs.Ytgomnmhjkjahlaa
open Go.RowKit
set_option linter.unusedVariables false
attribute [local go_sem] Oper.semAt_some

abbrev rawC (x : Raw) : Array Value := #[.int .i64 x.id, .int .i64 x.peer, .int .i64 x.mode, .int .i64 x.seed, .string x.hv, .slice x.a0 x.idx.length x.cap, .string x.dt]
/-- x with another row of the same numbers -/
abbrev Raw.at_ (x : Raw) (a0 : Option Addr) (c : Nat) : Raw := { x with a0 := a0, cap := c }
theorem set7 {w : World} {g : Nat} {a b c d e f h : Value} {t : TypeId} (hw : w.heap[g]? = some (.cells #[a, b, c, d, e, f, h] t (0, 0))) (v0 v1 v2 v3 v4 v5 v6 : Value) :
    (((((((w.setCell ⟨g, 0, none⟩ v0).setCell ⟨g, 1, none⟩ v1).setCell ⟨g, 2, none⟩ v2).setCell ⟨g, 3, none⟩ v3).setCell ⟨g, 4, none⟩ v4).setCell ⟨g, 5, none⟩ v5).setCell ⟨g, 6, none⟩ v6).heap[g]? = some (.cells #[v0, v1, v2, v3, v4, v5, v6] t (0, 0)) := by
  have h0 : (w.setCell ⟨g, 0, none⟩ v0).heap[g]? = some (.cells #[v0, b, c, d, e, f, h] t (0, 0)) := by rw [heap_setCell_same w g 0 _ t v0 hw]; rfl
  have h1 : ((w.setCell ⟨g, 0, none⟩ v0).setCell ⟨g, 1, none⟩ v1).heap[g]? = some (.cells #[v0, v1, c, d, e, f, h] t (0, 0)) := by rw [heap_setCell_same (w.setCell ⟨g, 0, none⟩ v0) g 1 _ t v1 h0]; rfl
  have h2 : (((w.setCell ⟨g, 0, none⟩ v0).setCell ⟨g, 1, none⟩ v1).setCell ⟨g, 2, none⟩ v2).heap[g]? = some (.cells #[v0, v1, v2, d, e, f, h] t (0, 0)) := by rw [heap_setCell_same ((w.setCell ⟨g, 0, none⟩ v0).setCell ⟨g, 1, none⟩ v1) g 2 _ t v2 h1]; rfl
  have h3 : ((((w.setCell ⟨g, 0, none⟩ v0).setCell ⟨g, 1, none⟩ v1).setCell ⟨g, 2, none⟩ v2).setCell ⟨g, 3, none⟩ v3).heap[g]? = some (.cells #[v0, v1, v2, v3, e, f, h] t (0, 0)) := by rw [heap_setCell_same (((w.setCell ⟨g, 0, none⟩ v0).setCell ⟨g, 1, none⟩ v1).setCell ⟨g, 2, none⟩ v2) g 3 _ t v3 h2]; rfl
  have h4 : (((((w.setCell ⟨g, 0, none⟩ v0).setCell ⟨g, 1, none⟩ v1).setCell ⟨g, 2, none⟩ v2).setCell ⟨g, 3, none⟩ v3).setCell ⟨g, 4, none⟩ v4).heap[g]? = some (.cells #[v0, v1, v2, v3, v4, f, h] t (0, 0)) := by rw [heap_setCell_same ((((w.setCell ⟨g, 0, none⟩ v0).setCell ⟨g, 1, none⟩ v1).setCell ⟨g, 2, none⟩ v2).setCell ⟨g, 3, none⟩ v3) g 4 _ t v4 h3]; rfl
  have h5 : ((((((w.setCell ⟨g, 0, none⟩ v0).setCell ⟨g, 1, none⟩ v1).setCell ⟨g, 2, none⟩ v2).setCell ⟨g, 3, none⟩ v3).setCell ⟨g, 4, none⟩ v4).setCell ⟨g, 5, none⟩ v5).heap[g]? = some (.cells #[v0, v1, v2, v3, v4, v5, h] t (0, 0)) := by rw [heap_setCell_same (((((w.setCell ⟨g, 0, none⟩ v0).setCell ⟨g, 1, none⟩ v1).setCell ⟨g, 2, none⟩ v2).setCell ⟨g, 3, none⟩ v3).setCell ⟨g, 4, none⟩ v4) g 5 _ t v5 h4]; rfl
  have h6 : (((((((w.setCell ⟨g, 0, none⟩ v0).setCell ⟨g, 1, none⟩ v1).setCell ⟨g, 2, none⟩ v2).setCell ⟨g, 3, none⟩ v3).setCell ⟨g, 4, none⟩ v4).setCell ⟨g, 5, none⟩ v5).setCell ⟨g, 6, none⟩ v6).heap[g]? = some (.cells #[v0, v1, v2, v3, v4, v5, v6] t (0, 0)) := by rw [heap_setCell_same ((((((w.setCell ⟨g, 0, none⟩ v0).setCell ⟨g, 1, none⟩ v1).setCell ⟨g, 2, none⟩ v2).setCell ⟨g, 3, none⟩ v3).setCell ⟨g, 4, none⟩ v4).setCell ⟨g, 5, none⟩ v5) g 6 _ t v6 h5]; rfl
  exact h6
theorem below7 {B : Nat} {a w : World} {g : Nat} (h : Below B a w) (hg : B ≤ g) (v0 v1 v2 v3 v4 v5 v6 : Value) :
    Below B a (((((((w.setCell ⟨g, 0, none⟩ v0).setCell ⟨g, 1, none⟩ v1).setCell ⟨g, 2, none⟩ v2).setCell ⟨g, 3, none⟩ v3).setCell ⟨g, 4, none⟩ v4).setCell ⟨g, 5, none⟩ v5).setCell ⟨g, 6, none⟩ v6) :=
  ((((((h.setCell (p := ⟨g, 0, none⟩) hg _).setCell (p := ⟨g, 1, none⟩) hg _).setCell (p := ⟨g, 2, none⟩) hg _).setCell (p := ⟨g, 3, none⟩) hg _).setCell (p := ⟨g, 4, none⟩) hg _).setCell (p := ⟨g, 5, none⟩) hg _).setCell (p := ⟨g, 6, none⟩) hg _
theorem other7 {w : World} {g k : Nat} (hk : k ≠ g) (v0 v1 v2 v3 v4 v5 v6 : Value) :
    (((((((w.setCell ⟨g, 0, none⟩ v0).setCell ⟨g, 1, none⟩ v1).setCell ⟨g, 2, none⟩ v2).setCell ⟨g, 3, none⟩ v3).setCell ⟨g, 4, none⟩ v4).setCell ⟨g, 5, none⟩ v5).setCell ⟨g, 6, none⟩ v6).heap[k]? = w.heap[k]? := by
  rw [Below.heap_setCell _ _ _ _ hk, Below.heap_setCell _ _ _ _ hk, Below.heap_setCell _ _ _ _ hk, Below.heap_setCell _ _ _ _ hk, Below.heap_setCell _ _ _ _ hk, Below.heap_setCell _ _ _ _ hk, Below.heap_setCell _ _ _ _ hk]
/-- seven cells as facts -/
theorem row7 {w : World} {g : Nat} {a b c d e f h : Value} {t : TypeId} (hw : w.heap[g]? = some (.cells #[a, b, c, d, e, f, h] t (0, 0))) :
    w.cell? ⟨g, 0, none⟩ = some a ∧ w.cell? ⟨g, 1, none⟩ = some b ∧ w.cell? ⟨g, 2, none⟩ = some c ∧ w.cell? ⟨g, 3, none⟩ = some d ∧ w.cell? ⟨g, 4, none⟩ = some e ∧ w.cell? ⟨g, 5, none⟩ = some f ∧ w.cell? ⟨g, 6, none⟩ = some h ∧ ∀ j, w.frozen? ⟨g, j, none⟩ = false :=
  ⟨by rw [cell_of_row _ _ 0 _ _ (0, 0) hw]; rfl, by rw [cell_of_row _ _ 1 _ _ (0, 0) hw]; rfl, by rw [cell_of_row _ _ 2 _ _ (0, 0) hw]; rfl, by rw [cell_of_row _ _ 3 _ _ (0, 0) hw]; rfl, by rw [cell_of_row _ _ 4 _ _ (0, 0) hw]; rfl, by rw [cell_of_row _ _ 5 _ _ (0, 0) hw]; rfl, by rw [cell_of_row _ _ 6 _ _ (0, 0) hw]; rfl, fun j => frozen_of_row _ _ j _ _ hw⟩
set_option maxRecDepth 100000 in
set_option maxHeartbeats 1000000 in
theorem copied_any (x : Raw) (w : World) (hI : Ints w x.a0 x.idx) (hl : x.idx.length ≤ 100000) : Calls Try.prog 36 #[rawV x] w fun e w' => (∃ a1 c1, e = .returned (rawV (x.at_ a1 c1)) ∧ Ints w' a1 x.idx ∧ (∀ a, a1 = some a → w.heap.size ≤ a.block ∧ a.block < w'.heap.size) ∧ IntT w' a1) ∧ Below w.heap.size w w' := by
  have hcl := hide (fun w' (hb : Below w.heap.size w w') => iclone_any x.idx x.a0 x.cap w' (hI.below hb) hl)
  have hb2 : Below w.heap.size w ((w.alloc (.cells (rawC x) 34)).alloc (.cells #[.int .i64 0, .int .i64 0, .int .i64 0, .int .i64 0, .string ⟨#[]⟩, .slice none 0 0, .string ⟨#[]⟩] 34)) := ((Below.refl _ w).alloc (Nat.le_refl _) _).alloc (by simp) _
  have B0 := hide hb2
  have hA := hide (heap2_a w (.cells (rawC x) 34) (.cells #[.int .i64 0, .int .i64 0, .int .i64 0, .int .i64 0, .string ⟨#[]⟩, .slice none 0 0, .string ⟨#[]⟩] 34))
  have hB := hide (heap2_b w (.cells (rawC x) 34) (.cells #[.int .i64 0, .int .i64 0, .int .i64 0, .int .i64 0, .string ⟨#[]⟩, .slice none 0 0, .string ⟨#[]⟩] 34))
  clear hI hb2
  go_enter Try.func36, Try.ntmps36
  go_wp2_with fail
  generalize hW0 : (w.alloc (.cells (rawC x) 34)).alloc (.cells #[.int .i64 0, .int .i64 0, .int .i64 0, .int .i64 0, .string ⟨#[]⟩, .slice none 0 0, .string ⟨#[]⟩] 34) = W0 at *
  have HW0 := hide hW0
  clear hW0
  refine (unhide hcl W0 (unhide B0)).mono ?_
  rintro e w1 ⟨v, rfl, hO, hb1⟩
  obtain ⟨a1, c1, rfl, hI1, _, _⟩ := hO.ints
  have hlt : ∀ a, a1 = some a → W0.heap.size ≤ a.block ∧ a.block < w1.heap.size := fun a ha => (show World.ownsRow _ _ _ _ _ _ _ from hO).lt a.block (by rw [ha]; rfl)
  have hty := hO.typ
  have hA1 : w1.heap[w.heap.size]? = some (.cells (rawC x) 34 (0, 0)) := (hb1.block _ (lt_of_block (unhide hA))).trans (unhide hA)
  have hB1 : w1.heap[w.heap.size + 1]? = some (.cells #[.int .i64 0, .int .i64 0, .int .i64 0, .int .i64 0, .string ⟨#[]⟩, .slice none 0 0, .string ⟨#[]⟩] 34 (0, 0)) := (hb1.block _ (lt_of_block (unhide hB))).trans (unhide hB)
  have hszW : w.heap.size + 2 ≤ W0.heap.size := lt_of_block (unhide hB)
  have hB0 := (unhide B0).trans (hb1.mono (unhide B0).size)
  obtain ⟨c0, c1', c2, c3, c4, c5, c6, f0⟩ := row7 hA1
  obtain ⟨d0, d1, d2, d3, d4, d5, d6, f1⟩ := row7 hB1
  have HI1 := hide hI1
  have HTY := hide hty
  have HLT := hide hlt
  have HB0 := hide hB0
  have HB1 := hide hB1
  clear hI1 hlt hB0 hB1 hA1 hb1 hO hA hB hty
  go_wp2
  have hBB : (w1.setCell ⟨w.heap.size, 5, none⟩ (.slice a1 x.idx.length c1)).heap[w.heap.size + 1]? = some (.cells #[.int .i64 0, .int .i64 0, .int .i64 0, .int .i64 0, .string ⟨#[]⟩, .slice none 0 0, .string ⟨#[]⟩] 34 (0, 0)) := (Below.heap_setCell _ _ _ _ (by simp)).trans (unhide HB1)
  have hE := set7 hBB (.int .i64 x.id) (.int .i64 x.peer) (.int .i64 x.mode) (.int .i64 x.seed) (.string x.hv) (.slice a1 x.idx.length c1) (.string x.dt)
  have hW : Below w.heap.size w (w1.setCell ⟨w.heap.size, 5, none⟩ (.slice a1 x.idx.length c1)) := (unhide HB0).setCell (p := ⟨w.heap.size, 5, none⟩) (Nat.le_refl _) _
  refine ret_cell rfl (w.heap.size + 1) 34 #[.int .i64 x.id, .int .i64 x.peer, .int .i64 x.mode, .int .i64 x.seed, .string x.hv, .slice a1 x.idx.length c1, .string x.dt] (0, 0) _ rfl hE rfl Try.underlying34 (by kernel_rfl) ⟨⟨a1, c1, rfl, fun i hi => ?_, fun a ha => ?_, fun a ha => ?_⟩, below7 hW (by omega) _ _ _ _ _ _ _⟩
  · obtain ⟨g, o, hao, h⟩ := unhide HI1 i hi
    have hg := (unhide HLT _ hao).1
    simp only at hg
    refine ⟨g, o, hao, ?_⟩
    have e := other7 (w := w1.setCell ⟨w.heap.size, 5, none⟩ (.slice a1 x.idx.length c1)) (g := w.heap.size + 1) (k := g) (by omega) (.int .i64 x.id) (.int .i64 x.peer) (.int .i64 x.mode) (.int .i64 x.seed) (.string x.hv) (.slice a1 x.idx.length c1) (.string x.dt)
    exact cell_same (e.trans (Below.heap_setCell _ _ _ g (by simp; omega))) h
  · have := unhide HLT a ha
    refine ⟨by omega, ?_⟩
    simp
    exact this.2
  · have hg := (unhide HLT a ha).1
    obtain ⟨cur, fr, hc⟩ := unhide HTY a ha
    have e := other7 (w := w1.setCell ⟨w.heap.size, 5, none⟩ (.slice a1 x.idx.length c1)) (g := w.heap.size + 1) (k := a.block) (by omega) (.int .i64 x.id) (.int .i64 x.peer) (.int .i64 x.mode) (.int .i64 x.seed) (.string x.hv) (.slice a1 x.idx.length c1) (.string x.dt)
    exact ⟨cur, fr, (e.trans (Below.heap_setCell _ _ _ a.block (by simp; omega))).trans hc⟩
theorem filter_pos (rs : List Raw) (P : Raw → Bool) : decide (0 < (rs.filter P).length) = rs.any P := by
  rw [Bool.eq_iff_iff, decide_eq_true_eq, List.length_pos_iff, List.any_eq_true]
  constructor
  · intro h
    obtain ⟨x, hx⟩ := List.exists_mem_of_ne_nil _ h
    rw [List.mem_filter] at hx
    exact ⟨x, hx.1, hx.2⟩
  · rintro ⟨x, hx, hp⟩ e
    have := List.mem_filter.2 ⟨hx, hp⟩
    rw [e] at this
    cases this
set_option maxRecDepth 100000 in
set_option maxHeartbeats 1000000 in
theorem has_any (p b : Nat) (room last : Int) (rs : List Raw) (peer mode seed : Int) (hv : ByteArray) (w : World) (hS : StAt w p b room last rs) :
    Calls Try.prog 35 #[.pointer (some ⟨p, 0, none⟩), .int .i64 peer, .agg #[.int .i64 mode, .int .i64 seed, .string hv]] w fun e w' => e = .returned (.bool (rs.any (hasB peer mode seed hv))) ∧ Below w.heap.size w w' := by
  have hB : Below w.heap.size w ((w.alloc (.cells #[.int .i64 peer] 3)).alloc (.cells #[.int .i64 mode, .int .i64 seed, .string hv] 31)) := ((Below.refl _ w).alloc (Nat.le_refl _) _).alloc (by simp) _
  have hA1 := heap2_a w (.cells #[.int .i64 peer] 3) (.cells #[.int .i64 mode, .int .i64 seed, .string hv] 31)
  have hA2 := heap2_b w (.cells #[.int .i64 peer] 3) (.cells #[.int .i64 mode, .int .i64 seed, .string hv] 31)
  have hS1 := hS.kept hB
  obtain ⟨D, hM, hD⟩ := hS1.map
  have hpk := hide (pick_has w.heap.size (w.heap.size + 1) p room last b last.toNat D rs (hasB peer mode seed hv) hD _ hS1.blk hM hS1.up (by have := hS1.len; have := hS1.room2; omega) (fun r hr W hW => has1_any r W w.heap.size (w.heap.size + 1) peer mode seed hv
    (by rw [hW.cell (lt_of_block hA1), cell_of_row _ _ 0 _ _ (0, 0) hA1]; rfl) (by rw [hW.cell (lt_of_block hA2), cell_of_row _ _ 0 _ _ (0, 0) hA2]; rfl) (by rw [hW.cell (lt_of_block hA2), cell_of_row _ _ 1 _ _ (0, 0) hA2]; rfl) (by rw [hW.cell (lt_of_block hA2), cell_of_row _ _ 2 _ _ (0, 0) hA2]; rfl)))
  have hfp := hide (filter_pos rs (hasB peer mode seed hv))
  have HB := hide hB
  clear hB hA1 hA2 hS1 hM hD hS
  generalize (rs.any (hasB peer mode seed hv)) = R at *
  generalize hfl : (rs.filter (hasB peer mode seed hv)).length = fl at *
  clear hfl
  go_enter Try.func35, Try.ntmps35
  go_wp2_with fail
  refine (unhide hpk).mono ?_
  rintro e w1 ⟨a0, c, rfl, _, _, hb1⟩
  have HB1 := hide ((unhide HB).trans (hb1.mono (unhide HB).size))
  clear hb1
  have e1 := unhide hfp
  have e2 : decide ((0 : Int) < (fl : Int)) = R := by rw [← e1]; simp
  have E1 := hide e2
  clear e1 e2 hfp
  cases hR : R with
  | true =>
    subst hR
    have q1 : (0 : Int) < (fl : Int) := of_decide_eq_true (unhide E1)
    have q2 : 0 < fl := by omega
    go_wp2
    go_ret
    exact ⟨rfl, unhide HB1⟩
  | false =>
    subst hR
    have q1 : ¬ (0 : Int) < (fl : Int) := of_decide_eq_false (unhide E1)
    have q2 : ¬ 0 < fl := by omega
    go_wp2
    go_ret
    exact ⟨rfl, unhide HB1⟩
set_option maxRecDepth 100000 in
theorem len_any (p b : Nat) (room last : Int) (rs : List Raw) (w : World) (hS : StAt w p b room last rs) :
    Calls Try.prog 24 #[.pointer (some ⟨p, 0, none⟩)] w fun e w' => e = .returned (.int .i64 rs.length) ∧ w = w' := by
  obtain ⟨D, hM, hD⟩ := hS.map
  have hc2 : w.cell? ⟨p, 2, none⟩ = some (.map (some b)) := by rw [cell_of_row _ _ 2 _ _ (0, 0) hS.blk]; rfl
  have hsz := hide hD.size
  have HM := hide hM
  clear hS hD hM
  go_enter Try.func24, Try.ntmps24
  go_wp2_with (at_len; refine wpList_len_own _ rfl _ 67 rfl 3 34 Try.underlying67 stR b last.toNat D rfl (unhide HM) ?_)
  go_wp2
  go_ret
  exact ⟨by rw [← unhide hsz]; rfl, rfl⟩
set_option maxRecDepth 100000 in
theorem room_any (p b : Nat) (room last : Int) (rs : List Raw) (w : World) (hS : StAt w p b room last rs) :
    Calls Try.prog 10 #[.pointer (some ⟨p, 0, none⟩)] w fun e w' => e = .returned (.int .i64 room) ∧ w = w' := by
  have hc0 : w.cell? ⟨p, 0, none⟩ = some (.int .i64 room) := by rw [cell_of_row _ _ 0 _ _ (0, 0) hS.blk]; rfl
  clear hS
  go_enter Try.func10, Try.ntmps10
  go_wp2
  go_ret
  exact ⟨rfl, rfl⟩
end Go.Proofs.Ytgomnmhjkjahlaa

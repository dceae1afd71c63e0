/- store: Drop, Of, With, DropPeer, Get; of a nil store. -/
import Derived.Test.YtgomnmhjkjahlaaStG
namespace Go.Proofs.Ytgomnmhjkjahlaa
open Go.RowKit
set_option linter.unusedVariables false
attribute [local go_sem] Oper.semAt_some

abbrev zC : Array Value := #[.int .i64 0, .int .i64 0, .int .i64 0, .int .i64 0, .string ⟨#[]⟩, .slice none 0 0, .string ⟨#[]⟩]
theorem StAt.dropped {w w' : World} {p b : Nat} {room last : Int} {rs : List Raw} (h : StAt w p b room last rs) (k : Int) {D : DataW Value} (hD : MapIs D rs) (hM : StMap w' b last.toNat (D.del (kI k))) (ht : w.mapTurned w' b) : StAt w' p b room last (rs.filter fun r => decide (r.id ≠ k)) := by
  have hg := ht.grown
  refine ⟨(hg.block _ h.plt (fun e => h.ne (by cases e; rfl))).trans h.blk, ⟨_, hM, hD.del h.up k⟩, h.up.sublist List.filter_sublist, fun r hr => h.ids r (List.mem_filter.1 hr).1, fun r hr => h.mem_k2 (K2.of_grown hg) r (List.mem_filter.1 hr).1, h.room1, h.room2, ?_, h.last0, h.last1⟩
  have := h.len
  have := List.length_filter_le (fun r : Raw => decide (r.id ≠ k)) rs
  omega
set_option maxRecDepth 100000 in
set_option maxHeartbeats 1000000 in
theorem drop_none (p b : Nat) (room last : Int) (rs : List Raw) (k : Int) (hk : (Lit.int .i64 k).wf = true) (w : World) (hS : StAt w p b room last rs) (hn : ∀ r ∈ rs, r.id ≠ k) :
    Calls Try.prog 16 #[.pointer (some ⟨p, 0, none⟩), .int .i64 k] w fun e w' => e = .returned (.int .i64 4) ∧ Below w.heap.size w w' := by
  obtain ⟨D, hM, hD⟩ := hS.map
  obtain ⟨p0, p1, p2, fp⟩ := cells3 hS.blk
  have HM := hide hM
  have HD := hide hD
  have HN := hide hn
  have HK := hide hk
  clear hM hD hS hn hk
  go_enter Try.func16, Try.ntmps16
  go_wp2_with (at_lookup; refine wpList_look_st _ rfl _ _ rfl b last.toNat D rs (unhide HD) rfl (unhide HM) k rfl (unhide HK) ?_ ?_)
  · intro _
    go_wp2
    go_ret
    exact ⟨rfl, (Below.refl _ w).alloc (Nat.le_refl _) _⟩
  · intro r hr he
    exact absurd he (unhide HN r hr)
set_option maxRecDepth 100000 in
set_option maxHeartbeats 1000000 in
theorem drop_ok (p b : Nat) (room last : Int) (rs : List Raw) (x : Raw) (w : World) (hS : StAt w p b room last rs) (hx : x ∈ rs) :
    Calls Try.prog 16 #[.pointer (some ⟨p, 0, none⟩), .int .i64 x.id] w fun e w' => e = .returned (.int .i64 0) ∧ StAt w' p b room last (rs.filter fun r => decide (r.id ≠ x.id)) ∧ K2 p b w w' := by
  obtain ⟨D, hM, hD⟩ := hS.map
  obtain ⟨p0, p1, p2, fp⟩ := cells3 hS.blk
  have hplt := hS.plt
  have hkw : (Lit.int .i64 x.id).wf = true := WalkArith.wf_i64 (by have := hS.ids x hx; have := hS.last1; omega)
  have HM := hide hM
  have HD := hide hD
  have HK := hide hkw
  have HS := hide hS
  have HX := hide hx
  clear hM hD hS hx hkw
  go_enter Try.func16, Try.ntmps16
  go_wp2_with (at_lookup; refine wpList_look_st _ rfl _ _ rfl b last.toNat D rs (unhide HD) rfl (unhide HM) x.id rfl (unhide HK) ?_ ?_)
  · intro hn
    exact absurd rfl (hn x (unhide HX))
  · intro r hr he
    have hwp : w.heap.size ≠ p := by omega
    have hBl : Below w.heap.size w (w.alloc (.cells (rawC r) 34)) := (Below.refl _ w).alloc (Nat.le_refl _) _
    have HB := hide hBl
    clear he hr hBl
    go_wp2_with (at_delete; refine wpList_delete_own _ rfl _ _ 67 3 rfl 34 keyed Try.underlying67 stR b last.toNat D rfl ((unhide HM).alloc _) _ (kI x.id) rfl (keyOf_k (unhide HK)) ?_)
    intro w1 hM1 ht1
    have HS1 := hide (((unhide HS).kept (unhide HB)).dropped x.id (unhide HD) hM1 ht1)
    have HK1 := hide ((K2.of_below (p := p) (unhide HB)).trans (K2.of_grown ht1.grown))
    clear hM1 ht1
    go_wp2
    go_ret
    exact ⟨rfl, unhide HS1, unhide HK1⟩
set_option maxRecDepth 100000 in
set_option maxHeartbeats 1000000 in
theorem of_any (p b : Nat) (room last : Int) (rs : List Raw) (peer : Int) (w : World) (hS : StAt w p b room last rs) :
    Calls Try.prog 25 #[.pointer (some ⟨p, 0, none⟩), .int .i64 peer] w fun e w' => (∃ a0 c, e = .returned (.slice a0 (rs.filter fun r => r.peer == peer).length c) ∧ Ints w' a0 ((rs.filter fun r => r.peer == peer).map Raw.id) ∧ (∀ a, a0 = some a → w.heap.size ≤ a.block)) ∧ Below w.heap.size w w' := by
  have hB : Below w.heap.size w (w.alloc (.cells #[.int .i64 peer] 3)) := (Below.refl _ w).alloc (Nat.le_refl _) _
  have hA1 := heap_alloc_new w (.cells #[.int .i64 peer] 3)
  have hS1 := hS.kept hB
  obtain ⟨D, hM, hD⟩ := hS1.map
  have hpk := hide (pick_of w.heap.size p room last b last.toNat D rs (fun r => r.peer == peer) hD _ hS1.blk hM hS1.up (by have := hS1.len; have := hS1.room2; omega) (fun r hr W hW => of1_any r W w.heap.size peer (by rw [hW.cell (lt_of_block hA1), cell_of_row _ _ 0 _ _ (0, 0) hA1]; rfl)))
  have HB := hide hB
  clear hB hA1 hS1 hM hD hS
  generalize (rs.filter fun r => r.peer == peer).length = fl at *
  go_enter Try.func25, Try.ntmps25
  go_wp2_with fail
  refine (unhide hpk).mono ?_
  rintro e w1 ⟨a0, c, rfl, hI, hge, hb1⟩
  have HGE : Hid (∀ a, a0 = some a → w.heap.size ≤ a.block) := fun a ha => Nat.le_trans (unhide HB).size (hge a ha)
  have HB1 := hide ((unhide HB).trans (hb1.mono (unhide HB).size))
  have HI := hide hI
  clear hb1 hI hpk hge
  go_wp2
  go_ret
  exact ⟨⟨a0, c, rfl, unhide HI, unhide HGE⟩, unhide HB1⟩
set_option maxRecDepth 100000 in
set_option maxHeartbeats 1000000 in
theorem with_any (p b : Nat) (room last : Int) (rs : List Raw) (num : Int) (w : World) (hS : StAt w p b room last rs) :
    Calls Try.prog 26 #[.pointer (some ⟨p, 0, none⟩), .int .i64 num] w fun e w' => (∃ a0 c, e = .returned (.slice a0 (rs.filter fun r => decide (num ∈ r.idx)).length c) ∧ Ints w' a0 ((rs.filter fun r => decide (num ∈ r.idx)).map Raw.id) ∧ (∀ a, a0 = some a → w.heap.size ≤ a.block)) ∧ Below w.heap.size w w' := by
  have hB : Below w.heap.size w (w.alloc (.cells #[.int .i64 num] 3)) := (Below.refl _ w).alloc (Nat.le_refl _) _
  have hA1 := heap_alloc_new w (.cells #[.int .i64 num] 3)
  have hS1 := hS.kept hB
  obtain ⟨D, hM, hD⟩ := hS1.map
  have hpk := hide (pick_with w.heap.size p room last b last.toNat D rs (fun r => decide (num ∈ r.idx)) hD _ hS1.blk hM hS1.up (by have := hS1.len; have := hS1.room2; omega) (fun r hr W hW => with1_any r W w.heap.size num (by rw [hW.cell (lt_of_block hA1), cell_of_row _ _ 0 _ _ (0, 0) hA1]; rfl) ((hS1.mem r hr).1.below hW) (by have := (hS1.mem r hr).2.1; omega)))
  have HB := hide hB
  clear hB hA1 hS1 hM hD hS
  generalize (rs.filter fun r => decide (num ∈ r.idx)).length = fl at *
  go_enter Try.func26, Try.ntmps26
  go_wp2_with fail
  refine (unhide hpk).mono ?_
  rintro e w1 ⟨a0, c, rfl, hI, hge, hb1⟩
  have HGE : Hid (∀ a, a0 = some a → w.heap.size ≤ a.block) := fun a ha => Nat.le_trans (unhide HB).size (hge a ha)
  have HB1 := hide ((unhide HB).trans (hb1.mono (unhide HB).size))
  have HI := hide hI
  clear hb1 hI hpk hge
  go_wp2
  go_ret
  exact ⟨⟨a0, c, rfl, unhide HI, unhide HGE⟩, unhide HB1⟩
set_option maxRecDepth 100000 in
theorem pick_nil (f : Value) (w : World) : Calls Try.prog 37 #[.pointer none, f] w fun e w' => e = .returned (.slice none 0 0) ∧ w = w' := by
  go_enter Try.func37, Try.ntmps37
  go_wp2
  go_ret
  exact ⟨rfl, rfl⟩
set_option maxRecDepth 100000 in
theorem of_nil (n : Int) (w : World) : Calls Try.prog 25 #[.pointer none, .int .i64 n] w fun e w' => e = .returned (.slice none 0 0) ∧ Below w.heap.size w w' := by
  go_enter Try.func25, Try.ntmps25
  go_wp2_with (go_at_call 37; refine (pick_nil _ _).mono ?_; rintro e w' ⟨rfl, rfl⟩)
  go_ret
  exact ⟨rfl, (Below.refl _ w).alloc (Nat.le_refl _) _⟩
set_option maxRecDepth 100000 in
theorem with_nil (n : Int) (w : World) : Calls Try.prog 26 #[.pointer none, .int .i64 n] w fun e w' => e = .returned (.slice none 0 0) ∧ Below w.heap.size w w' := by
  go_enter Try.func26, Try.ntmps26
  go_wp2_with (go_at_call 37; refine (pick_nil _ _).mono ?_; rintro e w' ⟨rfl, rfl⟩)
  go_ret
  exact ⟨rfl, (Below.refl _ w).alloc (Nat.le_refl _) _⟩
set_option maxRecDepth 100000 in
theorem all_nil (w : World) : Calls Try.prog 23 #[.pointer none] w fun e w' => e = .returned (.slice none 0 0) ∧ w = w' := by
  go_enter Try.func23, Try.ntmps23
  go_wp2_with (go_at_call 37; refine (pick_nil _ _).mono ?_; rintro e w' ⟨rfl, rfl⟩)
  refine wp_loop_rounds 1 ?_
  rw [rounds_succ]
  go_wp2
  go_ret
  exact ⟨rfl, rfl⟩
set_option maxRecDepth 100000 in
theorem dropPeer_nil (n : Int) (w : World) : Calls Try.prog 18 #[.pointer none, .int .i64 n] w fun e w' => e = .returned (.slice none 0 0) ∧ Below w.heap.size w w' := by
  go_enter Try.func18, Try.ntmps18
  go_wp2_with fail
  refine (of_nil n w).mono ?_
  rintro e w1 ⟨rfl, hb⟩
  have HB := hide hb
  clear hb
  go_wp2_with fail
  refine wp_loop_rounds 1 ?_
  rw [rounds_succ]
  go_wp2
  go_ret
  exact ⟨rfl, unhide HB⟩
set_option maxRecDepth 100000 in
theorem drop_nil (n : Int) (w : World) : Calls Try.prog 16 #[.pointer none, .int .i64 n] w fun e w' => e = .returned (.int .i64 1) ∧ w = w' := by
  go_enter Try.func16, Try.ntmps16
  go_wp2
  go_ret
  exact ⟨rfl, rfl⟩
set_option maxRecDepth 100000 in
theorem len_nil (w : World) : Calls Try.prog 24 #[.pointer none] w fun e w' => e = .returned (.int .i64 0) ∧ w = w' := by
  go_enter Try.func24, Try.ntmps24
  go_wp2
  go_ret
  exact ⟨rfl, rfl⟩
set_option maxRecDepth 100000 in
theorem room_nil (w : World) : Calls Try.prog 10 #[.pointer none] w fun e w' => e = .returned (.int .i64 0) ∧ w = w' := by
  go_enter Try.func10, Try.ntmps10
  go_wp2
  go_ret
  exact ⟨rfl, rfl⟩
set_option maxRecDepth 100000 in
theorem get_nil (n : Int) (w : World) : Calls Try.prog 28 #[.pointer none, .int .i64 n] w fun e w' => e = .returned (.tuple #[.agg zC, .bool false]) ∧ Below w.heap.size w w' := by
  go_enter Try.func28, Try.ntmps28
  go_wp2
  refine bodyPost_ret (v := .tuple #[.agg zC, .bool false]) (by simp [results, Try.results28, go_sem]) rfl ⟨rfl, (Below.refl _ w).alloc (Nat.le_refl _) _⟩
end Go.Proofs.Ytgomnmhjkjahlaa

/- store: Add. -/
import Derived.Test.YtgomnmhjkjahlaaStF
namespace Go.Proofs.Ytgomnmhjkjahlaa
open Go.RowKit
set_option linter.unusedVariables false
attribute [local go_sem] Oper.semAt_some

theorem cells3 {w : World} {g : Nat} {a b c : Value} {t : TypeId} (hw : w.heap[g]? = some (.cells #[a, b, c] t (0, 0))) :
    w.cell? ⟨g, 0, none⟩ = some a ∧ w.cell? ⟨g, 1, none⟩ = some b ∧ w.cell? ⟨g, 2, none⟩ = some c ∧ ∀ j, w.frozen? ⟨g, j, none⟩ = false :=
  ⟨by rw [cell_of_row _ _ 0 _ _ (0, 0) hw]; rfl, by rw [cell_of_row _ _ 1 _ _ (0, 0) hw]; rfl, by rw [cell_of_row _ _ 2 _ _ (0, 0) hw]; rfl, fun j => frozen_of_row _ _ j _ _ hw⟩
set_option maxRecDepth 100000 in
theorem add_nil (x : Raw) (w : World) : Calls Try.prog 14 #[.pointer none, rawV x] w fun e w' => e = .returned (.tuple #[.int .i64 0, .int .i64 1]) ∧ Below w.heap.size w w' := by
  go_enter Try.func14, Try.ntmps14
  go_wp2
  go_ret2
  exact ⟨rfl, (Below.refl _ _).alloc (Nat.le_refl _) _⟩
set_option maxRecDepth 100000 in
set_option maxHeartbeats 1000000 in
theorem add_bad (p : Nat) (x : Raw) (w : World) (hI : Ints w x.a0 x.idx) (hl : x.idx.length ≤ 100000) (hd : x.dt.size ≤ maxLen) (hm : mayK x.peer x.idx x.dt.size = false) : Calls Try.prog 14 #[.pointer (some ⟨p, 0, none⟩), rawV x] w fun e w' => e = .returned (.tuple #[.int .i64 0, .int .i64 1]) ∧ Below w.heap.size w w' := by
  have B0 : Hid (Below w.heap.size w (w.alloc (.cells (rawC x) 34))) := (Below.refl _ w).alloc (Nat.le_refl _) _
  have hmk := hide (mayK_any x _ (hI.below (unhide B0)) hl hd)
  rw [hm] at hmk
  clear hI hm
  go_enter Try.func14, Try.ntmps14
  go_wp2_with fail
  refine (unhide hmk).mono ?_
  rintro e w1 ⟨rfl, hb1⟩
  have HB1 := hide ((unhide B0).trans (hb1.mono (unhide B0).size))
  clear hb1
  go_wp2
  go_ret2
  exact ⟨rfl, unhide HB1⟩
set_option maxRecDepth 100000 in
set_option maxHeartbeats 1000000 in
theorem add_there (p b : Nat) (room last : Int) (rs : List Raw) (x : Raw) (w : World) (hS : StAt w p b room last rs) (hI : Ints w x.a0 x.idx) (hl : x.idx.length ≤ 100000) (hd : x.dt.size ≤ maxLen) (hm : mayK x.peer x.idx x.dt.size = true) (hh : rs.any (hasB x.peer x.mode x.seed x.hv) = true) : Calls Try.prog 14 #[.pointer (some ⟨p, 0, none⟩), rawV x] w fun e w' => e = .returned (.tuple #[.int .i64 0, .int .i64 5]) ∧ Below w.heap.size w w' := by
  have B0 : Hid (Below w.heap.size w (w.alloc (.cells (rawC x) 34))) := (Below.refl _ w).alloc (Nat.le_refl _) _
  have hmk := hide (mayK_any x _ (hI.below (unhide B0)) hl hd)
  rw [hm] at hmk
  have hX := hide (heap_alloc_new w (.cells (rawC x) 34))
  have hhs := hide (fun w' (hb : Below w.heap.size w w') => has_any p b room last rs x.peer x.mode x.seed x.hv w' (hS.kept hb))
  rw [hh] at hhs
  clear hI hm hS hh
  go_enter Try.func14, Try.ntmps14
  go_wp2_with fail
  refine (unhide hmk).mono ?_
  rintro e w1 ⟨rfl, hb1⟩
  have HB1 := hide ((unhide B0).trans (hb1.mono (unhide B0).size))
  obtain ⟨c0, c1, c2, c3, c4, c5, c6, f0⟩ := row7 ((hb1.block _ (lt_of_block (unhide hX))).trans (unhide hX))
  clear hb1
  go_wp2_with fail
  refine (unhide hhs w1 (unhide HB1)).mono ?_
  rintro e w2 ⟨rfl, hb2⟩
  have HB2 := hide ((unhide HB1).trans (hb2.mono (unhide HB1).size))
  clear hb2 c0 c1 c2 c3 c4 c5 c6 f0
  go_wp2
  go_ret2
  exact ⟨rfl, unhide HB2⟩
theorem st_len {w : World} {p b : Nat} {room last : Int} {rs : List Raw} (h : StAt w p b room last rs) (ty : TypeId) : (Builtin.len_ #[67] ty #[.map (some b)]).run Try.prog w = .ok (.int .i64 rs.length) w := by
  obtain ⟨D, hM, hD⟩ := h.map
  rw [hM.len Try.underlying67 ty, hD.size]
set_option maxRecDepth 100000 in
set_option maxHeartbeats 1000000 in
theorem add_full (p b : Nat) (room last : Int) (rs : List Raw) (x : Raw) (w : World) (hS : StAt w p b room last rs) (hI : Ints w x.a0 x.idx) (hl : x.idx.length ≤ 100000) (hd : x.dt.size ≤ maxLen) (hm : mayK x.peer x.idx x.dt.size = true) (hh : rs.any (hasB x.peer x.mode x.seed x.hv) = false) (hf : room ≤ rs.length) : Calls Try.prog 14 #[.pointer (some ⟨p, 0, none⟩), rawV x] w fun e w' => e = .returned (.tuple #[.int .i64 0, .int .i64 6]) ∧ Below w.heap.size w w' := by
  have B0 : Hid (Below w.heap.size w (w.alloc (.cells (rawC x) 34))) := (Below.refl _ w).alloc (Nat.le_refl _) _
  have hmk := hide (mayK_any x _ (hI.below (unhide B0)) hl hd)
  rw [hm] at hmk
  have hX := hide (heap_alloc_new w (.cells (rawC x) 34))
  have hhs := hide (fun w' (hb : Below w.heap.size w w') => has_any p b room last rs x.peer x.mode x.seed x.hv w' (hS.kept hb))
  rw [hh] at hhs
  have HS := hide hS
  clear hI hm hS hh
  go_enter Try.func14, Try.ntmps14
  go_wp2_with fail
  refine (unhide hmk).mono ?_
  rintro e w1 ⟨rfl, hb1⟩
  have HB1 := hide ((unhide B0).trans (hb1.mono (unhide B0).size))
  obtain ⟨c0, c1, c2, c3, c4, c5, c6, f0⟩ := row7 ((hb1.block _ (lt_of_block (unhide hX))).trans (unhide hX))
  clear hb1
  go_wp2_with fail
  refine (unhide hhs w1 (unhide HB1)).mono ?_
  rintro e w2 ⟨rfl, hb2⟩
  have HB2 := hide ((unhide HB1).trans (hb2.mono (unhide HB1).size))
  clear hb2 c0 c1 c2 c3 c4 c5 c6 f0
  have HS2 := hide ((unhide HS).kept (unhide HB2))
  have d1 : decide ((room : Int) ≤ (rs.length : Int)) = true := decide_eq_true hf
  go_wp2_with fail
  refine wp_region_late 10 ?A0 (by kernel_rfl) (by kernel_rfl) (by kernel_rfl) ?lex ?_
  case lex =>
    intro X
    have hneX := gb_ne X.w
    have hSX : ∀ y : Gb X.w, StAt y.w p b room last rs := fun y => ((unhide HS2).kept X.ok).kept y.ok
    have g0 : ∀ y : Gb X.w, y.w.cell? ⟨p, 0, none⟩ = some (.int .i64 room) := fun y => (cells3 (hSX y).blk).1
    have g2 : ∀ y : Gb X.w, y.w.cell? ⟨p, 2, none⟩ = some (.map (some b)) := fun y => (cells3 (hSX y).blk).2.2.1
    have gl : ∀ y : Gb X.w, ∀ ty, (Builtin.len_ #[67] ty #[.map (some b)]).run Try.prog y.w = .ok (.int .i64 rs.length) y.w := fun y ty => st_len (hSX y) ty
    clear hSX
    dsimp only [List.take_succ_cons, List.take_zero]
    repeat (go_big_quiet_step ((fail)))
    refine wpQuiet_nil ?_
    exact rfl
  intro w3 b3
  try simp only [List.drop_succ_cons, List.drop_nil]
  have HB3 := hide ((unhide HB2).trans (b3.mono (unhide HB2).size))
  clear b3
  go_wp2
  refine onlyN ?_
  go_wp2
  go_ret2
  exact ⟨rfl, unhide HB3⟩
theorem K2.setNew {p b : Nat} {w y : World} (h : K2 p b w y) (g j : Nat) (v : Value) (hg : w.heap.size ≤ g) : K2 p b w (y.setCell ⟨g, j, none⟩ v) :=
  ⟨h.os, h.tape, h.output, by simpa using h.size, fun k hk h1 h2 => (Below.heap_setCell _ _ _ _ (by simp only; omega)).trans (h.block k hk h1 h2)⟩
theorem K2.andBelow {p b : Nat} {w y z : World} (h : K2 p b w y) (k : Below y.heap.size y z) : K2 p b w z := h.trans (K2.of_below k)
theorem K2.typed {w w' : World} {p b : Nat} {room last : Int} {rs : List Raw} (h : StAt w p b room last rs) (hk : K2 p b w w') : ∀ (k : Nat) (cur : Array Value) (fr : Nat × Nat), w.heap[k]? = some (.cells cur 3 fr) → w'.heap[k]? = w.heap[k]? := fun k cur fr hc => by
  refine hk.block k (lt_of_block hc) ?_ ?_
  · rintro rfl
    rw [h.blk] at hc
    simp at hc
  · rintro rfl
    obtain ⟨es, cl, hm⟩ := h.isMap
    rw [hm] at hc
    cases hc
theorem StAt.mem_k2 {w w' : World} {p b : Nat} {room last : Int} {rs : List Raw} (h : StAt w p b room last rs) (hk : K2 p b w w') : ∀ r ∈ rs, Ints w' r.a0 r.idx ∧ r.idx.length ≤ 1000 ∧ IntT w' r.a0 := fun r hr => by
  obtain ⟨h1, h2, h3⟩ := h.mem r hr
  exact ⟨h1.sameT h3 (hk.typed h), h2, h3.same (hk.typed h)⟩
set_option maxRecDepth 100000 in
set_option maxHeartbeats 2000000 in
theorem add_ok (p b : Nat) (room last : Int) (rs : List Raw) (x : Raw) (w : World) (hS : StAt w p b room last rs) (hI : Ints w x.a0 x.idx) (hl : x.idx.length ≤ 1000) (hd : x.dt.size ≤ maxLen) (hxp : ∀ a, x.a0 = some a → a.block ≠ p) (hm : mayK x.peer x.idx x.dt.size = true) (hh : rs.any (hasB x.peer x.mode x.seed x.hv) = false) (hf : (rs.length : Int) < room) (hlast : last < 1000000000) :
    Calls Try.prog 14 #[.pointer (some ⟨p, 0, none⟩), rawV x] w fun e w' => e = .returned (.tuple #[.int .i64 (last + 1), .int .i64 0]) ∧ (∃ a1 c1, StAt w' p b room (last + 1) (rs ++ [{ x with id := last + 1, a0 := a1, cap := c1 }])) ∧ K2 p b w w' := by
  have B0 : Hid (Below w.heap.size w (w.alloc (.cells (rawC x) 34))) := (Below.refl _ w).alloc (Nat.le_refl _) _
  have hmk := hide (mayK_any x _ (hI.below (unhide B0)) (by omega) hd)
  rw [hm] at hmk
  have hX := hide (heap_alloc_new w (.cells (rawC x) 34))
  have hhs := hide (fun w' (hb : Below w.heap.size w w') => has_any p b room last rs x.peer x.mode x.seed x.hv w' (hS.kept hb))
  rw [hh] at hhs
  have HS := hide hS
  have HI := hide hI
  have hlast0 := hS.last0
  have hplt := hS.plt
  have HIM := hide hS.isMap
  have hcp := hide (fun w' (h : Ints w' x.a0 x.idx) => copied_any x w' h (by omega))
  have HXP := hide hxp
  clear hI hm hS hh hxp
  go_enter Try.func14, Try.ntmps14
  go_wp2_with fail
  refine (unhide hmk).mono ?_
  rintro e w1 ⟨rfl, hb1⟩
  have HB1 := hide ((unhide B0).trans (hb1.mono (unhide B0).size))
  have hX1 := (hb1.block _ (lt_of_block (unhide hX))).trans (unhide hX)
  obtain ⟨c0, c1, c2, c3, c4, c5, c6, f0⟩ := row7 hX1
  have HX1 := hide hX1
  clear hb1 hX1 hX hmk
  go_wp2_with fail
  refine (unhide hhs w1 (unhide HB1)).mono ?_
  rintro e w2 ⟨rfl, hb2⟩
  have HB2 := hide ((unhide HB1).trans (hb2.mono (unhide HB1).size))
  have HX2 := hide ((hb2.block _ (lt_of_block (unhide HX1))).trans (unhide HX1))
  clear hb2 c0 c1 c2 c3 c4 c5 c6 f0 hhs HB1 HX1 B0
  have HS2 := hide ((unhide HS).kept (unhide HB2))
  have d1 : decide ((room : Int) ≤ (rs.length : Int)) = false := decide_eq_false (by omega)
  go_wp2_with fail
  refine wp_region_late 10 ?A0 (by kernel_rfl) (by kernel_rfl) (by kernel_rfl) ?lex ?_
  case lex =>
    intro X
    have hneX := gb_ne X.w
    have hSX : ∀ y : Gb X.w, StAt y.w p b room last rs := fun y => ((unhide HS2).kept X.ok).kept y.ok
    have g0 : ∀ y : Gb X.w, y.w.cell? ⟨p, 0, none⟩ = some (.int .i64 room) := fun y => (cells3 (hSX y).blk).1
    have g2 : ∀ y : Gb X.w, y.w.cell? ⟨p, 2, none⟩ = some (.map (some b)) := fun y => (cells3 (hSX y).blk).2.2.1
    have gl : ∀ y : Gb X.w, ∀ ty, (Builtin.len_ #[67] ty #[.map (some b)]).run Try.prog y.w = .ok (.int .i64 rs.length) y.w := fun y ty => st_len (hSX y) ty
    clear hSX
    dsimp only [List.take_succ_cons, List.take_zero]
    repeat (go_big_quiet_step ((fail)))
    refine wpQuiet_nil ?_
    exact rfl
  intro w3 b3
  try simp only [List.drop_succ_cons, List.drop_nil]
  have HB3 := hide ((unhide HB2).trans (b3.mono (unhide HB2).size))
  have hS3 := (unhide HS2).kept b3
  have HX3 := hide ((b3.block _ (lt_of_block (unhide HX2))).trans (unhide HX2))
  obtain ⟨p0, p1, p2, fp⟩ := cells3 hS3.blk
  obtain ⟨c0, c1, c2, c3, c4, c5, c6, f0⟩ := row7 (unhide HX3)
  have HS3 := hide hS3
  have hwp : w.heap.size ≠ p := by omega
  clear b3 hS3 HX2 HS2 HB2
  -- the last number
  have hK4 := hide ((K2.of_below (p := p) (b := b) (unhide HB3)).trans (K2.set w3 1 (.int .i64 (last + 1))))
  have hI4 := hide ((unhide HI).k2 (unhide hK4) (unhide HXP) (unhide HIM))
  have HP4 : Hid ((w3.setCell ⟨p, 1, none⟩ (.int .i64 (last + 1))).heap[p]? = some (.cells #[.int .i64 room, .int .i64 (last + 1), .map (some b)] 69 (0, 0))) := by
    show _ = _
    rw [heap_setCell_same w3 p 1 _ _ _ (unhide HS3).blk]
    rfl
  have HX4 : Hid ((w3.setCell ⟨p, 1, none⟩ (.int .i64 (last + 1))).heap[w.heap.size]? = some (.cells (rawC x) 34 (0, 0))) := (Below.heap_setCell _ _ _ _ hwp).trans (unhide HX3)
  have HM4 : Hid (∃ D, StMap (w3.setCell ⟨p, 1, none⟩ (.int .i64 (last + 1))) b last.toNat D ∧ MapIs D rs) := by
    obtain ⟨D, hM, hD⟩ := (unhide HS3).map
    exact ⟨D, hM.setCell (fun e => (unhide HS3).ne e.symm) _, hD⟩
  refine onlyN ?_
  go_wp2_with fail
  generalize hW4 : w3.setCell ⟨p, 1, none⟩ (.int .i64 (last + 1)) = W4 at *
  have HW4 := hide hW4
  clear hW4 p0 p1 p2 fp c0 c1 c2 c3 c4 c5 c6 f0
  refine (unhide hcp W4 (unhide hI4)).mono ?_
  rintro e w5 ⟨⟨a1, q1, rfl, hI5, hlt5, hT5⟩, hb5⟩
  have hX5 := (hb5.block _ (lt_of_block (unhide HX4))).trans (unhide HX4)
  have hP5 := (hb5.block _ (lt_of_block (unhide HP4))).trans (unhide HP4)
  obtain ⟨p0, p1, p2, fp⟩ := cells3 hP5
  obtain ⟨c0, c1, c2, c3, c4, c5, c6, f0⟩ := row7 hX5
  have hsz4 : w.heap.size < W4.heap.size := lt_of_block (unhide HX4)
  have HX7 : Hid (((((((((w5.setCell ⟨w.heap.size, 0, none⟩ (.int .i64 x.id)).setCell ⟨w.heap.size, 1, none⟩ (.int .i64 x.peer)).setCell ⟨w.heap.size, 2, none⟩ (.int .i64 x.mode)).setCell ⟨w.heap.size, 3, none⟩ (.int .i64 x.seed)).setCell ⟨w.heap.size, 4, none⟩ (.string x.hv)).setCell ⟨w.heap.size, 5, none⟩ (.slice a1 x.idx.length q1)).setCell ⟨w.heap.size, 6, none⟩ (.string x.dt)).setCell ⟨w.heap.size, 0, none⟩ (.int .i64 (last + 1))).heap[w.heap.size]? = some (.cells #[.int .i64 (last + 1), .int .i64 x.peer, .int .i64 x.mode, .int .i64 x.seed, .string x.hv, .slice a1 x.idx.length q1, .string x.dt] 34 (0, 0))) := by
    show _ = _
    rw [heap_setCell_same _ w.heap.size 0 _ _ _ (set7 hX5 (.int .i64 x.id) (.int .i64 x.peer) (.int .i64 x.mode) (.int .i64 x.seed) (.string x.hv) (.slice a1 x.idx.length q1) (.string x.dt))]
    rfl
  have HO7 : Hid (∀ k, k ≠ w.heap.size → ((((((((w5.setCell ⟨w.heap.size, 0, none⟩ (.int .i64 x.id)).setCell ⟨w.heap.size, 1, none⟩ (.int .i64 x.peer)).setCell ⟨w.heap.size, 2, none⟩ (.int .i64 x.mode)).setCell ⟨w.heap.size, 3, none⟩ (.int .i64 x.seed)).setCell ⟨w.heap.size, 4, none⟩ (.string x.hv)).setCell ⟨w.heap.size, 5, none⟩ (.slice a1 x.idx.length q1)).setCell ⟨w.heap.size, 6, none⟩ (.string x.dt)).setCell ⟨w.heap.size, 0, none⟩ (.int .i64 (last + 1))).heap[k]? = w5.heap[k]?) := fun k hk => (Below.heap_setCell _ _ _ _ hk).trans (other7 hk _ _ _ _ _ _ _)
  have HB7 : Hid (Below w.heap.size w5 ((((((((w5.setCell ⟨w.heap.size, 0, none⟩ (.int .i64 x.id)).setCell ⟨w.heap.size, 1, none⟩ (.int .i64 x.peer)).setCell ⟨w.heap.size, 2, none⟩ (.int .i64 x.mode)).setCell ⟨w.heap.size, 3, none⟩ (.int .i64 x.seed)).setCell ⟨w.heap.size, 4, none⟩ (.string x.hv)).setCell ⟨w.heap.size, 5, none⟩ (.slice a1 x.idx.length q1)).setCell ⟨w.heap.size, 6, none⟩ (.string x.dt)).setCell ⟨w.heap.size, 0, none⟩ (.int .i64 (last + 1)))) := (below7 (Below.refl _ w5) (Nat.le_refl _) _ _ _ _ _ _ _).setCell (p := ⟨w.heap.size, 0, none⟩) (Nat.le_refl _) _
  have HP5 := hide hP5
  have HI5 := hide hI5
  have HT5 := hide hT5
  have HLT5 := hide hlt5
  have HB5 := hide hb5
  clear hX5 hP5 hI5 hlt5 hb5 hcp hI4 HX4 hT5
  go_wp2_with fail
  generalize hW7 : (((((((w5.setCell ⟨w.heap.size, 0, none⟩ (.int .i64 x.id)).setCell ⟨w.heap.size, 1, none⟩ (.int .i64 x.peer)).setCell ⟨w.heap.size, 2, none⟩ (.int .i64 x.mode)).setCell ⟨w.heap.size, 3, none⟩ (.int .i64 x.seed)).setCell ⟨w.heap.size, 4, none⟩ (.string x.hv)).setCell ⟨w.heap.size, 5, none⟩ (.slice a1 x.idx.length q1)).setCell ⟨w.heap.size, 6, none⟩ (.string x.dt)).setCell ⟨w.heap.size, 0, none⟩ (.int .i64 (last + 1)) = W7 at *
  have HW7 := hide hW7
  clear hW7 p0 p1 p2 fp c0 c1 c2 c3 c4 c5 c6 f0
  have HP7 := hide ((unhide HO7 p (fun e => hwp e.symm)).trans (unhide HP5))
  refine wp_region_late 7 ?A1 (by kernel_rfl) (by kernel_rfl) (by kernel_rfl) ?lex1 ?_
  case lex1 =>
    intro X
    have hneX := gb_ne X.w
    have g2 : ∀ y : Gb X.w, y.w.cell? ⟨p, 2, none⟩ = some (.map (some b)) := fun y => gb_cell (cell_below (cells3 (unhide HP7)).2.2.1 X.ok) y
    have e0 : ∀ y : Gb X.w, y.w.cell? ⟨w.heap.size, 0, none⟩ = some (.int .i64 (last + 1)) := fun y => gb_cell (cell_below (row7 (unhide HX7)).1 X.ok) y
    have e1 : ∀ y : Gb X.w, y.w.cell? ⟨w.heap.size, 1, none⟩ = some (.int .i64 x.peer) := fun y => gb_cell (cell_below (row7 (unhide HX7)).2.1 X.ok) y
    have e2 : ∀ y : Gb X.w, y.w.cell? ⟨w.heap.size, 2, none⟩ = some (.int .i64 x.mode) := fun y => gb_cell (cell_below (row7 (unhide HX7)).2.2.1 X.ok) y
    have e3 : ∀ y : Gb X.w, y.w.cell? ⟨w.heap.size, 3, none⟩ = some (.int .i64 x.seed) := fun y => gb_cell (cell_below (row7 (unhide HX7)).2.2.2.1 X.ok) y
    have e4 : ∀ y : Gb X.w, y.w.cell? ⟨w.heap.size, 4, none⟩ = some (.string x.hv) := fun y => gb_cell (cell_below (row7 (unhide HX7)).2.2.2.2.1 X.ok) y
    have e5 : ∀ y : Gb X.w, y.w.cell? ⟨w.heap.size, 5, none⟩ = some (.slice a1 x.idx.length q1) := fun y => gb_cell (cell_below (row7 (unhide HX7)).2.2.2.2.2.1 X.ok) y
    have e6 : ∀ y : Gb X.w, y.w.cell? ⟨w.heap.size, 6, none⟩ = some (.string x.dt) := fun y => gb_cell (cell_below (row7 (unhide HX7)).2.2.2.2.2.2.1 X.ok) y
    dsimp only [List.take_succ_cons, List.take_zero]
    repeat (go_big_quiet_step ((fail)))
    refine wpQuiet_nil ?_
    exact rfl
  intro w8 b8
  try simp only [List.drop_succ_cons, List.drop_zero]
  have hP8 := (b8.block _ (lt_of_block (unhide HP7))).trans (unhide HP7)
  have hX8 := (b8.block _ (lt_of_block (unhide HX7))).trans (unhide HX7)
  obtain ⟨D, hM4, hD⟩ := unhide HM4
  have hbne : b ≠ w.heap.size := by
    obtain ⟨es, cl, hm⟩ := unhide HIM
    have := (Array.getElem?_eq_some_iff.1 hm).1
    omega
  have hb8 : w8.heap[b]? = W4.heap[b]? := by
    have h1 := hM4.lt
    rw [b8.block b (by have := (unhide HB5).size; have := (unhide HB7).size; omega), unhide HO7 b hbne, (unhide HB5).block b h1]
  have hM8 : StMap w8 b last.toNat D := by
    obtain ⟨es, cl, h1, h2⟩ := hM4
    exact ⟨es, cl, hb8.trans h1, h2⟩
  have hI8 : Ints w8 a1 x.idx := fun i hi => by
    obtain ⟨g, o, rfl, hc⟩ := unhide HI5 i hi
    obtain ⟨h1, h2⟩ := unhide HLT5 _ rfl
    simp only at h1 h2
    exact ⟨g, o, rfl, cell_same ((b8.block g (by have := (unhide HB7).size; omega)).trans (unhide HO7 g (by omega))) hc⟩
  have hT8 : IntT w8 a1 := fun a ha => by
    obtain ⟨cur, fr, hc⟩ := unhide HT5 a ha
    have h1 := (unhide HLT5 a ha).1
    have h2 := lt_of_block hc
    exact ⟨cur, fr, ((b8.block a.block (by have := (unhide HB7).size; omega)).trans (unhide HO7 a.block (by omega))).trans hc⟩
  have hK5 := (unhide hK4).andBelow (unhide HB5)
  have hK8 : K2 p b w w8 := ⟨b8.os.trans ((unhide HB7).os.trans hK5.os), b8.tape.trans ((unhide HB7).tape.trans hK5.tape), b8.output.trans ((unhide HB7).output.trans hK5.output), Nat.le_trans hK5.size (Nat.le_trans (unhide HB7).size b8.size), fun k hk h1 h2 => (b8.block k (by have := (unhide HB7).size; have := hK5.size; omega)).trans (((unhide HB7).block k hk).trans (hK5.block k hk h1 h2))⟩
  have HP8 := hide hP8
  have HX8 := hide hX8
  have HM8 := hide hM8
  have HI8 := hide hI8
  have HT8 := hide hT8
  have HK8 := hide hK8
  have HDD := hide hD
  have HLT8 : Hid (∀ a, a1 = some a → a.block ≠ p) := fun a ha => by have := unhide HLT5 a ha; omega
  clear hP8 hX8 hM8 hI8 hT8 hK8 hK5 hM4 hD HM4 hb8 b8 HB7 HO7 HB5 HI5 HP5 HP7 HX7 HW7 HW4 hK4 HP4 HX3 HS3 HB3 HLT5 HT5
  have hkw : (Lit.int .i64 (last + 1)).wf = true := WalkArith.wf_i64 (by omega)
  have HKW := hide hkw
  clear hkw
  go_wp2_with (at_mapUpdate; refine wpList_mapUpdate_own _ rfl _ _ _ 67 rfl 3 34 keyed Try.underlying67 stR b last.toNat D rfl (unhide HM8) (by unfold maxLen; omega) _ _ (kI (last + 1)) rfl rfl (keyOf_k (unhide HKW)) _ [] rfl ?_)
  intro w9 hM9 hg9
  have hX9 := (hg9.block _ (lt_of_block (unhide HX8)) (fun e => hbne (by cases e; rfl))).trans (unhide HX8)
  have c0 := (row7 hX9).1
  have hS9 : StAt w9 p b room (last + 1) (rs ++ [{ x with id := last + 1, a0 := a1, cap := q1 }]) := by
    have hK9 : K2 p b w w9 := (unhide HK8).trans (K2.of_grown hg9)
    have hids := (unhide HS).ids
    have hpb := (unhide HS).ne
    refine ⟨(hg9.block _ (lt_of_block (unhide HP8)) (fun e => hpb (by cases e; rfl))).trans (unhide HP8), ⟨_, ?_, (unhide HDD).put _ (fun r hr => by have := hids r hr; simp only; omega)⟩, ?_, ?_, ?_, (unhide HS).room1, (unhide HS).room2, by simp; omega, by omega, by omega⟩
    · rw [show (last + 1).toNat = last.toNat + 1 by omega]
      exact hM9
    · rw [List.pairwise_append]
      exact ⟨(unhide HS).up, List.pairwise_singleton _ _, fun r hr y hy => by simp at hy; subst hy; have := hids r hr; simp only; omega⟩
    · intro r hr
      rw [List.mem_append] at hr
      rcases hr with hr | hr
      · have := hids r hr; omega
      · simp at hr; subst hr; simp only; omega
    · intro r hr
      rw [List.mem_append] at hr
      rcases hr with hr | hr
      · exact (unhide HS).mem_k2 hK9 r hr
      · simp at hr
        subst hr
        exact ⟨(unhide HI8).k2 (K2.of_grown hg9) (unhide HLT8) (by obtain ⟨es, cl, h, _⟩ := unhide HM8; exact ⟨es, cl, h⟩), hl, (unhide HT8).same (fun k cur fr hc => hg9.block k (lt_of_block hc) (fun e => by obtain ⟨es, cl, h, _⟩ := unhide HM8; cases e; rw [h] at hc; cases hc))⟩
  have HS9 := hide hS9
  have HK9 := hide ((unhide HK8).trans (K2.of_grown hg9))
  clear hS9 hM9 hg9 hX9
  refine onlyN ?_
  go_wp2
  go_ret2
  exact ⟨rfl, ⟨a1, q1, unhide HS9⟩, unhide HK9⟩
end Go.Proofs.Ytgomnmhjkjahlaa

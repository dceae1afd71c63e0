/- store: entries as the document has them; the document's Same of entries. -/
import Derived.Test.YtgomnmhjkjahlaaStL
import Derived.Test.YtgomnmhjkjahlaaRel
namespace Go.Proofs.Ytgomnmhjkjahlaa
open Go.RowKit
set_option linter.unusedVariables false
attribute [local go_sem] Oper.semAt_some

abbrev hdV (mode seed : Int) (hv : ByteArray) : Value := .agg #[.int .i64 mode, .int .i64 seed, .string hv]
set_option maxRecDepth 100000 in
theorem href_any (mode seed : Int) (hv : ByteArray) (w : World) : Calls Try.prog 33 #[hdV mode seed hv] w fun e w' => e = .returned (hdV mode seed hv) ∧ Below w.heap.size w w' := by
  go_enter Try.func33, Try.ntmps33
  go_wp2
  exact ret_cell rfl (w.heap.size + 1) 40 #[.int .i64 mode, .int .i64 seed, .string hv] (0, 0) _ rfl (heap2_b _ _ _) rfl Try.underlying40 (by kernel_rfl) ⟨rfl, ((Below.refl _ _).alloc (Nat.le_refl _) _).alloc (by simp) _⟩
set_option maxRecDepth 100000 in
set_option maxHeartbeats 1000000 in
theorem ref_any (x : Raw) (w : World) : Calls Try.prog 13 #[rawV x] w fun e w' => e = .returned (rawV x) ∧ Below w.heap.size w w' := by
  have hA := heap2_a w (.cells (rawC x) 34) (.cells zC 42)
  have hB := heap2_b w (.cells (rawC x) 34) (.cells zC 42)
  have hb0 : Below w.heap.size w ((w.alloc (.cells (rawC x) 34)).alloc (.cells zC 42)) := ((Below.refl _ w).alloc (Nat.le_refl _) _).alloc (by simp) _
  go_enter Try.func13, Try.ntmps13
  go_wp2_with fail
  generalize hW0 : (w.alloc (.cells (rawC x) 34)).alloc (.cells zC 42) = W0 at *
  have HA := hide hA
  have HB := hide hB
  have HB0 := hide hb0
  clear hA hB hb0 hW0
  refine wp_region_late 12 ?A0 (by kernel_rfl) (by kernel_rfl) (by kernel_rfl) ?lex ?_
  case lex =>
    intro X
    have hneX := gb_ne X.w
    have e0 : ∀ y : Gb X.w, y.w.cell? ⟨w.heap.size, 0, none⟩ = some (.int .i64 x.id) := fun y => gb_cell (cell_below (row7 (unhide HA)).1 X.ok) y
    have e1 : ∀ y : Gb X.w, y.w.cell? ⟨w.heap.size, 1, none⟩ = some (.int .i64 x.peer) := fun y => gb_cell (cell_below (row7 (unhide HA)).2.1 X.ok) y
    have e2 : ∀ y : Gb X.w, y.w.cell? ⟨w.heap.size, 2, none⟩ = some (.int .i64 x.mode) := fun y => gb_cell (cell_below (row7 (unhide HA)).2.2.1 X.ok) y
    have e3 : ∀ y : Gb X.w, y.w.cell? ⟨w.heap.size, 3, none⟩ = some (.int .i64 x.seed) := fun y => gb_cell (cell_below (row7 (unhide HA)).2.2.2.1 X.ok) y
    have e4 : ∀ y : Gb X.w, y.w.cell? ⟨w.heap.size, 4, none⟩ = some (.string x.hv) := fun y => gb_cell (cell_below (row7 (unhide HA)).2.2.2.2.1 X.ok) y
    have e5 : ∀ y : Gb X.w, y.w.cell? ⟨w.heap.size, 5, none⟩ = some (.slice x.a0 x.idx.length x.cap) := fun y => gb_cell (cell_below (row7 (unhide HA)).2.2.2.2.2.1 X.ok) y
    have e6 : ∀ y : Gb X.w, y.w.cell? ⟨w.heap.size, 6, none⟩ = some (.string x.dt) := fun y => gb_cell (cell_below (row7 (unhide HA)).2.2.2.2.2.2.1 X.ok) y
    dsimp only [List.take_succ_cons, List.take_zero]
    repeat (go_big_quiet_step ((go_at_call 33; exact gb_call (href_any _ _ _ _))))
    refine wpQuiet_nil ?_
    exact rfl
  intro w3 b3
  try simp only [List.drop_succ_cons, List.drop_zero]
  have hB3 := (b3.block _ (lt_of_block (unhide HB))).trans (unhide HB)
  obtain ⟨d0, d1, d2, d3, d4, d5, d6, f1⟩ := row7 hB3
  have HB3 := hide hB3
  have HBW := hide ((unhide HB0).trans (b3.mono (unhide HB0).size))
  clear b3 hB3
  go_wp2
  refine onlyN ?_
  go_wp2
  have hE := set7 (unhide HB3) (.int .i64 x.id) (.int .i64 x.peer) (.int .i64 x.mode) (.int .i64 x.seed) (.string x.hv) (.slice x.a0 x.idx.length x.cap) (.string x.dt)
  exact ret_cell rfl (w.heap.size + 1) 42 (rawC x) (0, 0) _ rfl hE rfl Try.underlying42 (by kernel_rfl) ⟨rfl, below7 (unhide HBW) (by omega) _ _ _ _ _ _ _⟩
theorem Try.infoDe : (Try.prog.info? 42).map (fun i => (i.zero, i.size, i.bytes)) = some (some (.agg zC), 7, 88) := by kernel_rfl
theorem Try.undDe : Try.prog.underlying 26 = some (.slice 42) := by kernel_rfl
set_option maxRecDepth 100000 in
set_option maxHeartbeats 2000000 in
theorem refs_any (rs : List Raw) (a0 : Option Addr) (c : Nat) (w : World) (hA : EntsA w a0 rs) (hl : rs.length ≤ 1000) :
    Calls Try.prog 22 #[.slice a0 rs.length c] w fun e w' => (∃ v, e = .returned v ∧ w'.ownsRow w.heap.size 42 7 v rs.length (ec rs)) ∧ Below w.heap.size w w' := by
  obtain ⟨i0, hi0, hz0, hz1, hz2⟩ := info_parts Try.infoDe
  have HA := hide hA
  clear hA
  generalize hL : rs.length = L at *
  have HL := hide hL
  clear hL
  go_enter Try.func22, Try.ntmps22
  go_wp2_with fail
  go_loopw [3, 4] (fun v u wr => ∃ k : Nat, k ≤ L ∧ u = .int .i64 k ∧ wr.ownsRow w.heap.size 42 7 v k (ec (rs.take k)) ∧ Below w.heap.size w wr) (fun _ u _ => L - (intOf u).toNat)
  case atStart => exact ⟨0, Nat.zero_le _, rfl, World.ownsRow_nil _ _ _ _, Below.refl _ _⟩
  case round =>
    obtain ⟨k, hk, rfl, hO, hB⟩ := hrel
    obtain ⟨ao, cp, rfl⟩ := own_shape7 hO
    have HO := hide hO
    have HB := hide hB
    clear hO hB
    by_cases hlt : k < L
    · have hlt' : k < rs.length := by rw [unhide HL]; exact hlt
      obtain ⟨g, o, rfl, hE⟩ := (unhide HA).below (unhide HB) k hlt'
      have HTK : Hid (rs.take (k + 1) = rs.take k ++ [rs[k]]) := List.take_succ_eq_append_getElem hlt'
      generalize rs[k] = x at *
      obtain ⟨c0, c1, c2, c3, c4, c5, c6⟩ := hE
      have q1 : (k : Int) < L := by omega
      clear hlt'
      go_wp2_with fail
      refine (ref_any x wr).mono ?_
      rintro e w2 ⟨rfl, hb2⟩
      have hsz := (unhide HB).size
      have hsz2 := hb2.size
      have HB2 := hide ((unhide HB).trans (hb2.mono hsz))
      have HO2 : Hid (w2.ownsRow w.heap.size 42 7 (.slice ao k cp) k (ec (rs.take k))) := (unhide HO).kept (row := none) ⟨hb2.os, hb2.tape, hb2.output, hb2.size, fun i hi _ => hb2.block i hi⟩ (by cases (Value.slice ao k cp).ownBlock <;> simp)
      clear hb2 c0 c1 c2 c3 c4 c5 c6
      go_wp2_with (at_builtin; refine wpList_append_own _ rfl _ _ 26 rfl w.heap.size 42 i0 _ 7 88 Try.undDe hi0 hz0 hz1 hz2 rfl (by decide) _ _ _ rfl ((unhide HO2).alloc _) ⟨w2.heap.size, 0, none⟩ 1 1 [.int .i64 x.id, .int .i64 x.peer, .int .i64 x.mode, .int .i64 x.seed, .string x.hv, .slice x.a0 x.idx.length x.cap, .string x.dt] rfl rfl (news_lit _ [_, _, _, _, _, _, _] _) ?d2 ?d3 ?d4 ?d5 ?_)
      case d2 => intro u hu; simp at hu; rcases hu with rfl | rfl | rfl | rfl | rfl | rfl | rfl <;> rfl
      case d3 => unfold maxLen; omega
      case d4 => omega
      case d5 => simp; omega
      intro v' w3 hown3 hgrow _
      have HO3 : Hid (w3.ownsRow w.heap.size 42 7 v' (k + 1) (ec (rs.take (k + 1)))) := by
        show World.ownsRow _ _ _ _ _ _ _
        rw [unhide HTK, ec_append, ec_one]; exact hown3
      obtain ⟨a3, q3, rfl⟩ := own_shape7 hown3
      have HB3 := hide (((unhide HB2).alloc (by omega) (.cells (rawC x) 42)).grown hgrow (by simp; omega) (fun j hj => ((unhide HO2).lt j hj).1))
      clear hown3 hgrow
      go_wp2
      go_roundw
      case rel => exact ⟨k + 1, by omega, by go_num, unhide HO3, unhide HB3⟩
      case measure => simp [intOf]; omega
    · have hke : k = L := by omega
      subst hke
      have q1 : ¬ (k : Int) < k := by omega
      have hO := unhide HO
      rw [List.take_of_length_le (by rw [unhide HL]; exact Nat.le_refl _)] at hO
      have HO2 := hide hO
      clear hO
      go_wp2
      go_ret
      exact ⟨⟨_, rfl, unhide HO2⟩, unhide HB⟩
end Go.Proofs.Ytgomnmhjkjahlaa

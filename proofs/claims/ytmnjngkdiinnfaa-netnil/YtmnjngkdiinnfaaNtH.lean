/- NetNil. -/
import Derived.Test.YtmnjngkdiinnfaaNtG
import Derived.Test.YtmnjngkdiinnfaaOpenNa
namespace Go.Proofs.Ytmnjngkdiinnfaa
open Go.RowKit
set_option linter.unusedVariables false
attribute [local go_sem] Oper.semAt_some

set_option maxRecDepth 100000 in
set_option maxHeartbeats 1000000 in
theorem netNil_any (p : Na) (w : World) (hp : NaOk p) : Calls Try.prog 6 #[.agg p.cl.toArray] w fun e w' => e = .returned (.bool true) ∧ Below w.heap.size w w' := by
  obtain ⟨kd, id, fr, to, tx⟩ := p
  have hsz : tx.size ≤ 9223372036854775807 := by have := hp.1; unfold maxLen at this; exact this
  unfold Na.cl
  have hA := hide (heap_alloc_new w (.cells #[.int .i64 kd, .int .i64 id, .int .i64 fr, .int .i64 to, .string tx] 32))
  have B0 : Hid (Below w.heap.size w (w.alloc (.cells #[.int .i64 kd, .int .i64 id, .int .i64 fr, .int .i64 to, .string tx] 32))) := (Below.refl _ w).alloc (Nat.le_refl _) _
  have hS := hide (fun w => send_nil ⟨0, fr, to, tx⟩ w)
  clear hp
  by_cases h : 500 < tx.size
  · have d1 : decide ((500 : Int) < tx.size) = true := decide_eq_true (by omega)
    go_enter Try.func6, Try.ntmps6
    go_wp2_with fail
    refine (nawake_any _).mono ?_
    rintro e w1 ⟨rfl, b1⟩
    have B1 := hide ((unhide B0).trans (b1.mono (unhide B0).size))
    clear b1
    go_wp2
    go_ret
    exact ⟨rfl, unhide B1⟩
  · have d1 : decide ((500 : Int) < tx.size) = false := decide_eq_false (by omega)
    clear h
    go_enter Try.func6, Try.ntmps6
    go_wp2_with fail
    refine (unhide hS _).mono ?_
    rintro e w1 ⟨rfl, b1⟩
    have A1 := hide ((b1.block _ (lt_of_block (unhide hA))).trans (unhide hA))
    have B1 := hide ((unhide B0).trans (b1.mono (unhide B0).size))
    have u1 : w1.cell? ⟨w.heap.size, 1, none⟩ = some (.int .i64 id) := by rw [cell_of_row _ _ 1 _ _ (0, 0) (unhide A1)]; rfl
    clear b1 hA hS B0
    go_wp2_with fail
    refine (take_nil id _).mono ?_
    rintro e w2 ⟨rfl, b2⟩
    have A2 := hide ((b2.block _ (lt_of_block (unhide A1))).trans (unhide A1))
    have B2 := hide ((unhide B1).trans (b2.mono (unhide B1).size))
    have HZ := hide (heap_alloc_new w2 (.cells (gmC zM) 30))
    have HG := hide (newGm w2 zM zM)
    clear b2 u1 A1 B1
    go_wp2_with (refine wpList_store_row_to rfl 30 (.tmp 6) (.tmp 28) rfl w2.heap.size (gmC zM) rfl rfl 30 (gmC zM) (unhide HZ) (gm_info zM) rfl (gm_all zM) (NewGm w2 zM) (unhide HG) ?_)
    intro w3 h3
    have A3 := hide ((h3.be.block _ (lt_of_block (unhide A2))).trans (unhide A2))
    have B3 := hide ((unhide B2).trans (h3.be.mono (unhide B2).size))
    have G3 := hide h3.blk
    have u1 : w3.cell? ⟨w.heap.size, 1, none⟩ = some (.int .i64 id) := by rw [cell_of_row _ _ 1 _ _ (0, 0) (unhide A3)]; rfl
    clear h3 A2 B2 HZ HG
    go_wp2_with fail
    refine (twice_nil id _).mono ?_
    rintro e w4 ⟨rfl, b4⟩
    have A4 := hide ((b4.block _ (lt_of_block (unhide A3))).trans (unhide A3))
    have G4 := hide ((b4.block _ (lt_of_block (unhide G3))).trans (unhide G3))
    have B4 := hide ((unhide B3).trans (b4.mono (unhide B3).size))
    clear b4 u1 A3 B3 G3
    have hneX := gb_ne w4
    have y1 : ∀ y : Gb w4, y.w.cell? ⟨w.heap.size, 1, none⟩ = some (.int .i64 id) := fun y => gb_cell (by rw [cell_of_row _ _ 1 _ _ (0, 0) (unhide A4)]; rfl) y
    have z0 : ∀ y : Gb w4, y.w.cell? ⟨w2.heap.size, 0, none⟩ = some (.int .i64 0) := fun y => gb_cell (cells3 (unhide G4)).1 y
    have z1 : ∀ y : Gb w4, y.w.cell? ⟨w2.heap.size, 1, none⟩ = some (.int .i64 0) := fun y => gb_cell (cells3 (unhide G4)).2.1 y
    have z2 : ∀ y : Gb w4, y.w.cell? ⟨w2.heap.size, 2, none⟩ = some (.string ⟨#[]⟩) := fun y => gb_cell (cells3 (unhide G4)).2.2.1 y
    go_wp2_with fail
    refine wp_region_grB (by kernel_rfl) (by kernel_rfl) ?_
    repeat (go_big_quiet_step (first | (go_at_call 8; exact gb_call (nawake_any _)) | (go_at_call 9; exact gb_same (nth_nil id _)) | (go_at_call 22; exact gb_same (nlen_nil _)) | (go_at_call 17; exact gb_call (lose_nil id _)) | (go_at_call 21; exact gb_same (nlist_nil _)) | (go_at_call 24; exact gb_same (nto_nil id _))))
    refine wpQuiet_nil ?_
    rintro wz ⟨xz, rfl⟩
    have B5 := hide ((unhide B4).trans (xz.ok.mono (unhide B4).size))
    clear y1 z0 z1 z2 hneX
    generalize xz.w = wz at *
    go_wp2
    go_ret
    exact ⟨rfl, unhide B5⟩
end Go.Proofs.Ytmnjngkdiinnfaa

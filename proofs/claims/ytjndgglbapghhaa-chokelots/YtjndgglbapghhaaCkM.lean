/- choke: the comparison that Top sorts by. -/
import Derived.Test.YtjndgglbapghhaaCkL
namespace Go.Proofs.Ytjndgglbapghhaa
open Go.RowKit
set_option linter.unusedVariables false
attribute [local go_sem] Oper.semAt_some

/-- who stands ahead, of a place -/
def stC (x y : Int) (p q : Pr) : Int := orI [Lib.compareInt q.ra p.ra, Lib.compareInt (distA p.x p.y x y) (distA q.x q.y x y), Lib.compareInt p.nd q.nd]
set_option maxRecDepth 100000 in
set_option maxHeartbeats 4000000 in
theorem standing_any (g : Nat) (x y : Int) (p q : Pr) (w : World) (hT : Two w g (.int .i64 x) (.int .i64 y) 24) :
    Calls Try.prog 45 #[.agg p.cl.toArray, .agg q.cl.toArray, .pointer (some ⟨g, 0, none⟩)] w fun e w' => e = .returned (.int .i64 (stC x y p q)) ∧ Grown w w' := by
  obtain ⟨hA, hB, hbe⟩ := two_boxes w p.cl.toArray q.cl.toArray 48 48
  have hGr : Grown w ((w.alloc (.cells p.cl.toArray 48)).alloc (.cells q.cl.toArray 48)) := (Grown.alloc _ _).trans (Grown.alloc _ _)
  have hT2 := hT.up hbe
  obtain ⟨W2, hW2⟩ : ∃ W, W = (w.alloc (.cells p.cl.toArray 48)).alloc (.cells q.cl.toArray 48) := ⟨_, rfl⟩
  rw [← hW2] at hA hB hGr hT2
  have HW2 := hide hW2
  have HA := hide hA
  have HB := hide hB
  have HG := hide hGr
  have HT := hide hT2
  have hc1 := hide (fun W => Try.cmp_Compare_int q.ra p.ra W)
  have hd1 := hide (fun W => dist_gw p.x p.y x y W)
  have hd2 := hide (fun W => dist_gw q.x q.y x y W)
  have hc2 := hide (fun W => Try.cmp_Compare_int (distA p.x p.y x y) (distA q.x q.y x y) W)
  have hn := hide (fun W => numbers_any p q W)
  have hst : Hid (stC x y p q = orI [Lib.compareInt q.ra p.ra, Lib.compareInt (distA p.x p.y x y) (distA q.x q.y x y), Lib.compareInt p.nd q.nd]) := rfl
  clear hA hB hGr hT2 hbe hT hW2
  generalize stC x y p q = R at *
  generalize Lib.compareInt q.ra p.ra = r1 at *
  generalize Lib.compareInt p.nd q.nd = r3 at *
  obtain ⟨r2, hr2⟩ : ∃ r, r = Lib.compareInt (distA p.x p.y x y) (distA q.x q.y x y) := ⟨_, rfl⟩
  rw [← hr2] at hc2 hst
  clear hr2
  generalize distA p.x p.y x y = d1 at *
  generalize distA q.x q.y x y = d2 at *
  obtain ⟨nd, px, py, hv, wa, op, os, se, nw, ra⟩ := p
  obtain ⟨nd2, px2, py2, hv2, wa2, op2, os2, se2, nw2, ra2⟩ := q
  unfold Pr.cl at HW2 hn ⊢
  unfold rv at hd1 hd2
  dsimp only at HW2 hc1 hd1 hd2 hc2 hn ⊢
  go_enter Try.func45, Try.ntmps45
  go_wp2_with fail
  rw [← unhide HW2]
  clear HW2
  obtain ⟨bA, hbA⟩ : ∃ b, b = w.heap.size := ⟨_, rfl⟩
  obtain ⟨bB, hbB⟩ : ∃ b, b = w.heap.size + 1 := ⟨_, rfl⟩
  rw [← hbB] at HB ⊢
  rw [← hbA] at HA ⊢
  clear hbA hbB
  refine wp_region_lateW 17 ?A0 (by kernel_rfl) (by kernel_rfl) (by kernel_rfl) ?lex ?_
  case lex =>
    intro X
    have hne := gw_ne X.w
    have p0 : ∀ y : Gw X.w, y.w.cell? ⟨bA, 0, none⟩ = some (.int .i64 nd) := fun y => gw_cell (gw_cell (cell_pr (unhide HA) 0) X) y
    have p1 : ∀ y : Gw X.w, y.w.cell? ⟨bA, 1, none⟩ = some (.int .i64 px) := fun y => gw_cell (gw_cell (cell_pr (unhide HA) 1) X) y
    have p2 : ∀ y : Gw X.w, y.w.cell? ⟨bA, 2, none⟩ = some (.int .i64 py) := fun y => gw_cell (gw_cell (cell_pr (unhide HA) 2) X) y
    have p3 : ∀ y : Gw X.w, y.w.cell? ⟨bA, 3, none⟩ = some (.string hv) := fun y => gw_cell (gw_cell (cell_pr (unhide HA) 3) X) y
    have p4 : ∀ y : Gw X.w, y.w.cell? ⟨bA, 4, none⟩ = some (.bool wa) := fun y => gw_cell (gw_cell (cell_pr (unhide HA) 4) X) y
    have p5 : ∀ y : Gw X.w, y.w.cell? ⟨bA, 5, none⟩ = some (.bool op) := fun y => gw_cell (gw_cell (cell_pr (unhide HA) 5) X) y
    have p6 : ∀ y : Gw X.w, y.w.cell? ⟨bA, 6, none⟩ = some (.bool os) := fun y => gw_cell (gw_cell (cell_pr (unhide HA) 6) X) y
    have p7 : ∀ y : Gw X.w, y.w.cell? ⟨bA, 7, none⟩ = some (.int .i64 se) := fun y => gw_cell (gw_cell (cell_pr (unhide HA) 7) X) y
    have p8 : ∀ y : Gw X.w, y.w.cell? ⟨bA, 8, none⟩ = some (.int .i64 nw) := fun y => gw_cell (gw_cell (cell_pr (unhide HA) 8) X) y
    have p9 : ∀ y : Gw X.w, y.w.cell? ⟨bA, 9, none⟩ = some (.int .i64 ra) := fun y => gw_cell (gw_cell (cell_pr (unhide HA) 9) X) y
    have q0 : ∀ y : Gw X.w, y.w.cell? ⟨bB, 0, none⟩ = some (.int .i64 nd2) := fun y => gw_cell (gw_cell (cell_pr (unhide HB) 0) X) y
    have q1 : ∀ y : Gw X.w, y.w.cell? ⟨bB, 1, none⟩ = some (.int .i64 px2) := fun y => gw_cell (gw_cell (cell_pr (unhide HB) 1) X) y
    have q2 : ∀ y : Gw X.w, y.w.cell? ⟨bB, 2, none⟩ = some (.int .i64 py2) := fun y => gw_cell (gw_cell (cell_pr (unhide HB) 2) X) y
    have q3 : ∀ y : Gw X.w, y.w.cell? ⟨bB, 3, none⟩ = some (.string hv2) := fun y => gw_cell (gw_cell (cell_pr (unhide HB) 3) X) y
    have q4 : ∀ y : Gw X.w, y.w.cell? ⟨bB, 4, none⟩ = some (.bool wa2) := fun y => gw_cell (gw_cell (cell_pr (unhide HB) 4) X) y
    have q5 : ∀ y : Gw X.w, y.w.cell? ⟨bB, 5, none⟩ = some (.bool op2) := fun y => gw_cell (gw_cell (cell_pr (unhide HB) 5) X) y
    have q6 : ∀ y : Gw X.w, y.w.cell? ⟨bB, 6, none⟩ = some (.bool os2) := fun y => gw_cell (gw_cell (cell_pr (unhide HB) 6) X) y
    have q7 : ∀ y : Gw X.w, y.w.cell? ⟨bB, 7, none⟩ = some (.int .i64 se2) := fun y => gw_cell (gw_cell (cell_pr (unhide HB) 7) X) y
    have q8 : ∀ y : Gw X.w, y.w.cell? ⟨bB, 8, none⟩ = some (.int .i64 nw2) := fun y => gw_cell (gw_cell (cell_pr (unhide HB) 8) X) y
    have q9 : ∀ y : Gw X.w, y.w.cell? ⟨bB, 9, none⟩ = some (.int .i64 ra2) := fun y => gw_cell (gw_cell (cell_pr (unhide HB) 9) X) y
    have t0 : ∀ y : Gw X.w, _ := fun y => (gw_two (gw_two (unhide HT) X |> fun h => h) y).c0
    have t1 : ∀ y : Gw X.w, _ := fun y => (gw_two (gw_two (unhide HT) X |> fun h => h) y).c1
    dsimp only [List.take_succ_cons, List.take_zero]
    iterate 5 (go_big_quiet_step ((go_at_call 47; exact gw_same (unhide hc1 _))))
    iterate 4 (go_big_quiet_step ((go_at_call 48; exact gw_call (unhide hd1 _))))
    iterate 4 (go_big_quiet_step ((go_at_call 48; exact gw_call (unhide hd2 _))))
    go_big_quiet_step ((go_at_call 47; exact gw_same (unhide hc2 _)))
    iterate 3 (go_big_quiet_step ((go_at_call 31; exact gw_call (unhide hn _))))
    refine wpQuiet_nil ?_
    exact rfl
  intro w3 hw3
  try simp only [List.drop_succ_cons, List.drop_zero]
  have HG3 := hide ((unhide HG).trans (hw3.trans (Grown.alloc w3 (.cells #[.int .i64 r1, .int .i64 r2, .int .i64 r3] 3))))
  have hbl := heap_alloc_new w3 (.cells #[.int .i64 r1, .int .i64 r2, .int .i64 r3] 3)
  have hin : Ints (w3.alloc (.cells #[.int .i64 r1, .int .i64 r2, .int .i64 r3] 3)) (some ⟨w3.heap.size, 0, none⟩) [r1, r2, r3] := fun i hi => by
    refine ⟨w3.heap.size, 0, rfl, ?_⟩
    rw [Nat.zero_add, cell_of_row _ _ _ _ _ _ hbl]
    match i, hi with
    | 0, _ => rfl
    | 1, _ => rfl
    | 2, _ => rfl
  have hor := hide (or_any (some ⟨w3.heap.size, 0, none⟩) [r1, r2, r3] 3 _ hin (by simp))
  rw [← unhide hst] at hor
  clear hw3 hbl hin hst
  simp only [List.length_cons, List.length_nil, Nat.zero_add, Nat.reduceAdd] at hor
  go_wp2_with fail
  refine (unhide hor).mono ?_
  rintro e w4 ⟨rfl, rfl⟩
  go_wp2_with fail
  refine onlyN ?_
  go_wp2
  go_ret
  exact ⟨rfl, unhide HG3⟩
end Go.Proofs.Ytjndgglbapghhaa

/- choke: Turns, its two closures and itself. -/
import Derived.Test.YtjndgglbapghhaaCkW
namespace Go.Proofs.Ytjndgglbapghhaa
open Go.RowKit Go.Sort
set_option linter.unusedVariables false
attribute [local go_sem] Oper.semAt_some

/-- the cell of the closure that tells who is chosen, and what that one reads -/
structure FuS (W : World) (fb cb b n : Nat) (ks : List Int) : Prop where
  fn : One W fb (.func (.func 36) #[] #[.pointer (some ⟨cb, 0, none⟩)]) 54
  tu : TuS W cb b n ks
theorem FuS.up {W W' : World} {fb cb b n : Nat} {ks : List Int} (h : FuS W fb cb b n ks) (hb : Below W.heap.size W W') : FuS W' fb cb b n ks := ⟨h.fn.up hb, h.tu.up hb⟩
set_option maxRecDepth 100000 in
set_option maxHeartbeats 2000000 in
theorem turns2_any (fb cb b n : Nat) (ks : List Int) (p : Pr) (w : World) (h : FuS w fb cb b n ks) (hk : (Lit.int .i64 p.nd).wf = true) :
    Calls Try.prog 37 #[.agg p.cl.toArray, .pointer (some ⟨fb, 0, none⟩)] w fun e w' => e = .returned (.bool (tuP ks true p)) ∧ Below w.heap.size w w' := by
  have hb : Below w.heap.size w (w.alloc (.cells p.cl.toArray 48)) := (Below.refl _ w).alloc (Nat.le_refl _) _
  have h2 := h.up hb
  have HC := hide (turns1_any cb b n ks p _ h2.tu hk)
  have HB := hide hb
  have c0 := h2.fn.c0
  have hl2 := h2.fn.lt
  have hn0 := heap_alloc_new w (.cells p.cl.toArray 48)
  have HN := hide hn0
  have HI := hide (pr_info p)
  have ht : tuP ks true p = (hasI ks p.nd && !p.op) := rfl
  rw [ht]
  clear hb h h2 hn0 hk ht
  generalize hasI ks p.nd = hh at *
  obtain ⟨nd, px, py, hv, wa, op, os, se, nw, ra⟩ := p
  have HP4 : Hid (∀ W, Below (w.heap.size + 1) (w.alloc (.cells (Pr.cl ⟨nd, px, py, hv, wa, op, os, se, nw, ra⟩).toArray 48)) W → W.cell? ⟨w.heap.size, 5, none⟩ = some (.bool op) ∧ w.heap.size < W.heap.size) := fun W hW => by
    have h1 : W.heap[w.heap.size]? = some (.cells (Pr.cl ⟨nd, px, py, hv, wa, op, os, se, nw, ra⟩).toArray 48 (0, 0)) := (hW.block _ (by omega)).trans (unhide HN)
    exact ⟨(cell_pr h1 5).trans rfl, lt_of_block h1⟩
  unfold Pr.cl at *
  dsimp only at *
  obtain ⟨W0, hW0⟩ : ∃ W0, W0 = w.alloc (.cells #[.int .i64 nd, .int .i64 px, .int .i64 py, .string hv, .bool wa, .bool op, .bool os, .int .i64 se, .int .i64 nw, .int .i64 ra] 48) := ⟨_, rfl⟩
  have hsz : W0.heap.size = w.heap.size + 1 := by rw [hW0]; simp
  go_enter Try.func37, Try.ntmps37
  go_wp2_with fail
  rw [← hW0] at HC HB HN HP4 ⊢
  have HSZ := hide hsz
  clear hW0 hsz
  go_wp2_with (refine wpList_load_row rfl 48 (.tmp 2) rfl w.heap.size rfl 48 _ (0, 0) _ (unhide HN) Try.underlying48 rfl (unhide HI) ?_)
  refine (unhide HC).mono ?_
  rintro e w1 ⟨rfl, b1⟩
  have hb1 : Below (w.heap.size + 1) W0 w1 := by rw [← unhide HSZ]; exact b1
  obtain ⟨x4, hlt⟩ := unhide HP4 w1 hb1
  have B1 := hide ((unhide HB).trans (b1.mono (by have := unhide HSZ; omega)))
  clear b1 hb1 c0 hl2
  cases hh
  · go_wp2_with fail
    go_ret
    exact ⟨rfl, unhide B1⟩
  · go_wp2_with fail
    go_ret
    exact ⟨by simp, unhide B1⟩
set_option maxRecDepth 100000 in
set_option maxHeartbeats 2000000 in
theorem turns3_any (fb cb b n : Nat) (ks : List Int) (p : Pr) (w : World) (h : FuS w fb cb b n ks) (hk : (Lit.int .i64 p.nd).wf = true) :
    Calls Try.prog 38 #[.agg p.cl.toArray, .pointer (some ⟨fb, 0, none⟩)] w fun e w' => e = .returned (.bool (tuP ks false p)) ∧ Below w.heap.size w w' := by
  have hb : Below w.heap.size w (w.alloc (.cells p.cl.toArray 48)) := (Below.refl _ w).alloc (Nat.le_refl _) _
  have h2 := h.up hb
  have HC := hide (turns1_any cb b n ks p _ h2.tu hk)
  have HB := hide hb
  have c0 := h2.fn.c0
  have hl2 := h2.fn.lt
  have hn0 := heap_alloc_new w (.cells p.cl.toArray 48)
  have HN := hide hn0
  have HI := hide (pr_info p)
  have ht : tuP ks false p = (!(hasI ks p.nd) && p.op) := rfl
  rw [ht]
  clear hb h h2 hn0 hk ht
  generalize hasI ks p.nd = hh at *
  obtain ⟨nd, px, py, hv, wa, op, os, se, nw, ra⟩ := p
  have HP4 : Hid (∀ W, Below (w.heap.size + 1) (w.alloc (.cells (Pr.cl ⟨nd, px, py, hv, wa, op, os, se, nw, ra⟩).toArray 48)) W → W.cell? ⟨w.heap.size, 5, none⟩ = some (.bool op) ∧ w.heap.size < W.heap.size) := fun W hW => by
    have h1 : W.heap[w.heap.size]? = some (.cells (Pr.cl ⟨nd, px, py, hv, wa, op, os, se, nw, ra⟩).toArray 48 (0, 0)) := (hW.block _ (by omega)).trans (unhide HN)
    exact ⟨(cell_pr h1 5).trans rfl, lt_of_block h1⟩
  unfold Pr.cl at *
  dsimp only at *
  obtain ⟨W0, hW0⟩ : ∃ W0, W0 = w.alloc (.cells #[.int .i64 nd, .int .i64 px, .int .i64 py, .string hv, .bool wa, .bool op, .bool os, .int .i64 se, .int .i64 nw, .int .i64 ra] 48) := ⟨_, rfl⟩
  have hsz : W0.heap.size = w.heap.size + 1 := by rw [hW0]; simp
  go_enter Try.func38, Try.ntmps38
  go_wp2_with fail
  rw [← hW0] at HC HB HN HP4 ⊢
  have HSZ := hide hsz
  clear hW0 hsz
  go_wp2_with (refine wpList_load_row rfl 48 (.tmp 2) rfl w.heap.size rfl 48 _ (0, 0) _ (unhide HN) Try.underlying48 rfl (unhide HI) ?_)
  refine (unhide HC).mono ?_
  rintro e w1 ⟨rfl, b1⟩
  have hb1 : Below (w.heap.size + 1) W0 w1 := by rw [← unhide HSZ]; exact b1
  obtain ⟨x4, hlt⟩ := unhide HP4 w1 hb1
  have B1 := hide ((unhide HB).trans (b1.mono (by have := unhide HSZ; omega)))
  clear b1 hb1 c0 hl2
  cases hh
  · go_wp2_with fail
    go_ret
    exact ⟨rfl, unhide B1⟩
  · go_wp2_with fail
    go_ret
    exact ⟨by simp, unhide B1⟩
end Go.Proofs.Ytjndgglbapghhaa

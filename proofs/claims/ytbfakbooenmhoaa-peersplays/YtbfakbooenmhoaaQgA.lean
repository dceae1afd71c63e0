/- peers: a peer as the document has it. -/
import Derived.Test.YtbfakbooenmhoaaQeA
namespace Go.Proofs.Ytbfakbooenmhoaa
open Go.RowKit
set_option linter.unusedVariables false
attribute [local go_sem] Oper.semAt_some

theorem ref17p_any (x y : Int) (w : World) : Calls Try.prog 31 #[.agg #[.int .i64 x, .int .i64 y]] w fun e w' => e = .returned (.agg #[.int .i64 x, .int .i64 y]) ∧ Below w.heap.size w w' := by
  go_enter Try.func31, Try.ntmps31
  go_wp2
  obtain ⟨_, h2, h3⟩ := two_boxes w #[.int .i64 x, .int .i64 y] #[.int .i64 x, .int .i64 y] 31 41
  exact ret_cell (p := 2) (ty := 41) (by kernel_rfl) (w.heap.size + 1) 41 _ (0, 0) _ rfl h2 rfl Try.underlying41 (by kernel_rfl) ⟨rfl, h3⟩

/-- what a peer's box and the answer's block hold -/
structure RfS (c : Pr) (w : World) (k : Nat) (x : World) : Prop where
  a : x.heap[w.heap.size]? = some (.cells c.cl.toArray 46 (0, 0))
  b : x.heap[w.heap.size + 1]? = some (.cells (if k = 0 then zP.cl.toArray else c.cl.toArray) 43 (0, 0))
  be : Below w.heap.size w x
theorem RfS.up {c : Pr} {w : World} {k : Nat} {x y : World} (h : RfS c w k x) (hb : Below x.heap.size x y) : RfS c w k y :=
  ⟨(hb.block _ (lt_of_block h.a)).trans h.a, (hb.block _ (lt_of_block h.b)).trans h.b, h.be.trans (hb.mono h.be.size)⟩
theorem RfS.store {c : Pr} {w : World} {x : World} (h : RfS c w 0 x) : RfS c w 1 (x.setRow (w.heap.size + 1) c.cl.toArray) :=
  ⟨(setRow_other _ _ _ _ (by omega)).trans h.a, setRow_heap _ _ _ _ _ _ h.b, ⟨h.be.os, h.be.tape, h.be.output, by simpa [World.setRow] using h.be.size, fun i hi => (setRow_other _ _ i _ (by omega)).trans (h.be.block i hi)⟩⟩

theorem ref18_any (c : Pr) (w : World) : Calls Try.prog 15 #[.agg c.cl.toArray] w fun e w' => e = .returned (.agg c.cl.toArray) ∧ Below w.heap.size w w' := by
  have hS0 : RfS c w 0 ((w.alloc (.cells c.cl.toArray 46)).alloc (.cells zP.cl.toArray 43)) := by
    obtain ⟨h1, h2, h3⟩ := two_boxes w c.cl.toArray zP.cl.toArray 46 43
    exact ⟨h1, h2, h3⟩
  have HS0 := hide hS0
  have hNU := hide (fun x => ref17p_any c.x c.y x)
  obtain ⟨W3, hW3⟩ : ∃ W3, W3 = (w.alloc (.cells c.cl.toArray 46)).alloc (.cells zP.cl.toArray 43) := ⟨_, rfl⟩
  rw [← hW3] at HS0
  have HW3 := hide hW3
  have HF := hide (fun x (h : RfS c w 0 x) => h.store)
  have HB := hide (fun x (h : RfS c w 1 x) => h)
  have HOC := hide (pr_all c)
  clear hS0 hW3
  obtain ⟨nd, px, py, hv, wa, op, os, se, nw, ra⟩ := c
  unfold Pr.cl at HW3 HOC HF ⊢
  unfold zP at HW3
  dsimp only at HW3 HOC HF hNU ⊢
  go_enter Try.func15, Try.ntmps15
  go_wp2_with fail
  rw [← unhide HW3]
  clear HW3
  refine wp_region_do [false, false, false, false, false, false, false, false, false, false, false, false, false, false, false, false, false, false, false, false, true] [] [] _ ?A0 (RfS ⟨nd, px, py, hv, wa, op, os, se, nw, ra⟩ w) 1 (by kernel_rfl) (by kernel_rfl) (by kernel_rfl) rfl ?S00 (fun j x y h hb => h.up hb) (Off.refl _ _) ?lex0 (by simp) ?do0 ?_
  case S00 =>
    intro x hx
    exact (unhide HS0).up hx
  case lex0 =>
    intro j x hS
    have hxa := hS.a
    have hneX := gb_ne x
    unfold Pr.cl at hxa
    have u0 : ∀ y : Gb x, y.w.cell? ⟨w.heap.size, 0, none⟩ = some (.int .i64 nd) := fun y => gb_cell (by simp [World.cell?, hxa]) y
    have u1 : ∀ y : Gb x, y.w.cell? ⟨w.heap.size, 1, none⟩ = some (.int .i64 px) := fun y => gb_cell (by simp [World.cell?, hxa]) y
    have u2 : ∀ y : Gb x, y.w.cell? ⟨w.heap.size, 2, none⟩ = some (.int .i64 py) := fun y => gb_cell (by simp [World.cell?, hxa]) y
    have u3 : ∀ y : Gb x, y.w.cell? ⟨w.heap.size, 3, none⟩ = some (.string hv) := fun y => gb_cell (by simp [World.cell?, hxa]) y
    have u4 : ∀ y : Gb x, y.w.cell? ⟨w.heap.size, 4, none⟩ = some (.bool wa) := fun y => gb_cell (by simp [World.cell?, hxa]) y
    have u5 : ∀ y : Gb x, y.w.cell? ⟨w.heap.size, 5, none⟩ = some (.bool op) := fun y => gb_cell (by simp [World.cell?, hxa]) y
    have u6 : ∀ y : Gb x, y.w.cell? ⟨w.heap.size, 6, none⟩ = some (.bool os) := fun y => gb_cell (by simp [World.cell?, hxa]) y
    have u7 : ∀ y : Gb x, y.w.cell? ⟨w.heap.size, 7, none⟩ = some (.int .i64 se) := fun y => gb_cell (by simp [World.cell?, hxa]) y
    have u8 : ∀ y : Gb x, y.w.cell? ⟨w.heap.size, 8, none⟩ = some (.int .i64 nw) := fun y => gb_cell (by simp [World.cell?, hxa]) y
    have u9 : ∀ y : Gb x, y.w.cell? ⟨w.heap.size, 9, none⟩ = some (.int .i64 ra) := fun y => gb_cell (by simp [World.cell?, hxa]) y
    clear hS hxa
    dsimp only [restM]
    repeat (go_big_quiet_step ((go_at_call 31; exact gb_call (unhide hNU _))))
    refine wpQuiet_nil ?_
    exact rfl
  case do0 =>
    dsimp only [effM]
    refine ⟨?_, trivial⟩
    intro x hS
    have HSx := hide ((unhide HF) x hS)
    have hxb := hS.b
    rw [if_pos rfl] at hxb
    have HXB := hide hxb
    clear hS hxb
    go_wp2_with (refine wpList_store_row_to rfl 43 (.tmp 2) (.tmp 22) rfl (w.heap.size + 1) #[.int .i64 nd, .int .i64 px, .int .i64 py, .string hv, .bool wa, .bool op, .bool os, .int .i64 se, .int .i64 nw, .int .i64 ra] rfl rfl 43 zP.cl.toArray (unhide HXB) (by kernel_rfl) (by rfl) (unhide HOC) (fun w' => RfS ⟨nd, px, py, hv, wa, op, os, se, nw, ra⟩ w 1 w') (unhide HSx) ?_)
    intro w6 h6
    have H6 := hide h6
    clear h6
    go_wp2_with fail
    exact onlyN ⟨rfl, unhide H6⟩
  intro x hS
  have HSx := hide hS
  clear hS
  go_wp2
  have hans := (unhide HSx).b
  rw [if_neg (by decide)] at hans
  exact ret_cell (p := 2) (ty := 43) (by kernel_rfl) (w.heap.size + 1) 43 _ (0, 0) _ rfl hans rfl Try.underlying43 (by kernel_rfl) ⟨rfl, (unhide HSx).be⟩
end Go.Proofs.Ytbfakbooenmhoaa

/- choke: a peer, and a peer as the document has it. -/
import Derived.Test.YtjndgglbapghhaaTwo
import Derived.Test.YtjndgglbapghhaaTxtI
import Derived.Test.YtjndgglbapghhaaGrT
import Derived.Test.YtjndgglbapghhaaDo
import Derived.BigRegion
import Derived.Deep.MidRow
import Derived.Deep.AppendLies
namespace Go.Proofs.Ytjndgglbapghhaa
open Go.RowKit
set_option linter.unusedVariables false
attribute [local go_sem] Oper.semAt_some

/-- a peer -/
structure Pr where
  nd : Int
  x : Int
  y : Int
  hv : ByteArray
  wa : Bool
  op : Bool
  os : Bool
  se : Int
  nw : Int
  ra : Int
def Pr.cl (p : Pr) : List Value := [.int .i64 p.nd, .int .i64 p.x, .int .i64 p.y, .string p.hv, .bool p.wa, .bool p.op, .bool p.os, .int .i64 p.se, .int .i64 p.nw, .int .i64 p.ra]
theorem Pr.cl_len (p : Pr) : p.cl.length = 10 := rfl
theorem Pr.cl_one (p : Pr) : ∀ u ∈ p.cl, u.oneCell' = true := by
  intro u hu
  simp [Pr.cl] at hu
  rcases hu with rfl | rfl | rfl | rfl | rfl | rfl | rfl | rfl | rfl | rfl <;> rfl
def zP : Pr := ⟨0, 0, 0, ⟨#[]⟩, false, false, false, 0, 0, 0⟩
/-- a whole struct is stored: the world goes on as one that G tells of -/
theorem wpList_store_row_to {P : Program} {ops : Array Oper} {rest : List Oper} {o : Oper} {a : Act} {w : World} {Q : Exit → Act → World → Prop} (hgd : o.guard = none) (ty : TypeId) (x y : Operand) (ho : o.op = .store ty x y)
    (g : Nat) (cells : Array Value) (hx : a.eval x = .pointer (some ⟨g, 0, none⟩)) (hy : a.eval y = .agg cells)
    (t : TypeId) (old : Array Value) (hg : w.heap[g]? = some (.cells old t (0, 0))) (hi : (P.info? ty).map (·.size) = some cells.size)
    (hold : old.size = cells.size) (h1 : cells.all (·.oneCell') = true) (G : World → Prop) (hG : G (w.setRow g cells))
    (h : ∀ w', G w' → wpList P ops Q rest (a.put o.dst undef) w') : wpList P ops Q (o :: rest) a w :=
  wpList_store_row hgd ty x y ho g cells hx hy t old hg hi hold h1 (h _ hG)
theorem pr_size (c : Pr) : c.cl.toArray.size = 10 := rfl
theorem pr_info (c : Pr) : (Try.prog.info? 48).map (·.size) = some c.cl.toArray.size := by rw [pr_size]; kernel_rfl
theorem pr_all (c : Pr) : c.cl.toArray.all (·.oneCell') = true := by simp [Pr.cl, Value.oneCell']
theorem ret_cell {fn : Func} {p : Tmp} {ty : TypeId} {a : Act} {w : World} {R : Ending → World → Prop} (h : fn.results = #[.cell p ty]) (g : Nat) (t : TypeId) (cs : Array Value) (fr : Nat × Nat) (fs : Array Field)
    (hp : a.tmps.getD p undef = .pointer (some ⟨g, 0, none⟩)) (hg : w.heap[g]? = some (.cells cs t fr)) (hdf : a.defers = [])
    (hu : Try.prog.underlying ty = some (.struct fs)) (hi : (Try.prog.info? ty).map (·.size) = some cs.size) (hR : R (.returned (.agg cs)) w) :
    bodyPost Try.prog fn R .ret a w := bodyPost_ret (results_cell_row h _ w g t cs fr _ hp hg hu rfl hi) hdf hR
/-- the box and the answer's block, laid -/
theorem two_boxes (w : World) (A Z : Array Value) (t t' : TypeId) : ((w.alloc (.cells A t)).alloc (.cells Z t')).heap[w.heap.size]? = some (.cells A t (0, 0)) ∧ ((w.alloc (.cells A t)).alloc (.cells Z t')).heap[w.heap.size + 1]? = some (.cells Z t' (0, 0)) ∧ Below w.heap.size w ((w.alloc (.cells A t)).alloc (.cells Z t')) := by
  refine ⟨?_, ?_, ((Below.refl _ _).alloc (Nat.le_refl _) _).alloc (by simp) _⟩
  · rw [Below.heap_alloc _ _ _ (by simp)]
    exact heap_alloc_new _ _
  · have := heap_alloc_new (w.alloc (.cells A t)) (.cells Z t')
    rwa [show (w.alloc (.cells A t)).heap.size = w.heap.size + 1 by simp] at this
theorem ref17p_any (x y : Int) (w : World) : Calls Try.prog 12 #[.agg #[.int .i64 x, .int .i64 y]] w fun e w' => e = .returned (.agg #[.int .i64 x, .int .i64 y]) ∧ Below w.heap.size w w' := by
  go_enter Try.func12, Try.ntmps12
  go_wp2
  obtain ⟨_, h2, h3⟩ := two_boxes w #[.int .i64 x, .int .i64 y] #[.int .i64 x, .int .i64 y] 24 37
  exact ret_cell (p := 2) (ty := 37) (by kernel_rfl) (w.heap.size + 1) 37 _ (0, 0) _ rfl h2 rfl Try.underlying37 (by kernel_rfl) ⟨rfl, h3⟩

/-- what a peer's box and the answer's block hold -/
structure RfS (c : Pr) (w : World) (k : Nat) (x : World) : Prop where
  a : x.heap[w.heap.size]? = some (.cells c.cl.toArray 48 (0, 0))
  b : x.heap[w.heap.size + 1]? = some (.cells (if k = 0 then zP.cl.toArray else c.cl.toArray) 57 (0, 0))
  be : Below w.heap.size w x
theorem RfS.up {c : Pr} {w : World} {k : Nat} {x y : World} (h : RfS c w k x) (hb : Below x.heap.size x y) : RfS c w k y :=
  ⟨(hb.block _ (lt_of_block h.a)).trans h.a, (hb.block _ (lt_of_block h.b)).trans h.b, h.be.trans (hb.mono h.be.size)⟩
theorem RfS.store {c : Pr} {w : World} {x : World} (h : RfS c w 0 x) : RfS c w 1 (x.setRow (w.heap.size + 1) c.cl.toArray) :=
  ⟨(setRow_other _ _ _ _ (by omega)).trans h.a, setRow_heap _ _ _ _ _ _ h.b, ⟨h.be.os, h.be.tape, h.be.output, by simpa [World.setRow] using h.be.size, fun i hi => (setRow_other _ _ i _ (by omega)).trans (h.be.block i hi)⟩⟩

theorem ref18_any (c : Pr) (w : World) : Calls Try.prog 25 #[.agg c.cl.toArray] w fun e w' => e = .returned (.agg c.cl.toArray) ∧ Below w.heap.size w w' := by
  have hS0 : RfS c w 0 ((w.alloc (.cells c.cl.toArray 48)).alloc (.cells zP.cl.toArray 57)) := by
    obtain ⟨h1, h2, h3⟩ := two_boxes w c.cl.toArray zP.cl.toArray 48 57
    exact ⟨h1, h2, h3⟩
  have HS0 := hide hS0
  have hNU := hide (fun x => ref17p_any c.x c.y x)
  obtain ⟨W3, hW3⟩ : ∃ W3, W3 = (w.alloc (.cells c.cl.toArray 48)).alloc (.cells zP.cl.toArray 57) := ⟨_, rfl⟩
  rw [← hW3] at HS0
  have HW3 := hide hW3
  have HF := hide (fun x (h : RfS c w 0 x) => h.store)
  have HB := hide (fun x (h : RfS c w 1 x) => h)
  have HOC := hide (pr_all c)
  clear hS0 hW3
  obtain ⟨nd, px, py, hv, wa, op, os, se, nw, ra⟩ := c
  unfold Pr.cl at HW3 HOC HF ⊢
  unfold zP at HW3
  dsimp only at HW3 HOC HF hNU ⊢
  go_enter Try.func25, Try.ntmps25
  go_wp2_with fail
  rw [← unhide HW3]
  clear HW3
  refine wp_region_do [false, false, false, false, false, false, false, false, false, false, false, false, false, false, false, false, false, false, false, false, true] [] [] _ ?A0 (RfS ⟨nd, px, py, hv, wa, op, os, se, nw, ra⟩ w) 1 (by kernel_rfl) (by kernel_rfl) (by kernel_rfl) rfl ?S00 (fun j x y h hb => h.up hb) (Off.refl _ _) ?lex0 (by simp) ?do0 ?_
  case S00 =>
    intro x hx
    exact (unhide HS0).up hx
  case lex0 =>
    intro j x hS
    have hxa := hS.a
    have hneX := gb_ne x
    unfold Pr.cl at hxa
    have u0 : ∀ y : Gb x, y.w.cell? ⟨w.heap.size, 0, none⟩ = some (.int .i64 nd) := fun y => gb_cell (by simp [World.cell?, hxa]) y
    have u1 : ∀ y : Gb x, y.w.cell? ⟨w.heap.size, 1, none⟩ = some (.int .i64 px) := fun y => gb_cell (by simp [World.cell?, hxa]) y
    have u2 : ∀ y : Gb x, y.w.cell? ⟨w.heap.size, 2, none⟩ = some (.int .i64 py) := fun y => gb_cell (by simp [World.cell?, hxa]) y
    have u3 : ∀ y : Gb x, y.w.cell? ⟨w.heap.size, 3, none⟩ = some (.string hv) := fun y => gb_cell (by simp [World.cell?, hxa]) y
    have u4 : ∀ y : Gb x, y.w.cell? ⟨w.heap.size, 4, none⟩ = some (.bool wa) := fun y => gb_cell (by simp [World.cell?, hxa]) y
    have u5 : ∀ y : Gb x, y.w.cell? ⟨w.heap.size, 5, none⟩ = some (.bool op) := fun y => gb_cell (by simp [World.cell?, hxa]) y
    have u6 : ∀ y : Gb x, y.w.cell? ⟨w.heap.size, 6, none⟩ = some (.bool os) := fun y => gb_cell (by simp [World.cell?, hxa]) y
    have u7 : ∀ y : Gb x, y.w.cell? ⟨w.heap.size, 7, none⟩ = some (.int .i64 se) := fun y => gb_cell (by simp [World.cell?, hxa]) y
    have u8 : ∀ y : Gb x, y.w.cell? ⟨w.heap.size, 8, none⟩ = some (.int .i64 nw) := fun y => gb_cell (by simp [World.cell?, hxa]) y
    have u9 : ∀ y : Gb x, y.w.cell? ⟨w.heap.size, 9, none⟩ = some (.int .i64 ra) := fun y => gb_cell (by simp [World.cell?, hxa]) y
    clear hS hxa
    dsimp only [restM]
    repeat (go_big_quiet_step ((go_at_call 12; exact gb_call (unhide hNU _))))
    refine wpQuiet_nil ?_
    exact rfl
  case do0 =>
    dsimp only [effM]
    refine ⟨?_, trivial⟩
    intro x hS
    have HSx := hide ((unhide HF) x hS)
    have hxb := hS.b
    rw [if_pos rfl] at hxb
    have HXB := hide hxb
    clear hS hxb
    go_wp2_with (refine wpList_store_row_to rfl 57 (.tmp 2) (.tmp 22) rfl (w.heap.size + 1) #[.int .i64 nd, .int .i64 px, .int .i64 py, .string hv, .bool wa, .bool op, .bool os, .int .i64 se, .int .i64 nw, .int .i64 ra] rfl rfl 57 zP.cl.toArray (unhide HXB) (by kernel_rfl) (by rfl) (unhide HOC) (fun w' => RfS ⟨nd, px, py, hv, wa, op, os, se, nw, ra⟩ w 1 w') (unhide HSx) ?_)
    intro w6 h6
    have H6 := hide h6
    clear h6
    go_wp2_with fail
    exact onlyN ⟨rfl, unhide H6⟩
  intro x hS
  have HSx := hide hS
  clear hS
  go_wp2
  have hans := (unhide HSx).b
  rw [if_neg (by decide)] at hans
  exact ret_cell (p := 2) (ty := 57) (by kernel_rfl) (w.heap.size + 1) 57 _ (0, 0) _ rfl hans rfl Try.underlying57 (by kernel_rfl) ⟨rfl, (unhide HSx).be⟩
end Go.Proofs.Ytjndgglbapghhaa

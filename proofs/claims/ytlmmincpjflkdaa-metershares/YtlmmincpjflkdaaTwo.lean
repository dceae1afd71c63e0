/- Blocks of two cells (structs of two fields that a call boxes or answers), and results that lie in them. -/
import Derived.Test.YtlmmincpjflkdaaGr
import Derived.Laws.Rows
namespace Go.Proofs.Ytlmmincpjflkdaa
open Go.RowKit
set_option linter.unusedVariables false

/-- block b holds just two cells -/
def Two (w : World) (b : Nat) (x y : Value) (t : TypeId) : Prop := w.heap[b]? = some (.cells #[x, y] t (0, 0))
theorem two_alloc (w : World) (x y : Value) (t : TypeId) : Two (w.alloc (.cells #[x, y] t)) w.heap.size x y t := heap_alloc_new w _
theorem Two.lt {w : World} {b : Nat} {x y : Value} {t : TypeId} (h : Two w b x y t) : b < w.heap.size := by
  rcases Nat.lt_or_ge b w.heap.size with h' | h'
  · exact h'
  · unfold Two at h
    rw [Array.getElem?_eq_none h'] at h
    cases h
theorem Two.below {w w' : World} {b B : Nat} {x y : Value} {t : TypeId} (h : Two w b x y t) (hb : Below B w w') (hB : b < B) : Two w' b x y t := (hb.block b hB).trans h
theorem Two.up {w w' : World} {b : Nat} {x y : Value} {t : TypeId} (h : Two w b x y t) (hb : Below w.heap.size w w') : Two w' b x y t := h.below hb h.lt
theorem Two.alloc {w : World} {b : Nat} {x y : Value} {t : TypeId} (h : Two w b x y t) (o : Obj) : Two (w.alloc o) b x y t := h.below ((Below.refl _ _).alloc (Nat.le_refl _) o) h.lt
theorem Two.drew {w : World} {b : Nat} {x y : Value} {t : TypeId} (h : Two w b x y t) : Two w.drew b x y t := h
theorem Two.c0 {w : World} {b : Nat} {u v : Value} {t : TypeId} (h : Two w b u v t) : w.cell? ⟨b, 0, none⟩ = some u := by unfold Two at h; simp [World.cell?, h]
theorem Two.c1 {w : World} {b : Nat} {u v : Value} {t : TypeId} (h : Two w b u v t) : w.cell? ⟨b, 1, none⟩ = some v := by unfold Two at h; simp [World.cell?, h]
theorem Two.free {w : World} {b : Nat} {u v : Value} {t : TypeId} (h : Two w b u v t) (j : Nat) : w.frozen? ⟨b, j, none⟩ = false := by unfold Two at h; simp [World.frozen?, h]
theorem Two.set0 {w : World} {b : Nat} {u v : Value} {t : TypeId} (h : Two w b u v t) (x : Value) : Two (w.setCell ⟨b, 0, none⟩ x) b x v t := heap_setCell_same w b 0 _ t _ h
theorem Two.set1 {w : World} {b : Nat} {u v : Value} {t : TypeId} (h : Two w b u v t) (x : Value) : Two (w.setCell ⟨b, 1, none⟩ x) b u x t := heap_setCell_same w b 1 _ t _ h
theorem Two.other {w : World} {b : Nat} {u v : Value} {t : TypeId} (h : Two w b u v t) (a : Addr) (x : Value) (hn : a.block ≠ b) : Two (w.setCell a x) b u v t := (Below.heap_setCell _ _ _ _ (fun e => hn e.symm)).trans h
theorem below_set0 {w w' : World} {B b j : Nat} (h : Below B w w') (hB : B ≤ b) (x : Value) : Below B w (w'.setCell ⟨b, j, none⟩ x) :=
  ⟨h.os, h.tape, h.output, by simpa using h.size, fun k hk => (Below.heap_setCell _ _ _ _ (by show k ≠ b; omega)).trans (h.block k hk)⟩
theorem below_two {w w' : World} {B b : Nat} (h : Below B w w') (hB : B ≤ b) (x y : Value) : Below B w ((w'.setCell ⟨b, 0, none⟩ x).setCell ⟨b, 1, none⟩ y) := below_set0 (below_set0 h hB x) hB y

theorem results_two {P : Program} {fn : Func} {p q : Tmp} {ty : TypeId} (h : fn.results = #[.cell p ty, .tmp q]) (tmps : Array Value) (w : World) (g : Nat) (t : TypeId) (x y : Value) (fs : Array Field)
    (hp : tmps.getD p undef = .pointer (some ⟨g, 0, none⟩)) (hg : Two w g x y t) (hu : P.underlying ty = some (.struct fs)) (hi : (P.info? ty).map (·.size) = some 2) :
    (results fn tmps).run P w = .ok (.tuple #[.agg #[x, y], tmps.getD q undef]) w := by
  have hp' : tmps[p]?.getD undef = .pointer (some ⟨g, 0, none⟩) := by simpa using hp
  simp [results, h, hp', asAddr, run_loadVar_row w g t ty #[x, y] (0, 0) _ hg hu rfl (by simpa using hi)]
/-- the end of a call that answers a struct of two fields and a number -/
theorem ret_two {fn : Func} {p q : Tmp} {ty : TypeId} {a : Act} {w : World} {R : Ending → World → Prop} (h : fn.results = #[.cell p ty, .tmp q]) (g : Nat) (t : TypeId) (x y z : Value) (fs : Array Field)
    (hp : a.tmps.getD p undef = .pointer (some ⟨g, 0, none⟩)) (hz : a.tmps.getD q undef = z) (hg : Two w g x y t) (hdf : a.defers = []) (hu : Try.prog.underlying ty = some (.struct fs)) (hi : (Try.prog.info? ty).map (·.size) = some 2)
    (hR : R (.returned (.tuple #[.agg #[x, y], z])) w) : bodyPost Try.prog fn R .ret a w := by
  refine bodyPost_ret (results_two h _ w g t x y fs hp hg hu hi) hdf ?_
  rw [hz]
  exact hR
theorem ret_one {fn : Func} {p : Tmp} {ty : TypeId} {a : Act} {w : World} {R : Ending → World → Prop} (h : fn.results = #[.cell p ty]) (g : Nat) (t : TypeId) (x y : Value) (fs : Array Field)
    (hp : a.tmps.getD p undef = .pointer (some ⟨g, 0, none⟩)) (hg : Two w g x y t) (hdf : a.defers = [])
    (hu : Try.prog.underlying ty = some (.struct fs)) (hi : (Try.prog.info? ty).map (·.size) = some 2) (hR : R (.returned (.agg #[x, y])) w) :
    bodyPost Try.prog fn R .ret a w := bodyPost_ret (results_cell_row h _ w g t #[x, y] (0, 0) _ hp hg hu rfl (by simpa using hi)) hdf hR

end Go.Proofs.Ytlmmincpjflkdaa

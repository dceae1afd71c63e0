
/- Contracts of the document's own writer, of layer 2. -/
import Derived.Test.YthgijdhifhnmfaaRefO
namespace Go.Proofs.Ythgijdhifhnmfaa
open Go.RowKit
set_option linter.unusedVariables false

theorem bapp (s t : ByteArray) : (s ++ t).data.toList = s.data.toList ++ t.data.toList := by simp

/-- what the document's writer is behind put -/
def vPut (p : ByteArray × Int) (s : ByteArray) (e : Int) : ByteArray × Int :=
  if p.2 ≠ 0 then p else if e ≠ 0 then (p.1, e) else if 65536 < p.1.size + s.size then (p.1, 2) else (p.1 ++ s, 0)
theorem vPut_le {p : ByteArray × Int} (h : p.1.size ≤ 65536) (s : ByteArray) (e : Int) : (vPut p s e).1.size ≤ 65536 := by
  unfold vPut
  split
  · exact h
  · split
    · exact h
    · split
      · exact h
      · rw [ByteArray.size_append]; omega
theorem heap2_b (w : World) (A B : Obj) : ((w.alloc A).alloc B).heap[w.heap.size + 1]? = some B := by
  have := heap_alloc_new (w.alloc A) B
  rwa [show (w.alloc A).heap.size = w.heap.size + 1 by simp] at this
theorem heap2_a (w : World) (A B : Obj) : ((w.alloc A).alloc B).heap[w.heap.size]? = some A := by
  rw [Below.heap_alloc _ _ _ (by simp)]
  exact heap_alloc_new _ _
theorem below2 (w : World) (A B : Obj) : Below w.heap.size w ((w.alloc A).alloc B) := ((Below.refl _ _).alloc (Nat.le_refl _) _).alloc (by simp) _
/-- the document's writer as a value -/
def vV (p : ByteArray × Int) : Value := .agg #[.string p.1, .int .i64 p.2]
theorem ret_cell {fn : Func} {p : Tmp} {ty : TypeId} {a : Act} {w : World} {R : Ending → World → Prop} (h : fn.results = #[.cell p ty]) (g : Nat) (t : TypeId) (cs : Array Value) (fr : Nat × Nat) (fs : Array Field)
    (hp : a.tmps.getD p undef = .pointer (some ⟨g, 0, none⟩)) (hg : w.heap[g]? = some (.cells cs t fr)) (hdf : a.defers = [])
    (hu : Try.prog.underlying ty = some (.struct fs)) (hi : (Try.prog.info? ty).map (·.size) = some cs.size) (hR : R (.returned (.agg cs)) w) :
    bodyPost Try.prog fn R .ret a w := bodyPost_ret (results_cell_row h _ w g t cs fr _ hp hg hu rfl hi) hdf hR

/-- the two blocks that a writer's method lays: its copy, and its result's place -/
theorem two_blocks {w w1 : World} {u v x y : Value} {t : TypeId} (hb : Below ((w.alloc (.cells #[u, v] t)).alloc (.cells #[x, y] t)).heap.size ((w.alloc (.cells #[u, v] t)).alloc (.cells #[x, y] t)) w1) :
    w1.heap[w.heap.size]? = some (.cells #[u, v] t (0, 0)) ∧ w1.heap[w.heap.size + 1]? = some (.cells #[x, y] t (0, 0)) ∧ Below w.heap.size w w1 :=
  ⟨(hb.block _ (by simp; omega)).trans (heap2_a _ _ _), (hb.block _ (by simp)).trans (heap2_b _ _ _), (below2 _ _ _).trans (hb.mono (by simp; omega))⟩

theorem vnumF_any (n size : Int) (w : World) :
    Calls Try.prog 25 #[.int .i64 n, .int .i64 size] w fun x w' => x = .returned (.string ⟨(putS n size).1.toArray⟩) ∧ Below w.heap.size w w' := by
  have hq := hide (fun w => rput_any n size w)
  generalize (putS n size).1 = t at *
  generalize (putS n size).2 = er at *
  go_enter Try.func25, Try.ntmps25
  go_wp2_with fail
  refine (unhide hq _).mono ?_
  rintro e w1 ⟨rfl, b1⟩
  go_wp2
  go_ret
  exact ⟨rfl, b1⟩
theorem vtextF_any (s : ByteArray) (w : World) (hs : s.size ≤ 65535) :
    Calls Try.prog 26 #[.string s] w fun x w' => x = .returned (.string (⟨(putS s.size 2).1.toArray⟩ ++ s)) ∧ Below w.heap.size w w' := by
  have hq := hide (fun w => vnumF_any s.size 2 w)
  have hlen := putS_length s.size 2
  obtain ⟨t, ht⟩ : ∃ t : ByteArray, t = ⟨(putS s.size 2).1.toArray⟩ := ⟨_, rfl⟩
  have hts : t.size ≤ 7 := by rw [ht, ← blen]; exact hlen
  rw [← ht] at hq ⊢
  clear ht hlen
  go_enter Try.func26, Try.ntmps26
  go_wp2_with fail
  refine (unhide hq _).mono ?_
  rintro e w1 ⟨rfl, b1⟩
  go_wp2
  go_ret
  exact ⟨rfl, b1⟩

/-- what the document's writer is behind Text -/
def vText (p : ByteArray × Int) (s : ByteArray) : ByteArray × Int :=
  if 65535 < s.size then vPut p ⟨#[]⟩ 2 else vPut p (⟨(putS s.size 2).1.toArray⟩ ++ s) 0

end Go.Proofs.Ythgijdhifhnmfaa

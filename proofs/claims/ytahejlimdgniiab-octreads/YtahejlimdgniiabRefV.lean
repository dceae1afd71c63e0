/- Contracts of the document's own writer, of layer 2. -/
import Derived.Test.YtahejlimdgniiabRefO
namespace Go.Proofs.Ytahejlimdgniiab
open Go.RowKit
set_option linter.unusedVariables false

theorem bapp (s t : ByteArray) : (s ++ t).data.toList = s.data.toList ++ t.data.toList := by simp

/-- what the document's writer is behind put -/
def vPut (p : ByteArray × Int) (s : ByteArray) (e : Int) : ByteArray × Int :=
  if p.2 ≠ 0 then p else if e ≠ 0 then (p.1, e) else if 65536 < p.1.size + s.size then (p.1, 2) else (p.1 ++ s, 0)
theorem vPut_le {p : ByteArray × Int} (h : p.1.size ≤ 65536) (s : ByteArray) (e : Int) : (vPut p s e).1.size ≤ 65536 := by
  unfold vPut
  split
  · exact h
  · split
    · exact h
    · split
      · exact h
      · rw [ByteArray.size_append]; omega
theorem heap2_b (w : World) (A B : Obj) : ((w.alloc A).alloc B).heap[w.heap.size + 1]? = some B := by
  have := heap_alloc_new (w.alloc A) B
  rwa [show (w.alloc A).heap.size = w.heap.size + 1 by simp] at this
theorem heap2_a (w : World) (A B : Obj) : ((w.alloc A).alloc B).heap[w.heap.size]? = some A := by
  rw [Below.heap_alloc _ _ _ (by simp)]
  exact heap_alloc_new _ _
theorem below2 (w : World) (A B : Obj) : Below w.heap.size w ((w.alloc A).alloc B) := ((Below.refl _ _).alloc (Nat.le_refl _) _).alloc (by simp) _
/-- the document's writer as a value -/
def vV (p : ByteArray × Int) : Value := .agg #[.string p.1, .int .i64 p.2]
theorem ret_cell {fn : Func} {p : Tmp} {ty : TypeId} {a : Act} {w : World} {R : Ending → World → Prop} (h : fn.results = #[.cell p ty]) (g : Nat) (t : TypeId) (cs : Array Value) (fr : Nat × Nat) (fs : Array Field)
    (hp : a.tmps.getD p undef = .pointer (some ⟨g, 0, none⟩)) (hg : w.heap[g]? = some (.cells cs t fr)) (hdf : a.defers = [])
    (hu : Try.prog.underlying ty = some (.struct fs)) (hi : (Try.prog.info? ty).map (·.size) = some cs.size) (hR : R (.returned (.agg cs)) w) :
    bodyPost Try.prog fn R .ret a w := bodyPost_ret (results_cell_row h _ w g t cs fr _ hp hg hu rfl hi) hdf hR

theorem vput_any (S s : ByteArray) (E e : Int) (w : World) (hS : S.size ≤ 65536) (hs : s.size ≤ maxLen) :
    Calls Try.prog 49 #[.agg #[.string S, .int .i64 E], .string s, .int .i64 e] w fun x w' => x = .returned (vV (vPut (S, E) s e)) ∧ Below w.heap.size w w' := by
  unfold maxLen at hs
  by_cases h0 : E = 0
  · subst h0
    by_cases h1 : e = 0
    · subst h1
      by_cases h2 : (65536 : Int) - S.size < s.size
      · have hr : vPut (S, 0) s 0 = (S, 2) := by simp [vPut]; omega
        rw [hr]
        clear hr
        go_enter Try.func49, Try.ntmps49
        go_wp2
        exact ret_cell rfl (w.heap.size + 1) 43 #[.string S, .int .i64 2] (0, 0) _ rfl (heap2_b _ _ _) rfl Try.underlying43 (by kernel_rfl) ⟨rfl, below2 _ _ _⟩
      · have hr : vPut (S, 0) s 0 = (S ++ s, 0) := by simp [vPut]; omega
        rw [hr]
        have hb : S.size + s.size ≤ 65536 := by omega
        obtain ⟨D, hD⟩ : ∃ D, D = S ++ s := ⟨_, rfl⟩
        have HD := hide hD
        clear hr
        go_enter Try.func49, Try.ntmps49
        go_wp2
        exact ret_cell rfl (w.heap.size + 1) 43 #[.string (S ++ s), .int .i64 0] (0, 0) _ rfl (heap2_b _ _ _) rfl Try.underlying43 (by kernel_rfl) ⟨rfl, below2 _ _ _⟩
    · have hr : vPut (S, 0) s e = (S, e) := by simp [vPut, h1]
      have h1' : (e != 0) = true := by simpa using h1
      rw [hr]
      clear hr h1
      go_enter Try.func49, Try.ntmps49
      go_wp2
      exact ret_cell rfl (w.heap.size + 1) 43 #[.string S, .int .i64 e] (0, 0) _ rfl (heap2_b _ _ _) rfl Try.underlying43 (by kernel_rfl) ⟨rfl, below2 _ _ _⟩
  · have hr : vPut (S, E) s e = (S, E) := by simp [vPut, h0]
    have h0' : (E != 0) = true := by simpa using h0
    rw [hr]
    clear hr h0
    go_enter Try.func49, Try.ntmps49
    go_wp2
    exact ret_cell rfl (w.heap.size + 1) 43 #[.string S, .int .i64 E] (0, 0) _ rfl (heap2_b _ _ _) rfl Try.underlying43 (by kernel_rfl) ⟨rfl, below2 _ _ _⟩

/-- the two blocks that a writer's method lays: its copy, and its result's place -/
theorem two_blocks {w w1 : World} {u v x y : Value} {t : TypeId} (hb : Below ((w.alloc (.cells #[u, v] t)).alloc (.cells #[x, y] t)).heap.size ((w.alloc (.cells #[u, v] t)).alloc (.cells #[x, y] t)) w1) :
    w1.heap[w.heap.size]? = some (.cells #[u, v] t (0, 0)) ∧ w1.heap[w.heap.size + 1]? = some (.cells #[x, y] t (0, 0)) ∧ Below w.heap.size w w1 :=
  ⟨(hb.block _ (by simp; omega)).trans (heap2_a _ _ _), (hb.block _ (by simp)).trans (heap2_b _ _ _), (below2 _ _ _).trans (hb.mono (by simp; omega))⟩

theorem vraw_any (p : ByteArray × Int) (s : ByteArray) (w : World) (hS : p.1.size ≤ 65536) (hs : s.size ≤ maxLen) :
    Calls Try.prog 26 #[vV p, .string s] w fun x w' => x = .returned (vV (vPut p s 0)) ∧ Below w.heap.size w w' := by
  obtain ⟨S, E⟩ := p
  have hp := hide (fun w => vput_any S s E 0 w hS hs)
  unfold vV at *
  generalize vPut (S, E) s 0 = q at *
  obtain ⟨S2, E2⟩ := q
  go_enter Try.func26, Try.ntmps26
  go_wp2_with fail
  refine (unhide hp _).mono ?_
  rintro e w1 ⟨rfl, b1⟩
  obtain ⟨_, r1, b2⟩ := two_blocks b1
  have c0 := cell0_of_two r1
  have c1 := cell1_of_two r1
  have f0 := free_of_two (j := 0) r1
  have f1 := free_of_two (j := 1) r1
  have R1 := hide r1
  have B2 := hide b2
  clear r1 b1 b2 hp
  go_wp2
  exact ret_cell rfl (w.heap.size + 1) 43 #[.string S2, .int .i64 E2] (0, 0) _ rfl (two_set1 (two_set0 (unhide R1))) rfl Try.underlying43 (by kernel_rfl) ⟨rfl, ((unhide B2).setCell (by simp) _).setCell (by simp) _⟩

theorem vnum_any (p : ByteArray × Int) (n size : Int) (w : World) (hS : p.1.size ≤ 65536) :
    Calls Try.prog 22 #[vV p, .int .i64 n, .int .i64 size] w fun x w' => x = .returned (vV (vPut p ⟨(putS n size).1.toArray⟩ (putS n size).2)) ∧ Below w.heap.size w w' := by
  obtain ⟨S, E⟩ := p
  have hq := hide (fun w => rput_any n size w)
  have hlen := putS_length n size
  obtain ⟨t, ht⟩ : ∃ t : ByteArray, t = ⟨(putS n size).1.toArray⟩ := ⟨_, rfl⟩
  have hts : t.size ≤ 7 := by rw [ht]; simpa [ByteArray.size] using hlen
  rw [← ht] at hq ⊢
  clear ht hlen
  generalize (putS n size).2 = er at *
  have hp := hide (fun w => vput_any S t E er w hS (by unfold maxLen; omega))
  unfold vV at *
  generalize vPut (S, E) t er = q at *
  obtain ⟨S2, E2⟩ := q
  go_enter Try.func22, Try.ntmps22
  go_wp2_with fail
  refine (unhide hq _).mono ?_
  rintro e w1 ⟨rfl, b1⟩
  obtain ⟨r0, r1, b2⟩ := two_blocks b1
  have c0 := cell0_of_two r0
  have c1 := cell1_of_two r0
  have R1 := hide r1
  have B2 := hide b2
  clear r0 r1 b1 b2 hq
  go_wp2_with fail
  refine (unhide hp _).mono ?_
  rintro e w3 ⟨rfl, b3⟩
  have r1 : w3.heap[w.heap.size + 1]? = some _ := (b3.block _ (lt_of_block (unhide R1))).trans (unhide R1)
  have B3 := hide ((unhide B2).trans (b3.mono (unhide B2).size))
  clear c0 c1 b3 hp B2
  have c0 := cell0_of_two r1
  have c1 := cell1_of_two r1
  have f0 := free_of_two (j := 0) r1
  have f1 := free_of_two (j := 1) r1
  have R3 := hide r1
  clear r1
  go_wp2
  exact ret_cell rfl (w.heap.size + 1) 43 #[.string S2, .int .i64 E2] (0, 0) _ rfl (two_set1 (two_set0 (unhide R3))) rfl Try.underlying43 (by kernel_rfl) ⟨rfl, ((unhide B3).setCell (by simp) _).setCell (by simp) _⟩

theorem vnumF_any (n size : Int) (w : World) :
    Calls Try.prog 53 #[.int .i64 n, .int .i64 size] w fun x w' => x = .returned (.string ⟨(putS n size).1.toArray⟩) ∧ Below w.heap.size w w' := by
  have hq := hide (fun w => rput_any n size w)
  generalize (putS n size).1 = t at *
  generalize (putS n size).2 = er at *
  go_enter Try.func53, Try.ntmps53
  go_wp2_with fail
  refine (unhide hq _).mono ?_
  rintro e w1 ⟨rfl, b1⟩
  go_wp2
  go_ret
  exact ⟨rfl, b1⟩
theorem vtextF_any (s : ByteArray) (w : World) (hs : s.size ≤ 65535) :
    Calls Try.prog 50 #[.string s] w fun x w' => x = .returned (.string (⟨(putS s.size 2).1.toArray⟩ ++ s)) ∧ Below w.heap.size w w' := by
  have hq := hide (fun w => vnumF_any s.size 2 w)
  have hlen := putS_length s.size 2
  obtain ⟨t, ht⟩ : ∃ t : ByteArray, t = ⟨(putS s.size 2).1.toArray⟩ := ⟨_, rfl⟩
  have hts : t.size ≤ 7 := by rw [ht, ← blen]; exact hlen
  rw [← ht] at hq ⊢
  clear ht hlen
  go_enter Try.func50, Try.ntmps50
  go_wp2_with fail
  refine (unhide hq _).mono ?_
  rintro e w1 ⟨rfl, b1⟩
  go_wp2
  go_ret
  exact ⟨rfl, b1⟩

/-- what the document's writer is behind Text -/
def vText (p : ByteArray × Int) (s : ByteArray) : ByteArray × Int :=
  if 65535 < s.size then vPut p ⟨#[]⟩ 2 else vPut p (⟨(putS s.size 2).1.toArray⟩ ++ s) 0

end Go.Proofs.Ytahejlimdgniiab

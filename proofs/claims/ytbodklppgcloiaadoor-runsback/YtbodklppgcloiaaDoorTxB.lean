/- Contracts of span, written, Read. -/
import Derived.Test.YtbodklppgcloiaaDoorTxA
namespace Go.Proofs.YtbodklppgcloiaaDoor
open Go.RowKit Go.Shelf
set_option linter.unusedVariables false
attribute [local go_sem] Oper.semAt_some

theorem ret_cell {fn : Func} {p : Tmp} {ty : TypeId} {a : Act} {w : World} {R : Ending → World → Prop} (h : fn.results = #[.cell p ty]) (g : Nat) (t : TypeId) (cs : Array Value) (fr : Nat × Nat) (fs : Array Field)
    (hp : a.tmps.getD p undef = .pointer (some ⟨g, 0, none⟩)) (hg : w.heap[g]? = some (.cells cs t fr)) (hdf : a.defers = [])
    (hu : Tryd.prog.underlying ty = some (.struct fs)) (hi : (Tryd.prog.info? ty).map (·.size) = some cs.size) (hR : R (.returned (.agg cs)) w) :
    bodyPost Tryd.prog fn R .ret a w := bodyPost_ret (results_cell_row h _ w g t cs fr _ hp hg hu rfl hi) hdf hR
theorem set_row {w : World} {g : Nat} {cs : Array Value} {t : TypeId} (h : w.heap[g]? = some (.cells cs t (0, 0))) (j : Nat) (v : Value) : (w.setCell ⟨g, j, none⟩ v).heap[g]? = some (.cells (cs.setIfInBounds j v) t (0, 0)) := heap_setCell_same w g j _ t _ h
theorem numB_bound (d : By) : -1 ≤ numB d ∧ numB d < 160 := by
  rcases num_back d with h | ⟨k, h1, h2, _⟩ <;> omega
set_option maxRecDepth 100000 in
set_option maxHeartbeats 1000000 in
theorem span_any (p : By) (hp : p.length ≤ 100000) (w : World) (hG : Glob w) : Calls Tryd.prog 79 #[.string (bs p)] w fun e w' => e = .returned (spI (spanB p)) ∧ Below w.heap.size w w' := by
  have hb0 : Below w.heap.size w (w.alloc (.cells #[.int .i64 0, .int .i64 0] 50)) := (Below.refl _ w).alloc (Nat.le_refl _) _
  have hbk := heap_alloc_new w (.cells #[.int .i64 0, .int .i64 0] 50)
  have hc := hide (cut_any 45 p hp _ (hG.below hb0))
  obtain ⟨hl1, hl2⟩ : (cutC 45 p).1.length ≤ 100000 ∧ (cutC 45 p).2.1.length ≤ 100000 := by
    rcases cutC_cases 45 p with ⟨a, b, h1, _, h3⟩ | ⟨_, h3⟩
    · rw [h3]; rw [h1] at hp; simp at hp; simp only; omega
    · rw [h3]; simp; omega
  have hn1 := hide (fun w' (hb : Below w.heap.size w w') => number_any (cutC 45 p).1 hl1 w' (hG.below hb))
  have hn2 := hide (fun w' (hb : Below w.heap.size w w') => number_any (cutC 45 p).2.1 hl2 w' (hG.below hb))
  have k1 := numB_bound (cutC 45 p).1
  have k2 := numB_bound (cutC 45 p).2.1
  unfold spanB spI
  have B0 := hide hb0
  have R0 := hide hbk
  clear hb0 hbk hl1 hl2
  rw [show bs [45] = (⟨#[45]⟩ : ByteArray) from rfl] at hc
  generalize numB (cutC 45 p).1 = n1 at *
  generalize numB (cutC 45 p).2.1 = n2 at *
  generalize bs (cutC 45 p).1 = c1 at *
  generalize bs (cutC 45 p).2.1 = c2 at *
  generalize bs p = P at *
  have q1 : n1 + 1 ≤ 200 := by omega
  have q2 : n2 + 1 ≤ 200 := by omega
  have f0 : ∀ (W : World) (cs : Array Value) (j : Nat), W.heap[w.heap.size]? = some (.cells cs 50 (0, 0)) → W.frozen? ⟨w.heap.size, j, none⟩ = false := fun W cs j h => by simp [World.frozen?, h]
  have F0 := hide f0
  clear f0
  go_enter Tryd.func79, Tryd.ntmps79
  cases hm : (cutC 45 p).2.2 with
  | false =>
    rw [hm] at hc
    clear hm
    go_wp2_with fail
    refine (unhide hc).mono ?_
    rintro e w1 ⟨rfl, b1⟩
    have B1 := hide ((unhide B0).trans (b1.mono (unhide B0).size))
    have R1 := hide ((b1.block _ (lt_of_block (unhide R0))).trans (unhide R0))
    clear b1
    go_wp2_with fail
    refine (unhide hn1 _ (unhide B1)).mono ?_
    rintro e w2 ⟨rfl, b2⟩
    have B2 := hide ((unhide B1).trans (b2.mono (unhide B1).size))
    have R2 := hide ((b2.block _ (lt_of_block (unhide R1))).trans (unhide R1))
    have z0 := cell0_of_two (unhide R2)
    have z1 := cell1_of_two (unhide R2)
    have g0 := unhide F0 w2 _ 0 (unhide R2)
    have g1 := unhide F0 w2 _ 1 (unhide R2)
    clear b2 B1 R1
    go_wp2
    refine ret_cell rfl w.heap.size 50 #[.int .i64 n1, .int .i64 (n1 + 1)] (0, 0) _ rfl (set_row (set_row (unhide R2) 0 _) 1 _) rfl Tryd.underlying50 (by kernel_rfl) ⟨?_, ((unhide B2).setCell (p := ⟨w.heap.size, 0, none⟩) (Nat.le_refl _) _).setCell (p := ⟨w.heap.size, 1, none⟩) (Nat.le_refl _) _⟩
    simp
  | true =>
    rw [hm] at hc
    clear hm
    go_wp2_with fail
    refine (unhide hc).mono ?_
    rintro e w1 ⟨rfl, b1⟩
    have B1 := hide ((unhide B0).trans (b1.mono (unhide B0).size))
    have R1 := hide ((b1.block _ (lt_of_block (unhide R0))).trans (unhide R0))
    clear b1
    go_wp2_with fail
    refine (unhide hn1 _ (unhide B1)).mono ?_
    rintro e w2 ⟨rfl, b2⟩
    have B2 := hide ((unhide B1).trans (b2.mono (unhide B1).size))
    have R2 := hide ((b2.block _ (lt_of_block (unhide R1))).trans (unhide R1))
    clear b2 B1 R1
    go_wp2_with fail
    refine (unhide hn2 _ (unhide B2)).mono ?_
    rintro e w3 ⟨rfl, b3⟩
    have B3 := hide ((unhide B2).trans (b3.mono (unhide B2).size))
    have R3 := hide ((b3.block _ (lt_of_block (unhide R2))).trans (unhide R2))
    have z0 := cell0_of_two (unhide R3)
    have z1 := cell1_of_two (unhide R3)
    have g0 := unhide F0 w3 _ 0 (unhide R3)
    have g1 := unhide F0 w3 _ 1 (unhide R3)
    clear b3 B2 R2
    by_cases he : n2 = n1
    · subst he
      go_wp2
      refine ret_cell rfl w.heap.size 50 #[.int .i64 0, .int .i64 0] (0, 0) _ rfl (set_row (set_row (unhide R3) 0 _) 1 _) rfl Tryd.underlying50 (by kernel_rfl) ⟨?_, ((unhide B3).setCell (p := ⟨w.heap.size, 0, none⟩) (Nat.le_refl _) _).setCell (p := ⟨w.heap.size, 1, none⟩) (Nat.le_refl _) _⟩
      simp
    · have hb : (n2 == n1) = false := by simpa using he
      go_wp2
      refine ret_cell rfl w.heap.size 50 #[.int .i64 n1, .int .i64 (n2 + 1)] (0, 0) _ rfl (set_row (set_row (unhide R3) 0 _) 1 _) rfl Tryd.underlying50 (by kernel_rfl) ⟨?_, ((unhide B3).setCell (p := ⟨w.heap.size, 0, none⟩) (Nat.le_refl _) _).setCell (p := ⟨w.heap.size, 1, none⟩) (Nat.le_refl _) _⟩
      simp
/-- fuel that suffices -/
theorem wrL_fuel : ∀ (f g : Nat) (s : By), s.length < f → s.length < g → wrL f s = wrL g s
  | 0, _, s, h, _ => by omega
  | f + 1, 0, s, _, h => by omega
  | f + 1, g + 1, s, h1, h2 => by
    unfold wrL
    congr 1
    rcases cutC_cases 44 s with ⟨a, b, rfl, _, hc⟩ | ⟨_, hc⟩
    · rw [hc]
      simp only [if_true]
      simp at h1 h2
      exact wrL_fuel f g b (by omega) (by omega)
    · rw [hc]; simp
theorem wrL_cut {s : By} {a b : By} (h : cutC 44 s = (a, b, true)) : wrL (s.length + 1) s = spanB a :: wrL (b.length + 1) b := by
  rcases cutC_cases 44 s with ⟨a', b', rfl, _, hc⟩ | ⟨_, hc⟩
  · rw [hc] at h
    simp only [Prod.mk.injEq, and_true] at h
    obtain ⟨rfl, rfl⟩ := h
    show spanB (cutC 44 (a' ++ 44 :: b')).1 :: (if (cutC 44 (a' ++ 44 :: b')).2.2 then wrL (a' ++ 44 :: b').length (cutC 44 (a' ++ 44 :: b')).2.1 else []) = _
    rw [hc]
    simp only [if_true]
    rw [wrL_fuel _ (b'.length + 1) b' (by simp; omega) (by omega)]
  · rw [hc] at h; cases h
theorem wrL_end {s : By} {a b : By} (h : cutC 44 s = (a, b, false)) : wrL (s.length + 1) s = [spanB a] := by
  show spanB (cutC 44 s).1 :: (if (cutC 44 s).2.2 then wrL s.length (cutC 44 s).2.1 else []) = _
  rw [h]; simp
theorem cut_len (s : By) : (cutC 44 s).1.length ≤ s.length ∧ (cutC 44 s).2.1.length ≤ s.length ∧ ((cutC 44 s).2.2 = true → (cutC 44 s).2.1.length < s.length) := by
  rcases cutC_cases 44 s with ⟨a, b, rfl, _, hc⟩ | ⟨_, hc⟩
  · rw [hc]; simp; omega
  · rw [hc]; simp
end Go.Proofs.YtbodklppgcloiaaDoor

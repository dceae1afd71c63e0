/- The law's awake. -/
import Derived.Test.YtfihpmhobjjaaaaPeN
namespace Go.Proofs.Ytfihpmhobjjaaaa
open Go.RowKit
set_option linter.unusedVariables false
attribute [local go_sem] Oper.semAt_some

theorem ex_steps : (peelF 4 (inS [0]) [[0, 1], [1, 2], [0, 2, 3]]).1 = [(0, 1), (1, 2), (2, 3)] := by decide +kernel
theorem ex_known : knN 4 [[0, 1], [1, 2], [0, 2, 3]] [] = [] := by decide +kernel
theorem ex_pl0 : Pl 4 [[0, 1], [1, 2], [0, 2, 3]] [0] := ⟨by omega, by simp, by unfold RLt; decide, by decide, by decide, by decide⟩
theorem ex_pl1 : Pl 4 [[0, 1], [1, 2], [0, 2, 3]] [] := ⟨by omega, by simp, by unfold RLt; decide, by decide, by decide, by decide⟩
theorem lit_rowsC (w : World) (a b c : List Nat) (t u : TypeId) (ha : a.length ≤ 1000) (hb : b.length ≤ 1000) (hc : c.length ≤ 1000) : RowsC ((((w.alloc (.cells (ic (zs a)).toArray t)).alloc (.cells (ic (zs b)).toArray t)).alloc (.cells (ic (zs c)).toArray t)).alloc (.cells #[.slice (some ⟨w.heap.size, 0, none⟩) a.length a.length, .slice (some ⟨w.heap.size + 1, 0, none⟩) b.length b.length, .slice (some ⟨w.heap.size + 2, 0, none⟩) c.length c.length] u)) (some ⟨w.heap.size + 3, 0, none⟩) [a, b, c] := by
  have h3 : ((((w.alloc (.cells (ic (zs a)).toArray t)).alloc (.cells (ic (zs b)).toArray t)).alloc (.cells (ic (zs c)).toArray t)).alloc (.cells #[.slice (some ⟨w.heap.size, 0, none⟩) a.length a.length, .slice (some ⟨w.heap.size + 1, 0, none⟩) b.length b.length, .slice (some ⟨w.heap.size + 2, 0, none⟩) c.length c.length] u)).heap[w.heap.size + 3]? = some (.cells #[.slice (some ⟨w.heap.size, 0, none⟩) a.length a.length, .slice (some ⟨w.heap.size + 1, 0, none⟩) b.length b.length, .slice (some ⟨w.heap.size + 2, 0, none⟩) c.length c.length] u (0, 0)) := by
    have h := heap_alloc_new (((w.alloc (.cells (ic (zs a)).toArray t)).alloc (.cells (ic (zs b)).toArray t)).alloc (.cells (ic (zs c)).toArray t)) (.cells #[.slice (some ⟨w.heap.size, 0, none⟩) a.length a.length, .slice (some ⟨w.heap.size + 1, 0, none⟩) b.length b.length, .slice (some ⟨w.heap.size + 2, 0, none⟩) c.length c.length] u)
    rwa [show (((w.alloc (.cells (ic (zs a)).toArray t)).alloc (.cells (ic (zs b)).toArray t)).alloc (.cells (ic (zs c)).toArray t)).heap.size = w.heap.size + 3 by simp] at h
  have hA := heap3_a w (.cells (ic (zs a)).toArray t) (.cells (ic (zs b)).toArray t) (.cells (ic (zs c)).toArray t)
  have hB := heap3_b w (.cells (ic (zs a)).toArray t) (.cells (ic (zs b)).toArray t) (.cells (ic (zs c)).toArray t)
  have hC := heap3_c w (.cells (ic (zs a)).toArray t) (.cells (ic (zs b)).toArray t) (.cells (ic (zs c)).toArray t)
  generalize (((w.alloc (.cells (ic (zs a)).toArray t)).alloc (.cells (ic (zs b)).toArray t)).alloc (.cells (ic (zs c)).toArray t)) = W at *
  have key : ∀ g X, W.heap[g]? = some X → (W.alloc (.cells #[.slice (some ⟨w.heap.size, 0, none⟩) a.length a.length, .slice (some ⟨w.heap.size + 1, 0, none⟩) b.length b.length, .slice (some ⟨w.heap.size + 2, 0, none⟩) c.length c.length] u)).heap[g]? = some X := fun g X h => (Below.heap_alloc _ _ _ (lt_of_block h)).trans h
  intro i hi
  refine ⟨w.heap.size + 3, 0, rfl, ?_⟩
  have hc' := cell_of_row _ _ i _ _ _ h3
  rw [Nat.zero_add, hc']
  unfold maxLen
  obtain rfl | rfl | rfl : i = 0 ∨ i = 1 ∨ i = 2 := by simp at hi; omega
  · exact ⟨_, _, rfl, ints_blk (n := 0) (key _ _ hA), Nat.le_refl _, by show a.length ≤ _; omega⟩
  · exact ⟨_, _, rfl, ints_blk (n := 0) (key _ _ hB), Nat.le_refl _, by show b.length ≤ _; omega⟩
  · exact ⟨_, _, rfl, ints_blk (n := 0) (key _ _ hC), Nat.le_refl _, by show c.length ≤ _; omega⟩
set_option maxRecDepth 100000 in
set_option maxHeartbeats 1000000 in
theorem pawake_any (w : World) :
    Calls Try.prog 9 #[] w fun e w' => e = .returned (.bool true) ∧ Below w.heap.size w w' := by
  have hr := lit_rowsC w [0, 1] [1, 2] [0, 2, 3] 3 23 (by simp) (by simp) (by simp)
  have hb : Below w.heap.size w ((((w.alloc (.cells (ic (zs [0, 1])).toArray 3)).alloc (.cells (ic (zs [1, 2])).toArray 3)).alloc (.cells (ic (zs [0, 2, 3])).toArray 3)).alloc (.cells #[.slice (some ⟨w.heap.size, 0, none⟩) 2 2, .slice (some ⟨w.heap.size + 1, 0, none⟩) 2 2, .slice (some ⟨w.heap.size + 2, 0, none⟩) 3 3] 23)) := ((((Below.refl _ w).alloc (Nat.le_refl _) _).alloc (by simp) _).alloc (by simp; omega) _).alloc (by simp; omega) _
  have HR := hide hr
  have HB := hide hb
  have HST : Hid (∀ W k0, RowsC W (some ⟨w.heap.size + 3, 0, none⟩) [[0, 1], [1, 2], [0, 2, 3]] → Ints W k0 (zs [0]) → Calls Try.prog 10 #[.int .i64 4, .slice (some ⟨w.heap.size + 3, 0, none⟩) 3 3, .slice k0 1 1] W fun e w' => ∃ v, e = .returned (.tuple #[v, .int .i64 0]) ∧ w'.ownsRow W.heap.size 34 2 v 3 (stc [(0, 1), (1, 2), (2, 3)]) ∧ Below W.heap.size W w') := fun W k0 h1 h2 => by
    have := steps_yes 4 _ _ ex_pl0 (some ⟨w.heap.size + 3, 0, none⟩) k0 3 1 W h1 h2
    rw [ex_steps] at this
    exact this
  have HKN : Hid (∀ W, RowsC W (some ⟨w.heap.size + 3, 0, none⟩) [[0, 1], [1, 2], [0, 2, 3]] → Calls Try.prog 12 #[.int .i64 4, .slice (some ⟨w.heap.size + 3, 0, none⟩) 3 3, .slice none 0 0] W fun e w' => ∃ v, e = .returned (.tuple #[v, .int .i64 0]) ∧ w'.ownsRow W.heap.size 3 1 v 0 (ic (zs [])) ∧ Below W.heap.size W w') := fun W h1 => by
    have := known_yes 4 _ _ ex_pl1 (some ⟨w.heap.size + 3, 0, none⟩) none 3 0 W h1 (fun i hi => absurd hi (by simp [zs]))
    rw [ex_known] at this
    exact this
  have hsz : ((((w.alloc (.cells (ic (zs [0, 1])).toArray 3)).alloc (.cells (ic (zs [1, 2])).toArray 3)).alloc (.cells (ic (zs [0, 2, 3])).toArray 3)).alloc (.cells #[.slice (some ⟨w.heap.size, 0, none⟩) 2 2, .slice (some ⟨w.heap.size + 1, 0, none⟩) 2 2, .slice (some ⟨w.heap.size + 2, 0, none⟩) 3 3] 23)).heap.size = w.heap.size + 4 := by simp
  have HX : Hid (∀ W : World, W.heap.size = w.heap.size + 4 → RowsC W (some ⟨w.heap.size + 3, 0, none⟩) [[0, 1], [1, 2], [0, 2, 3]] → Below w.heap.size w W → Calls Try.prog 10 #[.int .i64 4, .slice (some ⟨w.heap.size + 3, 0, none⟩) 3 3, .slice (some ⟨w.heap.size + 4, 0, none⟩) 1 1] (W.alloc (.cells #[.int .i64 0] 3)) fun e w' => ∃ v, e = .returned (.tuple #[v, .int .i64 0]) ∧ w'.ownsRow (W.alloc (.cells #[.int .i64 0] 3)).heap.size 34 2 v 3 (stc [(0, 1), (1, 2), (2, 3)]) ∧ RowsC w' (some ⟨w.heap.size + 3, 0, none⟩) [[0, 1], [1, 2], [0, 2, 3]] ∧ Below w.heap.size w w') := fun W hs h1 h2 => by
    have hb1 : Below W.heap.size W (W.alloc (.cells #[.int .i64 0] 3)) := (Below.refl _ _).alloc (Nat.le_refl _) _
    refine (unhide HST _ (some ⟨w.heap.size + 4, 0, none⟩) (h1.below hb1) ?_).mono ?_
    · rw [← hs]
      exact ints_blk (n := 0) (heap_alloc_new _ _)
    · rintro e w' ⟨v, rfl, ho, hb2⟩
      exact ⟨v, rfl, ho, (h1.below hb1).below hb2, (h2.trans (hb1.mono h2.size)).trans (hb2.mono ((h2.trans (hb1.mono h2.size)).size))⟩
  have HS := hide (unhide HX _ hsz hr hb)
  clear hr hb HX HST hsz HR HB
  go_enter Try.func9, Try.ntmps9
  go_wp2_with fail
  refine (unhide HS).mono ?_
  rintro e w1 ⟨v1, rfl, hO1, hr1, b1⟩
  obtain ⟨g1, c1, rfl⟩ : ∃ g1 c1, v1 = .slice (some ⟨g1, 0, none⟩) 3 c1 := by
    rcases hO1.2 with ⟨_, h⟩ | ⟨g, c', cur, h, _⟩
    · simp at h
    · exact ⟨_, _, h⟩
  have B1 := hide b1
  have hk := hide (unhide HKN _ hr1)
  have e0 := hO1.cellAt 0 (by omega)
  have e1 := hO1.cellAt 1 (by omega)
  have e4 := hO1.cellAt 4 (by omega)
  have e5 := hO1.cellAt 5 (by omega)
  simp [stc] at e0 e1 e4 e5
  clear hr1 hO1 b1 HKN HS
  go_wp2_with fail
  refine (unhide hk).mono ?_
  rintro e w2 ⟨v2, rfl, hO2, b2⟩
  obtain ⟨a2, c2, rfl⟩ := own_shape2 hO2
  have f0 := cell_below e0 b2
  have f1 := cell_below e1 b2
  have f4 := cell_below e4 b2
  have f5 := cell_below e5 b2
  have B2 := hide ((unhide B1).trans (b2.mono (unhide B1).size))
  clear e0 e1 e4 e5 b2 hO2
  go_wp2
  go_ret
  exact ⟨rfl, unhide B2⟩
end Go.Proofs.Ytfihpmhobjjaaaa

/- The law RunsPatches, walked. -/
import Derived.Test.YtbodklppgcloiaaDoorRwG
import Derived.Test.YtbodklppgcloiaaDoorRuL
namespace Go.Proofs.YtbodklppgcloiaaDoor
open Go.RowKit Go.Shelf
set_option linter.unusedVariables false
attribute [local go_sem] Oper.semAt_some

/-- three cells of one block, in all later worlds -/
theorem three_cells (w : World) (A B P : Value) (t : TypeId) (W : World) (hb : Below (w.alloc (.cells #[A, B, P] t)).heap.size (w.alloc (.cells #[A, B, P] t)) W) : W.cell? ⟨w.heap.size, 0, none⟩ = some A ∧ W.cell? ⟨w.heap.size, 1, none⟩ = some B ∧ W.cell? ⟨w.heap.size, 2, none⟩ = some P := by
  have h : W.heap[w.heap.size]? = some (.cells #[A, B, P] t (0, 0)) := (hb.block _ (by simp)).trans (heap_alloc_new w _)
  exact ⟨by rw [cell_of_row _ _ 0 _ _ (0, 0) h]; rfl, by rw [cell_of_row _ _ 1 _ _ (0, 0) h]; rfl, by rw [cell_of_row _ _ 2 _ _ (0, 0) h]; rfl⟩
set_option maxRecDepth 100000 in
set_option maxHeartbeats 4000000 in
theorem runsPatches_by (n : Int) (a b p : By) (w : World) (ha : a.length ≤ maxLen) (hb : b.length ≤ maxLen) (hp : p.length ≤ maxLen) : Calls Tryd.prog 6 #[.int .i64 n, .agg #[.string (bs a), .string (bs b), .string (bs p)]] w fun e w' => e = .returned (.bool true) ∧ Below w.heap.size w w' := by
  have haw := hide ruawake_any
  have hsz := bs_size a
  have hsz2 := bs_size b
  have hsz3 := bs_size p
  have b0 : Below w.heap.size w (w.alloc (.cells #[.string (bs a), .string (bs b), .string (bs p)] 41)) := (Below.refl _ w).alloc (Nat.le_refl _) _
  have hcs := hide (three_cells w (.string (bs a)) (.string (bs b)) (.string (bs p)) 41)
  by_cases hbig : 30 < a.length ∨ (¬ 30 < a.length ∧ (30 < b.length ∨ (¬ 30 < b.length ∧ 400 < p.length)))
  · have i0 : (30 : Int) < ((bs a).size : Int) ∨ (¬ (30 : Int) < ((bs a).size : Int) ∧ ((30 : Int) < ((bs b).size : Int) ∨ (¬ (30 : Int) < ((bs b).size : Int) ∧ (400 : Int) < ((bs p).size : Int)))) := by rw [hsz, hsz2, hsz3]; omega
    generalize bs a = A at *
    generalize bs b = B at *
    generalize bs p = T at *
    have B0 := hide b0
    clear hsz hsz2 hsz3 hbig b0
    go_enter Tryd.func6, Tryd.ntmps6
    obtain ⟨c1, c2, c3⟩ := unhide hcs _ (Below.refl _ _)
    rcases i0 with i1 | ⟨i1, i2 | ⟨i2, i3⟩⟩
    all_goals
      go_wp2_with fail
      refine (unhide haw _).mono ?_
      rintro e w1 ⟨rfl, b1⟩
      have B1 := hide ((unhide B0).trans (b1.mono (unhide B0).size))
      clear b1 c1 c2 c3
      go_wp2
      go_ret
      exact ⟨rfl, unhide B1⟩
  · have i1 : ¬ (30 : Int) < ((bs a).size : Int) := by rw [hsz]; omega
    have i2 : ¬ (30 : Int) < ((bs b).size : Int) := by rw [hsz2]; omega
    have i3 : ¬ (400 : Int) < ((bs p).size : Int) := by rw [hsz3]; omega
    have h1 := hide (fun w => patch_any n a b w (by omega) (by omega))
    have h2 := hide (fun w => rpatch_any n a b w (by omega) (by omega))
    have h3 := hide (fun w => apply_any n a p w (by omega) (by omega))
    have h4 := hide (fun w => rapply_any n a p w (by omega) (by omega))
    clear hsz hsz2 hsz3 hbig ha hb hp
    generalize patE n a b = PE at *
    generalize bs (patR n a b) = PR at *
    generalize appE n a p = UE at *
    generalize bs (appR n a p) = UR at *
    generalize bs a = A at *
    generalize bs b = B at *
    generalize bs p = T at *
    have B0 := hide b0
    clear b0
    go_enter Tryd.func6, Tryd.ntmps6
    obtain ⟨c1, c2, c3⟩ := unhide hcs _ (Below.refl _ _)
    generalize hW0 : w.alloc (.cells #[.string A, .string B, .string T] 41) = W0 at *
    have HW0 := hide hW0
    go_wp2_with fail
    refine (unhide h1 _).mono ?_
    rintro e w1 ⟨rfl, b1⟩
    have C1 := hide b1
    obtain ⟨d1, d2, d3⟩ := unhide hcs _ (unhide C1)
    clear b1 c1 c2 c3
    go_wp2_with fail
    refine (unhide h2 _).mono ?_
    rintro e w2 ⟨rfl, b2⟩
    have C2 := hide ((unhide C1).trans (b2.mono (unhide C1).size))
    clear d1 d2 d3
    obtain ⟨d1, d2, d3⟩ := unhide hcs _ (unhide C2)
    clear b2 C1
    go_wp2_with fail
    refine (unhide h3 _).mono ?_
    rintro e w3 ⟨rfl, b3⟩
    have C3 := hide ((unhide C2).trans (b3.mono (unhide C2).size))
    clear d1 d2 d3
    obtain ⟨d1, d2, d3⟩ := unhide hcs _ (unhide C3)
    clear b3 C2
    go_wp2_with fail
    refine (unhide h4 _).mono ?_
    rintro e w4 ⟨rfl, b4⟩
    have C4 := hide ((unhide C3).trans (b4.mono (unhide C3).size))
    clear d1 d2 d3
    obtain ⟨d1, d2, d3⟩ := unhide hcs _ (unhide C4)
    clear b4 C3
    go_wp2_with fail
    refine (unhide haw _).mono ?_
    rintro e w5 ⟨rfl, b5⟩
    have C5 := hide ((unhide C4).trans (b5.mono (unhide C4).size))
    clear b5 C4 d1 d2 d3
    go_wp2
    go_ret
    exact ⟨rfl, (unhide B0).trans ((unhide C5).mono (unhide B0).size)⟩
theorem runsPatches_any (n : Int) (a b p : ByteArray) (w : World) (ha : a.size ≤ maxLen) (hb : b.size ≤ maxLen) (hp : p.size ≤ maxLen) : Calls Tryd.prog 6 #[.int .i64 n, .agg #[.string a, .string b, .string p]] w fun e w' => e = .returned (.bool true) ∧ Below w.heap.size w w' := by
  rw [← bs_of a, ← bs_of b, ← bs_of p]
  exact runsPatches_by n a.data.toList b.data.toList p.data.toList w (by rw [← show a.size = a.data.toList.length from by simp]; exact ha) (by rw [← show b.size = b.data.toList.length from by simp]; exact hb) (by rw [← show p.size = p.data.toList.length from by simp]; exact hp)
end Go.Proofs.YtbodklppgcloiaaDoor


/- The law's awake, and RunsTile walked. -/
import Derived.Test.YtbodklppgcloiaaDoorRuQ
namespace Go.Proofs.YtbodklppgcloiaaDoor
open Go.RowKit Go.Shelf
set_option linter.unusedVariables false

theorem pcs_get (l : List (Nat × Nat)) : ∀ (i : Nat) (h : i < l.length), (pcs l)[i * 2]? = some (.int .i64 (l[i].1 : Int)) ∧ (pcs l)[i * 2 + 1]? = some (.int .i64 (l[i].2 : Int)) := by
  induction l with
  | nil => intro i h; simp at h
  | cons x l ih =>
    intro i h
    have e : pcs (x :: l) = .int .i64 (x.1 : Int) :: .int .i64 (x.2 : Int) :: pcs l := rfl
    rw [e]
    cases i with
    | zero => exact ⟨rfl, rfl⟩
    | succ i =>
      have := ih i (by simpa using h)
      rw [show (i + 1) * 2 = i * 2 + 2 by omega]
      exact this
theorem toI_get (l : List (Nat × Nat)) (i : Nat) (h : i < (toI l).length) : (toI l)[i] = (((l[i]'(by rw [toI_length] at h; exact h)).1 : Int), ((l[i]'(by rw [toI_length] at h; exact h)).2 : Int)) := by simp [toI]
theorem OwnP.spans {w : World} {base : Nat} {v : Value} {l : List (Nat × Nat)} (h : OwnP w base v l) : ∃ a0 c, v = .slice a0 (toI l).length c ∧ SpansAt w.heap.size w a0 (toI l) := by
  rw [toI_length]
  rcases (show World.ownsRow _ _ _ _ _ _ _ from h).2 with ⟨rfl, h0⟩ | ⟨g, cap, cur, rfl, _, hg, hnc, hcm, hcs, htake⟩
  · exact ⟨none, 0, by rw [h0], fun i hi => absurd hi (by rw [toI_length]; omega)⟩
  · refine ⟨some ⟨g, 0, none⟩, cap, rfl, fun i hi => ⟨g, 0, rfl, ⟨lt_of_block hg, _, _, _, hg⟩, ?_, ?_⟩⟩
    · have hi' : i < l.length := by rw [toI_length] at hi; exact hi
      have h1 := (pcs_get l i hi').1
      rw [← htake, List.getElem?_take, if_pos (by omega)] at h1
      rw [Nat.zero_add, cell_of_row _ _ _ _ _ (0, 0) hg, toI_get]
      simpa using h1
    · have hi' : i < l.length := by rw [toI_length] at hi; exact hi
      have h1 := (pcs_get l i hi').2
      rw [← htake, List.getElem?_take, if_pos (by omega)] at h1
      rw [Nat.zero_add, cell_of_row _ _ _ _ _ (0, 0) hg, toI_get]
      simpa using h1
theorem lit6i (w : World) (a b c d e f : Int) (t : TypeId) : Ints (w.alloc (.cells #[.int .i64 a, .int .i64 b, .int .i64 c, .int .i64 d, .int .i64 e, .int .i64 f] t)) (some ⟨w.heap.size, 0, none⟩) [a, b, c, d, e, f] := by
  have hb := heap_alloc_new w (.cells #[.int .i64 a, .int .i64 b, .int .i64 c, .int .i64 d, .int .i64 e, .int .i64 f] t)
  intro i hi
  match i, hi with
  | 0, _ => exact ⟨_, _, rfl, by rw [cell_of_row _ _ _ _ t (0, 0) hb]; rfl⟩
  | 1, _ => exact ⟨_, _, rfl, by rw [cell_of_row _ _ _ _ t (0, 0) hb]; rfl⟩
  | 2, _ => exact ⟨_, _, rfl, by rw [cell_of_row _ _ _ _ t (0, 0) hb]; rfl⟩
  | 3, _ => exact ⟨_, _, rfl, by rw [cell_of_row _ _ _ _ t (0, 0) hb]; rfl⟩
  | 4, _ => exact ⟨_, _, rfl, by rw [cell_of_row _ _ _ _ t (0, 0) hb]; rfl⟩
  | 5, _ => exact ⟨_, _, rfl, by rw [cell_of_row _ _ _ _ t (0, 0) hb]; rfl⟩
set_option maxRecDepth 100000 in
set_option maxHeartbeats 1000000 in
theorem ruawake_any (w : World) : Calls Tryd.prog 9 #[] w fun e w' => e = .returned (.bool true) ∧ Below w.heap.size w w' := by
  have ho := hide (fun w a0 c hT => of_any 10 [0, 1, 2, 5, 7, 8] a0 c w hT (by decide))
  have hp := hide (fun w => pack_any 10 [167, 1] w (by unfold maxLen; decide))
  have ht := hide (fun w => text_any 99 (by decide) 10 [167, 1] (by decide) w (by unfold maxLen; decide) (itoaOk_small w))
  rw [ex_of.1, ex_of.2, show bs [167, 1] = ⟨#[167, 1]⟩ from rfl] at ho
  rw [ex_pack.1, ex_pack.2, show bs [167, 1] = ⟨#[167, 1]⟩ from rfl, show bs [0, 3, 2, 1, 1, 2] = ⟨#[0, 3, 2, 1, 1, 2]⟩ from rfl] at hp
  rw [ex_text, ex_ofs, show bs [167, 1] = ⟨#[167, 1]⟩ from rfl, show bs [48, 45, 50, 44, 53, 44, 55, 45, 56] = ⟨#[48, 45, 50, 44, 53, 44, 55, 45, 56]⟩ from rfl] at ht
  go_enter Tryd.func9, Tryd.ntmps9
  go_wp2_with fail
  have ba : Below w.heap.size w (w.alloc (.cells #[.int .i64 0, .int .i64 1, .int .i64 2, .int .i64 5, .int .i64 7, .int .i64 8] 3)) := (Below.refl _ _).alloc (Nat.le_refl _) _
  refine (unhide ho _ _ _ (lit6i w 0 1 2 5 7 8 3)).mono ?_
  rintro e w1 ⟨rfl, b1⟩
  have B1 := hide (ba.trans (b1.mono ba.size))
  clear b1 ba
  go_wp2_with fail
  refine (unhide hp _).mono ?_
  rintro e w2 ⟨rfl, b2⟩
  have B2 := hide ((unhide B1).trans (b2.mono (unhide B1).size))
  clear b2 B1
  go_wp2_with fail
  refine (unhide ht _).mono ?_
  rintro e w3 ⟨rfl, b3⟩
  have B3 := hide ((unhide B2).trans (b3.mono (unhide B2).size))
  clear b3 B2
  go_wp2
  go_ret
  exact ⟨rfl, unhide B3⟩
end Go.Proofs.YtbodklppgcloiaaDoor

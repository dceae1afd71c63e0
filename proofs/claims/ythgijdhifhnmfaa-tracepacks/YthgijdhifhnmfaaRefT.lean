
/- Contracts of the document's own reader's Text, Left and End. -/
import Derived.Test.YthgijdhifhnmfaaRefR
import Derived.Test.YthgijdhifhnmfaaRefVt
namespace Go.Proofs.Ythgijdhifhnmfaa
open Go.RowKit
set_option linter.unusedVariables false

theorem row_set {w : World} {b j : Nat} {cs : Array Value} {t : TypeId} {x : Value} (h : w.heap[b]? = some (.cells cs t (0, 0))) : (w.setCell ⟨b, j, none⟩ x).heap[b]? = some (.cells (cs.setIfInBounds j x) t (0, 0)) := by
  have hlt := lt_of_block h
  have h' : w.heap[b] = .cells cs t (0, 0) := by simpa [Array.getElem?_eq_getElem hlt] using h
  show (w.heap.modify b _)[b]? = _
  rw [Array.getElem?_eq_getElem (by simpa using hlt), Array.getElem_modify_self, h']
  simp
theorem four_set {w : World} {b : Nat} {u0 u1 u2 u3 x y z v : Value} {t : TypeId} (h : w.heap[b]? = some (.cells #[u0, u1, u2, u3] t (0, 0))) :
    ((((w.setCell ⟨b, 0, none⟩ x).setCell ⟨b, 1, none⟩ y).setCell ⟨b, 2, none⟩ z).setCell ⟨b, 3, none⟩ v).heap[b]? = some (.cells #[x, y, z, v] t (0, 0)) := row_set (row_set (row_set (row_set h)))
theorem cells_of_four {w : World} {b : Nat} {u0 u1 u2 u3 : Value} {t : TypeId} (h : w.heap[b]? = some (.cells #[u0, u1, u2, u3] t (0, 0))) : w.cell? ⟨b, 0, none⟩ = some u0 ∧ w.cell? ⟨b, 1, none⟩ = some u1 ∧ w.cell? ⟨b, 2, none⟩ = some u2 ∧ w.cell? ⟨b, 3, none⟩ = some u3 := by
  refine ⟨?_, ?_, ?_, ?_⟩ <;> simp [World.cell?, h]
theorem free_of_four {w : World} {b j : Nat} {u0 u1 u2 u3 : Value} {t : TypeId} (h : w.heap[b]? = some (.cells #[u0, u1, u2, u3] t (0, 0))) : w.frozen? ⟨b, j, none⟩ = false := by simp [World.frozen?, h]

/-- what the document's Text reads -/
def textQ (p : ByteArray × Int) : ByteArray × (ByteArray × Int) :=
  if (text p).2.2 ≠ 0 then (⟨#[]⟩, (p.1, (text p).2.2)) else text p

set_option maxHeartbeats 1000000 in
theorem qtext_any (p : ByteArray × Int) (w : World) (hs : p.1.size ≤ maxLen) :
    Calls Try.prog 33 #[vV p] w fun x w' => x = .returned (gV 0 (textQ p).1 (textQ p).2) ∧ Below w.heap.size w w' := by
  have hl := num_le p 2
  have hn := hide (fun w => qnum_any p 2 w hs)
  have hr := hide (fun w => qraw_any (num p 2).2 (num p 2).1 w (by omega))
  unfold textQ text
  generalize raw (num p 2).2 (num p 2).1 = r at *
  generalize num p 2 = m at *
  obtain ⟨t, S2, E2⟩ := r
  obtain ⟨n, S1, E1⟩ := m
  obtain ⟨S, E⟩ := p
  unfold vV gV at *
  simp only at hn hr ⊢
  clear hl hs
  obtain ⟨R, hR⟩ : ∃ R : ByteArray × (ByteArray × Int), R = if E2 ≠ 0 then (⟨#[]⟩, (S, E2)) else (t, (S2, E2)) := ⟨_, rfl⟩
  rw [← hR]
  have HR := hide hR
  clear hR
  go_enter Try.func33, Try.ntmps33
  go_wp2_with fail
  refine (unhide hn _).mono ?_
  rintro e w1 ⟨rfl, b1⟩
  have r0 : w1.heap[w.heap.size]? = some (.cells #[.string S, .int .i64 E] 63 (0, 0)) := (b1.block _ (by simp; omega)).trans (heap2_a _ _ _)
  have r1 : w1.heap[w.heap.size + 1]? = some (.cells #[.string ⟨#[]⟩, .int .i64 0, .int .i64 0, .string ⟨#[]⟩] 65 (0, 0)) := (b1.block _ (by simp)).trans (heap2_b _ _ _)
  have B1 : Hid (Below w.heap.size w w1) := (below2 _ _ _).trans (b1.mono (by simp; omega))
  have R0 := hide r0
  have R1 := hide r1
  clear r0 r1 b1 hn
  go_wp2_with fail
  refine (unhide hr _).mono ?_
  rintro e w2 ⟨rfl, b2⟩
  have l1 := lt_of_block (unhide R1)
  have b2' : Below w1.heap.size w1 w2 := ((Below.refl _ _).alloc (Nat.le_refl _) _).trans (b2.mono (by simp))
  have r0 : w2.heap[w.heap.size]? = some (.cells #[.string S, .int .i64 E] 63 (0, 0)) := (b2'.block _ (by omega)).trans (unhide R0)
  have r1 : w2.heap[w.heap.size + 1]? = some (.cells #[.string ⟨#[]⟩, .int .i64 0, .int .i64 0, .string ⟨#[]⟩] 65 (0, 0)) := (b2'.block _ l1).trans (unhide R1)
  have B2 := hide ((unhide B1).trans (b2'.mono (unhide B1).size))
  clear b2 b2' hr R0 R1 B1
  obtain ⟨W, hW⟩ : ∃ W, W = w2.alloc (.cells #[.string S2, .int .i64 E2, .int .i64 0, .string t] 65) := ⟨_, rfl⟩
  have l2 := lt_of_block r1
  have s0 : (w2.alloc (.cells #[.string S2, .int .i64 E2, .int .i64 0, .string t] 65)).heap[w.heap.size]? = some _ := (Below.heap_alloc w2 _ _ (by omega)).trans r0
  have s1 : (w2.alloc (.cells #[.string S2, .int .i64 E2, .int .i64 0, .string t] 65)).heap[w.heap.size + 1]? = some _ := (Below.heap_alloc w2 _ _ l2).trans r1
  have c0 := cell0_of_two s0
  have S1' := hide s1
  clear s0 s1 r0 r1 hW
  by_cases e0 : E2 = 0
  · subst e0
    go_wp2_with (refine wpList_store_mid rfl 65 (.tmp 2) (.tmp 23) rfl (w.heap.size + 1) 0 #[.string S2, .int .i64 0, .int .i64 0, .string t] rfl rfl ?ht3 ?hi3 ?h13 ?_)
    case ht3 => have h := there_row (unhide S1'); exact h
    case hi3 => kernel_rfl
    case h13 => exact (all_oneCell_toArray (by intro u hu; simp at hu; rcases hu with rfl | rfl | rfl | rfl <;> rfl))
    exact ret_cell rfl (w.heap.size + 1) 65 #[.string S2, .int .i64 0, .int .i64 0, .string t] (0, 0) _ rfl (four_set (unhide S1')) rfl Try.underlying65 (by kernel_rfl) ⟨by rw [unhide HR, if_neg (show ¬ (0 : Int) ≠ 0 by simp)], (((((unhide B2).alloc (unhide B2).size _).setCell (by simp) _).setCell (by simp) _).setCell (by simp) _).setCell (by simp) _⟩
  · have ne0 : (E2 != 0) = true := by simpa using e0
    have hRe : R = (⟨#[]⟩, (S, E2)) := by rw [unhide HR, if_pos e0]
    have HRE := hide hRe
    clear e0 hRe
    go_wp2_with (refine wpList_store_mid rfl 65 (.tmp 2) (.tmp 22) rfl (w.heap.size + 1) 0 #[.string S, .int .i64 E2, .int .i64 0, .string ⟨#[]⟩] rfl rfl ?ht3 ?hi3 ?h13 ?_)
    case ht3 => have h := there_row (unhide S1'); exact h
    case hi3 => kernel_rfl
    case h13 => exact (all_oneCell_toArray (by intro u hu; simp at hu; rcases hu with rfl | rfl | rfl | rfl <;> rfl))
    exact ret_cell rfl (w.heap.size + 1) 65 #[.string S, .int .i64 E2, .int .i64 0, .string ⟨#[]⟩] (0, 0) _ rfl (four_set (unhide S1')) rfl Try.underlying65 (by kernel_rfl) ⟨by rw [unhide HRE], (((((unhide B2).alloc (unhide B2).size _).setCell (by simp) _).setCell (by simp) _).setCell (by simp) _).setCell (by simp) _⟩

theorem qend_any (p : ByteArray × Int) (w : World) :
    Calls Try.prog 34 #[vV p] w fun x w' => x = .returned (.int .i64 (atEnd p)) ∧ Below w.heap.size w w' := by
  obtain ⟨S, E⟩ := p
  unfold vV atEnd
  simp only
  by_cases e0 : E = 0
  · subst e0
    by_cases hz : 0 < S.size
    · rw [if_pos ⟨rfl, hz⟩]
      have hS : S.toList.isEmpty = false := by
        rw [ByteArray.toList_eq]
        cases h : S.data.toList with
        | nil => have := blen S; rw [h] at this; simp at this; omega
        | cons a l => rfl
      go_enter Try.func34, Try.ntmps34
      go_wp2
      go_ret
      exact ⟨rfl, (Below.refl _ _).alloc (Nat.le_refl _) _⟩
    · rw [if_neg (by rintro ⟨_, h⟩; exact hz h)]
      have hS : S = ⟨#[]⟩ := by
        have h : S.data.toList = [] := List.eq_nil_of_length_eq_zero (by rw [blen]; omega)
        obtain ⟨⟨l⟩⟩ := S
        simp at h
        subst h
        rfl
      subst hS
      clear hz
      go_enter Try.func34, Try.ntmps34
      go_wp2
      go_ret
      exact ⟨rfl, (Below.refl _ _).alloc (Nat.le_refl _) _⟩
  · rw [if_neg (by rintro ⟨h, _⟩; exact e0 h)]
    have ne0 : (E == 0) = false := by simpa using e0
    clear e0
    go_enter Try.func34, Try.ntmps34
    go_wp2
    go_ret
    exact ⟨rfl, (Below.refl _ _).alloc (Nat.le_refl _) _⟩

end Go.Proofs.Ythgijdhifhnmfaa


/- Contracts of oct's writer once more, with what they spare: every block but the writer's own that is no row of bytes. -/
import Derived.Test.YtbodklppgcloiaaDoorOctW
namespace Go.Proofs.YtbodklppgcloiaaDoor
open Go.RowKit
set_option linter.unusedVariables false

theorem lt_of_cells {w : World} {i : Nat} {o : Obj} (h : w.heap[i]? = some o) : i < w.heap.size := by
  rcases Nat.lt_or_ge i w.heap.size with h' | h'
  · exact h'
  · rw [Array.getElem?_eq_none h'] at h; cases h
/-- every block but b, and but rows of bytes, is as it was -/
def Spares (b : Nat) (w w' : World) : Prop := ∀ x o, x ≠ b → (∀ cs fr, o ≠ Obj.cells cs 5 fr) → w.heap[x]? = some o → w'.heap[x]? = some o
theorem Spares.refl (b : Nat) (w : World) : Spares b w w := fun _ _ _ _ h => h
theorem Spares.trans {b : Nat} {x y z : World} (h : Spares b x y) (k : Spares b y z) : Spares b x z := fun i o h1 h2 h3 => k i o h1 h2 (h i o h1 h2 h3)
theorem Spares.of_below {b : Nat} {w w' : World} (h : Below w.heap.size w w') : Spares b w w' := fun i o _ _ h3 => (h.block i (lt_of_cells h3)).trans h3
theorem spares_set (w : World) (b j : Nat) (x : Value) : Spares b w (w.setCell ⟨b, j, none⟩ x) := fun i o h1 _ h3 => (Below.heap_setCell _ _ _ _ h1).trans h3
theorem spares_grown {w w1 : World} {b base n : Nat} {v : Value} {xs : List Value} (hown : w.ownsRow base 5 1 v n xs) (hgrow : w.grownBy w1 v.ownBlock) : Spares b w w1 := by
  intro i o h1 h2 h3
  refine (hgrow.block i (lt_of_cells h3) ?_).trans h3
  rcases hown.2 with ⟨rfl, _⟩ | ⟨g, cap', cur, rfl, _, hg, _⟩
  · simp [Value.ownBlock]
  · simp only [Value.ownBlock]
    intro hgb
    obtain rfl : i = g := by simpa using hgb
    rw [hg] at h3
    simp at h3
    exact h2 _ _ h3.symm

theorem wnote_s (w : World) (b base : Nat) (l : List UInt8) (err e : Int) (hW : WriterAt w b base l err) :
    Calls Tryd.prog 66 #[.pointer (some ⟨b, 0, none⟩), .int .i64 e] w fun x w' => x = .returned (.tuple #[]) ∧ WriterAt w' b base (wNote (l, err) e).1 (wNote (l, err) e).2 ∧ Kept base b w w' ∧ Spares b w w' := by
  obtain ⟨ao, cap, hh, hown⟩ := hW.ex
  have c1 := cell1_of_two hh
  have f1 := free_of_two (j := 1) hh
  by_cases h0 : err = 0
  · subst h0
    have k2 := two_set1 (x := .int .i64 e) hh
    have k3 := ownsRow_setCell_other hown (own_ne hh hown) (a := ⟨b, 1, none⟩) (.int .i64 e)
    have hfin : WriterAt (w.setCell ⟨b, 1, none⟩ (.int .i64 e)) b base l e := ⟨⟨ao, cap, k2, k3⟩⟩
    have HF : Hid (WriterAt (w.setCell ⟨b, 1, none⟩ (.int .i64 e)) b base l e) := hfin
    clear k2 k3 hown hh hfin hW
    go_enter Tryd.func66, Tryd.ntmps66
    go_wp2
    go_end0
    exact ⟨rfl, by simpa [wNote] using HF.out, kept_set _ _ _ _ _, spares_set _ _ _ _⟩
  · have hne : (err == 0) = false := by simpa using h0
    have HF : Hid (WriterAt w b base l err) := hW
    clear hown hh hW
    go_enter Tryd.func66, Tryd.ntmps66
    go_wp2
    go_end0
    exact ⟨rfl, by simpa [wNote, h0] using HF.out, Kept.refl _ _ _, Spares.refl _ _⟩

theorem wraw_s (w : World) (b base : Nat) (l : List UInt8) (err : Int) (s : ByteArray) (hs : s.size ≤ maxLen) (hl : l.length ≤ 65536) (hbase : base ≤ w.heap.size) (hb : b < base) (hW : WriterAt w b base l err) :
    Calls Tryd.prog 67 #[.pointer (some ⟨b, 0, none⟩), .string s] w fun x w' => x = .returned (.tuple #[]) ∧ WriterAt w' b base (wRaw (l, err) s.data.toList).1 (wRaw (l, err) s.data.toList).2 ∧ Kept base b w w' ∧ Spares b w w' := by
  unfold maxLen at hs
  obtain ⟨ao, cap, hh, hown⟩ := hW.ex
  have c0 := cell0_of_two hh
  have c1 := cell1_of_two hh
  have f0 := free_of_two (j := 0) hh
  have hsl : s.data.toList.length = s.size := by simp
  by_cases h0 : err = 0
  · subst h0
    by_cases hlt : (65536 : Int) - l.length < s.size
    · have HF : Hid (WriterAt w b base l 0) := hW
      have hr : wRaw (l, 0) s.data.toList = wNote (l, 0) 2 := by simp [wRaw, wNote]; omega
      rw [hr]
      clear hown hh hW hr hsl
      go_enter Tryd.func67, Tryd.ntmps67
      go_wp2_with (go_at_call 66; refine (wnote_s w b base l 0 2 HF.out).mono ?_; rintro e w' ⟨rfl, h1, h2⟩)
      refine bodyPost_ret (results_none rfl _ _ _) rfl ?_
      exact ⟨rfl, h1, h2⟩
    · obtain ⟨i0, hi, hz0, hz1, hz2⟩ := info_parts Tryd.info5
      have hr : wRaw (l, 0) s.data.toList = (l ++ s.data.toList, 0) := by simp [wRaw]; omega
      rw [hr]
      have HH : Hid (w.heap[b]? = some (.cells #[.slice ao l.length cap, .int .i64 0] 83 (0, 0))) := hh
      clear hh hW hr
      go_enter Tryd.func67, Tryd.ntmps67
      go_wp2_with (at_builtin; go_loud (refine Lib.wpList_append_own_string _ rfl _ _ 75 9 rfl base 5 i0 Tryd.und27 (by kernel_rfl) hi hz0 hz1 hz2 _ _ _ rfl hown s rfl ?c1 ?c2 hbase ?_))
      case c1 => unfold maxLen; omega
      case c2 => omega
      intro v' w1 hown' hgrow _
      rw [bc_str, ← hsl] at hown'
      obtain ⟨ao', cap', rfl⟩ := own_shape hown'
      obtain ⟨k1, k2, k3⟩ := writer_grown hb hbase HH.out hown hown' hgrow
      have k4 : Spares b w (w1.setCell ⟨b, 0, none⟩ _) := (spares_grown hown hgrow).trans (spares_set w1 b 0 (Value.slice ao' (l.length + s.data.toList.length) cap'))
      have c0' := cell0_of_two k1
      have f0' := free_of_two (j := 0) k1
      have K2 : Hid (WriterAt (w1.setCell ⟨b, 0, none⟩ _) b base (l ++ s.data.toList) 0) := k2
      clear k1 k2 hown hown' hgrow hsl c0 c1 f0
      go_wp2
      go_end0
      exact ⟨rfl, K2.out, k3, k4⟩
  · have hne : (err != 0) = true := by simpa using h0
    have HF : Hid (WriterAt w b base l err) := hW
    have hr : wRaw (l, err) s.data.toList = (l, err) := by simp [wRaw, h0]
    rw [hr]
    clear hown hh hW hsl hr
    go_enter Tryd.func67, Tryd.ntmps67
    go_wp2
    refine bodyPost_ret (results_none rfl _ _ _) rfl ?_
    exact ⟨rfl, HF.out, Kept.refl _ _ _, Spares.refl _ _⟩

theorem wnum_s (w : World) (b base : Nat) (l : List UInt8) (err n size : Int) (hl : l.length ≤ 65536) (hbase : base ≤ w.heap.size) (hb : b < base) (hW : WriterAt w b base l err) :
    Calls Tryd.prog 42 #[.pointer (some ⟨b, 0, none⟩), .int .i64 n, .int .i64 size] w fun x w' => x = .returned (.tuple #[]) ∧ WriterAt w' b base (wNum (l, err) n size).1 (wNum (l, err) n size).2 ∧ Kept base b w w' ∧ Spares b w w' := by
  have hp := put_any n size w
  have hlen := putS_length n size
  unfold wNum
  generalize (putS n size).1 = t at *
  generalize (putS n size).2 = er at *
  have HP := hide hp
  clear hp
  by_cases h0 : er = 0
  · subst h0
    simp only [ne_eq, not_true_eq_false, if_false]
    go_enter Tryd.func42, Tryd.ntmps42
    go_wp2_with fail
    refine (unhide HP).mono ?_
    rintro e w1 ⟨rfl, hb1⟩
    have hz := hb1.size
    have hW1 := hide (hW.below hb1)
    go_wp2_with fail
    refine (wraw_s w1 b base l err ⟨t.toArray⟩ (by unfold maxLen; simp [ByteArray.size]; omega) hl (by omega) hb (unhide hW1)).mono ?_
    rintro e w2 ⟨rfl, h1, h2⟩
    go_wp2
    go_end0
    exact ⟨rfl, h1, (Kept.of_below (hb1.mono (by omega))).trans h2.1, (Spares.of_below hb1).trans h2.2⟩
  · have hne : (er != 0) = true := by simpa using h0
    rw [if_pos h0]
    go_enter Tryd.func42, Tryd.ntmps42
    go_wp2_with fail
    refine (unhide HP).mono ?_
    rintro e w1 ⟨rfl, hb1⟩
    have hW1 := hide (hW.below hb1)
    go_wp2_with fail
    refine (wnote_s w1 b base l err er (unhide hW1)).mono ?_
    rintro e w2 ⟨rfl, h1, h2⟩
    go_wp2
    refine bodyPost_ret (results_none rfl _ _ _) rfl ?_
    exact ⟨rfl, h1, (Kept.of_below (hb1.mono (by omega))).trans h2.1, (Spares.of_below hb1).trans h2.2⟩

end Go.Proofs.YtbodklppgcloiaaDoor

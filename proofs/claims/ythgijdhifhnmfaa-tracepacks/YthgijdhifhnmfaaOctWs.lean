/- Contracts of oct's writer once more, with what they spare: every block but the writer's own that is no row of bytes. -/
import Derived.Test.YthgijdhifhnmfaaOctW
namespace Go.Proofs.Ythgijdhifhnmfaa
open Go.RowKit
set_option linter.unusedVariables false

theorem lt_of_cells {w : World} {i : Nat} {o : Obj} (h : w.heap[i]? = some o) : i < w.heap.size := by
  rcases Nat.lt_or_ge i w.heap.size with h' | h'
  · exact h'
  · rw [Array.getElem?_eq_none h'] at h; cases h
/-- every block but b, and but rows of bytes, is as it was -/
def Spares (b : Nat) (w w' : World) : Prop := ∀ x cs t fr, x ≠ b → t ≠ 5 → w.heap[x]? = some (.cells cs t fr) → w'.heap[x]? = some (.cells cs t fr)
theorem Spares.refl (b : Nat) (w : World) : Spares b w w := fun _ _ _ _ _ _ h => h
theorem Spares.trans {b : Nat} {x y z : World} (h : Spares b x y) (k : Spares b y z) : Spares b x z := fun i cs t fr h1 h2 h3 => k i cs t fr h1 h2 (h i cs t fr h1 h2 h3)
theorem Spares.of_below {b : Nat} {w w' : World} (h : Below w.heap.size w w') : Spares b w w' := fun i cs t fr _ _ h3 => (h.block i (lt_of_cells h3)).trans h3
theorem spares_set (w : World) (b j : Nat) (x : Value) : Spares b w (w.setCell ⟨b, j, none⟩ x) := fun i cs t fr h1 _ h3 => (Below.heap_setCell _ _ _ _ h1).trans h3
theorem spares_grown {w w1 : World} {b base n : Nat} {v : Value} {xs : List Value} (hown : w.ownsRow base 5 1 v n xs) (hgrow : w.grownBy w1 v.ownBlock) : Spares b w w1 := by
  intro i cs t fr h1 h2 h3
  refine (hgrow.block i (lt_of_cells h3) ?_).trans h3
  rcases hown.2 with ⟨rfl, _⟩ | ⟨g, cap', cur, rfl, _, hg, _⟩
  · simp [Value.ownBlock]
  · simp only [Value.ownBlock]
    intro hgb
    obtain rfl : i = g := by simpa using hgb
    rw [hg] at h3
    simp at h3
    exact h2 h3.2.1.symm

theorem wnote_s (w : World) (b base : Nat) (l : List UInt8) (err e : Int) (hW : WriterAt w b base l err) :
    Calls Try.prog 40 #[.pointer (some ⟨b, 0, none⟩), .int .i64 e] w fun x w' => x = .returned (.tuple #[]) ∧ WriterAt w' b base (wNote (l, err) e).1 (wNote (l, err) e).2 ∧ Kept base b w w' ∧ Spares b w w' := by
  obtain ⟨ao, cap, hh, hown⟩ := hW.ex
  have c1 := cell1_of_two hh
  have f1 := free_of_two (j := 1) hh
  by_cases h0 : err = 0
  · subst h0
    have k2 := two_set1 (x := .int .i64 e) hh
    have k3 := ownsRow_setCell_other hown (own_ne hh hown) (a := ⟨b, 1, none⟩) (.int .i64 e)
    have hfin : WriterAt (w.setCell ⟨b, 1, none⟩ (.int .i64 e)) b base l e := ⟨⟨ao, cap, k2, k3⟩⟩
    have HF : Hid (WriterAt (w.setCell ⟨b, 1, none⟩ (.int .i64 e)) b base l e) := hfin
    clear k2 k3 hown hh hfin hW
    go_enter Try.func40, Try.ntmps40
    go_wp2
    go_end0
    exact ⟨rfl, by simpa [wNote] using HF.out, kept_set _ _ _ _ _, spares_set _ _ _ _⟩
  · have hne : (err == 0) = false := by simpa using h0
    have HF : Hid (WriterAt w b base l err) := hW
    clear hown hh hW
    go_enter Try.func40, Try.ntmps40
    go_wp2
    go_end0
    exact ⟨rfl, by simpa [wNote, h0] using HF.out, Kept.refl _ _ _, Spares.refl _ _⟩

theorem wraw_s (w : World) (b base : Nat) (l : List UInt8) (err : Int) (s : ByteArray) (hs : s.size ≤ maxLen) (hl : l.length ≤ 65536) (hbase : base ≤ w.heap.size) (hb : b < base) (hW : WriterAt w b base l err) :
    Calls Try.prog 21 #[.pointer (some ⟨b, 0, none⟩), .string s] w fun x w' => x = .returned (.tuple #[]) ∧ WriterAt w' b base (wRaw (l, err) s.data.toList).1 (wRaw (l, err) s.data.toList).2 ∧ Kept base b w w' ∧ Spares b w w' := by
  unfold maxLen at hs
  obtain ⟨ao, cap, hh, hown⟩ := hW.ex
  have c0 := cell0_of_two hh
  have c1 := cell1_of_two hh
  have f0 := free_of_two (j := 0) hh
  have hsl : s.data.toList.length = s.size := by simp
  by_cases h0 : err = 0
  · subst h0
    by_cases hlt : (65536 : Int) - l.length < s.size
    · have HF : Hid (WriterAt w b base l 0) := hW
      have hr : wRaw (l, 0) s.data.toList = wNote (l, 0) 2 := by simp [wRaw, wNote]; omega
      rw [hr]
      clear hown hh hW hr hsl
      go_enter Try.func21, Try.ntmps21
      go_wp2_with (go_at_call 40; refine (wnote_s w b base l 0 2 HF.out).mono ?_; rintro e w' ⟨rfl, h1, h2⟩)
      refine bodyPost_ret (results_none rfl _ _ _) rfl ?_
      exact ⟨rfl, h1, h2⟩
    · obtain ⟨i0, hi, hz0, hz1, hz2⟩ := info_parts Try.info5
      have hr : wRaw (l, 0) s.data.toList = (l ++ s.data.toList, 0) := by simp [wRaw]; omega
      rw [hr]
      have HH : Hid (w.heap[b]? = some (.cells #[.slice ao l.length cap, .int .i64 0] 75 (0, 0))) := hh
      clear hh hW hr
      go_enter Try.func21, Try.ntmps21
      go_wp2_with (at_builtin; go_loud (refine Lib.wpList_append_own_string _ rfl _ _ 73 9 rfl base 5 i0 Try.und27 (by kernel_rfl) hi hz0 hz1 hz2 _ _ _ rfl hown s rfl ?c1 ?c2 hbase ?_))
      case c1 => unfold maxLen; omega
      case c2 => omega
      intro v' w1 hown' hgrow _
      rw [bc_str, ← hsl] at hown'
      obtain ⟨ao', cap', rfl⟩ := own_shape hown'
      obtain ⟨k1, k2, k3⟩ := writer_grown hb hbase HH.out hown hown' hgrow
      have k4 : Spares b w (w1.setCell ⟨b, 0, none⟩ _) := (spares_grown hown hgrow).trans (spares_set w1 b 0 (Value.slice ao' (l.length + s.data.toList.length) cap'))
      have c0' := cell0_of_two k1
      have f0' := free_of_two (j := 0) k1
      have K2 : Hid (WriterAt (w1.setCell ⟨b, 0, none⟩ _) b base (l ++ s.data.toList) 0) := k2
      clear k1 k2 hown hown' hgrow hsl c0 c1 f0
      go_wp2
      go_end0
      exact ⟨rfl, K2.out, k3, k4⟩
  · have hne : (err != 0) = true := by simpa using h0
    have HF : Hid (WriterAt w b base l err) := hW
    have hr : wRaw (l, err) s.data.toList = (l, err) := by simp [wRaw, h0]
    rw [hr]
    clear hown hh hW hsl hr
    go_enter Try.func21, Try.ntmps21
    go_wp2
    refine bodyPost_ret (results_none rfl _ _ _) rfl ?_
    exact ⟨rfl, HF.out, Kept.refl _ _ _, Spares.refl _ _⟩

theorem wnum_s (w : World) (b base : Nat) (l : List UInt8) (err n size : Int) (hl : l.length ≤ 65536) (hbase : base ≤ w.heap.size) (hb : b < base) (hW : WriterAt w b base l err) :
    Calls Try.prog 22 #[.pointer (some ⟨b, 0, none⟩), .int .i64 n, .int .i64 size] w fun x w' => x = .returned (.tuple #[]) ∧ WriterAt w' b base (wNum (l, err) n size).1 (wNum (l, err) n size).2 ∧ Kept base b w w' ∧ Spares b w w' := by
  have hp := put_any n size w
  have hlen := putS_length n size
  unfold wNum
  generalize (putS n size).1 = t at *
  generalize (putS n size).2 = er at *
  have HP := hide hp
  clear hp
  by_cases h0 : er = 0
  · subst h0
    simp only [ne_eq, not_true_eq_false, if_false]
    go_enter Try.func22, Try.ntmps22
    go_wp2_with fail
    refine (unhide HP).mono ?_
    rintro e w1 ⟨rfl, hb1⟩
    have hz := hb1.size
    have hW1 := hide (hW.below hb1)
    go_wp2_with fail
    refine (wraw_s w1 b base l err ⟨t.toArray⟩ (by unfold maxLen; simp [ByteArray.size]; omega) hl (by omega) hb (unhide hW1)).mono ?_
    rintro e w2 ⟨rfl, h1, h2⟩
    go_wp2
    go_end0
    exact ⟨rfl, h1, (Kept.of_below (hb1.mono (by omega))).trans h2.1, (Spares.of_below hb1).trans h2.2⟩
  · have hne : (er != 0) = true := by simpa using h0
    rw [if_pos h0]
    go_enter Try.func22, Try.ntmps22
    go_wp2_with fail
    refine (unhide HP).mono ?_
    rintro e w1 ⟨rfl, hb1⟩
    have hW1 := hide (hW.below hb1)
    go_wp2_with fail
    refine (wnote_s w1 b base l err er (unhide hW1)).mono ?_
    rintro e w2 ⟨rfl, h1, h2⟩
    go_wp2
    refine bodyPost_ret (results_none rfl _ _ _) rfl ?_
    exact ⟨rfl, h1, (Kept.of_below (hb1.mono (by omega))).trans h2.1, (Spares.of_below hb1).trans h2.2⟩

theorem wtext_s (w : World) (b base : Nat) (l : List UInt8) (err : Int) (s : ByteArray) (hs : s.size ≤ maxLen) (hl : l.length ≤ 65536) (hbase : base ≤ w.heap.size) (hb : b < base) (hW : WriterAt w b base l err) :
    Calls Try.prog 23 #[.pointer (some ⟨b, 0, none⟩), .string s] w fun x w' => x = .returned (.tuple #[]) ∧ WriterAt w' b base (wText (l, err) s.data.toList).1 (wText (l, err) s.data.toList).2 ∧ Kept base b w w' ∧ Spares b w w' := by
  have hsl : s.data.toList.length = s.size := by simp
  unfold wText
  rw [hsl]
  have HW := hide hW
  have HL := hide hsl
  clear hW hsl
  by_cases hlt : 65535 < s.size
  · rw [if_pos hlt]
    have h' : (65535 : Int) < s.size := by omega
    unfold maxLen at hs
    go_enter Try.func23, Try.ntmps23
    go_wp2_with fail
    refine (wnote_s w b base l err 2 (unhide HW)).mono ?_
    rintro e w2 ⟨rfl, h1, h2⟩
    go_wp2
    refine bodyPost_ret (results_none rfl _ _ _) rfl ?_
    exact ⟨rfl, h1, h2⟩
  · rw [if_neg hlt]
    have h' : ¬ (65535 : Int) < s.size := by omega
    have hle := wNum_le (p := (l, err)) hl s.size 2
    go_enter Try.func23, Try.ntmps23
    go_wp2_with fail
    refine (wnum_s w b base l err s.size 2 hl hbase hb (unhide HW)).mono ?_
    rintro e w1 ⟨rfl, h1, h2⟩
    have hz := h2.1.size
    have H1 := hide h1
    clear h1
    go_wp2_with fail
    refine (wraw_s w1 b base _ _ s hs hle (by omega) hb (unhide H1)).mono ?_
    rintro e w2 ⟨rfl, h3, h4⟩
    go_wp2
    go_end0
    exact ⟨rfl, h3, h2.1.trans h4.1, h2.2.trans h4.2⟩

end Go.Proofs.Ythgijdhifhnmfaa

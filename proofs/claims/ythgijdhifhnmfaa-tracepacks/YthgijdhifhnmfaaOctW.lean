/- Contracts of oct's writer: To, note, Raw, Num, Text, Bytes. -/
import Derived.Test.YthgijdhifhnmfaaOctA
import Derived.BigQuiet
namespace Go.Proofs.Ythgijdhifhnmfaa
open Go.RowKit
set_option linter.unusedVariables false

/-- block b is a writer that has written l, its error err; its row of bytes lies at base or above -/
structure WriterAt (w : World) (b base : Nat) (l : List UInt8) (err : Int) : Prop where
  ex : ∃ ao cap, w.heap[b]? = some (.cells #[.slice ao l.length cap, .int .i64 err] 75 (0, 0)) ∧ w.ownsRow base 5 1 (.slice ao l.length cap) l.length (bc l)

theorem cell0_of_two {w : World} {b : Nat} {u v : Value} {t : TypeId} (h : w.heap[b]? = some (.cells #[u, v] t (0, 0))) : w.cell? ⟨b, 0, none⟩ = some u := by simp [World.cell?, h]
theorem cell1_of_two {w : World} {b : Nat} {u v : Value} {t : TypeId} (h : w.heap[b]? = some (.cells #[u, v] t (0, 0))) : w.cell? ⟨b, 1, none⟩ = some v := by simp [World.cell?, h]
theorem free_of_two {w : World} {b j : Nat} {u v : Value} {t : TypeId} (h : w.heap[b]? = some (.cells #[u, v] t (0, 0))) : w.frozen? ⟨b, j, none⟩ = false := by simp [World.frozen?, h]
theorem two_set0 {w : World} {b : Nat} {u v x : Value} {t : TypeId} (h : w.heap[b]? = some (.cells #[u, v] t (0, 0))) : (w.setCell ⟨b, 0, none⟩ x).heap[b]? = some (.cells #[x, v] t (0, 0)) := by
  have hlt := lt_of_block h
  have h' : w.heap[b] = .cells #[u, v] t (0, 0) := by simpa [Array.getElem?_eq_getElem hlt] using h
  show (w.heap.modify b _)[b]? = _
  rw [Array.getElem?_eq_getElem (by simpa using hlt), Array.getElem_modify_self, h']
  rfl
theorem two_set1 {w : World} {b : Nat} {u v x : Value} {t : TypeId} (h : w.heap[b]? = some (.cells #[u, v] t (0, 0))) : (w.setCell ⟨b, 1, none⟩ x).heap[b]? = some (.cells #[u, x] t (0, 0)) := by
  have hlt := lt_of_block h
  have h' : w.heap[b] = .cells #[u, v] t (0, 0) := by simpa [Array.getElem?_eq_getElem hlt] using h
  show (w.heap.modify b _)[b]? = _
  rw [Array.getElem?_eq_getElem (by simpa using hlt), Array.getElem_modify_self, h']
  rfl
/-- what a writer is behind Raw(s) -/
def wRaw (p : List UInt8 × Int) (s : List UInt8) : List UInt8 × Int :=
  if p.2 ≠ 0 then p else if 65536 < p.1.length + s.length then (p.1, 2) else (p.1 ++ s, 0)
/-- what a writer is when an error is noted -/
def wNote (p : List UInt8 × Int) (e : Int) : List UInt8 × Int := if p.2 ≠ 0 then p else (p.1, e)

theorem own_ne {w : World} {base b : Nat} {n : Nat} {ao : Option Addr} {cap : Nat} {xs : List Value} {u v : Value} (hh : w.heap[b]? = some (.cells #[u, v] 75 (0, 0))) (hown : w.ownsRow base 5 1 (.slice ao n cap) n xs) : (Value.slice ao n cap).ownBlock ≠ some b := by
  rcases hown.2 with ⟨h', _⟩ | ⟨g, cap', cur, h', _, hg, _⟩
  · simp at h'
    simp [Value.ownBlock, h'.1]
  · simp at h'
    rw [h'.1]
    simp only [Value.ownBlock]
    intro hgb
    simp at hgb
    subst hgb
    rw [hg] at hh
    simp at hh
theorem own_shape {w : World} {base n : Nat} {e : TypeId} {v : Value} {xs : List Value} (hown : w.ownsRow base e 1 v n xs) : ∃ ao cap, v = .slice ao n cap := by
  rcases hown.2 with ⟨h', h0⟩ | ⟨g, cap', cur, h', _⟩
  · exact ⟨none, 0, by rw [h', h0]⟩
  · exact ⟨_, _, h'⟩
/-- a writer whose row was appended to, and whose field was then stored -/
theorem writer_grown {w w1 : World} {b base : Nat} {l m : List UInt8} {ao : Option Addr} {cap : Nat} {v' : Value} {err : Int} (hb : b < base) (hbase : base ≤ w.heap.size) (hh : w.heap[b]? = some (.cells #[.slice ao l.length cap, .int .i64 err] 75 (0, 0)))
    (hown : w.ownsRow base 5 1 (.slice ao l.length cap) l.length (bc l)) (hown' : w1.ownsRow base 5 1 v' (l.length + m.length) (bc l ++ bc m)) (hgrow : w.grownBy w1 (Value.slice ao l.length cap).ownBlock) :
    w1.heap[b]? = some (.cells #[.slice ao l.length cap, .int .i64 err] 75 (0, 0)) ∧ WriterAt (w1.setCell ⟨b, 0, none⟩ v') b base (l ++ m) err ∧ Kept base b w (w1.setCell ⟨b, 0, none⟩ v') := by
  have e1 : w1.heap[b]? = some (.cells #[.slice ao l.length cap, .int .i64 err] 75 (0, 0)) := (hgrow.block b (by omega) (fun h => own_ne hh hown h.symm)).trans hh
  obtain ⟨ao', cap', rfl⟩ := own_shape hown'
  refine ⟨e1, ⟨⟨ao', cap', ?_, ?_⟩⟩, ?_⟩
  · rw [List.length_append]
    exact two_set0 e1
  · rw [List.length_append, bc_append]
    exact ownsRow_setCell_other hown' (own_ne e1 hown') _
  · refine ⟨hgrow.os, hgrow.tape, hgrow.output, ?_, ?_⟩
    · have := hgrow.size
      simp
      omega
    · intro k hk hn
      rw [Below.heap_setCell _ _ _ _ hn]
      refine hgrow.block k (by omega) ?_
      rcases hown.2 with ⟨h', _⟩ | ⟨g, cap', cur, h', hg, _⟩
      · simp at h'
        simp [Value.ownBlock, h'.1]
      · simp at h'
        rw [h'.1]
        simp only [Value.ownBlock]
        intro e
        simp at e
        omega

set_option maxRecDepth 100000 in
theorem wnote_any (w : World) (b base : Nat) (l : List UInt8) (err e : Int) (hW : WriterAt w b base l err) :
    Calls Try.prog 40 #[.pointer (some ⟨b, 0, none⟩), .int .i64 e] w fun x w' => x = .returned (.tuple #[]) ∧ WriterAt w' b base (wNote (l, err) e).1 (wNote (l, err) e).2 ∧ Kept base b w w' := by
  obtain ⟨ao, cap, hh, hown⟩ := hW.ex
  have c1 := cell1_of_two hh
  have f1 := free_of_two (j := 1) hh
  by_cases h0 : err = 0
  · subst h0
    have k2 := two_set1 (x := .int .i64 e) hh
    have k3 := ownsRow_setCell_other hown (own_ne hh hown) (a := ⟨b, 1, none⟩) (.int .i64 e)
    have hfin : WriterAt (w.setCell ⟨b, 1, none⟩ (.int .i64 e)) b base l e := ⟨⟨ao, cap, k2, k3⟩⟩
    have HF : Hid (WriterAt (w.setCell ⟨b, 1, none⟩ (.int .i64 e)) b base l e) := hfin
    clear k2 k3 hown hh hfin hW
    go_enter Try.func40, Try.ntmps40
    go_wp2
    go_end0
    exact ⟨rfl, by simpa [wNote] using HF.out, kept_set _ _ _ _ _⟩
  · have hne : (err == 0) = false := by simpa using h0
    have HF : Hid (WriterAt w b base l err) := hW
    clear hown hh hW
    go_enter Try.func40, Try.ntmps40
    go_wp2
    go_end0
    exact ⟨rfl, by simpa [wNote, h0] using HF.out, Kept.refl _ _ _⟩

set_option maxRecDepth 100000 in
theorem wnote_nil (w : World) (e : Int) :
    Calls Try.prog 40 #[.pointer none, .int .i64 e] w fun x w' => x = .returned (.tuple #[]) ∧ w = w' := by
  go_enter Try.func40, Try.ntmps40
  go_wp2
  go_end0
  exact ⟨rfl, rfl⟩

set_option maxRecDepth 100000 in
theorem wraw_nil (w : World) (s : ByteArray) :
    Calls Try.prog 21 #[.pointer none, .string s] w fun x w' => x = .returned (.tuple #[]) ∧ w = w' := by
  go_enter Try.func21, Try.ntmps21
  go_wp2
  refine bodyPost_ret (results_none rfl _ _ _) rfl ?_
  exact ⟨rfl, rfl⟩

set_option maxRecDepth 100000 in
theorem wraw_any (w : World) (b base : Nat) (l : List UInt8) (err : Int) (s : ByteArray) (hs : s.size ≤ maxLen) (hl : l.length ≤ 65536) (hbase : base ≤ w.heap.size) (hb : b < base) (hW : WriterAt w b base l err) :
    Calls Try.prog 21 #[.pointer (some ⟨b, 0, none⟩), .string s] w fun x w' => x = .returned (.tuple #[]) ∧ WriterAt w' b base (wRaw (l, err) s.data.toList).1 (wRaw (l, err) s.data.toList).2 ∧ Kept base b w w' := by
  unfold maxLen at hs
  obtain ⟨ao, cap, hh, hown⟩ := hW.ex
  have c0 := cell0_of_two hh
  have c1 := cell1_of_two hh
  have f0 := free_of_two (j := 0) hh
  have hsl : s.data.toList.length = s.size := by simp
  by_cases h0 : err = 0
  · subst h0
    by_cases hlt : (65536 : Int) - l.length < s.size
    · have HF : Hid (WriterAt w b base l 0) := hW
      have hr : wRaw (l, 0) s.data.toList = wNote (l, 0) 2 := by simp [wRaw, wNote]; omega
      rw [hr]
      clear hown hh hW hr hsl
      go_enter Try.func21, Try.ntmps21
      go_wp2_with (go_at_call 40; refine (wnote_any w b base l 0 2 HF.out).mono ?_; rintro e w' ⟨rfl, h1, h2⟩)
      refine bodyPost_ret (results_none rfl _ _ _) rfl ?_
      exact ⟨rfl, h1, h2⟩
    · obtain ⟨i0, hi, hz0, hz1, hz2⟩ := info_parts Try.info5
      have hr : wRaw (l, 0) s.data.toList = (l ++ s.data.toList, 0) := by simp [wRaw]; omega
      rw [hr]
      have HH : Hid (w.heap[b]? = some (.cells #[.slice ao l.length cap, .int .i64 0] 75 (0, 0))) := hh
      clear hh hW hr
      go_enter Try.func21, Try.ntmps21
      go_wp2_with (at_builtin; go_loud (refine Lib.wpList_append_own_string _ rfl _ _ 73 9 rfl base 5 i0 Try.und27 (by kernel_rfl) hi hz0 hz1 hz2 _ _ _ rfl hown s rfl ?c1 ?c2 hbase ?_))
      case c1 => unfold maxLen; omega
      case c2 => omega
      intro v' w1 hown' hgrow _
      rw [bc_str, ← hsl] at hown'
      obtain ⟨ao', cap', rfl⟩ := own_shape hown'
      obtain ⟨k1, k2, k3⟩ := writer_grown hb hbase HH.out hown hown' hgrow
      have c0' := cell0_of_two k1
      have f0' := free_of_two (j := 0) k1
      have K2 : Hid (WriterAt (w1.setCell ⟨b, 0, none⟩ _) b base (l ++ s.data.toList) 0) := k2
      clear k1 k2 hown hown' hgrow hsl c0 c1 f0
      go_wp2
      go_end0
      exact ⟨rfl, K2.out, k3⟩
  · have hne : (err != 0) = true := by simpa using h0
    have HF : Hid (WriterAt w b base l err) := hW
    have hr : wRaw (l, err) s.data.toList = (l, err) := by simp [wRaw, h0]
    rw [hr]
    clear hown hh hW hsl hr
    go_enter Try.func21, Try.ntmps21
    go_wp2
    refine bodyPost_ret (results_none rfl _ _ _) rfl ?_
    exact ⟨rfl, HF.out, Kept.refl _ _ _⟩

set_option maxRecDepth 100000 in
theorem to_any (w : World) :
    Calls Try.prog 20 #[] w fun x w' => x = .returned (.pointer (some ⟨w.heap.size, 0, none⟩)) ∧ (∀ base, w.heap.size < base → WriterAt w' w.heap.size base [] 0) ∧ w' = w.alloc (.cells #[.slice none 0 0, .int .i64 0] 75) := by
  go_enter Try.func20, Try.ntmps20
  go_wp2
  go_ret
  refine ⟨rfl, fun base _ => ⟨⟨none, 0, heap_alloc_new _ _, World.ownsRow_nil _ _ _ _⟩⟩, rfl⟩

set_option maxRecDepth 100000 in
theorem bytes_nil (w : World) :
    Calls Try.prog 24 #[.pointer none] w fun x w' => x = .returned (.tuple #[.string ⟨#[]⟩, .int .i64 1]) ∧ w = w' := by
  go_enter Try.func24, Try.ntmps24
  go_wp2
  go_ret2
  exact ⟨rfl, rfl⟩

set_option maxRecDepth 100000 in
theorem bytes_any (w : World) (b base : Nat) (l : List UInt8) (err : Int) (hW : WriterAt w b base l err) :
    Calls Try.prog 24 #[.pointer (some ⟨b, 0, none⟩)] w fun x w' => x = .returned (.tuple #[.string (if err = 0 then ⟨l.toArray⟩ else ⟨#[]⟩), .int .i64 err]) ∧ ∃ n, w' = w.drewN n := by
  obtain ⟨ao, cap, hh, hown⟩ := hW.ex
  have c0 := cell0_of_two hh
  have c1 := cell1_of_two hh
  have hcv := run_string_own (P := Try.prog) 73 9 Try.und27 (by kernel_rfl) (by kernel_rfl) hown
  clear hown hh hW
  by_cases h0 : err = 0
  · subst h0
    go_enter Try.func24, Try.ntmps24
    go_wp2
    go_ret2
    exact ⟨by simp, 0, rfl⟩
  · have hne : (err != 0) = true := by simpa using h0
    rw [if_neg h0]
    clear h0
    go_enter Try.func24, Try.ntmps24
    go_wp2
    go_quiet (fail)
    go_wp2
    go_ret2
    exact ⟨rfl, _, rfl⟩

theorem own_below {w w' : World} {base n : Nat} {e : TypeId} {v : Value} {xs : List Value} (h : w.ownsRow base e 1 v n xs) (hb : Below w.heap.size w w') : w'.ownsRow base e 1 v n xs := by
  refine ⟨h.1, ?_⟩
  rcases h.2 with h2 | ⟨g, cap, cur, hv, hg, hh, r⟩
  · exact .inl h2
  · exact .inr ⟨g, cap, cur, hv, hg, (hb.block g (lt_of_block hh)).trans hh, r⟩
theorem WriterAt.below {w w' : World} {b base : Nat} {l : List UInt8} {err : Int} (h : WriterAt w b base l err) (hb : Below w.heap.size w w') : WriterAt w' b base l err := by
  obtain ⟨ao, cap, hh, hown⟩ := h.ex
  exact ⟨⟨ao, cap, (hb.block b (lt_of_block hh)).trans hh, own_below hown hb⟩⟩

/-- what a writer is behind Num and Text -/
def wNum (p : List UInt8 × Int) (n size : Int) : List UInt8 × Int := if (putS n size).2 ≠ 0 then wNote p (putS n size).2 else wRaw p (putS n size).1
def wText (p : List UInt8 × Int) (s : List UInt8) : List UInt8 × Int := if 65535 < s.length then wNote p 2 else wRaw (wNum p s.length 2) s

theorem wNote_le {p : List UInt8 × Int} (h : p.1.length ≤ 65536) (e : Int) : (wNote p e).1.length ≤ 65536 := by unfold wNote; split <;> exact h
theorem wRaw_le {p : List UInt8 × Int} (h : p.1.length ≤ 65536) (s : List UInt8) : (wRaw p s).1.length ≤ 65536 := by
  unfold wRaw
  split
  · exact h
  · split
    · exact h
    · simp only [List.length_append]; omega
theorem wNum_le {p : List UInt8 × Int} (h : p.1.length ≤ 65536) (n size : Int) : (wNum p n size).1.length ≤ 65536 := by
  unfold wNum
  split
  · exact wNote_le h _
  · exact wRaw_le h _
theorem wText_le {p : List UInt8 × Int} (h : p.1.length ≤ 65536) (s : List UInt8) : (wText p s).1.length ≤ 65536 := by
  unfold wText
  split
  · exact wNote_le h _
  · exact wRaw_le (wNum_le h _ _) _

set_option maxRecDepth 100000 in
theorem wnum_any (w : World) (b base : Nat) (l : List UInt8) (err n size : Int) (hl : l.length ≤ 65536) (hbase : base ≤ w.heap.size) (hb : b < base) (hW : WriterAt w b base l err) :
    Calls Try.prog 22 #[.pointer (some ⟨b, 0, none⟩), .int .i64 n, .int .i64 size] w fun x w' => x = .returned (.tuple #[]) ∧ WriterAt w' b base (wNum (l, err) n size).1 (wNum (l, err) n size).2 ∧ Kept base b w w' := by
  have hp := put_any n size w
  have hlen := putS_length n size
  unfold wNum
  generalize (putS n size).1 = t at *
  generalize (putS n size).2 = er at *
  have HP := hide hp
  clear hp
  by_cases h0 : er = 0
  · subst h0
    simp only [ne_eq, not_true_eq_false, if_false]
    go_enter Try.func22, Try.ntmps22
    go_wp2_with fail
    refine (unhide HP).mono ?_
    rintro e w1 ⟨rfl, hb1⟩
    have hz := hb1.size
    have hW1 := hide (hW.below hb1)
    go_wp2_with fail
    refine (wraw_any w1 b base l err ⟨t.toArray⟩ (by unfold maxLen; simp [ByteArray.size]; omega) hl (by omega) hb (unhide hW1)).mono ?_
    rintro e w2 ⟨rfl, h1, h2⟩
    go_wp2
    go_end0
    exact ⟨rfl, h1, (Kept.of_below (hb1.mono (by omega))).trans h2⟩
  · have hne : (er != 0) = true := by simpa using h0
    rw [if_pos h0]
    go_enter Try.func22, Try.ntmps22
    go_wp2_with fail
    refine (unhide HP).mono ?_
    rintro e w1 ⟨rfl, hb1⟩
    have hW1 := hide (hW.below hb1)
    go_wp2_with fail
    refine (wnote_any w1 b base l err er (unhide hW1)).mono ?_
    rintro e w2 ⟨rfl, h1, h2⟩
    go_wp2
    refine bodyPost_ret (results_none rfl _ _ _) rfl ?_
    exact ⟨rfl, h1, (Kept.of_below (hb1.mono (by omega))).trans h2⟩

set_option maxRecDepth 100000 in
theorem wtext_any (w : World) (b base : Nat) (l : List UInt8) (err : Int) (s : ByteArray) (hs : s.size ≤ maxLen) (hl : l.length ≤ 65536) (hbase : base ≤ w.heap.size) (hb : b < base) (hW : WriterAt w b base l err) :
    Calls Try.prog 23 #[.pointer (some ⟨b, 0, none⟩), .string s] w fun x w' => x = .returned (.tuple #[]) ∧ WriterAt w' b base (wText (l, err) s.data.toList).1 (wText (l, err) s.data.toList).2 ∧ Kept base b w w' := by
  have hsl : s.data.toList.length = s.size := by simp
  unfold wText
  rw [hsl]
  have HW := hide hW
  have HL := hide hsl
  clear hW hsl
  by_cases hlt : 65535 < s.size
  · rw [if_pos hlt]
    have h' : (65535 : Int) < s.size := by omega
    unfold maxLen at hs
    go_enter Try.func23, Try.ntmps23
    go_wp2_with fail
    refine (wnote_any w b base l err 2 (unhide HW)).mono ?_
    rintro e w2 ⟨rfl, h1, h2⟩
    go_wp2
    refine bodyPost_ret (results_none rfl _ _ _) rfl ?_
    exact ⟨rfl, h1, h2⟩
  · rw [if_neg hlt]
    have h' : ¬ (65535 : Int) < s.size := by omega
    have hle := wNum_le (p := (l, err)) hl s.size 2
    go_enter Try.func23, Try.ntmps23
    go_wp2_with fail
    refine (wnum_any w b base l err s.size 2 hl hbase hb (unhide HW)).mono ?_
    rintro e w1 ⟨rfl, h1, h2⟩
    have hz := h2.size
    have H1 := hide h1
    clear h1
    go_wp2_with fail
    refine (wraw_any w1 b base _ _ s hs hle (by omega) hb (unhide H1)).mono ?_
    rintro e w2 ⟨rfl, h3, h4⟩
    go_wp2
    go_end0
    exact ⟨rfl, h3, h2.trans h4⟩

end Go.Proofs.Ythgijdhifhnmfaa

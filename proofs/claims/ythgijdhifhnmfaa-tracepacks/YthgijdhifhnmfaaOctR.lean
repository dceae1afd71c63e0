
/- Contracts of oct's reader: From, Err, Left, note, Raw, Num, Text, Rest, End. -/
import Derived.Test.YthgijdhifhnmfaaOctG
namespace Go.Proofs.Ythgijdhifhnmfaa
open Go.RowKit
set_option linter.unusedVariables false

/-- block b is a reader: what is left, and its error -/
def RdAt (w : World) (b : Nat) (p : ByteArray × Int) : Prop := w.heap[b]? = some (.cells #[.string p.1, .int .i64 p.2] 80 (0, 0))
/-- what Raw reads, and what the reader is behind it -/
def raw (p : ByteArray × Int) (n : Int) : ByteArray × (ByteArray × Int) :=
  if p.2 ≠ 0 then (⟨#[]⟩, p) else if n < 0 then (⟨#[]⟩, (p.1, 1)) else if (p.1.size : Int) < n then (⟨#[]⟩, (p.1, 7)) else (p.1.extract 0 n.toNat, (p.1.extract n.toNat p.1.size, 0))
/-- what Num reads -/
def num (p : ByteArray × Int) (size : Int) : Int × (ByteArray × Int) :=
  if p.2 ≠ 0 then (0, p) else if size < 1 ∨ 7 < size then (0, (p.1, 1)) else (getV (raw p size).1.data.toList, (raw p size).2)
/-- what Text reads -/
def text (p : ByteArray × Int) : ByteArray × (ByteArray × Int) := raw (num p 2).2 (num p 2).1
/-- how many bytes are left -/
def left (p : ByteArray × Int) : Int := if p.2 ≠ 0 then 0 else p.1.size
/-- what End answers -/
def atEnd (p : ByteArray × Int) : Int := if p.2 = 0 ∧ 0 < p.1.size then 3 else p.2
def rNote (p : ByteArray × Int) (e : Int) : ByteArray × Int := if p.2 ≠ 0 then p else (p.1, e)

theorem raw_le (p : ByteArray × Int) (n : Int) : (raw p n).1.size ≤ p.1.size ∧ (raw p n).2.1.size ≤ p.1.size := by
  unfold raw
  have e0 : (⟨#[]⟩ : ByteArray).size = 0 := rfl
  split
  · simp only [e0]; omega
  · split
    · simp only [e0]; omega
    · split
      · simp only [e0]; omega
      · simp only [ByteArray.size_extract]; omega
theorem num_le (p : ByteArray × Int) (n : Int) : (num p n).2.1.size ≤ p.1.size := by
  unfold num
  split
  · exact Nat.le_refl _
  · split
    · exact Nat.le_refl _
    · exact (raw_le p n).2
theorem raw_lt8 (p : ByteArray × Int) (n : Int) (h : n ≤ 7) : (raw p n).1.size ≤ 7 := by
  unfold raw
  have e0 : (⟨#[]⟩ : ByteArray).size = 0 := rfl
  split
  · simp only [e0]; omega
  · split
    · simp only [e0]; omega
    · split
      · simp only [e0]; omega
      · simp only [ByteArray.size_extract]; omega

theorem from_any (s : ByteArray) (w : World) :
    Calls Try.prog 27 #[.string s] w fun x w' => x = .returned (.pointer (some ⟨w.heap.size, 0, none⟩)) ∧ RdAt w' w.heap.size (s, 0) ∧ w' = w.alloc (.cells #[.string s, .int .i64 0] 80) := by
  go_enter Try.func27, Try.ntmps27
  go_wp2
  go_ret
  exact ⟨rfl, heap_alloc_new _ _, rfl⟩
theorem rerr_any (w : World) (b : Nat) (p : ByteArray × Int) (h : RdAt w b p) :
    Calls Try.prog 45 #[.pointer (some ⟨b, 0, none⟩)] w fun x w' => x = .returned (.int .i64 p.2) ∧ w = w' := by
  have c1 := cell1_of_two h
  clear h
  go_enter Try.func45, Try.ntmps45
  go_wp2
  go_ret
  exact ⟨rfl, rfl⟩
theorem rleft_any (w : World) (b : Nat) (p : ByteArray × Int) (h : RdAt w b p) :
    Calls Try.prog 44 #[.pointer (some ⟨b, 0, none⟩)] w fun x w' => x = .returned (.int .i64 (left p)) ∧ w = w' := by
  have c0 := cell0_of_two h
  have he := hide (rerr_any w b p h)
  unfold left
  by_cases e0 : p.2 = 0
  · rw [if_neg (by simpa using e0)]
    rw [e0] at he
    clear h
    go_enter Try.func44, Try.ntmps44
    go_wp2_with fail
    refine (unhide he).mono ?_
    rintro e w1 ⟨rfl, rfl⟩
    go_wp2
    go_ret
    exact ⟨rfl, rfl⟩
  · rw [if_pos e0]
    have ne0 : (p.2 != 0) = true := by simpa using e0
    clear h
    go_enter Try.func44, Try.ntmps44
    go_wp2_with fail
    refine (unhide he).mono ?_
    rintro e w1 ⟨rfl, rfl⟩
    go_wp2
    go_ret
    exact ⟨rfl, rfl⟩
theorem rnote_any (w : World) (b : Nat) (p : ByteArray × Int) (e : Int) (h : RdAt w b p) :
    Calls Try.prog 43 #[.pointer (some ⟨b, 0, none⟩), .int .i64 e] w fun x w' => x = .returned (.tuple #[]) ∧ RdAt w' b (rNote p e) ∧ Kept w.heap.size b w w' := by
  have c1 := cell1_of_two h
  have f1 := free_of_two (j := 1) h
  have he := hide (rerr_any w b p h)
  have HH := hide h
  clear h
  unfold rNote
  by_cases e0 : p.2 = 0
  · rw [if_neg (by simpa using e0)]
    rw [e0] at he
    go_enter Try.func43, Try.ntmps43
    go_wp2_with fail
    refine (unhide he).mono ?_
    rintro e w1 ⟨rfl, rfl⟩
    go_wp2
    go_end0
    exact ⟨rfl, two_set1 (unhide HH), kept_set _ _ _ _ _⟩
  · rw [if_pos e0]
    have ne0 : (p.2 == 0) = false := by simpa using e0
    go_enter Try.func43, Try.ntmps43
    go_wp2_with fail
    refine (unhide he).mono ?_
    rintro e w1 ⟨rfl, rfl⟩
    go_wp2
    go_end0
    exact ⟨rfl, unhide HH, Kept.refl _ _ _⟩

theorem rraw_any (w : World) (b : Nat) (p : ByteArray × Int) (n : Int) (hp : p.1.size ≤ maxLen) (h : RdAt w b p) :
    Calls Try.prog 28 #[.pointer (some ⟨b, 0, none⟩), .int .i64 n] w fun x w' => x = .returned (.string (raw p n).1) ∧ RdAt w' b (raw p n).2 ∧ Kept w.heap.size b w w' := by
  unfold maxLen at hp
  obtain ⟨s, er⟩ := p
  simp only at hp
  have HH := hide h
  clear h
  unfold raw
  simp only
  by_cases e0 : er = 0
  · subst e0
    rw [if_neg (show ¬ (0 : Int) ≠ 0 by simp)]
    by_cases hn : n < 0
    · rw [if_pos hn]
      have hno := hide (rnote_any w b (s, 0) 1 (unhide HH))
      go_enter Try.func28, Try.ntmps28
      go_wp2_with fail
      refine (unhide hno).mono ?_
      rintro e w1 ⟨rfl, h1, k1⟩
      have H1 : Hid (RdAt w1 b (s, 1)) := h1
      clear h1
      go_wp2_with fail
      refine (rerr_any w1 b _ (unhide H1)).mono ?_
      rintro e w2 ⟨rfl, rfl⟩
      go_wp2
      go_ret
      exact ⟨rfl, unhide H1, k1⟩
    · rw [if_neg hn]
      have hle := hide (rleft_any w b (s, 0) (unhide HH))
      unfold left at hle
      rw [if_neg (by simp)] at hle
      simp only at hle
      by_cases hb : (s.size : Int) < n
      · rw [if_pos hb]
        have hno := hide (rnote_any w b (s, 0) 7 (unhide HH))
        go_enter Try.func28, Try.ntmps28
        go_wp2_with fail
        refine (unhide hle).mono ?_
        rintro e w1 ⟨rfl, rfl⟩
        go_wp2_with fail
        refine (unhide hno).mono ?_
        rintro e w1 ⟨rfl, h1, k1⟩
        have H1 : Hid (RdAt w1 b (s, 7)) := h1
        clear h1
        go_wp2_with fail
        refine (rerr_any w1 b _ (unhide H1)).mono ?_
        rintro e w2 ⟨rfl, rfl⟩
        go_wp2
        go_ret
        exact ⟨rfl, unhide H1, k1⟩
      · rw [if_neg hb]
        obtain ⟨m, rfl⟩ := Int.eq_ofNat_of_zero_le (show 0 ≤ n by omega)
        rw [Int.toNat_natCast]
        have c0 := cell0_of_two (unhide HH)
        have f0 := free_of_two (j := 0) (unhide HH)
        have her := hide (rerr_any w b _ (unhide HH))
        have hmb : (m : Int) ≤ s.size := by omega
        go_enter Try.func28, Try.ntmps28
        go_wp2_with fail
        refine (unhide hle).mono ?_
        rintro e w1 ⟨rfl, rfl⟩
        go_wp2_with fail
        refine (unhide her).mono ?_
        rintro e w1 ⟨rfl, rfl⟩
        go_wp2
        go_ret
        exact ⟨rfl, two_set0 (unhide HH), kept_set _ _ _ _ _⟩
  · rw [if_pos e0]
    have ne0 : (er != 0) = true := by simpa using e0
    have her := hide (rerr_any w b _ (unhide HH))
    simp only at her
    by_cases hn : n < 0
    · have hno := hide (rnote_any w b (s, er) 1 (unhide HH))
      unfold rNote at hno
      rw [if_pos e0] at hno
      go_enter Try.func28, Try.ntmps28
      go_wp2_with fail
      refine (unhide hno).mono ?_
      rintro e w1 ⟨rfl, h1, k1⟩
      have H1 := hide h1
      clear h1
      go_wp2_with fail
      refine (rerr_any w1 b _ (unhide H1)).mono ?_
      rintro e w2 ⟨rfl, rfl⟩
      go_wp2
      go_ret
      exact ⟨rfl, unhide H1, k1⟩
    · have hle := hide (rleft_any w b (s, er) (unhide HH))
      unfold left at hle
      rw [if_pos e0] at hle
      by_cases hb : (0 : Int) < n
      · have hno := hide (rnote_any w b (s, er) 7 (unhide HH))
        unfold rNote at hno
        rw [if_pos e0] at hno
        go_enter Try.func28, Try.ntmps28
        go_wp2_with fail
        refine (unhide hle).mono ?_
        rintro e w1 ⟨rfl, rfl⟩
        go_wp2_with fail
        refine (unhide hno).mono ?_
        rintro e w1 ⟨rfl, h1, k1⟩
        have H1 := hide h1
        clear h1
        go_wp2_with fail
        refine (rerr_any w1 b _ (unhide H1)).mono ?_
        rintro e w2 ⟨rfl, rfl⟩
        go_wp2
        go_ret
        exact ⟨rfl, unhide H1, k1⟩
      · go_enter Try.func28, Try.ntmps28
        go_wp2_with fail
        refine (unhide hle).mono ?_
        rintro e w1 ⟨rfl, rfl⟩
        go_wp2_with fail
        refine (unhide her).mono ?_
        rintro e w1 ⟨rfl, rfl⟩
        go_wp2
        go_ret
        exact ⟨rfl, unhide HH, Kept.refl _ _ _⟩

theorem rnum_any (w : World) (b : Nat) (p : ByteArray × Int) (n : Int) (hp : p.1.size ≤ maxLen) (h : RdAt w b p) :
    Calls Try.prog 29 #[.pointer (some ⟨b, 0, none⟩), .int .i64 n] w fun x w' => x = .returned (.int .i64 (num p n).1) ∧ RdAt w' b (num p n).2 ∧ Kept w.heap.size b w w' := by
  have HH := hide h
  clear h
  by_cases hs : n < 1 ∨ 7 < n
  · have hno := hide (rnote_any w b p 1 (unhide HH))
    have e : num p n = (0, rNote p 1) := by
      unfold num rNote
      by_cases e0 : p.2 = 0
      · rw [if_neg (by simpa using e0), if_pos hs, if_neg (by simpa using e0)]
      · rw [if_pos e0, if_pos e0]
    rw [e]
    clear e
    go_enter Try.func29, Try.ntmps29
    go_wp2_with fail
    refine (isSize_no n w hs).mono ?_
    rintro e w1 ⟨rfl, rfl⟩
    go_wp2_with fail
    refine (unhide hno).mono ?_
    rintro e w1 ⟨rfl, h1⟩
    have H1 := hide h1
    clear h1
    go_wp2
    go_ret
    exact ⟨rfl, unhide H1⟩
  · have hr := hide (rraw_any w b p n hp (unhide HH))
    have e : num p n = (getV (raw p n).1.data.toList, (raw p n).2) := by
      unfold num
      by_cases e0 : p.2 = 0
      · rw [if_neg (by simpa using e0), if_neg hs]
      · rw [if_pos e0]
        unfold raw
        rw [if_pos e0]
        rfl
    rw [e]
    clear e
    have hl := raw_lt8 p n (by omega)
    generalize raw p n = r at *
    obtain ⟨t, p'⟩ := r
    go_enter Try.func29, Try.ntmps29
    go_wp2_with fail
    refine (isSize_yes n w (by omega) (by omega)).mono ?_
    rintro e w1 ⟨rfl, rfl⟩
    go_wp2_with fail
    refine (unhide hr).mono ?_
    rintro e w1 ⟨rfl, h1⟩
    have H1 := hide h1
    clear h1
    go_wp2_with fail
    refine (get_any t w1 hl).mono ?_
    rintro e w2 ⟨rfl, rfl⟩
    go_wp2
    go_ret
    exact ⟨rfl, unhide H1⟩

theorem rtext_any (w : World) (b : Nat) (p : ByteArray × Int) (hp : p.1.size ≤ maxLen) (h : RdAt w b p) :
    Calls Try.prog 30 #[.pointer (some ⟨b, 0, none⟩)] w fun x w' => x = .returned (.string (text p).1) ∧ RdAt w' b (text p).2 ∧ Kept w.heap.size b w w' := by
  have hn := hide (rnum_any w b p 2 hp h)
  have hl := num_le p 2
  have hr := hide (fun w' => rraw_any w' b (num p 2).2 (num p 2).1 (by omega))
  unfold text
  generalize raw (num p 2).2 (num p 2).1 = r at *
  obtain ⟨t, p'⟩ := r
  generalize num p 2 = m at *
  obtain ⟨n, p1⟩ := m
  clear h hl hp
  go_enter Try.func30, Try.ntmps30
  go_wp2_with fail
  refine (unhide hn).mono ?_
  rintro e w1 ⟨rfl, h1, k1⟩
  have H1 := hide h1
  have K1 := hide k1
  clear h1 k1
  go_wp2_with fail
  refine (unhide hr w1 (unhide H1)).mono ?_
  rintro e w2 ⟨rfl, h2, k2⟩
  have H2 := hide h2
  have K2 := hide ((unhide K1).trans (k2.mono (unhide K1).size))
  clear h2 k2
  go_wp2
  go_ret
  exact ⟨rfl, unhide H2, unhide K2⟩
theorem rend_any (w : World) (b : Nat) (p : ByteArray × Int) (hp : p.1.size ≤ maxLen) (h : RdAt w b p) :
    Calls Try.prog 31 #[.pointer (some ⟨b, 0, none⟩)] w fun x w' => x = .returned (.int .i64 (atEnd p)) ∧ w = w' := by
  have he := hide (rerr_any w b p h)
  have hn := hide (rleft_any w b p h)
  obtain ⟨s, er⟩ := p
  unfold maxLen at hp
  unfold atEnd left at *
  simp only at *
  clear h
  by_cases e0 : er = 0
  · subst e0
    rw [if_neg (show ¬ (0 : Int) ≠ 0 by simp)] at hn
    by_cases hz : 0 < s.size
    · rw [if_pos ⟨rfl, hz⟩]
      have hz' : (0 : Int) < s.size := by omega
      go_enter Try.func31, Try.ntmps31
      go_wp2_with fail
      refine (unhide he).mono ?_
      rintro e w1 ⟨rfl, rfl⟩
      go_wp2_with fail
      refine (unhide hn).mono ?_
      rintro e w1 ⟨rfl, rfl⟩
      go_wp2
      go_ret
      exact ⟨rfl, rfl⟩
    · rw [if_neg (by rintro ⟨_, h⟩; exact hz h)]
      have hz' : ¬ (0 : Int) < s.size := by omega
      go_enter Try.func31, Try.ntmps31
      go_wp2_with fail
      refine (unhide he).mono ?_
      rintro e w1 ⟨rfl, rfl⟩
      go_wp2_with fail
      refine (unhide hn).mono ?_
      rintro e w1 ⟨rfl, rfl⟩
      go_wp2_with fail
      refine (unhide he).mono ?_
      rintro e w1 ⟨rfl, rfl⟩
      go_wp2
      go_ret
      exact ⟨rfl, rfl⟩
  · rw [if_neg (by rintro ⟨h, _⟩; exact e0 h)]
    have ne0 : (er == 0) = false := by simpa using e0
    clear e0
    go_enter Try.func31, Try.ntmps31
    go_wp2_with fail
    refine (unhide he).mono ?_
    rintro e w1 ⟨rfl, rfl⟩
    go_wp2_with fail
    refine (unhide he).mono ?_
    rintro e w1 ⟨rfl, rfl⟩
    go_wp2
    go_ret
    exact ⟨rfl, rfl⟩

end Go.Proofs.Ythgijdhifhnmfaa

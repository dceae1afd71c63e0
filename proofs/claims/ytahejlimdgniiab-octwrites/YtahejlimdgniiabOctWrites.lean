/- What the law OctWrites does, whatever the world and the fields: it answers true and changes nothing that was there. -/
import Derived.Test.YtahejlimdgniiabWrInv
import Derived.Test.YtahejlimdgniiabFlds
namespace Go.Proofs.Ytahejlimdgniiab
open Go.RowKit
set_option linter.unusedVariables false

theorem FldAt.spares {w w' : World} {g b : Nat} {f : Fld} (h : FldAt w g f) (hb : Spares b w w') (hne : g ≠ b) : FldAt w' g f := hb g _ _ _ hne (by decide) h

set_option maxHeartbeats 2000000 in
theorem octWrites_any (a0 : Option Addr) (len cap : Nat) (F : Nat → Fld) (w : World) (hF : FldsAt w a0 len F) (hlen : len ≤ maxLen) :
    Calls Try.prog 6 #[.slice a0 len cap] w fun e w' => e = .returned (.bool true) ∧ Below w.heap.size w w' := by
  unfold maxLen at hlen
  have HF := hide hF
  clear hF
  go_enter Try.func6, Try.ntmps6
  go_wp2_with fail
  refine (to_any w).mono ?_
  rintro e w1 ⟨rfl, hW, hw1⟩
  have hz1 : w1.heap.size = w.heap.size + 1 := by rw [hw1]; simp
  have b1 : Below w.heap.size w w1 := by rw [hw1]; exact (Below.refl _ _).alloc (Nat.le_refl _) _
  have HW1 := hide (fun base h => hW base h)
  have HZ1 := hide hz1
  have B1 := hide b1
  clear hW hw1 hz1 b1
  go_wp2_with fail
  refine (awake_any _).mono ?_
  rintro e w3 ⟨rfl, b3⟩
  have hI : WInv w w.heap.size w1.heap.size w3.heap.size w3 ([], 0) (⟨#[]⟩, 0) := by
    have z := b3.size
    simp at z
    have z1 := unhide HZ1
    have b2 := b3.mono (show w1.heap.size ≤ _ by simp)
    have b2' : Below w1.heap.size w1 w3 := ((Below.refl _ _).alloc (Nat.le_refl _) _).trans b2
    refine ⟨(unhide HW1 _ (by omega)).below b2', by simp, ?_, by decide, Nat.le_refl _, (unhide B1).trans (b2'.mono (by omega))⟩
    exact (b3.block _ (by simp)).trans (heap_alloc_new _ _)
  have g1 : w1.heap.size ≠ w.heap.size := by have := unhide HZ1; omega
  have g2 : w.heap.size ≤ w1.heap.size := by have := unhide HZ1; omega
  have g3 : w.heap.size < w3.heap.size := by have := hI.wr; have z := b3.size; simp at z; omega
  clear HW1 HZ1 B1 b3
  have HI := hide hI
  clear hI
  generalize w1.heap.size = g4 at *
  generalize w3.heap.size = base at *
  obtain ⟨bw, hbw⟩ : ∃ bw, bw = w.heap.size := ⟨_, rfl⟩
  have HBW := hide hbw
  clear hbw
  go_wp2
  go_loopw [5] (fun i wr => ∃ (k : Nat) (p : List UInt8 × Int) (q : ByteArray × Int), k ≤ 40 ∧ i = .int .i64 k ∧ Ag p q ∧ WInv w w.heap.size g4 base wr p q) (fun i _ => 40 - (intOf i).toNat)
  case atStart => exact ⟨0, ([], 0), (⟨#[]⟩, 0), by omega, rfl, ⟨rfl, fun _ => rfl⟩, unhide HI⟩
  case round =>
    clear HI
    obtain ⟨k, p, q, hk, rfl, hag, hI⟩ := hrel
    have HI := hide hI
    have HG := hide hag
    clear hI hag
    by_cases hlt : k < len ∧ k < 40
    · obtain ⟨hlt1, hlt2⟩ := hlt
      obtain ⟨b, off, rfl, hbl, ⟨c0, c1, c2, c3⟩, _, _, _, hs⟩ := unhide HF k hlt1
      rw [← (unhide HI).be.cell (p := ⟨b, off + k * 4, none⟩) hbl] at c0
      rw [← (unhide HI).be.cell (p := ⟨b, off + k * 4 + 1, none⟩) hbl] at c1
      rw [← (unhide HI).be.cell (p := ⟨b, off + k * 4 + 2, none⟩) hbl] at c2
      rw [← (unhide HI).be.cell (p := ⟨b, off + k * 4 + 3, none⟩) hbl] at c3
      generalize F k = f at *
      obtain ⟨fk, fn, fz, fs⟩ := f
      simp only at c0 c1 c2 c3 hs
      have q1 : (k : Int) < len := by omega
      have q2 : (k : Int) < 40 := by omega
      have xne : wr.heap.size ≠ w.heap.size := by have := (unhide HI).sz; omega
      have hsz : wr.heap.size ≠ g4 := Nat.ne_of_gt (lt_of_cells (unhide HI).rf)
      have hs' := hs
      unfold maxLen at hs'
      by_cases hbig : (70000 : Int) < fs.size
      · have I1 := hide ((unhide HI).below ((Below.refl wr.heap.size wr).alloc (Nat.le_refl _) (.cells #[.int .i64 fk, .int .i64 fn, .int .i64 fz, .string fs] 45)))
        go_wp2
        go_roundw
        case rel => exact ⟨k + 1, p, q, by omega, by go_num, unhide HG, unhide I1⟩
        case measure => simp [intOf]; omega
      · by_cases k0 : fk = 0
        · subst k0
          have I1 := hide ((unhide HI).below ((Below.refl wr.heap.size wr).alloc (Nat.le_refl _) (.cells #[.int .i64 0, .int .i64 fn, .int .i64 fz, .string fs] 45)))
          have X1 : Hid (FldAt (wr.alloc (.cells #[.int .i64 0, .int .i64 fn, .int .i64 fz, .string fs] 45)) wr.heap.size ⟨0, fn, fz, fs⟩) := heap_alloc_new _ _
          go_wp2_with fail
          refine (wnum_s (wr.alloc (.cells #[.int .i64 0, .int .i64 fn, .int .i64 fz, .string fs] 45)) w.heap.size base p.1 p.2 fn fz (unhide I1).lw (unhide I1).sz (by omega) (unhide I1).wr).mono ?_
          rintro e w4 ⟨rfl, hw4, hk4⟩
          have I4 := hide ((unhide I1).real g1 (Nat.le_refl _) (by omega) hw4 (wNum_le (unhide I1).lw fn fz) hk4)
          have X4 := (unhide X1).spares hk4.2 xne
          have A4 := hide (ag_num (unhide HG) fn fz)
          generalize wNum p fn fz = p4 at *
          have r4 := (unhide I4).rf
          have x4 := X4.cells
          obtain ⟨x0, x1, x2, x3⟩ := x4
          have d0 := cell0_of_two r4
          have d1 := cell1_of_two r4
          clear hw4 hk4 r4 I1 X1
          have hvc := hide (fun w => vnum_any q fn fz w (unhide I4).lr)
          unfold vV at hvc
          have hq5 := hide (vPut_le (unhide I4).lr ⟨(putS fn fz).1.toArray⟩ (putS fn fz).2)
          generalize vPut q ⟨(putS fn fz).1.toArray⟩ (putS fn fz).2 = q5 at *
          clear X4
          go_wp2_with fail
          refine (unhide hvc w4).mono ?_
          rintro e w5 ⟨rfl, b5⟩
          have I5 := hide ((unhide I4).below b5)
          clear d0 d1 x0 x1 x2 x3 I4 b5 hvc
          have r5 := (unhide I5).rf
          have d0 := cell0_of_two r5
          have d1 := cell1_of_two r5
          have f0 := free_of_two (j := 0) r5
          have f1 := free_of_two (j := 1) r5
          clear r5
          go_wp2
          go_roundw
          case rel => exact ⟨k + 1, p4, q5, by omega, by go_num, unhide A4, (unhide I5).store g1 g2 q5 (unhide hq5)⟩
          case measure => simp [intOf]; omega
        · have n0 : (fk == 0) = false := by simpa using k0
          by_cases k1 : fk = 1
          · subst k1
            have I1 := hide ((unhide HI).below ((Below.refl wr.heap.size wr).alloc (Nat.le_refl _) (.cells #[.int .i64 1, .int .i64 fn, .int .i64 fz, .string fs] 45)))
            have X1 : Hid (FldAt (wr.alloc (.cells #[.int .i64 1, .int .i64 fn, .int .i64 fz, .string fs] 45)) wr.heap.size ⟨1, fn, fz, fs⟩) := heap_alloc_new _ _
            go_wp2_with fail
            refine (wtext_s (wr.alloc (.cells #[.int .i64 1, .int .i64 fn, .int .i64 fz, .string fs] 45)) w.heap.size base p.1 p.2 fs hs (unhide I1).lw (unhide I1).sz (by omega) (unhide I1).wr).mono ?_
            rintro e w4 ⟨rfl, hw4, hk4⟩
            have I4 := hide ((unhide I1).real g1 (Nat.le_refl _) (by omega) hw4 (wText_le (unhide I1).lw fs.data.toList) hk4)
            have X4 := (unhide X1).spares hk4.2 xne
            have A4 := hide (ag_text (unhide HG) fs)
            generalize wText p fs.data.toList = p4 at *
            have r4 := (unhide I4).rf
            have x4 := X4.cells
            obtain ⟨x0, x1, x2, x3⟩ := x4
            have d0 := cell0_of_two r4
            have d1 := cell1_of_two r4
            clear hw4 hk4 r4 I1 X1
            have hvc := hide (fun w => vtext_any q fs w (unhide I4).lr hs)
            unfold vV at hvc
            have hq5 := hide (vText_le (unhide I4).lr fs)
            generalize vText q fs = q5 at *
            clear X4
            go_wp2_with fail
            refine (unhide hvc w4).mono ?_
            rintro e w5 ⟨rfl, b5⟩
            have I5 := hide ((unhide I4).below b5)
            clear d0 d1 x0 x1 x2 x3 I4 b5 hvc
            have r5 := (unhide I5).rf
            have d0 := cell0_of_two r5
            have d1 := cell1_of_two r5
            have f0 := free_of_two (j := 0) r5
            have f1 := free_of_two (j := 1) r5
            clear r5
            go_wp2
            go_roundw
            case rel => exact ⟨k + 1, p4, q5, by omega, by go_num, unhide A4, (unhide I5).store g1 g2 q5 (unhide hq5)⟩
            case measure => simp [intOf]; omega
          · have n1 : (fk == 1) = false := by simpa using k1
            by_cases k2 : fk = 2
            · subst k2
              have I1 := hide ((unhide HI).below ((Below.refl wr.heap.size wr).alloc (Nat.le_refl _) (.cells #[.int .i64 2, .int .i64 fn, .int .i64 fz, .string fs] 45)))
              have X1 : Hid (FldAt (wr.alloc (.cells #[.int .i64 2, .int .i64 fn, .int .i64 fz, .string fs] 45)) wr.heap.size ⟨2, fn, fz, fs⟩) := heap_alloc_new _ _
              go_wp2_with fail
              refine (wraw_s (wr.alloc (.cells #[.int .i64 2, .int .i64 fn, .int .i64 fz, .string fs] 45)) w.heap.size base p.1 p.2 fs hs (unhide I1).lw (unhide I1).sz (by omega) (unhide I1).wr).mono ?_
              rintro e w4 ⟨rfl, hw4, hk4⟩
              have I4 := hide ((unhide I1).real g1 (Nat.le_refl _) (by omega) hw4 (wRaw_le (unhide I1).lw fs.data.toList) hk4)
              have X4 := (unhide X1).spares hk4.2 xne
              have A4 := hide (ag_raw (unhide HG) fs)
              generalize wRaw p fs.data.toList = p4 at *
              have r4 := (unhide I4).rf
              have x4 := X4.cells
              obtain ⟨x0, x1, x2, x3⟩ := x4
              have d0 := cell0_of_two r4
              have d1 := cell1_of_two r4
              clear hw4 hk4 r4 I1 X1
              have hvc := hide (fun w => vraw_any q fs w (unhide I4).lr hs)
              unfold vV at hvc
              have hq5 := hide (vPut_le (unhide I4).lr fs 0)
              generalize vPut q fs 0 = q5 at *
              clear X4
              go_wp2_with fail
              refine (unhide hvc w4).mono ?_
              rintro e w5 ⟨rfl, b5⟩
              have I5 := hide ((unhide I4).below b5)
              clear d0 d1 x0 x1 x2 x3 I4 b5 hvc
              have r5 := (unhide I5).rf
              have d0 := cell0_of_two r5
              have d1 := cell1_of_two r5
              have f0 := free_of_two (j := 0) r5
              have f1 := free_of_two (j := 1) r5
              clear r5
              go_wp2
              go_roundw
              case rel => exact ⟨k + 1, p4, q5, by omega, by go_num, unhide A4, (unhide I5).store g1 g2 q5 (unhide hq5)⟩
              case measure => simp [intOf]; omega
            · have n2 : (fk == 2) = false := by simpa using k2
              have I1 := hide ((unhide HI).below ((Below.refl wr.heap.size wr).alloc (Nat.le_refl _) (.cells #[.int .i64 fk, .int .i64 fn, .int .i64 fz, .string fs] 45)))
              clear k0 k1 k2
              go_wp2
              go_roundw
              case rel => exact ⟨k + 1, p, q, by omega, by go_num, unhide HG, unhide I1⟩
              case measure => simp [intOf]; omega
    · have hx : (¬ (k : Int) < len) ∨ ((k : Int) < len ∧ ¬ (k : Int) < 40) := by omega
      obtain ⟨pl, pe⟩ := p
      obtain ⟨qs, qe⟩ := q
      obtain ⟨ag1, ag2⟩ := unhide HG
      simp only at ag1 ag2
      subst ag1
      have hby := hide (bytes_any wr w.heap.size base pl pe (unhide HI).wr)
      have r5 := (unhide HI).rf
      have d0 := cell0_of_two r5
      have d1 := cell1_of_two r5
      have B5 := hide (unhide HI).be
      clear hlt HF hk r5 HI HG
      by_cases e0 : pe = 0
      · subst e0
        rw [if_pos rfl] at hby
        have hq := ag2 rfl
        obtain rfl : qs = ⟨pl.toArray⟩ := by rw [← hq]
        clear ag2 hq
        generalize (⟨pl.toArray⟩ : ByteArray) = T at *
        rcases hx with q | ⟨q, q'⟩
        all_goals
          go_wp2_with fail
          refine (unhide hby).mono ?_
          rintro e w6 ⟨rfl, nd, rfl⟩
          go_wp2
          go_ret
          exact ⟨rfl, below_drewN (unhide B5) nd⟩
      · rw [if_neg e0] at hby
        have ne0 : (pe != 0) = true := by simpa using e0
        clear ag2 e0
        rcases hx with q | ⟨q, q'⟩
        all_goals
          go_wp2_with fail
          refine (unhide hby).mono ?_
          rintro e w6 ⟨rfl, nd, rfl⟩
          go_wp2
          go_ret
          exact ⟨rfl, below_drewN (unhide B5) nd⟩

end Go.Proofs.Ytahejlimdgniiab

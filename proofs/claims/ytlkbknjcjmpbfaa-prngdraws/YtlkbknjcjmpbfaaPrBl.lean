/- What the law PrngBlocks does, whatever the world: it answers true and changes nothing that was there. -/
import Derived.Test.YtlkbknjcjmpbfaaPrR
import Derived.Test.YtlkbknjcjmpbfaaPrAw
import Derived.Deep.RegionHeld3
namespace Go.Proofs.Ytlkbknjcjmpbfaa
open Go.RowKit
set_option linter.unusedVariables false

theorem kept_cell {w w' : World} {b : Nat} {p : Addr} {v : Value} (h : w.cell? p = some v) (hk : Kept w.heap.size b w w') (hne : p.block ≠ b) : w'.cell? p = some v := by
  have hlt : p.block < w.heap.size := by
    rcases Nat.lt_or_ge p.block w.heap.size with h' | h'
    · exact h'
    · simp [World.cell?, Array.getElem?_eq_none h'] at h
  have hb := hk.block p.block hlt hne
  unfold World.cell? at h ⊢
  rw [hb]
  exact h

set_option maxRecDepth 100000 in
set_option maxHeartbeats 2000000 in
theorem prngBlocks_any (s : ByteArray) (k n : Int) (w : World) (hs : s.size ≤ maxLen) :
    Calls Try.prog 3 #[.string s, .int .i64 k, .int .i64 n] w fun e w' => e = .returned (.bool true) ∧ Below w.heap.size w w' := by
  have hbl := hide (fun w => block_any s k w hs)
  have hrb := hide (fun w => rblock_any s k w hs)
  obtain ⟨D, hD⟩ : ∃ D : ByteArray, D = ⟨(blk s.data.toList k).toArray⟩ := ⟨_, rfl⟩
  rw [← hD] at hbl hrb
  clear hD
  have HM := hide hs
  unfold maxLen at hs
  by_cases hl : (100 : Int) < s.size
  · go_enter Try.func3, Try.ntmps3
    go_wp2_with fail
    refine (pawake_any w).mono ?_
    rintro e w1 ⟨rfl, b1⟩
    go_wp2
    go_ret
    exact ⟨rfl, b1⟩
  · by_cases h64 : (64 : Int) < s.size
    · go_enter Try.func3, Try.ntmps3
      go_wp2_with fail
      refine (gnew_long s w (unhide HM) (by omega)).mono ?_
      rintro e w1 ⟨rfl, rfl⟩
      go_wp2_with fail
      refine (pawake_any w).mono ?_
      rintro e w1 ⟨rfl, b1⟩
      have B1 := hide b1
      clear b1
      go_wp2_with fail
      refine (unhide hbl w1).mono ?_
      rintro e w2 ⟨rfl, b2⟩
      have B2 := hide ((unhide B1).trans (b2.mono (unhide B1).size))
      clear b2 B1
      go_wp2_with fail
      refine (unhide hrb w2).mono ?_
      rintro e w3 ⟨rfl, b3⟩
      have B3 := hide ((unhide B2).trans (b3.mono (unhide B2).size))
      clear b3 B2
      go_wp2_with fail
      go_loopw [9] (fun v wr => v = .int .i64 0 ∧ Below w.heap.size w wr) (fun _ _ => 0)
      case atStart => exact ⟨rfl, (unhide B3).alloc (unhide B3).size _⟩
      case round =>
        obtain ⟨rfl, hb⟩ := hrel
        go_wp2
        go_ret
        exact ⟨rfl, hb⟩
    · have hs64 : s.size ≤ 64 := by omega
      have hrw := hide (fun w (u : Nat) (hu : u ≤ 40) => rWord_any s u w hs64 (by omega))
      have hww := hide (fun w b (u : Nat) (hu : u ≤ 40) h => word_any w b s u hs64 (by omega) h)
      have hbd := hide (fun u => wd_bounds s.data.toList u)
      obtain ⟨Z, hZ⟩ : ∃ Z : Nat → Int, Z = fun i => wd s.data.toList i := ⟨_, rfl⟩
      have hZi : ∀ i, wd s.data.toList i = Z i := fun i => by rw [hZ]
      simp only [hZi] at hrw hww hbd
      clear hZ hZi
      go_enter Try.func3, Try.ntmps3
      go_wp2_with fail
      refine (gnew_any s w hs64).mono ?_
      rintro e w0 ⟨b, rfl, hG, hb, b0⟩
      have HG0 := hide hG
      have B0 := hide b0
      clear hG b0
      go_wp2_with fail
      refine (pawake_any w0).mono ?_
      rintro e w1 ⟨rfl, b1⟩
      have HG1 := hide (show GenAt w1 b s 0 from (b1.block b (lt_of_block (unhide HG0))).trans (unhide HG0))
      have B1 := hide ((unhide B0).trans (b1.mono (unhide B0).size))
      clear b1 HG0 B0
      go_wp2_with fail
      refine (unhide hbl w1).mono ?_
      rintro e w2 ⟨rfl, b2⟩
      have HG2 := hide (show GenAt w2 b s 0 from (b2.block b (lt_of_block (unhide HG1))).trans (unhide HG1))
      have B2 := hide ((unhide B1).trans (b2.mono (unhide B1).size))
      clear b2 B1 HG1
      go_wp2_with fail
      refine (unhide hrb w2).mono ?_
      rintro e w3 ⟨rfl, b3⟩
      have HG3 := hide (show GenAt w3 b s 0 from (b3.block b (lt_of_block (unhide HG2))).trans (unhide HG2))
      have B3 := hide ((unhide B2).trans (b3.mono (unhide B2).size))
      have hb3 := lt_of_block (unhide HG3)
      clear b3 B2 HG2
      go_wp2_with fail
      go_loopw [9] (fun v wr => ∃ i : Nat, i ≤ 40 ∧ v = .int .i64 i ∧ GenAt wr b s i ∧ wr.heap[w3.heap.size]? = some (.cells #[.string s, .int .i64 i] 27 (0, 0)) ∧ Below w.heap.size w wr) (fun v _ => 40 - (intOf v).toNat)
      case atStart => exact ⟨0, by omega, rfl, (Below.heap_alloc _ _ _ hb3).trans (unhide HG3), heap_alloc_new _ _, (unhide B3).alloc (unhide B3).size _⟩
      case round =>
        clear HG3 B3
        obtain ⟨i, hi, rfl, hG, hr, hB⟩ := hrel
        have HG := hide hG
        have HR := hide hr
        have HB := hide hB
        have c0 := cell0_of_two hr
        have c1 := cell1_of_two hr
        clear hG hr hB
        by_cases hin : (i : Int) < n
        · by_cases hi40 : (i : Int) < 40
          · have hrw1 := hide (unhide hrw wr i hi)
            obtain ⟨hz0, hz1⟩ := unhide hbd i
            have hww1 := hide (fun w' => unhide hww w' b i hi)
            generalize Z i = z at *
            go_wp2_with fail
            refine (unhide hrw1).mono ?_
            rintro e w4 ⟨rfl, b4⟩
            have r4 : w4.heap[w3.heap.size]? = some (.cells #[.string s, .int .i64 i] 27 (0, 0)) := (b4.block _ (lt_of_block (unhide HR))).trans (unhide HR)
            have g4 : GenAt w4 b s i := (b4.block _ (lt_of_block (unhide HG))).trans (unhide HG)
            have hlt4 := lt_of_block r4
            have d0 := cell0_of_two r4
            have d1 := cell1_of_two r4
            have f0 := free_of_two (j := 0) r4
            have f1 := free_of_two (j := 1) r4
            have B4 := hide ((unhide HB).trans (b4.mono (unhide HB).size))
            have R4 := hide r4
            have G4 := hide g4
            clear b4 r4 g4 c0 c1 HR HG HB hrw1
            go_wp2_with fail
            generalize hWx : World.alloc _ _ = Wx
            have hbl4 : b ≠ w3.heap.size := by omega
            have hsz : ((w4.setCell ⟨w3.heap.size, 0, none⟩ (.string s)).setCell ⟨w3.heap.size, 1, none⟩ (.int .i64 (i + 1))).heap.size = w4.heap.size := by simp
            have gx : GenAt Wx b s i := by
              show _ = _
              rw [← hWx, Below.heap_alloc _ _ _ (by rw [hsz]; exact lt_of_block (unhide G4)), Below.heap_setCell _ _ _ _ hbl4, Below.heap_setCell _ _ _ _ hbl4]
              exact unhide G4
            have rx : Wx.heap[w3.heap.size]? = some (.cells #[.string s, .int .i64 (i + 1)] 27 (0, 0)) := by
              rw [← hWx, Below.heap_alloc _ _ _ (by rw [hsz]; exact hlt4)]
              exact two_set1 (two_set0 (unhide R4))
            have tx : Wx.heap[w4.heap.size]? = some (.cells #[.string s, .int .i64 (i + 1), .int .i64 z] 29 (0, 0)) := by
              rw [← hWx, ← hsz]
              exact heap_alloc_new _ _
            have bx : Below w.heap.size w Wx := by
              have h0 := (unhide B4).size
              have h3 : w.heap.size ≤ w3.heap.size := by omega
              rw [← hWx]
              exact (((unhide B4).setCell h3 _).setCell h3 _).alloc (by rw [hsz]; exact h0) _
            have cx := cell_of_row Wx w4.heap.size 2 _ _ _ tx
            have hnb : w4.heap.size ≠ b := by have := lt_of_block (unhide G4); omega
            have GX := hide gx
            have RX := hide rx
            have BX := hide bx
            have CX : Hid (Wx.cell? ⟨w4.heap.size, 2, none⟩ = some (.int .i64 z)) := cx
            have hcx : Wx.cell? ⟨w4.heap.size, 2, none⟩ = some (.int .i64 z) := cx
            clear hWx gx rx tx bx cx d0 d1 f0 f1 B4 R4 G4 hsz
            have hw1 : IntKind.i64.wrap z = z := IntWalk.i64_in z ⟨by omega, by omega⟩
            have hw2 : wrap64 z = z := IntWalk.wrap64_in z ⟨by omega, by omega⟩
            have hw3 : IntKind.i64.wrap ((i : Int) + 1) = (i : Int) + 1 := IntWalk.i64_in _ ⟨by omega, by omega⟩
            go_region_held3 (fun w' => w'.cell? ⟨w4.heap.size, 2, none⟩ = some (.int .i64 z)) (go_keep) (first
              | (go_at_call 14; refine (unhide hww1 _ (by exact unhide GX)).mono ?_; rintro e w5 ⟨rfl, hG5, hK5⟩; have hS5 : w5.cell? ⟨w4.heap.size, 2, none⟩ = some (.int .i64 z) := kept_cell (by exact unhide CX) hK5 hnb)
              | (go_at_call 15; refine (used_any _ b s (i + 1) (by assumption)).mono ?_; rintro e w6 ⟨rfl, rfl⟩))
            have hK6 : Kept Wx.heap.size b Wx w5 := ⟨hK5.os, hK5.tape, hK5.output, hK5.size, hK5.block⟩
            have G6 := hide hG5
            have R6 := hide ((hK6.block w3.heap.size (lt_of_block (unhide RX)) (by omega)).trans (unhide RX))
            have B6 := hide ((unhide BX).trans (hK6.below w.heap.size (unhide BX).size hb))
            clear hK5 hK6 hG5 hS5 hw1 hw2 hcx GX RX BX CX
            have ei : ((i + 1 : Nat) : Int) = (i : Int) + 1 := by omega
            rw [← ei] at G6 R6
            have EI := hide ei
            clear ei
            go_wp2
            refine ⟨⟨i + 1, by omega, by rw [unhide EI], unhide G6, unhide R6, unhide B6⟩, ?_⟩
            simp [intOf]
            omega
          · go_wp2
            go_ret
            exact ⟨rfl, unhide HB⟩
        · go_wp2
          go_ret
          exact ⟨rfl, unhide HB⟩

end Go.Proofs.Ytlkbknjcjmpbfaa

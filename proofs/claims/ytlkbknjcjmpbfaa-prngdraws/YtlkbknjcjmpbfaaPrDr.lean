/- What the law PrngDraws does, whatever the world: it answers true and changes nothing that was there. -/
import Derived.Test.YtlkbknjcjmpbfaaPrSm
import Derived.Test.YtlkbknjcjmpbfaaOpenA
namespace Go.Proofs.Ytlkbknjcjmpbfaa
open Go.RowKit
set_option linter.unusedVariables false

/-- what a round keeps: the generator, the document's one, and all below -/
structure DrawAt (w0 w : World) (b r0 : Nat) (s : ByteArray) (U : Nat) : Prop where
  gen : GenAt w b s U
  ref : w.heap[r0]? = some (.cells #[.string s, .int .i64 U] 27 (0, 0))
  below : Below w0.heap.size w0 w
theorem DrawAt.grow {w0 w w' : World} {b r0 : Nat} {s : ByteArray} {U : Nat} (h : DrawAt w0 w b r0 s U) (hb : Below w.heap.size w w') : DrawAt w0 w' b r0 s U :=
  ⟨(hb.block _ (lt_of_block h.gen)).trans h.gen, (hb.block _ (lt_of_block h.ref)).trans h.ref, h.below.trans (hb.mono h.below.size)⟩

theorem NumsIn.kept {w w' : World} {a0 : Option Addr} {k b : Nat} {Z : Nat → Nat} (h : NumsIn w a0 k Z) (hk : Kept w.heap.size b w w') (hne : ∀ g, a0 = some ⟨g, 0, none⟩ → 0 < k → g ≠ b) : NumsIn w' a0 k Z := fun i hi => by
  obtain ⟨g, h1, h2⟩ := h i hi
  exact ⟨g, h1, kept_cell h2 hk (hne g h1 (by omega))⟩
theorem NumsIn.apart {w : World} {a0 : Option Addr} {k b : Nat} {Z : Nat → Nat} {s : ByteArray} (h : NumsIn w a0 k Z) (hb : w.cell? ⟨b, 0, none⟩ = some (.string s)) : ∀ g, a0 = some ⟨g, 0, none⟩ → 0 < k → g ≠ b := fun g hg hk he => by
  obtain ⟨g', h1, h2⟩ := h 0 hk
  rw [hg] at h1
  simp only [Option.some.injEq, Addr.mk.injEq] at h1
  obtain ⟨rfl, _⟩ := h1
  rw [he, hb] at h2
  cases h2

theorem picks_both (s : ByteArray) (U : Nat) (n k : Int) (hs : s.size ≤ 64) (hU : U ≤ 100000) (hn : n ≤ 200 ∨ 4096 < n) :
    ∃ (U2 kk : Nat) (Z : Nat → Nat), U2 ≤ U + 1600 ∧ kk ≤ 4096 ∧
      (∀ w, Calls Try.prog 20 #[gV s U, .int .i64 n, .int .i64 k] w fun e w' => ∃ a0 ca, e = .returned (.agg #[.string s, .int .i64 U2, .slice a0 kk ca]) ∧ NumsIn w' a0 kk Z ∧ Below w.heap.size w w') ∧
      (∀ w b, GenAt w b s U → Calls Try.prog 22 #[.pointer (some ⟨b, 0, none⟩), .int .i64 n, .int .i64 k] w fun e w' => ∃ b0 cp, e = .returned (.slice b0 kk cp) ∧ NumsIn w' b0 kk Z ∧ GenAt w' b s U2 ∧ Kept w.heap.size b w w') := by
  by_cases hg : n < 0 ∨ 4096 < n ∨ k < 0 ∨ n < k
  · refine ⟨U, 0, fun _ => 0, by omega, by omega, fun w => ?_, fun w b h => ?_⟩
    · refine (rpick_bad s U n k w hg).mono ?_
      rintro e w' ⟨rfl, hb⟩
      exact ⟨none, 0, rfl, fun i hi => absurd hi (by omega), hb⟩
    · refine (pick_bad w b n k hg).mono ?_
      rintro e w' ⟨rfl, rfl⟩
      exact ⟨none, 0, rfl, fun i hi => absurd hi (by omega), h, Kept.refl _ _ _⟩
  · obtain ⟨N, rfl⟩ := Int.eq_ofNat_of_zero_le (show 0 ≤ n by omega)
    obtain ⟨K, rfl⟩ := Int.eq_ofNat_of_zero_le (show 0 ≤ k by omega)
    have hu := pkS_used s.data.toList N U K
    refine ⟨(pkS s.data.toList N U K).1, K, fun i => (pkS s.data.toList N U N).2.getD i 0, by omega, by omega, fun w => ?_, fun w b h => ?_⟩
    · refine (rpick_any s U N K w hs (by omega) (by omega) (by omega)).mono ?_
      rintro e w' ⟨a0, ca, rfl, hc, hb⟩
      exact ⟨a0, ca, rfl, hc, hb⟩
    · refine (pick_any w b U N K s hs (by omega) (by omega) (by omega) h).mono ?_
      rintro e w' ⟨g, rfl, _, hc, hG, hK⟩
      refine ⟨some ⟨g, 0, none⟩, K, rfl, fun i hi => ⟨g, rfl, ?_⟩, hG, hK⟩
      show w'.cell? ⟨g, i, none⟩ = some (.int .i64 ((pkS s.data.toList N U N).2.getD i 0))
      rw [pkS_fix s.data.toList N U K i hi N (by omega) (Nat.le_refl _)]
      exact hc i (by omega)

set_option maxRecDepth 100000 in
set_option maxHeartbeats 8000000 in
theorem prngDraws_any (s : ByteArray) (a0 : Option Addr) (len cap : Nat) (F : Nat → Int × Int × Int) (w : World) (hs : s.size ≤ maxLen) (hF : AsksAt w a0 len F) (hc : len ≤ maxLen) :
    Calls Try.prog 5 #[.string s, .slice a0 len cap] w fun e w' => e = .returned (.bool true) ∧ Below w.heap.size w w' := by
  have HM := hide hs
  unfold maxLen at hs hc
  by_cases h64 : (64 : Int) < s.size
  · clear hF
    go_enter Try.func5, Try.ntmps5
    go_wp2_with fail
    refine (gnew_long s w (unhide HM) (by omega)).mono ?_
    rintro e w1 ⟨rfl, rfl⟩
    go_wp2_with fail
    refine (pawake_any w).mono ?_
    rintro e w1 ⟨rfl, b1⟩
    have B1 := hide b1
    clear b1
    go_wp2_with fail
    refine (pawake_any w1).mono ?_
    rintro e w2 ⟨rfl, b2⟩
    have B2 := hide ((unhide B1).trans (b2.mono (unhide B1).size))
    clear b2 B1
    go_wp2
    go_ret
    exact ⟨rfl, unhide B2⟩
  · have hs64 : s.size ≤ 64 := by omega
    have HF := hide hF
    clear hF
    go_enter Try.func5, Try.ntmps5
    go_wp2_with fail
    refine (gnew_any s w hs64).mono ?_
    rintro e w1 ⟨b, rfl, hG, hb, b1⟩
    have HG1 := hide hG
    have B1 := hide b1
    clear hG b1
    go_wp2_with fail
    refine (pawake_any w1).mono ?_
    rintro e w3 ⟨rfl, b3⟩
    have HG3 := hide (show GenAt w3 b s 0 from (b3.block b (lt_of_block (unhide HG1))).trans (unhide HG1))
    have B3 := hide ((unhide B1).trans (b3.mono (unhide B1).size))
    have hb3 := lt_of_block (unhide HG3)
    have hs3 := (unhide B3).size
    clear b3 B1 HG1
    go_wp2_with fail
    go_loopw [7] (fun v wr => ∃ i U : Nat, i ≤ 20 ∧ i ≤ len ∧ U ≤ 2000 * i ∧ v = .int .i64 i ∧ DrawAt w wr b w3.heap.size s U) (fun v _ => 20 - (intOf v).toNat)
    case atStart => exact ⟨0, 0, by omega, by omega, by omega, rfl, ⟨(Below.heap_alloc _ _ _ hb3).trans (unhide HG3), heap_alloc_new _ _, (unhide B3).alloc hs3 _⟩⟩
    case round =>
      clear HG3 B3
      obtain ⟨i, U, hi, hil, hU, rfl, hD⟩ := hrel
      have HD := hide hD
      clear hD
      by_cases hlt : (i : Int) < len
      · by_cases h20 : (i : Int) < 20
        · obtain ⟨bl, off, rfl, hlb, ⟨k0, k1, k2⟩, _, hwn, hwk⟩ := unhide HF i (by omega)
          obtain ⟨bn0, bn1⟩ := bounds_i64 hwn
          obtain ⟨bk0, bk1⟩ := bounds_i64 hwk
          have m0 : wr.cell? ⟨bl, off + i * 3, none⟩ = some (.int .i64 (F i).1) := by rw [(unhide HD).below.cell (p := ⟨bl, off + i * 3, none⟩) hlb]; exact k0
          have m1 : wr.cell? ⟨bl, off + i * 3 + 1, none⟩ = some (.int .i64 (F i).2.1) := by rw [(unhide HD).below.cell (p := ⟨bl, off + i * 3 + 1, none⟩) hlb]; exact k1
          have m2 : wr.cell? ⟨bl, off + i * 3 + 2, none⟩ = some (.int .i64 (F i).2.2) := by rw [(unhide HD).below.cell (p := ⟨bl, off + i * 3 + 2, none⟩) hlb]; exact k2
          clear k0 k1 k2 hwn hwk
          generalize (F i).1 = kind at *
          generalize (F i).2.1 = n at *
          generalize (F i).2.2 = k at *
          have c0 := cell0_of_two (unhide HD).ref
          have c1 := cell1_of_two (unhide HD).ref
          have f0 := free_of_two (j := 0) (unhide HD).ref
          have f1 := free_of_two (j := 1) (unhide HD).ref
          have hr0 := lt_of_block (unhide HD).ref
          by_cases hk0 : kind = 0
          · subst hk0
            go_wp2_with fail
            refine (rWord_any s U _ hs64 (by omega)).mono ?_
            rintro e w4 ⟨rfl, b4⟩
            have hal : Below wr.heap.size wr w4 := ((Below.refl wr.heap.size wr).alloc (Nat.le_refl _) _).trans (b4.mono (by simp))
            have hD4 := (unhide HD).grow hal
            have x4 : w4.heap[wr.heap.size]? = some (.cells #[.int .i64 0, .int .i64 n, .int .i64 k] 44 (0, 0)) := (b4.block _ (by simp)).trans (heap_alloc_new _ _)
            have d0 := cell0_of_two hD4.ref
            have d1 := cell1_of_two hD4.ref
            have g0 := free_of_two (j := 0) hD4.ref
            have g1 := free_of_two (j := 1) hD4.ref
            have y1 : w4.cell? ⟨wr.heap.size, 1, none⟩ = some (.int .i64 n) := cell_of_row w4 wr.heap.size 1 _ _ _ x4
            have hl4 := lt_of_block hD4.ref
            have hl5 := lt_of_block x4
            have hl6 := lt_of_block hD4.gen
            have hrw : w3.heap.size < wr.heap.size := hr0
            have D4 := hide hD4
            clear b4 hal hD4 x4 m0 m1 m2 c0 c1 f0 f1
            go_wp2_with fail
            generalize hWx : World.alloc _ _ = Wx
            have hsz : ((w4.setCell ⟨w3.heap.size, 0, none⟩ (.string s)).setCell ⟨w3.heap.size, 1, none⟩ (.int .i64 (U + 1))).heap.size = w4.heap.size := by simp
            have hbn : b ≠ w3.heap.size := by omega
            have gx : GenAt Wx b s U := by
              show _ = _
              rw [← hWx, Below.heap_alloc _ _ _ (by rw [hsz]; exact hl6), Below.heap_setCell _ _ _ _ hbn, Below.heap_setCell _ _ _ _ hbn]
              exact (unhide D4).gen
            have rx : Wx.heap[w3.heap.size]? = some (.cells #[.string s, .int .i64 (U + 1)] 27 (0, 0)) := by
              rw [← hWx, Below.heap_alloc _ _ _ (by rw [hsz]; exact hl4)]
              exact two_set1 (two_set0 (unhide D4).ref)
            have tx : Wx.heap[w4.heap.size]? = some (.cells #[.string s, .int .i64 (U + 1), .int .i64 (wd s.data.toList U)] 29 (0, 0)) := by
              rw [← hWx, ← hsz]
              exact heap_alloc_new _ _
            have bx : Below w.heap.size w Wx := by
              rw [← hWx]
              exact (((unhide D4).below.setCell (by show w.heap.size ≤ w3.heap.size; omega) _).setCell (by show w.heap.size ≤ w3.heap.size; omega) _).alloc (by rw [hsz]; exact (unhide D4).below.size) _
            have hcx : Wx.cell? ⟨w4.heap.size, 2, none⟩ = some (.int .i64 (wd s.data.toList U)) := cell_of_row Wx w4.heap.size 2 _ _ _ tx
            have hcn : Wx.cell? ⟨wr.heap.size, 1, none⟩ = some (.int .i64 n) := by
              rw [← hWx]
              have h1 : ((w4.setCell ⟨w3.heap.size, 0, none⟩ (.string s)).setCell ⟨w3.heap.size, 1, none⟩ (.int .i64 (U + 1))).cell? ⟨wr.heap.size, 1, none⟩ = some (.int .i64 n) := kept_cell (kept_cell y1 (kept_set _ _ _ _ _) (by show wr.heap.size ≠ _; omega)) (kept_set _ _ _ _ _) (by show wr.heap.size ≠ _; omega)
              exact gb_cell h1 ⟨_, (Below.refl _ _).alloc (Nat.le_refl _) _⟩
            have hnb : w4.heap.size ≠ b := by omega
            have hnw : wr.heap.size ≠ b := by have := lt_of_block (unhide HD).gen; omega
            have GX := hide gx
            have RX := hide rx
            have BX := hide bx
            have CX := hide hcx
            have CN := hide hcn
            have hlx := lt_of_block rx
            clear hWx gx rx tx bx d0 d1 g0 g1 D4 hsz
            obtain ⟨hz0, hz1⟩ := wd_bounds s.data.toList U
            have hww := hide (fun w' h => word_any w' b s U hs64 (by omega) h)
            generalize wd s.data.toList U = z at *
            have hw1 : IntKind.i64.wrap z = z := IntWalk.i64_in z ⟨by omega, by omega⟩
            have hw2 : wrap64 z = z := IntWalk.wrap64_in z ⟨by omega, by omega⟩
            go_region_held3 (fun w' => w'.cell? ⟨w4.heap.size, 2, none⟩ = some (.int .i64 z)) (go_keep) (first
              | (go_at_call 14; refine (unhide hww _ (by exact unhide GX)).mono ?_; rintro e w5 ⟨rfl, hG5, hK5⟩; have hS5 : w5.cell? ⟨w4.heap.size, 2, none⟩ = some (.int .i64 z) := kept_cell (by exact unhide CX) hK5 hnb))
            have hK6 : Kept Wx.heap.size b Wx w5 := ⟨hK5.os, hK5.tape, hK5.output, hK5.size, hK5.block⟩
            have eU : ((U + 1 : Nat) : Int) = (U : Int) + 1 := by omega
            have D7 : Hid (DrawAt w w5 b w3.heap.size s (U + 1)) := ⟨by rw [eU]; exact hG5, by rw [eU]; exact (hK6.block w3.heap.size hlx (by omega)).trans (unhide RX), (unhide BX).trans (hK6.below w.heap.size (unhide BX).size hb)⟩
            clear hK5 hK6 hG5 hS5 hw1 hw2 hcx hcn GX RX BX CX CN hww eU y1
            go_wp2_with fail
            have t1 := cell1_of_two (unhide D7).ref
            have hu7 := hide (fun n => used_any (w5.drewN n) b s _ (unhide D7).gen)
            go_quiet ((go_at_call 15; exact Calls.quiet_of_same (flip_same (unhide hu7 _))))
            have D8 := hide (show DrawAt w (w5.drewN nq) b w3.heap.size s (U + 1) from (unhide D7).grow (below_drawn (Below.refl _ _) _))
            clear t1 hu7 D7
            go_wp2
            go_roundw
            case rel => exact ⟨i + 1, U + 1, by omega, by omega, by omega, by go_num, unhide D8⟩
            case measure => simp [intOf]; omega
          · by_cases hk1 : kind = 1
            · subst hk1
              clear hk0
              by_cases hn : 1 ≤ n ∧ n ≤ 2147483647
              · have hml := chUse_le (wdF s.data.toList U) (fairOf n) 8 0
                have hrb := hide (fun w' => rbelow_any s U n w' hs64 (by omega) hn.1 hn.2)
                have hbw := hide (fun w' h => below_any w' b U s n hs64 (by omega) hn.1 hn.2 h)
                generalize chUse (wdF s.data.toList U) (fairOf n) 8 0 = m at *
                generalize chV (wdF s.data.toList U) n 8 = v at *
                go_wp2_with fail
                refine (unhide hrb _).mono ?_
                rintro e w4 ⟨rfl, b4⟩
                have hal : Below wr.heap.size wr w4 := ((Below.refl wr.heap.size wr).alloc (Nat.le_refl _) _).trans (b4.mono (by simp))
                have hD4 := (unhide HD).grow hal
                have x4 : w4.heap[wr.heap.size]? = some (.cells #[.int .i64 1, .int .i64 n, .int .i64 k] 44 (0, 0)) := (b4.block _ (by simp)).trans (heap_alloc_new _ _)
                have d0 := cell0_of_two hD4.ref
                have d1 := cell1_of_two hD4.ref
                have g0 := free_of_two (j := 0) hD4.ref
                have g1 := free_of_two (j := 1) hD4.ref
                have y1 : w4.cell? ⟨wr.heap.size, 1, none⟩ = some (.int .i64 n) := cell_of_row w4 wr.heap.size 1 _ _ _ x4
                have hl4 := lt_of_block hD4.ref
                have hl5 := lt_of_block x4
                have hl6 := lt_of_block hD4.gen
                have hrw : w3.heap.size < wr.heap.size := hr0
                have D4 := hide hD4
                clear b4 hal hD4 x4 m0 m1 m2 c0 c1 f0 f1
                go_wp2_with fail
                generalize hWx : World.alloc _ _ = Wx
                have hsz : ((w4.setCell ⟨w3.heap.size, 0, none⟩ (.string s)).setCell ⟨w3.heap.size, 1, none⟩ (.int .i64 ((U : Int) + m))).heap.size = w4.heap.size := by simp
                have hbn : b ≠ w3.heap.size := by omega
                have gx : GenAt Wx b s U := by
                  show _ = _
                  rw [← hWx, Below.heap_alloc _ _ _ (by rw [hsz]; exact hl6), Below.heap_setCell _ _ _ _ hbn, Below.heap_setCell _ _ _ _ hbn]
                  exact (unhide D4).gen
                have rx : Wx.heap[w3.heap.size]? = some (.cells #[.string s, .int .i64 ((U : Int) + m)] 27 (0, 0)) := by
                  rw [← hWx, Below.heap_alloc _ _ _ (by rw [hsz]; exact hl4)]
                  exact two_set1 (two_set0 (unhide D4).ref)
                have tx : Wx.heap[w4.heap.size]? = some (.cells #[.string s, .int .i64 ((U : Int) + m), .int .i64 v] 29 (0, 0)) := by
                  rw [← hWx, ← hsz]
                  exact heap_alloc_new _ _
                have bx : Below w.heap.size w Wx := by
                  rw [← hWx]
                  exact (((unhide D4).below.setCell (by show w.heap.size ≤ w3.heap.size; omega) _).setCell (by show w.heap.size ≤ w3.heap.size; omega) _).alloc (by rw [hsz]; exact (unhide D4).below.size) _
                have hcx : Wx.cell? ⟨w4.heap.size, 2, none⟩ = some (.int .i64 v) := cell_of_row Wx w4.heap.size 2 _ _ _ tx
                have hcn : Wx.cell? ⟨wr.heap.size, 1, none⟩ = some (.int .i64 n) := by
                  rw [← hWx]
                  have h1 : ((w4.setCell ⟨w3.heap.size, 0, none⟩ (.string s)).setCell ⟨w3.heap.size, 1, none⟩ (.int .i64 ((U : Int) + m))).cell? ⟨wr.heap.size, 1, none⟩ = some (.int .i64 n) := kept_cell (kept_cell y1 (kept_set _ _ _ _ _) (by show wr.heap.size ≠ _; omega)) (kept_set _ _ _ _ _) (by show wr.heap.size ≠ _; omega)
                  exact gb_cell h1 ⟨_, (Below.refl _ _).alloc (Nat.le_refl _) _⟩
                have hnb : w4.heap.size ≠ b := by omega
                have hnw : wr.heap.size ≠ b := by have := lt_of_block (unhide HD).gen; omega
                have GX := hide gx
                have RX := hide rx
                have BX := hide bx
                have CX := hide hcx
                have CN := hide hcn
                have hlx := lt_of_block rx
                clear hWx gx rx tx bx d0 d1 g0 g1 D4 hsz
                go_region_held3 (fun w' => w'.cell? ⟨w4.heap.size, 2, none⟩ = some (.int .i64 v) ∧ w'.cell? ⟨wr.heap.size, 1, none⟩ = some (.int .i64 n)) (go_keep) (first
                  | (go_at_call 19; refine (unhide hbw _ (by exact unhide GX)).mono ?_; rintro e w5 ⟨rfl, hG5, hK5⟩; have hS5 : w5.cell? ⟨w4.heap.size, 2, none⟩ = some (.int .i64 v) := kept_cell (by exact unhide CX) hK5 hnb; have hS6 : w5.cell? ⟨wr.heap.size, 1, none⟩ = some (.int .i64 n) := kept_cell (by exact unhide CN) hK5 hnw))
                have eU : ((U + m : Nat) : Int) = (U : Int) + m := by omega
                have hK6 : Kept Wx.heap.size b Wx w5 := ⟨hK5.os, hK5.tape, hK5.output, hK5.size, hK5.block⟩
                have D7 : Hid (DrawAt w w5 b w3.heap.size s (U + m)) := ⟨by first | exact hG5 | (rw [eU]; exact hG5), by rw [eU]; exact (hK6.block w3.heap.size hlx (by omega)).trans (unhide RX), (unhide BX).trans (hK6.below w.heap.size (unhide BX).size hb)⟩
                clear eU hK5 hK6 hG5 hS5 hS6 hcx hcn GX RX BX CX CN hbw hrb y1
                go_wp2_with fail
                have t1 := cell1_of_two (unhide D7).ref
                have hu7 := hide (fun n => used_any (w5.drewN n) b s _ (unhide D7).gen)
                go_quiet ((go_at_call 15; exact Calls.quiet_of_same (flip_same (unhide hu7 _))))
                have D8 := hide (show DrawAt w (w5.drewN nq) b w3.heap.size s (U + m) from (unhide D7).grow (below_drawn (Below.refl _ _) _))
                clear t1 hu7 D7
                go_wp2
                go_roundw
                case rel => exact ⟨i + 1, U + m, by omega, by omega, by omega, by go_num, unhide D8⟩
                case measure => simp [intOf]; omega
              · have hrb := hide (fun w' => rbelow_bad s U n w' hn)
                have hbw := hide (fun w' => below_bad w' b n hn)
                go_wp2_with fail
                refine (unhide hrb _).mono ?_
                rintro e w4 ⟨rfl, b4⟩
                have hal : Below wr.heap.size wr w4 := ((Below.refl wr.heap.size wr).alloc (Nat.le_refl _) _).trans (b4.mono (by simp))
                have hD4 := (unhide HD).grow hal
                have x4 : w4.heap[wr.heap.size]? = some (.cells #[.int .i64 1, .int .i64 n, .int .i64 k] 44 (0, 0)) := (b4.block _ (by simp)).trans (heap_alloc_new _ _)
                have d0 := cell0_of_two hD4.ref
                have d1 := cell1_of_two hD4.ref
                have g0 := free_of_two (j := 0) hD4.ref
                have g1 := free_of_two (j := 1) hD4.ref
                have y1 : w4.cell? ⟨wr.heap.size, 1, none⟩ = some (.int .i64 n) := cell_of_row w4 wr.heap.size 1 _ _ _ x4
                have hl4 := lt_of_block hD4.ref
                have hl5 := lt_of_block x4
                have hl6 := lt_of_block hD4.gen
                have hrw : w3.heap.size < wr.heap.size := hr0
                have D4 := hide hD4
                clear b4 hal hD4 x4 m0 m1 m2 c0 c1 f0 f1
                go_wp2_with fail
                generalize hWx : World.alloc _ _ = Wx
                have hsz : ((w4.setCell ⟨w3.heap.size, 0, none⟩ (.string s)).setCell ⟨w3.heap.size, 1, none⟩ (.int .i64 (U : Int))).heap.size = w4.heap.size := by simp
                have hbn : b ≠ w3.heap.size := by omega
                have gx : GenAt Wx b s U := by
                  show _ = _
                  rw [← hWx, Below.heap_alloc _ _ _ (by rw [hsz]; exact hl6), Below.heap_setCell _ _ _ _ hbn, Below.heap_setCell _ _ _ _ hbn]
                  exact (unhide D4).gen
                have rx : Wx.heap[w3.heap.size]? = some (.cells #[.string s, .int .i64 (U : Int)] 27 (0, 0)) := by
                  rw [← hWx, Below.heap_alloc _ _ _ (by rw [hsz]; exact hl4)]
                  exact two_set1 (two_set0 (unhide D4).ref)
                have tx : Wx.heap[w4.heap.size]? = some (.cells #[.string s, .int .i64 (U : Int), .int .i64 0] 29 (0, 0)) := by
                  rw [← hWx, ← hsz]
                  exact heap_alloc_new _ _
                have bx : Below w.heap.size w Wx := by
                  rw [← hWx]
                  exact (((unhide D4).below.setCell (by show w.heap.size ≤ w3.heap.size; omega) _).setCell (by show w.heap.size ≤ w3.heap.size; omega) _).alloc (by rw [hsz]; exact (unhide D4).below.size) _
                have hcx : Wx.cell? ⟨w4.heap.size, 2, none⟩ = some (.int .i64 0) := cell_of_row Wx w4.heap.size 2 _ _ _ tx
                have hcn : Wx.cell? ⟨wr.heap.size, 1, none⟩ = some (.int .i64 n) := by
                  rw [← hWx]
                  have h1 : ((w4.setCell ⟨w3.heap.size, 0, none⟩ (.string s)).setCell ⟨w3.heap.size, 1, none⟩ (.int .i64 (U : Int))).cell? ⟨wr.heap.size, 1, none⟩ = some (.int .i64 n) := kept_cell (kept_cell y1 (kept_set _ _ _ _ _) (by show wr.heap.size ≠ _; omega)) (kept_set _ _ _ _ _) (by show wr.heap.size ≠ _; omega)
                  exact gb_cell h1 ⟨_, (Below.refl _ _).alloc (Nat.le_refl _) _⟩
                have hnb : w4.heap.size ≠ b := by omega
                have hnw : wr.heap.size ≠ b := by have := lt_of_block (unhide HD).gen; omega
                have GX := hide gx
                have RX := hide rx
                have BX := hide bx
                have CX := hide hcx
                have CN := hide hcn
                have hlx := lt_of_block rx
                clear hWx gx rx tx bx d0 d1 g0 g1 D4 hsz
                go_region_held3 (fun w' => w'.cell? ⟨w4.heap.size, 2, none⟩ = some (.int .i64 0) ∧ w'.cell? ⟨wr.heap.size, 1, none⟩ = some (.int .i64 n)) (go_keep) (first
                  | (go_at_call 19; refine (unhide hbw _).mono ?_; rintro e w5 ⟨rfl, rfl⟩))
                have D7 : Hid (DrawAt w Wx.drew b w3.heap.size s U) := ⟨unhide GX, unhide RX, (unhide BX).drew⟩
                clear hcx hcn GX RX BX CX CN hbw hrb y1
                generalize Wx.drew = w5 at *
                go_wp2_with fail
                have t1 := cell1_of_two (unhide D7).ref
                have hu7 := hide (fun n => used_any (w5.drewN n) b s _ (unhide D7).gen)
                go_quiet ((go_at_call 15; exact Calls.quiet_of_same (flip_same (unhide hu7 _))))
                have D8 := hide (show DrawAt w (w5.drewN nq) b w3.heap.size s (U) from (unhide D7).grow (below_drawn (Below.refl _ _) _))
                clear t1 hu7 D7
                go_wp2
                go_roundw
                case rel => exact ⟨i + 1, U, by omega, by omega, by omega, by go_num, unhide D8⟩
                case measure => simp [intOf]; omega
            · by_cases hk2 : kind = 2
              · subst hk2
                clear hk0 hk1
                by_cases hbig : (200 : Int) < n
                · by_cases hbig2 : n ≤ 4096
                  · have hN2 : (200 : Int) ≤ 200 ∨ 4096 < (200 : Int) := by omega
                    obtain ⟨U2, kk, Z, hU2, hkk, hrp, hpk⟩ := picks_both s U 200 k hs64 (by omega) hN2
                    have hrp := hide hrp
                    have hpk := hide (fun w' h => hpk w' b h)
                    go_wp2_with fail
                    generalize hWa : World.alloc _ _ = Wa
                    have xa : Wa.heap[wr.heap.size]? = some (.cells #[.int .i64 2, .int .i64 200, .int .i64 k] 44 (0, 0)) := by rw [← hWa]; exact heap_alloc_new _ _
                    have ba : Below wr.heap.size wr Wa := by rw [← hWa]; exact (Below.refl _ _).alloc (Nat.le_refl _) _
                    clear hWa
                    refine (unhide hrp _).mono ?_
                    rintro e w4 ⟨a0, ca, rfl, hN4, b4⟩
                    have hD4 := (unhide HD).grow (ba.trans (b4.mono ba.size))
                    have x4 : w4.heap[wr.heap.size]? = some (.cells #[.int .i64 2, .int .i64 200, .int .i64 k] 44 (0, 0)) := (b4.block _ (lt_of_block xa)).trans xa
                    have d0 := cell0_of_two hD4.ref
                    have d1 := cell1_of_two hD4.ref
                    have g0 := free_of_two (j := 0) hD4.ref
                    have g1 := free_of_two (j := 1) hD4.ref
                    have y1 : w4.cell? ⟨wr.heap.size, 1, none⟩ = some (.int .i64 200) := cell_of_row w4 wr.heap.size 1 _ _ _ x4
                    have y2 : w4.cell? ⟨wr.heap.size, 2, none⟩ = some (.int .i64 k) := cell_of_row w4 wr.heap.size 2 _ _ _ x4
                    have hl4 := lt_of_block hD4.ref
                    have hl5 := lt_of_block x4
                    have hl6 := lt_of_block hD4.gen
                    have hrw : w3.heap.size < wr.heap.size := hr0
                    have hnab : Hid (∀ g, a0 = some ⟨g, 0, none⟩ → 0 < kk → g ≠ b) := hN4.apart (cell0_of_two hD4.gen)
                    have hnar : ∀ g, a0 = some ⟨g, 0, none⟩ → 0 < kk → g ≠ w3.heap.size := hN4.apart d0
                    have hna4 := hide ((hN4.kept (kept_set _ _ _ _ _) hnar).kept (kept_set _ _ _ _ _) hnar : NumsIn ((w4.setCell ⟨w3.heap.size, 0, none⟩ (.string s)).setCell ⟨w3.heap.size, 1, none⟩ (.int .i64 U2)) a0 kk Z)
                    have D4 := hide hD4
                    clear b4 ba xa hD4 x4 m0 m1 m2 c0 c1 f0 f1 hN4 hnar
                    go_wp2_with fail
                    generalize hWx : World.alloc _ _ = Wx
                    have hsz : ((w4.setCell ⟨w3.heap.size, 0, none⟩ (.string s)).setCell ⟨w3.heap.size, 1, none⟩ (.int .i64 U2)).heap.size = w4.heap.size := by simp
                    have hbn : b ≠ w3.heap.size := by omega
                    have gx : GenAt Wx b s U := by
                      show _ = _
                      rw [← hWx, Below.heap_alloc _ _ _ (by rw [hsz]; exact hl6), Below.heap_setCell _ _ _ _ hbn, Below.heap_setCell _ _ _ _ hbn]
                      exact (unhide D4).gen
                    have rx : Wx.heap[w3.heap.size]? = some (.cells #[.string s, .int .i64 U2] 27 (0, 0)) := by
                      rw [← hWx, Below.heap_alloc _ _ _ (by rw [hsz]; exact hl4)]
                      exact two_set1 (two_set0 (unhide D4).ref)
                    have tx : Wx.heap[w4.heap.size]? = some (.cells #[.string s, .int .i64 U2, .slice a0 kk ca] 49 (0, 0)) := by
                      rw [← hWx, ← hsz]
                      exact heap_alloc_new _ _
                    have bx : Below w.heap.size w Wx := by
                      rw [← hWx]
                      exact (((unhide D4).below.setCell (by show w.heap.size ≤ w3.heap.size; omega) _).setCell (by show w.heap.size ≤ w3.heap.size; omega) _).alloc (by rw [hsz]; exact (unhide D4).below.size) _
                    have hcx : Wx.cell? ⟨w4.heap.size, 2, none⟩ = some (.slice a0 kk ca) := cell_of_row Wx w4.heap.size 2 _ _ _ tx
                    have hxx : ∀ o v, w4.cell? ⟨wr.heap.size, o, none⟩ = some v → Wx.cell? ⟨wr.heap.size, o, none⟩ = some v := fun o v h => by
                      rw [← hWx]
                      have h1 : ((w4.setCell ⟨w3.heap.size, 0, none⟩ (.string s)).setCell ⟨w3.heap.size, 1, none⟩ (.int .i64 U2)).cell? ⟨wr.heap.size, o, none⟩ = some v := kept_cell (kept_cell h (kept_set _ _ _ _ _) (by show wr.heap.size ≠ _; omega)) (kept_set _ _ _ _ _) (by show wr.heap.size ≠ _; omega)
                      exact gb_cell h1 ⟨_, (Below.refl _ _).alloc (Nat.le_refl _) _⟩
                    have hcn := hxx 1 _ y1
                    have hck := hxx 2 _ y2
                    have NX : Hid (NumsIn Wx a0 kk Z) := by
                      show NumsIn _ _ _ _
                      rw [← hWx]
                      exact fun i hi => by
                        obtain ⟨g, h1, h2⟩ := unhide hna4 i hi
                        exact ⟨g, h1, gb_cell h2 ⟨_, (Below.refl _ _).alloc (Nat.le_refl _) _⟩⟩
                    have hnb : w4.heap.size ≠ b := by omega
                    have hnw : wr.heap.size ≠ b := by have := lt_of_block (unhide HD).gen; omega
                    have GX := hide gx
                    have RX := hide rx
                    have BX := hide bx
                    have CX := hide hcx
                    have CN := hide hcn
                    have CK := hide hck
                    have hlx := lt_of_block rx
                    clear hWx gx rx tx bx d0 d1 g0 g1 D4 hsz hxx hna4
                    go_region_held3 (fun w' => w'.cell? ⟨w4.heap.size, 2, none⟩ = some (.slice a0 kk ca) ∧ w'.cell? ⟨wr.heap.size, 1, none⟩ = some (.int .i64 200) ∧ w'.cell? ⟨wr.heap.size, 2, none⟩ = some (.int .i64 k)) (go_keep) (first
                      | (go_at_call 22; refine (unhide hpk _ (by exact unhide GX)).mono ?_; rintro e w5 ⟨b0, cp, rfl, hN5, hG5, hK5⟩; have hS5 : w5.cell? ⟨w4.heap.size, 2, none⟩ = some (.slice a0 kk ca) := kept_cell (by exact unhide CX) hK5 hnb; have hS6 : w5.cell? ⟨wr.heap.size, 1, none⟩ = some (.int .i64 200) := kept_cell (by exact unhide CN) hK5 hnw; have hS7 : w5.cell? ⟨wr.heap.size, 2, none⟩ = some (.int .i64 k) := kept_cell (by exact unhide CK) hK5 hnw; have hA5 : NumsIn w5 a0 kk Z := (by exact unhide NX : NumsIn Wx.drew a0 kk Z).kept hK5 (unhide hnab))
                      | (go_at_call 21; refine (rsame_any _ b0 a0 kk cp ca Z hkk hN5 hA5).mono ?_; rintro e w6 ⟨rfl, b6⟩; have hT5 : w6.cell? ⟨w4.heap.size, 2, none⟩ = some (.slice a0 kk ca) := gb_cell hS5 ⟨_, b6⟩; have hT6 : w6.cell? ⟨wr.heap.size, 1, none⟩ = some (.int .i64 200) := gb_cell hS6 ⟨_, b6⟩; have hT7 : w6.cell? ⟨wr.heap.size, 2, none⟩ = some (.int .i64 k) := gb_cell hS7 ⟨_, b6⟩))
                    have hK6 : Kept Wx.heap.size b Wx w5 := ⟨hK5.os, hK5.tape, hK5.output, hK5.size, hK5.block⟩
                    have D6 : DrawAt w w5 b w3.heap.size s U2 := ⟨hG5, (hK6.block w3.heap.size hlx (by omega)).trans (unhide RX), (unhide BX).trans (hK6.below w.heap.size (unhide BX).size hb)⟩
                    have D7 := hide (D6.grow b6)
                    clear D6 hK5 hK6 hG5 hS5 hS6 hS7 hT5 hT6 hT7 hA5 hN5 b6 hcx hcn hck GX RX BX CX CN CK NX hpk hrp y1 y2
                    go_wp2_with fail
                    have t1 := cell1_of_two (unhide D7).ref
                    have hu7 := hide (fun n => used_any (w6.drewN n) b s _ (unhide D7).gen)
                    go_quiet ((go_at_call 15; exact Calls.quiet_of_same (flip_same (unhide hu7 _))))
                    have D8 := hide (show DrawAt w (w6.drewN nq) b w3.heap.size s (U2) from (unhide D7).grow (below_drawn (Below.refl _ _) _))
                    clear t1 hu7 D7
                    go_wp2
                    go_roundw
                    case rel => exact ⟨i + 1, U2, by omega, by omega, by omega, by go_num, unhide D8⟩
                    case measure => simp [intOf]; omega
                  · have hN2 : n ≤ 200 ∨ 4096 < n := by omega
                    obtain ⟨U2, kk, Z, hU2, hkk, hrp, hpk⟩ := picks_both s U n k hs64 (by omega) hN2
                    have hrp := hide hrp
                    have hpk := hide (fun w' h => hpk w' b h)
                    go_wp2_with fail
                    generalize hWa : World.alloc _ _ = Wa
                    have xa : Wa.heap[wr.heap.size]? = some (.cells #[.int .i64 2, .int .i64 n, .int .i64 k] 44 (0, 0)) := by rw [← hWa]; exact heap_alloc_new _ _
                    have ba : Below wr.heap.size wr Wa := by rw [← hWa]; exact (Below.refl _ _).alloc (Nat.le_refl _) _
                    clear hWa
                    refine (unhide hrp _).mono ?_
                    rintro e w4 ⟨a0, ca, rfl, hN4, b4⟩
                    have hD4 := (unhide HD).grow (ba.trans (b4.mono ba.size))
                    have x4 : w4.heap[wr.heap.size]? = some (.cells #[.int .i64 2, .int .i64 n, .int .i64 k] 44 (0, 0)) := (b4.block _ (lt_of_block xa)).trans xa
                    have d0 := cell0_of_two hD4.ref
                    have d1 := cell1_of_two hD4.ref
                    have g0 := free_of_two (j := 0) hD4.ref
                    have g1 := free_of_two (j := 1) hD4.ref
                    have y1 : w4.cell? ⟨wr.heap.size, 1, none⟩ = some (.int .i64 n) := cell_of_row w4 wr.heap.size 1 _ _ _ x4
                    have y2 : w4.cell? ⟨wr.heap.size, 2, none⟩ = some (.int .i64 k) := cell_of_row w4 wr.heap.size 2 _ _ _ x4
                    have hl4 := lt_of_block hD4.ref
                    have hl5 := lt_of_block x4
                    have hl6 := lt_of_block hD4.gen
                    have hrw : w3.heap.size < wr.heap.size := hr0
                    have hnab : Hid (∀ g, a0 = some ⟨g, 0, none⟩ → 0 < kk → g ≠ b) := hN4.apart (cell0_of_two hD4.gen)
                    have hnar : ∀ g, a0 = some ⟨g, 0, none⟩ → 0 < kk → g ≠ w3.heap.size := hN4.apart d0
                    have hna4 := hide ((hN4.kept (kept_set _ _ _ _ _) hnar).kept (kept_set _ _ _ _ _) hnar : NumsIn ((w4.setCell ⟨w3.heap.size, 0, none⟩ (.string s)).setCell ⟨w3.heap.size, 1, none⟩ (.int .i64 U2)) a0 kk Z)
                    have D4 := hide hD4
                    clear b4 ba xa hD4 x4 m0 m1 m2 c0 c1 f0 f1 hN4 hnar
                    go_wp2_with fail
                    generalize hWx : World.alloc _ _ = Wx
                    have hsz : ((w4.setCell ⟨w3.heap.size, 0, none⟩ (.string s)).setCell ⟨w3.heap.size, 1, none⟩ (.int .i64 U2)).heap.size = w4.heap.size := by simp
                    have hbn : b ≠ w3.heap.size := by omega
                    have gx : GenAt Wx b s U := by
                      show _ = _
                      rw [← hWx, Below.heap_alloc _ _ _ (by rw [hsz]; exact hl6), Below.heap_setCell _ _ _ _ hbn, Below.heap_setCell _ _ _ _ hbn]
                      exact (unhide D4).gen
                    have rx : Wx.heap[w3.heap.size]? = some (.cells #[.string s, .int .i64 U2] 27 (0, 0)) := by
                      rw [← hWx, Below.heap_alloc _ _ _ (by rw [hsz]; exact hl4)]
                      exact two_set1 (two_set0 (unhide D4).ref)
                    have tx : Wx.heap[w4.heap.size]? = some (.cells #[.string s, .int .i64 U2, .slice a0 kk ca] 49 (0, 0)) := by
                      rw [← hWx, ← hsz]
                      exact heap_alloc_new _ _
                    have bx : Below w.heap.size w Wx := by
                      rw [← hWx]
                      exact (((unhide D4).below.setCell (by show w.heap.size ≤ w3.heap.size; omega) _).setCell (by show w.heap.size ≤ w3.heap.size; omega) _).alloc (by rw [hsz]; exact (unhide D4).below.size) _
                    have hcx : Wx.cell? ⟨w4.heap.size, 2, none⟩ = some (.slice a0 kk ca) := cell_of_row Wx w4.heap.size 2 _ _ _ tx
                    have hxx : ∀ o v, w4.cell? ⟨wr.heap.size, o, none⟩ = some v → Wx.cell? ⟨wr.heap.size, o, none⟩ = some v := fun o v h => by
                      rw [← hWx]
                      have h1 : ((w4.setCell ⟨w3.heap.size, 0, none⟩ (.string s)).setCell ⟨w3.heap.size, 1, none⟩ (.int .i64 U2)).cell? ⟨wr.heap.size, o, none⟩ = some v := kept_cell (kept_cell h (kept_set _ _ _ _ _) (by show wr.heap.size ≠ _; omega)) (kept_set _ _ _ _ _) (by show wr.heap.size ≠ _; omega)
                      exact gb_cell h1 ⟨_, (Below.refl _ _).alloc (Nat.le_refl _) _⟩
                    have hcn := hxx 1 _ y1
                    have hck := hxx 2 _ y2
                    have NX : Hid (NumsIn Wx a0 kk Z) := by
                      show NumsIn _ _ _ _
                      rw [← hWx]
                      exact fun i hi => by
                        obtain ⟨g, h1, h2⟩ := unhide hna4 i hi
                        exact ⟨g, h1, gb_cell h2 ⟨_, (Below.refl _ _).alloc (Nat.le_refl _) _⟩⟩
                    have hnb : w4.heap.size ≠ b := by omega
                    have hnw : wr.heap.size ≠ b := by have := lt_of_block (unhide HD).gen; omega
                    have GX := hide gx
                    have RX := hide rx
                    have BX := hide bx
                    have CX := hide hcx
                    have CN := hide hcn
                    have CK := hide hck
                    have hlx := lt_of_block rx
                    clear hWx gx rx tx bx d0 d1 g0 g1 D4 hsz hxx hna4
                    go_region_held3 (fun w' => w'.cell? ⟨w4.heap.size, 2, none⟩ = some (.slice a0 kk ca) ∧ w'.cell? ⟨wr.heap.size, 1, none⟩ = some (.int .i64 n) ∧ w'.cell? ⟨wr.heap.size, 2, none⟩ = some (.int .i64 k)) (go_keep) (first
                      | (go_at_call 22; refine (unhide hpk _ (by exact unhide GX)).mono ?_; rintro e w5 ⟨b0, cp, rfl, hN5, hG5, hK5⟩; have hS5 : w5.cell? ⟨w4.heap.size, 2, none⟩ = some (.slice a0 kk ca) := kept_cell (by exact unhide CX) hK5 hnb; have hS6 : w5.cell? ⟨wr.heap.size, 1, none⟩ = some (.int .i64 n) := kept_cell (by exact unhide CN) hK5 hnw; have hS7 : w5.cell? ⟨wr.heap.size, 2, none⟩ = some (.int .i64 k) := kept_cell (by exact unhide CK) hK5 hnw; have hA5 : NumsIn w5 a0 kk Z := (by exact unhide NX : NumsIn Wx.drew a0 kk Z).kept hK5 (unhide hnab))
                      | (go_at_call 21; refine (rsame_any _ b0 a0 kk cp ca Z hkk hN5 hA5).mono ?_; rintro e w6 ⟨rfl, b6⟩; have hT5 : w6.cell? ⟨w4.heap.size, 2, none⟩ = some (.slice a0 kk ca) := gb_cell hS5 ⟨_, b6⟩; have hT6 : w6.cell? ⟨wr.heap.size, 1, none⟩ = some (.int .i64 n) := gb_cell hS6 ⟨_, b6⟩; have hT7 : w6.cell? ⟨wr.heap.size, 2, none⟩ = some (.int .i64 k) := gb_cell hS7 ⟨_, b6⟩))
                    have hK6 : Kept Wx.heap.size b Wx w5 := ⟨hK5.os, hK5.tape, hK5.output, hK5.size, hK5.block⟩
                    have D6 : DrawAt w w5 b w3.heap.size s U2 := ⟨hG5, (hK6.block w3.heap.size hlx (by omega)).trans (unhide RX), (unhide BX).trans (hK6.below w.heap.size (unhide BX).size hb)⟩
                    have D7 := hide (D6.grow b6)
                    clear D6 hK5 hK6 hG5 hS5 hS6 hS7 hT5 hT6 hT7 hA5 hN5 b6 hcx hcn hck GX RX BX CX CN CK NX hpk hrp y1 y2
                    go_wp2_with fail
                    have t1 := cell1_of_two (unhide D7).ref
                    have hu7 := hide (fun n => used_any (w6.drewN n) b s _ (unhide D7).gen)
                    go_quiet ((go_at_call 15; exact Calls.quiet_of_same (flip_same (unhide hu7 _))))
                    have D8 := hide (show DrawAt w (w6.drewN nq) b w3.heap.size s (U2) from (unhide D7).grow (below_drawn (Below.refl _ _) _))
                    clear t1 hu7 D7
                    go_wp2
                    go_roundw
                    case rel => exact ⟨i + 1, U2, by omega, by omega, by omega, by go_num, unhide D8⟩
                    case measure => simp [intOf]; omega
                · have hN2 : n ≤ 200 ∨ 4096 < n := by omega
                  obtain ⟨U2, kk, Z, hU2, hkk, hrp, hpk⟩ := picks_both s U n k hs64 (by omega) hN2
                  have hrp := hide hrp
                  have hpk := hide (fun w' h => hpk w' b h)
                  go_wp2_with fail
                  generalize hWa : World.alloc _ _ = Wa
                  have xa : Wa.heap[wr.heap.size]? = some (.cells #[.int .i64 2, .int .i64 n, .int .i64 k] 44 (0, 0)) := by rw [← hWa]; exact heap_alloc_new _ _
                  have ba : Below wr.heap.size wr Wa := by rw [← hWa]; exact (Below.refl _ _).alloc (Nat.le_refl _) _
                  clear hWa
                  refine (unhide hrp _).mono ?_
                  rintro e w4 ⟨a0, ca, rfl, hN4, b4⟩
                  have hD4 := (unhide HD).grow (ba.trans (b4.mono ba.size))
                  have x4 : w4.heap[wr.heap.size]? = some (.cells #[.int .i64 2, .int .i64 n, .int .i64 k] 44 (0, 0)) := (b4.block _ (lt_of_block xa)).trans xa
                  have d0 := cell0_of_two hD4.ref
                  have d1 := cell1_of_two hD4.ref
                  have g0 := free_of_two (j := 0) hD4.ref
                  have g1 := free_of_two (j := 1) hD4.ref
                  have y1 : w4.cell? ⟨wr.heap.size, 1, none⟩ = some (.int .i64 n) := cell_of_row w4 wr.heap.size 1 _ _ _ x4
                  have y2 : w4.cell? ⟨wr.heap.size, 2, none⟩ = some (.int .i64 k) := cell_of_row w4 wr.heap.size 2 _ _ _ x4
                  have hl4 := lt_of_block hD4.ref
                  have hl5 := lt_of_block x4
                  have hl6 := lt_of_block hD4.gen
                  have hrw : w3.heap.size < wr.heap.size := hr0
                  have hnab : Hid (∀ g, a0 = some ⟨g, 0, none⟩ → 0 < kk → g ≠ b) := hN4.apart (cell0_of_two hD4.gen)
                  have hnar : ∀ g, a0 = some ⟨g, 0, none⟩ → 0 < kk → g ≠ w3.heap.size := hN4.apart d0
                  have hna4 := hide ((hN4.kept (kept_set _ _ _ _ _) hnar).kept (kept_set _ _ _ _ _) hnar : NumsIn ((w4.setCell ⟨w3.heap.size, 0, none⟩ (.string s)).setCell ⟨w3.heap.size, 1, none⟩ (.int .i64 U2)) a0 kk Z)
                  have D4 := hide hD4
                  clear b4 ba xa hD4 x4 m0 m1 m2 c0 c1 f0 f1 hN4 hnar
                  go_wp2_with fail
                  generalize hWx : World.alloc _ _ = Wx
                  have hsz : ((w4.setCell ⟨w3.heap.size, 0, none⟩ (.string s)).setCell ⟨w3.heap.size, 1, none⟩ (.int .i64 U2)).heap.size = w4.heap.size := by simp
                  have hbn : b ≠ w3.heap.size := by omega
                  have gx : GenAt Wx b s U := by
                    show _ = _
                    rw [← hWx, Below.heap_alloc _ _ _ (by rw [hsz]; exact hl6), Below.heap_setCell _ _ _ _ hbn, Below.heap_setCell _ _ _ _ hbn]
                    exact (unhide D4).gen
                  have rx : Wx.heap[w3.heap.size]? = some (.cells #[.string s, .int .i64 U2] 27 (0, 0)) := by
                    rw [← hWx, Below.heap_alloc _ _ _ (by rw [hsz]; exact hl4)]
                    exact two_set1 (two_set0 (unhide D4).ref)
                  have tx : Wx.heap[w4.heap.size]? = some (.cells #[.string s, .int .i64 U2, .slice a0 kk ca] 49 (0, 0)) := by
                    rw [← hWx, ← hsz]
                    exact heap_alloc_new _ _
                  have bx : Below w.heap.size w Wx := by
                    rw [← hWx]
                    exact (((unhide D4).below.setCell (by show w.heap.size ≤ w3.heap.size; omega) _).setCell (by show w.heap.size ≤ w3.heap.size; omega) _).alloc (by rw [hsz]; exact (unhide D4).below.size) _
                  have hcx : Wx.cell? ⟨w4.heap.size, 2, none⟩ = some (.slice a0 kk ca) := cell_of_row Wx w4.heap.size 2 _ _ _ tx
                  have hxx : ∀ o v, w4.cell? ⟨wr.heap.size, o, none⟩ = some v → Wx.cell? ⟨wr.heap.size, o, none⟩ = some v := fun o v h => by
                    rw [← hWx]
                    have h1 : ((w4.setCell ⟨w3.heap.size, 0, none⟩ (.string s)).setCell ⟨w3.heap.size, 1, none⟩ (.int .i64 U2)).cell? ⟨wr.heap.size, o, none⟩ = some v := kept_cell (kept_cell h (kept_set _ _ _ _ _) (by show wr.heap.size ≠ _; omega)) (kept_set _ _ _ _ _) (by show wr.heap.size ≠ _; omega)
                    exact gb_cell h1 ⟨_, (Below.refl _ _).alloc (Nat.le_refl _) _⟩
                  have hcn := hxx 1 _ y1
                  have hck := hxx 2 _ y2
                  have NX : Hid (NumsIn Wx a0 kk Z) := by
                    show NumsIn _ _ _ _
                    rw [← hWx]
                    exact fun i hi => by
                      obtain ⟨g, h1, h2⟩ := unhide hna4 i hi
                      exact ⟨g, h1, gb_cell h2 ⟨_, (Below.refl _ _).alloc (Nat.le_refl _) _⟩⟩
                  have hnb : w4.heap.size ≠ b := by omega
                  have hnw : wr.heap.size ≠ b := by have := lt_of_block (unhide HD).gen; omega
                  have GX := hide gx
                  have RX := hide rx
                  have BX := hide bx
                  have CX := hide hcx
                  have CN := hide hcn
                  have CK := hide hck
                  have hlx := lt_of_block rx
                  clear hWx gx rx tx bx d0 d1 g0 g1 D4 hsz hxx hna4
                  go_region_held3 (fun w' => w'.cell? ⟨w4.heap.size, 2, none⟩ = some (.slice a0 kk ca) ∧ w'.cell? ⟨wr.heap.size, 1, none⟩ = some (.int .i64 n) ∧ w'.cell? ⟨wr.heap.size, 2, none⟩ = some (.int .i64 k)) (go_keep) (first
                    | (go_at_call 22; refine (unhide hpk _ (by exact unhide GX)).mono ?_; rintro e w5 ⟨b0, cp, rfl, hN5, hG5, hK5⟩; have hS5 : w5.cell? ⟨w4.heap.size, 2, none⟩ = some (.slice a0 kk ca) := kept_cell (by exact unhide CX) hK5 hnb; have hS6 : w5.cell? ⟨wr.heap.size, 1, none⟩ = some (.int .i64 n) := kept_cell (by exact unhide CN) hK5 hnw; have hS7 : w5.cell? ⟨wr.heap.size, 2, none⟩ = some (.int .i64 k) := kept_cell (by exact unhide CK) hK5 hnw; have hA5 : NumsIn w5 a0 kk Z := (by exact unhide NX : NumsIn Wx.drew a0 kk Z).kept hK5 (unhide hnab))
                    | (go_at_call 21; refine (rsame_any _ b0 a0 kk cp ca Z hkk hN5 hA5).mono ?_; rintro e w6 ⟨rfl, b6⟩; have hT5 : w6.cell? ⟨w4.heap.size, 2, none⟩ = some (.slice a0 kk ca) := gb_cell hS5 ⟨_, b6⟩; have hT6 : w6.cell? ⟨wr.heap.size, 1, none⟩ = some (.int .i64 n) := gb_cell hS6 ⟨_, b6⟩; have hT7 : w6.cell? ⟨wr.heap.size, 2, none⟩ = some (.int .i64 k) := gb_cell hS7 ⟨_, b6⟩))
                  have hK6 : Kept Wx.heap.size b Wx w5 := ⟨hK5.os, hK5.tape, hK5.output, hK5.size, hK5.block⟩
                  have D6 : DrawAt w w5 b w3.heap.size s U2 := ⟨hG5, (hK6.block w3.heap.size hlx (by omega)).trans (unhide RX), (unhide BX).trans (hK6.below w.heap.size (unhide BX).size hb)⟩
                  have D7 := hide (D6.grow b6)
                  clear D6 hK5 hK6 hG5 hS5 hS6 hS7 hT5 hT6 hT7 hA5 hN5 b6 hcx hcn hck GX RX BX CX CN CK NX hpk hrp y1 y2
                  go_wp2_with fail
                  have t1 := cell1_of_two (unhide D7).ref
                  have hu7 := hide (fun n => used_any (w6.drewN n) b s _ (unhide D7).gen)
                  go_quiet ((go_at_call 15; exact Calls.quiet_of_same (flip_same (unhide hu7 _))))
                  have D8 := hide (show DrawAt w (w6.drewN nq) b w3.heap.size s (U2) from (unhide D7).grow (below_drawn (Below.refl _ _) _))
                  clear t1 hu7 D7
                  go_wp2
                  go_roundw
                  case rel => exact ⟨i + 1, U2, by omega, by omega, by omega, by go_num, unhide D8⟩
                  case measure => simp [intOf]; omega
              · have q0 : (kind == 0) = false := by rw [beq_eq_false_iff_ne]; exact hk0
                have q1 : (kind == 1) = false := by rw [beq_eq_false_iff_ne]; exact hk1
                have q2 : (kind == 2) = false := by rw [beq_eq_false_iff_ne]; exact hk2
                have D7 := hide (show DrawAt w (wr.alloc (.cells #[.int .i64 kind, .int .i64 n, .int .i64 k] 44)) b w3.heap.size s U from (unhide HD).grow ((Below.refl _ _).alloc (Nat.le_refl _) _))
                go_wp2_with fail
                generalize hWx : World.alloc _ _ = w5
                rw [hWx] at D7
                clear hWx
                have t1 := cell1_of_two (unhide D7).ref
                have hu7 := hide (fun n => used_any (w5.drewN n) b s _ (unhide D7).gen)
                go_quiet ((go_at_call 15; exact Calls.quiet_of_same (flip_same (unhide hu7 _))))
                have D8 := hide (show DrawAt w (w5.drewN nq) b w3.heap.size s (U) from (unhide D7).grow (below_drawn (Below.refl _ _) _))
                clear t1 hu7 D7
                go_wp2
                go_roundw
                case rel => exact ⟨i + 1, U, by omega, by omega, by omega, by go_num, unhide D8⟩
                case measure => simp [intOf]; omega
        · go_wp2
          go_ret
          exact ⟨rfl, (unhide HD).below⟩
      · go_wp2
        go_ret
        exact ⟨rfl, (unhide HD).below⟩

end Go.Proofs.Ytlkbknjcjmpbfaa

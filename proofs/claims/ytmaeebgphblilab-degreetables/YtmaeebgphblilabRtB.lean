/- Contracts of ratio's Check, and of the document's Gcd, Check. -/
import Derived.Test.YtmaeebgphblilabRtA
namespace Go.Proofs.Ytmaeebgphblilab
open Go.RowKit
set_option linter.unusedVariables false

/-- a ratio as a value -/
def rv (n d : Int) : Value := .agg #[.int .i64 n, .int .i64 d]
/-- whether a ratio may be -/
def okR (n d : Int) : Bool := decide (-2147483647 ≤ n ∧ n ≤ 2147483647 ∧ 0 < d ∧ d ≤ 2147483647 ∧ Nat.gcd n.natAbs d.natAbs = 1)

set_option maxRecDepth 100000 in
theorem rgcd_neg (a b : Int) (w : World) (h : a < 0 ∨ b < 0) : Calls Try.prog 35 #[.int .i64 a, .int .i64 b] w fun e w' => e = .returned (.int .i64 0) ∧ w = w' := by
  by_cases h1 : a < 0
  · clear h
    go_enter Try.func35, Try.ntmps35
    go_wp2
    go_ret
    exact ⟨rfl, rfl⟩
  · have h2 : b < 0 := by omega
    clear h
    go_enter Try.func35, Try.ntmps35
    go_wp2
    go_ret
    exact ⟨rfl, rfl⟩

set_option maxRecDepth 100000 in
theorem rgcd_any (a b : Nat) (w : World) (ha : a ≤ 9223372036854775807) (hb : b ≤ 9223372036854775807) : Calls Try.prog 35 #[.int .i64 (a : Nat), .int .i64 (b : Nat)] w fun e w' => e = .returned (.int .i64 (Nat.gcd a b : Nat)) ∧ w = w' := by
  have q1 : ¬ (a : Int) < 0 := by omega
  have q2 : ¬ (b : Int) < 0 := by omega
  generalize hG : Nat.gcd a b = G
  have HG := hide hG
  clear hG
  go_enter Try.func35, Try.ntmps35
  go_wp2_with fail
  go_loopw [0, 1] (fun xv yv wr => w = wr ∧ ∃ x y : Nat, xv = .int .i64 (x : Nat) ∧ yv = .int .i64 (y : Nat) ∧ Hid (Nat.gcd x y = G) ∧ x ≤ 9223372036854775807 ∧ y ≤ 9223372036854775807) (fun _ yv _ => (intOf yv).toNat)
  case atStart => exact ⟨rfl, a, b, rfl, rfl, HG, ha, hb⟩
  case round =>
    obtain ⟨rfl, x, y, rfl, rfl, hg, hx, hy⟩ := hrel
    by_cases hz : y = 0
    · subst hz
      have hxG : x = G := by rw [← unhide hg, Nat.gcd_zero_right]
      go_wp2
      go_ret
      exact ⟨by rw [← hxG]; rfl, rfl⟩
    · have hz' : (0 : Int) < y := by omega
      have hr : (x : Int).tmod y = ((x % y : Nat) : Int) := rfl
      have hlt := Nat.mod_lt x (Nat.pos_of_ne_zero hz)
      have hs : Hid (Nat.gcd y (x % y) = G) := by show _ = _; rw [gcd_step]; exact unhide hg
      generalize x % y = r at *
      clear hz
      go_wp2
      go_roundw
      case rel => exact ⟨trivial, y, r, rfl, rfl, hs, hy, by omega⟩
      case measure => simp [intOf]; omega

theorem okR_of {n d : Int} (h : okR n d = true) : -2147483647 ≤ n ∧ n ≤ 2147483647 ∧ 0 < d ∧ d ≤ 2147483647 ∧ Nat.gcd n.natAbs d.natAbs = 1 := by unfold okR at h; simpa using h
theorem okR_not {n d : Int} (h : ¬ (-2147483647 ≤ n ∧ n ≤ 2147483647 ∧ 0 < d ∧ d ≤ 2147483647 ∧ Nat.gcd n.natAbs d.natAbs = 1)) : okR n d = false := by unfold okR; exact decide_eq_false h
theorem okR_mk {n d : Int} (h : -2147483647 ≤ n ∧ n ≤ 2147483647 ∧ 0 < d ∧ d ≤ 2147483647 ∧ Nat.gcd n.natAbs d.natAbs = 1) : okR n d = true := by unfold okR; exact decide_eq_true h

/-- a block of two cells, just made -/
theorem two_new (w : World) (x y : Value) (t : TypeId) : (w.alloc (.cells #[x, y] t)).cell? ⟨w.heap.size, 0, none⟩ = some x ∧ (w.alloc (.cells #[x, y] t)).cell? ⟨w.heap.size, 1, none⟩ = some y := by
  have hb := heap_alloc_new w (.cells #[x, y] t)
  constructor <;> rw [cell_of_row _ _ _ _ _ _ hb] <;> rfl

set_option maxRecDepth 100000 in
set_option maxHeartbeats 2000000 in
theorem check_any (n d : Int) (w : World) (hn0 : -9223372036854775808 ≤ n) (hn1 : n ≤ 9223372036854775807) (hd0 : -9223372036854775808 ≤ d) (hd1 : d ≤ 9223372036854775807) : Calls Try.prog 33 #[rv n d] w fun e w' => e = .returned (.bool (okR n d)) ∧ Below w.heap.size w w' := by
  have b0 : Below w.heap.size w (w.alloc (.cells #[.int .i64 n, .int .i64 d] 23)) := (Below.refl _ _).alloc (Nat.le_refl _) _
  have B0 := hide b0
  have hwn := hide (fun w => within_any n 2147483647 w (by omega) (by omega))
  have hwd := hide (fun w => within_any d 2147483647 w (by omega) (by omega))
  obtain ⟨c0, c1⟩ := two_new w (.int .i64 n) (.int .i64 d) 23
  obtain ⟨W, hW⟩ : ∃ W, W = w.alloc (.cells #[.int .i64 n, .int .i64 d] 23) := ⟨_, rfl⟩
  rw [← hW] at c0 c1 B0
  have hc0 : ∀ x : Gb W, x.w.cell? ⟨w.heap.size, 0, none⟩ = some (.int .i64 n) := fun x => gb_cell c0 x
  have hc1 : ∀ x : Gb W, x.w.cell? ⟨w.heap.size, 1, none⟩ = some (.int .i64 d) := fun x => gb_cell c1 x
  have HW := hide hW
  have hne := gb_ne W
  clear c0 c1 hW b0
  unfold rv
  have hsz := hide (fun w => size_any n w)
  have hgc := hide (fun w => gcd_any n.natAbs d.natAbs w)
  have e1 := hide (@okR_mk n d)
  have e2 := hide (@okR_not n d)
  generalize okR n d = E at *
  by_cases g1 : -2147483647 ≤ n ∧ n ≤ 2147483647
  · rw [decide_eq_true g1] at hwn
    have hsz := hide (fun w => unhide hsz w (by omega) (by omega))
    by_cases g2 : -2147483647 ≤ d ∧ d ≤ 2147483647
    · rw [decide_eq_true g2] at hwd
      by_cases g3 : 0 < d
      · have hgc := hide (fun w => unhide hgc w (by omega) (by omega))
        have hdd : (d.natAbs : Int) = d := by omega
        by_cases g4 : Nat.gcd n.natAbs d.natAbs = 1
        · obtain rfl := unhide e1 ⟨g1.1, g1.2, g3, g2.2, g4⟩
          rw [g4, hdd] at hgc
          clear g4 hdd e1 e2
          generalize n.natAbs = A at *
          go_enter Try.func33, Try.ntmps33
          go_wp2_with fail
          rw [← unhide HW]
          refine wp_region_gr (fun x => Below W.heap.size W x) (by kernel_rfl) (by kernel_rfl) (gb_start W) ?_
          iterate 4 (go_big_quiet_step ((go_at_call 37; exact gb_same (unhide hwn _))))
          repeat (go_big_quiet_step ((first | (go_at_call 37; exact gb_same (unhide hwd _)) | (go_at_call 41; exact gb_same (unhide hsz _)) | (go_at_call 40; exact gb_call (unhide hgc _)))))
          refine wpQuiet_nil ?_
          rintro w7 ⟨⟨_, b7⟩, rfl⟩
          have B7 := hide ((unhide B0).trans (b7.mono (unhide B0).size))
          clear b7 hc0 hc1 hne
          go_wp2
          go_ret
          exact ⟨rfl, unhide B7⟩
        · obtain rfl := unhide e2 (fun h => g4 h.2.2.2.2)
          rw [hdd] at hgc
          have g5 : ((Nat.gcd n.natAbs d.natAbs : Nat) : Int) ≠ 1 := by omega
          clear g4 hdd e1 e2
          generalize Nat.gcd n.natAbs d.natAbs = G at *
          have g6 : decide ((G : Int) = 1) = false := decide_eq_false g5
          generalize n.natAbs = A at *
          go_enter Try.func33, Try.ntmps33
          go_wp2_with fail
          rw [← unhide HW]
          refine wp_region_gr (fun x => Below W.heap.size W x) (by kernel_rfl) (by kernel_rfl) (gb_start W) ?_
          iterate 4 (go_big_quiet_step ((go_at_call 37; exact gb_same (unhide hwn _))))
          repeat (go_big_quiet_step ((first | (go_at_call 37; exact gb_same (unhide hwd _)) | (go_at_call 41; exact gb_same (unhide hsz _)) | (go_at_call 40; exact gb_call (unhide hgc _)))))
          refine wpQuiet_nil ?_
          rintro w7 ⟨⟨_, b7⟩, rfl⟩
          have B7 := hide ((unhide B0).trans (b7.mono (unhide B0).size))
          clear b7 hc0 hc1 hne
          go_wp2
          go_ret
          exact ⟨by show Ending.returned (.bool ((G : Int) == 1)) = _; rw [show ((G : Int) == 1) = false from beq_eq_false_iff_ne.2 g5], unhide B7⟩
      · obtain rfl := unhide e2 (fun h => g3 h.2.2.1)
        have g5 : decide (0 < d) = false := decide_eq_false g3
        clear e1 e2 hgc
        go_enter Try.func33, Try.ntmps33
        go_wp2_with fail
        rw [← unhide HW]
        refine wp_region_gr (fun x => Below W.heap.size W x) (by kernel_rfl) (by kernel_rfl) (gb_start W) ?_
        iterate 4 (go_big_quiet_step ((go_at_call 37; exact gb_same (unhide hwn _))))
        repeat (go_big_quiet_step ((first | (go_at_call 37; exact gb_same (unhide hwd _)) | (go_at_call 41; exact gb_same (unhide hsz _)) | (go_at_call 40; exact gb_call (unhide hgc _)))))
        refine wpQuiet_nil ?_
        rintro w7 ⟨⟨_, b7⟩, rfl⟩
        have B7 := hide ((unhide B0).trans (b7.mono (unhide B0).size))
        clear b7 hc0 hc1 hne
        go_wp2
        go_ret
        exact ⟨rfl, unhide B7⟩
    · obtain rfl := unhide e2 (fun h => g2 ⟨by omega, h.2.2.2.1⟩)
      rw [decide_eq_false g2] at hwd
      clear e1 e2 hgc g2
      go_enter Try.func33, Try.ntmps33
      go_wp2_with fail
      rw [← unhide HW]
      refine wp_region_gr (fun x => Below W.heap.size W x) (by kernel_rfl) (by kernel_rfl) (gb_start W) ?_
      iterate 4 (go_big_quiet_step ((go_at_call 37; exact gb_same (unhide hwn _))))
      repeat (go_big_quiet_step ((first | (go_at_call 37; exact gb_same (unhide hwd _)) | (go_at_call 41; exact gb_same (unhide hsz _)) | (go_at_call 40; exact gb_call (unhide hgc _)))))
      refine wpQuiet_nil ?_
      rintro w7 ⟨⟨_, b7⟩, rfl⟩
      have B7 := hide ((unhide B0).trans (b7.mono (unhide B0).size))
      clear b7 hc0 hc1 hne
      go_wp2
      go_ret
      exact ⟨rfl, unhide B7⟩
  · obtain rfl := unhide e2 (fun h => g1 ⟨h.1, h.2.1⟩)
    rw [decide_eq_false g1] at hwn
    clear e1 e2 hgc g1 hsz
    go_enter Try.func33, Try.ntmps33
    go_wp2_with fail
    rw [← unhide HW]
    refine wp_region_gr (fun x => Below W.heap.size W x) (by kernel_rfl) (by kernel_rfl) (gb_start W) ?_
    iterate 4 (go_big_quiet_step ((go_at_call 37; exact gb_same (unhide hwn _))))
    repeat (go_big_quiet_step ((first | (go_at_call 37; exact gb_same (unhide hwd _)) | (go_at_call 41; exact gb_same (unhide hsz _)) | (go_at_call 40; exact gb_call (unhide hgc _)))))
    refine wpQuiet_nil ?_
    rintro w7 ⟨⟨_, b7⟩, rfl⟩
    have B7 := hide ((unhide B0).trans (b7.mono (unhide B0).size))
    clear b7 hc0 hc1 hne
    go_wp2
    go_ret
    exact ⟨rfl, unhide B7⟩

set_option maxRecDepth 100000 in
set_option maxHeartbeats 2000000 in
theorem rcheck_any (n d : Int) (w : World) (hn0 : -9223372036854775808 ≤ n) (hn1 : n ≤ 9223372036854775807) (hd0 : -9223372036854775808 ≤ d) (hd1 : d ≤ 9223372036854775807) : Calls Try.prog 29 #[rv n d] w fun e w' => e = .returned (.bool (okR n d)) ∧ Below w.heap.size w w' := by
  have b0 : Below w.heap.size w (w.alloc (.cells #[.int .i64 n, .int .i64 d] 32)) := (Below.refl _ _).alloc (Nat.le_refl _) _
  have B0 := hide b0
  obtain ⟨c0, c1⟩ := two_new w (.int .i64 n) (.int .i64 d) 32
  obtain ⟨W, hW⟩ : ∃ W, W = w.alloc (.cells #[.int .i64 n, .int .i64 d] 32) := ⟨_, rfl⟩
  rw [← hW] at c0 c1 B0
  have hc0 : ∀ x : Gb W, x.w.cell? ⟨w.heap.size, 0, none⟩ = some (.int .i64 n) := fun x => gb_cell c0 x
  have hc1 : ∀ x : Gb W, x.w.cell? ⟨w.heap.size, 1, none⟩ = some (.int .i64 d) := fun x => gb_cell c1 x
  have HW := hide hW
  have hne := gb_ne W
  clear c0 c1 hW b0
  unfold rv
  have hsz := hide (fun w => rabs_any n w)
  have hgc := hide (fun w => rgcd_any n.natAbs d.natAbs w)
  have e1 := hide (@okR_mk n d)
  have e2 := hide (@okR_not n d)
  generalize okR n d = E at *
  by_cases g1 : 0 < d
  · by_cases g2 : d ≤ 2147483647
    · have hdd : (d.natAbs : Int) = d := by omega
      by_cases g3 : -2147483647 ≤ n
      · by_cases g4 : n ≤ 2147483647
        · have hsz := hide (fun w => unhide hsz w (by omega) (by omega))
          have hgc := hide (fun w => unhide hgc w (by omega) (by omega))
          rw [hdd] at hgc
          by_cases g5 : Nat.gcd n.natAbs d.natAbs = 1
          · obtain rfl := unhide e1 ⟨g3, g4, g1, g2, g5⟩
            rw [g5] at hgc
            clear g5 hdd e1 e2
            generalize n.natAbs = A at *
            go_enter Try.func29, Try.ntmps29
            go_wp2_with fail
            rw [← unhide HW]
            refine wp_region_gr (fun x => Below W.heap.size W x) (by kernel_rfl) (by kernel_rfl) (gb_start W) ?_
            repeat (go_big_quiet_step ((first | (go_at_call 36; exact gb_same (unhide hsz _)) | (go_at_call 35; exact gb_same (unhide hgc _)))))
            refine wpQuiet_nil ?_
            rintro w7 ⟨⟨_, b7⟩, rfl⟩
            have B7 := hide ((unhide B0).trans (b7.mono (unhide B0).size))
            clear b7 hc0 hc1 hne
            go_wp2
            go_ret
            exact ⟨rfl, unhide B7⟩
          · obtain rfl := unhide e2 (fun h => g5 h.2.2.2.2)
            have g6 : ((Nat.gcd n.natAbs d.natAbs : Nat) : Int) ≠ 1 := by omega
            clear g5 hdd e1 e2
            generalize Nat.gcd n.natAbs d.natAbs = G at *
            have g7 : decide ((G : Int) = 1) = false := decide_eq_false g6
            generalize n.natAbs = A at *
            go_enter Try.func29, Try.ntmps29
            go_wp2_with fail
            rw [← unhide HW]
            refine wp_region_gr (fun x => Below W.heap.size W x) (by kernel_rfl) (by kernel_rfl) (gb_start W) ?_
            repeat (go_big_quiet_step ((first | (go_at_call 36; exact gb_same (unhide hsz _)) | (go_at_call 35; exact gb_same (unhide hgc _)))))
            refine wpQuiet_nil ?_
            rintro w7 ⟨⟨_, b7⟩, rfl⟩
            have B7 := hide ((unhide B0).trans (b7.mono (unhide B0).size))
            clear b7 hc0 hc1 hne
            go_wp2
            go_ret
            exact ⟨by show Ending.returned (.bool ((G : Int) == 1)) = _; rw [show ((G : Int) == 1) = false from beq_eq_false_iff_ne.2 g6], unhide B7⟩
        · obtain rfl := unhide e2 (fun h => g4 h.2.1)
          have g5 : decide (n ≤ 2147483647) = false := decide_eq_false g4
          clear e1 e2 hgc hdd
          go_enter Try.func29, Try.ntmps29
          go_wp2_with fail
          rw [← unhide HW]
          refine wp_region_gr (fun x => Below W.heap.size W x) (by kernel_rfl) (by kernel_rfl) (gb_start W) ?_
          repeat (go_big_quiet_step ((first | (go_at_call 36; exact gb_same (unhide hsz _)) | (go_at_call 35; exact gb_same (unhide hgc _)))))
          refine wpQuiet_nil ?_
          rintro w7 ⟨⟨_, b7⟩, rfl⟩
          have B7 := hide ((unhide B0).trans (b7.mono (unhide B0).size))
          clear b7 hc0 hc1 hne
          go_wp2
          go_ret
          exact ⟨rfl, unhide B7⟩
      · obtain rfl := unhide e2 (fun h => g3 h.1)
        have g5 : decide (-2147483647 ≤ n) = false := decide_eq_false g3
        clear e1 e2 hgc hdd
        go_enter Try.func29, Try.ntmps29
        go_wp2_with fail
        rw [← unhide HW]
        refine wp_region_gr (fun x => Below W.heap.size W x) (by kernel_rfl) (by kernel_rfl) (gb_start W) ?_
        repeat (go_big_quiet_step ((first | (go_at_call 36; exact gb_same (unhide hsz _)) | (go_at_call 35; exact gb_same (unhide hgc _)))))
        refine wpQuiet_nil ?_
        rintro w7 ⟨⟨_, b7⟩, rfl⟩
        have B7 := hide ((unhide B0).trans (b7.mono (unhide B0).size))
        clear b7 hc0 hc1 hne
        go_wp2
        go_ret
        exact ⟨rfl, unhide B7⟩
    · obtain rfl := unhide e2 (fun h => g2 h.2.2.2.1)
      have g5 : decide (d ≤ 2147483647) = false := decide_eq_false g2
      clear e1 e2 hgc
      go_enter Try.func29, Try.ntmps29
      go_wp2_with fail
      rw [← unhide HW]
      refine wp_region_gr (fun x => Below W.heap.size W x) (by kernel_rfl) (by kernel_rfl) (gb_start W) ?_
      repeat (go_big_quiet_step ((first | (go_at_call 36; exact gb_same (unhide hsz _)) | (go_at_call 35; exact gb_same (unhide hgc _)))))
      refine wpQuiet_nil ?_
      rintro w7 ⟨⟨_, b7⟩, rfl⟩
      have B7 := hide ((unhide B0).trans (b7.mono (unhide B0).size))
      clear b7 hc0 hc1 hne
      go_wp2
      go_ret
      exact ⟨rfl, unhide B7⟩
  · obtain rfl := unhide e2 (fun h => g1 h.2.2.1)
    have g5 : decide (0 < d) = false := decide_eq_false g1
    clear e1 e2 hgc
    go_enter Try.func29, Try.ntmps29
    go_wp2_with fail
    rw [← unhide HW]
    refine wp_region_gr (fun x => Below W.heap.size W x) (by kernel_rfl) (by kernel_rfl) (gb_start W) ?_
    repeat (go_big_quiet_step ((first | (go_at_call 36; exact gb_same (unhide hsz _)) | (go_at_call 35; exact gb_same (unhide hgc _)))))
    refine wpQuiet_nil ?_
    rintro w7 ⟨⟨_, b7⟩, rfl⟩
    have B7 := hide ((unhide B0).trans (b7.mono (unhide B0).size))
    clear b7 hc0 hc1 hne
    go_wp2
    go_ret
    exact ⟨rfl, unhide B7⟩

end Go.Proofs.Ytmaeebgphblilab

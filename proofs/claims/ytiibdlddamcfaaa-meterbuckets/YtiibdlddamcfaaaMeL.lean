/- meter: MeterBuckets. -/
import Derived.Test.YtiibdlddamcfaaaMeK
import Derived.Test.YtiibdlddamcfaaaBox
namespace Go.Proofs.Ytiibdlddamcfaaa
open Go.RowKit
set_option linter.unusedVariables false
attribute [local go_sem] Oper.semAt_some

theorem zero_db : ∀ w, (zeroValue 27).run Try.prog w = .ok (.agg #[.int .i64 0, .int .i64 0, .int .i64 0]) w := fun w => Try.zeroValue27 w
theorem three_one (x y z : Int) : (#[Value.int .i64 x, Value.int .i64 y, Value.int .i64 z].all fun v => v.oneCell') = true := by simp [Value.oneCell']
set_option maxRecDepth 100000 in
set_option maxHeartbeats 4000000 in
theorem meterBuckets_no (r s : Int) (a0 : Option Addr) (n c : Nat) (w : World) (h : ¬ bkOk r s) :
    Calls Try.prog 3 #[.int .i64 r, .int .i64 s, .slice a0 n c] w fun e w' => e = .returned (.bool true) ∧ Below w.heap.size w w' := by
  have g1 := hide (newBucket_no r s w h)
  have hc : r < 1 ∨ (¬ r < 1 ∧ 65536 < r) ∨ (¬ r < 1 ∧ ¬ 65536 < r ∧ s < 1) ∨ (¬ r < 1 ∧ ¬ 65536 < r ∧ ¬ s < 1 ∧ 65536 < s) := by unfold bkOk at h; omega
  clear h
  go_enter Try.func3, Try.ntmps3
  go_wp2_with fail
  refine (unhide g1).mono ?_
  rintro e w1 ⟨rfl, rfl⟩
  clear g1
  rcases hc with h | ⟨h1, h2⟩ | ⟨h1, h2, h3⟩ | ⟨h1, h2, h3, h4⟩
  all_goals
    go_wp2_with fail
    refine (mawake_any w).mono ?_
    rintro e w1 ⟨rfl, b1⟩
    have B1 := hide b1
    clear b1
    go_wp2
    go_ret
    exact ⟨rfl, unhide B1⟩
theorem Bk.far3 {w : World} {b b' : Nat} {r s l : Int} (h : Bk w b r s l) (hn : b ≠ b') (x y z : Value) : Bk (((w.setCell ⟨b', 0, none⟩ x).setCell ⟨b', 1, none⟩ y).setCell ⟨b', 2, none⟩ z) b r s l :=
  (Below.heap_setCell _ _ _ _ hn).trans ((Below.heap_setCell _ _ _ _ hn).trans ((Below.heap_setCell _ _ _ _ hn).trans h))
set_option maxRecDepth 100000 in
set_option maxHeartbeats 20000000 in
theorem meterBuckets_yes (r s : Int) (a0 : Option Addr) (n c : Nat) (F : Nat → Int × Int) (w : World) (hok : bkOk r s) (hD : DropsAt w a0 n F) :
    Calls Try.prog 3 #[.int .i64 r, .int .i64 s, .slice a0 n c] w fun e w' => e = .returned (.bool true) ∧ Below w.heap.size w w' := by
  have g1 := hide (newBucket_yes r s w hok)
  have hr : 1 ≤ r ∧ r ≤ 65536 := ⟨hok.1, hok.2.1⟩
  have hs : 0 ≤ s ∧ s ≤ 65536 := ⟨by have := hok.2.2.1; omega, hok.2.2.2⟩
  have r1 : ¬ r < 1 := by omega
  have r2 : ¬ 65536 < r := by omega
  have r3 : ¬ s < 1 := by have := hok.2.2.1; omega
  have r4 : ¬ 65536 < s := by omega
  have HD0 := hide hD
  clear hD hok
  go_enter Try.func3, Try.ntmps3
  go_wp2_with fail
  refine (unhide g1).mono ?_
  rintro e w1 ⟨rfl, hbk1, b1, hl1⟩
  have HK1 := hide (hbk1.up ((Below.refl _ w1).alloc (Nat.le_refl _) (.cells #[.int .i64 r, .int .i64 s, .int .i64 s] 27)))
  have B1 := hide (b1.alloc b1.size (.cells #[.int .i64 r, .int .i64 s, .int .i64 s] 27))
  have HD1 : Hid (Db (w1.alloc (.cells #[.int .i64 r, .int .i64 s, .int .i64 s] 27)) w1.heap.size r s s) := heap_alloc_new w1 _
  clear hbk1 b1
  go_wp2_with fail
  generalize w1.alloc (.cells #[.int .i64 r, .int .i64 s, .int .i64 s] 27) = W1 at *
  refine (mawake_any W1).mono ?_
  rintro e w2 ⟨rfl, b2⟩
  have HK2 := hide ((unhide HK1).up b2)
  have HD2 := hide ((unhide HD1).up b2)
  have B2 := hide ((unhide B1).trans (b2.mono (unhide B1).size))
  clear b2 HK1 B1 g1 HD1
  go_wp2_with fail
  go_loopw [9] (fun iv wr => ∃ (i : Nat) (L : Int), i ≤ n ∧ iv = .int .i64 i ∧ Bk wr w.heap.size r s L ∧ Db wr w1.heap.size r s L ∧ (0 ≤ L ∧ L ≤ s) ∧ Below w.heap.size w wr) (fun iv _ => n - (intOf iv).toNat)
  case atStart => exact ⟨0, s, by omega, rfl, unhide HK2, unhide HD2, by omega, unhide B2⟩
  case round =>
    obtain ⟨i, L, hin, rfl, hbk, hd, hL, hb⟩ := hrel
    have HBK := hide hbk
    have HD := hide hd
    have HB := hide hb
    clear hbk hb hd HK2 B2 HD2
    by_cases hlt : i < n ∧ i < 60
    · have q1 : (i : Int) < n := by omega
      have q2 : (i : Int) < 60 := by omega
      obtain ⟨gd, od, rfl, c0, c1, hN0, hN1⟩ := drop_cells (unhide HD0) (unhide HB) i hlt.1
      have HCELL : Hid (∀ x, Below w.heap.size w x → x.cell? ⟨gd, od + i * 2 + 1, none⟩ = some (.int .i64 (F i).2)) := by
        intro x hx
        obtain ⟨g', o', h1, _, h2, _⟩ := drop_cells (unhide HD0) hx i hlt.1
        cases h1
        exact h2
      generalize (F i).1 = kd at *
      generalize (F i).2 = N at *
      by_cases k0 : kd = 0
      · subst k0
        have gt := hide (tick_any r s L w.heap.size wr (by omega) hs (by omega) (unhide HBK))
        have gd2 := hide (fun x => dtick_any r s L x (by omega) hs (by omega))
        have hti := tickL_in (r := r) (s := s) (l := L) (by omega) hL
        obtain ⟨L2, hL2⟩ : ∃ L2, L2 = tickL r s L := ⟨_, rfl⟩
        rw [← hL2] at gt hti gd2
        clear hL2
        go_wp2_with fail
        refine (unhide gt).mono ?_
        rintro e w2 ⟨rfl, hbk2, hk2⟩
        have HBK2 := hide hbk2
        have HB2 := hide ((unhide HB).trans (hk2.below w.heap.size (unhide HB).size (Nat.le_refl _)))
        have HD2 := hide ((unhide HD).kept hk2 (by omega))
        have e0 := (unhide HD2).c0
        have e1 := (unhide HD2).c1
        have e2 := (unhide HD2).c2
        clear hbk2 hk2 HBK HB gt c0 c1 HD
        go_wp2_with fail
        refine (unhide gd2 w2).mono ?_
        rintro e w3 ⟨rfl, b3⟩
        have d := (unhide HD2).up b3
        have s0 := d.c0
        have s1 := d.c1
        have s2 := d.c2
        have t0 := d.free 0
        have t1 := d.free 1
        have t2 := d.free 2
        have HD := hide (d.set3 r s L2)
        have HBK := hide (((((unhide HBK2).up b3).far3 (b' := w1.heap.size) (by omega) (.int .i64 r) (.int .i64 s) (.int .i64 L2))))
        have HB := hide (((((unhide HB2).trans (b3.mono (unhide HB2).size)).setCell (p := ⟨w1.heap.size, 0, none⟩) (by show _ ≤ w1.heap.size; omega) (.int .i64 r)).setCell (p := ⟨w1.heap.size, 1, none⟩) (by show _ ≤ w1.heap.size; omega) (.int .i64 s)).setCell (p := ⟨w1.heap.size, 2, none⟩) (by show _ ≤ w1.heap.size; omega) (.int .i64 L2))
        clear d b3 e0 e1 e2 HD2 HBK2 HB2
        go_wp2_with fail
        generalize ((w3.setCell ⟨w1.heap.size, 0, none⟩ (.int .i64 r)).setCell ⟨w1.heap.size, 1, none⟩ (.int .i64 s)).setCell ⟨w1.heap.size, 2, none⟩ (.int .i64 L2) = w4 at *
        have g5 := hide (fun x h => level_any r s L2 w.heap.size x h)
        go_wp2_with fail
        refine wp_region_gr (fun x => Below w4.heap.size w4 x) (by kernel_rfl) (by kernel_rfl) (gb_start w4) ?_
        have hneZ : Nonempty (Gb w4) := gb_ne w4
        have pz : ∀ y : Gb w4, y.w.cell? ⟨w1.heap.size, 2, none⟩ = some (.int .i64 L2) := fun y => gb_cell (unhide HD).c2 y
        repeat (go_big_quiet_step ((go_at_call 17; exact gb_same (unhide g5 _ ((unhide HBK).up (Gr.ok _))))))
        refine wpQuiet_nil ?_
        rintro wz ⟨xz, rfl⟩
        have bz := xz.ok
        have HBKz := hide ((unhide HBK).up bz)
        have HDz := hide ((unhide HD).up bz)
        have HBz := hide ((unhide HB).trans (bz.mono (unhide HB).size))
        generalize xz.w = wz at *
        clear bz pz g5 HBK HD HB
        go_wp2
        go_roundw
        case rel => exact ⟨i + 1, L2, by omega, by go_num, unhide HBKz, unhide HDz, hti, unhide HBz⟩
        case measure => simp [intOf]; omega
      by_cases k1 : kd = 1
      · subst k1
        have gt := hide (fun x h => take_any r s L N w.heap.size x hs (by omega) h)
        have gd2 := hide (fun x => dtake_any r s L N x hs (by omega))
        have hti := takeL_in (s := s) (l := L) (n := N) hL
        obtain ⟨L2, hL2⟩ : ∃ L2, L2 = takeL s L N := ⟨_, rfl⟩
        obtain ⟨E2, hE2⟩ : ∃ E2, E2 = takeE s L N := ⟨_, rfl⟩
        rw [← hL2, ← hE2] at gt gd2
        rw [← hL2] at hti
        clear hL2 hE2
        go_wp2_with fail
        refine wp_region_box 10 11 10 76 27 #[.int .i64 0, .int .i64 0, .int .i64 0] #[.int .i64 r, .int .i64 s, .int .i64 L2] ?A0 (by omega) (by omega) (by kernel_rfl) (by kernel_rfl) (by kernel_rfl) (by kernel_rfl) zero_db rfl (by kernel_rfl) (three_one _ _ _) ?lex ?hq ?_
        case lex =>
          intro X
          have p0 : ∀ y : Gb X.w, y.w.cell? ⟨w1.heap.size, 0, none⟩ = some (.int .i64 r) := fun y => gb_cell ((unhide HD).up X.ok).c0 y
          have p1 : ∀ y : Gb X.w, y.w.cell? ⟨w1.heap.size, 1, none⟩ = some (.int .i64 s) := fun y => gb_cell ((unhide HD).up X.ok).c1 y
          have p2 : ∀ y : Gb X.w, y.w.cell? ⟨w1.heap.size, 2, none⟩ = some (.int .i64 L) := fun y => gb_cell ((unhide HD).up X.ok).c2 y
          have p3 : ∀ y : Gb X.w, y.w.cell? ⟨gd, od + i * 2 + 1, none⟩ = some (.int .i64 N) := fun y => gb_cell (unhide HCELL X.w ((unhide HB).trans (X.ok.mono (unhide HB).size))) y
          have hne := gb_ne X.w
          dsimp only [boxRest, List.eraseIdx_cons_succ, List.eraseIdx_cons_zero]
          repeat (go_big_quiet_step ((go_at_call 13; exact gb_call (unhide gd2 _))))
          refine wpQuiet_nil ?_
          exact rfl
        case hq => exact rfl
        intro u0 w2 b2 hu tu
        simp only [Act.put, List.setIfInBounds_toArray, List.set_cons_succ, List.set_cons_zero]
        have HU : Hid (Db w2 u0 r s L2) := tu
        have v0 := (unhide HU).c0
        have v1 := (unhide HU).c1
        have v2 := (unhide HU).c2
        have d := (unhide HD).up b2
        have s0 := d.c0
        have s1 := d.c1
        have s2 := d.c2
        have t0 := d.free 0
        have t1 := d.free 1
        have t2 := d.free 2
        have HD2 := hide (d.set3 r s L2)
        have HBK2 := hide (((((unhide HBK).up b2).far3 (b' := w1.heap.size) (by omega) (.int .i64 r) (.int .i64 s) (.int .i64 L2))))
        have HB2 := hide (((((unhide HB).trans (b2.mono (unhide HB).size)).setCell (p := ⟨w1.heap.size, 0, none⟩) (by show _ ≤ w1.heap.size; omega) (.int .i64 r)).setCell (p := ⟨w1.heap.size, 1, none⟩) (by show _ ≤ w1.heap.size; omega) (.int .i64 s)).setCell (p := ⟨w1.heap.size, 2, none⟩) (by show _ ≤ w1.heap.size; omega) (.int .i64 L2))
        have hcell2 : Hid ((((w2.setCell ⟨w1.heap.size, 0, none⟩ (.int .i64 r)).setCell ⟨w1.heap.size, 1, none⟩ (.int .i64 s)).setCell ⟨w1.heap.size, 2, none⟩ (.int .i64 L2)).cell? ⟨gd, od + i * 2 + 1, none⟩ = some (.int .i64 N)) := unhide HCELL _ (unhide HB2)
        have cN := unhide hcell2
        clear d b2 hu tu HD HBK HB HU c0 c1
        go_wp2_with fail
        generalize ((w2.setCell ⟨w1.heap.size, 0, none⟩ (.int .i64 r)).setCell ⟨w1.heap.size, 1, none⟩ (.int .i64 s)).setCell ⟨w1.heap.size, 2, none⟩ (.int .i64 L2) = w3 at *
        refine (unhide gt w3 (unhide HBK2)).mono ?_
        rintro e w4 ⟨rfl, hbk4, hk4⟩
        have HBK := hide hbk4
        have HD := hide ((unhide HD2).kept hk4 (by omega))
        have HB := hide ((unhide HB2).trans (hk4.below w.heap.size (unhide HB2).size (Nat.le_refl _)))
        clear hbk4 hk4 HBK2 HD2 HB2 s0 s1 s2 t0 t1 t2 v0 v1 v2 cN hcell2
        have g5 := hide (fun x h => level_any r s L2 w.heap.size x h)
        go_wp2_with fail
        refine wp_region_gr (fun x => Below w4.heap.size w4 x) (by kernel_rfl) (by kernel_rfl) (gb_start w4) ?_
        have hneZ : Nonempty (Gb w4) := gb_ne w4
        have pz : ∀ y : Gb w4, y.w.cell? ⟨w1.heap.size, 2, none⟩ = some (.int .i64 L2) := fun y => gb_cell (unhide HD).c2 y
        repeat (go_big_quiet_step ((go_at_call 17; exact gb_same (unhide g5 _ ((unhide HBK).up (Gr.ok _))))))
        refine wpQuiet_nil ?_
        rintro wz ⟨xz, rfl⟩
        have bz := xz.ok
        have HBKz := hide ((unhide HBK).up bz)
        have HDz := hide ((unhide HD).up bz)
        have HBz := hide ((unhide HB).trans (bz.mono (unhide HB).size))
        generalize xz.w = wz at *
        clear bz pz g5 HBK HD HB
        go_wp2
        go_roundw
        case rel => exact ⟨i + 1, L2, by omega, by go_num, unhide HBKz, unhide HDz, hti, unhide HBz⟩
        case measure => simp [intOf]; omega
      by_cases k2 : kd = 2
      · subst k2
        have g6 := hide (wait_any r s L N w.heap.size wr hr hs (by omega) (unhide HBK))
        by_cases hNs : s < N
        · have hK : waitN r s L N = -1 := by unfold waitN; rw [if_pos hNs]
          rw [hK] at g6
          have g7 := hide (fun x => dwait_over r s L N x hNs)
          clear hK
          go_wp2_with fail
          refine (unhide g6).mono ?_
          rintro e w2 ⟨rfl, b2, hh2⟩
          clear hh2
          have HBK2 := hide ((unhide HBK).up b2)
          have HD2 := hide ((unhide HD).up b2)
          have HB2 := hide ((unhide HB).trans (b2.mono (unhide HB).size))
          clear b2 HBK HD HB c0 c1 g6
          go_wp2_with fail
          refine wp_region_gr (fun x => Below w2.heap.size w2 x) (by kernel_rfl) (by kernel_rfl) (gb_start w2) ?_
          have hneY : Nonempty (Gb w2) := gb_ne w2
          have p0 : ∀ y : Gb w2, y.w.cell? ⟨w1.heap.size, 0, none⟩ = some (.int .i64 r) := fun y => gb_cell (unhide HD2).c0 y
          have p1 : ∀ y : Gb w2, y.w.cell? ⟨w1.heap.size, 1, none⟩ = some (.int .i64 s) := fun y => gb_cell (unhide HD2).c1 y
          have p2 : ∀ y : Gb w2, y.w.cell? ⟨w1.heap.size, 2, none⟩ = some (.int .i64 L) := fun y => gb_cell (unhide HD2).c2 y
          have p3 : ∀ y : Gb w2, y.w.cell? ⟨gd, od + i * 2 + 1, none⟩ = some (.int .i64 N) := fun y => unhide HCELL _ ((unhide HB2).trans (y.ok.mono (unhide HB2).size))
          repeat (go_big_quiet_step (((go_at_call 16; exact gb_call (unhide g7 _)))))
          refine wpQuiet_nil ?_
          rintro wy ⟨xy, rfl⟩
          have by' := xy.ok
          have HBK := hide ((unhide HBK2).up by')
          have HD := hide ((unhide HD2).up by')
          have HB := hide ((unhide HB2).trans (by'.mono (unhide HB2).size))
          generalize xy.w = w4 at *
          clear by' p0 p1 p2 p3 HBK2 HD2 HB2
          have g5 := hide (fun x h => level_any r s L w.heap.size x h)
          go_wp2_with fail
          refine wp_region_gr (fun x => Below w4.heap.size w4 x) (by kernel_rfl) (by kernel_rfl) (gb_start w4) ?_
          have hneZ : Nonempty (Gb w4) := gb_ne w4
          have pz : ∀ y : Gb w4, y.w.cell? ⟨w1.heap.size, 2, none⟩ = some (.int .i64 L) := fun y => gb_cell (unhide HD).c2 y
          repeat (go_big_quiet_step ((go_at_call 17; exact gb_same (unhide g5 _ ((unhide HBK).up (Gr.ok _))))))
          refine wpQuiet_nil ?_
          rintro wz ⟨xz, rfl⟩
          have bz := xz.ok
          have HBKz := hide ((unhide HBK).up bz)
          have HDz := hide ((unhide HD).up bz)
          have HBz := hide ((unhide HB).trans (bz.mono (unhide HB).size))
          generalize xz.w = wz at *
          clear bz pz g5 HBK HD HB
          go_wp2
          go_roundw
          case rel => exact ⟨i + 1, L, by omega, by go_num, unhide HBKz, unhide HDz, hL, unhide HBz⟩
          case measure => simp [intOf]; omega
        · by_cases hk : waitN r s L N ≤ 2000
          · have g7 := hide (fun x => dwait_any r s L N x hr hs hL hNs)
            generalize waitN r s L N = K at *
            go_wp2_with fail
            refine (unhide g6).mono ?_
            rintro e w2 ⟨rfl, b2, hh2⟩
            clear hh2
            have HBK2 := hide ((unhide HBK).up b2)
            have HD2 := hide ((unhide HD).up b2)
            have HB2 := hide ((unhide HB).trans (b2.mono (unhide HB).size))
            clear b2 HBK HD HB c0 c1 g6
            go_wp2_with fail
            refine wp_region_gr (fun x => Below w2.heap.size w2 x) (by kernel_rfl) (by kernel_rfl) (gb_start w2) ?_
            have hneY : Nonempty (Gb w2) := gb_ne w2
            have p0 : ∀ y : Gb w2, y.w.cell? ⟨w1.heap.size, 0, none⟩ = some (.int .i64 r) := fun y => gb_cell (unhide HD2).c0 y
            have p1 : ∀ y : Gb w2, y.w.cell? ⟨w1.heap.size, 1, none⟩ = some (.int .i64 s) := fun y => gb_cell (unhide HD2).c1 y
            have p2 : ∀ y : Gb w2, y.w.cell? ⟨w1.heap.size, 2, none⟩ = some (.int .i64 L) := fun y => gb_cell (unhide HD2).c2 y
            have p3 : ∀ y : Gb w2, y.w.cell? ⟨gd, od + i * 2 + 1, none⟩ = some (.int .i64 N) := fun y => unhide HCELL _ ((unhide HB2).trans (y.ok.mono (unhide HB2).size))
            have y1 : decide (s < N) = false := by simp; omega
            have y2 : ¬ s < N := by omega
            have y3 : decide (K ≤ 2000) = true := by simp; omega
            have y4 : K ≤ 2000 := by omega
            repeat (go_big_quiet_step (((go_at_call 16; exact gb_call (unhide g7 _)))))
            refine wpQuiet_nil ?_
            rintro wy ⟨xy, rfl⟩
            have by' := xy.ok
            have HBK := hide ((unhide HBK2).up by')
            have HD := hide ((unhide HD2).up by')
            have HB := hide ((unhide HB2).trans (by'.mono (unhide HB2).size))
            generalize xy.w = w4 at *
            clear by' p0 p1 p2 p3 HBK2 HD2 HB2
            have g5 := hide (fun x h => level_any r s L w.heap.size x h)
            go_wp2_with fail
            refine wp_region_gr (fun x => Below w4.heap.size w4 x) (by kernel_rfl) (by kernel_rfl) (gb_start w4) ?_
            have hneZ : Nonempty (Gb w4) := gb_ne w4
            have pz : ∀ y : Gb w4, y.w.cell? ⟨w1.heap.size, 2, none⟩ = some (.int .i64 L) := fun y => gb_cell (unhide HD).c2 y
            repeat (go_big_quiet_step ((go_at_call 17; exact gb_same (unhide g5 _ ((unhide HBK).up (Gr.ok _))))))
            refine wpQuiet_nil ?_
            rintro wz ⟨xz, rfl⟩
            have bz := xz.ok
            have HBKz := hide ((unhide HBK).up bz)
            have HDz := hide ((unhide HD).up bz)
            have HBz := hide ((unhide HB).trans (bz.mono (unhide HB).size))
            generalize xz.w = wz at *
            clear bz pz g5 HBK HD HB
            go_wp2
            go_roundw
            case rel => exact ⟨i + 1, L, by omega, by go_num, unhide HBKz, unhide HDz, hL, unhide HBz⟩
            case measure => simp [intOf]; omega
          · generalize waitN r s L N = K at *
            go_wp2_with fail
            refine (unhide g6).mono ?_
            rintro e w2 ⟨rfl, b2, hh2⟩
            clear hh2
            have HBK2 := hide ((unhide HBK).up b2)
            have HD2 := hide ((unhide HD).up b2)
            have HB2 := hide ((unhide HB).trans (b2.mono (unhide HB).size))
            clear b2 HBK HD HB c0 c1 g6
            go_wp2_with fail
            refine wp_region_gr (fun x => Below w2.heap.size w2 x) (by kernel_rfl) (by kernel_rfl) (gb_start w2) ?_
            have hneY : Nonempty (Gb w2) := gb_ne w2
            have p0 : ∀ y : Gb w2, y.w.cell? ⟨w1.heap.size, 0, none⟩ = some (.int .i64 r) := fun y => gb_cell (unhide HD2).c0 y
            have p1 : ∀ y : Gb w2, y.w.cell? ⟨w1.heap.size, 1, none⟩ = some (.int .i64 s) := fun y => gb_cell (unhide HD2).c1 y
            have p2 : ∀ y : Gb w2, y.w.cell? ⟨w1.heap.size, 2, none⟩ = some (.int .i64 L) := fun y => gb_cell (unhide HD2).c2 y
            have p3 : ∀ y : Gb w2, y.w.cell? ⟨gd, od + i * 2 + 1, none⟩ = some (.int .i64 N) := fun y => unhide HCELL _ ((unhide HB2).trans (y.ok.mono (unhide HB2).size))
            have y1 : decide (s < N) = false := by simp; omega
            have y2 : ¬ s < N := by omega
            have y3 : decide (K ≤ 2000) = false := by simp; omega
            have y4 : ¬ K ≤ 2000 := by omega
            repeat (go_big_quiet_step (fail))
            refine wpQuiet_nil ?_
            rintro wy ⟨xy, rfl⟩
            have by' := xy.ok
            have HBK := hide ((unhide HBK2).up by')
            have HD := hide ((unhide HD2).up by')
            have HB := hide ((unhide HB2).trans (by'.mono (unhide HB2).size))
            generalize xy.w = w4 at *
            clear by' p0 p1 p2 p3 HBK2 HD2 HB2
            have g5 := hide (fun x h => level_any r s L w.heap.size x h)
            go_wp2_with fail
            refine wp_region_gr (fun x => Below w4.heap.size w4 x) (by kernel_rfl) (by kernel_rfl) (gb_start w4) ?_
            have hneZ : Nonempty (Gb w4) := gb_ne w4
            have pz : ∀ y : Gb w4, y.w.cell? ⟨w1.heap.size, 2, none⟩ = some (.int .i64 L) := fun y => gb_cell (unhide HD).c2 y
            repeat (go_big_quiet_step ((go_at_call 17; exact gb_same (unhide g5 _ ((unhide HBK).up (Gr.ok _))))))
            refine wpQuiet_nil ?_
            rintro wz ⟨xz, rfl⟩
            have bz := xz.ok
            have HBKz := hide ((unhide HBK).up bz)
            have HDz := hide ((unhide HD).up bz)
            have HBz := hide ((unhide HB).trans (bz.mono (unhide HB).size))
            generalize xz.w = wz at *
            clear bz pz g5 HBK HD HB
            go_wp2
            go_roundw
            case rel => exact ⟨i + 1, L, by omega, by go_num, unhide HBKz, unhide HDz, hL, unhide HBz⟩
            case measure => simp [intOf]; omega
      have d0 : (kd == 0) = false := by simpa using k0
      have d1 : (kd == 1) = false := by simpa using k1
      have d2 : (kd == 2) = false := by simpa using k2
      have g5 := hide (fun x h => level_any r s L w.heap.size x h)
      go_wp2_with fail
      refine wp_region_gr (fun x => Below wr.heap.size wr x) (by kernel_rfl) (by kernel_rfl) (gb_start wr) ?_
      have hneZ : Nonempty (Gb wr) := gb_ne wr
      have pz : ∀ y : Gb wr, y.w.cell? ⟨w1.heap.size, 2, none⟩ = some (.int .i64 L) := fun y => gb_cell (unhide HD).c2 y
      repeat (go_big_quiet_step ((go_at_call 17; exact gb_same (unhide g5 _ ((unhide HBK).up (Gr.ok _))))))
      refine wpQuiet_nil ?_
      rintro wz ⟨xz, rfl⟩
      have bz := xz.ok
      have HBKz := hide ((unhide HBK).up bz)
      have HDz := hide ((unhide HD).up bz)
      have HBz := hide ((unhide HB).trans (bz.mono (unhide HB).size))
      generalize xz.w = wz at *
      clear bz pz g5 HBK HD HB
      go_wp2
      go_roundw
      case rel => exact ⟨i + 1, L, by omega, by go_num, unhide HBKz, unhide HDz, hL, unhide HBz⟩
      case measure => simp [intOf]; omega
    · by_cases hlt1 : i < n
      · have q1 : (i : Int) < n := by omega
        have q2 : ¬ (i : Int) < 60 := by omega
        go_wp2
        go_ret
        exact ⟨rfl, unhide HB⟩
      · have q1 : ¬ (i : Int) < n := by omega
        go_wp2
        go_ret
        exact ⟨rfl, unhide HB⟩
end Go.Proofs.Ytiibdlddamcfaaa

/- Contracts of the document's Spiral (up to 20,000) and Unspiral. -/
import Derived.Test.YthodhabjcbohcaaPlQ
import Derived.Test.YthodhabjcbohcaaPlH
namespace Go.Proofs.Ythodhabjcbohcaa
open Go.RowKit
set_option linter.unusedVariables false

set_option maxRecDepth 100000 in
theorem dspiral_neg (n : Int) (w : World) (h : n < 0) : Calls Try.prog 31 #[.int .i64 n] w fun e w' => e = .returned (rvE (0, 0, 1)) ∧ Below w.heap.size w w' := by
  have T0 := hide (two_alloc w (.int .i64 0) (.int .i64 0) 27)
  have BB : Hid (Below w.heap.size w (w.alloc (.cells #[.int .i64 0, .int .i64 0] 27))) := (Below.refl _ _).alloc (Nat.le_refl _) _
  have x0 := (unhide T0).c0
  have x1 := (unhide T0).c1
  have x2 := (unhide T0).free 0
  have x3 := (unhide T0).free 1
  unfold rvE rv
  go_enter Try.func31, Try.ntmps31
  go_wp2
  exact ret_two (p := 2) (q := 3) (ty := 27) (by kernel_rfl) (w.heap.size) 27 (.int .i64 0) (.int .i64 0) (.int .i64 1) _ rfl rfl (unhide T0) rfl Try.underlying27 (by kernel_rfl) ⟨rfl, unhide BB⟩

set_option maxRecDepth 100000 in
theorem dspiral_big (n : Int) (w : World) (h : 1099511627776 < n) : Calls Try.prog 31 #[.int .i64 n] w fun e w' => e = .returned (rvE (0, 0, 1)) ∧ Below w.heap.size w w' := by
  have T0 := hide (two_alloc w (.int .i64 0) (.int .i64 0) 27)
  have BB : Hid (Below w.heap.size w (w.alloc (.cells #[.int .i64 0, .int .i64 0] 27))) := (Below.refl _ _).alloc (Nat.le_refl _) _
  have x0 := (unhide T0).c0
  have x1 := (unhide T0).c1
  have x2 := (unhide T0).free 0
  have x3 := (unhide T0).free 1
  have d0 : ¬ n < 0 := by omega
  unfold rvE rv
  go_enter Try.func31, Try.ntmps31
  go_wp2
  exact ret_two (p := 2) (q := 3) (ty := 27) (by kernel_rfl) (w.heap.size) 27 (.int .i64 0) (.int .i64 0) (.int .i64 1) _ rfl rfl (unhide T0) rfl Try.underlying27 (by kernel_rfl) ⟨rfl, unhide BB⟩

theorem mul_lim2 {x : Int} {t : Nat} (h : x.natAbs ≤ 1) (ht : t ≤ 20000) : -20000 ≤ x * (t : Int) ∧ x * (t : Int) ≤ 20000 := by
  have := abs_mul_le (n := 1) (m := 20000) h (show ((t : Int)).natAbs ≤ _ by omega)
  omega

set_option maxRecDepth 100000 in
set_option maxHeartbeats 1000000 in
theorem dspiral_in (n : Nat) (w : World) (h : n ≤ 20000) : Calls Try.prog 31 #[.int .i64 (n : Nat)] w fun e w' => e = .returned (rvE ((spP n).1, (spP n).2, 0)) ∧ Below w.heap.size w w' := by
  have t0 := (two_alloc w (.int .i64 0) (.int .i64 0) 27).alloc (.cells #[.int .i64 0, .int .i64 0] 27)
  have e1 : (w.alloc (.cells #[.int .i64 0, .int .i64 0] 27)).heap.size = w.heap.size + 1 := by simp
  have t1 := two_alloc (w.alloc (.cells #[.int .i64 0, .int .i64 0] 27)) (.int .i64 0) (.int .i64 0) 27
  rw [e1] at t1
  have T0 := hide t0
  have T1 := hide t1
  clear e1 t0 t1
  have BB : Hid (Below w.heap.size w ((w.alloc (.cells #[.int .i64 0, .int .i64 0] 27)).alloc (.cells #[.int .i64 0, .int .i64 0] 27))) := ((Below.refl _ _).alloc (Nat.le_refl _) _).alloc (by simp) _
  have d0 : ¬ ((n : Nat) : Int) < 0 := by omega
  have d1 : ¬ (1099511627776 : Int) < ((n : Nat) : Int) := by omega
  obtain ⟨p1, p2⟩ := spP_le (show n ≤ 1099511627776 by omega)
  unfold rvE rv
  have HR : Hid (((spP n).1, (spP n).2) = spP n) := rfl
  generalize hpn : spP n = pn at *
  have Hpn := hide hpn
  clear hpn p1 p2
  go_enter Try.func31, Try.ntmps31
  go_wp2_with fail
  go_loopw [0, 5, 6, 7, 8] (fun nv xv yv lv jv wr => ∃ j m lg : Nat, jv = .int .i64 (j : Nat) ∧ nv = .int .i64 (m : Nat) ∧ xv = .int .i64 (quart j (1, 0)).1 ∧ yv = .int .i64 (quart j (1, 0)).2 ∧ lv = .int .i64 (lg : Nat) ∧ Hid (lg = j / 2 + 1) ∧ Hid (n = legS j + m) ∧ Hid (Below w.heap.size w wr) ∧ Hid (Two wr w.heap.size (.int .i64 0) (.int .i64 0) 27) ∧ Hid (Two wr (w.heap.size + 1) (.int .i64 (spP (legS j)).1) (.int .i64 (spP (legS j)).2) 27)) (fun nv _ _ _ _ _ => (intOf nv).toNat)
  case atStart => exact ⟨0, n, 1, rfl, rfl, rfl, rfl, rfl, rfl, by show n = 0 + n; omega, BB, T0, T1⟩
  case round =>
    obtain ⟨j, m, lg, rfl, rfl, rfl, rfl, rfl, Hlg, hn, bb, ss, tt⟩ := hrel
    have hj : j < 300 := by
      refine Nat.lt_of_not_le fun hle => ?_
      have := legS_big j hle
      have := unhide hn
      omega
    have hj2 : ((j : Nat) : Int) < 5000000 := by omega
    have hS := legS_succ j
    have hadv := leg_adv j
    obtain ⟨q1, q2⟩ := quart_abs j (1, 0) 1 (by decide) (by decide)
    obtain ⟨r1, r2⟩ := spP_le (show legS j ≤ 1099511627776 by have := unhide hn; omega)
    have hqn1 : (quart (j + 1) (1, 0)).1 = -(quart j (1, 0)).2 := rfl
    have hqn2 : (quart (j + 1) (1, 0)).2 = (quart j (1, 0)).1 := rfl
    have hl : j / 2 + 1 ≤ 151 := by omega
    have hl1 : (j + 1) / 2 + 1 = if j % 2 = 1 then j / 2 + 1 + 1 else j / 2 + 1 := by split <;> omega
    have hm20 : m ≤ 20000 := by have := unhide hn; omega
    have Hq1 := hide hqn1
    have Hq2 := hide hqn2
    have HS := hide hS
    have HL := hide hl1
    clear hqn1 hqn2 hS hl1
    have f0 := (unhide tt).c0
    have f1 := (unhide tt).c1
    have f2 := (unhide tt).free 0
    have f3 := (unhide tt).free 1
    generalize (quart j (1, 0)).1 = X at *
    generalize (quart j (1, 0)).2 = Y at *
    generalize hP : (spP (legS j)).1 = PX at *
    generalize hQ : (spP (legS j)).2 = PY at *
    clear hP hQ
    have hlg := unhide Hlg
    rw [← hlg] at hl hadv HS HL
    have hmr : ((j : Nat) : Int).tmod 2 = ((j % 2 : Nat) : Int) := rfl
    have Q1 := hide q1
    have Q2 := hide q2
    have w1 : -524288 ≤ PX ∧ PX ≤ 524288 := by omega
    have w2 : -524288 ≤ PY ∧ PY ≤ 524288 := by omega
    have w3 : -1 ≤ X ∧ X ≤ 1 := by omega
    have w4 : -1 ≤ Y ∧ Y ≤ 1 := by omega
    clear r1 r2 q1 q2
    by_cases hgt : m < lg
    · -- the last leg
      have hg1 : ((m : Nat) : Int) < ((lg : Nat) : Int) := by omega
      have ha := hadv m (by omega)
      rw [← unhide hn, unhide Hpn] at ha
      have hX := mul_lim2 (x := X) (t := m) (unhide Q1) hm20
      have hY := mul_lim2 (x := Y) (t := m) (unhide Q2) hm20
      have Ha := hide ha
      clear ha hadv HL HS Hq1 Hq2 hlg hmr
      generalize (5000000 : Int) = big at *
      have s2 := ((unhide ss).other ⟨w.heap.size + 1, 0, none⟩ (.int .i64 (PX + X * ((m : Nat) : Int))) (by show w.heap.size + 1 ≠ w.heap.size; omega)).other ⟨w.heap.size + 1, 1, none⟩ (.int .i64 (PY + Y * ((m : Nat) : Int))) (by show w.heap.size + 1 ≠ w.heap.size; omega)
      have t2 := ((unhide tt).set0 (.int .i64 (PX + X * ((m : Nat) : Int)))).set1 (.int .i64 (PY + Y * ((m : Nat) : Int)))
      have B2 : Hid (Below w.heap.size w ((wr.setCell ⟨w.heap.size + 1, 0, none⟩ (.int .i64 (PX + X * ((m : Nat) : Int)))).setCell ⟨w.heap.size + 1, 1, none⟩ (.int .i64 (PY + Y * ((m : Nat) : Int))))) := below_two (unhide bb) (by omega) _ _
      have S2 := hide s2
      have TT2 := hide t2
      have g0 := s2.c0
      have g1 := s2.c1
      have g2 := s2.free 0
      have g3 := s2.free 1
      have k0 := t2.c0
      have k1 := t2.c1
      clear s2 t2
      go_wp2
      exact ret_two (p := 2) (q := 3) (ty := 27) (by kernel_rfl) w.heap.size 27 (.int .i64 (PX + X * ((m : Nat) : Int))) (.int .i64 (PY + Y * ((m : Nat) : Int))) (.int .i64 0) _ rfl rfl (((unhide S2).set0 _).set1 _) rfl Try.underlying27 (by kernel_rfl) ⟨by rw [unhide Ha], below_two (unhide B2) (by omega) _ _⟩
    · by_cases heq : m = lg
      · -- the leg ends there
        subst heq
        have ha := hadv m (by omega)
        rw [← unhide hn, unhide Hpn] at ha
        have hX := mul_lim2 (x := X) (t := m) (unhide Q1) hm20
        have hY := mul_lim2 (x := Y) (t := m) (unhide Q2) hm20
        have Ha := hide ha
        clear ha hadv HL HS Hq1 Hq2 hlg hmr
        generalize (5000000 : Int) = big at *
        have s2 := ((unhide ss).other ⟨w.heap.size + 1, 0, none⟩ (.int .i64 (PX + X * ((m : Nat) : Int))) (by show w.heap.size + 1 ≠ w.heap.size; omega)).other ⟨w.heap.size + 1, 1, none⟩ (.int .i64 (PY + Y * ((m : Nat) : Int))) (by show w.heap.size + 1 ≠ w.heap.size; omega)
        have t2 := ((unhide tt).set0 (.int .i64 (PX + X * ((m : Nat) : Int)))).set1 (.int .i64 (PY + Y * ((m : Nat) : Int)))
        have B2 : Hid (Below w.heap.size w ((wr.setCell ⟨w.heap.size + 1, 0, none⟩ (.int .i64 (PX + X * ((m : Nat) : Int)))).setCell ⟨w.heap.size + 1, 1, none⟩ (.int .i64 (PY + Y * ((m : Nat) : Int))))) := below_two (unhide bb) (by omega) _ _
        have S2 := hide s2
        have TT2 := hide t2
        have g0 := s2.c0
        have g1 := s2.c1
        have g2 := s2.free 0
        have g3 := s2.free 1
        have k0 := t2.c0
        have k1 := t2.c1
        clear s2 t2
        go_wp2
        exact ret_two (p := 2) (q := 3) (ty := 27) (by kernel_rfl) w.heap.size 27 (.int .i64 (PX + X * ((m : Nat) : Int))) (.int .i64 (PY + Y * ((m : Nat) : Int))) (.int .i64 0) _ rfl rfl (((unhide S2).set0 _).set1 _) rfl Try.underlying27 (by kernel_rfl) ⟨by rw [unhide Ha], below_two (unhide B2) (by omega) _ _⟩
      · have hg1 : ¬ ((m : Nat) : Int) < ((lg : Nat) : Int) := by omega
        have ha := hadv lg (by omega)
        rw [← unhide HS] at ha
        have hX := mul_lim2 (x := X) (t := lg) (unhide Q1) (by omega)
        have hY := mul_lim2 (x := Y) (t := lg) (unhide Q2) (by omega)
        have hm0 : ¬ ((m : Nat) : Int) - ((lg : Nat) : Int) = 0 := by omega
        obtain ⟨m2, hm2⟩ : ∃ m2, m = m2 + lg := ⟨m - lg, by omega⟩
        have hm1 : ((m : Nat) : Int) - ((lg : Nat) : Int) = ((m2 : Nat) : Int) := by omega
        have hm3 : ¬ ((m2 : Nat) : Int) = 0 := by omega
        have hm4 : 0 < m2 := by omega
        have Hm2 := hide hm2
        clear hm2
        have Ha := hide ha
        clear ha hadv
        rcases Nat.mod_two_eq_zero_or_one j with hpar | hpar
        · rw [hpar] at hmr
          have hl2 : (j + 1) / 2 + 1 = lg := by rw [unhide HL, hpar]; rfl
          have HL2 := hide hl2
          clear hl2 HL hlg hpar
          generalize (5000000 : Int) = big at *
          have s2 := ((unhide ss).other ⟨w.heap.size + 1, 0, none⟩ (.int .i64 (PX + X * ((lg : Nat) : Int))) (by show w.heap.size + 1 ≠ w.heap.size; omega)).other ⟨w.heap.size + 1, 1, none⟩ (.int .i64 (PY + Y * ((lg : Nat) : Int))) (by show w.heap.size + 1 ≠ w.heap.size; omega)
          have t2 := ((unhide tt).set0 (.int .i64 (PX + X * ((lg : Nat) : Int)))).set1 (.int .i64 (PY + Y * ((lg : Nat) : Int)))
          have B2 : Hid (Below w.heap.size w ((wr.setCell ⟨w.heap.size + 1, 0, none⟩ (.int .i64 (PX + X * ((lg : Nat) : Int)))).setCell ⟨w.heap.size + 1, 1, none⟩ (.int .i64 (PY + Y * ((lg : Nat) : Int))))) := below_two (unhide bb) (by omega) _ _
          have S2 := hide s2
          have TT2 := hide t2
          clear s2 t2
          go_wp2
          go_roundw
          case rel =>
            refine ⟨j + 1, m2, lg, rfl, rfl, ?_, ?_, rfl, (unhide HL2).symm, ?_, B2, S2, ?_⟩
            · rw [unhide Hq1]
            · rw [unhide Hq2]
            · show n = legS (j + 1) + m2; rw [unhide HS]; have := unhide hn; have := unhide Hm2; omega
            · rw [unhide Ha]; exact unhide TT2
          case measure => simp [intOf]; have := unhide Hm2; have := unhide Hlg; omega
        · rw [hpar] at hmr
          have hl2 : (j + 1) / 2 + 1 = lg + 1 := by rw [unhide HL, hpar]; rfl
          have HL2 := hide hl2
          clear hl2 HL hlg hpar
          generalize (5000000 : Int) = big at *
          have s2 := ((unhide ss).other ⟨w.heap.size + 1, 0, none⟩ (.int .i64 (PX + X * ((lg : Nat) : Int))) (by show w.heap.size + 1 ≠ w.heap.size; omega)).other ⟨w.heap.size + 1, 1, none⟩ (.int .i64 (PY + Y * ((lg : Nat) : Int))) (by show w.heap.size + 1 ≠ w.heap.size; omega)
          have t2 := ((unhide tt).set0 (.int .i64 (PX + X * ((lg : Nat) : Int)))).set1 (.int .i64 (PY + Y * ((lg : Nat) : Int)))
          have B2 : Hid (Below w.heap.size w ((wr.setCell ⟨w.heap.size + 1, 0, none⟩ (.int .i64 (PX + X * ((lg : Nat) : Int)))).setCell ⟨w.heap.size + 1, 1, none⟩ (.int .i64 (PY + Y * ((lg : Nat) : Int))))) := below_two (unhide bb) (by omega) _ _
          have S2 := hide s2
          have TT2 := hide t2
          clear s2 t2
          go_wp2
          go_roundw
          case rel =>
            refine ⟨j + 1, m2, lg + 1, rfl, rfl, ?_, ?_, rfl, (unhide HL2).symm, ?_, B2, S2, ?_⟩
            · rw [unhide Hq1]
            · rw [unhide Hq2]
            · show n = legS (j + 1) + m2; rw [unhide HS]; have := unhide hn; have := unhide Hm2; omega
            · rw [unhide Ha]; exact unhide TT2
          case measure => simp [intOf]; have := unhide Hm2; have := unhide Hlg; omega

end Go.Proofs.Ythodhabjcbohcaa

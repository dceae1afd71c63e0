/- meter: MeterGives. -/
import Derived.Test.YtiibdlddamcfaaaMeG
import Derived.Test.YtiibdlddamcfaaaOpenD
namespace Go.Proofs.Ytiibdlddamcfaaa
open Go.RowKit
set_option linter.unusedVariables false
attribute [local go_sem] Oper.semAt_some

/-- a bucket's level behind so many ticks -/
def lv (r s L : Int) (j : Nat) : Int := min (L + (j : Int) * r) s
theorem lv_zero {r s L : Int} (h : L ≤ s) : lv r s L 0 = L := by unfold lv; simp; omega
theorem lv_succ {r s L : Int} (hr : 0 ≤ r) (j : Nat) : tickL r s (lv r s L j) = lv r s L (j + 1) := by
  unfold tickL lv
  have : ((j + 1 : Nat) : Int) * r = (j : Int) * r + r := by
    rw [Int.natCast_add, Int.add_mul]; simp
  rw [this]
  omega
theorem lv_in {r s L : Int} (hr : 0 ≤ r) (h : 0 ≤ L ∧ L ≤ s) (j : Nat) : 0 ≤ lv r s L j ∧ lv r s L j ≤ s := by
  have : 0 ≤ (j : Int) * r := Int.mul_nonneg (by omega) hr
  unfold lv
  omega
theorem wait_parts {r s L N : Int} (hr : 1 ≤ r) (h1 : ¬ s < N) (h2 : ¬ N ≤ L) : ((waitN r s L N) - 1) * r ≤ N - L - 1 ∧ N - L ≤ (waitN r s L N) * r ∧ 0 ≤ waitN r s L N := by
  unfold waitN
  rw [if_neg h1, if_neg h2, Int.tdiv_eq_ediv_of_nonneg (by omega)]
  have e1 := Int.mul_ediv_add_emod (N - L + r - 1) r
  have e2 := Int.emod_lt_of_pos (N - L + r - 1) (show 0 < r by omega)
  have e3 := Int.emod_nonneg (N - L + r - 1) (show r ≠ 0 by omega)
  have e4 : 0 ≤ (N - L + r - 1) / r := Int.ediv_nonneg (by omega) (by omega)
  generalize (N - L + r - 1) / r = z at *
  generalize (N - L + r - 1) % r = y at *
  rw [Int.mul_comm] at e1
  have e5 : (z - 1) * r = z * r - r := by rw [Int.sub_mul]; simp
  rw [e5]
  omega
theorem wait_lt {r s L N : Int} {j : Nat} (hr : 1 ≤ r) (h1 : ¬ s < N) (hj : (j : Int) < waitN r s L N) : lv r s L j < N := by
  by_cases h2 : N ≤ L
  · unfold waitN at hj
    rw [if_neg h1, if_pos h2] at hj
    omega
  · obtain ⟨p1, p2, p3⟩ := wait_parts hr h1 h2
    have : (j : Int) * r ≤ (waitN r s L N - 1) * r := Int.mul_le_mul_of_nonneg_right (by omega) (by omega)
    unfold lv
    omega
theorem wait_ge {r s L N : Int} {j : Nat} (hr : 1 ≤ r) (hL : L ≤ s) (h1 : ¬ s < N) (hj : (j : Int) = waitN r s L N) : N ≤ lv r s L j := by
  by_cases h2 : N ≤ L
  · have : 0 ≤ (j : Int) * r := Int.mul_nonneg (by omega) (by omega)
    unfold lv
    omega
  · obtain ⟨p1, p2, p3⟩ := wait_parts hr h1 h2
    rw [← hj] at p2
    unfold lv
    omega
theorem drop_cells {w w' : World} {a0 : Option Addr} {len : Nat} {F : Nat → Int × Int} (h : DropsAt w a0 len F) (hb : Below w.heap.size w w') (i : Nat) (hi : i < len) :
    ∃ g o, a0 = some ⟨g, o, none⟩ ∧ w'.cell? ⟨g, o + i * 2, none⟩ = some (.int .i64 (F i).1) ∧ w'.cell? ⟨g, o + i * 2 + 1, none⟩ = some (.int .i64 (F i).2) ∧ -9223372036854775808 ≤ (F i).2 ∧ (F i).2 ≤ 9223372036854775807 := by
  obtain ⟨g, o, h1, h2, ⟨h3, h4⟩, h5, h6⟩ := h i hi
  exact ⟨g, o, h1, cell_below h3 hb, cell_below h4 hb, (wf64 h6).1, (wf64 h6).2⟩
set_option maxRecDepth 100000 in
set_option maxHeartbeats 4000000 in
theorem meterGives_no (r s : Int) (a0 : Option Addr) (n c : Nat) (w : World) (h : ¬ bkOk r s) :
    Calls Try.prog 4 #[.int .i64 r, .int .i64 s, .slice a0 n c] w fun e w' => e = .returned (.bool true) ∧ Below w.heap.size w w' := by
  have g1 := hide (newBucket_no r s w h)
  have hc : r < 1 ∨ (¬ r < 1 ∧ 65536 < r) ∨ (¬ r < 1 ∧ ¬ 65536 < r ∧ s < 1) ∨ (¬ r < 1 ∧ ¬ 65536 < r ∧ ¬ s < 1 ∧ 65536 < s) := by unfold bkOk at h; omega
  clear h
  go_enter Try.func4, Try.ntmps4
  go_wp2_with fail
  refine (unhide g1).mono ?_
  rintro e w1 ⟨rfl, rfl⟩
  go_wp2_with fail
  refine (mawake_any w).mono ?_
  rintro e w1 ⟨rfl, b1⟩
  have B1 := hide b1
  clear b1
  go_wp2_with fail
  refine (mawake_any w1).mono ?_
  rintro e w2 ⟨rfl, b2⟩
  have B2 := hide ((unhide B1).trans (b2.mono (unhide B1).size))
  clear b2 B1 g1
  rcases hc with h | ⟨h1, h2⟩ | ⟨h1, h2, h3⟩ | ⟨h1, h2, h3, h4⟩
  all_goals
    go_wp2
    go_ret
    exact ⟨rfl, unhide B2⟩
set_option maxRecDepth 100000 in
set_option maxHeartbeats 20000000 in
theorem meterGives_yes (r s : Int) (a0 : Option Addr) (n c : Nat) (F : Nat → Int × Int) (w : World) (hok : bkOk r s) (hD : DropsAt w a0 n F) :
    Calls Try.prog 4 #[.int .i64 r, .int .i64 s, .slice a0 n c] w fun e w' => e = .returned (.bool true) ∧ Below w.heap.size w w' := by
  have g1 := hide (newBucket_yes r s w hok)
  have hr : 1 ≤ r ∧ r ≤ 65536 := ⟨hok.1, hok.2.1⟩
  have hs : 0 ≤ s ∧ s ≤ 65536 := ⟨by have := hok.2.2.1; omega, hok.2.2.2⟩
  have HD := hide hD
  clear hD
  go_enter Try.func4, Try.ntmps4
  go_wp2_with fail
  refine (unhide g1).mono ?_
  rintro e w1 ⟨rfl, hbk1, b1, hl1⟩
  have HK1 := hide hbk1
  have B1 := hide b1
  clear hbk1 b1 hl1
  go_wp2_with fail
  refine (mawake_any w1).mono ?_
  rintro e w2 ⟨rfl, b2⟩
  have HK2 := hide ((unhide HK1).up b2)
  have B2 := hide ((unhide B1).trans (b2.mono (unhide B1).size))
  clear b2 HK1 B1 g1
  have hbw0 : w.heap.size ≤ w.heap.size := Nat.le_refl _
  go_wp2_with fail
  go_loopw [8, 9, 10] (fun gv mv iv wr => ∃ (i : Nat) (G M L : Int), i ≤ n ∧ i ≤ 40 ∧ iv = .int .i64 i ∧ gv = .int .i64 G ∧ mv = .int .i64 M ∧ Bk wr w.heap.size r s L ∧ (0 ≤ L ∧ L ≤ s) ∧ 0 ≤ G ∧ G + L ≤ M ∧ M ≤ 65536 + i * 65536 ∧ Below w.heap.size w wr) (fun _ _ iv _ => n - (intOf iv).toNat)
  case atStart => exact ⟨0, 0, s, s, by omega, by omega, rfl, rfl, rfl, unhide HK2, by omega, by omega, by omega, by omega, unhide B2⟩
  case round =>
    obtain ⟨i, G, M, L, hin, hi40, rfl, rfl, rfl, hbk, hL, hG, hGM, hM, hb⟩ := hrel
    have HBK := hide hbk
    have HB := hide hb
    clear hbk hb HK2 B2
    by_cases hlt : i < n ∧ i < 40
    · have q1 : (i : Int) < n := by omega
      have q2 : (i : Int) < 40 := by omega
      obtain ⟨gd, od, rfl, c0, c1, hN0, hN1⟩ := drop_cells (unhide HD) (unhide HB) i hlt.1
      have HCELL : Hid (∀ x, Below w.heap.size w x → x.cell? ⟨gd, od + i * 2 + 1, none⟩ = some (.int .i64 (F i).2)) := by
        intro x hx
        obtain ⟨g', o', h1, _, h2, _⟩ := drop_cells (unhide HD) hx i hlt.1
        cases h1
        exact h2
      have HCELL0 : Hid (∀ x, Below w.heap.size w x → x.cell? ⟨gd, od + i * 2, none⟩ = some (.int .i64 (F i).1)) := by
        intro x hx
        obtain ⟨g', o', h1, h2, _⟩ := drop_cells (unhide HD) hx i hlt.1
        cases h1
        exact h2
      generalize (F i).1 = kd at *
      generalize (F i).2 = N at *
      by_cases k0 : kd = 0
      · subst k0
        have gt := hide (tick_any r s L w.heap.size wr (by omega) hs (by omega) (unhide HBK))
        have hti := tickL_in (r := r) (s := s) (l := L) (by omega) hL
        have htl : tickL r s L ≤ L + r := by unfold tickL; omega
        obtain ⟨L2, hL2⟩ : ∃ L2, L2 = tickL r s L := ⟨_, rfl⟩
        rw [← hL2] at gt hti htl
        clear hL2
        go_wp2_with fail
        refine (unhide gt).mono ?_
        rintro e w2 ⟨rfl, hbk2, hk2⟩
        have HBK2 := hide hbk2
        have HB2 := hide ((unhide HB).trans (hk2.below w.heap.size (unhide HB).size hbw0))
        have c0b := unhide HCELL0 w2 (unhide HB2)
        have c1b := unhide HCELL w2 (unhide HB2)
        clear hbk2 hk2 HBK HB gt c0 c1
        have HBK := HBK2
        have HB := HB2
        clear HBK2 HB2
        obtain ⟨M2, hM2⟩ : ∃ M2, M2 = M + r := ⟨_, rfl⟩
        have hM2' := hM2.symm
        have hMM : M2 ≤ 65536 + (i + 1) * 65536 ∧ G + L2 ≤ M2 := by omega
        clear hM2
        have hL' := hti
        have g5 := hide (fun x h => level_any r s L2 w.heap.size x h)
        have g6 := hide (fun x h => wait_any r s L2 N w.heap.size x hr hs (by omega) h)
        obtain ⟨K, hK⟩ : ∃ K, K = waitN r s L2 N := ⟨_, rfl⟩
        rw [← hK] at g6
        have HK := hide hK
        clear hK
        have qg : ¬ M2 < G := by omega
        have ql0 : ¬ L2 < 0 := by omega
        have ql1 : ¬ s < L2 := by omega
        go_wp2_with fail
        refine (unhide g5 _ (unhide HBK)).mono ?_
        rintro e w3 ⟨rfl, rfl⟩
        go_wp2_with fail
        refine (unhide g5 _ (unhide HBK)).mono ?_
        rintro e w3 ⟨rfl, rfl⟩
        go_wp2_with fail
        refine (unhide g6 _ (unhide HBK)).mono ?_
        rintro e w4 ⟨rfl, b4, hh4⟩
        have HBK4 := hide ((unhide HBK).up b4)
        have HB4 := hide ((unhide HB).trans (b4.mono (unhide HB).size))
        have hcell4 : Hid (∀ x, Below w4.heap.size w4 x → x.cell? ⟨gd, od + i * 2 + 1, none⟩ = some (.int .i64 N)) := fun x hx => unhide HCELL x ((unhide HB4).trans (hx.mono (unhide HB4).size))
        clear b4 hh4 HBK HB g6 qg ql0 ql1
        have hKN : Hid (¬ s < N ∨ K = -1) := by
          by_cases h : s < N
          · right
            rw [unhide HK]
            unfold waitN
            rw [if_pos h]
          · exact .inl h
        by_cases k0 : K < 0
        · go_wp2
          go_roundw
          case rel => exact ⟨i + 1, G, M2, L2, by omega, by omega, by go_num, rfl, rfl, unhide HBK4, by omega, by omega, by omega, by omega, unhide HB4⟩
          case measure => simp [intOf]; omega
        by_cases k3 : 300 < K
        · go_wp2
          go_roundw
          case rel => exact ⟨i + 1, G, M2, L2, by omega, by omega, by go_num, rfl, rfl, unhide HBK4, by omega, by omega, by omega, by omega, unhide HB4⟩
          case measure => simp [intOf]; omega
        have hNs : ¬ s < N := by
          rcases unhide hKN with h | h
          · exact h
          · omega
        obtain ⟨kk, hkk⟩ := Int.eq_ofNat_of_zero_le (show 0 ≤ K by omega)
        have HKK : Hid ((kk : Int) = waitN r s L2 N) := by rw [← unhide HK]; exact hkk.symm
        subst hkk
        have g7 := hide (newBucket_yes r s w4 hok)
        have h0e : Hid (takeE s s (s - L2) = 0 ∧ takeL s s (s - L2) = L2) := by
          have e1 : takeE s s (s - L2) = 0 := by
            unfold takeE
            rw [if_neg (by omega), if_neg (by omega), if_neg (by omega)]
          refine ⟨e1, ?_⟩
          unfold takeL
          rw [if_pos e1]
          omega
        have g8 := hide (fun x h => take_any r s s (s - L2) w4.heap.size x hs (by omega) h)
        rw [(unhide h0e).1, (unhide h0e).2] at g8
        have hbw : w.heap.size < w4.heap.size := (unhide HBK4).lt
        go_wp2_with fail
        refine (unhide g7).mono ?_
        rintro e w5 ⟨rfl, hbk5, b5, hlt5⟩
        have HC5 := hide hbk5
        have HBK5 := hide ((unhide HBK4).up b5)
        have HB5 := hide ((unhide HB4).trans (b5.mono (unhide HB4).size))
        have hcw : w.heap.size ≤ w4.heap.size := (unhide HB4).size
        have hcell5 : Hid (∀ x, Below w5.heap.size w5 x → x.cell? ⟨gd, od + i * 2 + 1, none⟩ = some (.int .i64 N)) := fun x hx => unhide HCELL x ((unhide HB5).trans (hx.mono (unhide HB5).size))
        clear hbk5 b5 hlt5 HB4 HBK4 hcell4 g7
        go_wp2_with fail
        refine (unhide g5 _ (unhide HBK5)).mono ?_
        rintro e w6 ⟨rfl, rfl⟩
        go_wp2_with fail
        refine (unhide g8 _ (unhide HC5)).mono ?_
        rintro e w6 ⟨rfl, hc6, hk6⟩
        have HC6 := hide hc6
        have HBK6 := hide ((unhide HBK5).kept hk6 (by omega))
        have HB6 := hide ((unhide HB5).trans (hk6.below w.heap.size (unhide HB5).size hcw))
        clear hc6 hk6 HC5 HBK5 HB5 hcell5 g8
        have g9 := hide (fun j x (h : Bk x w4.heap.size r s (lv r s L2 j)) => level_any r s (lv r s L2 j) w4.heap.size x h)
        have g10 : Hid (∀ j x, Bk x w4.heap.size r s (lv r s L2 j) → Calls Try.prog 11 #[.pointer (some ⟨w4.heap.size, 0, none⟩)] x fun e w' => e = .returned (.tuple #[]) ∧ Bk w' w4.heap.size r s (lv r s L2 (j + 1)) ∧ Kept x.heap.size w4.heap.size x w') := by
          intro j x h
          have hin := lv_in (r := r) (s := s) (L := L2) (by omega) (by omega) j
          have := tick_any r s (lv r s L2 j) w4.heap.size x (by omega) hs (by omega) h
          rw [lv_succ (by omega)] at this
          exact this
        go_wp2_with fail
        go_loopw [13] (fun jv wx => ∃ j : Nat, j ≤ kk ∧ jv = .int .i64 j ∧ Bk wx w4.heap.size r s (lv r s L2 j) ∧ Bk wx w.heap.size r s L2 ∧ Below w.heap.size w wx) (fun jv _ => kk - (intOf jv).toNat)
        case atStart => exact ⟨0, by omega, rfl, by rw [lv_zero (by omega)]; exact unhide HC6, unhide HBK6, unhide HB6⟩
        case round =>
          obtain ⟨j, hj, rfl, hc, hbk, hb⟩ := hrel
          have HC := hide hc
          have HBK := hide hbk
          have HB := hide hb
          clear hc hbk hb HC6 HBK6 HB6
          have hin := lv_in (r := r) (s := s) (L := L2) (by omega) (by omega) j
          by_cases hjk : j < kk
          · have q1 : (j : Int) < kk := by omega
            have hlt : lv r s L2 j < N := wait_lt (by omega) (by omega) (by rw [← unhide HKK]; exact q1)
            have g11 := hide (fun x h => unhide g9 j x h)
            have g12 := hide (unhide g10 j)
            generalize lv r s L2 j = lj at *
            have q2 : 0 ≤ N := by omega
            have q3 : ¬ N ≤ lj := by omega
            go_wp2_with fail
            refine wp_region_gr (fun x => Below wr.heap.size wr x) (by kernel_rfl) (by kernel_rfl) (gb_start wr) ?_
            have hne : Nonempty (Gb wr) := gb_ne wr
            have p1 : ∀ y : Gb wr, y.w.cell? ⟨gd, od + i * 2 + 1, none⟩ = some (.int .i64 N) := fun y => unhide HCELL _ ((unhide HB).trans (y.ok.mono (unhide HB).size))
            repeat (go_big_quiet_step ((go_at_call 17; exact gb_same (unhide g11 _ ((unhide HC).up (Gr.ok _))))))
            refine wpQuiet_nil ?_
            rintro w7 ⟨x7, rfl⟩
            have b7 := x7.ok
            have HC7 := hide ((unhide HC).up b7)
            have HBK7 := hide ((unhide HBK).up b7)
            have HB7 := hide ((unhide HB).trans (b7.mono (unhide HB).size))
            generalize x7.w = w7 at *
            clear b7 HC HBK HB p1
            go_wp2_with fail
            refine (unhide g12 _ (unhide HC7)).mono ?_
            rintro e w8 ⟨rfl, hc8, hk8⟩
            have HC8 := hide hc8
            have HBK8 := hide ((unhide HBK7).kept hk8 (by omega))
            have HB8 := hide ((unhide HB7).trans (hk8.below w.heap.size (unhide HB7).size hcw))
            clear hc8 hk8 HC7 HBK7 HB7
            go_wp2
            go_roundw
            case rel => exact ⟨j + 1, by omega, by go_num, unhide HC8, unhide HBK8, unhide HB8⟩
            case measure => simp [intOf]; omega
          · have hjk' : j = kk := by omega
            have q1 : ¬ (j : Int) < kk := by omega
            have c3 := unhide HCELL wr (unhide HB)
            by_cases q2 : 0 ≤ N
            · have hge : N ≤ lv r s L2 j := wait_ge (by omega) (by omega) (by omega) (by rw [hjk']; exact unhide HKK)
              have e1 : Hid (takeE s (lv r s L2 j) N = 0) := by
                show _ = _
                unfold takeE
                rw [if_neg (by omega), if_neg (by omega), if_neg (by omega)]
              have g13 := hide (take_any r s (lv r s L2 j) N w4.heap.size wr hs (by omega) (unhide HC))
              rw [unhide e1] at g13
              generalize takeL s (lv r s L2 j) N = lx at *
              generalize lv r s L2 j = lj at *
              clear g9 g10 hge
              go_wp2_with fail
              refine (unhide g13).mono ?_
              rintro e w8 ⟨rfl, hc8, hk8⟩
              have HBK8 := hide ((unhide HBK).kept hk8 (by omega))
              have HB8 := hide ((unhide HB).trans (hk8.below w.heap.size (unhide HB).size hcw))
              clear hc8 hk8 HBK HB HC
              go_wp2
              go_roundw
              case rel => exact ⟨i + 1, G, M2, L2, by omega, by omega, by go_num, rfl, rfl, unhide HBK8, by omega, by omega, by omega, by omega, unhide HB8⟩
              case measure => simp [intOf]; omega
            · generalize lv r s L2 j = lj at *
              clear g9 g10
              go_wp2
              go_roundw
              case rel => exact ⟨i + 1, G, M2, L2, by omega, by omega, by go_num, rfl, rfl, unhide HBK, by omega, by omega, by omega, by omega, unhide HB⟩
              case measure => simp [intOf]; omega
      by_cases k1 : kd = 1
      · subst k1
        have gt := hide (take_any r s L N w.heap.size wr hs (by omega) (unhide HBK))
        have htin := takeL_in (s := s) (l := L) (n := N) hL
        by_cases he : takeE s L N = 0
        · have hp := takeE_0 he
          have hL2 : takeL s L N = L - N := by unfold takeL; rw [if_pos he]
          rw [he, hL2] at gt
          rw [hL2] at htin
          go_wp2_with fail
          refine (unhide gt).mono ?_
          rintro e w2 ⟨rfl, hbk2, hk2⟩
          have HBK2 := hide hbk2
          have HB2 := hide ((unhide HB).trans (hk2.below w.heap.size (unhide HB).size hbw0))
          have c0b := unhide HCELL0 w2 (unhide HB2)
          have c1b := unhide HCELL w2 (unhide HB2)
          clear hbk2 hk2 HBK HB gt c0 c1 he hL2
          have HBK := HBK2
          have HB := HB2
          clear HBK2 HB2
          obtain ⟨L2, hL2⟩ : ∃ L2, L2 = L - N := ⟨_, rfl⟩
          obtain ⟨G2, hG2⟩ : ∃ G2, G2 = G + N := ⟨_, rfl⟩
          have hG2' := hG2.symm
          rw [← hL2] at HBK htin
          have hMM : G2 + L2 ≤ M ∧ 0 ≤ G2 := by omega
          clear hL2 hG2
          have hL' := htin
          have g5 := hide (fun x h => level_any r s L2 w.heap.size x h)
          have g6 := hide (fun x h => wait_any r s L2 N w.heap.size x hr hs (by omega) h)
          obtain ⟨K, hK⟩ : ∃ K, K = waitN r s L2 N := ⟨_, rfl⟩
          rw [← hK] at g6
          have HK := hide hK
          clear hK
          have qg : ¬ M < G2 := by omega
          have ql0 : ¬ L2 < 0 := by omega
          have ql1 : ¬ s < L2 := by omega
          go_wp2_with fail
          refine (unhide g5 _ (unhide HBK)).mono ?_
          rintro e w3 ⟨rfl, rfl⟩
          go_wp2_with fail
          refine (unhide g5 _ (unhide HBK)).mono ?_
          rintro e w3 ⟨rfl, rfl⟩
          go_wp2_with fail
          refine (unhide g6 _ (unhide HBK)).mono ?_
          rintro e w4 ⟨rfl, b4, hh4⟩
          have HBK4 := hide ((unhide HBK).up b4)
          have HB4 := hide ((unhide HB).trans (b4.mono (unhide HB).size))
          have hcell4 : Hid (∀ x, Below w4.heap.size w4 x → x.cell? ⟨gd, od + i * 2 + 1, none⟩ = some (.int .i64 N)) := fun x hx => unhide HCELL x ((unhide HB4).trans (hx.mono (unhide HB4).size))
          clear b4 hh4 HBK HB g6 qg ql0 ql1
          have hKN : Hid (¬ s < N ∨ K = -1) := by
            by_cases h : s < N
            · right
              rw [unhide HK]
              unfold waitN
              rw [if_pos h]
            · exact .inl h
          by_cases k0 : K < 0
          · go_wp2
            go_roundw
            case rel => exact ⟨i + 1, G2, M, L2, by omega, by omega, by go_num, rfl, rfl, unhide HBK4, by omega, by omega, by omega, by omega, unhide HB4⟩
            case measure => simp [intOf]; omega
          by_cases k3 : 300 < K
          · go_wp2
            go_roundw
            case rel => exact ⟨i + 1, G2, M, L2, by omega, by omega, by go_num, rfl, rfl, unhide HBK4, by omega, by omega, by omega, by omega, unhide HB4⟩
            case measure => simp [intOf]; omega
          have hNs : ¬ s < N := by
            rcases unhide hKN with h | h
            · exact h
            · omega
          obtain ⟨kk, hkk⟩ := Int.eq_ofNat_of_zero_le (show 0 ≤ K by omega)
          have HKK : Hid ((kk : Int) = waitN r s L2 N) := by rw [← unhide HK]; exact hkk.symm
          subst hkk
          have g7 := hide (newBucket_yes r s w4 hok)
          have h0e : Hid (takeE s s (s - L2) = 0 ∧ takeL s s (s - L2) = L2) := by
            have e1 : takeE s s (s - L2) = 0 := by
              unfold takeE
              rw [if_neg (by omega), if_neg (by omega), if_neg (by omega)]
            refine ⟨e1, ?_⟩
            unfold takeL
            rw [if_pos e1]
            omega
          have g8 := hide (fun x h => take_any r s s (s - L2) w4.heap.size x hs (by omega) h)
          rw [(unhide h0e).1, (unhide h0e).2] at g8
          have hbw : w.heap.size < w4.heap.size := (unhide HBK4).lt
          go_wp2_with fail
          refine (unhide g7).mono ?_
          rintro e w5 ⟨rfl, hbk5, b5, hlt5⟩
          have HC5 := hide hbk5
          have HBK5 := hide ((unhide HBK4).up b5)
          have HB5 := hide ((unhide HB4).trans (b5.mono (unhide HB4).size))
          have hcw : w.heap.size ≤ w4.heap.size := (unhide HB4).size
          have hcell5 : Hid (∀ x, Below w5.heap.size w5 x → x.cell? ⟨gd, od + i * 2 + 1, none⟩ = some (.int .i64 N)) := fun x hx => unhide HCELL x ((unhide HB5).trans (hx.mono (unhide HB5).size))
          clear hbk5 b5 hlt5 HB4 HBK4 hcell4 g7
          go_wp2_with fail
          refine (unhide g5 _ (unhide HBK5)).mono ?_
          rintro e w6 ⟨rfl, rfl⟩
          go_wp2_with fail
          refine (unhide g8 _ (unhide HC5)).mono ?_
          rintro e w6 ⟨rfl, hc6, hk6⟩
          have HC6 := hide hc6
          have HBK6 := hide ((unhide HBK5).kept hk6 (by omega))
          have HB6 := hide ((unhide HB5).trans (hk6.below w.heap.size (unhide HB5).size hcw))
          clear hc6 hk6 HC5 HBK5 HB5 hcell5 g8
          have g9 := hide (fun j x (h : Bk x w4.heap.size r s (lv r s L2 j)) => level_any r s (lv r s L2 j) w4.heap.size x h)
          have g10 : Hid (∀ j x, Bk x w4.heap.size r s (lv r s L2 j) → Calls Try.prog 11 #[.pointer (some ⟨w4.heap.size, 0, none⟩)] x fun e w' => e = .returned (.tuple #[]) ∧ Bk w' w4.heap.size r s (lv r s L2 (j + 1)) ∧ Kept x.heap.size w4.heap.size x w') := by
            intro j x h
            have hin := lv_in (r := r) (s := s) (L := L2) (by omega) (by omega) j
            have := tick_any r s (lv r s L2 j) w4.heap.size x (by omega) hs (by omega) h
            rw [lv_succ (by omega)] at this
            exact this
          go_wp2_with fail
          go_loopw [13] (fun jv wx => ∃ j : Nat, j ≤ kk ∧ jv = .int .i64 j ∧ Bk wx w4.heap.size r s (lv r s L2 j) ∧ Bk wx w.heap.size r s L2 ∧ Below w.heap.size w wx) (fun jv _ => kk - (intOf jv).toNat)
          case atStart => exact ⟨0, by omega, rfl, by rw [lv_zero (by omega)]; exact unhide HC6, unhide HBK6, unhide HB6⟩
          case round =>
            obtain ⟨j, hj, rfl, hc, hbk, hb⟩ := hrel
            have HC := hide hc
            have HBK := hide hbk
            have HB := hide hb
            clear hc hbk hb HC6 HBK6 HB6
            have hin := lv_in (r := r) (s := s) (L := L2) (by omega) (by omega) j
            by_cases hjk : j < kk
            · have q1 : (j : Int) < kk := by omega
              have hlt : lv r s L2 j < N := wait_lt (by omega) (by omega) (by rw [← unhide HKK]; exact q1)
              have g11 := hide (fun x h => unhide g9 j x h)
              have g12 := hide (unhide g10 j)
              generalize lv r s L2 j = lj at *
              have q2 : 0 ≤ N := by omega
              have q3 : ¬ N ≤ lj := by omega
              go_wp2_with fail
              refine wp_region_gr (fun x => Below wr.heap.size wr x) (by kernel_rfl) (by kernel_rfl) (gb_start wr) ?_
              have hne : Nonempty (Gb wr) := gb_ne wr
              have p1 : ∀ y : Gb wr, y.w.cell? ⟨gd, od + i * 2 + 1, none⟩ = some (.int .i64 N) := fun y => unhide HCELL _ ((unhide HB).trans (y.ok.mono (unhide HB).size))
              repeat (go_big_quiet_step ((go_at_call 17; exact gb_same (unhide g11 _ ((unhide HC).up (Gr.ok _))))))
              refine wpQuiet_nil ?_
              rintro w7 ⟨x7, rfl⟩
              have b7 := x7.ok
              have HC7 := hide ((unhide HC).up b7)
              have HBK7 := hide ((unhide HBK).up b7)
              have HB7 := hide ((unhide HB).trans (b7.mono (unhide HB).size))
              generalize x7.w = w7 at *
              clear b7 HC HBK HB p1
              go_wp2_with fail
              refine (unhide g12 _ (unhide HC7)).mono ?_
              rintro e w8 ⟨rfl, hc8, hk8⟩
              have HC8 := hide hc8
              have HBK8 := hide ((unhide HBK7).kept hk8 (by omega))
              have HB8 := hide ((unhide HB7).trans (hk8.below w.heap.size (unhide HB7).size hcw))
              clear hc8 hk8 HC7 HBK7 HB7
              go_wp2
              go_roundw
              case rel => exact ⟨j + 1, by omega, by go_num, unhide HC8, unhide HBK8, unhide HB8⟩
              case measure => simp [intOf]; omega
            · have hjk' : j = kk := by omega
              have q1 : ¬ (j : Int) < kk := by omega
              have c3 := unhide HCELL wr (unhide HB)
              by_cases q2 : 0 ≤ N
              · have hge : N ≤ lv r s L2 j := wait_ge (by omega) (by omega) (by omega) (by rw [hjk']; exact unhide HKK)
                have e1 : Hid (takeE s (lv r s L2 j) N = 0) := by
                  show _ = _
                  unfold takeE
                  rw [if_neg (by omega), if_neg (by omega), if_neg (by omega)]
                have g13 := hide (take_any r s (lv r s L2 j) N w4.heap.size wr hs (by omega) (unhide HC))
                rw [unhide e1] at g13
                generalize takeL s (lv r s L2 j) N = lx at *
                generalize lv r s L2 j = lj at *
                clear g9 g10 hge
                go_wp2_with fail
                refine (unhide g13).mono ?_
                rintro e w8 ⟨rfl, hc8, hk8⟩
                have HBK8 := hide ((unhide HBK).kept hk8 (by omega))
                have HB8 := hide ((unhide HB).trans (hk8.below w.heap.size (unhide HB).size hcw))
                clear hc8 hk8 HBK HB HC
                go_wp2
                go_roundw
                case rel => exact ⟨i + 1, G2, M, L2, by omega, by omega, by go_num, rfl, rfl, unhide HBK8, by omega, by omega, by omega, by omega, unhide HB8⟩
                case measure => simp [intOf]; omega
              · exact absurd hp.1 q2
        · have hL2 : takeL s L N = L := by unfold takeL; rw [if_neg he]
          have hne : ((takeE s L N) == 0) = false := by simpa using he
          rw [hL2] at gt
          generalize takeE s L N = er at *
          go_wp2_with fail
          refine (unhide gt).mono ?_
          rintro e w2 ⟨rfl, hbk2, hk2⟩
          have HBK2 := hide hbk2
          have HB2 := hide ((unhide HB).trans (hk2.below w.heap.size (unhide HB).size hbw0))
          have c0b := unhide HCELL0 w2 (unhide HB2)
          have c1b := unhide HCELL w2 (unhide HB2)
          clear hbk2 hk2 HBK HB gt c0 c1 hL2 htin
          have HBK := HBK2
          have HB := HB2
          clear HBK2 HB2
          have g5 := hide (fun x h => level_any r s L w.heap.size x h)
          have g6 := hide (fun x h => wait_any r s L N w.heap.size x hr hs (by omega) h)
          obtain ⟨K, hK⟩ : ∃ K, K = waitN r s L N := ⟨_, rfl⟩
          rw [← hK] at g6
          have HK := hide hK
          clear hK
          have qg : ¬ M < G := by omega
          have ql0 : ¬ L < 0 := by omega
          have ql1 : ¬ s < L := by omega
          go_wp2_with fail
          refine (unhide g5 _ (unhide HBK)).mono ?_
          rintro e w3 ⟨rfl, rfl⟩
          go_wp2_with fail
          refine (unhide g5 _ (unhide HBK)).mono ?_
          rintro e w3 ⟨rfl, rfl⟩
          go_wp2_with fail
          refine (unhide g6 _ (unhide HBK)).mono ?_
          rintro e w4 ⟨rfl, b4, hh4⟩
          have HBK4 := hide ((unhide HBK).up b4)
          have HB4 := hide ((unhide HB).trans (b4.mono (unhide HB).size))
          have hcell4 : Hid (∀ x, Below w4.heap.size w4 x → x.cell? ⟨gd, od + i * 2 + 1, none⟩ = some (.int .i64 N)) := fun x hx => unhide HCELL x ((unhide HB4).trans (hx.mono (unhide HB4).size))
          clear b4 hh4 HBK HB g6 qg ql0 ql1
          have hKN : Hid (¬ s < N ∨ K = -1) := by
            by_cases h : s < N
            · right
              rw [unhide HK]
              unfold waitN
              rw [if_pos h]
            · exact .inl h
          by_cases k0 : K < 0
          · go_wp2
            go_roundw
            case rel => exact ⟨i + 1, G, M, L, by omega, by omega, by go_num, rfl, rfl, unhide HBK4, by omega, by omega, by omega, by omega, unhide HB4⟩
            case measure => simp [intOf]; omega
          by_cases k3 : 300 < K
          · go_wp2
            go_roundw
            case rel => exact ⟨i + 1, G, M, L, by omega, by omega, by go_num, rfl, rfl, unhide HBK4, by omega, by omega, by omega, by omega, unhide HB4⟩
            case measure => simp [intOf]; omega
          have hNs : ¬ s < N := by
            rcases unhide hKN with h | h
            · exact h
            · omega
          obtain ⟨kk, hkk⟩ := Int.eq_ofNat_of_zero_le (show 0 ≤ K by omega)
          have HKK : Hid ((kk : Int) = waitN r s L N) := by rw [← unhide HK]; exact hkk.symm
          subst hkk
          have g7 := hide (newBucket_yes r s w4 hok)
          have h0e : Hid (takeE s s (s - L) = 0 ∧ takeL s s (s - L) = L) := by
            have e1 : takeE s s (s - L) = 0 := by
              unfold takeE
              rw [if_neg (by omega), if_neg (by omega), if_neg (by omega)]
            refine ⟨e1, ?_⟩
            unfold takeL
            rw [if_pos e1]
            omega
          have g8 := hide (fun x h => take_any r s s (s - L) w4.heap.size x hs (by omega) h)
          rw [(unhide h0e).1, (unhide h0e).2] at g8
          have hbw : w.heap.size < w4.heap.size := (unhide HBK4).lt
          go_wp2_with fail
          refine (unhide g7).mono ?_
          rintro e w5 ⟨rfl, hbk5, b5, hlt5⟩
          have HC5 := hide hbk5
          have HBK5 := hide ((unhide HBK4).up b5)
          have HB5 := hide ((unhide HB4).trans (b5.mono (unhide HB4).size))
          have hcw : w.heap.size ≤ w4.heap.size := (unhide HB4).size
          have hcell5 : Hid (∀ x, Below w5.heap.size w5 x → x.cell? ⟨gd, od + i * 2 + 1, none⟩ = some (.int .i64 N)) := fun x hx => unhide HCELL x ((unhide HB5).trans (hx.mono (unhide HB5).size))
          clear hbk5 b5 hlt5 HB4 HBK4 hcell4 g7
          go_wp2_with fail
          refine (unhide g5 _ (unhide HBK5)).mono ?_
          rintro e w6 ⟨rfl, rfl⟩
          go_wp2_with fail
          refine (unhide g8 _ (unhide HC5)).mono ?_
          rintro e w6 ⟨rfl, hc6, hk6⟩
          have HC6 := hide hc6
          have HBK6 := hide ((unhide HBK5).kept hk6 (by omega))
          have HB6 := hide ((unhide HB5).trans (hk6.below w.heap.size (unhide HB5).size hcw))
          clear hc6 hk6 HC5 HBK5 HB5 hcell5 g8
          have g9 := hide (fun j x (h : Bk x w4.heap.size r s (lv r s L j)) => level_any r s (lv r s L j) w4.heap.size x h)
          have g10 : Hid (∀ j x, Bk x w4.heap.size r s (lv r s L j) → Calls Try.prog 11 #[.pointer (some ⟨w4.heap.size, 0, none⟩)] x fun e w' => e = .returned (.tuple #[]) ∧ Bk w' w4.heap.size r s (lv r s L (j + 1)) ∧ Kept x.heap.size w4.heap.size x w') := by
            intro j x h
            have hin := lv_in (r := r) (s := s) (L := L) (by omega) (by omega) j
            have := tick_any r s (lv r s L j) w4.heap.size x (by omega) hs (by omega) h
            rw [lv_succ (by omega)] at this
            exact this
          go_wp2_with fail
          go_loopw [13] (fun jv wx => ∃ j : Nat, j ≤ kk ∧ jv = .int .i64 j ∧ Bk wx w4.heap.size r s (lv r s L j) ∧ Bk wx w.heap.size r s L ∧ Below w.heap.size w wx) (fun jv _ => kk - (intOf jv).toNat)
          case atStart => exact ⟨0, by omega, rfl, by rw [lv_zero (by omega)]; exact unhide HC6, unhide HBK6, unhide HB6⟩
          case round =>
            obtain ⟨j, hj, rfl, hc, hbk, hb⟩ := hrel
            have HC := hide hc
            have HBK := hide hbk
            have HB := hide hb
            clear hc hbk hb HC6 HBK6 HB6
            have hin := lv_in (r := r) (s := s) (L := L) (by omega) (by omega) j
            by_cases hjk : j < kk
            · have q1 : (j : Int) < kk := by omega
              have hlt : lv r s L j < N := wait_lt (by omega) (by omega) (by rw [← unhide HKK]; exact q1)
              have g11 := hide (fun x h => unhide g9 j x h)
              have g12 := hide (unhide g10 j)
              generalize lv r s L j = lj at *
              have q2 : 0 ≤ N := by omega
              have q3 : ¬ N ≤ lj := by omega
              go_wp2_with fail
              refine wp_region_gr (fun x => Below wr.heap.size wr x) (by kernel_rfl) (by kernel_rfl) (gb_start wr) ?_
              have hne : Nonempty (Gb wr) := gb_ne wr
              have p1 : ∀ y : Gb wr, y.w.cell? ⟨gd, od + i * 2 + 1, none⟩ = some (.int .i64 N) := fun y => unhide HCELL _ ((unhide HB).trans (y.ok.mono (unhide HB).size))
              repeat (go_big_quiet_step ((go_at_call 17; exact gb_same (unhide g11 _ ((unhide HC).up (Gr.ok _))))))
              refine wpQuiet_nil ?_
              rintro w7 ⟨x7, rfl⟩
              have b7 := x7.ok
              have HC7 := hide ((unhide HC).up b7)
              have HBK7 := hide ((unhide HBK).up b7)
              have HB7 := hide ((unhide HB).trans (b7.mono (unhide HB).size))
              generalize x7.w = w7 at *
              clear b7 HC HBK HB p1
              go_wp2_with fail
              refine (unhide g12 _ (unhide HC7)).mono ?_
              rintro e w8 ⟨rfl, hc8, hk8⟩
              have HC8 := hide hc8
              have HBK8 := hide ((unhide HBK7).kept hk8 (by omega))
              have HB8 := hide ((unhide HB7).trans (hk8.below w.heap.size (unhide HB7).size hcw))
              clear hc8 hk8 HC7 HBK7 HB7
              go_wp2
              go_roundw
              case rel => exact ⟨j + 1, by omega, by go_num, unhide HC8, unhide HBK8, unhide HB8⟩
              case measure => simp [intOf]; omega
            · have hjk' : j = kk := by omega
              have q1 : ¬ (j : Int) < kk := by omega
              have c3 := unhide HCELL wr (unhide HB)
              by_cases q2 : 0 ≤ N
              · have hge : N ≤ lv r s L j := wait_ge (by omega) (by omega) (by omega) (by rw [hjk']; exact unhide HKK)
                have e1 : Hid (takeE s (lv r s L j) N = 0) := by
                  show _ = _
                  unfold takeE
                  rw [if_neg (by omega), if_neg (by omega), if_neg (by omega)]
                have g13 := hide (take_any r s (lv r s L j) N w4.heap.size wr hs (by omega) (unhide HC))
                rw [unhide e1] at g13
                generalize takeL s (lv r s L j) N = lx at *
                generalize lv r s L j = lj at *
                clear g9 g10 hge
                go_wp2_with fail
                refine (unhide g13).mono ?_
                rintro e w8 ⟨rfl, hc8, hk8⟩
                have HBK8 := hide ((unhide HBK).kept hk8 (by omega))
                have HB8 := hide ((unhide HB).trans (hk8.below w.heap.size (unhide HB).size hcw))
                clear hc8 hk8 HBK HB HC
                go_wp2
                go_roundw
                case rel => exact ⟨i + 1, G, M, L, by omega, by omega, by go_num, rfl, rfl, unhide HBK8, by omega, by omega, by omega, by omega, unhide HB8⟩
                case measure => simp [intOf]; omega
              · generalize lv r s L j = lj at *
                clear g9 g10
                go_wp2
                go_roundw
                case rel => exact ⟨i + 1, G, M, L, by omega, by omega, by go_num, rfl, rfl, unhide HBK, by omega, by omega, by omega, by omega, unhide HB⟩
                case measure => simp [intOf]; omega
      have d0 : (kd == 0) = false := by simpa using k0
      have d1 : (kd == 1) = false := by simpa using k1
      have g5 := hide (fun x h => level_any r s L w.heap.size x h)
      have g6 := hide (fun x h => wait_any r s L N w.heap.size x hr hs (by omega) h)
      obtain ⟨K, hK⟩ : ∃ K, K = waitN r s L N := ⟨_, rfl⟩
      rw [← hK] at g6
      have HK := hide hK
      clear hK
      have qg : ¬ M < G := by omega
      have ql0 : ¬ L < 0 := by omega
      have ql1 : ¬ s < L := by omega
      go_wp2_with fail
      refine (unhide g5 _ (unhide HBK)).mono ?_
      rintro e w3 ⟨rfl, rfl⟩
      go_wp2_with fail
      refine (unhide g5 _ (unhide HBK)).mono ?_
      rintro e w3 ⟨rfl, rfl⟩
      go_wp2_with fail
      refine (unhide g6 _ (unhide HBK)).mono ?_
      rintro e w4 ⟨rfl, b4, hh4⟩
      have HBK4 := hide ((unhide HBK).up b4)
      have HB4 := hide ((unhide HB).trans (b4.mono (unhide HB).size))
      have hcell4 : Hid (∀ x, Below w4.heap.size w4 x → x.cell? ⟨gd, od + i * 2 + 1, none⟩ = some (.int .i64 N)) := fun x hx => unhide HCELL x ((unhide HB4).trans (hx.mono (unhide HB4).size))
      clear b4 hh4 HBK HB g6 qg ql0 ql1
      have hKN : Hid (¬ s < N ∨ K = -1) := by
        by_cases h : s < N
        · right
          rw [unhide HK]
          unfold waitN
          rw [if_pos h]
        · exact .inl h
      by_cases k0 : K < 0
      · go_wp2
        go_roundw
        case rel => exact ⟨i + 1, G, M, L, by omega, by omega, by go_num, rfl, rfl, unhide HBK4, by omega, by omega, by omega, by omega, unhide HB4⟩
        case measure => simp [intOf]; omega
      by_cases k3 : 300 < K
      · go_wp2
        go_roundw
        case rel => exact ⟨i + 1, G, M, L, by omega, by omega, by go_num, rfl, rfl, unhide HBK4, by omega, by omega, by omega, by omega, unhide HB4⟩
        case measure => simp [intOf]; omega
      have hNs : ¬ s < N := by
        rcases unhide hKN with h | h
        · exact h
        · omega
      obtain ⟨kk, hkk⟩ := Int.eq_ofNat_of_zero_le (show 0 ≤ K by omega)
      have HKK : Hid ((kk : Int) = waitN r s L N) := by rw [← unhide HK]; exact hkk.symm
      subst hkk
      have g7 := hide (newBucket_yes r s w4 hok)
      have h0e : Hid (takeE s s (s - L) = 0 ∧ takeL s s (s - L) = L) := by
        have e1 : takeE s s (s - L) = 0 := by
          unfold takeE
          rw [if_neg (by omega), if_neg (by omega), if_neg (by omega)]
        refine ⟨e1, ?_⟩
        unfold takeL
        rw [if_pos e1]
        omega
      have g8 := hide (fun x h => take_any r s s (s - L) w4.heap.size x hs (by omega) h)
      rw [(unhide h0e).1, (unhide h0e).2] at g8
      have hbw : w.heap.size < w4.heap.size := (unhide HBK4).lt
      go_wp2_with fail
      refine (unhide g7).mono ?_
      rintro e w5 ⟨rfl, hbk5, b5, hlt5⟩
      have HC5 := hide hbk5
      have HBK5 := hide ((unhide HBK4).up b5)
      have HB5 := hide ((unhide HB4).trans (b5.mono (unhide HB4).size))
      have hcw : w.heap.size ≤ w4.heap.size := (unhide HB4).size
      have hcell5 : Hid (∀ x, Below w5.heap.size w5 x → x.cell? ⟨gd, od + i * 2 + 1, none⟩ = some (.int .i64 N)) := fun x hx => unhide HCELL x ((unhide HB5).trans (hx.mono (unhide HB5).size))
      clear hbk5 b5 hlt5 HB4 HBK4 hcell4 g7
      go_wp2_with fail
      refine (unhide g5 _ (unhide HBK5)).mono ?_
      rintro e w6 ⟨rfl, rfl⟩
      go_wp2_with fail
      refine (unhide g8 _ (unhide HC5)).mono ?_
      rintro e w6 ⟨rfl, hc6, hk6⟩
      have HC6 := hide hc6
      have HBK6 := hide ((unhide HBK5).kept hk6 (by omega))
      have HB6 := hide ((unhide HB5).trans (hk6.below w.heap.size (unhide HB5).size hcw))
      clear hc6 hk6 HC5 HBK5 HB5 hcell5 g8
      have g9 := hide (fun j x (h : Bk x w4.heap.size r s (lv r s L j)) => level_any r s (lv r s L j) w4.heap.size x h)
      have g10 : Hid (∀ j x, Bk x w4.heap.size r s (lv r s L j) → Calls Try.prog 11 #[.pointer (some ⟨w4.heap.size, 0, none⟩)] x fun e w' => e = .returned (.tuple #[]) ∧ Bk w' w4.heap.size r s (lv r s L (j + 1)) ∧ Kept x.heap.size w4.heap.size x w') := by
        intro j x h
        have hin := lv_in (r := r) (s := s) (L := L) (by omega) (by omega) j
        have := tick_any r s (lv r s L j) w4.heap.size x (by omega) hs (by omega) h
        rw [lv_succ (by omega)] at this
        exact this
      go_wp2_with fail
      go_loopw [13] (fun jv wx => ∃ j : Nat, j ≤ kk ∧ jv = .int .i64 j ∧ Bk wx w4.heap.size r s (lv r s L j) ∧ Bk wx w.heap.size r s L ∧ Below w.heap.size w wx) (fun jv _ => kk - (intOf jv).toNat)
      case atStart => exact ⟨0, by omega, rfl, by rw [lv_zero (by omega)]; exact unhide HC6, unhide HBK6, unhide HB6⟩
      case round =>
        obtain ⟨j, hj, rfl, hc, hbk, hb⟩ := hrel
        have HC := hide hc
        have HBK := hide hbk
        have HB := hide hb
        clear hc hbk hb HC6 HBK6 HB6
        have hin := lv_in (r := r) (s := s) (L := L) (by omega) (by omega) j
        by_cases hjk : j < kk
        · have q1 : (j : Int) < kk := by omega
          have hlt : lv r s L j < N := wait_lt (by omega) (by omega) (by rw [← unhide HKK]; exact q1)
          have g11 := hide (fun x h => unhide g9 j x h)
          have g12 := hide (unhide g10 j)
          generalize lv r s L j = lj at *
          have q2 : 0 ≤ N := by omega
          have q3 : ¬ N ≤ lj := by omega
          go_wp2_with fail
          refine wp_region_gr (fun x => Below wr.heap.size wr x) (by kernel_rfl) (by kernel_rfl) (gb_start wr) ?_
          have hne : Nonempty (Gb wr) := gb_ne wr
          have p1 : ∀ y : Gb wr, y.w.cell? ⟨gd, od + i * 2 + 1, none⟩ = some (.int .i64 N) := fun y => unhide HCELL _ ((unhide HB).trans (y.ok.mono (unhide HB).size))
          repeat (go_big_quiet_step ((go_at_call 17; exact gb_same (unhide g11 _ ((unhide HC).up (Gr.ok _))))))
          refine wpQuiet_nil ?_
          rintro w7 ⟨x7, rfl⟩
          have b7 := x7.ok
          have HC7 := hide ((unhide HC).up b7)
          have HBK7 := hide ((unhide HBK).up b7)
          have HB7 := hide ((unhide HB).trans (b7.mono (unhide HB).size))
          generalize x7.w = w7 at *
          clear b7 HC HBK HB p1
          go_wp2_with fail
          refine (unhide g12 _ (unhide HC7)).mono ?_
          rintro e w8 ⟨rfl, hc8, hk8⟩
          have HC8 := hide hc8
          have HBK8 := hide ((unhide HBK7).kept hk8 (by omega))
          have HB8 := hide ((unhide HB7).trans (hk8.below w.heap.size (unhide HB7).size hcw))
          clear hc8 hk8 HC7 HBK7 HB7
          go_wp2
          go_roundw
          case rel => exact ⟨j + 1, by omega, by go_num, unhide HC8, unhide HBK8, unhide HB8⟩
          case measure => simp [intOf]; omega
        · have hjk' : j = kk := by omega
          have q1 : ¬ (j : Int) < kk := by omega
          have c3 := unhide HCELL wr (unhide HB)
          by_cases q2 : 0 ≤ N
          · have hge : N ≤ lv r s L j := wait_ge (by omega) (by omega) (by omega) (by rw [hjk']; exact unhide HKK)
            have e1 : Hid (takeE s (lv r s L j) N = 0) := by
              show _ = _
              unfold takeE
              rw [if_neg (by omega), if_neg (by omega), if_neg (by omega)]
            have g13 := hide (take_any r s (lv r s L j) N w4.heap.size wr hs (by omega) (unhide HC))
            rw [unhide e1] at g13
            generalize takeL s (lv r s L j) N = lx at *
            generalize lv r s L j = lj at *
            clear g9 g10 hge
            go_wp2_with fail
            refine (unhide g13).mono ?_
            rintro e w8 ⟨rfl, hc8, hk8⟩
            have HBK8 := hide ((unhide HBK).kept hk8 (by omega))
            have HB8 := hide ((unhide HB).trans (hk8.below w.heap.size (unhide HB).size hcw))
            clear hc8 hk8 HBK HB HC
            go_wp2
            go_roundw
            case rel => exact ⟨i + 1, G, M, L, by omega, by omega, by go_num, rfl, rfl, unhide HBK8, by omega, by omega, by omega, by omega, unhide HB8⟩
            case measure => simp [intOf]; omega
          · generalize lv r s L j = lj at *
            clear g9 g10
            go_wp2
            go_roundw
            case rel => exact ⟨i + 1, G, M, L, by omega, by omega, by go_num, rfl, rfl, unhide HBK, by omega, by omega, by omega, by omega, unhide HB⟩
            case measure => simp [intOf]; omega
    · by_cases hlt1 : i < n
      · have q1 : (i : Int) < n := by omega
        have q2 : ¬ (i : Int) < 40 := by omega
        go_wp2
        go_ret
        exact ⟨rfl, unhide HB⟩
      · have q1 : ¬ (i : Int) < n := by omega
        go_wp2
        go_ret
        exact ⟨rfl, unhide HB⟩
end Go.Proofs.Ytiibdlddamcfaaa

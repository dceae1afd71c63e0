/- The law OuterEach, walked. -/
import Derived.Test.YtdhicfmphjplpaaOuK
namespace Go.Proofs.Ytdhicfmphjplpaa
open Go.RowKit
set_option linter.unusedVariables false
attribute [local go_sem] Oper.semAt_some

set_option maxRecDepth 100000 in
set_option maxHeartbeats 4000000 in
theorem outerEach_no (sd n a q : Int) (hP : plOk sd n a q = false) (w : World) :
    Calls Try.prog 3 #[plV sd n a q] w fun e w' => e = .returned (.bool true) ∧ Below w.heap.size w w' := by
  have haw := hide oawake_any
  have hru := hide (fun w => Rules_no sd n a q hP w)
  have hck := hide (fun w => check_any sd n a q w)
  rw [hP] at hck
  have hb0 : Below w.heap.size w (w.alloc (.cells #[.int .i64 sd, .int .i64 n, .int .i64 a, .int .i64 q] 23)) := (Below.refl _ w).alloc (Nat.le_refl _) _
  have hpc := hide (plan_cells w sd n a q)
  have B0 := hide hb0
  unfold plV at *
  clear hb0 hP
  obtain ⟨c0, c1, c2, c3⟩ := unhide hpc _ (Below.refl _ _)
  go_enter Try.func3, Try.ntmps3
  go_wp2_with fail
  generalize hW0 : w.alloc (.cells #[.int .i64 sd, .int .i64 n, .int .i64 a, .int .i64 q] 23) = W0 at *
  have HW0 := hide hW0
  clear hW0
  refine (unhide hru W0).mono ?_
  rintro e w1 ⟨rfl, b1⟩
  obtain ⟨c0, c1, c2, c3⟩ := unhide hpc w1 b1
  have B1 := hide ((unhide B0).trans (b1.mono (unhide B0).size))
  have D1 := hide b1
  clear b1
  go_wp2_with fail
  refine (unhide haw w1).mono ?_
  rintro e w2 ⟨rfl, b2⟩
  have D2 := (unhide D1).trans (b2.mono (unhide D1).size)
  obtain ⟨c0, c1, c2, c3⟩ := unhide hpc w2 D2
  have B2 := hide ((unhide B1).trans (b2.mono (unhide B1).size))
  clear b2 D2 D1
  go_wp2_with fail
  refine (unhide hck w2).mono ?_
  rintro e w3 ⟨rfl, b3⟩
  have B3 := hide ((unhide B2).trans (b3.mono (unhide B2).size))
  clear b3
  go_wp2
  go_ret
  exact ⟨rfl, unhide B3⟩
set_option maxRecDepth 100000 in
set_option maxHeartbeats 8000000 in
theorem outerEach_yes (sd n a q : Nat) (hsd : sd ≤ 72057594037927935) (hn1 : 1 ≤ n) (hn : n ≤ 96) (ha1 : 1 ≤ a) (ha : a ≤ 64) (hq1 : 1 ≤ q) (hq : q ≤ 8) (w : World) :
    Calls Try.prog 3 #[plV sd n a q] w fun e w' => e = .returned (.bool true) ∧ Below w.heap.size w w' := by
  have haw := hide oawake_any
  have hru := hide (fun w => Rules_any sd n a q hsd hn1 hn ha1 ha hq1 hq w)
  have hjo := hide (fun i hi w => Joins_any sd n a q i hsd hn1 hn ha1 ha hq1 hq hi w)
  have hb0 : Below w.heap.size w (w.alloc (.cells #[.int .i64 (sd : Int), .int .i64 (n : Int), .int .i64 (a : Int), .int .i64 (q : Int)] 23)) := (Below.refl _ w).alloc (Nat.le_refl _) _
  have hpc := hide (plan_cells w sd n a q)
  have B0 := hide hb0
  unfold plV at *
  clear hb0
  obtain ⟨c0, c1, c2, c3⟩ := unhide hpc _ (Below.refl _ _)
  go_enter Try.func3, Try.ntmps3
  go_wp2_with fail
  generalize hW0 : w.alloc (.cells #[.int .i64 (sd : Int), .int .i64 (n : Int), .int .i64 (a : Int), .int .i64 (q : Int)] 23) = W0 at *
  have HW0 := hide hW0
  clear hW0
  refine (unhide hru W0).mono ?_
  rintro e w1 ⟨G, rfl, ⟨V, hR⟩, b1⟩
  have D1 := hide b1
  have HR := hide hR
  clear b1 hR c0 c1 c2 c3
  go_wp2_with fail
  go_loopw [5, 6, 7, 8] (fun all jv _ _ wr => ∃ j : Nat, j ≤ a ∧ jv = .int .i64 j ∧ all = .int .i64 (sumM sd n a q j) ∧ Below w1.heap.size w1 wr) (fun _ jv _ _ _ => a - (intOf jv).toNat)
  case atStart => exact ⟨0, Nat.zero_le _, rfl, rfl, Below.refl _ _⟩
  case round =>
    obtain ⟨j, hja, rfl, rfl, hB⟩ := hrel
    by_cases hlt : j < a
    · have q1 : (j : Int) < (a : Int) := by omega
      have hRr := (unhide HR).below hB
      have d1 := hRr.cell j hlt
      obtain ⟨b0, cc, hVj, hN⟩ := nums_of_own (hRr.row j hlt)
      have hlen := ruL_len sd n a q j
      have hml := memL_len sd a q j n
      have HSU := hide (sumM_succ sd n a q j)
      have hsl := sumM_le sd n a q j
      have hsl2 : sumM sd n a q j ≤ 10000 := by
        have : j * n ≤ 64 * 96 := Nat.mul_le_mul (by omega) hn
        omega
      rw [hVj, hlen] at d1
      obtain ⟨g, o, rfl, c5⟩ := hN (memL sd a q j n).length (by omega)
      rw [ruL_last] at c5
      rw [show ((n + j : Nat) : Int) = (n : Int) + (j : Int) by omega] at c5
      have HN := hide hN
      have HB := hide hB
      have hup := hide (memL_up sd a q j n)
      obtain ⟨c0, c1, c2, c3⟩ := unhide hpc wr ((unhide D1).trans (hB.mono (unhide D1).size))
      clear hRr hN hB hVj hsl
      have HLEN := hide hlen
      clear hlen
      generalize hm : (memL sd a q j n).length = m at *
      have HM := hide hm
      clear hm
      generalize sumM sd n a q j = S at *
      have q2 : ((m : Int) + 1 == 0) = false := by rw [beq_eq_false_iff_ne]; omega
      go_wp2
      go_quiet (fail)
      go_wp2
      go_loopw [8] (fun kv wx => ∃ k p : Nat, k ≤ m ∧ kv = .int .i64 k ∧ wr.drewN p = wx) (fun kv _ => m - (intOf kv).toNat)
      case atStart => exact ⟨0, nq, Nat.zero_le _, rfl, rfl⟩
      case round =>
        obtain ⟨k, p, hkm, rfl, rfl⟩ := hrel
        by_cases hlt2 : k < m
        · have q3 : (k : Int) + 1 < (m : Int) + 1 := by omega
          have hk' : k < (memL sd a q j n).length := by rw [unhide HM]; exact hlt2
          obtain ⟨g', o', he', c6⟩ := unhide HN k (by rw [unhide HLEN]; omega)
          simp only [Option.some.injEq, Addr.mk.injEq, and_true] at he'
          obtain ⟨rfl, rfl⟩ := he'
          rw [ruL_get sd n a q j k hk'] at c6
          have hxn := memL_lt sd a q j n _ (List.getElem_mem hk')
          by_cases hk0 : k = 0
          · subst hk0
            rw [Nat.add_zero] at c6
            generalize (memL sd a q j n)[0] = x at *
            clear hk'
            go_wp2
            have q4 : decide ((x : Int) < 0) = false := by rw [decide_eq_false_iff_not]; omega
            have q5 : decide ((n : Int) ≤ (x : Int)) = false := by rw [decide_eq_false_iff_not]; omega
            have q4' : ¬ (x : Int) < 0 := by omega
            have q5' : ¬ (n : Int) ≤ (x : Int) := by omega
            go_big_quiet (fail)
            go_wp2
            go_roundw
            case rel => exact ⟨1, p + nq, by omega, by go_num, rfl⟩
            case measure => simp [intOf]; omega
          · obtain ⟨k', rfl⟩ : ∃ k', k = k' + 1 := ⟨k - 1, by omega⟩
            obtain ⟨g', o', he', c7⟩ := unhide HN k' (by rw [unhide HLEN]; omega)
            simp only [Option.some.injEq, Addr.mk.injEq, and_true] at he'
            obtain ⟨rfl, rfl⟩ := he'
            rw [ruL_get sd n a q j k' (by omega)] at c7
            have hup2 := List.pairwise_iff_getElem.1 (unhide hup) k' (k' + 1) (by omega) hk' (by omega)
            generalize (memL sd a q j n)[k' + 1] = x at *
            generalize (memL sd a q j n)[k'] = y at *
            have HUP := hide hup2
            clear hk' hup2
            go_wp2
            have hup2 := unhide HUP
            have q4 : decide ((x : Int) < 0) = false := by rw [decide_eq_false_iff_not]; omega
            have q5 : decide ((n : Int) ≤ (x : Int)) = false := by rw [decide_eq_false_iff_not]; omega
            have q6 : decide ((0 : Int) < (k' : Int) + 1) = true := by rw [decide_eq_true_iff]; omega
            have q7 : decide ((x : Int) ≤ (y : Int)) = false := by rw [decide_eq_false_iff_not]; omega
            have q4' : ¬ (x : Int) < 0 := by omega
            have q5' : ¬ (n : Int) ≤ (x : Int) := by omega
            have q6' : (0 : Int) < (k' : Int) + 1 := by omega
            have q7' : ¬ (x : Int) ≤ (y : Int) := by omega
            clear hup2
            go_big_quiet (fail)
            go_wp2
            go_roundw
            case rel => exact ⟨k' + 2, p + nq, by omega, by go_num, rfl⟩
            case measure => simp [intOf]; omega
        · have hke : k = m := by omega
          subst hke
          have q3 : ¬ (k : Int) + 1 < (k : Int) + 1 := by omega
          go_wp2
          go_roundw
          case rel => exact ⟨j + 1, by omega, by go_num, by rw [unhide HSU]; go_num, below_drawn (unhide HB) _⟩
          case measure => simp [intOf]; omega
    · have hje : j = a := by omega
      subst hje
      have q1 : ¬ (j : Int) < (j : Int) := by omega
      have HB := hide hB
      have hall := sumM_all sd j q n
      have hS : sumM sd n j q j ≤ 10000 := by
        rw [hall]
        have : n * min q j ≤ 96 * 8 := Nat.mul_le_mul hn (by omega)
        omega
      have hmn : min (q : Int) (j : Int) = ((min q j : Nat) : Int) := by omega
      have hmul : (n : Int) * ((min q j : Nat) : Int) = (sumM sd n j q j : Int) := by rw [hall]; simp
      have hJL := hide (fun i => joI_len sd j q i)
      generalize sumM sd n j q j = S at *
      generalize hmq : min q j = mq at *
      have hmq8 : mq ≤ 8 := by omega
      have HMUL := hide hmul
      have HMN := hide hmn
      clear hB hall hmul hmn hmq
      go_wp2
      go_loopw [9] (fun iv wy => ∃ i : Nat, i ≤ n ∧ iv = .int .i64 i ∧ Below w1.heap.size w1 wy) (fun iv _ => n - (intOf iv).toNat)
      case atStart => exact ⟨0, Nat.zero_le _, rfl, unhide HB⟩
      case round =>
        clear HB
        obtain ⟨i, hin, rfl, hB⟩ := hrel
        obtain ⟨c0, c1, c2, c3⟩ := unhide hpc wr ((unhide D1).trans (hB.mono (unhide D1).size))
        by_cases hlt2 : i < n
        · have q2 : (i : Int) < (n : Int) := by omega
          have HB := hide hB
          have hj1 := hide (unhide hjo i hlt2 wr)
          clear hB
          go_wp2_with fail
          refine (unhide hj1).mono ?_
          rintro e w2 ⟨g, rfl, hg1, hg2, hcl, b2⟩
          have HB2 := hide ((unhide HB).trans (b2.mono (unhide HB).size))
          have HCL := hide hcl
          clear hcl b2 c0 c1 c2 c3 HB hj1
          obtain ⟨c0, c1, c2, c3⟩ := unhide hpc w2 ((unhide D1).trans ((unhide HB2).mono (unhide D1).size))
          have hmn := unhide HMN
          go_wp2
          go_loopw [12] (fun kv wx => ∃ k p : Nat, k ≤ mq ∧ kv = .int .i64 k ∧ w2.drewN p = wx) (fun kv _ => mq - (intOf kv).toNat)
          case atStart => exact ⟨0, 0, Nat.zero_le _, rfl, rfl⟩
          case round =>
            obtain ⟨k, p, hkm, rfl, rfl⟩ := hrel
            by_cases hlt3 : k < mq
            · have q3 : (k : Int) < (mq : Int) := by omega
              have hk' : k < (joI sd j q i).length := by rw [unhide hJL i]; exact hlt3
              have c6 := unhide HCL k hk'
              obtain ⟨x, hx, hxa⟩ := joI_lt sd j q i _ (List.getElem_mem hk')
              have hin2 : i ∈ ruL sd n j q x := ruL_has sd n j q i x hlt2 (by rw [← hx]; exact List.getElem_mem hk')
              have hR2 := (unhide HR).below (unhide HB2)
              have d1 := hR2.cell x hxa
              obtain ⟨b0, cc, hVx, hN⟩ := nums_of_own (hR2.row x hxa)
              rw [hVx] at d1
              have hh : Hid (∀ W, Below w2.heap.size w2 W → Calls Try.prog 10 #[.slice b0 (ruL sd n j q x).length cc, .int .i64 i] W fun e w' => e = .returned (.bool true) ∧ w' = W) := fun W hW => by
                have := has_any W (ruL sd n j q x) b0 cc i (by rw [ruL_len]; have := memL_len sd j q x n; omega) (hN.below hW)
                rw [decide_eq_true hin2] at this
                exact this
              have hrl : (ruL sd n j q x).length ≤ 1000 := by rw [ruL_len]; have := memL_len sd j q x n; omega
              have q8 : (x : Int) < (j : Int) := by omega
              have HHC : Hid (∀ z, Calls Try.prog 10 #[.slice b0 (ruL sd n j q x).length cc, .int .i64 i] (w2.drewN (p + z)) fun e w' => e = .returned (.bool true) ∧ ∃ n, w' = w2.drewN (p + n)) := fun z => (unhide hh (w2.drewN (p + z)) (below_drawn (Below.refl _ _) _)).mono (fun e w' h => ⟨h.1, z, h.2⟩)
              have HX := hide hx
              rw [hx] at c6
              clear hR2 hVx hN hh hin2 hx
              generalize (ruL sd n j q x).length = LL at *
              by_cases hk0 : k = 0
              · subst hk0
                clear hk' HX
                go_wp2
                have q4 : decide ((x : Int) < 0) = false := by rw [decide_eq_false_iff_not]; omega
                have q5 : decide ((j : Int) ≤ (x : Int)) = false := by rw [decide_eq_false_iff_not]; omega
                have q4' : ¬ (x : Int) < 0 := by omega
                have q5' : ¬ (j : Int) ≤ (x : Int) := by omega
                go_big_quiet ((go_at_call 10; exact unhide HHC _))
                go_wp2
                go_roundw
                case rel => exact ⟨1, p + nq, by omega, by go_num, rfl⟩
                case measure => simp [intOf]; omega
              · obtain ⟨k', rfl⟩ : ∃ k', k = k' + 1 := ⟨k - 1, by omega⟩
                have c7 := unhide HCL k' (by omega)
                obtain ⟨y, hy, hya⟩ := joI_lt sd j q i _ (List.getElem_mem (show k' < (joI sd j q i).length by omega))
                have hup2 := List.pairwise_iff_getElem.1 (joI_up sd j q i) k' (k' + 1) (by omega) hk' (by omega)
                rw [hy, unhide HX] at hup2
                rw [hy] at c7
                have HUP := hide hup2
                clear hk' hup2 HX hy
                go_wp2
                have hup2 := unhide HUP
                have q4 : decide ((x : Int) < 0) = false := by rw [decide_eq_false_iff_not]; omega
                have q5 : decide ((j : Int) ≤ (x : Int)) = false := by rw [decide_eq_false_iff_not]; omega
                have q6 : decide ((0 : Int) < (k' : Int) + 1) = true := by rw [decide_eq_true_iff]; omega
                have q7 : decide ((x : Int) ≤ (y : Int)) = false := by rw [decide_eq_false_iff_not]; omega
                have q4' : ¬ (x : Int) < 0 := by omega
                have q5' : ¬ (j : Int) ≤ (x : Int) := by omega
                have q6' : (0 : Int) < (k' : Int) + 1 := by omega
                have q7' : ¬ (x : Int) ≤ (y : Int) := by omega
                clear hup2
                go_big_quiet ((go_at_call 10; exact unhide HHC _))
                go_wp2
                go_roundw
                case rel => exact ⟨k' + 2, p + nq, by omega, by go_num, rfl⟩
                case measure => simp [intOf]; omega
            · have hke : k = mq := by omega
              subst hke
              have q3 : ¬ (k : Int) < (k : Int) := by omega
              go_wp2
              go_roundw
              case rel => exact ⟨i + 1, by omega, by go_num, below_drawn (unhide HB2) _⟩
              case measure => simp [intOf]; omega
        · have hie : i = n := by omega
          subst hie
          have q2 : ¬ (i : Int) < (i : Int) := by omega
          have HB := hide hB
          clear hB
          go_wp2_with fail
          refine (unhide haw wr).mono ?_
          rintro e w3 ⟨rfl, b3⟩
          have HB3 := hide ((unhide HB).trans (b3.mono (unhide HB).size))
          clear b3 c0 c1 c2 c3 HB
          obtain ⟨c0, c1, c2, c3⟩ := unhide hpc w3 ((unhide D1).trans ((unhide HB3).mono (unhide D1).size))
          have hmn := unhide HMN
          have hmul := unhide HMUL
          go_wp2
          go_ret
          exact ⟨rfl, (unhide B0).trans (((unhide D1).trans ((unhide HB3).mono (unhide D1).size)).mono (unhide B0).size)⟩
end Go.Proofs.Ytdhicfmphjplpaa

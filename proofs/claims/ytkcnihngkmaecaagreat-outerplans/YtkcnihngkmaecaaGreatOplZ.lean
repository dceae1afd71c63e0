/- The law OuterPlans, walked: a plan that may not be, and the first ways. The law OuterPlans, walked: more ways. The law OuterPlans, walked: the last ways. The law OuterPlans, of any plan and any numbers. -/
import Derived.Test.YtkcnihngkmaecaaGreatOdZ
import Derived.Test.YtkcnihngkmaecaaGreatOuI
import Derived.Test.YtkcnihngkmaecaaGreatOpenPl
namespace Go.Proofs.YtkcnihngkmaecaaGreat
open Go.RowKit
set_option linter.unusedVariables false
attribute [local go_sem] Oper.semAt_some

set_option maxRecDepth 100000 in
set_option maxHeartbeats 8000000 in
theorem outerPlans_no (sd n a q i j : Int) (hP : plOk sd n a q = false) (w : World) :
    Calls Tryz.prog 3 #[plV sd n a q, .int .i64 i, .int .i64 j] w fun e w' => e = .returned (.bool true) ∧ Below w.heap.size w w' := by
  have haw := hide oawake_any
  have hrf := hide (fun w => dref_any sd n a q w)
  have hjo := hide (fun w => Joins_no sd n a q i hP w)
  have hme := hide (fun w => Members_no sd n a q j hP w)
  have hru := hide (fun w => Rules_no sd n a q hP w)
  have hck := hide (fun w => check_any sd n a q w)
  have hdc := hide (fun w => dcheck_any sd n a q w)
  rw [hP] at hck hdc
  clear hP
  have hb0 : Below w.heap.size w (w.alloc (.cells #[.int .i64 sd, .int .i64 n, .int .i64 a, .int .i64 q] 23)) := (Below.refl _ w).alloc (Nat.le_refl _) _
  have hpc := hide (plan_cells w sd n a q)
  have B0 := hide hb0
  unfold plV at *
  clear hb0
  obtain ⟨c0, c1, c2, c3⟩ := unhide hpc _ (Below.refl _ _)
  go_enter Tryz.func3, Tryz.ntmps3
  go_wp2_with fail
  generalize hW0 : w.alloc (.cells #[.int .i64 sd, .int .i64 n, .int .i64 a, .int .i64 q] 23) = W0 at *
  have HW0 := hide hW0
  clear hW0
  refine (unhide hrf W0).mono ?_
  rintro e w1 ⟨rfl, b1⟩
  have D2 := hide (b1.alloc b1.size (.cells #[.int .i64 sd, .int .i64 n, .int .i64 a, .int .i64 q] 24))
  have hpd := hide (plan_cellsD w1 sd n a q)
  clear b1 c0 c1 c2 c3
  obtain ⟨c0, c1, c2, c3⟩ := unhide hpc _ (unhide D2)
  obtain ⟨d0, d1, d2, d3⟩ := unhide hpd _ (Below.refl _ _)
  go_wp2_with fail
  generalize hW2 : w1.alloc (.cells #[.int .i64 sd, .int .i64 n, .int .i64 a, .int .i64 q] 24) = W2 at *
  have HW2 := hide hW2
  have E0 := hide (Below.refl W2.heap.size W2)
  clear hW2
  refine (unhide hjo W2).mono ?_
  rintro e y1 ⟨rfl, b⟩
  have E1 := hide ((unhide E0).trans (b.mono (unhide E0).size))
  clear b E0 c0 c1 c2 c3 d0 d1 d2 d3
  obtain ⟨c0, c1, c2, c3⟩ := unhide hpc y1 ((unhide D2).trans ((unhide E1).mono (unhide D2).size))
  obtain ⟨d0, d1, d2, d3⟩ := unhide hpd y1 (unhide E1)
  go_wp2_with fail
  refine (unhide hme y1).mono ?_
  rintro e y2 ⟨rfl, b⟩
  have E2 := hide ((unhide E1).trans (b.mono (unhide E1).size))
  clear b E1 c0 c1 c2 c3 d0 d1 d2 d3
  obtain ⟨c0, c1, c2, c3⟩ := unhide hpc y2 ((unhide D2).trans ((unhide E2).mono (unhide D2).size))
  obtain ⟨d0, d1, d2, d3⟩ := unhide hpd y2 (unhide E2)
  go_wp2_with fail
  refine (unhide hru y2).mono ?_
  rintro e y3 ⟨rfl, b⟩
  have E3 := hide ((unhide E2).trans (b.mono (unhide E2).size))
  clear b E2 c0 c1 c2 c3 d0 d1 d2 d3
  obtain ⟨c0, c1, c2, c3⟩ := unhide hpc y3 ((unhide D2).trans ((unhide E3).mono (unhide D2).size))
  obtain ⟨d0, d1, d2, d3⟩ := unhide hpd y3 (unhide E3)
  go_wp2_with fail
  refine (unhide hdc y3).mono ?_
  rintro e y4 ⟨rfl, b⟩
  have E4 := hide ((unhide E3).trans (b.mono (unhide E3).size))
  clear b E3 c0 c1 c2 c3 d0 d1 d2 d3
  obtain ⟨c0, c1, c2, c3⟩ := unhide hpc y4 ((unhide D2).trans ((unhide E4).mono (unhide D2).size))
  obtain ⟨d0, d1, d2, d3⟩ := unhide hpd y4 (unhide E4)
  go_wp2_with fail
  refine (unhide haw y4).mono ?_
  rintro e y5 ⟨rfl, b⟩
  have E5 := hide ((unhide E4).trans (b.mono (unhide E4).size))
  clear b E4 c0 c1 c2 c3 d0 d1 d2 d3
  obtain ⟨c0, c1, c2, c3⟩ := unhide hpc y5 ((unhide D2).trans ((unhide E5).mono (unhide D2).size))
  obtain ⟨d0, d1, d2, d3⟩ := unhide hpd y5 (unhide E5)
  go_wp2_with fail
  refine (unhide hck y5).mono ?_
  rintro e y6 ⟨rfl, b⟩
  have E6 := hide ((unhide E5).trans (b.mono (unhide E5).size))
  clear b E5 c0 c1 c2 c3 d0 d1 d2 d3
  obtain ⟨c0, c1, c2, c3⟩ := unhide hpc y6 ((unhide D2).trans ((unhide E6).mono (unhide D2).size))
  obtain ⟨d0, d1, d2, d3⟩ := unhide hpd y6 (unhide E6)
  have BF := hide ((unhide B0).trans (((unhide D2).trans ((unhide E6).mono (unhide D2).size)).mono (unhide B0).size))
  clear c0 c1 c2 c3 d0 d1 d2 d3
  go_wp2
  go_ret
  exact ⟨rfl, unhide BF⟩
set_option maxRecDepth 100000 in
set_option maxHeartbeats 8000000 in
theorem Joins_num (sd n a q i : Nat) (hsd : sd ≤ 72057594037927935) (hn1 : 1 ≤ n) (hn : n ≤ 96) (ha1 : 1 ≤ a) (ha : a ≤ 64) (hq1 : 1 ≤ q) (hq : q ≤ 8) (hi : i < n) (w : World) :
    Calls Tryz.prog 7 #[plV sd n a q, .int .i64 i] w fun e w' => ∃ b c, e = .returned (.tuple #[.slice b (joN sd a q i).length c, .int .i64 0]) ∧ NumsAt w' b (joN sd a q i) ∧ Below w.heap.size w w' := by
  refine (Joins_any sd n a q i hsd hn1 hn ha1 ha hq1 hq hi w).mono ?_
  rintro e w' ⟨g, rfl, h1, h2, h3, hb⟩
  refine ⟨some ⟨g, 0, none⟩, min q a, by rw [joN_len], fun k hk => ⟨g, 0, rfl, ?_⟩, hb⟩
  have hz := joN_zs sd a q i
  have hk' : k < (joI sd a q i).length := by rw [← hz, List.length_map]; exact hk
  rw [Nat.zero_add, h3 k hk']
  have : (joI sd a q i)[k] = ((joN sd a q i)[k] : Int) := by
    simp only [← hz, List.getElem_map]
  rw [this]
set_option maxRecDepth 100000 in
set_option maxHeartbeats 8000000 in
theorem outerPlans_yy (sd n a q : Nat) (i : Nat) (j : Nat) (hsd : sd ≤ 72057594037927935) (hn1 : 1 ≤ n) (hn : n ≤ 96) (ha1 : 1 ≤ a) (ha : a ≤ 64) (hq1 : 1 ≤ q) (hq : q ≤ 8) (hi : i < n) (hj : j < a) (w : World) :
    Calls Tryz.prog 3 #[plV sd n a q, .int .i64 i, .int .i64 j] w fun e w' => e = .returned (.bool true) ∧ Below w.heap.size w w' := by
  have hP : plOk sd n a q = true := by unfold plOk; simp; omega
  have haw := hide oawake_any
  have hrf := hide (fun w => dref_any sd n a q w)
  have hru := hide (fun w => Rules_any sd n a q hsd hn1 hn ha1 ha hq1 hq w)
  have hrd := hide (fun w => drules_any sd n a q hsd hn ha1 ha hq1 hq w)
  have hck := hide (fun w => check_any sd n a q w)
  have hdc := hide (fun w => dcheck_any sd n a q w)
  have hml := hide (fun j => memL_len sd a q j n)
  have hjo := hide (fun w => Joins_num sd n a q i hsd hn1 hn ha1 ha hq1 hq hi w)
  have hjd := hide (fun w => djoins_any sd n a q i hsd ha1 ha hq1 hq (by omega) w)
  have hjl : Hid ((joN sd a q i).length ≤ 100000) := by
    have := joN_len sd a q i
    show _ ≤ _
    omega
  have qi : (0 : Int) ≤ (i : Int) := by omega
  have qi2 : (i : Int) < (n : Int) := by omega
  have hme := hide (fun w => Members_any sd n a q j hsd hn1 hn ha1 ha hq1 hq hj w)
  have hmd := hide (fun w => dMembers_any sd n a q j hsd hn ha1 ha hq1 hq hj w)
  have hmj : Hid ((memL sd a q j n).length ≤ 100000) := by
    have := unhide hml j
    show _ ≤ _
    omega
  have qj : (0 : Int) ≤ (j : Int) := by omega
  have qj2 : (j : Int) < (a : Int) := by omega
  rw [hP] at hck hdc
  clear hP
  have hb0 : Below w.heap.size w (w.alloc (.cells #[.int .i64 (sd : Int), .int .i64 (n : Int), .int .i64 (a : Int), .int .i64 (q : Int)] 23)) := (Below.refl _ w).alloc (Nat.le_refl _) _
  have hpc := hide (plan_cells w sd n a q)
  have B0 := hide hb0
  unfold plV at *
  clear hb0
  obtain ⟨c0, c1, c2, c3⟩ := unhide hpc _ (Below.refl _ _)
  go_enter Tryz.func3, Tryz.ntmps3
  go_wp2_with fail
  generalize hW0 : w.alloc (.cells #[.int .i64 (sd : Int), .int .i64 (n : Int), .int .i64 (a : Int), .int .i64 (q : Int)] 23) = W0 at *
  have HW0 := hide hW0
  clear hW0
  refine (unhide hrf W0).mono ?_
  rintro e w1 ⟨rfl, b1⟩
  have D2 := hide (b1.alloc b1.size (.cells #[.int .i64 (sd : Int), .int .i64 (n : Int), .int .i64 (a : Int), .int .i64 (q : Int)] 24))
  have hpd := hide (plan_cellsD w1 sd n a q)
  clear b1 c0 c1 c2 c3
  obtain ⟨c0, c1, c2, c3⟩ := unhide hpc _ (unhide D2)
  obtain ⟨d0, d1, d2, d3⟩ := unhide hpd _ (Below.refl _ _)
  go_wp2_with fail
  generalize hW2 : w1.alloc (.cells #[.int .i64 (sd : Int), .int .i64 (n : Int), .int .i64 (a : Int), .int .i64 (q : Int)] 24) = W2 at *
  have HW2 := hide hW2
  have E0 := hide (Below.refl W2.heap.size W2)
  clear hW2
  refine (unhide hjo W2).mono ?_
  rintro e y1 ⟨ib, ic0, rfl, hN, b⟩
  have E1 := hide ((unhide E0).trans (b.mono (unhide E0).size))
  have HNi := hide hN
  clear hN
  clear b E0 c0 c1 c2 c3 d0 d1 d2 d3
  obtain ⟨c0, c1, c2, c3⟩ := unhide hpc y1 ((unhide D2).trans ((unhide E1).mono (unhide D2).size))
  obtain ⟨d0, d1, d2, d3⟩ := unhide hpd y1 (unhide E1)
  go_wp2_with fail
  refine (unhide hme y1).mono ?_
  rintro e y2 ⟨jb, jc0, rfl, hN, b⟩
  have E2 := hide ((unhide E1).trans (b.mono (unhide E1).size))
  replace HNi := hide ((unhide HNi).below b)
  have HNj := hide hN
  clear hN
  clear b E1 c0 c1 c2 c3 d0 d1 d2 d3
  obtain ⟨c0, c1, c2, c3⟩ := unhide hpc y2 ((unhide D2).trans ((unhide E2).mono (unhide D2).size))
  obtain ⟨d0, d1, d2, d3⟩ := unhide hpd y2 (unhide E2)
  go_wp2_with fail
  refine (unhide hru y2).mono ?_
  rintro e y3 ⟨g, rfl, ⟨V, hR⟩, b⟩
  have E3 := hide ((unhide E2).trans (b.mono (unhide E2).size))
  replace HNi := hide ((unhide HNi).below b)
  replace HNj := hide ((unhide HNj).below b)
  have HT := hide (tab_rows2 hR)
  clear hR
  clear b E2 c0 c1 c2 c3 d0 d1 d2 d3
  obtain ⟨c0, c1, c2, c3⟩ := unhide hpc y3 ((unhide D2).trans ((unhide E3).mono (unhide D2).size))
  obtain ⟨d0, d1, d2, d3⟩ := unhide hpd y3 (unhide E3)
  go_wp2_with fail
  refine (unhide hdc y3).mono ?_
  rintro e y4 ⟨rfl, b⟩
  have E4 := hide ((unhide E3).trans (b.mono (unhide E3).size))
  replace HNi := hide ((unhide HNi).below b)
  replace HNj := hide ((unhide HNj).below b)
  replace HT := hide ((unhide HT).below b)
  clear b E3 c0 c1 c2 c3 d0 d1 d2 d3
  obtain ⟨c0, c1, c2, c3⟩ := unhide hpc y4 ((unhide D2).trans ((unhide E4).mono (unhide D2).size))
  obtain ⟨d0, d1, d2, d3⟩ := unhide hpd y4 (unhide E4)
  go_wp2_with fail
  refine (unhide hck y4).mono ?_
  rintro e y5 ⟨rfl, b⟩
  have E5 := hide ((unhide E4).trans (b.mono (unhide E4).size))
  replace HNi := hide ((unhide HNi).below b)
  replace HNj := hide ((unhide HNj).below b)
  replace HT := hide ((unhide HT).below b)
  clear b E4 c0 c1 c2 c3 d0 d1 d2 d3
  obtain ⟨c0, c1, c2, c3⟩ := unhide hpc y5 ((unhide D2).trans ((unhide E5).mono (unhide D2).size))
  obtain ⟨d0, d1, d2, d3⟩ := unhide hpd y5 (unhide E5)
  go_wp2_with fail
  refine (unhide hjd y5).mono ?_
  rintro e y6 ⟨⟨v, rfl, hO⟩, b⟩
  have E6 := hide ((unhide E5).trans (b.mono (unhide E5).size))
  replace HNi := hide ((unhide HNi).below b)
  replace HNj := hide ((unhide HNj).below b)
  replace HT := hide ((unhide HT).below b)
  obtain ⟨ob, oc, rfl, hN⟩ := nums_of_own hO
  have HNd := hide hN
  clear hN hO
  clear b E5 c0 c1 c2 c3 d0 d1 d2 d3
  obtain ⟨c0, c1, c2, c3⟩ := unhide hpc y6 ((unhide D2).trans ((unhide E6).mono (unhide D2).size))
  obtain ⟨d0, d1, d2, d3⟩ := unhide hpd y6 (unhide E6)
  have hsm := hide (nsame_any y6 (joN sd a q i) ib ob ic0 oc (unhide hjl) (unhide HNi) (unhide HNd))
  clear HNi HNd hjd hjl
  go_wp2_with fail
  refine (unhide hsm ).mono ?_
  rintro e y7 ⟨rfl, b⟩
  have E7 := hide ((unhide E6).trans (b.mono (unhide E6).size))
  replace HNj := hide ((unhide HNj).below b)
  replace HT := hide ((unhide HT).below b)
  clear b E6 c0 c1 c2 c3 d0 d1 d2 d3
  obtain ⟨c0, c1, c2, c3⟩ := unhide hpc y7 ((unhide D2).trans ((unhide E7).mono (unhide D2).size))
  obtain ⟨d0, d1, d2, d3⟩ := unhide hpd y7 (unhide E7)
  go_wp2_with fail
  refine (unhide hmd y7).mono ?_
  rintro e y8 ⟨⟨v, rfl, hO⟩, b⟩
  have E8 := hide ((unhide E7).trans (b.mono (unhide E7).size))
  replace HNj := hide ((unhide HNj).below b)
  replace HT := hide ((unhide HT).below b)
  obtain ⟨mb, mc, rfl, hN⟩ := nums_of_own hO
  have HNm := hide hN
  clear hN hO
  clear b E7 c0 c1 c2 c3 d0 d1 d2 d3
  obtain ⟨c0, c1, c2, c3⟩ := unhide hpc y8 ((unhide D2).trans ((unhide E8).mono (unhide D2).size))
  obtain ⟨d0, d1, d2, d3⟩ := unhide hpd y8 (unhide E8)
  have hsk := hide (nsame_any y8 (memL sd a q j n) jb mb jc0 mc (unhide hmj) (unhide HNj) (unhide HNm))
  clear HNj HNm hmd hmj
  go_wp2_with fail
  refine (unhide hsk ).mono ?_
  rintro e y9 ⟨rfl, b⟩
  have E9 := hide ((unhide E8).trans (b.mono (unhide E8).size))
  replace HT := hide ((unhide HT).below b)
  clear b E8 c0 c1 c2 c3 d0 d1 d2 d3
  obtain ⟨c0, c1, c2, c3⟩ := unhide hpc y9 ((unhide D2).trans ((unhide E9).mono (unhide D2).size))
  obtain ⟨d0, d1, d2, d3⟩ := unhide hpd y9 (unhide E9)
  go_wp2_with fail
  refine (unhide haw y9).mono ?_
  rintro e y10 ⟨rfl, b⟩
  have E10 := hide ((unhide E9).trans (b.mono (unhide E9).size))
  replace HT := hide ((unhide HT).below b)
  clear b E9 c0 c1 c2 c3 d0 d1 d2 d3
  obtain ⟨c0, c1, c2, c3⟩ := unhide hpc y10 ((unhide D2).trans ((unhide E10).mono (unhide D2).size))
  obtain ⟨d0, d1, d2, d3⟩ := unhide hpd y10 (unhide E10)
  go_wp2_with fail
  refine (unhide hrd y10).mono ?_
  rintro e y11 ⟨⟨v, rfl, Vs, hO, hR⟩, b⟩
  have E11 := hide ((unhide E10).trans (b.mono (unhide E10).size))
  replace HT := hide ((unhide HT).below b)
  obtain ⟨rb, rc, rfl, hT2⟩ := tab_own hO hR
  have HT2 := hide hT2
  clear hT2 hO hR
  clear b E10 c0 c1 c2 c3 d0 d1 d2 d3
  obtain ⟨c0, c1, c2, c3⟩ := unhide hpc y11 ((unhide D2).trans ((unhide E11).mono (unhide D2).size))
  obtain ⟨d0, d1, d2, d3⟩ := unhide hpd y11 (unhide E11)
  have hsr := hide (srows_any y11 a (ruL sd n a q) (by omega) (fun j hj => by
    have := unhide hml j
    unfold ruL
    simp
    omega) (some ⟨g, 0, none⟩) rb a rc (unhide HT) (unhide HT2))
  clear HT HT2
  go_wp2_with fail
  refine (unhide hsr ).mono ?_
  rintro e y12 ⟨rfl, b⟩
  have E12 := hide ((unhide E11).trans (b.mono (unhide E11).size))
  clear b E11 c0 c1 c2 c3 d0 d1 d2 d3
  obtain ⟨c0, c1, c2, c3⟩ := unhide hpc y12 ((unhide D2).trans ((unhide E12).mono (unhide D2).size))
  obtain ⟨d0, d1, d2, d3⟩ := unhide hpd y12 (unhide E12)
  have BF := hide ((unhide B0).trans (((unhide D2).trans ((unhide E12).mono (unhide D2).size)).mono (unhide B0).size))
  clear c0 c1 c2 c3 d0 d1 d2 d3
  go_wp2
  go_ret
  exact ⟨rfl, unhide BF⟩
set_option maxRecDepth 100000 in
set_option maxHeartbeats 8000000 in
theorem outerPlans_bb (sd n a q : Nat) (i : Int) (j : Int) (hsd : sd ≤ 72057594037927935) (hn1 : 1 ≤ n) (hn : n ≤ 96) (ha1 : 1 ≤ a) (ha : a ≤ 64) (hq1 : 1 ≤ q) (hq : q ≤ 8) (hi : i < 0) (hj : j < 0) (w : World) :
    Calls Tryz.prog 3 #[plV sd n a q, .int .i64 i, .int .i64 j] w fun e w' => e = .returned (.bool true) ∧ Below w.heap.size w w' := by
  have hP : plOk sd n a q = true := by unfold plOk; simp; omega
  have haw := hide oawake_any
  have hrf := hide (fun w => dref_any sd n a q w)
  have hru := hide (fun w => Rules_any sd n a q hsd hn1 hn ha1 ha hq1 hq w)
  have hrd := hide (fun w => drules_any sd n a q hsd hn ha1 ha hq1 hq w)
  have hck := hide (fun w => check_any sd n a q w)
  have hdc := hide (fun w => dcheck_any sd n a q w)
  have hml := hide (fun j => memL_len sd a q j n)
  have hjo := hide (fun w => Joins_out sd n a q i hP (by omega) w)
  have qi : ¬ (0 : Int) ≤ i := by omega
  have hme := hide (fun w => Members_out sd n a q j hP (by omega) w)
  have qj : ¬ (0 : Int) ≤ j := by omega
  rw [hP] at hck hdc
  clear hP
  have hb0 : Below w.heap.size w (w.alloc (.cells #[.int .i64 (sd : Int), .int .i64 (n : Int), .int .i64 (a : Int), .int .i64 (q : Int)] 23)) := (Below.refl _ w).alloc (Nat.le_refl _) _
  have hpc := hide (plan_cells w sd n a q)
  have B0 := hide hb0
  unfold plV at *
  clear hb0
  obtain ⟨c0, c1, c2, c3⟩ := unhide hpc _ (Below.refl _ _)
  go_enter Tryz.func3, Tryz.ntmps3
  go_wp2_with fail
  generalize hW0 : w.alloc (.cells #[.int .i64 (sd : Int), .int .i64 (n : Int), .int .i64 (a : Int), .int .i64 (q : Int)] 23) = W0 at *
  have HW0 := hide hW0
  clear hW0
  refine (unhide hrf W0).mono ?_
  rintro e w1 ⟨rfl, b1⟩
  have D2 := hide (b1.alloc b1.size (.cells #[.int .i64 (sd : Int), .int .i64 (n : Int), .int .i64 (a : Int), .int .i64 (q : Int)] 24))
  have hpd := hide (plan_cellsD w1 sd n a q)
  clear b1 c0 c1 c2 c3
  obtain ⟨c0, c1, c2, c3⟩ := unhide hpc _ (unhide D2)
  obtain ⟨d0, d1, d2, d3⟩ := unhide hpd _ (Below.refl _ _)
  go_wp2_with fail
  generalize hW2 : w1.alloc (.cells #[.int .i64 (sd : Int), .int .i64 (n : Int), .int .i64 (a : Int), .int .i64 (q : Int)] 24) = W2 at *
  have HW2 := hide hW2
  have E0 := hide (Below.refl W2.heap.size W2)
  clear hW2
  refine (unhide hjo W2).mono ?_
  rintro e y1 ⟨rfl, b⟩
  have E1 := hide ((unhide E0).trans (b.mono (unhide E0).size))
  clear b E0 c0 c1 c2 c3 d0 d1 d2 d3
  obtain ⟨c0, c1, c2, c3⟩ := unhide hpc y1 ((unhide D2).trans ((unhide E1).mono (unhide D2).size))
  obtain ⟨d0, d1, d2, d3⟩ := unhide hpd y1 (unhide E1)
  go_wp2_with fail
  refine (unhide hme y1).mono ?_
  rintro e y2 ⟨rfl, b⟩
  have E2 := hide ((unhide E1).trans (b.mono (unhide E1).size))
  clear b E1 c0 c1 c2 c3 d0 d1 d2 d3
  obtain ⟨c0, c1, c2, c3⟩ := unhide hpc y2 ((unhide D2).trans ((unhide E2).mono (unhide D2).size))
  obtain ⟨d0, d1, d2, d3⟩ := unhide hpd y2 (unhide E2)
  go_wp2_with fail
  refine (unhide hru y2).mono ?_
  rintro e y3 ⟨g, rfl, ⟨V, hR⟩, b⟩
  have E3 := hide ((unhide E2).trans (b.mono (unhide E2).size))
  have HT := hide (tab_rows2 hR)
  clear hR
  clear b E2 c0 c1 c2 c3 d0 d1 d2 d3
  obtain ⟨c0, c1, c2, c3⟩ := unhide hpc y3 ((unhide D2).trans ((unhide E3).mono (unhide D2).size))
  obtain ⟨d0, d1, d2, d3⟩ := unhide hpd y3 (unhide E3)
  go_wp2_with fail
  refine (unhide hdc y3).mono ?_
  rintro e y4 ⟨rfl, b⟩
  have E4 := hide ((unhide E3).trans (b.mono (unhide E3).size))
  replace HT := hide ((unhide HT).below b)
  clear b E3 c0 c1 c2 c3 d0 d1 d2 d3
  obtain ⟨c0, c1, c2, c3⟩ := unhide hpc y4 ((unhide D2).trans ((unhide E4).mono (unhide D2).size))
  obtain ⟨d0, d1, d2, d3⟩ := unhide hpd y4 (unhide E4)
  go_wp2_with fail
  refine (unhide hck y4).mono ?_
  rintro e y5 ⟨rfl, b⟩
  have E5 := hide ((unhide E4).trans (b.mono (unhide E4).size))
  replace HT := hide ((unhide HT).below b)
  clear b E4 c0 c1 c2 c3 d0 d1 d2 d3
  obtain ⟨c0, c1, c2, c3⟩ := unhide hpc y5 ((unhide D2).trans ((unhide E5).mono (unhide D2).size))
  obtain ⟨d0, d1, d2, d3⟩ := unhide hpd y5 (unhide E5)
  go_wp2_with fail
  refine (unhide haw y5).mono ?_
  rintro e y6 ⟨rfl, b⟩
  have E6 := hide ((unhide E5).trans (b.mono (unhide E5).size))
  replace HT := hide ((unhide HT).below b)
  clear b E5 c0 c1 c2 c3 d0 d1 d2 d3
  obtain ⟨c0, c1, c2, c3⟩ := unhide hpc y6 ((unhide D2).trans ((unhide E6).mono (unhide D2).size))
  obtain ⟨d0, d1, d2, d3⟩ := unhide hpd y6 (unhide E6)
  go_wp2_with fail
  refine (unhide hrd y6).mono ?_
  rintro e y7 ⟨⟨v, rfl, Vs, hO, hR⟩, b⟩
  have E7 := hide ((unhide E6).trans (b.mono (unhide E6).size))
  replace HT := hide ((unhide HT).below b)
  obtain ⟨rb, rc, rfl, hT2⟩ := tab_own hO hR
  have HT2 := hide hT2
  clear hT2 hO hR
  clear b E6 c0 c1 c2 c3 d0 d1 d2 d3
  obtain ⟨c0, c1, c2, c3⟩ := unhide hpc y7 ((unhide D2).trans ((unhide E7).mono (unhide D2).size))
  obtain ⟨d0, d1, d2, d3⟩ := unhide hpd y7 (unhide E7)
  have hsr := hide (srows_any y7 a (ruL sd n a q) (by omega) (fun j hj => by
    have := unhide hml j
    unfold ruL
    simp
    omega) (some ⟨g, 0, none⟩) rb a rc (unhide HT) (unhide HT2))
  clear HT HT2
  go_wp2_with fail
  refine (unhide hsr ).mono ?_
  rintro e y8 ⟨rfl, b⟩
  have E8 := hide ((unhide E7).trans (b.mono (unhide E7).size))
  clear b E7 c0 c1 c2 c3 d0 d1 d2 d3
  obtain ⟨c0, c1, c2, c3⟩ := unhide hpc y8 ((unhide D2).trans ((unhide E8).mono (unhide D2).size))
  obtain ⟨d0, d1, d2, d3⟩ := unhide hpd y8 (unhide E8)
  have BF := hide ((unhide B0).trans (((unhide D2).trans ((unhide E8).mono (unhide D2).size)).mono (unhide B0).size))
  clear c0 c1 c2 c3 d0 d1 d2 d3
  go_wp2
  go_ret
  exact ⟨rfl, unhide BF⟩
end Go.Proofs.YtkcnihngkmaecaaGreat
namespace Go.Proofs.YtkcnihngkmaecaaGreat
open Go.RowKit
set_option linter.unusedVariables false
attribute [local go_sem] Oper.semAt_some

set_option maxRecDepth 100000 in
set_option maxHeartbeats 8000000 in
theorem outerPlans_yb (sd n a q : Nat) (i : Nat) (j : Int) (hsd : sd ≤ 72057594037927935) (hn1 : 1 ≤ n) (hn : n ≤ 96) (ha1 : 1 ≤ a) (ha : a ≤ 64) (hq1 : 1 ≤ q) (hq : q ≤ 8) (hi : i < n) (hj : j < 0) (w : World) :
    Calls Tryz.prog 3 #[plV sd n a q, .int .i64 i, .int .i64 j] w fun e w' => e = .returned (.bool true) ∧ Below w.heap.size w w' := by
  have hP : plOk sd n a q = true := by unfold plOk; simp; omega
  have haw := hide oawake_any
  have hrf := hide (fun w => dref_any sd n a q w)
  have hru := hide (fun w => Rules_any sd n a q hsd hn1 hn ha1 ha hq1 hq w)
  have hrd := hide (fun w => drules_any sd n a q hsd hn ha1 ha hq1 hq w)
  have hck := hide (fun w => check_any sd n a q w)
  have hdc := hide (fun w => dcheck_any sd n a q w)
  have hml := hide (fun j => memL_len sd a q j n)
  have hjo := hide (fun w => Joins_num sd n a q i hsd hn1 hn ha1 ha hq1 hq hi w)
  have hjd := hide (fun w => djoins_any sd n a q i hsd ha1 ha hq1 hq (by omega) w)
  have hjl : Hid ((joN sd a q i).length ≤ 100000) := by
    have := joN_len sd a q i
    show _ ≤ _
    omega
  have qi : (0 : Int) ≤ (i : Int) := by omega
  have qi2 : (i : Int) < (n : Int) := by omega
  have hme := hide (fun w => Members_out sd n a q j hP (by omega) w)
  have qj : ¬ (0 : Int) ≤ j := by omega
  rw [hP] at hck hdc
  clear hP
  have hb0 : Below w.heap.size w (w.alloc (.cells #[.int .i64 (sd : Int), .int .i64 (n : Int), .int .i64 (a : Int), .int .i64 (q : Int)] 23)) := (Below.refl _ w).alloc (Nat.le_refl _) _
  have hpc := hide (plan_cells w sd n a q)
  have B0 := hide hb0
  unfold plV at *
  clear hb0
  obtain ⟨c0, c1, c2, c3⟩ := unhide hpc _ (Below.refl _ _)
  go_enter Tryz.func3, Tryz.ntmps3
  go_wp2_with fail
  generalize hW0 : w.alloc (.cells #[.int .i64 (sd : Int), .int .i64 (n : Int), .int .i64 (a : Int), .int .i64 (q : Int)] 23) = W0 at *
  have HW0 := hide hW0
  clear hW0
  refine (unhide hrf W0).mono ?_
  rintro e w1 ⟨rfl, b1⟩
  have D2 := hide (b1.alloc b1.size (.cells #[.int .i64 (sd : Int), .int .i64 (n : Int), .int .i64 (a : Int), .int .i64 (q : Int)] 24))
  have hpd := hide (plan_cellsD w1 sd n a q)
  clear b1 c0 c1 c2 c3
  obtain ⟨c0, c1, c2, c3⟩ := unhide hpc _ (unhide D2)
  obtain ⟨d0, d1, d2, d3⟩ := unhide hpd _ (Below.refl _ _)
  go_wp2_with fail
  generalize hW2 : w1.alloc (.cells #[.int .i64 (sd : Int), .int .i64 (n : Int), .int .i64 (a : Int), .int .i64 (q : Int)] 24) = W2 at *
  have HW2 := hide hW2
  have E0 := hide (Below.refl W2.heap.size W2)
  clear hW2
  refine (unhide hjo W2).mono ?_
  rintro e y1 ⟨ib, ic0, rfl, hN, b⟩
  have E1 := hide ((unhide E0).trans (b.mono (unhide E0).size))
  have HNi := hide hN
  clear hN
  clear b E0 c0 c1 c2 c3 d0 d1 d2 d3
  obtain ⟨c0, c1, c2, c3⟩ := unhide hpc y1 ((unhide D2).trans ((unhide E1).mono (unhide D2).size))
  obtain ⟨d0, d1, d2, d3⟩ := unhide hpd y1 (unhide E1)
  go_wp2_with fail
  refine (unhide hme y1).mono ?_
  rintro e y2 ⟨rfl, b⟩
  have E2 := hide ((unhide E1).trans (b.mono (unhide E1).size))
  replace HNi := hide ((unhide HNi).below b)
  clear b E1 c0 c1 c2 c3 d0 d1 d2 d3
  obtain ⟨c0, c1, c2, c3⟩ := unhide hpc y2 ((unhide D2).trans ((unhide E2).mono (unhide D2).size))
  obtain ⟨d0, d1, d2, d3⟩ := unhide hpd y2 (unhide E2)
  go_wp2_with fail
  refine (unhide hru y2).mono ?_
  rintro e y3 ⟨g, rfl, ⟨V, hR⟩, b⟩
  have E3 := hide ((unhide E2).trans (b.mono (unhide E2).size))
  replace HNi := hide ((unhide HNi).below b)
  have HT := hide (tab_rows2 hR)
  clear hR
  clear b E2 c0 c1 c2 c3 d0 d1 d2 d3
  obtain ⟨c0, c1, c2, c3⟩ := unhide hpc y3 ((unhide D2).trans ((unhide E3).mono (unhide D2).size))
  obtain ⟨d0, d1, d2, d3⟩ := unhide hpd y3 (unhide E3)
  go_wp2_with fail
  refine (unhide hdc y3).mono ?_
  rintro e y4 ⟨rfl, b⟩
  have E4 := hide ((unhide E3).trans (b.mono (unhide E3).size))
  replace HNi := hide ((unhide HNi).below b)
  replace HT := hide ((unhide HT).below b)
  clear b E3 c0 c1 c2 c3 d0 d1 d2 d3
  obtain ⟨c0, c1, c2, c3⟩ := unhide hpc y4 ((unhide D2).trans ((unhide E4).mono (unhide D2).size))
  obtain ⟨d0, d1, d2, d3⟩ := unhide hpd y4 (unhide E4)
  go_wp2_with fail
  refine (unhide hck y4).mono ?_
  rintro e y5 ⟨rfl, b⟩
  have E5 := hide ((unhide E4).trans (b.mono (unhide E4).size))
  replace HNi := hide ((unhide HNi).below b)
  replace HT := hide ((unhide HT).below b)
  clear b E4 c0 c1 c2 c3 d0 d1 d2 d3
  obtain ⟨c0, c1, c2, c3⟩ := unhide hpc y5 ((unhide D2).trans ((unhide E5).mono (unhide D2).size))
  obtain ⟨d0, d1, d2, d3⟩ := unhide hpd y5 (unhide E5)
  go_wp2_with fail
  refine (unhide hjd y5).mono ?_
  rintro e y6 ⟨⟨v, rfl, hO⟩, b⟩
  have E6 := hide ((unhide E5).trans (b.mono (unhide E5).size))
  replace HNi := hide ((unhide HNi).below b)
  replace HT := hide ((unhide HT).below b)
  obtain ⟨ob, oc, rfl, hN⟩ := nums_of_own hO
  have HNd := hide hN
  clear hN hO
  clear b E5 c0 c1 c2 c3 d0 d1 d2 d3
  obtain ⟨c0, c1, c2, c3⟩ := unhide hpc y6 ((unhide D2).trans ((unhide E6).mono (unhide D2).size))
  obtain ⟨d0, d1, d2, d3⟩ := unhide hpd y6 (unhide E6)
  have hsm := hide (nsame_any y6 (joN sd a q i) ib ob ic0 oc (unhide hjl) (unhide HNi) (unhide HNd))
  clear HNi HNd hjd hjl
  go_wp2_with fail
  refine (unhide hsm ).mono ?_
  rintro e y7 ⟨rfl, b⟩
  have E7 := hide ((unhide E6).trans (b.mono (unhide E6).size))
  replace HT := hide ((unhide HT).below b)
  clear b E6 c0 c1 c2 c3 d0 d1 d2 d3
  obtain ⟨c0, c1, c2, c3⟩ := unhide hpc y7 ((unhide D2).trans ((unhide E7).mono (unhide D2).size))
  obtain ⟨d0, d1, d2, d3⟩ := unhide hpd y7 (unhide E7)
  go_wp2_with fail
  refine (unhide haw y7).mono ?_
  rintro e y8 ⟨rfl, b⟩
  have E8 := hide ((unhide E7).trans (b.mono (unhide E7).size))
  replace HT := hide ((unhide HT).below b)
  clear b E7 c0 c1 c2 c3 d0 d1 d2 d3
  obtain ⟨c0, c1, c2, c3⟩ := unhide hpc y8 ((unhide D2).trans ((unhide E8).mono (unhide D2).size))
  obtain ⟨d0, d1, d2, d3⟩ := unhide hpd y8 (unhide E8)
  go_wp2_with fail
  refine (unhide hrd y8).mono ?_
  rintro e y9 ⟨⟨v, rfl, Vs, hO, hR⟩, b⟩
  have E9 := hide ((unhide E8).trans (b.mono (unhide E8).size))
  replace HT := hide ((unhide HT).below b)
  obtain ⟨rb, rc, rfl, hT2⟩ := tab_own hO hR
  have HT2 := hide hT2
  clear hT2 hO hR
  clear b E8 c0 c1 c2 c3 d0 d1 d2 d3
  obtain ⟨c0, c1, c2, c3⟩ := unhide hpc y9 ((unhide D2).trans ((unhide E9).mono (unhide D2).size))
  obtain ⟨d0, d1, d2, d3⟩ := unhide hpd y9 (unhide E9)
  have hsr := hide (srows_any y9 a (ruL sd n a q) (by omega) (fun j hj => by
    have := unhide hml j
    unfold ruL
    simp
    omega) (some ⟨g, 0, none⟩) rb a rc (unhide HT) (unhide HT2))
  clear HT HT2
  go_wp2_with fail
  refine (unhide hsr ).mono ?_
  rintro e y10 ⟨rfl, b⟩
  have E10 := hide ((unhide E9).trans (b.mono (unhide E9).size))
  clear b E9 c0 c1 c2 c3 d0 d1 d2 d3
  obtain ⟨c0, c1, c2, c3⟩ := unhide hpc y10 ((unhide D2).trans ((unhide E10).mono (unhide D2).size))
  obtain ⟨d0, d1, d2, d3⟩ := unhide hpd y10 (unhide E10)
  have BF := hide ((unhide B0).trans (((unhide D2).trans ((unhide E10).mono (unhide D2).size)).mono (unhide B0).size))
  clear c0 c1 c2 c3 d0 d1 d2 d3
  go_wp2
  go_ret
  exact ⟨rfl, unhide BF⟩
set_option maxRecDepth 100000 in
set_option maxHeartbeats 8000000 in
theorem outerPlans_yh (sd n a q : Nat) (i : Nat) (j : Int) (hsd : sd ≤ 72057594037927935) (hn1 : 1 ≤ n) (hn : n ≤ 96) (ha1 : 1 ≤ a) (ha : a ≤ 64) (hq1 : 1 ≤ q) (hq : q ≤ 8) (hi : i < n) (hj : (a : Int) ≤ j) (w : World) :
    Calls Tryz.prog 3 #[plV sd n a q, .int .i64 i, .int .i64 j] w fun e w' => e = .returned (.bool true) ∧ Below w.heap.size w w' := by
  have hP : plOk sd n a q = true := by unfold plOk; simp; omega
  have haw := hide oawake_any
  have hrf := hide (fun w => dref_any sd n a q w)
  have hru := hide (fun w => Rules_any sd n a q hsd hn1 hn ha1 ha hq1 hq w)
  have hrd := hide (fun w => drules_any sd n a q hsd hn ha1 ha hq1 hq w)
  have hck := hide (fun w => check_any sd n a q w)
  have hdc := hide (fun w => dcheck_any sd n a q w)
  have hml := hide (fun j => memL_len sd a q j n)
  have hjo := hide (fun w => Joins_num sd n a q i hsd hn1 hn ha1 ha hq1 hq hi w)
  have hjd := hide (fun w => djoins_any sd n a q i hsd ha1 ha hq1 hq (by omega) w)
  have hjl : Hid ((joN sd a q i).length ≤ 100000) := by
    have := joN_len sd a q i
    show _ ≤ _
    omega
  have qi : (0 : Int) ≤ (i : Int) := by omega
  have qi2 : (i : Int) < (n : Int) := by omega
  have hme := hide (fun w => Members_out sd n a q j hP (by omega) w)
  have qj : (0 : Int) ≤ j := by omega
  have qj2 : ¬ j < (a : Int) := by omega
  rw [hP] at hck hdc
  clear hP
  have hb0 : Below w.heap.size w (w.alloc (.cells #[.int .i64 (sd : Int), .int .i64 (n : Int), .int .i64 (a : Int), .int .i64 (q : Int)] 23)) := (Below.refl _ w).alloc (Nat.le_refl _) _
  have hpc := hide (plan_cells w sd n a q)
  have B0 := hide hb0
  unfold plV at *
  clear hb0
  obtain ⟨c0, c1, c2, c3⟩ := unhide hpc _ (Below.refl _ _)
  go_enter Tryz.func3, Tryz.ntmps3
  go_wp2_with fail
  generalize hW0 : w.alloc (.cells #[.int .i64 (sd : Int), .int .i64 (n : Int), .int .i64 (a : Int), .int .i64 (q : Int)] 23) = W0 at *
  have HW0 := hide hW0
  clear hW0
  refine (unhide hrf W0).mono ?_
  rintro e w1 ⟨rfl, b1⟩
  have D2 := hide (b1.alloc b1.size (.cells #[.int .i64 (sd : Int), .int .i64 (n : Int), .int .i64 (a : Int), .int .i64 (q : Int)] 24))
  have hpd := hide (plan_cellsD w1 sd n a q)
  clear b1 c0 c1 c2 c3
  obtain ⟨c0, c1, c2, c3⟩ := unhide hpc _ (unhide D2)
  obtain ⟨d0, d1, d2, d3⟩ := unhide hpd _ (Below.refl _ _)
  go_wp2_with fail
  generalize hW2 : w1.alloc (.cells #[.int .i64 (sd : Int), .int .i64 (n : Int), .int .i64 (a : Int), .int .i64 (q : Int)] 24) = W2 at *
  have HW2 := hide hW2
  have E0 := hide (Below.refl W2.heap.size W2)
  clear hW2
  refine (unhide hjo W2).mono ?_
  rintro e y1 ⟨ib, ic0, rfl, hN, b⟩
  have E1 := hide ((unhide E0).trans (b.mono (unhide E0).size))
  have HNi := hide hN
  clear hN
  clear b E0 c0 c1 c2 c3 d0 d1 d2 d3
  obtain ⟨c0, c1, c2, c3⟩ := unhide hpc y1 ((unhide D2).trans ((unhide E1).mono (unhide D2).size))
  obtain ⟨d0, d1, d2, d3⟩ := unhide hpd y1 (unhide E1)
  go_wp2_with fail
  refine (unhide hme y1).mono ?_
  rintro e y2 ⟨rfl, b⟩
  have E2 := hide ((unhide E1).trans (b.mono (unhide E1).size))
  replace HNi := hide ((unhide HNi).below b)
  clear b E1 c0 c1 c2 c3 d0 d1 d2 d3
  obtain ⟨c0, c1, c2, c3⟩ := unhide hpc y2 ((unhide D2).trans ((unhide E2).mono (unhide D2).size))
  obtain ⟨d0, d1, d2, d3⟩ := unhide hpd y2 (unhide E2)
  go_wp2_with fail
  refine (unhide hru y2).mono ?_
  rintro e y3 ⟨g, rfl, ⟨V, hR⟩, b⟩
  have E3 := hide ((unhide E2).trans (b.mono (unhide E2).size))
  replace HNi := hide ((unhide HNi).below b)
  have HT := hide (tab_rows2 hR)
  clear hR
  clear b E2 c0 c1 c2 c3 d0 d1 d2 d3
  obtain ⟨c0, c1, c2, c3⟩ := unhide hpc y3 ((unhide D2).trans ((unhide E3).mono (unhide D2).size))
  obtain ⟨d0, d1, d2, d3⟩ := unhide hpd y3 (unhide E3)
  go_wp2_with fail
  refine (unhide hdc y3).mono ?_
  rintro e y4 ⟨rfl, b⟩
  have E4 := hide ((unhide E3).trans (b.mono (unhide E3).size))
  replace HNi := hide ((unhide HNi).below b)
  replace HT := hide ((unhide HT).below b)
  clear b E3 c0 c1 c2 c3 d0 d1 d2 d3
  obtain ⟨c0, c1, c2, c3⟩ := unhide hpc y4 ((unhide D2).trans ((unhide E4).mono (unhide D2).size))
  obtain ⟨d0, d1, d2, d3⟩ := unhide hpd y4 (unhide E4)
  go_wp2_with fail
  refine (unhide hck y4).mono ?_
  rintro e y5 ⟨rfl, b⟩
  have E5 := hide ((unhide E4).trans (b.mono (unhide E4).size))
  replace HNi := hide ((unhide HNi).below b)
  replace HT := hide ((unhide HT).below b)
  clear b E4 c0 c1 c2 c3 d0 d1 d2 d3
  obtain ⟨c0, c1, c2, c3⟩ := unhide hpc y5 ((unhide D2).trans ((unhide E5).mono (unhide D2).size))
  obtain ⟨d0, d1, d2, d3⟩ := unhide hpd y5 (unhide E5)
  go_wp2_with fail
  refine (unhide hjd y5).mono ?_
  rintro e y6 ⟨⟨v, rfl, hO⟩, b⟩
  have E6 := hide ((unhide E5).trans (b.mono (unhide E5).size))
  replace HNi := hide ((unhide HNi).below b)
  replace HT := hide ((unhide HT).below b)
  obtain ⟨ob, oc, rfl, hN⟩ := nums_of_own hO
  have HNd := hide hN
  clear hN hO
  clear b E5 c0 c1 c2 c3 d0 d1 d2 d3
  obtain ⟨c0, c1, c2, c3⟩ := unhide hpc y6 ((unhide D2).trans ((unhide E6).mono (unhide D2).size))
  obtain ⟨d0, d1, d2, d3⟩ := unhide hpd y6 (unhide E6)
  have hsm := hide (nsame_any y6 (joN sd a q i) ib ob ic0 oc (unhide hjl) (unhide HNi) (unhide HNd))
  clear HNi HNd hjd hjl
  go_wp2_with fail
  refine (unhide hsm ).mono ?_
  rintro e y7 ⟨rfl, b⟩
  have E7 := hide ((unhide E6).trans (b.mono (unhide E6).size))
  replace HT := hide ((unhide HT).below b)
  clear b E6 c0 c1 c2 c3 d0 d1 d2 d3
  obtain ⟨c0, c1, c2, c3⟩ := unhide hpc y7 ((unhide D2).trans ((unhide E7).mono (unhide D2).size))
  obtain ⟨d0, d1, d2, d3⟩ := unhide hpd y7 (unhide E7)
  go_wp2_with fail
  refine (unhide haw y7).mono ?_
  rintro e y8 ⟨rfl, b⟩
  have E8 := hide ((unhide E7).trans (b.mono (unhide E7).size))
  replace HT := hide ((unhide HT).below b)
  clear b E7 c0 c1 c2 c3 d0 d1 d2 d3
  obtain ⟨c0, c1, c2, c3⟩ := unhide hpc y8 ((unhide D2).trans ((unhide E8).mono (unhide D2).size))
  obtain ⟨d0, d1, d2, d3⟩ := unhide hpd y8 (unhide E8)
  go_wp2_with fail
  refine (unhide hrd y8).mono ?_
  rintro e y9 ⟨⟨v, rfl, Vs, hO, hR⟩, b⟩
  have E9 := hide ((unhide E8).trans (b.mono (unhide E8).size))
  replace HT := hide ((unhide HT).below b)
  obtain ⟨rb, rc, rfl, hT2⟩ := tab_own hO hR
  have HT2 := hide hT2
  clear hT2 hO hR
  clear b E8 c0 c1 c2 c3 d0 d1 d2 d3
  obtain ⟨c0, c1, c2, c3⟩ := unhide hpc y9 ((unhide D2).trans ((unhide E9).mono (unhide D2).size))
  obtain ⟨d0, d1, d2, d3⟩ := unhide hpd y9 (unhide E9)
  have hsr := hide (srows_any y9 a (ruL sd n a q) (by omega) (fun j hj => by
    have := unhide hml j
    unfold ruL
    simp
    omega) (some ⟨g, 0, none⟩) rb a rc (unhide HT) (unhide HT2))
  clear HT HT2
  go_wp2_with fail
  refine (unhide hsr ).mono ?_
  rintro e y10 ⟨rfl, b⟩
  have E10 := hide ((unhide E9).trans (b.mono (unhide E9).size))
  clear b E9 c0 c1 c2 c3 d0 d1 d2 d3
  obtain ⟨c0, c1, c2, c3⟩ := unhide hpc y10 ((unhide D2).trans ((unhide E10).mono (unhide D2).size))
  obtain ⟨d0, d1, d2, d3⟩ := unhide hpd y10 (unhide E10)
  have BF := hide ((unhide B0).trans (((unhide D2).trans ((unhide E10).mono (unhide D2).size)).mono (unhide B0).size))
  clear c0 c1 c2 c3 d0 d1 d2 d3
  go_wp2
  go_ret
  exact ⟨rfl, unhide BF⟩
set_option maxRecDepth 100000 in
set_option maxHeartbeats 8000000 in
theorem outerPlans_by (sd n a q : Nat) (i : Int) (j : Nat) (hsd : sd ≤ 72057594037927935) (hn1 : 1 ≤ n) (hn : n ≤ 96) (ha1 : 1 ≤ a) (ha : a ≤ 64) (hq1 : 1 ≤ q) (hq : q ≤ 8) (hi : i < 0) (hj : j < a) (w : World) :
    Calls Tryz.prog 3 #[plV sd n a q, .int .i64 i, .int .i64 j] w fun e w' => e = .returned (.bool true) ∧ Below w.heap.size w w' := by
  have hP : plOk sd n a q = true := by unfold plOk; simp; omega
  have haw := hide oawake_any
  have hrf := hide (fun w => dref_any sd n a q w)
  have hru := hide (fun w => Rules_any sd n a q hsd hn1 hn ha1 ha hq1 hq w)
  have hrd := hide (fun w => drules_any sd n a q hsd hn ha1 ha hq1 hq w)
  have hck := hide (fun w => check_any sd n a q w)
  have hdc := hide (fun w => dcheck_any sd n a q w)
  have hml := hide (fun j => memL_len sd a q j n)
  have hjo := hide (fun w => Joins_out sd n a q i hP (by omega) w)
  have qi : ¬ (0 : Int) ≤ i := by omega
  have hme := hide (fun w => Members_any sd n a q j hsd hn1 hn ha1 ha hq1 hq hj w)
  have hmd := hide (fun w => dMembers_any sd n a q j hsd hn ha1 ha hq1 hq hj w)
  have hmj : Hid ((memL sd a q j n).length ≤ 100000) := by
    have := unhide hml j
    show _ ≤ _
    omega
  have qj : (0 : Int) ≤ (j : Int) := by omega
  have qj2 : (j : Int) < (a : Int) := by omega
  rw [hP] at hck hdc
  clear hP
  have hb0 : Below w.heap.size w (w.alloc (.cells #[.int .i64 (sd : Int), .int .i64 (n : Int), .int .i64 (a : Int), .int .i64 (q : Int)] 23)) := (Below.refl _ w).alloc (Nat.le_refl _) _
  have hpc := hide (plan_cells w sd n a q)
  have B0 := hide hb0
  unfold plV at *
  clear hb0
  obtain ⟨c0, c1, c2, c3⟩ := unhide hpc _ (Below.refl _ _)
  go_enter Tryz.func3, Tryz.ntmps3
  go_wp2_with fail
  generalize hW0 : w.alloc (.cells #[.int .i64 (sd : Int), .int .i64 (n : Int), .int .i64 (a : Int), .int .i64 (q : Int)] 23) = W0 at *
  have HW0 := hide hW0
  clear hW0
  refine (unhide hrf W0).mono ?_
  rintro e w1 ⟨rfl, b1⟩
  have D2 := hide (b1.alloc b1.size (.cells #[.int .i64 (sd : Int), .int .i64 (n : Int), .int .i64 (a : Int), .int .i64 (q : Int)] 24))
  have hpd := hide (plan_cellsD w1 sd n a q)
  clear b1 c0 c1 c2 c3
  obtain ⟨c0, c1, c2, c3⟩ := unhide hpc _ (unhide D2)
  obtain ⟨d0, d1, d2, d3⟩ := unhide hpd _ (Below.refl _ _)
  go_wp2_with fail
  generalize hW2 : w1.alloc (.cells #[.int .i64 (sd : Int), .int .i64 (n : Int), .int .i64 (a : Int), .int .i64 (q : Int)] 24) = W2 at *
  have HW2 := hide hW2
  have E0 := hide (Below.refl W2.heap.size W2)
  clear hW2
  refine (unhide hjo W2).mono ?_
  rintro e y1 ⟨rfl, b⟩
  have E1 := hide ((unhide E0).trans (b.mono (unhide E0).size))
  clear b E0 c0 c1 c2 c3 d0 d1 d2 d3
  obtain ⟨c0, c1, c2, c3⟩ := unhide hpc y1 ((unhide D2).trans ((unhide E1).mono (unhide D2).size))
  obtain ⟨d0, d1, d2, d3⟩ := unhide hpd y1 (unhide E1)
  go_wp2_with fail
  refine (unhide hme y1).mono ?_
  rintro e y2 ⟨jb, jc0, rfl, hN, b⟩
  have E2 := hide ((unhide E1).trans (b.mono (unhide E1).size))
  have HNj := hide hN
  clear hN
  clear b E1 c0 c1 c2 c3 d0 d1 d2 d3
  obtain ⟨c0, c1, c2, c3⟩ := unhide hpc y2 ((unhide D2).trans ((unhide E2).mono (unhide D2).size))
  obtain ⟨d0, d1, d2, d3⟩ := unhide hpd y2 (unhide E2)
  go_wp2_with fail
  refine (unhide hru y2).mono ?_
  rintro e y3 ⟨g, rfl, ⟨V, hR⟩, b⟩
  have E3 := hide ((unhide E2).trans (b.mono (unhide E2).size))
  replace HNj := hide ((unhide HNj).below b)
  have HT := hide (tab_rows2 hR)
  clear hR
  clear b E2 c0 c1 c2 c3 d0 d1 d2 d3
  obtain ⟨c0, c1, c2, c3⟩ := unhide hpc y3 ((unhide D2).trans ((unhide E3).mono (unhide D2).size))
  obtain ⟨d0, d1, d2, d3⟩ := unhide hpd y3 (unhide E3)
  go_wp2_with fail
  refine (unhide hdc y3).mono ?_
  rintro e y4 ⟨rfl, b⟩
  have E4 := hide ((unhide E3).trans (b.mono (unhide E3).size))
  replace HNj := hide ((unhide HNj).below b)
  replace HT := hide ((unhide HT).below b)
  clear b E3 c0 c1 c2 c3 d0 d1 d2 d3
  obtain ⟨c0, c1, c2, c3⟩ := unhide hpc y4 ((unhide D2).trans ((unhide E4).mono (unhide D2).size))
  obtain ⟨d0, d1, d2, d3⟩ := unhide hpd y4 (unhide E4)
  go_wp2_with fail
  refine (unhide hck y4).mono ?_
  rintro e y5 ⟨rfl, b⟩
  have E5 := hide ((unhide E4).trans (b.mono (unhide E4).size))
  replace HNj := hide ((unhide HNj).below b)
  replace HT := hide ((unhide HT).below b)
  clear b E4 c0 c1 c2 c3 d0 d1 d2 d3
  obtain ⟨c0, c1, c2, c3⟩ := unhide hpc y5 ((unhide D2).trans ((unhide E5).mono (unhide D2).size))
  obtain ⟨d0, d1, d2, d3⟩ := unhide hpd y5 (unhide E5)
  go_wp2_with fail
  refine (unhide hmd y5).mono ?_
  rintro e y6 ⟨⟨v, rfl, hO⟩, b⟩
  have E6 := hide ((unhide E5).trans (b.mono (unhide E5).size))
  replace HNj := hide ((unhide HNj).below b)
  replace HT := hide ((unhide HT).below b)
  obtain ⟨mb, mc, rfl, hN⟩ := nums_of_own hO
  have HNm := hide hN
  clear hN hO
  clear b E5 c0 c1 c2 c3 d0 d1 d2 d3
  obtain ⟨c0, c1, c2, c3⟩ := unhide hpc y6 ((unhide D2).trans ((unhide E6).mono (unhide D2).size))
  obtain ⟨d0, d1, d2, d3⟩ := unhide hpd y6 (unhide E6)
  have hsk := hide (nsame_any y6 (memL sd a q j n) jb mb jc0 mc (unhide hmj) (unhide HNj) (unhide HNm))
  clear HNj HNm hmd hmj
  go_wp2_with fail
  refine (unhide hsk ).mono ?_
  rintro e y7 ⟨rfl, b⟩
  have E7 := hide ((unhide E6).trans (b.mono (unhide E6).size))
  replace HT := hide ((unhide HT).below b)
  clear b E6 c0 c1 c2 c3 d0 d1 d2 d3
  obtain ⟨c0, c1, c2, c3⟩ := unhide hpc y7 ((unhide D2).trans ((unhide E7).mono (unhide D2).size))
  obtain ⟨d0, d1, d2, d3⟩ := unhide hpd y7 (unhide E7)
  go_wp2_with fail
  refine (unhide haw y7).mono ?_
  rintro e y8 ⟨rfl, b⟩
  have E8 := hide ((unhide E7).trans (b.mono (unhide E7).size))
  replace HT := hide ((unhide HT).below b)
  clear b E7 c0 c1 c2 c3 d0 d1 d2 d3
  obtain ⟨c0, c1, c2, c3⟩ := unhide hpc y8 ((unhide D2).trans ((unhide E8).mono (unhide D2).size))
  obtain ⟨d0, d1, d2, d3⟩ := unhide hpd y8 (unhide E8)
  go_wp2_with fail
  refine (unhide hrd y8).mono ?_
  rintro e y9 ⟨⟨v, rfl, Vs, hO, hR⟩, b⟩
  have E9 := hide ((unhide E8).trans (b.mono (unhide E8).size))
  replace HT := hide ((unhide HT).below b)
  obtain ⟨rb, rc, rfl, hT2⟩ := tab_own hO hR
  have HT2 := hide hT2
  clear hT2 hO hR
  clear b E8 c0 c1 c2 c3 d0 d1 d2 d3
  obtain ⟨c0, c1, c2, c3⟩ := unhide hpc y9 ((unhide D2).trans ((unhide E9).mono (unhide D2).size))
  obtain ⟨d0, d1, d2, d3⟩ := unhide hpd y9 (unhide E9)
  have hsr := hide (srows_any y9 a (ruL sd n a q) (by omega) (fun j hj => by
    have := unhide hml j
    unfold ruL
    simp
    omega) (some ⟨g, 0, none⟩) rb a rc (unhide HT) (unhide HT2))
  clear HT HT2
  go_wp2_with fail
  refine (unhide hsr ).mono ?_
  rintro e y10 ⟨rfl, b⟩
  have E10 := hide ((unhide E9).trans (b.mono (unhide E9).size))
  clear b E9 c0 c1 c2 c3 d0 d1 d2 d3
  obtain ⟨c0, c1, c2, c3⟩ := unhide hpc y10 ((unhide D2).trans ((unhide E10).mono (unhide D2).size))
  obtain ⟨d0, d1, d2, d3⟩ := unhide hpd y10 (unhide E10)
  have BF := hide ((unhide B0).trans (((unhide D2).trans ((unhide E10).mono (unhide D2).size)).mono (unhide B0).size))
  clear c0 c1 c2 c3 d0 d1 d2 d3
  go_wp2
  go_ret
  exact ⟨rfl, unhide BF⟩
set_option maxRecDepth 100000 in
set_option maxHeartbeats 8000000 in
theorem outerPlans_hy (sd n a q : Nat) (i : Int) (j : Nat) (hsd : sd ≤ 72057594037927935) (hn1 : 1 ≤ n) (hn : n ≤ 96) (ha1 : 1 ≤ a) (ha : a ≤ 64) (hq1 : 1 ≤ q) (hq : q ≤ 8) (hi : (n : Int) ≤ i) (hj : j < a) (w : World) :
    Calls Tryz.prog 3 #[plV sd n a q, .int .i64 i, .int .i64 j] w fun e w' => e = .returned (.bool true) ∧ Below w.heap.size w w' := by
  have hP : plOk sd n a q = true := by unfold plOk; simp; omega
  have haw := hide oawake_any
  have hrf := hide (fun w => dref_any sd n a q w)
  have hru := hide (fun w => Rules_any sd n a q hsd hn1 hn ha1 ha hq1 hq w)
  have hrd := hide (fun w => drules_any sd n a q hsd hn ha1 ha hq1 hq w)
  have hck := hide (fun w => check_any sd n a q w)
  have hdc := hide (fun w => dcheck_any sd n a q w)
  have hml := hide (fun j => memL_len sd a q j n)
  have hjo := hide (fun w => Joins_out sd n a q i hP (by omega) w)
  have qi : (0 : Int) ≤ i := by omega
  have qi2 : ¬ i < (n : Int) := by omega
  have hme := hide (fun w => Members_any sd n a q j hsd hn1 hn ha1 ha hq1 hq hj w)
  have hmd := hide (fun w => dMembers_any sd n a q j hsd hn ha1 ha hq1 hq hj w)
  have hmj : Hid ((memL sd a q j n).length ≤ 100000) := by
    have := unhide hml j
    show _ ≤ _
    omega
  have qj : (0 : Int) ≤ (j : Int) := by omega
  have qj2 : (j : Int) < (a : Int) := by omega
  rw [hP] at hck hdc
  clear hP
  have hb0 : Below w.heap.size w (w.alloc (.cells #[.int .i64 (sd : Int), .int .i64 (n : Int), .int .i64 (a : Int), .int .i64 (q : Int)] 23)) := (Below.refl _ w).alloc (Nat.le_refl _) _
  have hpc := hide (plan_cells w sd n a q)
  have B0 := hide hb0
  unfold plV at *
  clear hb0
  obtain ⟨c0, c1, c2, c3⟩ := unhide hpc _ (Below.refl _ _)
  go_enter Tryz.func3, Tryz.ntmps3
  go_wp2_with fail
  generalize hW0 : w.alloc (.cells #[.int .i64 (sd : Int), .int .i64 (n : Int), .int .i64 (a : Int), .int .i64 (q : Int)] 23) = W0 at *
  have HW0 := hide hW0
  clear hW0
  refine (unhide hrf W0).mono ?_
  rintro e w1 ⟨rfl, b1⟩
  have D2 := hide (b1.alloc b1.size (.cells #[.int .i64 (sd : Int), .int .i64 (n : Int), .int .i64 (a : Int), .int .i64 (q : Int)] 24))
  have hpd := hide (plan_cellsD w1 sd n a q)
  clear b1 c0 c1 c2 c3
  obtain ⟨c0, c1, c2, c3⟩ := unhide hpc _ (unhide D2)
  obtain ⟨d0, d1, d2, d3⟩ := unhide hpd _ (Below.refl _ _)
  go_wp2_with fail
  generalize hW2 : w1.alloc (.cells #[.int .i64 (sd : Int), .int .i64 (n : Int), .int .i64 (a : Int), .int .i64 (q : Int)] 24) = W2 at *
  have HW2 := hide hW2
  have E0 := hide (Below.refl W2.heap.size W2)
  clear hW2
  refine (unhide hjo W2).mono ?_
  rintro e y1 ⟨rfl, b⟩
  have E1 := hide ((unhide E0).trans (b.mono (unhide E0).size))
  clear b E0 c0 c1 c2 c3 d0 d1 d2 d3
  obtain ⟨c0, c1, c2, c3⟩ := unhide hpc y1 ((unhide D2).trans ((unhide E1).mono (unhide D2).size))
  obtain ⟨d0, d1, d2, d3⟩ := unhide hpd y1 (unhide E1)
  go_wp2_with fail
  refine (unhide hme y1).mono ?_
  rintro e y2 ⟨jb, jc0, rfl, hN, b⟩
  have E2 := hide ((unhide E1).trans (b.mono (unhide E1).size))
  have HNj := hide hN
  clear hN
  clear b E1 c0 c1 c2 c3 d0 d1 d2 d3
  obtain ⟨c0, c1, c2, c3⟩ := unhide hpc y2 ((unhide D2).trans ((unhide E2).mono (unhide D2).size))
  obtain ⟨d0, d1, d2, d3⟩ := unhide hpd y2 (unhide E2)
  go_wp2_with fail
  refine (unhide hru y2).mono ?_
  rintro e y3 ⟨g, rfl, ⟨V, hR⟩, b⟩
  have E3 := hide ((unhide E2).trans (b.mono (unhide E2).size))
  replace HNj := hide ((unhide HNj).below b)
  have HT := hide (tab_rows2 hR)
  clear hR
  clear b E2 c0 c1 c2 c3 d0 d1 d2 d3
  obtain ⟨c0, c1, c2, c3⟩ := unhide hpc y3 ((unhide D2).trans ((unhide E3).mono (unhide D2).size))
  obtain ⟨d0, d1, d2, d3⟩ := unhide hpd y3 (unhide E3)
  go_wp2_with fail
  refine (unhide hdc y3).mono ?_
  rintro e y4 ⟨rfl, b⟩
  have E4 := hide ((unhide E3).trans (b.mono (unhide E3).size))
  replace HNj := hide ((unhide HNj).below b)
  replace HT := hide ((unhide HT).below b)
  clear b E3 c0 c1 c2 c3 d0 d1 d2 d3
  obtain ⟨c0, c1, c2, c3⟩ := unhide hpc y4 ((unhide D2).trans ((unhide E4).mono (unhide D2).size))
  obtain ⟨d0, d1, d2, d3⟩ := unhide hpd y4 (unhide E4)
  go_wp2_with fail
  refine (unhide hck y4).mono ?_
  rintro e y5 ⟨rfl, b⟩
  have E5 := hide ((unhide E4).trans (b.mono (unhide E4).size))
  replace HNj := hide ((unhide HNj).below b)
  replace HT := hide ((unhide HT).below b)
  clear b E4 c0 c1 c2 c3 d0 d1 d2 d3
  obtain ⟨c0, c1, c2, c3⟩ := unhide hpc y5 ((unhide D2).trans ((unhide E5).mono (unhide D2).size))
  obtain ⟨d0, d1, d2, d3⟩ := unhide hpd y5 (unhide E5)
  go_wp2_with fail
  refine (unhide hmd y5).mono ?_
  rintro e y6 ⟨⟨v, rfl, hO⟩, b⟩
  have E6 := hide ((unhide E5).trans (b.mono (unhide E5).size))
  replace HNj := hide ((unhide HNj).below b)
  replace HT := hide ((unhide HT).below b)
  obtain ⟨mb, mc, rfl, hN⟩ := nums_of_own hO
  have HNm := hide hN
  clear hN hO
  clear b E5 c0 c1 c2 c3 d0 d1 d2 d3
  obtain ⟨c0, c1, c2, c3⟩ := unhide hpc y6 ((unhide D2).trans ((unhide E6).mono (unhide D2).size))
  obtain ⟨d0, d1, d2, d3⟩ := unhide hpd y6 (unhide E6)
  have hsk := hide (nsame_any y6 (memL sd a q j n) jb mb jc0 mc (unhide hmj) (unhide HNj) (unhide HNm))
  clear HNj HNm hmd hmj
  go_wp2_with fail
  refine (unhide hsk ).mono ?_
  rintro e y7 ⟨rfl, b⟩
  have E7 := hide ((unhide E6).trans (b.mono (unhide E6).size))
  replace HT := hide ((unhide HT).below b)
  clear b E6 c0 c1 c2 c3 d0 d1 d2 d3
  obtain ⟨c0, c1, c2, c3⟩ := unhide hpc y7 ((unhide D2).trans ((unhide E7).mono (unhide D2).size))
  obtain ⟨d0, d1, d2, d3⟩ := unhide hpd y7 (unhide E7)
  go_wp2_with fail
  refine (unhide haw y7).mono ?_
  rintro e y8 ⟨rfl, b⟩
  have E8 := hide ((unhide E7).trans (b.mono (unhide E7).size))
  replace HT := hide ((unhide HT).below b)
  clear b E7 c0 c1 c2 c3 d0 d1 d2 d3
  obtain ⟨c0, c1, c2, c3⟩ := unhide hpc y8 ((unhide D2).trans ((unhide E8).mono (unhide D2).size))
  obtain ⟨d0, d1, d2, d3⟩ := unhide hpd y8 (unhide E8)
  go_wp2_with fail
  refine (unhide hrd y8).mono ?_
  rintro e y9 ⟨⟨v, rfl, Vs, hO, hR⟩, b⟩
  have E9 := hide ((unhide E8).trans (b.mono (unhide E8).size))
  replace HT := hide ((unhide HT).below b)
  obtain ⟨rb, rc, rfl, hT2⟩ := tab_own hO hR
  have HT2 := hide hT2
  clear hT2 hO hR
  clear b E8 c0 c1 c2 c3 d0 d1 d2 d3
  obtain ⟨c0, c1, c2, c3⟩ := unhide hpc y9 ((unhide D2).trans ((unhide E9).mono (unhide D2).size))
  obtain ⟨d0, d1, d2, d3⟩ := unhide hpd y9 (unhide E9)
  have hsr := hide (srows_any y9 a (ruL sd n a q) (by omega) (fun j hj => by
    have := unhide hml j
    unfold ruL
    simp
    omega) (some ⟨g, 0, none⟩) rb a rc (unhide HT) (unhide HT2))
  clear HT HT2
  go_wp2_with fail
  refine (unhide hsr ).mono ?_
  rintro e y10 ⟨rfl, b⟩
  have E10 := hide ((unhide E9).trans (b.mono (unhide E9).size))
  clear b E9 c0 c1 c2 c3 d0 d1 d2 d3
  obtain ⟨c0, c1, c2, c3⟩ := unhide hpc y10 ((unhide D2).trans ((unhide E10).mono (unhide D2).size))
  obtain ⟨d0, d1, d2, d3⟩ := unhide hpd y10 (unhide E10)
  have BF := hide ((unhide B0).trans (((unhide D2).trans ((unhide E10).mono (unhide D2).size)).mono (unhide B0).size))
  clear c0 c1 c2 c3 d0 d1 d2 d3
  go_wp2
  go_ret
  exact ⟨rfl, unhide BF⟩
end Go.Proofs.YtkcnihngkmaecaaGreat
namespace Go.Proofs.YtkcnihngkmaecaaGreat
open Go.RowKit
set_option linter.unusedVariables false
attribute [local go_sem] Oper.semAt_some

set_option maxRecDepth 100000 in
set_option maxHeartbeats 8000000 in
theorem outerPlans_bh (sd n a q : Nat) (i : Int) (j : Int) (hsd : sd ≤ 72057594037927935) (hn1 : 1 ≤ n) (hn : n ≤ 96) (ha1 : 1 ≤ a) (ha : a ≤ 64) (hq1 : 1 ≤ q) (hq : q ≤ 8) (hi : i < 0) (hj : (a : Int) ≤ j) (w : World) :
    Calls Tryz.prog 3 #[plV sd n a q, .int .i64 i, .int .i64 j] w fun e w' => e = .returned (.bool true) ∧ Below w.heap.size w w' := by
  have hP : plOk sd n a q = true := by unfold plOk; simp; omega
  have haw := hide oawake_any
  have hrf := hide (fun w => dref_any sd n a q w)
  have hru := hide (fun w => Rules_any sd n a q hsd hn1 hn ha1 ha hq1 hq w)
  have hrd := hide (fun w => drules_any sd n a q hsd hn ha1 ha hq1 hq w)
  have hck := hide (fun w => check_any sd n a q w)
  have hdc := hide (fun w => dcheck_any sd n a q w)
  have hml := hide (fun j => memL_len sd a q j n)
  have hjo := hide (fun w => Joins_out sd n a q i hP (by omega) w)
  have qi : ¬ (0 : Int) ≤ i := by omega
  have hme := hide (fun w => Members_out sd n a q j hP (by omega) w)
  have qj : (0 : Int) ≤ j := by omega
  have qj2 : ¬ j < (a : Int) := by omega
  rw [hP] at hck hdc
  clear hP
  have hb0 : Below w.heap.size w (w.alloc (.cells #[.int .i64 (sd : Int), .int .i64 (n : Int), .int .i64 (a : Int), .int .i64 (q : Int)] 23)) := (Below.refl _ w).alloc (Nat.le_refl _) _
  have hpc := hide (plan_cells w sd n a q)
  have B0 := hide hb0
  unfold plV at *
  clear hb0
  obtain ⟨c0, c1, c2, c3⟩ := unhide hpc _ (Below.refl _ _)
  go_enter Tryz.func3, Tryz.ntmps3
  go_wp2_with fail
  generalize hW0 : w.alloc (.cells #[.int .i64 (sd : Int), .int .i64 (n : Int), .int .i64 (a : Int), .int .i64 (q : Int)] 23) = W0 at *
  have HW0 := hide hW0
  clear hW0
  refine (unhide hrf W0).mono ?_
  rintro e w1 ⟨rfl, b1⟩
  have D2 := hide (b1.alloc b1.size (.cells #[.int .i64 (sd : Int), .int .i64 (n : Int), .int .i64 (a : Int), .int .i64 (q : Int)] 24))
  have hpd := hide (plan_cellsD w1 sd n a q)
  clear b1 c0 c1 c2 c3
  obtain ⟨c0, c1, c2, c3⟩ := unhide hpc _ (unhide D2)
  obtain ⟨d0, d1, d2, d3⟩ := unhide hpd _ (Below.refl _ _)
  go_wp2_with fail
  generalize hW2 : w1.alloc (.cells #[.int .i64 (sd : Int), .int .i64 (n : Int), .int .i64 (a : Int), .int .i64 (q : Int)] 24) = W2 at *
  have HW2 := hide hW2
  have E0 := hide (Below.refl W2.heap.size W2)
  clear hW2
  refine (unhide hjo W2).mono ?_
  rintro e y1 ⟨rfl, b⟩
  have E1 := hide ((unhide E0).trans (b.mono (unhide E0).size))
  clear b E0 c0 c1 c2 c3 d0 d1 d2 d3
  obtain ⟨c0, c1, c2, c3⟩ := unhide hpc y1 ((unhide D2).trans ((unhide E1).mono (unhide D2).size))
  obtain ⟨d0, d1, d2, d3⟩ := unhide hpd y1 (unhide E1)
  go_wp2_with fail
  refine (unhide hme y1).mono ?_
  rintro e y2 ⟨rfl, b⟩
  have E2 := hide ((unhide E1).trans (b.mono (unhide E1).size))
  clear b E1 c0 c1 c2 c3 d0 d1 d2 d3
  obtain ⟨c0, c1, c2, c3⟩ := unhide hpc y2 ((unhide D2).trans ((unhide E2).mono (unhide D2).size))
  obtain ⟨d0, d1, d2, d3⟩ := unhide hpd y2 (unhide E2)
  go_wp2_with fail
  refine (unhide hru y2).mono ?_
  rintro e y3 ⟨g, rfl, ⟨V, hR⟩, b⟩
  have E3 := hide ((unhide E2).trans (b.mono (unhide E2).size))
  have HT := hide (tab_rows2 hR)
  clear hR
  clear b E2 c0 c1 c2 c3 d0 d1 d2 d3
  obtain ⟨c0, c1, c2, c3⟩ := unhide hpc y3 ((unhide D2).trans ((unhide E3).mono (unhide D2).size))
  obtain ⟨d0, d1, d2, d3⟩ := unhide hpd y3 (unhide E3)
  go_wp2_with fail
  refine (unhide hdc y3).mono ?_
  rintro e y4 ⟨rfl, b⟩
  have E4 := hide ((unhide E3).trans (b.mono (unhide E3).size))
  replace HT := hide ((unhide HT).below b)
  clear b E3 c0 c1 c2 c3 d0 d1 d2 d3
  obtain ⟨c0, c1, c2, c3⟩ := unhide hpc y4 ((unhide D2).trans ((unhide E4).mono (unhide D2).size))
  obtain ⟨d0, d1, d2, d3⟩ := unhide hpd y4 (unhide E4)
  go_wp2_with fail
  refine (unhide hck y4).mono ?_
  rintro e y5 ⟨rfl, b⟩
  have E5 := hide ((unhide E4).trans (b.mono (unhide E4).size))
  replace HT := hide ((unhide HT).below b)
  clear b E4 c0 c1 c2 c3 d0 d1 d2 d3
  obtain ⟨c0, c1, c2, c3⟩ := unhide hpc y5 ((unhide D2).trans ((unhide E5).mono (unhide D2).size))
  obtain ⟨d0, d1, d2, d3⟩ := unhide hpd y5 (unhide E5)
  go_wp2_with fail
  refine (unhide haw y5).mono ?_
  rintro e y6 ⟨rfl, b⟩
  have E6 := hide ((unhide E5).trans (b.mono (unhide E5).size))
  replace HT := hide ((unhide HT).below b)
  clear b E5 c0 c1 c2 c3 d0 d1 d2 d3
  obtain ⟨c0, c1, c2, c3⟩ := unhide hpc y6 ((unhide D2).trans ((unhide E6).mono (unhide D2).size))
  obtain ⟨d0, d1, d2, d3⟩ := unhide hpd y6 (unhide E6)
  go_wp2_with fail
  refine (unhide hrd y6).mono ?_
  rintro e y7 ⟨⟨v, rfl, Vs, hO, hR⟩, b⟩
  have E7 := hide ((unhide E6).trans (b.mono (unhide E6).size))
  replace HT := hide ((unhide HT).below b)
  obtain ⟨rb, rc, rfl, hT2⟩ := tab_own hO hR
  have HT2 := hide hT2
  clear hT2 hO hR
  clear b E6 c0 c1 c2 c3 d0 d1 d2 d3
  obtain ⟨c0, c1, c2, c3⟩ := unhide hpc y7 ((unhide D2).trans ((unhide E7).mono (unhide D2).size))
  obtain ⟨d0, d1, d2, d3⟩ := unhide hpd y7 (unhide E7)
  have hsr := hide (srows_any y7 a (ruL sd n a q) (by omega) (fun j hj => by
    have := unhide hml j
    unfold ruL
    simp
    omega) (some ⟨g, 0, none⟩) rb a rc (unhide HT) (unhide HT2))
  clear HT HT2
  go_wp2_with fail
  refine (unhide hsr ).mono ?_
  rintro e y8 ⟨rfl, b⟩
  have E8 := hide ((unhide E7).trans (b.mono (unhide E7).size))
  clear b E7 c0 c1 c2 c3 d0 d1 d2 d3
  obtain ⟨c0, c1, c2, c3⟩ := unhide hpc y8 ((unhide D2).trans ((unhide E8).mono (unhide D2).size))
  obtain ⟨d0, d1, d2, d3⟩ := unhide hpd y8 (unhide E8)
  have BF := hide ((unhide B0).trans (((unhide D2).trans ((unhide E8).mono (unhide D2).size)).mono (unhide B0).size))
  clear c0 c1 c2 c3 d0 d1 d2 d3
  go_wp2
  go_ret
  exact ⟨rfl, unhide BF⟩
set_option maxRecDepth 100000 in
set_option maxHeartbeats 8000000 in
theorem outerPlans_hb (sd n a q : Nat) (i : Int) (j : Int) (hsd : sd ≤ 72057594037927935) (hn1 : 1 ≤ n) (hn : n ≤ 96) (ha1 : 1 ≤ a) (ha : a ≤ 64) (hq1 : 1 ≤ q) (hq : q ≤ 8) (hi : (n : Int) ≤ i) (hj : j < 0) (w : World) :
    Calls Tryz.prog 3 #[plV sd n a q, .int .i64 i, .int .i64 j] w fun e w' => e = .returned (.bool true) ∧ Below w.heap.size w w' := by
  have hP : plOk sd n a q = true := by unfold plOk; simp; omega
  have haw := hide oawake_any
  have hrf := hide (fun w => dref_any sd n a q w)
  have hru := hide (fun w => Rules_any sd n a q hsd hn1 hn ha1 ha hq1 hq w)
  have hrd := hide (fun w => drules_any sd n a q hsd hn ha1 ha hq1 hq w)
  have hck := hide (fun w => check_any sd n a q w)
  have hdc := hide (fun w => dcheck_any sd n a q w)
  have hml := hide (fun j => memL_len sd a q j n)
  have hjo := hide (fun w => Joins_out sd n a q i hP (by omega) w)
  have qi : (0 : Int) ≤ i := by omega
  have qi2 : ¬ i < (n : Int) := by omega
  have hme := hide (fun w => Members_out sd n a q j hP (by omega) w)
  have qj : ¬ (0 : Int) ≤ j := by omega
  rw [hP] at hck hdc
  clear hP
  have hb0 : Below w.heap.size w (w.alloc (.cells #[.int .i64 (sd : Int), .int .i64 (n : Int), .int .i64 (a : Int), .int .i64 (q : Int)] 23)) := (Below.refl _ w).alloc (Nat.le_refl _) _
  have hpc := hide (plan_cells w sd n a q)
  have B0 := hide hb0
  unfold plV at *
  clear hb0
  obtain ⟨c0, c1, c2, c3⟩ := unhide hpc _ (Below.refl _ _)
  go_enter Tryz.func3, Tryz.ntmps3
  go_wp2_with fail
  generalize hW0 : w.alloc (.cells #[.int .i64 (sd : Int), .int .i64 (n : Int), .int .i64 (a : Int), .int .i64 (q : Int)] 23) = W0 at *
  have HW0 := hide hW0
  clear hW0
  refine (unhide hrf W0).mono ?_
  rintro e w1 ⟨rfl, b1⟩
  have D2 := hide (b1.alloc b1.size (.cells #[.int .i64 (sd : Int), .int .i64 (n : Int), .int .i64 (a : Int), .int .i64 (q : Int)] 24))
  have hpd := hide (plan_cellsD w1 sd n a q)
  clear b1 c0 c1 c2 c3
  obtain ⟨c0, c1, c2, c3⟩ := unhide hpc _ (unhide D2)
  obtain ⟨d0, d1, d2, d3⟩ := unhide hpd _ (Below.refl _ _)
  go_wp2_with fail
  generalize hW2 : w1.alloc (.cells #[.int .i64 (sd : Int), .int .i64 (n : Int), .int .i64 (a : Int), .int .i64 (q : Int)] 24) = W2 at *
  have HW2 := hide hW2
  have E0 := hide (Below.refl W2.heap.size W2)
  clear hW2
  refine (unhide hjo W2).mono ?_
  rintro e y1 ⟨rfl, b⟩
  have E1 := hide ((unhide E0).trans (b.mono (unhide E0).size))
  clear b E0 c0 c1 c2 c3 d0 d1 d2 d3
  obtain ⟨c0, c1, c2, c3⟩ := unhide hpc y1 ((unhide D2).trans ((unhide E1).mono (unhide D2).size))
  obtain ⟨d0, d1, d2, d3⟩ := unhide hpd y1 (unhide E1)
  go_wp2_with fail
  refine (unhide hme y1).mono ?_
  rintro e y2 ⟨rfl, b⟩
  have E2 := hide ((unhide E1).trans (b.mono (unhide E1).size))
  clear b E1 c0 c1 c2 c3 d0 d1 d2 d3
  obtain ⟨c0, c1, c2, c3⟩ := unhide hpc y2 ((unhide D2).trans ((unhide E2).mono (unhide D2).size))
  obtain ⟨d0, d1, d2, d3⟩ := unhide hpd y2 (unhide E2)
  go_wp2_with fail
  refine (unhide hru y2).mono ?_
  rintro e y3 ⟨g, rfl, ⟨V, hR⟩, b⟩
  have E3 := hide ((unhide E2).trans (b.mono (unhide E2).size))
  have HT := hide (tab_rows2 hR)
  clear hR
  clear b E2 c0 c1 c2 c3 d0 d1 d2 d3
  obtain ⟨c0, c1, c2, c3⟩ := unhide hpc y3 ((unhide D2).trans ((unhide E3).mono (unhide D2).size))
  obtain ⟨d0, d1, d2, d3⟩ := unhide hpd y3 (unhide E3)
  go_wp2_with fail
  refine (unhide hdc y3).mono ?_
  rintro e y4 ⟨rfl, b⟩
  have E4 := hide ((unhide E3).trans (b.mono (unhide E3).size))
  replace HT := hide ((unhide HT).below b)
  clear b E3 c0 c1 c2 c3 d0 d1 d2 d3
  obtain ⟨c0, c1, c2, c3⟩ := unhide hpc y4 ((unhide D2).trans ((unhide E4).mono (unhide D2).size))
  obtain ⟨d0, d1, d2, d3⟩ := unhide hpd y4 (unhide E4)
  go_wp2_with fail
  refine (unhide hck y4).mono ?_
  rintro e y5 ⟨rfl, b⟩
  have E5 := hide ((unhide E4).trans (b.mono (unhide E4).size))
  replace HT := hide ((unhide HT).below b)
  clear b E4 c0 c1 c2 c3 d0 d1 d2 d3
  obtain ⟨c0, c1, c2, c3⟩ := unhide hpc y5 ((unhide D2).trans ((unhide E5).mono (unhide D2).size))
  obtain ⟨d0, d1, d2, d3⟩ := unhide hpd y5 (unhide E5)
  go_wp2_with fail
  refine (unhide haw y5).mono ?_
  rintro e y6 ⟨rfl, b⟩
  have E6 := hide ((unhide E5).trans (b.mono (unhide E5).size))
  replace HT := hide ((unhide HT).below b)
  clear b E5 c0 c1 c2 c3 d0 d1 d2 d3
  obtain ⟨c0, c1, c2, c3⟩ := unhide hpc y6 ((unhide D2).trans ((unhide E6).mono (unhide D2).size))
  obtain ⟨d0, d1, d2, d3⟩ := unhide hpd y6 (unhide E6)
  go_wp2_with fail
  refine (unhide hrd y6).mono ?_
  rintro e y7 ⟨⟨v, rfl, Vs, hO, hR⟩, b⟩
  have E7 := hide ((unhide E6).trans (b.mono (unhide E6).size))
  replace HT := hide ((unhide HT).below b)
  obtain ⟨rb, rc, rfl, hT2⟩ := tab_own hO hR
  have HT2 := hide hT2
  clear hT2 hO hR
  clear b E6 c0 c1 c2 c3 d0 d1 d2 d3
  obtain ⟨c0, c1, c2, c3⟩ := unhide hpc y7 ((unhide D2).trans ((unhide E7).mono (unhide D2).size))
  obtain ⟨d0, d1, d2, d3⟩ := unhide hpd y7 (unhide E7)
  have hsr := hide (srows_any y7 a (ruL sd n a q) (by omega) (fun j hj => by
    have := unhide hml j
    unfold ruL
    simp
    omega) (some ⟨g, 0, none⟩) rb a rc (unhide HT) (unhide HT2))
  clear HT HT2
  go_wp2_with fail
  refine (unhide hsr ).mono ?_
  rintro e y8 ⟨rfl, b⟩
  have E8 := hide ((unhide E7).trans (b.mono (unhide E7).size))
  clear b E7 c0 c1 c2 c3 d0 d1 d2 d3
  obtain ⟨c0, c1, c2, c3⟩ := unhide hpc y8 ((unhide D2).trans ((unhide E8).mono (unhide D2).size))
  obtain ⟨d0, d1, d2, d3⟩ := unhide hpd y8 (unhide E8)
  have BF := hide ((unhide B0).trans (((unhide D2).trans ((unhide E8).mono (unhide D2).size)).mono (unhide B0).size))
  clear c0 c1 c2 c3 d0 d1 d2 d3
  go_wp2
  go_ret
  exact ⟨rfl, unhide BF⟩
set_option maxRecDepth 100000 in
set_option maxHeartbeats 8000000 in
theorem outerPlans_hh (sd n a q : Nat) (i : Int) (j : Int) (hsd : sd ≤ 72057594037927935) (hn1 : 1 ≤ n) (hn : n ≤ 96) (ha1 : 1 ≤ a) (ha : a ≤ 64) (hq1 : 1 ≤ q) (hq : q ≤ 8) (hi : (n : Int) ≤ i) (hj : (a : Int) ≤ j) (w : World) :
    Calls Tryz.prog 3 #[plV sd n a q, .int .i64 i, .int .i64 j] w fun e w' => e = .returned (.bool true) ∧ Below w.heap.size w w' := by
  have hP : plOk sd n a q = true := by unfold plOk; simp; omega
  have haw := hide oawake_any
  have hrf := hide (fun w => dref_any sd n a q w)
  have hru := hide (fun w => Rules_any sd n a q hsd hn1 hn ha1 ha hq1 hq w)
  have hrd := hide (fun w => drules_any sd n a q hsd hn ha1 ha hq1 hq w)
  have hck := hide (fun w => check_any sd n a q w)
  have hdc := hide (fun w => dcheck_any sd n a q w)
  have hml := hide (fun j => memL_len sd a q j n)
  have hjo := hide (fun w => Joins_out sd n a q i hP (by omega) w)
  have qi : (0 : Int) ≤ i := by omega
  have qi2 : ¬ i < (n : Int) := by omega
  have hme := hide (fun w => Members_out sd n a q j hP (by omega) w)
  have qj : (0 : Int) ≤ j := by omega
  have qj2 : ¬ j < (a : Int) := by omega
  rw [hP] at hck hdc
  clear hP
  have hb0 : Below w.heap.size w (w.alloc (.cells #[.int .i64 (sd : Int), .int .i64 (n : Int), .int .i64 (a : Int), .int .i64 (q : Int)] 23)) := (Below.refl _ w).alloc (Nat.le_refl _) _
  have hpc := hide (plan_cells w sd n a q)
  have B0 := hide hb0
  unfold plV at *
  clear hb0
  obtain ⟨c0, c1, c2, c3⟩ := unhide hpc _ (Below.refl _ _)
  go_enter Tryz.func3, Tryz.ntmps3
  go_wp2_with fail
  generalize hW0 : w.alloc (.cells #[.int .i64 (sd : Int), .int .i64 (n : Int), .int .i64 (a : Int), .int .i64 (q : Int)] 23) = W0 at *
  have HW0 := hide hW0
  clear hW0
  refine (unhide hrf W0).mono ?_
  rintro e w1 ⟨rfl, b1⟩
  have D2 := hide (b1.alloc b1.size (.cells #[.int .i64 (sd : Int), .int .i64 (n : Int), .int .i64 (a : Int), .int .i64 (q : Int)] 24))
  have hpd := hide (plan_cellsD w1 sd n a q)
  clear b1 c0 c1 c2 c3
  obtain ⟨c0, c1, c2, c3⟩ := unhide hpc _ (unhide D2)
  obtain ⟨d0, d1, d2, d3⟩ := unhide hpd _ (Below.refl _ _)
  go_wp2_with fail
  generalize hW2 : w1.alloc (.cells #[.int .i64 (sd : Int), .int .i64 (n : Int), .int .i64 (a : Int), .int .i64 (q : Int)] 24) = W2 at *
  have HW2 := hide hW2
  have E0 := hide (Below.refl W2.heap.size W2)
  clear hW2
  refine (unhide hjo W2).mono ?_
  rintro e y1 ⟨rfl, b⟩
  have E1 := hide ((unhide E0).trans (b.mono (unhide E0).size))
  clear b E0 c0 c1 c2 c3 d0 d1 d2 d3
  obtain ⟨c0, c1, c2, c3⟩ := unhide hpc y1 ((unhide D2).trans ((unhide E1).mono (unhide D2).size))
  obtain ⟨d0, d1, d2, d3⟩ := unhide hpd y1 (unhide E1)
  go_wp2_with fail
  refine (unhide hme y1).mono ?_
  rintro e y2 ⟨rfl, b⟩
  have E2 := hide ((unhide E1).trans (b.mono (unhide E1).size))
  clear b E1 c0 c1 c2 c3 d0 d1 d2 d3
  obtain ⟨c0, c1, c2, c3⟩ := unhide hpc y2 ((unhide D2).trans ((unhide E2).mono (unhide D2).size))
  obtain ⟨d0, d1, d2, d3⟩ := unhide hpd y2 (unhide E2)
  go_wp2_with fail
  refine (unhide hru y2).mono ?_
  rintro e y3 ⟨g, rfl, ⟨V, hR⟩, b⟩
  have E3 := hide ((unhide E2).trans (b.mono (unhide E2).size))
  have HT := hide (tab_rows2 hR)
  clear hR
  clear b E2 c0 c1 c2 c3 d0 d1 d2 d3
  obtain ⟨c0, c1, c2, c3⟩ := unhide hpc y3 ((unhide D2).trans ((unhide E3).mono (unhide D2).size))
  obtain ⟨d0, d1, d2, d3⟩ := unhide hpd y3 (unhide E3)
  go_wp2_with fail
  refine (unhide hdc y3).mono ?_
  rintro e y4 ⟨rfl, b⟩
  have E4 := hide ((unhide E3).trans (b.mono (unhide E3).size))
  replace HT := hide ((unhide HT).below b)
  clear b E3 c0 c1 c2 c3 d0 d1 d2 d3
  obtain ⟨c0, c1, c2, c3⟩ := unhide hpc y4 ((unhide D2).trans ((unhide E4).mono (unhide D2).size))
  obtain ⟨d0, d1, d2, d3⟩ := unhide hpd y4 (unhide E4)
  go_wp2_with fail
  refine (unhide hck y4).mono ?_
  rintro e y5 ⟨rfl, b⟩
  have E5 := hide ((unhide E4).trans (b.mono (unhide E4).size))
  replace HT := hide ((unhide HT).below b)
  clear b E4 c0 c1 c2 c3 d0 d1 d2 d3
  obtain ⟨c0, c1, c2, c3⟩ := unhide hpc y5 ((unhide D2).trans ((unhide E5).mono (unhide D2).size))
  obtain ⟨d0, d1, d2, d3⟩ := unhide hpd y5 (unhide E5)
  go_wp2_with fail
  refine (unhide haw y5).mono ?_
  rintro e y6 ⟨rfl, b⟩
  have E6 := hide ((unhide E5).trans (b.mono (unhide E5).size))
  replace HT := hide ((unhide HT).below b)
  clear b E5 c0 c1 c2 c3 d0 d1 d2 d3
  obtain ⟨c0, c1, c2, c3⟩ := unhide hpc y6 ((unhide D2).trans ((unhide E6).mono (unhide D2).size))
  obtain ⟨d0, d1, d2, d3⟩ := unhide hpd y6 (unhide E6)
  go_wp2_with fail
  refine (unhide hrd y6).mono ?_
  rintro e y7 ⟨⟨v, rfl, Vs, hO, hR⟩, b⟩
  have E7 := hide ((unhide E6).trans (b.mono (unhide E6).size))
  replace HT := hide ((unhide HT).below b)
  obtain ⟨rb, rc, rfl, hT2⟩ := tab_own hO hR
  have HT2 := hide hT2
  clear hT2 hO hR
  clear b E6 c0 c1 c2 c3 d0 d1 d2 d3
  obtain ⟨c0, c1, c2, c3⟩ := unhide hpc y7 ((unhide D2).trans ((unhide E7).mono (unhide D2).size))
  obtain ⟨d0, d1, d2, d3⟩ := unhide hpd y7 (unhide E7)
  have hsr := hide (srows_any y7 a (ruL sd n a q) (by omega) (fun j hj => by
    have := unhide hml j
    unfold ruL
    simp
    omega) (some ⟨g, 0, none⟩) rb a rc (unhide HT) (unhide HT2))
  clear HT HT2
  go_wp2_with fail
  refine (unhide hsr ).mono ?_
  rintro e y8 ⟨rfl, b⟩
  have E8 := hide ((unhide E7).trans (b.mono (unhide E7).size))
  clear b E7 c0 c1 c2 c3 d0 d1 d2 d3
  obtain ⟨c0, c1, c2, c3⟩ := unhide hpc y8 ((unhide D2).trans ((unhide E8).mono (unhide D2).size))
  obtain ⟨d0, d1, d2, d3⟩ := unhide hpd y8 (unhide E8)
  have BF := hide ((unhide B0).trans (((unhide D2).trans ((unhide E8).mono (unhide D2).size)).mono (unhide B0).size))
  clear c0 c1 c2 c3 d0 d1 d2 d3
  go_wp2
  go_ret
  exact ⟨rfl, unhide BF⟩
end Go.Proofs.YtkcnihngkmaecaaGreat
namespace Go.Proofs.YtkcnihngkmaecaaGreat
open Go.RowKit
set_option linter.unusedVariables false

theorem outerPlans_any (sd n a q i j : Int) (w : World) (h0 : (Lit.int .i64 sd).wf = true) (h1 : (Lit.int .i64 n).wf = true) (h2 : (Lit.int .i64 a).wf = true) (h3 : (Lit.int .i64 q).wf = true) :
    Calls Tryz.prog 3 #[plV sd n a q, .int .i64 i, .int .i64 j] w fun e w' => e = .returned (.bool true) ∧ Below w.heap.size w w' := by
  by_cases hP : plOk sd n a q = true
  · have hp : (0 ≤ sd ∧ sd ≤ 72057594037927935) ∧ (1 ≤ n ∧ n ≤ 96) ∧ (1 ≤ a ∧ a ≤ 64) ∧ (1 ≤ q ∧ q ≤ 8) := by
      unfold plOk at hP
      simp only [Bool.and_eq_true, decide_eq_true_eq] at hP
      exact ⟨hP.1.1.1, hP.1.1.2, hP.1.2, hP.2⟩
    clear hP
    obtain ⟨sd, rfl⟩ : ∃ z : Nat, sd = z := ⟨sd.toNat, by omega⟩
    obtain ⟨n, rfl⟩ : ∃ z : Nat, n = z := ⟨n.toNat, by omega⟩
    obtain ⟨a, rfl⟩ : ∃ z : Nat, a = z := ⟨a.toNat, by omega⟩
    obtain ⟨q, rfl⟩ : ∃ z : Nat, q = z := ⟨q.toNat, by omega⟩
    have b1 : sd ≤ 72057594037927935 := by omega
    have b2 : 1 ≤ n := by omega
    have b3 : n ≤ 96 := by omega
    have b4 : 1 ≤ a := by omega
    have b5 : a ≤ 64 := by omega
    have b6 : 1 ≤ q := by omega
    have b7 : q ≤ 8 := by omega
    by_cases i0 : i < 0
    · by_cases j0 : j < 0
      · exact outerPlans_bb sd n a q i j b1 b2 b3 b4 b5 b6 b7 i0 j0 w
      · by_cases j1 : (a : Int) ≤ j
        · exact outerPlans_bh sd n a q i j b1 b2 b3 b4 b5 b6 b7 i0 j1 w
        · obtain ⟨j, rfl⟩ : ∃ z : Nat, j = z := ⟨j.toNat, by omega⟩
          exact outerPlans_by sd n a q i j b1 b2 b3 b4 b5 b6 b7 i0 (by omega) w
    · by_cases i1 : (n : Int) ≤ i
      · by_cases j0 : j < 0
        · exact outerPlans_hb sd n a q i j b1 b2 b3 b4 b5 b6 b7 i1 j0 w
        · by_cases j1 : (a : Int) ≤ j
          · exact outerPlans_hh sd n a q i j b1 b2 b3 b4 b5 b6 b7 i1 j1 w
          · obtain ⟨j, rfl⟩ : ∃ z : Nat, j = z := ⟨j.toNat, by omega⟩
            exact outerPlans_hy sd n a q i j b1 b2 b3 b4 b5 b6 b7 i1 (by omega) w
      · obtain ⟨i, rfl⟩ : ∃ z : Nat, i = z := ⟨i.toNat, by omega⟩
        have i2 : i < n := by omega
        by_cases j0 : j < 0
        · exact outerPlans_yb sd n a q i j b1 b2 b3 b4 b5 b6 b7 i2 j0 w
        · by_cases j1 : (a : Int) ≤ j
          · exact outerPlans_yh sd n a q i j b1 b2 b3 b4 b5 b6 b7 i2 j1 w
          · obtain ⟨j, rfl⟩ : ∃ z : Nat, j = z := ⟨j.toNat, by omega⟩
            exact outerPlans_yy sd n a q i j b1 b2 b3 b4 b5 b6 b7 i2 (by omega) w
  · exact outerPlans_no sd n a q i j (by simpa using hP) w
end Go.Proofs.YtkcnihngkmaecaaGreat

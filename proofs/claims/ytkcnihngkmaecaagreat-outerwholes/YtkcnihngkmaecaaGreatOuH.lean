/- Contracts of outer: Rules, Joins; of the document: Same of numbers, Has; the law's awake. -/
import Derived.Test.YtkcnihngkmaecaaGreatOuG
namespace Go.Proofs.YtkcnihngkmaecaaGreat
open Go.RowKit
set_option linter.unusedVariables false
attribute [local go_sem] Oper.semAt_some

set_option maxRecDepth 100000 in
set_option maxHeartbeats 1000000 in
theorem nsame_any (w : World) (T : List Nat) (a0 b0 : Option Addr) (c d : Nat) (hk : T.length ≤ 100000) (hA : NumsAt w a0 T) (hB : NumsAt w b0 T) :
    Calls Tryz.prog 13 #[.slice a0 T.length c, .slice b0 T.length d] w fun e w' => e = .returned (.bool true) ∧ Below w.heap.size w w' := by
  have HA := hide hA
  have HB := hide hB
  clear hA hB
  generalize hk' : T.length = k at *
  have HK := hide hk'
  clear hk'
  go_enter Tryz.func13, Tryz.ntmps13
  go_wp2_with fail
  go_loopw [5] (fun v wr => ∃ i q : Nat, i ≤ k ∧ v = .int .i64 i ∧ w.drewN q = wr) (fun v _ => k - (intOf v).toNat)
  case atStart => exact ⟨0, 0, Nat.zero_le _, rfl, rfl⟩
  case round =>
    obtain ⟨i, q, hi, rfl, rfl⟩ := hrel
    by_cases hlt : i < k
    · have hlt' : i < T.length := by rw [unhide HK]; exact hlt
      obtain ⟨g, o, rfl, c1⟩ := unhide HA i hlt'
      obtain ⟨g', o', rfl, c2⟩ := unhide HB i hlt'
      generalize T[i] = B at *
      clear hlt'
      have q1 : (i : Int) < k := by omega
      go_wp2
      go_quiet (fail)
      go_wp2
      go_roundw
      case rel => exact ⟨i + 1, q + nq, by omega, by go_num, rfl⟩
      case measure => simp [intOf]; omega
    · have q1 : ¬ (i : Int) < k := by omega
      go_wp2
      go_ret
      exact ⟨rfl, below_drawn (Below.refl _ _) _⟩
set_option maxRecDepth 100000 in
set_option maxHeartbeats 1000000 in
theorem has_any (w : World) (T : List Nat) (a0 : Option Addr) (c x : Nat) (hk : T.length ≤ 100000) (hA : NumsAt w a0 T) :
    Calls Tryz.prog 32 #[.slice a0 T.length c, .int .i64 x] w fun e w' => e = .returned (.bool (decide (x ∈ T))) ∧ w' = w := by
  have HA := hide hA
  clear hA
  generalize hk' : T.length = k at *
  have HK := hide hk'
  clear hk'
  go_enter Tryz.func32, Tryz.ntmps32
  go_wp2_with fail
  go_loopw [5] (fun v wr => ∃ i : Nat, i ≤ k ∧ v = .int .i64 i ∧ wr = w ∧ x ∉ T.take i) (fun v _ => k - (intOf v).toNat)
  case atStart => exact ⟨0, Nat.zero_le _, rfl, rfl, by simp⟩
  case round =>
    obtain ⟨i, hi, rfl, rfl, hno⟩ := hrel
    by_cases hlt : i < k
    · have hlt' : i < T.length := by rw [unhide HK]; exact hlt
      obtain ⟨g, o, rfl, c1⟩ := unhide HA i hlt'
      have q1 : (i : Int) < k := by omega
      by_cases he : T[i] = x
      · have q2 : ((T[i] : Int) == (x : Int)) = true := by simp [he]
        have HE : Hid (x ∈ T) := by rw [← he]; exact List.getElem_mem hlt'
        generalize T[i] = B at *
        subst he
        clear hno hlt'
        go_wp2
        go_ret
        exact ⟨by rw [decide_eq_true (unhide HE)]; rfl, rfl⟩
      · have q2 : ((T[i] : Int) == (x : Int)) = false := by rw [beq_eq_false_iff_ne]; omega
        have HN : Hid (x ∉ T.take (i + 1)) := by
          show ¬ _
          rw [List.take_succ_eq_append_getElem hlt', List.mem_append]
          rintro (h | h)
          · exact hno h
          · simp at h; exact he h.symm
        generalize T[i] = B at *
        clear hno hlt' he
        go_wp2
        go_roundw
        case rel => exact ⟨i + 1, by omega, by go_num, by first | rfl | trivial, unhide HN⟩
        case measure => simp [intOf]; omega
    · have q1 : ¬ (i : Int) < k := by omega
      have HN : Hid (x ∉ T) := by
        show ¬ _
        rw [List.take_of_length_le (by have := unhide HK; omega)] at hno
        exact hno
      clear hno
      go_wp2
      go_ret
      exact ⟨by rw [decide_eq_false (unhide HN)]; rfl, rfl⟩
set_option maxRecDepth 100000 in
set_option maxHeartbeats 1000000 in
/-- of a plan that may be -/
theorem Rules_any (sd n a q : Nat) (hsd : sd ≤ 72057594037927935) (hn1 : 1 ≤ n) (hn : n ≤ 96) (ha1 : 1 ≤ a) (ha : a ≤ 64) (hq1 : 1 ≤ q) (hq : q ≤ 8) (w : World) :
    Calls Tryz.prog 9 #[plV sd n a q] w fun e w' => ∃ g, e = .returned (.tuple #[.slice (some ⟨g, 0, none⟩) a a, .int .i64 0]) ∧ (∃ V, Rows2 w' w.heap.size g a V (ruL sd n a q)) ∧ Below w.heap.size w w' := by
  have hck := hide (fun w => check_any sd n a q w)
  have hru := hide (fun w => rules_any sd n a q hsd hn ha1 ha hq1 hq w)
  have hP : plOk sd n a q = true := by unfold plOk; simp; omega
  rw [hP] at hck
  have hb0 : Below w.heap.size w (w.alloc (.cells #[.int .i64 (sd : Int), .int .i64 (n : Int), .int .i64 (a : Int), .int .i64 (q : Int)] 23)) := (Below.refl _ w).alloc (Nat.le_refl _) _
  have hpc := hide (plan_cells w sd n a q)
  have B0 := hide hb0
  unfold plV at *
  clear hb0 hP
  obtain ⟨c0, c1, c2, c3⟩ := unhide hpc _ (Below.refl _ _)
  go_enter Tryz.func9, Tryz.ntmps9
  go_wp2_with fail
  generalize hW0 : w.alloc (.cells #[.int .i64 (sd : Int), .int .i64 (n : Int), .int .i64 (a : Int), .int .i64 (q : Int)] 23) = W0 at *
  have HW0 := hide hW0
  clear hW0
  refine (unhide hck W0).mono ?_
  rintro e w1 ⟨rfl, b1⟩
  obtain ⟨c0, c1, c2, c3⟩ := unhide hpc w1 b1
  have B1 := hide ((unhide B0).trans (b1.mono (unhide B0).size))
  clear b1
  go_wp2_with fail
  refine (unhide hru w1).mono ?_
  rintro e w2 ⟨g, rfl, ⟨V, hR⟩, b2⟩
  have B2 := hide ((unhide B1).trans (b2.mono (unhide B1).size))
  have HR := hide (hR.mono (unhide B1).size)
  clear hR b2 c0 c1 c2 c3
  go_wp2
  go_ret2
  exact ⟨_, rfl, ⟨_, unhide HR⟩, unhide B2⟩
set_option maxRecDepth 100000 in
set_option maxHeartbeats 1000000 in
/-- of one that may not -/
theorem Rules_no (sd n a q : Int) (hP : plOk sd n a q = false) (w : World) :
    Calls Tryz.prog 9 #[plV sd n a q] w fun e w' => e = .returned (.tuple #[.slice none 0 0, .int .i64 1]) ∧ Below w.heap.size w w' := by
  have hck := hide (fun w => check_any sd n a q w)
  rw [hP] at hck
  have hb0 : Below w.heap.size w (w.alloc (.cells #[.int .i64 sd, .int .i64 n, .int .i64 a, .int .i64 q] 23)) := (Below.refl _ w).alloc (Nat.le_refl _) _
  have hpc := hide (plan_cells w sd n a q)
  have B0 := hide hb0
  unfold plV at *
  clear hb0 hP
  obtain ⟨c0, c1, c2, c3⟩ := unhide hpc _ (Below.refl _ _)
  go_enter Tryz.func9, Tryz.ntmps9
  go_wp2_with fail
  refine (unhide hck _).mono ?_
  rintro e w1 ⟨rfl, b1⟩
  have B1 := hide ((unhide B0).trans (b1.mono (unhide B0).size))
  clear b1
  go_wp2
  go_ret2
  exact ⟨rfl, unhide B1⟩
set_option maxRecDepth 100000 in
set_option maxHeartbeats 1000000 in
theorem Joins_any (sd n a q i : Nat) (hsd : sd ≤ 72057594037927935) (hn1 : 1 ≤ n) (hn : n ≤ 96) (ha1 : 1 ≤ a) (ha : a ≤ 64) (hq1 : 1 ≤ q) (hq : q ≤ 8) (hi : i < n) (w : World) :
    Calls Tryz.prog 7 #[plV sd n a q, .int .i64 i] w fun e w' => ∃ g, e = .returned (.tuple #[.slice (some ⟨g, 0, none⟩) (min q a) (min q a), .int .i64 0]) ∧ w.heap.size ≤ g ∧ g < w'.heap.size ∧ (∀ k (h : k < (joI sd a q i).length), w'.cell? ⟨g, k, none⟩ = some (.int .i64 (joI sd a q i)[k])) ∧ Below w.heap.size w w' := by
  have hck := hide (fun w => check_any sd n a q w)
  have hjo := hide (fun w => joins_any sd n a q i hsd ha1 ha hq1 hq (by omega) w)
  have hif := hide (fun w => isFrom_any 0 i ((n : Int) - 1) w)
  rw [decide_eq_true (show (0 : Int) ≤ i ∧ (i : Int) ≤ (n : Int) - 1 by omega)] at hif
  have hP : plOk sd n a q = true := by unfold plOk; simp; omega
  rw [hP] at hck
  have hb0 : Below w.heap.size w (w.alloc (.cells #[.int .i64 (sd : Int), .int .i64 (n : Int), .int .i64 (a : Int), .int .i64 (q : Int)] 23)) := (Below.refl _ w).alloc (Nat.le_refl _) _
  have hpc := hide (plan_cells w sd n a q)
  have B0 := hide hb0
  unfold plV at *
  clear hb0 hP
  obtain ⟨c0, c1, c2, c3⟩ := unhide hpc _ (Below.refl _ _)
  go_enter Tryz.func7, Tryz.ntmps7
  go_wp2_with fail
  generalize hW0 : w.alloc (.cells #[.int .i64 (sd : Int), .int .i64 (n : Int), .int .i64 (a : Int), .int .i64 (q : Int)] 23) = W0 at *
  have HW0 := hide hW0
  clear hW0
  refine (unhide hck W0).mono ?_
  rintro e w1 ⟨rfl, b1⟩
  obtain ⟨c0, c1, c2, c3⟩ := unhide hpc w1 b1
  have B1 := hide ((unhide B0).trans (b1.mono (unhide B0).size))
  clear b1
  go_wp2_with fail
  refine (unhide hif w1).mono ?_
  rintro e w2 ⟨rfl, rfl⟩
  go_wp2_with fail
  refine (unhide hjo w1).mono ?_
  rintro e w3 ⟨g, rfl, hg1, hg2, hcl, b3⟩
  have B3 := hide ((unhide B1).trans (b3.mono (unhide B1).size))
  have hg0 : w.heap.size ≤ g := Nat.le_trans (unhide B1).size hg1
  have HCL := hide hcl
  clear hcl b3 c0 c1 c2 c3
  go_wp2
  go_ret2
  exact ⟨_, rfl, hg0, hg2, unhide HCL, unhide B3⟩
end Go.Proofs.YtkcnihngkmaecaaGreat

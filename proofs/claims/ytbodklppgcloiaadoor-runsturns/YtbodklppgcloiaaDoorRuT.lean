/- The law RunsTurns, walked. -/
import Derived.Test.YtbodklppgcloiaaDoorRuR
import Derived.Test.YtbodklppgcloiaaDoorRuL
namespace Go.Proofs.YtbodklppgcloiaaDoor
open Go.RowKit Go.Shelf
set_option linter.unusedVariables false
attribute [local go_sem] Oper.semAt_some

theorem chkI_small {n : Int} {s : By} (h : chkI n s = true) : s.length ≤ 20 := by
  obtain ⟨m, rfl, hch, hm, hl, hl20⟩ := chkI_facts h
  exact hl20
theorem packR_len (n : Int) (s : By) : (packR n s).length ≤ 65536 := by
  unfold packR
  split
  · split
    · exact packS_le _
    · simp
  · simp
set_option maxRecDepth 100000 in
set_option maxHeartbeats 4000000 in
theorem runsTurns_by (n : Int) (a b : By) (w : World) (hA : a.length ≤ maxLen) (hB : b.length ≤ maxLen) : Calls Tryd.prog 8 #[.int .i64 n, .string (bs a), .string (bs b)] w fun e w' => e = .returned (.bool true) ∧ Below w.heap.size w w' := by
  have haw := hide ruawake_any
  have hc1 := hide (fun w => check_any n a w hA)
  have hc2 := hide (fun w => check_any n b w hB)
  cases hC1 : chkI n a with
  | false =>
    rw [hC1] at hc1
    generalize bs a = A at *
    generalize bs b = B at *
    clear hC1 hc2 hA hB
    go_enter Tryd.func8, Tryd.ntmps8
    go_wp2_with fail
    refine (unhide hc1 _).mono ?_
    rintro e w1 ⟨rfl, b1⟩
    have B1 := hide b1
    clear b1
    go_wp2_with fail
    refine (unhide haw _).mono ?_
    rintro e w2 ⟨rfl, b2⟩
    have B2 := hide ((unhide B1).trans (b2.mono (unhide B1).size))
    clear b2 B1
    go_wp2
    go_ret
    exact ⟨rfl, unhide B2⟩
  | true =>
    cases hC2 : chkI n b with
    | false =>
      rw [hC1] at hc1
      rw [hC2] at hc2
      generalize bs a = A at *
      generalize bs b = B at *
      clear hC1 hC2 hA hB
      go_enter Tryd.func8, Tryd.ntmps8
      go_wp2_with fail
      refine (unhide hc1 _).mono ?_
      rintro e w1 ⟨rfl, b1⟩
      have B1 := hide b1
      clear b1
      go_wp2_with fail
      refine (unhide hc2 _).mono ?_
      rintro e w2 ⟨rfl, b2⟩
      have B2 := hide ((unhide B1).trans (b2.mono (unhide B1).size))
      clear b2 B1
      go_wp2_with fail
      refine (unhide haw _).mono ?_
      rintro e w3 ⟨rfl, b3⟩
      have B3 := hide ((unhide B2).trans (b3.mono (unhide B2).size))
      clear b3 B2
      go_wp2
      go_ret
      exact ⟨rfl, unhide B3⟩
    | true =>
      have s1 := chkI_small hC1
      have s2 := chkI_small hC2
      obtain ⟨m, rfl, hch, _, _, _⟩ := chkI_facts hC1
      rw [hC1] at hc1
      have hch2 : chk m b = true := by rw [chkI_nat] at hC2; exact hC2
      rw [hC2] at hc2
      obtain ⟨f1, f2, f3, f4, f5, f6, f7, f8⟩ := turns_facts hch hch2
      have hpl : (patR m a b).length ≤ 65536 := by unfold patR; split; exact packR_len _ _; simp
      have h1 := hide (fun w => patch_any m a b w (by omega) (by omega))
      have h2 := hide (fun w => apply_any m a (patR m a b) w (by omega) (by omega))
      have h3 := hide (fun w => apply_any m b (patR m a b) w (by omega) (by omega))
      have h4 := hide (fun w => patch_any m a a w (by omega) (by omega))
      rw [f1] at h1
      rw [f2, f5] at h2
      rw [f3, f6] at h3
      rw [f4, f7] at h4
      have hq : ((bs (patR m a b)).toList.isEmpty == ((bs a).toList == (bs b).toList)) = true := by
        rw [ByteArray.toList_eq, ByteArray.toList_eq, ByteArray.toList_eq, bs_list, bs_list, bs_list]
        by_cases h : a = b
        · rw [f8.2 h, h]; simp
        · have h1 : (a == b) = false := by simpa using h
          have h2 : (patR m a b).isEmpty = false := by
            cases hp : patR m a b with
            | nil => exact absurd (f8.1 hp) h
            | cons x l => rfl
          rw [h1, h2]; rfl
      rw [show bs [] = (⟨#[]⟩ : ByteArray) from rfl] at h4
      clear f1 f2 f3 f4 f5 f6 f7 f8 hch hch2 hC1 hC2 hA hB s1 s2 hpl
      generalize bs (patR m a b) = P at *
      generalize bs a = A at *
      generalize bs b = B at *
      have HQ := hide hq
      clear hq
      go_enter Tryd.func8, Tryd.ntmps8
      go_wp2_with fail
      refine (unhide hc1 _).mono ?_
      rintro e w1 ⟨rfl, b1⟩
      have B1 := hide b1
      clear b1
      go_wp2_with fail
      refine (unhide hc2 _).mono ?_
      rintro e w2 ⟨rfl, b2⟩
      have B2 := hide ((unhide B1).trans (b2.mono (unhide B1).size))
      clear b2 B1
      go_wp2_with fail
      refine (unhide h1 _).mono ?_
      rintro e w3 ⟨rfl, b3⟩
      have B3 := hide ((unhide B2).trans (b3.mono (unhide B2).size))
      clear b3 B2
      go_wp2_with fail
      refine (unhide h2 _).mono ?_
      rintro e w4 ⟨rfl, b4⟩
      have B4 := hide ((unhide B3).trans (b4.mono (unhide B3).size))
      clear b4 B3
      go_wp2_with fail
      refine (unhide h3 _).mono ?_
      rintro e w5 ⟨rfl, b5⟩
      have B5 := hide ((unhide B4).trans (b5.mono (unhide B4).size))
      clear b5 B4
      go_wp2_with fail
      refine (unhide h4 _).mono ?_
      rintro e w6 ⟨rfl, b6⟩
      have B6 := hide ((unhide B5).trans (b6.mono (unhide B5).size))
      clear b6 B5
      go_wp2_with fail
      refine (unhide haw _).mono ?_
      rintro e w7 ⟨rfl, b7⟩
      have B7 := hide ((unhide B6).trans (b7.mono (unhide B6).size))
      clear b7 B6
      go_wp2
      go_ret
      exact ⟨by show Ending.returned (.bool _) = _; rw [unhide HQ], unhide B7⟩
theorem runsTurns_any (n : Int) (a b : ByteArray) (w : World) (ha : a.size ≤ maxLen) (hb : b.size ≤ maxLen) : Calls Tryd.prog 8 #[.int .i64 n, .string a, .string b] w fun e w' => e = .returned (.bool true) ∧ Below w.heap.size w w' := by
  rw [← bs_of a, ← bs_of b]
  exact runsTurns_by n a.data.toList b.data.toList w (by rw [← show a.size = a.data.toList.length from by simp]; exact ha) (by rw [← show b.size = b.data.toList.length from by simp]; exact hb)
end Go.Proofs.YtbodklppgcloiaaDoor

/- Contracts of the document's Patch and Apply. -/
import Derived.Test.YtbodklppgcloiaaDoorRwF
namespace Go.Proofs.YtbodklppgcloiaaDoor
open Go.RowKit Go.Shelf
set_option linter.unusedVariables false
attribute [local go_sem] Oper.semAt_some

theorem rcheck_b (n : Int) (s : By) (w : World) (hs : s.length ≤ maxLen) : Calls Tryd.prog 33 #[.int .i64 n, .string (bs s)] w fun e w' => e = .returned (.bool (chkI n s)) ∧ Below w.heap.size w w' :=
  (rcheck_any n s w hs).mono fun e w' ⟨h1, h2⟩ => ⟨h1, by rw [← h2]; exact Below.refl _ _⟩
theorem rpatch_any (n : Int) (a b : By) (w : World) (ha : a.length ≤ 100000) (hb : b.length ≤ 100000) : Calls Tryd.prog 26 #[.int .i64 n, .string (bs a), .string (bs b)] w fun e w' => e = .returned (.tuple #[.string (bs (patR n a b)), .int .i64 (patE n a b)]) ∧ Below w.heap.size w w' := by
  have hc1 := hide (fun w => rcheck_b n a w (by unfold maxLen; omega))
  have hc2 := hide (fun w => rcheck_b n b w (by unfold maxLen; omega))
  unfold patR patE
  cases hA : chkI n a with
  | false =>
    rw [hA] at hc1
    rw [if_neg (by simp), if_neg (by simp)]
    generalize bs a = A at *
    generalize bs b = B at *
    clear hA hc2
    go_enter Tryd.func26, Tryd.ntmps26
    go_wp2_with fail
    refine (unhide hc1 _).mono ?_
    rintro e w1 ⟨rfl, b1⟩
    have B1 := hide b1
    clear b1
    go_wp2
    go_ret2
    exact ⟨rfl, unhide B1⟩
  | true =>
    cases hB : chkI n b with
    | false =>
      rw [hA] at hc1
      rw [hB] at hc2
      rw [if_neg (by simp), if_neg (by simp)]
      generalize bs a = A at *
      generalize bs b = B at *
      clear hA hB
      go_enter Tryd.func26, Tryd.ntmps26
      go_wp2_with fail
      refine (unhide hc1 _).mono ?_
      rintro e w1 ⟨rfl, b1⟩
      have B1 := hide b1
      clear b1
      go_wp2_with fail
      refine (unhide hc2 _).mono ?_
      rintro e w2 ⟨rfl, b2⟩
      have B2 := hide ((unhide B1).trans (b2.mono (unhide B1).size))
      clear b2 B1
      go_wp2
      go_ret2
      exact ⟨rfl, unhide B2⟩
    | true =>
      rw [hA] at hc1
      rw [hB] at hc2
      rw [if_pos (by simp), if_pos (by simp)]
      obtain ⟨m, rfl, hch, hm, hl, hl20⟩ := chkI_facts hA
      have hch2 : chk m b = true := by rw [chkI_nat] at hB; exact hB
      have hu := hide (fun w => reither_any m a b w hm ha hb)
      rw [either_eq hch hch2] at hu
      have hp := hide (fun w => rpack_any m (xorL a b) w (by have := xorL_len a b; unfold maxLen; omega))
      generalize packE m (xorL a b) = pE at *
      generalize bs (packR m (xorL a b)) = pR at *
      generalize bs (xorL a b) = X at *
      generalize bs a = A at *
      generalize bs b = B at *
      clear hA hB hch hch2 hl
      go_enter Tryd.func26, Tryd.ntmps26
      go_wp2_with fail
      refine (unhide hc1 _).mono ?_
      rintro e w1 ⟨rfl, b1⟩
      have B1 := hide b1
      clear b1
      go_wp2_with fail
      refine (unhide hc2 _).mono ?_
      rintro e w2 ⟨rfl, b2⟩
      have B2 := hide ((unhide B1).trans (b2.mono (unhide B1).size))
      clear b2 B1
      go_wp2_with fail
      refine (unhide hu _).mono ?_
      rintro e w3 ⟨rfl, b3⟩
      have B3 := hide ((unhide B2).trans (b3.mono (unhide B2).size))
      clear b3 B2
      go_wp2_with fail
      refine (unhide hp _).mono ?_
      rintro e w4 ⟨rfl, b4⟩
      have B4 := hide ((unhide B3).trans (b4.mono (unhide B3).size))
      clear b4 B3
      go_wp2
      go_ret2
      exact ⟨rfl, unhide B4⟩
theorem unp_chk {m : Nat} (hm : m ≤ 160) {t : By} (h : unpE m t = 0) : chk m (unpR m t) = true := by
  rcases doc_unp m hm t with ⟨_, h2, _⟩ | ⟨_, _, h3⟩
  · rw [h2]; exact mkL_chk m hm _
  · rw [h] at h3; cases h3
theorem rapply_any (n : Int) (s t : By) (w : World) (hs : s.length ≤ 100000) (ht : t.length ≤ 100000) : Calls Tryd.prog 28 #[.int .i64 n, .string (bs s), .string (bs t)] w fun e w' => e = .returned (.tuple #[.string (bs (appR n s t)), .int .i64 (appE n s t)]) ∧ Below w.heap.size w w' := by
  have hc1 := hide (fun w => rcheck_b n s w (by unfold maxLen; omega))
  unfold appR appE
  cases hA : chkI n s with
  | false =>
    rw [hA] at hc1
    rw [if_neg (by simp), if_neg (by simp)]
    generalize bs s = A at *
    generalize bs t = B at *
    clear hA
    go_enter Tryd.func28, Tryd.ntmps28
    go_wp2_with fail
    refine (unhide hc1 _).mono ?_
    rintro e w1 ⟨rfl, b1⟩
    have B1 := hide b1
    clear b1
    go_wp2
    go_ret2
    exact ⟨rfl, unhide B1⟩
  | true =>
    rw [hA] at hc1
    obtain ⟨m, rfl, hch, hm, hl, hl20⟩ := chkI_facts hA
    have hu := hide (fun w => runpack_any m t ht w)
    by_cases hE : unpE m t = 0
    · rw [if_pos (by simp [hE]), if_pos rfl]
      have hc2 := unp_chk hm hE
      have hx := hide (fun w => reither_any m s (unpR m t) w hm hs (by have := gatR_len m (toJ (pkd 0 t)); show (gatR m _).length ≤ _; omega))
      rw [either_eq hch hc2] at hx
      rw [hE] at hu ⊢
      generalize bs (xorL s (unpR m t)) = X at *
      generalize bs (unpR m t) = U at *
      generalize bs s = A at *
      generalize bs t = B at *
      clear hA hE hch hc2 hl
      go_enter Tryd.func28, Tryd.ntmps28
      go_wp2_with fail
      refine (unhide hc1 _).mono ?_
      rintro e w1 ⟨rfl, b1⟩
      have B1 := hide b1
      clear b1
      go_wp2_with fail
      refine (unhide hu _).mono ?_
      rintro e w2 ⟨rfl, b2⟩
      have B2 := hide ((unhide B1).trans (b2.mono (unhide B1).size))
      clear b2 B1
      go_wp2_with fail
      refine (unhide hx _).mono ?_
      rintro e w3 ⟨rfl, b3⟩
      have B3 := hide ((unhide B2).trans (b3.mono (unhide B2).size))
      clear b3 B2
      go_wp2
      go_ret2
      exact ⟨rfl, unhide B3⟩
    · rw [if_neg (by simp [hE]), if_pos rfl]
      generalize unpE m t = E at *
      have hne : (E != 0) = true := by simpa using hE
      generalize bs (unpR m t) = U at *
      generalize bs s = A at *
      generalize bs t = B at *
      clear hA hE hch hl
      go_enter Tryd.func28, Tryd.ntmps28
      go_wp2_with fail
      refine (unhide hc1 _).mono ?_
      rintro e w1 ⟨rfl, b1⟩
      have B1 := hide b1
      clear b1
      go_wp2_with fail
      refine (unhide hu _).mono ?_
      rintro e w2 ⟨rfl, b2⟩
      have B2 := hide ((unhide B1).trans (b2.mono (unhide B1).size))
      clear b2 B1
      go_wp2
      go_ret2
      exact ⟨rfl, unhide B2⟩
end Go.Proofs.YtbodklppgcloiaaDoor

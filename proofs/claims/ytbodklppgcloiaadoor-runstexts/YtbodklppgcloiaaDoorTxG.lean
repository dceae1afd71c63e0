/- The law RunsTexts, walked. -/
import Derived.Test.YtbodklppgcloiaaDoorTxZ
import Derived.Test.YtbodklppgcloiaaDoorRuL
namespace Go.Proofs.YtbodklppgcloiaaDoor
open Go.RowKit Go.Shelf
set_option linter.unusedVariables false
attribute [local go_sem] Oper.semAt_some

theorem text_all (n : Int) (s : By) (w : World) (hs : s.length ≤ maxLen) (hG : Glob w) : Calls Tryd.prog 21 #[.int .i64 n, .string (bs s)] w fun e w' => e = .returned (.tuple #[.string (bs (textR n s)), .int .i64 (ofsE n s)]) ∧ Below w.heap.size w w' := by
  cases hC : chkI n s with
  | true =>
    obtain ⟨m, rfl, hch, hm, hl, hl20⟩ := chkI_facts hC
    exact text_any 160 (by omega) m s (by omega) w hs (itoaOk_glob hG)
  | false =>
    have hc := hide (fun w => check_any n s w hs)
    have e1 : textR n s = [] := by unfold textR; rw [if_neg (by rw [hC]; simp)]
    have e2 : ofsE n s = 3 := by unfold ofsE; rw [if_neg (by rw [hC]; simp)]
    rw [hC] at hc
    rw [e1, e2, show bs [] = (⟨#[]⟩ : ByteArray) from rfl]
    clear e1 e2 hC
    generalize bs s = S at *
    go_enter Tryd.func21, Tryd.ntmps21
    go_wp2_with fail
    refine (unhide hc _).mono ?_
    rintro e w1 ⟨rfl, b1⟩
    have B1 := hide b1
    clear b1
    go_wp2
    go_ret2
    exact ⟨rfl, unhide B1⟩
set_option maxRecDepth 100000 in
set_option maxHeartbeats 4000000 in
theorem runsTexts_by (n : Int) (s t : By) (w : World) (hs : s.length ≤ maxLen) (ht : t.length ≤ maxLen) (hG : Glob w) : Calls Tryd.prog 5 #[.int .i64 n, .string (bs s), .string (bs t)] w fun e w' => e = .returned (.bool true) ∧ Below w.heap.size w w' := by
  have haw := hide ruawake_any
  have hsz := bs_size s
  have hsz2 := bs_size t
  by_cases hbig : 30 < s.length ∨ (¬ 30 < s.length ∧ 1000 < t.length)
  · have i0 : (30 : Int) < ((bs s).size : Int) ∨ (¬ (30 : Int) < ((bs s).size : Int) ∧ (1000 : Int) < ((bs t).size : Int)) := by rw [hsz, hsz2]; omega
    generalize bs s = S at *
    generalize bs t = T at *
    clear hsz hsz2 hbig
    go_enter Tryd.func5, Tryd.ntmps5
    rcases i0 with i1 | ⟨i1, i2⟩
    all_goals
      go_wp2_with fail
      refine (unhide haw _).mono ?_
      rintro e w1 ⟨rfl, b1⟩
      have B1 := hide b1
      clear b1
      go_wp2
      go_ret
      exact ⟨rfl, unhide B1⟩
  · have i1 : ¬ (30 : Int) < ((bs s).size : Int) := by rw [hsz]; omega
    have i2 : ¬ (1000 : Int) < ((bs t).size : Int) := by rw [hsz2]; omega
    have h1 := hide (fun w' (hb : Below w.heap.size w w') => text_all n s w' hs (hG.below hb))
    have h2 := hide (fun w' (hb : Below w.heap.size w w') => rtext_any n s w' hs)
    have h3 := hide (fun w' (hb : Below w.heap.size w w') => read_any n t (by omega) w' (hG.below hb))
    have h4 := hide (fun w' (hb : Below w.heap.size w w') => rread_any n t (by omega) w')
    clear hsz hsz2 hbig hs ht hG
    generalize ofsE n s = PE at *
    generalize bs (textR n s) = PR at *
    generalize redE n t = UE at *
    generalize bs (redR n t) = UR at *
    generalize bs s = S at *
    generalize bs t = T at *
    go_enter Tryd.func5, Tryd.ntmps5
    go_wp2_with fail
    refine (unhide h1 _ (Below.refl _ _)).mono ?_
    rintro e w1 ⟨rfl, b1⟩
    have B1 := hide b1
    clear b1
    go_wp2_with fail
    refine (unhide h2 _ (unhide B1)).mono ?_
    rintro e w2 ⟨rfl, b2⟩
    have B2 := hide ((unhide B1).trans (b2.mono (unhide B1).size))
    clear b2 B1
    go_wp2_with fail
    refine (unhide h3 _ (unhide B2)).mono ?_
    rintro e w3 ⟨rfl, b3⟩
    have B3 := hide ((unhide B2).trans (b3.mono (unhide B2).size))
    clear b3 B2
    go_wp2_with fail
    refine (unhide h4 _ (unhide B3)).mono ?_
    rintro e w4 ⟨rfl, b4⟩
    have B4 := hide ((unhide B3).trans (b4.mono (unhide B3).size))
    clear b4 B3
    go_wp2_with fail
    refine (unhide haw _).mono ?_
    rintro e w5 ⟨rfl, b5⟩
    have B5 := hide ((unhide B4).trans (b5.mono (unhide B4).size))
    clear b5 B4
    go_wp2
    go_ret
    exact ⟨rfl, unhide B5⟩
theorem runsTexts_any (n : Int) (a b : ByteArray) (w : World) (ha : a.size ≤ maxLen) (hb : b.size ≤ maxLen) (hG : Glob w) : Calls Tryd.prog 5 #[.int .i64 n, .string a, .string b] w fun e w' => e = .returned (.bool true) ∧ Below w.heap.size w w' := by
  rw [← bs_of a, ← bs_of b]
  exact runsTexts_by n a.data.toList b.data.toList w (by rw [← show a.size = a.data.toList.length from by simp]; exact ha) (by rw [← show b.size = b.data.toList.length from by simp]; exact hb) hG
end Go.Proofs.YtbodklppgcloiaaDoor

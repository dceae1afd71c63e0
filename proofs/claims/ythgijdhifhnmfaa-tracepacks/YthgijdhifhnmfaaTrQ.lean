/- trace: the document's May, Check, Pack. -/
import Derived.Test.YthgijdhifhnmfaaTrM
import Derived.Test.YthgijdhifhnmfaaRefV
namespace Go.Proofs.Ythgijdhifhnmfaa
open Go.RowKit
set_option linter.unusedVariables false
attribute [local go_sem] Oper.semAt_some

set_option maxRecDepth 100000 in
set_option maxHeartbeats 1000000 in
theorem rmay_any (k n : Int) (t : ByteArray) (w : World) : Calls Try.prog 38 #[.agg #[.int .i64 k, .int .i64 n, .string t]] w fun e w' => e = .returned (.bool (mayB ⟨k, n, t⟩)) ∧ Below w.heap.size w w' := by
  have HB := hide ((Below.refl w.heap.size w).alloc (Nat.le_refl _) (.cells #[.int .i64 k, .int .i64 n, .string t] 54))
  unfold mayB isPe
  dsimp only
  by_cases k1 : k = 1
  · subst k1
    rw [if_pos rfl]
    by_cases n0 : 1 ≤ n
    · by_cases n1 : n ≤ 15
      · rw [decide_eq_true (show 1 ≤ n ∧ n ≤ 15 from ⟨n0, n1⟩), Bool.true_and]
        by_cases hs : (t.size : Int) ≤ 400
        · rw [decide_eq_true (show t.size ≤ 400 by omega)]
          go_enter Try.func38, Try.ntmps38
          go_wp2
          go_ret
          exact ⟨rfl, unhide HB⟩
        · rw [decide_eq_false (show ¬ t.size ≤ 400 by omega)]
          have ds : decide ((t.size : Int) ≤ 400) = false := decide_eq_false hs
          go_enter Try.func38, Try.ntmps38
          go_wp2
          go_ret
          exact ⟨rfl, unhide HB⟩
      · rw [decide_eq_false (fun h : 1 ≤ n ∧ n ≤ 15 => n1 h.2), Bool.false_and]
        go_enter Try.func38, Try.ntmps38
        go_wp2
        go_ret
        exact ⟨rfl, unhide HB⟩
    · rw [decide_eq_false (fun h : 1 ≤ n ∧ n ≤ 15 => n0 h.1), Bool.false_and]
      go_enter Try.func38, Try.ntmps38
      go_wp2
      go_ret
      exact ⟨rfl, unhide HB⟩
  · rw [if_neg k1]
    by_cases k2 : k = 2
    · subst k2
      rw [if_pos rfl]
      by_cases n0 : 0 ≤ n
      · by_cases n1 : n ≤ 65535
        · rw [decide_eq_true (show 0 ≤ n ∧ n ≤ 65535 from ⟨n0, n1⟩), Bool.true_and]
          cases hs : t.toList.isEmpty with
          | false =>
            go_enter Try.func38, Try.ntmps38
            go_wp2
            go_ret
            exact ⟨rfl, unhide HB⟩
          | true =>
            go_enter Try.func38, Try.ntmps38
            go_wp2
            go_ret
            exact ⟨rfl, unhide HB⟩
        · rw [decide_eq_false (fun h : 0 ≤ n ∧ n ≤ 65535 => n1 h.2), Bool.false_and]
          go_enter Try.func38, Try.ntmps38
          go_wp2
          go_ret
          exact ⟨rfl, unhide HB⟩
      · rw [decide_eq_false (fun h : 0 ≤ n ∧ n ≤ 65535 => n0 h.1), Bool.false_and]
        go_enter Try.func38, Try.ntmps38
        go_wp2
        go_ret
        exact ⟨rfl, unhide HB⟩
    · rw [if_neg k2]
      by_cases k3 : k = 3
      · subst k3
        rw [if_pos rfl]
        by_cases n0 : 1 ≤ n
        · by_cases n1 : n ≤ 15
          · rw [decide_eq_true (show 1 ≤ n ∧ n ≤ 15 from ⟨n0, n1⟩), Bool.true_and]
            cases hs : t.toList.isEmpty with
            | false =>
              go_enter Try.func38, Try.ntmps38
              go_wp2
              go_ret
              exact ⟨rfl, unhide HB⟩
            | true =>
              go_enter Try.func38, Try.ntmps38
              go_wp2
              go_ret
              exact ⟨rfl, unhide HB⟩
          · rw [decide_eq_false (fun h : 1 ≤ n ∧ n ≤ 15 => n1 h.2), Bool.false_and]
            go_enter Try.func38, Try.ntmps38
            go_wp2
            go_ret
            exact ⟨rfl, unhide HB⟩
        · rw [decide_eq_false (fun h : 1 ≤ n ∧ n ≤ 15 => n0 h.1), Bool.false_and]
          go_enter Try.func38, Try.ntmps38
          go_wp2
          go_ret
          exact ⟨rfl, unhide HB⟩
      · rw [if_neg k3]
        have d1 : (k == 1) = false := by simp [k1]
        have d2 : (k == 2) = false := by simp [k2]
        have d3 : (k == 3) = false := by simp [k3]
        go_enter Try.func38, Try.ntmps38
        go_wp2
        go_ret
        exact ⟨rfl, unhide HB⟩
set_option maxRecDepth 100000 in
set_option maxHeartbeats 1000000 in
theorem rcheck_any (a0 : Option Addr) (l : List Ev) (c : Nat) (w : World) (hl : EvsAt w a0 l) (hm : l.length ≤ 100000) :
    Calls Try.prog 15 #[.slice a0 l.length c] w fun e w' => e = .returned (.bool (chkB l)) ∧ Below w.heap.size w w' := by
  have HL := hide hl
  have HC := hide rmay_any
  obtain ⟨r, hr⟩ : ∃ r, r = chkB l := ⟨_, rfl⟩
  rw [← hr]
  have HR := hide hr
  obtain ⟨n, hn⟩ : ∃ n, n = l.length := ⟨_, rfl⟩
  rw [← hn]
  have HN := hide hn
  rw [← hn] at hm
  clear hl hn hr
  go_enter Try.func15, Try.ntmps15
  go_wp2_with fail
  go_loopw [3] (fun v wr => Below w.heap.size w wr ∧ ∃ k : Nat, k ≤ n ∧ v = .int .i64 k ∧ (l.take k).all mayB = true) (fun v _ => n - (intOf v).toNat)
  case atStart => exact ⟨Below.refl _ _, 0, by omega, rfl, rfl⟩
  case round =>
    obtain ⟨hB, k, hk, rfl, ha⟩ := hrel
    have HA := hide ha
    have HB := hide hB
    clear ha
    by_cases hlt : k < n
    · have hlt' : k < l.length := by rw [← unhide HN]; exact hlt
      obtain ⟨e, he⟩ : ∃ e, e = l[k] := ⟨_, rfl⟩
      obtain ⟨g, o, rfl, d0, d1, d2⟩ := unhide HL k e (by rw [he]; exact List.getElem?_eq_getElem hlt')
      have c0 := cell_below d0 hB
      have c1 := cell_below d1 hB
      have c2 := cell_below d2 hB
      have HE : Hid (e ∈ l ∧ l.take (k + 1) = l.take k ++ [e]) := ⟨by rw [he]; exact List.getElem_mem _, by rw [List.take_succ_eq_append_getElem hlt', he]⟩
      have q1 : (k : Int) < n := by omega
      clear he hlt' d0 d1 d2 hB
      obtain ⟨ek, en, et⟩ := e
      dsimp only at c0 c1 c2
      have hc := hide (unhide HC ek en et wr)
      cases hmb : mayB ⟨ek, en, et⟩ with
      | false =>
        rw [hmb] at hc
        have e2 : r = false := by
          have : l.all mayB = false := List.all_eq_false.2 ⟨_, (unhide HE).1, by rw [hmb]; decide⟩
          rw [unhide HR]
          unfold chkB
          rw [this, Bool.and_false]
        subst e2
        clear hmb
        go_wp2_with fail
        refine (unhide hc).mono ?_
        rintro e w1 ⟨rfl, b1⟩
        have HB1 := hide ((unhide HB).trans (b1.mono (unhide HB).size))
        clear b1
        go_wp2
        go_ret
        exact ⟨rfl, unhide HB1⟩
      | true =>
        rw [hmb] at hc
        have HA2 : Hid ((l.take (k + 1)).all mayB = true) := by
          show _ = _
          rw [(unhide HE).2, List.all_append, unhide HA]
          simp [hmb]
        clear hmb
        go_wp2_with fail
        refine (unhide hc).mono ?_
        rintro e w1 ⟨rfl, b1⟩
        have HB1 := hide ((unhide HB).trans (b1.mono (unhide HB).size))
        clear b1
        go_wp2
        go_roundw
        case rel => exact ⟨unhide HB1, k + 1, by omega, by go_num, unhide HA2⟩
        case measure => simp [intOf]; omega
    · have hkn : k = n := by omega
      have q1 : ¬ (k : Int) < n := by omega
      have h1 := unhide HA
      rw [hkn, unhide HN, List.take_length] at h1
      have hr2 := unhide HR
      unfold chkB at hr2
      rw [h1, Bool.and_true, ← unhide HN] at hr2
      have HR2 := hide hr2
      clear hkn hB h1 hr2
      by_cases h5 : (n : Int) ≤ 500
      · have e2 : r = true := by rw [unhide HR2]; exact decide_eq_true (by omega)
        subst e2
        go_wp2
        go_ret
        exact ⟨rfl, unhide HB⟩
      · have e2 : r = false := by rw [unhide HR2]; exact decide_eq_false (by omega)
        subst e2
        have d5 := decide_eq_false h5
        go_wp2
        go_ret
        exact ⟨rfl, unhide HB⟩
end Go.Proofs.Ythgijdhifhnmfaa

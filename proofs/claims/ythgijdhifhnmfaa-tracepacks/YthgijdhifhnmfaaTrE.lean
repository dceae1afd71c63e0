/- trace: which events may be; Check. -/
import Derived.Test.YthgijdhifhnmfaaTrD
namespace Go.Proofs.Ythgijdhifhnmfaa
open Go.RowKit
set_option linter.unusedVariables false
attribute [local go_sem] Oper.semAt_some

def isPe (n : Int) : Bool := decide (1 ≤ n ∧ n ≤ 15)
set_option maxRecDepth 100000 in
theorem tpeer_any (n : Int) (w : World) : Calls Try.prog 51 #[.int .i64 n] w fun e w' => e = .returned (.bool (isPe n)) ∧ w = w' := by
  unfold isPe
  by_cases h1 : 1 ≤ n
  · by_cases h2 : n ≤ 15
    · rw [decide_eq_true (⟨h1, h2⟩ : 1 ≤ n ∧ n ≤ 15)]
      go_enter Try.func51, Try.ntmps51
      go_wp2
      go_ret
      exact ⟨rfl, rfl⟩
    · rw [decide_eq_false (fun h : 1 ≤ n ∧ n ≤ 15 => h2 h.2)]
      go_enter Try.func51, Try.ntmps51
      go_wp2
      go_ret
      exact ⟨rfl, rfl⟩
  · rw [decide_eq_false (fun h : 1 ≤ n ∧ n ≤ 15 => h1 h.1)]
    go_enter Try.func51, Try.ntmps51
    go_wp2
    go_ret
    exact ⟨rfl, rfl⟩
/-- which events may be -/
def mayB (e : Ev) : Bool :=
  if e.k = 1 then isPe e.n && decide (e.t.size ≤ 400) else
  if e.k = 2 then decide (0 ≤ e.n ∧ e.n ≤ 65535) && e.t.toList.isEmpty else
  if e.k = 3 then isPe e.n && e.t.toList.isEmpty else false

set_option maxRecDepth 100000 in
set_option maxHeartbeats 1000000 in
theorem mayBe_any (k n : Int) (t : ByteArray) (w : World) : Calls Try.prog 37 #[.agg #[.int .i64 k, .int .i64 n, .string t]] w fun e w' => e = .returned (.bool (mayB ⟨k, n, t⟩)) ∧ Below w.heap.size w w' := by
  have HB := hide ((Below.refl w.heap.size w).alloc (Nat.le_refl _) (.cells #[.int .i64 k, .int .i64 n, .string t] 47))
  have g1 := hide (fun w => tpeer_any n w)
  unfold mayB
  dsimp only
  by_cases k1 : k = 1
  · subst k1
    rw [if_pos rfl]
    cases hp : isPe n with
    | false =>
      rw [hp] at g1
      rw [Bool.false_and]
      clear hp
      go_enter Try.func37, Try.ntmps37
      go_wp2_with fail
      refine (unhide g1 _).mono ?_
      rintro e w1 ⟨rfl, rfl⟩
      go_wp2
      go_ret
      exact ⟨rfl, unhide HB⟩
    | true =>
      rw [hp] at g1
      rw [Bool.true_and]
      clear hp
      by_cases hs : (t.size : Int) ≤ 400
      · rw [decide_eq_true (show t.size ≤ 400 by omega)]
        go_enter Try.func37, Try.ntmps37
        go_wp2_with fail
        refine (unhide g1 _).mono ?_
        rintro e w1 ⟨rfl, rfl⟩
        go_wp2
        go_ret
        exact ⟨rfl, unhide HB⟩
      · rw [decide_eq_false (show ¬ t.size ≤ 400 by omega)]
        have ds : decide ((t.size : Int) ≤ 400) = false := decide_eq_false hs
        go_enter Try.func37, Try.ntmps37
        go_wp2_with fail
        refine (unhide g1 _).mono ?_
        rintro e w1 ⟨rfl, rfl⟩
        go_wp2
        go_ret
        exact ⟨rfl, unhide HB⟩
  · rw [if_neg k1]
    by_cases k2 : k = 2
    · subst k2
      rw [if_pos rfl]
      by_cases n0 : 0 ≤ n
      · by_cases n1 : n ≤ 65535
        · rw [decide_eq_true (show 0 ≤ n ∧ n ≤ 65535 from ⟨n0, n1⟩), Bool.true_and]
          cases hs : t.toList.isEmpty with
          | false =>
            go_enter Try.func37, Try.ntmps37
            go_wp2
            go_ret
            exact ⟨rfl, unhide HB⟩
          | true =>
            go_enter Try.func37, Try.ntmps37
            go_wp2
            go_ret
            exact ⟨rfl, unhide HB⟩
        · rw [decide_eq_false (fun h : 0 ≤ n ∧ n ≤ 65535 => n1 h.2), Bool.false_and]
          go_enter Try.func37, Try.ntmps37
          go_wp2
          go_ret
          exact ⟨rfl, unhide HB⟩
      · rw [decide_eq_false (fun h : 0 ≤ n ∧ n ≤ 65535 => n0 h.1), Bool.false_and]
        go_enter Try.func37, Try.ntmps37
        go_wp2
        go_ret
        exact ⟨rfl, unhide HB⟩
    · rw [if_neg k2]
      by_cases k3 : k = 3
      · subst k3
        rw [if_pos rfl]
        cases hp : isPe n with
        | false =>
          rw [hp] at g1
          rw [Bool.false_and]
          clear hp
          go_enter Try.func37, Try.ntmps37
          go_wp2_with fail
          refine (unhide g1 _).mono ?_
          rintro e w1 ⟨rfl, rfl⟩
          go_wp2
          go_ret
          exact ⟨rfl, unhide HB⟩
        | true =>
          rw [hp] at g1
          rw [Bool.true_and]
          clear hp
          cases hs : t.toList.isEmpty with
          | false =>
            go_enter Try.func37, Try.ntmps37
            go_wp2_with fail
            refine (unhide g1 _).mono ?_
            rintro e w1 ⟨rfl, rfl⟩
            go_wp2
            go_ret
            exact ⟨rfl, unhide HB⟩
          | true =>
            go_enter Try.func37, Try.ntmps37
            go_wp2_with fail
            refine (unhide g1 _).mono ?_
            rintro e w1 ⟨rfl, rfl⟩
            go_wp2
            go_ret
            exact ⟨rfl, unhide HB⟩
      · rw [if_neg k3]
        have d1 : (k == 1) = false := by simp [k1]
        have d2 : (k == 2) = false := by simp [k2]
        have d3 : (k == 3) = false := by simp [k3]
        go_enter Try.func37, Try.ntmps37
        go_wp2
        go_ret
        exact ⟨rfl, unhide HB⟩
set_option maxRecDepth 100000 in
set_option maxHeartbeats 1000000 in
theorem check1_any (k n : Int) (t : ByteArray) (w : World) : Calls Try.prog 36 #[.agg #[.int .i64 k, .int .i64 n, .string t]] w fun e w' => e = .returned (.bool (!mayB ⟨k, n, t⟩)) ∧ Below w.heap.size w w' := by
  have HB := hide ((Below.refl w.heap.size w).alloc (Nat.le_refl _) (.cells #[.int .i64 k, .int .i64 n, .string t] 47))
  have g1 := hide (fun w => mayBe_any k n t w)
  generalize mayB ⟨k, n, t⟩ = b at *
  go_enter Try.func36, Try.ntmps36
  go_wp2_with fail
  refine (unhide g1 _).mono ?_
  rintro e w1 ⟨rfl, b1⟩
  have HB1 := hide ((unhide HB).trans (b1.mono (unhide HB).size))
  clear b1
  cases b with
  | false =>
    go_wp2
    go_ret
    exact ⟨rfl, unhide HB1⟩
  | true =>
    go_wp2
    go_ret
    exact ⟨rfl, unhide HB1⟩
set_option maxRecDepth 100000 in
set_option maxHeartbeats 1000000 in
theorem tindex_any (a0 : Option Addr) (l : List Ev) (c : Nat) (w : World) (hl : EvsAt w a0 l) (hm : l.length ≤ 100000) :
    Calls Try.prog 50 #[.slice a0 l.length c, .func (.func 36) #[] #[]] w fun e w' => ∃ i : Int, e = .returned (.int .i64 i) ∧ decide (0 ≤ i) = !l.all mayB ∧ Below w.heap.size w w' := by
  have HL := hide hl
  have HC := hide check1_any
  obtain ⟨n, hn⟩ : ∃ n, n = l.length := ⟨_, rfl⟩
  rw [← hn]
  have HN := hide hn
  rw [← hn] at hm
  clear hl hn
  go_enter Try.func50, Try.ntmps50
  go_wp2_with fail
  go_loopw [8] (fun v wr => Below w.heap.size w wr ∧ ∃ k : Nat, k ≤ n ∧ v = .int .i64 k ∧ (l.take k).all mayB = true) (fun v _ => n - (intOf v).toNat)
  case atStart => exact ⟨Below.refl _ _, 0, by omega, rfl, rfl⟩
  case round =>
    obtain ⟨hB, k, hk, rfl, ha⟩ := hrel
    have HA := hide ha
    have HB := hide hB
    clear ha
    by_cases hlt : k < n
    · have hlt' : k < l.length := by rw [← unhide HN]; exact hlt
      obtain ⟨e, he⟩ : ∃ e, e = l[k] := ⟨_, rfl⟩
      obtain ⟨g, o, rfl, d0, d1, d2⟩ := unhide HL k e (by rw [he]; exact List.getElem?_eq_getElem hlt')
      have c0 := cell_below d0 hB
      have c1 := cell_below d1 hB
      have c2 := cell_below d2 hB
      have HE : Hid (e ∈ l ∧ l.take (k + 1) = l.take k ++ [e]) := ⟨by rw [he]; exact List.getElem_mem _, by rw [List.take_succ_eq_append_getElem hlt', he]⟩
      have q1 : (k : Int) < n := by omega
      clear he hlt' d0 d1 d2 hB
      obtain ⟨ek, en, et⟩ := e
      dsimp only at c0 c1 c2
      have hc := hide (unhide HC ek en et wr)
      cases hmb : mayB ⟨ek, en, et⟩ with
      | false =>
        rw [hmb] at hc
        have HR : Hid (decide (0 ≤ (k : Int)) = !l.all mayB) := by
          have : l.all mayB = false := List.all_eq_false.2 ⟨_, (unhide HE).1, by rw [hmb]; decide⟩
          show _ = _
          rw [this, decide_eq_true (by omega)]
          rfl
        clear hmb
        go_wp2_with fail
        refine (unhide hc).mono ?_
        rintro e w1 ⟨rfl, b1⟩
        have HB1 := hide ((unhide HB).trans (b1.mono (unhide HB).size))
        clear b1
        go_wp2
        go_ret
        exact ⟨_, rfl, unhide HR, unhide HB1⟩
      | true =>
        rw [hmb] at hc
        have HA2 : Hid ((l.take (k + 1)).all mayB = true) := by
          show _ = _
          rw [(unhide HE).2, List.all_append, unhide HA]
          simp [hmb]
        clear hmb
        go_wp2_with fail
        refine (unhide hc).mono ?_
        rintro e w1 ⟨rfl, b1⟩
        have HB1 := hide ((unhide HB).trans (b1.mono (unhide HB).size))
        clear b1
        go_wp2
        go_roundw
        case rel => exact ⟨unhide HB1, k + 1, by omega, by go_num, unhide HA2⟩
        case measure => simp [intOf]; omega
    · have hkn : k = n := by omega
      have q1 : ¬ (k : Int) < n := by omega
      have HR : Hid (decide (0 ≤ (-1 : Int)) = !l.all mayB) := by
        have h1 := unhide HA
        rw [hkn, unhide HN, List.take_length] at h1
        show _ = _
        rw [h1]
        rfl
      clear hkn hB
      go_wp2
      go_ret
      exact ⟨_, rfl, unhide HR, unhide HB⟩
set_option maxRecDepth 100000 in
theorem tcont_any (a0 : Option Addr) (l : List Ev) (c : Nat) (w : World) (hl : EvsAt w a0 l) (hm : l.length ≤ 100000) :
    Calls Try.prog 35 #[.slice a0 l.length c, .func (.func 36) #[] #[]] w fun e w' => e = .returned (.bool (!l.all mayB)) ∧ Below w.heap.size w w' := by
  have hi := hide (tindex_any a0 l c w hl hm)
  generalize (!l.all mayB) = b at *
  generalize l.length = n at *
  clear hl hm
  go_enter Try.func35, Try.ntmps35
  go_wp2_with fail
  refine (unhide hi).mono ?_
  rintro e w1 ⟨i, rfl, hd, b1⟩
  have HB1 := hide b1
  have HD := hide hd
  clear b1 hd
  by_cases h0 : 0 ≤ i
  · have e : b = true := by rw [← unhide HD]; exact decide_eq_true h0
    subst e
    go_wp2
    go_ret
    exact ⟨rfl, unhide HB1⟩
  · have e : b = false := by rw [← unhide HD]; exact decide_eq_false h0
    subst e
    have d0 := decide_eq_false h0
    go_wp2
    go_ret
    exact ⟨rfl, unhide HB1⟩
/-- which events are a trace -/
def chkB (l : List Ev) : Bool := decide (l.length ≤ 500) && l.all mayB
set_option maxRecDepth 100000 in
theorem tcheck_any (a0 : Option Addr) (l : List Ev) (c : Nat) (w : World) (hl : EvsAt w a0 l) (hm : l.length ≤ 100000) :
    Calls Try.prog 14 #[.slice a0 l.length c] w fun e w' => e = .returned (.bool (chkB l)) ∧ Below w.heap.size w w' := by
  have hi := hide (tcont_any a0 l c w hl hm)
  unfold chkB
  generalize l.all mayB = b at *
  generalize l.length = n at *
  clear hl
  by_cases h5 : (n : Int) ≤ 500
  · rw [decide_eq_true (show n ≤ 500 by omega), Bool.true_and]
    cases b with
    | false =>
      go_enter Try.func14, Try.ntmps14
      go_wp2_with fail
      refine (unhide hi).mono ?_
      rintro e w1 ⟨rfl, b1⟩
      have HB1 := hide b1
      clear b1
      go_wp2
      go_ret
      exact ⟨rfl, unhide HB1⟩
    | true =>
      go_enter Try.func14, Try.ntmps14
      go_wp2_with fail
      refine (unhide hi).mono ?_
      rintro e w1 ⟨rfl, b1⟩
      have HB1 := hide b1
      clear b1
      go_wp2
      go_ret
      exact ⟨rfl, unhide HB1⟩
  · rw [decide_eq_false (show ¬ n ≤ 500 by omega), Bool.false_and]
    go_enter Try.func14, Try.ntmps14
    go_wp2
    go_ret
    exact ⟨rfl, Below.refl _ _⟩
end Go.Proofs.Ythgijdhifhnmfaa

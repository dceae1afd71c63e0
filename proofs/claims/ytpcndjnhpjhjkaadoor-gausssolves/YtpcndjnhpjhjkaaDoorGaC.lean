/- gauss: isRow, May. -/
import Derived.Test.YtpcndjnhpjhjkaaDoorGaB
namespace Go.Proofs.YtpcndjnhpjhjkaaDoor
open Go.RowKit
set_option linter.unusedVariables false
attribute [local go_sem] Oper.semAt_some

/-- rising numbers from least on, below n -/
def isR (n : Int) : Int → List Int → Bool
  | _, [] => true
  | least, i :: r => if i < least then false else if n ≤ i then false else isR n (i + 1) r
set_option maxRecDepth 100000 in
set_option maxHeartbeats 1000000 in
theorem isRow_any (n : Int) (r : List Int) (a0 : Option Addr) (c : Nat) (hn : -9223372036854775808 ≤ n ∧ n ≤ 9223372036854775807) (hk : r.length ≤ maxLen) (w : World) (hI : Ints w a0 r) :
    Calls Tryd.prog 36 #[.int .i64 n, .slice a0 r.length c] w fun e w' => e = .returned (.bool (isR n 0 r)) ∧ w = w' := by
  unfold maxLen at hk
  have HI := hide hI
  generalize hE : isR n 0 r = E at *
  have HE := hide hE
  generalize hL : r.length = m at *
  have HL := hide hL
  clear hI hL hE
  go_enter Tryd.func36, Tryd.ntmps36
  go_wp2_with fail
  go_loopw [5, 10] (fun v u wr => w = wr ∧ ∃ (k : Nat) (least : Int), k ≤ m ∧ 0 ≤ least ∧ v = .int .i64 least ∧ u = .int .i64 k ∧ isR n least (r.drop k) = E) (fun _ u _ => m - (intOf u).toNat)
  case atStart => exact ⟨rfl, 0, 0, by omega, by omega, rfl, rfl, unhide HE⟩
  case round =>
    obtain ⟨rfl, k, least, hk', hl0, rfl, rfl, he⟩ := hrel
    by_cases hlt : k < m
    · have hlt' : k < r.length := by rw [unhide HL]; exact hlt
      obtain ⟨g, o, rfl, c0⟩ := unhide HI k hlt'
      rw [List.drop_eq_getElem_cons hlt'] at he
      unfold isR at he
      generalize r[k] = i at *
      have q1 : (k : Int) < m := by omega
      have HE2 := hide he
      clear he
      by_cases h1 : i < least
      · have e2 : E = false := by have := unhide HE2; rw [if_pos h1] at this; exact this.symm
        subst e2
        have d1 : decide (i < least) = true := decide_eq_true h1
        go_wp2
        go_ret
        exact ⟨rfl, rfl⟩
      · have d1 : decide (i < least) = false := decide_eq_false h1
        by_cases h2 : n ≤ i
        · have e2 : E = false := by have := unhide HE2; rw [if_neg h1, if_pos h2] at this; exact this.symm
          subst e2
          have d2 : decide (n ≤ i) = true := decide_eq_true h2
          go_wp2
          go_ret
          exact ⟨rfl, rfl⟩
        · have d2 : decide (n ≤ i) = false := decide_eq_false h2
          have e2 : Hid (isR n (i + 1) (r.drop (k + 1)) = E) := by have := unhide HE2; rw [if_neg h1, if_neg h2] at this; exact this
          have hi0 : 0 ≤ i := by omega
          have hi1 : i + 1 ≤ 9223372036854775807 := by omega
          go_wp2
          go_roundw
          case rel => exact ⟨trivial, k + 1, i + 1, by omega, by omega, by go_num, by go_num, unhide e2⟩
          case measure => simp [intOf]; omega
    · have hkm : k = m := by omega
      have e2 : E = true := by
        rw [← he, List.drop_of_length_le (by rw [unhide HL]; omega)]
        rfl
      subst e2
      have q1 : ¬ (k : Int) < m := by omega
      clear he
      go_wp2
      go_ret
      exact ⟨rfl, rfl⟩
/-- rows of integers in a row of slices -/
def RowsA (w : World) (a0 : Option Addr) (Rs : List (List Int)) : Prop := ∀ i (h : i < Rs.length), ∃ g o, a0 = some ⟨g, o, none⟩ ∧ ∃ b c, w.cell? ⟨g, o + i, none⟩ = some (.slice b Rs[i].length c) ∧ Ints w b Rs[i]
theorem RowsA.below {w w' : World} {a0 : Option Addr} {Rs : List (List Int)} (h : RowsA w a0 Rs) (hb : Below w.heap.size w w') : RowsA w' a0 Rs := fun i hi => by
  obtain ⟨g, o, h1, b, c, h2, h3⟩ := h i hi
  exact ⟨g, o, h1, b, c, cell_below h2 hb, h3.below hb⟩
theorem RowsA.take {w : World} {a0 : Option Addr} {Rs : List (List Int)} (h : RowsA w a0 Rs) (k : Nat) : RowsA w a0 (Rs.take k) := fun i hi => by
  have hi' : i < Rs.length := by rw [List.length_take] at hi; omega
  obtain ⟨g, o, h1, b, c, h2, h3⟩ := h i hi'
  have e : (Rs.take k)[i] = Rs[i] := List.getElem_take
  exact ⟨g, o, h1, b, c, by rw [e]; exact h2, by rw [e]; exact h3⟩
/-- rows that may be -/
def mayB (n : Int) (Rs : List (List Int)) : Bool := decide (0 ≤ n ∧ n ≤ 160 ∧ Rs.length ≤ 400) && Rs.all (isR n 0)
set_option maxRecDepth 100000 in
set_option maxHeartbeats 1000000 in
theorem may_any (n : Int) (Rs : List (List Int)) (a0 : Option Addr) (c : Nat) (hn : -9223372036854775808 ≤ n ∧ n ≤ 9223372036854775807) (hk : Rs.length ≤ maxLen) (hk2 : ∀ r ∈ Rs, r.length ≤ maxLen) (w : World) (hI : RowsA w a0 Rs) :
    Calls Tryd.prog 16 #[.int .i64 n, .slice a0 Rs.length c] w fun e w' => e = .returned (.bool (mayB n Rs)) ∧ w = w' := by
  have hm := hk
  unfold maxLen at hm
  by_cases h0 : 0 ≤ n ∧ n ≤ 160 ∧ Rs.length ≤ 400
  · have HI := hide hI
    have H2 := hide hk2
    have HE : Hid (mayB n Rs = Rs.all (isR n 0)) := by
      show _ = _
      unfold mayB
      rw [decide_eq_true h0, Bool.true_and]
    generalize mayB n Rs = E at *
    have HC : Hid (∀ r ∈ Rs, ∀ (b : Option Addr) (c : Nat), Ints w b r → Calls Tryd.prog 36 #[.int .i64 n, .slice b r.length c] w fun e w' => e = .returned (.bool (isR n 0 r)) ∧ w = w') := fun r h b c hb => isRow_any n _ b c hn (unhide H2 _ h) w hb
    have q1 : ¬ n < 0 := by omega
    have q2 : ¬ 160 < n := by omega
    have q3 : ¬ (400 : Int) < Rs.length := by omega
    have d1 : decide (n < 0) = false := decide_eq_false q1
    have d2 : decide (160 < n) = false := decide_eq_false q2
    have d3 : decide ((400 : Int) < Rs.length) = false := decide_eq_false q3
    generalize hL : Rs.length = m at *
    have HL := hide hL
    clear hI hL hk hk2 h0 H2
    go_enter Tryd.func16, Tryd.ntmps16
    go_wp2_with fail
    go_loopw [20] (fun v wr => w = wr ∧ ∃ k : Nat, k ≤ m ∧ v = .int .i64 k ∧ ∀ r ∈ Rs.take k, isR n 0 r = true) (fun v _ => m - (intOf v).toNat)
    case atStart => exact ⟨rfl, 0, by omega, rfl, by simp⟩
    case round =>
      obtain ⟨rfl, k, hk', rfl, ha⟩ := hrel
      by_cases hlt : k < m
      · have hlt' : k < Rs.length := by rw [unhide HL]; exact hlt
        obtain ⟨g, o, rfl, b, cc, c0, hI⟩ := unhide HI k hlt'
        have hc := hide (unhide HC _ (List.getElem_mem hlt') b cc hI)
        have q4 : (k : Int) < m := by omega
        have HA := hide ha
        cases hb : isR n 0 Rs[k] with
        | true =>
          have HA2 : Hid (∀ r ∈ Rs.take (k + 1), isR n 0 r = true) := by
            intro r hr
            rw [List.take_succ_eq_append_getElem hlt', List.mem_append] at hr
            rcases hr with hr | hr
            · exact ha r hr
            · simp at hr; rw [hr]; exact hb
          rw [hb] at hc
          generalize Rs[k].length = rl at *
          clear ha hI hb hlt'
          go_wp2_with fail
          refine (unhide hc).mono ?_
          rintro e w1 ⟨rfl, rfl⟩
          go_wp2
          go_roundw
          case rel => exact ⟨trivial, k + 1, by omega, by go_num, unhide HA2⟩
          case measure => simp [intOf]; omega
        | false =>
          have e2 : E = false := by
            rw [unhide HE]
            apply Bool.eq_false_iff.2
            intro h
            rw [List.all_eq_true] at h
            have := h _ (List.getElem_mem hlt')
            rw [hb] at this
            cases this
          subst e2
          rw [hb] at hc
          generalize Rs[k].length = rl at *
          clear ha hI hb hlt'
          go_wp2_with fail
          refine (unhide hc).mono ?_
          rintro e w1 ⟨rfl, rfl⟩
          go_wp2
          go_ret
          exact ⟨rfl, rfl⟩
      · have hkm : k = m := by omega
        subst hkm
        have e2 : E = true := by
          rw [unhide HE, List.all_eq_true]
          rw [List.take_of_length_le (by rw [unhide HL]; exact Nat.le_refl _)] at ha
          exact ha
        subst e2
        have q4 : ¬ (k : Int) < k := by omega
        clear ha
        go_wp2
        go_ret
        exact ⟨rfl, rfl⟩
  · have e : mayB n Rs = false := by unfold mayB; rw [decide_eq_false h0, Bool.false_and]
    rw [e]
    generalize Rs.length = m at *
    clear hI e hk2
    by_cases q1 : n < 0
    · have d1 : decide (n < 0) = true := decide_eq_true q1
      go_enter Tryd.func16, Tryd.ntmps16
      go_wp2
      go_ret
      exact ⟨rfl, rfl⟩
    · have d1 : decide (n < 0) = false := decide_eq_false q1
      by_cases q2 : 160 < n
      · have d2 : decide (160 < n) = true := decide_eq_true q2
        go_enter Tryd.func16, Tryd.ntmps16
        go_wp2
        go_ret
        exact ⟨rfl, rfl⟩
      · have d2 : decide (160 < n) = false := decide_eq_false q2
        have q3 : (400 : Int) < m := by omega
        have d3 : decide ((400 : Int) < m) = true := decide_eq_true q3
        go_enter Tryd.func16, Tryd.ntmps16
        go_wp2
        go_ret
        exact ⟨rfl, rfl⟩
end Go.Proofs.YtpcndjnhpjhjkaaDoor

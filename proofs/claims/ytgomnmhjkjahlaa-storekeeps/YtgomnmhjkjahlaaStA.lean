/- store: rows that may be (gauss.isRow, gauss.May), slices.Contains, slices.Clone and slices.Sort of integers. -/
import Derived.Test.YtgomnmhjkjahlaaTxtI
import Derived.Test.YtgomnmhjkjahlaaShelf
import Derived.Maps.OwnSet
import Derived.Maps.RangeWalk
namespace Go.Proofs.Ytgomnmhjkjahlaa
open Go.RowKit
set_option linter.unusedVariables false
attribute [local go_sem] Oper.semAt_some

/-- rising numbers from least on, below n -/
def isR (n : Int) : Int → List Int → Bool
  | _, [] => true
  | least, i :: r => if i < least then false else if n ≤ i then false else isR n (i + 1) r
set_option maxRecDepth 100000 in
set_option maxHeartbeats 1000000 in
theorem isRow_any (n : Int) (r : List Int) (a0 : Option Addr) (c : Nat) (hn : -9223372036854775808 ≤ n ∧ n ≤ 9223372036854775807) (hk : r.length ≤ maxLen) (w : World) (hI : Ints w a0 r) :
    Calls Try.prog 49 #[.int .i64 n, .slice a0 r.length c] w fun e w' => e = .returned (.bool (isR n 0 r)) ∧ w = w' := by
  unfold maxLen at hk
  have HI := hide hI
  generalize hE : isR n 0 r = E at *
  have HE := hide hE
  generalize hL : r.length = m at *
  have HL := hide hL
  clear hI hL hE
  go_enter Try.func49, Try.ntmps49
  go_wp2_with fail
  go_loopw [5, 10] (fun v u wr => w = wr ∧ ∃ (k : Nat) (least : Int), k ≤ m ∧ 0 ≤ least ∧ v = .int .i64 least ∧ u = .int .i64 k ∧ isR n least (r.drop k) = E) (fun _ u _ => m - (intOf u).toNat)
  case atStart => exact ⟨rfl, 0, 0, by omega, by omega, rfl, rfl, unhide HE⟩
  case round =>
    obtain ⟨rfl, k, least, hk', hl0, rfl, rfl, he⟩ := hrel
    by_cases hlt : k < m
    · have hlt' : k < r.length := by rw [unhide HL]; exact hlt
      obtain ⟨g, o, rfl, c0⟩ := unhide HI k hlt'
      rw [List.drop_eq_getElem_cons hlt'] at he
      unfold isR at he
      generalize r[k] = i at *
      have q1 : (k : Int) < m := by omega
      have HE2 := hide he
      clear he
      by_cases h1 : i < least
      · have e2 : E = false := by have := unhide HE2; rw [if_pos h1] at this; exact this.symm
        subst e2
        have d1 : decide (i < least) = true := decide_eq_true h1
        go_wp2
        go_ret
        exact ⟨rfl, rfl⟩
      · have d1 : decide (i < least) = false := decide_eq_false h1
        by_cases h2 : n ≤ i
        · have e2 : E = false := by have := unhide HE2; rw [if_neg h1, if_pos h2] at this; exact this.symm
          subst e2
          have d2 : decide (n ≤ i) = true := decide_eq_true h2
          go_wp2
          go_ret
          exact ⟨rfl, rfl⟩
        · have d2 : decide (n ≤ i) = false := decide_eq_false h2
          have e2 : Hid (isR n (i + 1) (r.drop (k + 1)) = E) := by have := unhide HE2; rw [if_neg h1, if_neg h2] at this; exact this
          have hi0 : 0 ≤ i := by omega
          have hi1 : i + 1 ≤ 9223372036854775807 := by omega
          go_wp2
          go_roundw
          case rel => exact ⟨trivial, k + 1, i + 1, by omega, by omega, by go_num, by go_num, unhide e2⟩
          case measure => simp [intOf]; omega
    · have hkm : k = m := by omega
      have e2 : E = true := by
        rw [← he, List.drop_of_length_le (by rw [unhide HL]; omega)]
        rfl
      subst e2
      have q1 : ¬ (k : Int) < m := by omega
      clear he
      go_wp2
      go_ret
      exact ⟨rfl, rfl⟩
/-- rows of integers in a row of slices -/
def RowsA (w : World) (a0 : Option Addr) (Rs : List (List Int)) : Prop := ∀ i (h : i < Rs.length), ∃ g o, a0 = some ⟨g, o, none⟩ ∧ ∃ b c, w.cell? ⟨g, o + i, none⟩ = some (.slice b Rs[i].length c) ∧ Ints w b Rs[i]
theorem RowsA.below {w w' : World} {a0 : Option Addr} {Rs : List (List Int)} (h : RowsA w a0 Rs) (hb : Below w.heap.size w w') : RowsA w' a0 Rs := fun i hi => by
  obtain ⟨g, o, h1, b, c, h2, h3⟩ := h i hi
  exact ⟨g, o, h1, b, c, cell_below h2 hb, h3.below hb⟩
theorem RowsA.take {w : World} {a0 : Option Addr} {Rs : List (List Int)} (h : RowsA w a0 Rs) (k : Nat) : RowsA w a0 (Rs.take k) := fun i hi => by
  have hi' : i < Rs.length := by rw [List.length_take] at hi; omega
  obtain ⟨g, o, h1, b, c, h2, h3⟩ := h i hi'
  have e : (Rs.take k)[i] = Rs[i] := List.getElem_take
  exact ⟨g, o, h1, b, c, by rw [e]; exact h2, by rw [e]; exact h3⟩
/-- rows that may be -/
def mayB (n : Int) (Rs : List (List Int)) : Bool := decide (0 ≤ n ∧ n ≤ 160 ∧ Rs.length ≤ 400) && Rs.all (isR n 0)
set_option maxRecDepth 100000 in
set_option maxHeartbeats 1000000 in
theorem may_any (n : Int) (Rs : List (List Int)) (a0 : Option Addr) (c : Nat) (hn : -9223372036854775808 ≤ n ∧ n ≤ 9223372036854775807) (hk : Rs.length ≤ maxLen) (hk2 : ∀ r ∈ Rs, r.length ≤ maxLen) (w : World) (hI : RowsA w a0 Rs) :
    Calls Try.prog 44 #[.int .i64 n, .slice a0 Rs.length c] w fun e w' => e = .returned (.bool (mayB n Rs)) ∧ w = w' := by
  have hm := hk
  unfold maxLen at hm
  by_cases h0 : 0 ≤ n ∧ n ≤ 160 ∧ Rs.length ≤ 400
  · have HI := hide hI
    have H2 := hide hk2
    have HE : Hid (mayB n Rs = Rs.all (isR n 0)) := by
      show _ = _
      unfold mayB
      rw [decide_eq_true h0, Bool.true_and]
    generalize mayB n Rs = E at *
    have HC : Hid (∀ r ∈ Rs, ∀ (b : Option Addr) (c : Nat), Ints w b r → Calls Try.prog 49 #[.int .i64 n, .slice b r.length c] w fun e w' => e = .returned (.bool (isR n 0 r)) ∧ w = w') := fun r h b c hb => isRow_any n _ b c hn (unhide H2 _ h) w hb
    have q1 : ¬ n < 0 := by omega
    have q2 : ¬ 160 < n := by omega
    have q3 : ¬ (400 : Int) < Rs.length := by omega
    have d1 : decide (n < 0) = false := decide_eq_false q1
    have d2 : decide (160 < n) = false := decide_eq_false q2
    have d3 : decide ((400 : Int) < Rs.length) = false := decide_eq_false q3
    generalize hL : Rs.length = m at *
    have HL := hide hL
    clear hI hL hk hk2 h0 H2
    go_enter Try.func44, Try.ntmps44
    go_wp2_with fail
    go_loopw [20] (fun v wr => w = wr ∧ ∃ k : Nat, k ≤ m ∧ v = .int .i64 k ∧ ∀ r ∈ Rs.take k, isR n 0 r = true) (fun v _ => m - (intOf v).toNat)
    case atStart => exact ⟨rfl, 0, by omega, rfl, by simp⟩
    case round =>
      obtain ⟨rfl, k, hk', rfl, ha⟩ := hrel
      by_cases hlt : k < m
      · have hlt' : k < Rs.length := by rw [unhide HL]; exact hlt
        obtain ⟨g, o, rfl, b, cc, c0, hI⟩ := unhide HI k hlt'
        have hc := hide (unhide HC _ (List.getElem_mem hlt') b cc hI)
        have q4 : (k : Int) < m := by omega
        have HA := hide ha
        cases hb : isR n 0 Rs[k] with
        | true =>
          have HA2 : Hid (∀ r ∈ Rs.take (k + 1), isR n 0 r = true) := by
            intro r hr
            rw [List.take_succ_eq_append_getElem hlt', List.mem_append] at hr
            rcases hr with hr | hr
            · exact ha r hr
            · simp at hr; rw [hr]; exact hb
          rw [hb] at hc
          generalize Rs[k].length = rl at *
          clear ha hI hb hlt'
          go_wp2_with fail
          refine (unhide hc).mono ?_
          rintro e w1 ⟨rfl, rfl⟩
          go_wp2
          go_roundw
          case rel => exact ⟨trivial, k + 1, by omega, by go_num, unhide HA2⟩
          case measure => simp [intOf]; omega
        | false =>
          have e2 : E = false := by
            rw [unhide HE]
            apply Bool.eq_false_iff.2
            intro h
            rw [List.all_eq_true] at h
            have := h _ (List.getElem_mem hlt')
            rw [hb] at this
            cases this
          subst e2
          rw [hb] at hc
          generalize Rs[k].length = rl at *
          clear ha hI hb hlt'
          go_wp2_with fail
          refine (unhide hc).mono ?_
          rintro e w1 ⟨rfl, rfl⟩
          go_wp2
          go_ret
          exact ⟨rfl, rfl⟩
      · have hkm : k = m := by omega
        subst hkm
        have e2 : E = true := by
          rw [unhide HE, List.all_eq_true]
          rw [List.take_of_length_le (by rw [unhide HL]; exact Nat.le_refl _)] at ha
          exact ha
        subst e2
        have q4 : ¬ (k : Int) < k := by omega
        clear ha
        go_wp2
        go_ret
        exact ⟨rfl, rfl⟩
  · have e : mayB n Rs = false := by unfold mayB; rw [decide_eq_false h0, Bool.false_and]
    rw [e]
    generalize Rs.length = m at *
    clear hI e hk2
    by_cases q1 : n < 0
    · have d1 : decide (n < 0) = true := decide_eq_true q1
      go_enter Try.func44, Try.ntmps44
      go_wp2
      go_ret
      exact ⟨rfl, rfl⟩
    · have d1 : decide (n < 0) = false := decide_eq_false q1
      by_cases q2 : 160 < n
      · have d2 : decide (160 < n) = true := decide_eq_true q2
        go_enter Try.func44, Try.ntmps44
        go_wp2
        go_ret
        exact ⟨rfl, rfl⟩
      · have d2 : decide (160 < n) = false := decide_eq_false q2
        have q3 : (400 : Int) < m := by omega
        have d3 : decide ((400 : Int) < m) = true := decide_eq_true q3
        go_enter Try.func44, Try.ntmps44
        go_wp2
        go_ret
        exact ⟨rfl, rfl⟩

set_option maxRecDepth 100000 in
set_option maxHeartbeats 1000000 in
theorem iindex_any (w : World) (T : List Int) (a0 : Option Addr) (c : Nat) (x : Int) (hk : T.length ≤ 100000) (hA : Ints w a0 T) :
    Calls Try.prog 48 #[.slice a0 T.length c, .int .i64 x] w fun e w' => (∃ k : Int, e = .returned (.int .i64 k) ∧ decide (0 ≤ k) = decide (x ∈ T)) ∧ w = w' := by
  have HA := hide hA
  clear hA
  generalize hk' : T.length = k at *
  have HK := hide hk'
  clear hk'
  go_enter Try.func48, Try.ntmps48
  go_wp2_with fail
  go_loopw [8] (fun v wr => ∃ i : Nat, i ≤ k ∧ v = .int .i64 i ∧ w = wr ∧ x ∉ T.take i) (fun v _ => k - (intOf v).toNat)
  case atStart => exact ⟨0, Nat.zero_le _, rfl, rfl, by simp⟩
  case round =>
    obtain ⟨i, hi, rfl, rfl, hno⟩ := hrel
    by_cases hlt : i < k
    · have hlt' : i < T.length := by rw [unhide HK]; exact hlt
      obtain ⟨g, o, rfl, c1⟩ := unhide HA i hlt'
      have q1 : (i : Int) < k := by omega
      by_cases he : T[i] = x
      · have q2 : (x == T[i]) = true := by simp [he]
        have HE : Hid (x ∈ T) := by rw [← he]; exact List.getElem_mem hlt'
        generalize T[i] = B at *
        subst he
        clear hno hlt'
        go_wp2
        go_ret
        exact ⟨⟨_, rfl, by rw [decide_eq_true (unhide HE)]; simp⟩, rfl⟩
      · have q2 : (x == T[i]) = false := by rw [beq_eq_false_iff_ne]; exact fun h => he h.symm
        have HN : Hid (x ∉ T.take (i + 1)) := by
          show ¬ _
          rw [List.take_succ_eq_append_getElem hlt', List.mem_append]
          rintro (h | h)
          · exact hno h
          · simp at h; exact he h.symm
        generalize T[i] = B at *
        clear hno hlt' he
        go_wp2
        go_roundw
        case rel => exact ⟨i + 1, by omega, by go_num, by first | rfl | trivial, unhide HN⟩
        case measure => simp [intOf]; omega
    · have q1 : ¬ (i : Int) < k := by omega
      have HN : Hid (x ∉ T) := by
        show ¬ _
        rw [List.take_of_length_le (by have := unhide HK; omega)] at hno
        exact hno
      clear hno
      go_wp2
      go_ret
      exact ⟨⟨_, rfl, by have hx := unhide HN; simpa using hx⟩, rfl⟩
set_option maxRecDepth 100000 in
theorem icontains_any (w : World) (T : List Int) (a0 : Option Addr) (c : Nat) (x : Int) (hk : T.length ≤ 100000) (hA : Ints w a0 T) :
    Calls Try.prog 41 #[.slice a0 T.length c, .int .i64 x] w fun e w' => e = .returned (.bool (decide (x ∈ T))) ∧ w = w' := by
  have hc := hide (iindex_any w T a0 c x hk hA)
  generalize decide (x ∈ T) = B at *
  generalize T.length = n at *
  clear hA
  go_enter Try.func41, Try.ntmps41
  go_wp2_with fail
  refine (unhide hc).mono ?_
  rintro e w' ⟨⟨k, rfl, hB⟩, rfl⟩
  subst hB
  go_wp2
  go_ret
  exact ⟨rfl, rfl⟩
theorem ic_vals (l : List Int) : ic l = l.map (Value.int .i64) := rfl
theorem iclone_any (l : List Int) (a0 : Option Addr) (c : Nat) (w : World) (hT : Ints w a0 l) (h2 : l.length ≤ 100000) :
    Calls Try.prog 46 #[.slice a0 l.length c] w fun e w' => ∃ v, e = .returned v ∧ OwnI w' w.heap.size v l ∧ Below w.heap.size w w' := by
  cases l with
  | nil =>
    cases a0 with
    | none =>
      refine (Try.slices_Clone_int_nil 0 c w).mono ?_
      rintro e w' ⟨rfl, rfl⟩
      exact ⟨_, rfl, World.ownsRow_nil _ _ _ _, Below.refl _ _⟩
    | some a =>
      refine (Try.slices_Clone_int_zero a c w).mono ?_
      rintro e w' ⟨v, rfl, h1, _, h3⟩
      exact ⟨v, rfl, h1, h3⟩
  | cons s r =>
    obtain ⟨g, o, rfl, _⟩ := hT 0 (by simp)
    refine (Try.slices_Clone_int g o (s :: r).length c (s :: r) w (Nat.le_refl _) (by simp at h2 ⊢; omega) (fun j hj => ?_)).mono ?_
    · obtain ⟨g', o', h, hc⟩ := hT j hj
      simp only [Option.some.injEq, Addr.mk.injEq, and_true] at h
      obtain ⟨rfl, rfl⟩ := h
      rw [hc]
      congr 2
      rw [List.getD_eq_getElem?_getD, List.getElem?_eq_getElem hj]
      rfl
    · rintro e w' ⟨v, rfl, h1, _, h3⟩
      refine ⟨v, rfl, ?_, h3⟩
      unfold OwnI
      rw [ic_vals]
      rw [List.take_of_length_le (Nat.le_refl _)] at h1
      exact h1
theorem sort_row (w : World) (g cap : Nat) (zs : List Int) (hc : ∀ k (h : k < zs.length), w.cell? ⟨g, k, none⟩ = some (.int .i64 zs[k])) (hf : ∀ k, w.frozen? ⟨g, k, none⟩ = false) (hg : g < w.heap.size) (hz : zs.length ≤ 1000) :
    Calls Try.prog 47 #[.slice (some ⟨g, 0, none⟩) zs.length cap] w fun e w' => e = .returned (.tuple #[]) ∧ (∀ k (h : k < (zs.mergeSort fun x y => decide (x ≤ y)).length), w'.cell? ⟨g, k, none⟩ = some (.int .i64 (zs.mergeSort fun x y => decide (x ≤ y))[k])) ∧ Kept w.heap.size g w w' := by
  have hH : Sort.Holds (Value.int .i64) w g 0 zs.toArray := fun j hj => by
    have hj' : j < zs.length := by simpa using hj
    refine ⟨?_, by rw [Nat.zero_add]; exact hf j⟩
    rw [Nat.zero_add, hc j hj']
    simp [hj']
  refine (Try.slices_Sort_int g 0 cap zs w hH hg (by omega)).mono ?_
  rintro e w' ⟨rfl, n, os, rfl⟩
  have hsz : (zs.mergeSort fun x y => decide (x ≤ y)).toArray.size = zs.toArray.size := by simp
  have hP := Sort.holds_putRow (Value.int .i64) (Sort.ahead w n) g 0 zs.toArray (zs.mergeSort fun x y => decide (x ≤ y)).toArray (Sort.holds_ahead _ _ _ _ _ _ hH) hsz
  have hlt : g < (Sort.putRow (Value.int .i64) (Sort.ahead w n) g 0 (zs.mergeSort fun x y => decide (x ≤ y)).toArray).heap.size := by
    simp [Sort.putRow, Sort.mapBlock, Sort.ahead]; exact hg
  refine ⟨rfl, fun k hk => ?_, ⟨rfl, rfl, rfl, ?_, fun k hk hne => ?_⟩⟩
  · rw [Sort.cell?_grow _ _ _ hlt]
    have := (hP k (by simpa using hk)).1
    rw [Nat.zero_add] at this
    rw [this]
    simp at hk
    simp [hk]
  · simp [Sort.grow, Sort.putRow, Sort.mapBlock, Sort.ahead]
  · rw [Sort.heap_grow_old _ _ (by simp [Sort.putRow, Sort.mapBlock, Sort.ahead]; exact hk)]
    simp only [Sort.putRow, Sort.mapBlock, Sort.ahead, Array.getElem?_modify]
    rw [if_neg (fun e => hne e.symm)]
/-- a row of the call's own, sorted -/
theorem sort_own (w : World) (base : Nat) (v : Value) (zs : List Int) (hO : OwnI w base v zs) (hz : zs.length ≤ 1000) :
    Calls Try.prog 47 #[v] w fun e w' => e = .returned (.tuple #[]) ∧ (∃ a0 c, v = .slice a0 zs.length c ∧ Ints w' a0 (zs.mergeSort fun x y => decide (x ≤ y))) ∧ Below base w w' := by
  have h := (show World.ownsRow _ _ _ _ _ _ _ from hO)
  have hlm : (zs.mergeSort fun x y => decide (x ≤ y)).length = zs.length := List.length_mergeSort _
  rcases h.2 with ⟨rfl, h0⟩ | ⟨g, cap, cur, rfl, hbg, hg, hnc, hcm, hcs, htake⟩
  · refine (Try.slices_Sort_int_none none 0 w).mono ?_
    rintro e w' ⟨rfl, rfl⟩
    exact ⟨rfl, ⟨none, 0, by rw [h0], fun i hi => absurd hi (by rw [hlm]; omega)⟩, Below.refl _ _⟩
  · refine (sort_row w g cap zs (fun k hk => ?_) (fun k => frozen_of_row w g k _ _ hg) (lt_of_block hg) hz).mono ?_
    · exact (World.ownsRow.cellAt h k (by omega)).trans (ic_get zs k hk)
    · rintro e w' ⟨rfl, h1, h2⟩
      exact ⟨rfl, ⟨_, _, rfl, fun i hi => ⟨g, 0, rfl, by rw [Nat.zero_add]; exact h1 i hi⟩⟩, h2.below base (by have := lt_of_block hg; omega) hbg⟩
end Go.Proofs.Ytgomnmhjkjahlaa

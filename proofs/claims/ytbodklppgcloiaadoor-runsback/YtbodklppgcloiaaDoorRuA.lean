/- The iterator of runs: what it yields. -/
import Derived.Test.YtbodklppgcloiaaDoorBtE
import Derived.Test.YtbodklppgcloiaaDoorBtC
import Derived.RangeFuncNested
import Derived.RangeFuncBound
import Derived.RangeFuncCalls
import Derived.RangeFuncLeaves
import Derived.Shelf.Abstract
import Derived.Shelf.RegionOpen
import Derived.WalkKit
import Derived.OwnWalkIn
import Derived.TacticsInMore
import Derived.LoopNIn
import Derived.LoopIn
namespace Go.Proofs.YtbodklppgcloiaaDoor
open Go.RowKit Go.Shelf
set_option linter.unusedVariables false
attribute [local go_sem] Oper.semAt_some

/-- the runs that end below k, and where the next one begins -/
def rl (s : By) : Nat → List (Nat × Nat) × Nat
  | 0 => ([], 0)
  | k + 1 => if bitAt s k then rl s k else if (rl s k).2 < k then ((rl s k).1 ++ [((rl s k).2, k)], k + 1) else ((rl s k).1, k + 1)
theorem rl_in {s : By} {k : Nat} (h : bitAt s k = true) : rl s (k + 1) = rl s k := by
  show (if bitAt s k then _ else _) = _
  rw [if_pos h]
theorem rl_out {s : By} {k : Nat} (h : bitAt s k = false) (hl : (rl s k).2 < k) : rl s (k + 1) = ((rl s k).1 ++ [((rl s k).2, k)], k + 1) := by
  show (if bitAt s k then _ else if _ then _ else _) = _
  rw [if_neg (by rw [h]; simp), if_pos hl]
theorem rl_gap {s : By} {k : Nat} (h : bitAt s k = false) (hl : ¬ (rl s k).2 < k) : rl s (k + 1) = ((rl s k).1, k + 1) := by
  show (if bitAt s k then _ else if _ then _ else _) = _
  rw [if_neg (by rw [h]; simp), if_neg hl]
theorem rl_le (s : By) (k : Nat) : (rl s k).2 ≤ k ∧ (rl s k).1.length ≤ k := by
  induction k with
  | zero => exact ⟨Nat.le_refl _, Nat.le_refl _⟩
  | succ k ih =>
    cases hv : bitAt s k
    · by_cases hl : (rl s k).2 < k
      · rw [rl_out hv hl]; simp; omega
      · rw [rl_gap hv hl]; simp; omega
    · rw [rl_in hv]; omega
/-- a span as a value -/
def spV (x : Nat × Nat) : Value := .agg #[.int .i64 (x.1 : Int), .int .i64 (x.2 : Int)]
/-- the boxes of n and of the set, as they were -/
def BoxesAt (bn b2 : Nat) (n : Nat) (s : By) (W : World) : Prop := W.heap[bn]? = some (.cells #[.int .i64 n] 3 (0, 0)) ∧ W.heap[b2]? = some (.cells #[.string (bs s)] 9 (0, 0))
def KpE (bn b2 : Nat) (W W' : World) : Prop := W'.heap[bn]? = W.heap[bn]? ∧ W'.heap[b2]? = W.heap[b2]?
theorem kpE_t {bn b2 : Nat} {A B C : World} (h : KpE bn b2 A B) (k : KpE bn b2 B C) : KpE bn b2 A C := ⟨k.1.trans h.1, k.2.trans h.2⟩
theorem kpE_b {bn b2 : Nat} {w : World} (h1 : bn < w.heap.size) (h2 : b2 < w.heap.size) (W : World) (l : Nat) (o o' : Obj) (hl : w.heap.size ≤ l) (h : W.heap[l]? = some o) (_ : o.isCells = false) (_ : o.isWalk = false) : KpE bn b2 W (W.putObj l o') :=
  ⟨World.putObj_heap_other (by omega), World.putObj_heap_other (by omega)⟩
theorem BoxesAt.kept {bn b2 n : Nat} {s : By} {W W' : World} (h : BoxesAt bn b2 n s W) (k : KpE bn b2 W W') : BoxesAt bn b2 n s W' := ⟨k.1.trans h.1, k.2.trans h.2⟩
theorem BoxesAt.below {bn b2 n : Nat} {s : By} {W W' : World} (h : BoxesAt bn b2 n s W) (k : Below W.heap.size W W') : BoxesAt bn b2 n s W' := ⟨(k.block _ (lt_of_block h.1)).trans h.1, (k.block _ (lt_of_block h.2)).trans h.2⟩
theorem BoxesAt.cells {bn b2 n : Nat} {s : By} {W : World} (h : BoxesAt bn b2 n s W) : W.cell? ⟨bn, 0, none⟩ = some (.int .i64 n) ∧ W.cell? ⟨b2, 0, none⟩ = some (.string (bs s)) := by
  constructor
  · rw [cell_of_row _ _ 0 _ _ (0, 0) h.1]; rfl
  · rw [cell_of_row _ _ 0 _ _ (0, 0) h.2]; rfl
theorem grown_of_below {w w' : World} (h : Below w.heap.size w w') : w.grownBy w' none := ⟨h.os, h.tape, h.output, h.size, fun k hk _ => h.block k hk⟩

set_option maxRecDepth 100000 in
set_option maxHeartbeats 4000000 in
theorem each1_in (m : Nat) (hm : 1 ≤ m) (l bn b2 n : Nat) (s : By) (hs : s.length ≤ 100000) (hn : n ≤ 160) (J Jx : List (Nat × Nat) → World → Prop)
    (hA : ∀ pre W W', J pre W → Below W.heap.size W W' → J pre W')
    (hY : ∀ pre (x : Nat × Nat) W, J pre W → pre.length < n + 1 → x.1 < x.2 → x.2 ≤ n → YieldAt Fence.wide (m - 1) Tryd.prog l #[spV x] W fun e W' =>
      (e = .returned (.bool true) ∧ J (pre ++ [x]) W' ∧ KpE bn b2 W W') ∨ (e = .returned (.bool false) ∧ Jx (pre ++ [x]) W'))
    (W : World) (hW : BoxesAt bn b2 n s W) (h0 : J [] W) :
    CallsIn Fence.wide m Tryd.prog 59 #[.func (.yield l) #[] #[], .pointer (some ⟨bn, 0, none⟩), .pointer (some ⟨b2, 0, none⟩)] W fun e W' => (∃ v, e = .returned v) ∧
      ((∃ xs, xs = (rl s (n + 1)).1 ∧ J xs W') ∨ (∃ pre, (∃ k, k ≤ n + 1 ∧ pre = (rl s k).1) ∧ Jx pre W')) := by
  obtain ⟨hc1, hc2⟩ := hW.cells
  refine callsIn_of_wp Tryd.func59 rfl trivial ?_ rfl
  simp only [Tryd.ntmps59, List.size_toArray, List.length_cons, List.length_nil, Nat.reduceAdd, Nat.reduceSub, Array.replicate_succ, Array.replicate_zero, List.push_toArray, List.append_toArray, List.nil_append, List.cons_append]
  gi_wp2
  gi_loopw [4, 8] (fun v i wr => ∃ k : Nat, k ≤ n + 1 ∧ i = .int .i64 k ∧ v = .int .i64 (rl s k).2 ∧ J (rl s k).1 wr ∧ BoxesAt bn b2 n s wr) (fun _ i _ => n + 1 - (intOf i).toNat)
  case atStart => exact ⟨0, Nat.zero_le _, rfl, rfl, h0, hW⟩
  case round =>
    obtain ⟨k, hk, rfl, rfl, hJ, hB⟩ := hrel
    obtain ⟨hr1, hr2⟩ := rl_le s k
    by_cases hlt : k < n + 1
    · have q1 : (k : Int) < (n : Int) + 1 := by omega
      obtain ⟨d1, d2⟩ := hB.cells
      have hcall := has_any s k wr hs
      rw [hasI_nat] at hcall
      have HCALL := hide hcall
      clear hcall hc1 hc2
      cases hv : bitAt s k with
      | true =>
        rw [hv] at HCALL
        have HR := hide (rl_in hv)
        generalize hrr : rl s k = r at *
        clear hv hrr
        gi_wp2_with (fail)
        refine ⟨trivial, ?_⟩
        refine (callsIn_wide.2 (unhide HCALL)).mono ?_
        rintro e w2 ⟨rfl, bb⟩
        have hJ2 := hide (hA _ _ _ hJ bb)
        have hB2 := hide (hB.below bb)
        clear bb hJ hB d1 d2
        gi_wp2
        go_roundw
        case rel => exact ⟨k + 1, by omega, by go_num, by rw [unhide HR], by rw [unhide HR]; exact unhide hJ2, unhide hB2⟩
        case measure => simp [intOf]; omega
      | false =>
        rw [hv] at HCALL
        by_cases hl : (rl s k).2 < k
        · have HR := hide (rl_out hv hl)
          generalize hrr : rl s k = r at *
          obtain ⟨L, lo⟩ := r
          simp only at hl hr1 hr2
          have hl' : (lo : Int) < k := by omega
          clear hv hrr
          gi_wp2_with (fail)
          refine ⟨trivial, ?_⟩
          refine (callsIn_wide.2 (unhide HCALL)).mono ?_
          rintro e w2 ⟨rfl, bb⟩
          have hJ2 := hA _ _ _ hJ bb
          have hB2 := hide (hB.below bb)
          obtain ⟨fn, tmps, assign, body, hy, hR⟩ := hY L (lo, k) w2 hJ2 (by omega) hl (by show k ≤ n; omega)
          unfold spV at hy
          dsimp only at hy
          clear bb hJ hB d1 d2 hJ2
          gi_wp2
          refine hR.mono ?_
          rintro e W3 (⟨rfl, hJ3, hk3⟩ | ⟨rfl, hJx3⟩)
          · have hB3 := hide ((unhide hB2).kept hk3)
            have hJ3' := hide hJ3
            clear hk3 hJ3 hR hy hB2
            gi_wp2
            go_roundw
            case rel => exact ⟨k + 1, by omega, by go_num, by rw [unhide HR]; go_num, by rw [unhide HR]; exact unhide hJ3', unhide hB3⟩
            case measure => simp [intOf]; omega
          · have hJ3' := hide hJx3
            clear hJx3 hR hy hB2
            gi_wp2
            refine bodyPost_ret (results_none rfl _ _ _) rfl ?_
            exact ⟨⟨_, rfl⟩, .inr ⟨_, ⟨k + 1, by omega, by rw [unhide HR]⟩, unhide hJ3'⟩⟩
        · have HR := hide (rl_gap hv hl)
          generalize hrr : rl s k = r at *
          obtain ⟨L, lo⟩ := r
          simp only at hl hr1 hr2
          have hl' : ¬ (lo : Int) < k := by omega
          clear hv hrr
          gi_wp2_with (fail)
          refine ⟨trivial, ?_⟩
          refine (callsIn_wide.2 (unhide HCALL)).mono ?_
          rintro e w2 ⟨rfl, bb⟩
          have hJ2 := hide (hA _ _ _ hJ bb)
          have hB2 := hide (hB.below bb)
          clear bb hJ hB d1 d2
          gi_wp2
          refine ⟨fun _ h => (by cases h), ?_⟩
          gi_wp2
          go_roundw
          case rel => exact ⟨k + 1, by omega, by go_num, by rw [unhide HR]; go_num, by rw [unhide HR]; exact unhide hJ2, unhide hB2⟩
          case measure => simp [intOf]; omega
    · have q1 : ¬ (k : Int) < (n : Int) + 1 := by omega
      have hke : k = n + 1 := by omega
      clear hc1 hc2
      have HK := hide hke
      have HJ := hide hJ
      generalize hrr : (rl s k).2 = lo at *
      clear hke hJ
      gi_wp2
      go_end0
      exact ⟨⟨_, rfl⟩, .inl (by rw [← unhide HK]; exact unhide HJ)⟩

theorem rl_pre (s : By) {a b : Nat} (h : a ≤ b) : (rl s a).1 <+: (rl s b).1 := by
  induction b with
  | zero => have : a = 0 := by omega
            subst this; exact List.prefix_refl _
  | succ b ih =>
    rcases Nat.lt_or_ge b a with h' | h'
    · have : a = b + 1 := by omega
      subst this; exact List.prefix_refl _
    · refine (ih h').trans ?_
      cases hv : bitAt s b
      · by_cases hl : (rl s b).2 < b
        · rw [rl_out hv hl]; exact List.prefix_append _ _
        · rw [rl_gap hv hl]; exact List.prefix_refl _
      · rw [rl_in hv]; exact List.prefix_refl _
/-- the runs of a set below n -/
def runsL (s : By) (n : Nat) : List (Nat × Nat) := (rl s (n + 1)).1
theorem each_stops (m : Nat) (hm : 1 ≤ m) (bn b2 n : Nat) (s : By) (hs : s.length ≤ 100000) (hn : n ≤ 160) (w : World) (hW : BoxesAt bn b2 n s w) :
    SeqStopsK Fence.wide m Tryd.prog 59 #[.pointer (some ⟨bn, 0, none⟩), .pointer (some ⟨b2, 0, none⟩)] (fun x : Nat × Nat => #[spV x]) (KpE bn b2) (fun xs => xs = runsL s n) (fun pre => pre <+: runsL s n) (n + 1) w := fun l J Jx W hb hJ hJx hY h0 => by
  refine (each1_in m hm l bn b2 n s hs hn J Jx (fun pre A B hA hB => hJ pre A B none hA (grown_of_below hB) (fun r e => by cases e)) (fun pre x W h1 h2 _ _ => hY pre x W h1 h2) W ⟨(hb.block _ (lt_of_block hW.1)).trans hW.1, (hb.block _ (lt_of_block hW.2)).trans hW.2⟩ h0).mono ?_
  rintro e W' ⟨he, ⟨xs, rfl, hj⟩ | ⟨pre, ⟨k, hk, rfl⟩, hj⟩⟩
  · exact ⟨he, .inl ⟨_, rfl, hj⟩⟩
  · exact ⟨he, .inr ⟨_, rl_pre s hk, hj⟩⟩
/-- a span of numbers below n -/
def Run (n : Nat) : Type := { x : Nat × Nat // x.1 < x.2 ∧ x.2 ≤ n }
theorem each_stopsR (m : Nat) (hm : 1 ≤ m) (bn b2 n : Nat) (s : By) (hs : s.length ≤ 100000) (hn : n ≤ 160) (w : World) (hW : BoxesAt bn b2 n s w) :
    SeqStopsK Fence.wide m Tryd.prog 59 #[.pointer (some ⟨bn, 0, none⟩), .pointer (some ⟨b2, 0, none⟩)] (fun x : Run n => #[spV x.1]) (KpE bn b2) (fun xs => xs.map (fun x => x.1) = runsL s n) (fun pre => pre.map (fun x => x.1) <+: runsL s n) (n + 1) w := fun l J Jx W hb hJ hJx hY h0 => by
  refine (each1_in m hm l bn b2 n s hs hn (fun pre W => ∃ p : List (Run n), p.map (fun x => x.1) = pre ∧ J p W) (fun pre W => ∃ p : List (Run n), p.map (fun x => x.1) = pre ∧ Jx p W)
    (fun pre A B hA hB => by obtain ⟨p, h1, h2⟩ := hA; exact ⟨p, h1, hJ p A B none h2 (grown_of_below hB) (fun r e => by cases e)⟩) (fun pre x W h1 h2 h3 h4 => ?_) W ⟨(hb.block _ (lt_of_block hW.1)).trans hW.1, (hb.block _ (lt_of_block hW.2)).trans hW.2⟩ ⟨[], rfl, h0⟩).mono ?_
  · obtain ⟨p, rfl, hj⟩ := h1
    obtain ⟨fn, tmps, assign, body, hy, hR⟩ := hY p ⟨x, h3, h4⟩ W hj (by simpa using h2)
    refine ⟨fn, tmps, assign, body, hy, hR.mono ?_⟩
    rintro e W' (⟨rfl, h5, h6⟩ | ⟨rfl, h5⟩)
    · exact .inl ⟨rfl, ⟨_, by rw [List.map_append]; rfl, h5⟩, h6⟩
    · exact .inr ⟨rfl, ⟨_, by rw [List.map_append]; rfl, h5⟩⟩
  · rintro e W' ⟨he, ⟨xs, rfl, p, hp, hj⟩ | ⟨pre, ⟨k, hk, rfl⟩, p, hp, hj⟩⟩
    · exact ⟨he, .inl ⟨p, hp, hj⟩⟩
    · exact ⟨he, .inr ⟨p, by show p.map _ <+: _; rw [hp]; exact rl_pre s hk, hj⟩⟩
theorem each_any (n : Nat) (s : By) (w : World) : Calls Tryd.prog 32 #[.int .i64 n, .string (bs s)] w fun e w' => e = .returned (.func (.func 59) #[] #[.pointer (some ⟨w.heap.size, 0, none⟩), .pointer (some ⟨w.heap.size + 1, 0, none⟩)]) ∧ BoxesAt w.heap.size (w.heap.size + 1) n s w' ∧ w' = (w.alloc (.cells #[.int .i64 n] 3)).alloc (.cells #[.string (bs s)] 9) := by
  generalize hS : bs s = S at *
  have HS := hide hS
  clear hS
  go_enter Tryd.func32, Tryd.ntmps32
  go_wp2
  go_ret
  refine ⟨rfl, ?_, rfl⟩
  unfold BoxesAt
  rw [unhide HS]
  constructor
  · rw [Below.heap_alloc _ _ _ (by simp)]
    exact heap_alloc_new _ _
  · have := heap_alloc_new (w.alloc (.cells #[.int .i64 n] 3)) (.cells #[.string S] 9)
    rw [World.size_alloc] at this
    exact this
end Go.Proofs.YtbodklppgcloiaaDoor

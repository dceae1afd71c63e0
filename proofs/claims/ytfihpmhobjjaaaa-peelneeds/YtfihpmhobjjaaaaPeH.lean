/- The law's functions: Has, SameRows, Few; rows of a literal. -/
import Derived.Test.YtfihpmhobjjaaaaGaC
import Derived.Test.YtfihpmhobjjaaaaGrT
namespace Go.Proofs.Ytfihpmhobjjaaaa
open Go.RowKit
set_option linter.unusedVariables false
attribute [local go_sem] Oper.semAt_some

set_option maxRecDepth 100000 in
set_option maxHeartbeats 1000000 in
theorem ghas_any (l : List Int) (x : Int) (a0 : Option Addr) (c : Nat) (hk : l.length ≤ maxLen) (w : World) (hI : Ints w a0 l) :
    Calls Try.prog 22 #[.slice a0 l.length c, .int .i64 x] w fun e w' => e = .returned (.bool (decide (x ∈ l))) ∧ w = w' := by
  unfold maxLen at hk
  have HI := hide hI
  generalize hE : decide (x ∈ l) = E at *
  have HE := hide hE
  generalize hL : l.length = m at *
  have HL := hide hL
  clear hI hL hE
  go_enter Try.func22, Try.ntmps22
  go_wp2_with fail
  go_loopw [5] (fun v wr => w = wr ∧ ∃ k : Nat, k ≤ m ∧ v = .int .i64 k ∧ x ∉ l.take k) (fun v _ => m - (intOf v).toNat)
  case atStart => exact ⟨rfl, 0, by omega, rfl, by simp⟩
  case round =>
    obtain ⟨rfl, k, hk', rfl, ha⟩ := hrel
    by_cases hlt : k < m
    · have hlt' : k < l.length := by rw [unhide HL]; exact hlt
      obtain ⟨g, o, rfl, c0⟩ := unhide HI k hlt'
      have q1 : (k : Int) < m := by omega
      by_cases e : l[k] = x
      · have e2 : E = true := by
          rw [← unhide HE]
          exact decide_eq_true (by rw [← e]; exact List.getElem_mem hlt')
        subst e2
        have d1 : (l[k] == x) = true := by simp [e]
        generalize l[k] = y at *
        clear ha hlt'
        subst e
        go_wp2
        go_ret
        exact ⟨rfl, rfl⟩
      · have HA : Hid (x ∉ l.take (k + 1)) := by
          show ¬ _
          rw [List.take_succ_eq_append_getElem hlt', List.mem_append]
          rintro (h | h)
          · exact ha h
          · simp at h; exact e h.symm
        have d1 : (l[k] == x) = false := by simp [e]
        generalize l[k] = y at *
        clear ha hlt'
        go_wp2
        go_roundw
        case rel => exact ⟨trivial, k + 1, by omega, by go_num, unhide HA⟩
        case measure => simp [intOf]; omega
    · have hkm : k = m := by omega
      subst hkm
      have e2 : E = false := by
        rw [← unhide HE]
        rw [List.take_of_length_le (by rw [unhide HL]; exact Nat.le_refl _)] at ha
        exact decide_eq_false ha
      subst e2
      have q1 : ¬ (k : Int) < k := by omega
      clear ha
      go_wp2
      go_ret
      exact ⟨rfl, rfl⟩
set_option maxRecDepth 100000 in
set_option maxHeartbeats 1000000 in
theorem sameRows_any (Rs : List (List Int)) (a0 b0 : Option Addr) (c d : Nat) (hk : Rs.length ≤ 100000) (hk2 : ∀ r ∈ Rs, r.length ≤ 100000) (w : World) (hA : RowsA w a0 Rs) (hB : RowsA w b0 Rs) :
    Calls Try.prog 17 #[.slice a0 Rs.length c, .slice b0 Rs.length d] w fun e w' => e = .returned (.bool true) ∧ Below w.heap.size w w' := by
  have HA := hide hA
  have HB := hide hB
  have HK2 := hide hk2
  generalize hL : Rs.length = m at *
  have HL := hide hL
  clear hA hB hL hk2
  go_enter Try.func17, Try.ntmps17
  go_wp2_with fail
  go_loopw [5] (fun v wr => Below w.heap.size w wr ∧ ∃ k : Nat, k ≤ m ∧ v = .int .i64 k) (fun v _ => m - (intOf v).toNat)
  case atStart => exact ⟨Below.refl _ _, 0, by omega, rfl⟩
  case round =>
    obtain ⟨hW, k, hk', rfl⟩ := hrel
    by_cases hlt : k < m
    · have hlt' : k < Rs.length := by rw [unhide HL]; exact hlt
      obtain ⟨g, o, rfl, b, cc, c0, i0⟩ := unhide HA k hlt'
      obtain ⟨g', o', rfl, b', cc', c0', i0'⟩ := unhide HB k hlt'
      have q1 : (k : Int) < m := by omega
      have d0 := cell_below c0 hW
      have d0' := cell_below c0' hW
      have hs : Hid (∀ X : Gb wr, Calls Try.prog 16 #[.slice b Rs[k].length cc, .slice b' Rs[k].length cc'] X.w fun e w' => e = .returned (.bool true) ∧ Below X.w.heap.size X.w w') := fun X => isame_any X.w Rs[k] b b' cc cc' (unhide HK2 _ (List.getElem_mem hlt')) ((i0.below hW).below X.ok) ((i0'.below hW).below X.ok)
      have HW := hide hW
      generalize Rs[k].length = rl at *
      clear c0 c0' i0 i0' hW hlt'
      go_wp2_with fail
      have hne := gb_ne wr
      have e0 : ∀ y : Gb wr, y.w.cell? ⟨g, o + k, none⟩ = _ := fun y => gb_cell d0 y
      have e0' : ∀ y : Gb wr, y.w.cell? ⟨g', o' + k, none⟩ = _ := fun y => gb_cell d0' y
      refine wp_region_gr (fun x => Below wr.heap.size wr x) (by kernel_rfl) (by kernel_rfl) (gb_start wr) ?_
      repeat (go_big_quiet_step ((go_at_call 16; exact gb_call (unhide hs _))))
      refine wpQuiet_nil ?_
      rintro w7 ⟨⟨_, b7⟩, rfl⟩
      have B1 := hide ((unhide HW).trans (b7.mono (unhide HW).size))
      clear b7 e0 e0' hne
      go_wp2
      go_roundw
      case rel => exact ⟨unhide B1, k + 1, by omega, by go_num⟩
      case measure => simp [intOf]; omega
    · have q1 : ¬ (k : Int) < m := by omega
      have HW := hide hW
      clear hW
      go_wp2
      go_ret
      exact ⟨rfl, unhide HW⟩
/-- few rows, none long -/
def fewB (n : Int) (Rs : List (List Int)) : Bool := decide (n ≤ 60 ∧ Rs.length ≤ 40 ∧ ∀ r ∈ Rs, r.length ≤ 80)
set_option maxRecDepth 100000 in
set_option maxHeartbeats 1000000 in
theorem gfew_any (n : Int) (Rs : List (List Int)) (a0 : Option Addr) (c : Nat) (hk : Rs.length ≤ maxLen) (hk2 : ∀ r ∈ Rs, r.length ≤ maxLen) (w : World) (hI : RowsA w a0 Rs) :
    Calls Try.prog 24 #[.int .i64 n, .slice a0 Rs.length c] w fun e w' => e = .returned (.bool (fewB n Rs)) ∧ w = w' := by
  unfold maxLen at hk hk2
  by_cases h0 : n ≤ 60 ∧ Rs.length ≤ 40
  · have HI := hide hI
    have H2 := hide hk2
    have HE : Hid (fewB n Rs = decide (∀ r ∈ Rs, r.length ≤ 80)) := by
      show _ = _
      unfold fewB
      simp [h0.1, h0.2]
    generalize fewB n Rs = E at *
    have q1 : ¬ 60 < n := by omega
    have q2 : ¬ (40 : Int) < Rs.length := by omega
    have d1 : decide (60 < n) = false := decide_eq_false q1
    have d2 : decide ((40 : Int) < Rs.length) = false := decide_eq_false q2
    generalize hL : Rs.length = m at *
    have HL := hide hL
    clear hI hL hk2 h0
    go_enter Try.func24, Try.ntmps24
    go_wp2_with fail
    go_loopw [5] (fun v wr => w = wr ∧ ∃ k : Nat, k ≤ m ∧ v = .int .i64 k ∧ ∀ r ∈ Rs.take k, r.length ≤ 80) (fun v _ => m - (intOf v).toNat)
    case atStart => exact ⟨rfl, 0, by omega, rfl, by simp⟩
    case round =>
      obtain ⟨rfl, k, hk', rfl, ha⟩ := hrel
      by_cases hlt : k < m
      · have hlt' : k < Rs.length := by rw [unhide HL]; exact hlt
        obtain ⟨g, o, rfl, b, cc, c0, i0⟩ := unhide HI k hlt'
        have q4 : (k : Int) < m := by omega
        have hl2 := unhide H2 _ (List.getElem_mem hlt')
        by_cases h8 : Rs[k].length ≤ 80
        · have HA2 : Hid (∀ r ∈ Rs.take (k + 1), r.length ≤ 80) := by
            intro r hr
            rw [List.take_succ_eq_append_getElem hlt', List.mem_append] at hr
            rcases hr with hr | hr
            · exact ha r hr
            · simp at hr; rw [hr]; exact h8
          have q5 : ¬ (80 : Int) < Rs[k].length := by omega
          generalize Rs[k].length = rl at *
          clear ha i0 hlt' h8
          go_wp2
          go_roundw
          case rel => exact ⟨trivial, k + 1, by omega, by go_num, unhide HA2⟩
          case measure => simp [intOf]; omega
        · have e2 : E = false := by
            rw [unhide HE]
            exact decide_eq_false (fun h => h8 (h _ (List.getElem_mem hlt')))
          subst e2
          have q5 : (80 : Int) < Rs[k].length := by omega
          generalize Rs[k].length = rl at *
          clear ha i0 hlt' h8
          go_wp2
          go_ret
          exact ⟨rfl, rfl⟩
      · have hkm : k = m := by omega
        subst hkm
        have e2 : E = true := by
          rw [unhide HE]
          rw [List.take_of_length_le (by rw [unhide HL]; exact Nat.le_refl _)] at ha
          exact decide_eq_true ha
        subst e2
        have q4 : ¬ (k : Int) < k := by omega
        clear ha
        go_wp2
        go_ret
        exact ⟨rfl, rfl⟩
  · have e : fewB n Rs = false := by
      unfold fewB
      exact decide_eq_false (fun h => h0 ⟨h.1, h.2.1⟩)
    rw [e]
    generalize Rs.length = m at *
    clear hI e hk2
    by_cases q1 : 60 < n
    · have d1 : decide (60 < n) = true := decide_eq_true q1
      go_enter Try.func24, Try.ntmps24
      go_wp2
      go_ret
      exact ⟨rfl, rfl⟩
    · have d1 : decide (60 < n) = false := decide_eq_false q1
      have q3 : (40 : Int) < m := by omega
      have d3 : decide ((40 : Int) < m) = true := decide_eq_true q3
      go_enter Try.func24, Try.ntmps24
      go_wp2
      go_ret
      exact ⟨rfl, rfl⟩
theorem ints_blk {w : World} {g n : Nat} {l : List Int} {t : TypeId} (h : w.heap[g]? = some (.cells (ic l).toArray t (0, 0))) : Ints w (some ⟨g, 0, none⟩) l := fun i hi => by
  refine ⟨g, 0, rfl, ?_⟩
  rw [Nat.zero_add, cell_of_row _ _ _ _ _ (0, 0) h]
  simpa using ic_get l i hi
theorem lit_rows (w : World) (a b c : List Int) (t u : TypeId) : RowsA ((((w.alloc (.cells (ic a).toArray t)).alloc (.cells (ic b).toArray t)).alloc (.cells (ic c).toArray t)).alloc (.cells #[.slice (some ⟨w.heap.size, 0, none⟩) a.length a.length, .slice (some ⟨w.heap.size + 1, 0, none⟩) b.length b.length, .slice (some ⟨w.heap.size + 2, 0, none⟩) c.length c.length] u)) (some ⟨w.heap.size + 3, 0, none⟩) [a, b, c] := by
  have h3 : ((((w.alloc (.cells (ic a).toArray t)).alloc (.cells (ic b).toArray t)).alloc (.cells (ic c).toArray t)).alloc (.cells #[.slice (some ⟨w.heap.size, 0, none⟩) a.length a.length, .slice (some ⟨w.heap.size + 1, 0, none⟩) b.length b.length, .slice (some ⟨w.heap.size + 2, 0, none⟩) c.length c.length] u)).heap[w.heap.size + 3]? = some (.cells #[.slice (some ⟨w.heap.size, 0, none⟩) a.length a.length, .slice (some ⟨w.heap.size + 1, 0, none⟩) b.length b.length, .slice (some ⟨w.heap.size + 2, 0, none⟩) c.length c.length] u (0, 0)) := by
    have h := heap_alloc_new (((w.alloc (.cells (ic a).toArray t)).alloc (.cells (ic b).toArray t)).alloc (.cells (ic c).toArray t)) (.cells #[.slice (some ⟨w.heap.size, 0, none⟩) a.length a.length, .slice (some ⟨w.heap.size + 1, 0, none⟩) b.length b.length, .slice (some ⟨w.heap.size + 2, 0, none⟩) c.length c.length] u)
    rwa [show (((w.alloc (.cells (ic a).toArray t)).alloc (.cells (ic b).toArray t)).alloc (.cells (ic c).toArray t)).heap.size = w.heap.size + 3 by simp] at h
  have hA := heap3_a w (.cells (ic a).toArray t) (.cells (ic b).toArray t) (.cells (ic c).toArray t)
  have hB := heap3_b w (.cells (ic a).toArray t) (.cells (ic b).toArray t) (.cells (ic c).toArray t)
  have hC := heap3_c w (.cells (ic a).toArray t) (.cells (ic b).toArray t) (.cells (ic c).toArray t)
  generalize (((w.alloc (.cells (ic a).toArray t)).alloc (.cells (ic b).toArray t)).alloc (.cells (ic c).toArray t)) = W at *
  have key : ∀ g X, W.heap[g]? = some X → (W.alloc (.cells #[.slice (some ⟨w.heap.size, 0, none⟩) a.length a.length, .slice (some ⟨w.heap.size + 1, 0, none⟩) b.length b.length, .slice (some ⟨w.heap.size + 2, 0, none⟩) c.length c.length] u)).heap[g]? = some X := fun g X h => (Below.heap_alloc _ _ _ (lt_of_block h)).trans h
  intro i hi
  refine ⟨w.heap.size + 3, 0, rfl, ?_⟩
  have hc := cell_of_row _ _ i _ _ _ h3
  rw [Nat.zero_add, hc]
  obtain rfl | rfl | rfl : i = 0 ∨ i = 1 ∨ i = 2 := by simp at hi; omega
  · exact ⟨_, _, rfl, ints_blk (n := 0) (key _ _ hA)⟩
  · exact ⟨_, _, rfl, ints_blk (n := 0) (key _ _ hB)⟩
  · exact ⟨_, _, rfl, ints_blk (n := 0) (key _ _ hC)⟩
end Go.Proofs.Ytfihpmhobjjaaaa

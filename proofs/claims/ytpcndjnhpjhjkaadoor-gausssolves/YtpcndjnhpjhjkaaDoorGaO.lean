/- The law's functions: Has, SameRows, Few, awake. -/
import Derived.Test.YtpcndjnhpjhjkaaDoorGaN
namespace Go.Proofs.YtpcndjnhpjhjkaaDoor
open Go.RowKit
set_option linter.unusedVariables false
attribute [local go_sem] Oper.semAt_some

set_option maxRecDepth 100000 in
set_option maxHeartbeats 1000000 in
theorem ghas_any (l : List Int) (x : Int) (a0 : Option Addr) (c : Nat) (hk : l.length ≤ maxLen) (w : World) (hI : Ints w a0 l) :
    Calls Tryd.prog 25 #[.slice a0 l.length c, .int .i64 x] w fun e w' => e = .returned (.bool (decide (x ∈ l))) ∧ w = w' := by
  unfold maxLen at hk
  have HI := hide hI
  generalize hE : decide (x ∈ l) = E at *
  have HE := hide hE
  generalize hL : l.length = m at *
  have HL := hide hL
  clear hI hL hE
  go_enter Tryd.func25, Tryd.ntmps25
  go_wp2_with fail
  go_loopw [5] (fun v wr => w = wr ∧ ∃ k : Nat, k ≤ m ∧ v = .int .i64 k ∧ x ∉ l.take k) (fun v _ => m - (intOf v).toNat)
  case atStart => exact ⟨rfl, 0, by omega, rfl, by simp⟩
  case round =>
    obtain ⟨rfl, k, hk', rfl, ha⟩ := hrel
    by_cases hlt : k < m
    · have hlt' : k < l.length := by rw [unhide HL]; exact hlt
      obtain ⟨g, o, rfl, c0⟩ := unhide HI k hlt'
      have q1 : (k : Int) < m := by omega
      by_cases e : l[k] = x
      · have e2 : E = true := by
          rw [← unhide HE]
          exact decide_eq_true (by rw [← e]; exact List.getElem_mem hlt')
        subst e2
        have d1 : (l[k] == x) = true := by simp [e]
        generalize l[k] = y at *
        clear ha hlt'
        subst e
        go_wp2
        go_ret
        exact ⟨rfl, rfl⟩
      · have HA : Hid (x ∉ l.take (k + 1)) := by
          show ¬ _
          rw [List.take_succ_eq_append_getElem hlt', List.mem_append]
          rintro (h | h)
          · exact ha h
          · simp at h; exact e h.symm
        have d1 : (l[k] == x) = false := by simp [e]
        generalize l[k] = y at *
        clear ha hlt'
        go_wp2
        go_roundw
        case rel => exact ⟨trivial, k + 1, by omega, by go_num, unhide HA⟩
        case measure => simp [intOf]; omega
    · have hkm : k = m := by omega
      subst hkm
      have e2 : E = false := by
        rw [← unhide HE]
        rw [List.take_of_length_le (by rw [unhide HL]; exact Nat.le_refl _)] at ha
        exact decide_eq_false ha
      subst e2
      have q1 : ¬ (k : Int) < k := by omega
      clear ha
      go_wp2
      go_ret
      exact ⟨rfl, rfl⟩
set_option maxRecDepth 100000 in
set_option maxHeartbeats 1000000 in
theorem sameRows_any (Rs : List (List Int)) (a0 b0 : Option Addr) (c d : Nat) (hk : Rs.length ≤ 100000) (hk2 : ∀ r ∈ Rs, r.length ≤ 100000) (w : World) (hA : RowsA w a0 Rs) (hB : RowsA w b0 Rs) :
    Calls Tryd.prog 18 #[.slice a0 Rs.length c, .slice b0 Rs.length d] w fun e w' => e = .returned (.bool true) ∧ Below w.heap.size w w' := by
  have HA := hide hA
  have HB := hide hB
  have HK2 := hide hk2
  generalize hL : Rs.length = m at *
  have HL := hide hL
  clear hA hB hL hk2
  go_enter Tryd.func18, Tryd.ntmps18
  go_wp2_with fail
  go_loopw [5] (fun v wr => Below w.heap.size w wr ∧ ∃ k : Nat, k ≤ m ∧ v = .int .i64 k) (fun v _ => m - (intOf v).toNat)
  case atStart => exact ⟨Below.refl _ _, 0, by omega, rfl⟩
  case round =>
    obtain ⟨hW, k, hk', rfl⟩ := hrel
    by_cases hlt : k < m
    · have hlt' : k < Rs.length := by rw [unhide HL]; exact hlt
      obtain ⟨g, o, rfl, b, cc, c0, i0⟩ := unhide HA k hlt'
      obtain ⟨g', o', rfl, b', cc', c0', i0'⟩ := unhide HB k hlt'
      have q1 : (k : Int) < m := by omega
      have d0 := cell_below c0 hW
      have d0' := cell_below c0' hW
      have hs : Hid (∀ X : Gb wr, Calls Tryd.prog 19 #[.slice b Rs[k].length cc, .slice b' Rs[k].length cc'] X.w fun e w' => e = .returned (.bool true) ∧ Below X.w.heap.size X.w w') := fun X => isame_any X.w Rs[k] b b' cc cc' (unhide HK2 _ (List.getElem_mem hlt')) ((i0.below hW).below X.ok) ((i0'.below hW).below X.ok)
      have HW := hide hW
      generalize Rs[k].length = rl at *
      clear c0 c0' i0 i0' hW hlt'
      go_wp2_with fail
      have hne := gb_ne wr
      have e0 : ∀ y : Gb wr, y.w.cell? ⟨g, o + k, none⟩ = _ := fun y => gb_cell d0 y
      have e0' : ∀ y : Gb wr, y.w.cell? ⟨g', o' + k, none⟩ = _ := fun y => gb_cell d0' y
      refine wp_region_gr (fun x => Below wr.heap.size wr x) (by kernel_rfl) (by kernel_rfl) (gb_start wr) ?_
      repeat (go_big_quiet_step ((go_at_call 19; exact gb_call (unhide hs _))))
      refine wpQuiet_nil ?_
      rintro w7 ⟨⟨_, b7⟩, rfl⟩
      have B1 := hide ((unhide HW).trans (b7.mono (unhide HW).size))
      clear b7 e0 e0' hne
      go_wp2
      go_roundw
      case rel => exact ⟨unhide B1, k + 1, by omega, by go_num⟩
      case measure => simp [intOf]; omega
    · have q1 : ¬ (k : Int) < m := by omega
      have HW := hide hW
      clear hW
      go_wp2
      go_ret
      exact ⟨rfl, unhide HW⟩
/-- few rows, none long -/
def fewB (n : Int) (Rs : List (List Int)) : Bool := decide (n ≤ 60 ∧ Rs.length ≤ 40 ∧ ∀ r ∈ Rs, r.length ≤ 80)
set_option maxRecDepth 100000 in
set_option maxHeartbeats 1000000 in
theorem gfew_any (n : Int) (Rs : List (List Int)) (a0 : Option Addr) (c : Nat) (hk : Rs.length ≤ maxLen) (hk2 : ∀ r ∈ Rs, r.length ≤ maxLen) (w : World) (hI : RowsA w a0 Rs) :
    Calls Tryd.prog 9 #[.int .i64 n, .slice a0 Rs.length c] w fun e w' => e = .returned (.bool (fewB n Rs)) ∧ w = w' := by
  unfold maxLen at hk hk2
  by_cases h0 : n ≤ 60 ∧ Rs.length ≤ 40
  · have HI := hide hI
    have H2 := hide hk2
    have HE : Hid (fewB n Rs = decide (∀ r ∈ Rs, r.length ≤ 80)) := by
      show _ = _
      unfold fewB
      simp [h0.1, h0.2]
    generalize fewB n Rs = E at *
    have q1 : ¬ 60 < n := by omega
    have q2 : ¬ (40 : Int) < Rs.length := by omega
    have d1 : decide (60 < n) = false := decide_eq_false q1
    have d2 : decide ((40 : Int) < Rs.length) = false := decide_eq_false q2
    generalize hL : Rs.length = m at *
    have HL := hide hL
    clear hI hL hk2 h0
    go_enter Tryd.func9, Tryd.ntmps9
    go_wp2_with fail
    go_loopw [5] (fun v wr => w = wr ∧ ∃ k : Nat, k ≤ m ∧ v = .int .i64 k ∧ ∀ r ∈ Rs.take k, r.length ≤ 80) (fun v _ => m - (intOf v).toNat)
    case atStart => exact ⟨rfl, 0, by omega, rfl, by simp⟩
    case round =>
      obtain ⟨rfl, k, hk', rfl, ha⟩ := hrel
      by_cases hlt : k < m
      · have hlt' : k < Rs.length := by rw [unhide HL]; exact hlt
        obtain ⟨g, o, rfl, b, cc, c0, i0⟩ := unhide HI k hlt'
        have q4 : (k : Int) < m := by omega
        have hl2 := unhide H2 _ (List.getElem_mem hlt')
        by_cases h8 : Rs[k].length ≤ 80
        · have HA2 : Hid (∀ r ∈ Rs.take (k + 1), r.length ≤ 80) := by
            intro r hr
            rw [List.take_succ_eq_append_getElem hlt', List.mem_append] at hr
            rcases hr with hr | hr
            · exact ha r hr
            · simp at hr; rw [hr]; exact h8
          have q5 : ¬ (80 : Int) < Rs[k].length := by omega
          generalize Rs[k].length = rl at *
          clear ha i0 hlt' h8
          go_wp2
          go_roundw
          case rel => exact ⟨trivial, k + 1, by omega, by go_num, unhide HA2⟩
          case measure => simp [intOf]; omega
        · have e2 : E = false := by
            rw [unhide HE]
            exact decide_eq_false (fun h => h8 (h _ (List.getElem_mem hlt')))
          subst e2
          have q5 : (80 : Int) < Rs[k].length := by omega
          generalize Rs[k].length = rl at *
          clear ha i0 hlt' h8
          go_wp2
          go_ret
          exact ⟨rfl, rfl⟩
      · have hkm : k = m := by omega
        subst hkm
        have e2 : E = true := by
          rw [unhide HE]
          rw [List.take_of_length_le (by rw [unhide HL]; exact Nat.le_refl _)] at ha
          exact decide_eq_true ha
        subst e2
        have q4 : ¬ (k : Int) < k := by omega
        clear ha
        go_wp2
        go_ret
        exact ⟨rfl, rfl⟩
  · have e : fewB n Rs = false := by
      unfold fewB
      exact decide_eq_false (fun h => h0 ⟨h.1, h.2.1⟩)
    rw [e]
    generalize Rs.length = m at *
    clear hI e hk2
    by_cases q1 : 60 < n
    · have d1 : decide (60 < n) = true := decide_eq_true q1
      go_enter Tryd.func9, Tryd.ntmps9
      go_wp2
      go_ret
      exact ⟨rfl, rfl⟩
    · have d1 : decide (60 < n) = false := decide_eq_false q1
      have q3 : (40 : Int) < m := by omega
      have d3 : decide ((40 : Int) < m) = true := decide_eq_true q3
      go_enter Tryd.func9, Tryd.ntmps9
      go_wp2
      go_ret
      exact ⟨rfl, rfl⟩
/-! the page's example -/
theorem ex_red : redR 4 (kep (gL [[0, 1], [1, 2], [0, 2, 3]]) 4) = [[0, 2], [1, 2], [3]] := by decide +kernel
theorem ex_len : (kep (gL [[0, 1], [1, 2], [0, 2, 3]]) 4).length = 3 := by decide +kernel
theorem ex_fix : fixN (kep (gL [[0, 1], [1, 2], [0, 2, 3]]) 4) = [3] := by decide +kernel
theorem ex_rws : Rws 4 [[0, 1], [1, 2], [0, 2, 3]] [[0, 1], [1, 2], [0, 2, 3]] := ⟨rfl, by decide, by decide, by omega, by simp⟩
theorem ints_blk {w : World} {g n : Nat} {l : List Int} {t : TypeId} (h : w.heap[g]? = some (.cells (ic l).toArray t (0, 0))) : Ints w (some ⟨g, 0, none⟩) l := fun i hi => by
  refine ⟨g, 0, rfl, ?_⟩
  rw [Nat.zero_add, cell_of_row _ _ _ _ _ (0, 0) h]
  simpa using ic_get l i hi
theorem lit_rows (w : World) (a b c : List Int) (t u : TypeId) : RowsA ((((w.alloc (.cells (ic a).toArray t)).alloc (.cells (ic b).toArray t)).alloc (.cells (ic c).toArray t)).alloc (.cells #[.slice (some ⟨w.heap.size, 0, none⟩) a.length a.length, .slice (some ⟨w.heap.size + 1, 0, none⟩) b.length b.length, .slice (some ⟨w.heap.size + 2, 0, none⟩) c.length c.length] u)) (some ⟨w.heap.size + 3, 0, none⟩) [a, b, c] := by
  have h3 : ((((w.alloc (.cells (ic a).toArray t)).alloc (.cells (ic b).toArray t)).alloc (.cells (ic c).toArray t)).alloc (.cells #[.slice (some ⟨w.heap.size, 0, none⟩) a.length a.length, .slice (some ⟨w.heap.size + 1, 0, none⟩) b.length b.length, .slice (some ⟨w.heap.size + 2, 0, none⟩) c.length c.length] u)).heap[w.heap.size + 3]? = some (.cells #[.slice (some ⟨w.heap.size, 0, none⟩) a.length a.length, .slice (some ⟨w.heap.size + 1, 0, none⟩) b.length b.length, .slice (some ⟨w.heap.size + 2, 0, none⟩) c.length c.length] u (0, 0)) := by
    have h := heap_alloc_new (((w.alloc (.cells (ic a).toArray t)).alloc (.cells (ic b).toArray t)).alloc (.cells (ic c).toArray t)) (.cells #[.slice (some ⟨w.heap.size, 0, none⟩) a.length a.length, .slice (some ⟨w.heap.size + 1, 0, none⟩) b.length b.length, .slice (some ⟨w.heap.size + 2, 0, none⟩) c.length c.length] u)
    rwa [show (((w.alloc (.cells (ic a).toArray t)).alloc (.cells (ic b).toArray t)).alloc (.cells (ic c).toArray t)).heap.size = w.heap.size + 3 by simp] at h
  have hA := heap3_a w (.cells (ic a).toArray t) (.cells (ic b).toArray t) (.cells (ic c).toArray t)
  have hB := heap3_b w (.cells (ic a).toArray t) (.cells (ic b).toArray t) (.cells (ic c).toArray t)
  have hC := heap3_c w (.cells (ic a).toArray t) (.cells (ic b).toArray t) (.cells (ic c).toArray t)
  generalize (((w.alloc (.cells (ic a).toArray t)).alloc (.cells (ic b).toArray t)).alloc (.cells (ic c).toArray t)) = W at *
  have key : ∀ g X, W.heap[g]? = some X → (W.alloc (.cells #[.slice (some ⟨w.heap.size, 0, none⟩) a.length a.length, .slice (some ⟨w.heap.size + 1, 0, none⟩) b.length b.length, .slice (some ⟨w.heap.size + 2, 0, none⟩) c.length c.length] u)).heap[g]? = some X := fun g X h => (Below.heap_alloc _ _ _ (lt_of_block h)).trans h
  intro i hi
  refine ⟨w.heap.size + 3, 0, rfl, ?_⟩
  have hc := cell_of_row _ _ i _ _ _ h3
  rw [Nat.zero_add, hc]
  obtain rfl | rfl | rfl : i = 0 ∨ i = 1 ∨ i = 2 := by simp at hi; omega
  · exact ⟨_, _, rfl, ints_blk (n := 0) (key _ _ hA)⟩
  · exact ⟨_, _, rfl, ints_blk (n := 0) (key _ _ hB)⟩
  · exact ⟨_, _, rfl, ints_blk (n := 0) (key _ _ hC)⟩
set_option maxRecDepth 100000 in
set_option maxHeartbeats 1000000 in
theorem gawake_any (w : World) (hT : Tz w) :
    Calls Tryd.prog 10 #[] w fun e w' => e = .returned (.bool true) ∧ Below w.heap.size w w' := by
  have hr := lit_rows w [0, 1] [1, 2] [0, 2, 3] 3 32
  have hb : Below w.heap.size w ((((w.alloc (.cells (ic [0, 1]).toArray 3)).alloc (.cells (ic [1, 2]).toArray 3)).alloc (.cells (ic [0, 2, 3]).toArray 3)).alloc (.cells #[.slice (some ⟨w.heap.size, 0, none⟩) 2 2, .slice (some ⟨w.heap.size + 1, 0, none⟩) 2 2, .slice (some ⟨w.heap.size + 2, 0, none⟩) 3 3] 32)) := ((((Below.refl _ w).alloc (Nat.le_refl _) _).alloc (by simp) _).alloc (by simp; omega) _).alloc (by simp; omega) _
  have HR := hide hr
  have HB := hide hb
  have HRED : Hid (∀ W, Below w.heap.size w W → RowsA W (some ⟨w.heap.size + 3, 0, none⟩) [[0, 1], [1, 2], [0, 2, 3]] → Calls Tryd.prog 11 #[.int .i64 4, .slice (some ⟨w.heap.size + 3, 0, none⟩) 3 3] W fun e w' => ∃ v, e = .returned (.tuple #[v, .int .i64 0]) ∧ RowsO w' W.heap.size v [[0, 2], [1, 2], [3]] ∧ Below W.heap.size W w') := fun W h1 h2 => by
    have := reduce_yes 4 _ _ ex_rws (some ⟨w.heap.size + 3, 0, none⟩) 3 W (hT.below h1) h2
    rw [ex_red] at this
    exact this
  have HRK : Hid (∀ W, RowsA W (some ⟨w.heap.size + 3, 0, none⟩) [[0, 1], [1, 2], [0, 2, 3]] → Calls Tryd.prog 13 #[.int .i64 4, .slice (some ⟨w.heap.size + 3, 0, none⟩) 3 3] W fun e w' => e = .returned (.tuple #[.int .i64 3, .int .i64 0]) ∧ Below W.heap.size W w') := fun W h2 => by
    have := rank_yes 4 _ _ ex_rws (some ⟨w.heap.size + 3, 0, none⟩) 3 W h2
    rw [ex_len] at this
    exact this
  have HFX : Hid (∀ W, RowsA W (some ⟨w.heap.size + 3, 0, none⟩) [[0, 1], [1, 2], [0, 2, 3]] → Calls Tryd.prog 14 #[.int .i64 4, .slice (some ⟨w.heap.size + 3, 0, none⟩) 3 3] W fun e w' => ∃ v, e = .returned (.tuple #[v, .int .i64 0]) ∧ w'.ownsRow W.heap.size 3 1 v 1 (ic [3]) ∧ Below W.heap.size W w') := fun W h2 => by
    have := fixed_yes 4 _ _ ex_rws (some ⟨w.heap.size + 3, 0, none⟩) 3 W h2
    rw [ex_fix] at this
    exact this
  clear hr hb hT
  go_enter Tryd.func10, Tryd.ntmps10
  go_wp2_with fail
  refine (unhide HRED _ (unhide HB) (unhide HR)).mono ?_
  rintro e w1 ⟨v, rfl, hO1, b1⟩
  obtain ⟨la, lc', rfl, hl1⟩ := hO1.rows
  have B1 := hide ((unhide HB).trans (b1.mono (unhide HB).size))
  have HR1 := hide ((unhide HR).below b1)
  have HL1 := hide hl1
  clear hO1 b1 hl1
  go_wp2_with fail
  refine (unhide HRK _ (unhide HR1)).mono ?_
  rintro e w2 ⟨rfl, b2⟩
  have B2 := hide ((unhide B1).trans (b2.mono (unhide B1).size))
  have HR2 := hide ((unhide HR1).below b2)
  have HL2 := hide ((unhide HL1).below b2)
  clear b2
  go_wp2_with fail
  refine (unhide HFX _ (unhide HR2)).mono ?_
  rintro e w3 ⟨v, rfl, hO3, b3⟩
  obtain ⟨fa, fc, rfl, hf⟩ := ints_own (r := [3]) hO3
  have B3 := hide ((unhide B2).trans (b3.mono (unhide B2).size))
  have HL3 := hide ((unhide HL2).below b3)
  have HF3 := hide hf
  clear b3 hO3 hf
  have hb4 : Below w3.heap.size w3 ((((w3.alloc (.cells (ic [0, 2]).toArray 3)).alloc (.cells (ic [1, 2]).toArray 3)).alloc (.cells (ic [3]).toArray 3)).alloc (.cells #[.slice (some ⟨w3.heap.size, 0, none⟩) 2 2, .slice (some ⟨w3.heap.size + 1, 0, none⟩) 2 2, .slice (some ⟨w3.heap.size + 2, 0, none⟩) 1 1] 32)) := ((((Below.refl _ w3).alloc (Nat.le_refl _) _).alloc (by simp) _).alloc (by simp; omega) _).alloc (by simp; omega) _
  have B4 := hide ((unhide B3).trans (hb4.mono (unhide B3).size))
  have hsr := hide (sameRows_any [[0, 2], [1, 2], [3]] la _ lc' 3 (by simp) (by simp) _ ((unhide HL3).below hb4) (lit_rows w3 [0, 2] [1, 2] [3] 3 32))
  have HF4 := hide ((unhide HF3).below hb4)
  clear hb4
  go_wp2_with fail
  refine (unhide hsr).mono ?_
  rintro e w5 ⟨rfl, b5⟩
  have B5 := hide ((unhide B4).trans (b5.mono (unhide B4).size))
  have HF5 := hide ((unhide HF4).below b5)
  clear b5
  have hb6 : Below w5.heap.size w5 (w5.alloc (.cells (ic [3]).toArray 3)) := (Below.refl _ w5).alloc (Nat.le_refl _) _
  have B6 := hide ((unhide B5).trans (hb6.mono (unhide B5).size))
  have hsm := hide (isame_any _ [3] fa (some ⟨w5.heap.size, 0, none⟩) fc 1 (by simp) ((unhide HF5).below hb6) (ints_blk (n := 0) (heap_alloc_new _ _)))
  clear hb6
  go_wp2_with fail
  refine (unhide hsm).mono ?_
  rintro e w7 ⟨rfl, b7⟩
  have B7 := hide ((unhide B6).trans (b7.mono (unhide B6).size))
  clear b7
  go_wp2
  go_ret
  exact ⟨rfl, unhide B7⟩
end Go.Proofs.YtpcndjnhpjhjkaaDoor

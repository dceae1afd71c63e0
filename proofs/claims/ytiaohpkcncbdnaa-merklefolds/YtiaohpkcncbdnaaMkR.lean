/- The document's merkle: LeafText, KnotText, May, Top, Root; the law's few. -/
import Derived.Test.YtiaohpkcncbdnaaMkD
import Derived.Test.YtiaohpkcncbdnaaRefSum
namespace Go.Proofs.Ytiaohpkcncbdnaa
open Go.RowKit
set_option linter.unusedVariables false

theorem rsum_t (t : By) (w : World) (h : t.length ≤ 65536) :
    Calls Try.prog 14 #[.string (bs t)] w fun e w' => e = .returned (.string (bs (shaSum t))) ∧ Below w.heap.size w w' := rSum_any (bs t) w (by rw [bs_size]; exact h)
set_option maxRecDepth 100000 in
theorem rleafText_any (s : By) (w : World) (h : s.length ≤ 65000) :
    Calls Try.prog 15 #[.string (bs s)] w fun e w' => e = .returned (.string (bs (leafT s))) ∧ w = w' := by
  have hb := hide (bs_leaf s)
  have hsz : (bs s).size ≤ 65000 := by rw [bs_size]; exact h
  generalize bs s = B at *
  generalize bs (leafT s) = T at *
  have z1 : (⟨#[0]⟩ : ByteArray).size = 1 := rfl
  go_enter Try.func15, Try.ntmps15
  go_wp2
  go_ret
  exact ⟨by rw [← unhide hb]; rfl, rfl⟩
set_option maxRecDepth 100000 in
theorem rknotText_any (l r : By) (w : World) (h1 : l.length ≤ 32000) (h2 : r.length ≤ 32000) :
    Calls Try.prog 17 #[.string (bs l), .string (bs r)] w fun e w' => e = .returned (.string (bs (knotT l r))) ∧ w = w' := by
  have hb := hide (bs_knot l r)
  have hs1 : (bs l).size ≤ 32000 := by rw [bs_size]; exact h1
  have hs2 : (bs r).size ≤ 32000 := by rw [bs_size]; exact h2
  generalize bs l = A at *
  generalize bs r = B at *
  generalize bs (knotT l r) = T at *
  have z1 : (⟨#[1]⟩ : ByteArray).size = 1 := rfl
  go_enter Try.func17, Try.ntmps17
  go_wp2
  go_ret
  exact ⟨by rw [← unhide hb]; rfl, rfl⟩

set_option maxRecDepth 100000 in
set_option maxHeartbeats 1000000 in
theorem rmay_any (ss : List By) (a0 : Option Addr) (c : Nat) (w : World) (hT : Txts w a0 ss) (h2 : ss.length ≤ 100000) (h3 : ∀ s ∈ ss, s.length ≤ 100000) :
    Calls Try.prog 35 #[.slice a0 ss.length c] w fun e w' => e = .returned (.int .i64 (mayE ss)) ∧ w = w' := by
  by_cases h0 : ss.length = 0
  · have e : mayE ss = 1 := by unfold mayE; rw [if_pos h0]
    rw [e]
    have q0 : (ss.length : Int) = 0 := by omega
    clear e hT h3
    generalize ss.length = n at *
    go_enter Try.func35, Try.ntmps35
    go_wp2
    go_ret
    exact ⟨rfl, rfl⟩
  by_cases h1 : 256 < ss.length
  · have e : mayE ss = 2 := by unfold mayE; rw [if_neg h0, if_pos h1]
    rw [e]
    have q0 : ¬ (ss.length : Int) = 0 := by omega
    have q1 : (256 : Int) < ss.length := by omega
    clear e hT h3
    generalize ss.length = n at *
    go_enter Try.func35, Try.ntmps35
    go_wp2
    go_ret
    exact ⟨rfl, rfl⟩
  have HE : Hid (mayE ss = if ∀ s ∈ ss, s.length ≤ 1024 then 0 else 2) := by
    show _ = _
    unfold mayE; rw [if_neg h0, if_neg h1]
  have HT := hide hT
  have H3 := hide h3
  generalize mayE ss = E at *
  generalize hn : ss.length = n at *
  have HN := hide hn
  have q0 : ¬ (n : Int) = 0 := by omega
  have q1 : ¬ (256 : Int) < n := by omega
  clear hT h3 hn
  go_enter Try.func35, Try.ntmps35
  go_wp2_with fail
  go_loopw [3] (fun i wr => w = wr ∧ ∃ k : Nat, k ≤ n ∧ i = .int .i64 k ∧ ∀ s ∈ ss.take k, s.length ≤ 1024) (fun i _ => n - (intOf i).toNat)
  case atStart => exact ⟨rfl, 0, Nat.zero_le _, rfl, by simp⟩
  case round =>
    obtain ⟨rfl, k, hk, rfl, ha⟩ := hrel
    by_cases hlt : k < n
    · have hlt' : k < ss.length := by rw [unhide HN]; exact hlt
      obtain ⟨g, o, rfl, hc0⟩ := unhide HT k hlt'
      have q2 : (k : Int) < n := by omega
      have hB := bs_size ss[k]
      have hB2 := unhide H3 ss[k] (List.getElem_mem hlt')
      by_cases hl : ss[k].length ≤ 1024
      · have HA : Hid (∀ s ∈ ss.take (k + 1), s.length ≤ 1024) := by
          intro s hs
          rw [List.take_succ_eq_append_getElem hlt', List.mem_append] at hs
          rcases hs with hs | hs
          · exact ha s hs
          · simp at hs; rw [hs]; exact hl
        have q3 : ¬ (1024 : Int) < (bs ss[k]).size := by omega
        generalize bs ss[k] = B at *
        clear ha hB2 hB hl hlt'
        go_wp2
        go_roundw
        case rel => exact ⟨trivial, k + 1, by omega, by go_num, unhide HA⟩
        case measure => simp [intOf]; omega
      · have he : E = 2 := by rw [unhide HE, if_neg (fun h => hl (h _ (List.getElem_mem hlt')))]
        subst he
        have q3 : (1024 : Int) < (bs ss[k]).size := by omega
        generalize bs ss[k] = B at *
        clear ha hB2 hB hl hlt'
        go_wp2
        go_ret
        exact ⟨rfl, rfl⟩
    · have hkl : k = n := by omega
      subst hkl
      rw [← unhide HN, List.take_length] at ha
      have he : E = 0 := by rw [unhide HE, if_pos ha]
      subst he
      have q2 : ¬ (k : Int) < k := by omega
      clear ha
      go_wp2
      go_ret
      exact ⟨rfl, rfl⟩

/-- few texts, none long -/
def fewB (ss : List By) (m l : Nat) : Bool := decide (ss.length ≤ m ∧ ∀ s ∈ ss, s.length ≤ l)
set_option maxRecDepth 100000 in
set_option maxHeartbeats 1000000 in
theorem few_any (ss : List By) (a0 : Option Addr) (c m l : Nat) (w : World) (hT : Txts w a0 ss) (hm : m ≤ 1000) (hl : l ≤ 100000) (h2 : ss.length ≤ maxLen) (h3 : ∀ s ∈ ss, s.length ≤ maxLen) :
    Calls Try.prog 9 #[.slice a0 ss.length c, .int .i64 m, .int .i64 l] w fun e w' => e = .returned (.bool (fewB ss m l)) ∧ w = w' := by
  unfold maxLen at h2 h3
  by_cases h0 : ss.length ≤ m
  · have HT := hide hT
    have H3 := hide h3
    have HE : Hid (fewB ss m l = decide (∀ s ∈ ss, s.length ≤ l)) := by
      show _ = _
      unfold fewB
      simp [h0]
    generalize fewB ss m l = E at *
    generalize hn : ss.length = n at *
    have HN := hide hn
    have q1 : ¬ (m : Int) < n := by omega
    clear hT h3 hn
    go_enter Try.func9, Try.ntmps9
    go_wp2_with fail
    go_loopw [7] (fun i wr => w = wr ∧ ∃ k : Nat, k ≤ n ∧ i = .int .i64 k ∧ ∀ s ∈ ss.take k, s.length ≤ l) (fun i _ => n - (intOf i).toNat)
    case atStart => exact ⟨rfl, 0, Nat.zero_le _, rfl, by simp⟩
    case round =>
      obtain ⟨rfl, k, hk, rfl, ha⟩ := hrel
      by_cases hlt : k < n
      · have hlt' : k < ss.length := by rw [unhide HN]; exact hlt
        obtain ⟨g, o, rfl, hc0⟩ := unhide HT k hlt'
        have q2 : (k : Int) < n := by omega
        have hB := bs_size ss[k]
        have hB2 := unhide H3 ss[k] (List.getElem_mem hlt')
        by_cases hl' : ss[k].length ≤ l
        · have HA : Hid (∀ s ∈ ss.take (k + 1), s.length ≤ l) := by
            intro s hs
            rw [List.take_succ_eq_append_getElem hlt', List.mem_append] at hs
            rcases hs with hs | hs
            · exact ha s hs
            · simp at hs; rw [hs]; exact hl'
          have q3 : ¬ (l : Int) < (bs ss[k]).size := by omega
          generalize bs ss[k] = B at *
          clear ha hB2 hB hl' hlt'
          go_wp2
          go_roundw
          case rel => exact ⟨trivial, k + 1, by omega, by go_num, unhide HA⟩
          case measure => simp [intOf]; omega
        · have he : E = false := by rw [unhide HE]; exact decide_eq_false (fun h => hl' (h _ (List.getElem_mem hlt')))
          subst he
          have q3 : (l : Int) < (bs ss[k]).size := by omega
          generalize bs ss[k] = B at *
          clear ha hB2 hB hl' hlt'
          go_wp2
          go_ret
          exact ⟨rfl, rfl⟩
      · have hkl : k = n := by omega
        subst hkl
        rw [← unhide HN, List.take_length] at ha
        have he : E = true := by rw [unhide HE]; exact decide_eq_true ha
        subst he
        have q2 : ¬ (k : Int) < k := by omega
        clear ha
        go_wp2
        go_ret
        exact ⟨rfl, rfl⟩
  · have e : fewB ss m l = false := by unfold fewB; exact decide_eq_false (fun h => h0 h.1)
    rw [e]
    have q1 : (m : Int) < ss.length := by omega
    clear e hT h3
    generalize ss.length = n at *
    go_enter Try.func9, Try.ntmps9
    go_wp2
    go_ret
    exact ⟨rfl, rfl⟩

theorem Txts.take {w : World} {a0 : Option Addr} {T : List By} (h : Txts w a0 T) (k : Nat) : Txts w a0 (T.take k) := fun i hi => by
  have hi' : i < T.length := by rw [List.length_take] at hi; omega
  obtain ⟨g, o, h1, h2⟩ := h i hi'
  exact ⟨g, o, h1, by rw [h2, List.getElem_take]⟩

end Go.Proofs.Ytiaohpkcncbdnaa

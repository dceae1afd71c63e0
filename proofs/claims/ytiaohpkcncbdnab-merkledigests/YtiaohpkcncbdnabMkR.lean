
/- The document's merkle: LeafText, KnotText, May, Top, Root; the law's few. -/
import Derived.Test.YtiaohpkcncbdnabMkD
import Derived.Test.YtiaohpkcncbdnabRefSum
namespace Go.Proofs.Ytiaohpkcncbdnab
open Go.RowKit
set_option linter.unusedVariables false

theorem rsum_t (t : By) (w : World) (h : t.length ≤ 65536) :
    Calls Try.prog 14 #[.string (bs t)] w fun e w' => e = .returned (.string (bs (shaSum t))) ∧ Below w.heap.size w w' := rSum_any (bs t) w (by rw [bs_size]; exact h)
/-- few texts, none long -/
def fewB (ss : List By) (m l : Nat) : Bool := decide (ss.length ≤ m ∧ ∀ s ∈ ss, s.length ≤ l)
set_option maxRecDepth 100000 in
set_option maxHeartbeats 1000000 in
theorem few_any (ss : List By) (a0 : Option Addr) (c m l : Nat) (w : World) (hT : Txts w a0 ss) (hm : m ≤ 1000) (hl : l ≤ 100000) (h2 : ss.length ≤ maxLen) (h3 : ∀ s ∈ ss, s.length ≤ maxLen) :
    Calls Try.prog 6 #[.slice a0 ss.length c, .int .i64 m, .int .i64 l] w fun e w' => e = .returned (.bool (fewB ss m l)) ∧ w = w' := by
  unfold maxLen at h2 h3
  by_cases h0 : ss.length ≤ m
  · have HT := hide hT
    have H3 := hide h3
    have HE : Hid (fewB ss m l = decide (∀ s ∈ ss, s.length ≤ l)) := by
      show _ = _
      unfold fewB
      simp [h0]
    generalize fewB ss m l = E at *
    generalize hn : ss.length = n at *
    have HN := hide hn
    have q1 : ¬ (m : Int) < n := by omega
    clear hT h3 hn
    go_enter Try.func6, Try.ntmps6
    go_wp2_with fail
    go_loopw [7] (fun i wr => w = wr ∧ ∃ k : Nat, k ≤ n ∧ i = .int .i64 k ∧ ∀ s ∈ ss.take k, s.length ≤ l) (fun i _ => n - (intOf i).toNat)
    case atStart => exact ⟨rfl, 0, Nat.zero_le _, rfl, by simp⟩
    case round =>
      obtain ⟨rfl, k, hk, rfl, ha⟩ := hrel
      by_cases hlt : k < n
      · have hlt' : k < ss.length := by rw [unhide HN]; exact hlt
        obtain ⟨g, o, rfl, hc0⟩ := unhide HT k hlt'
        have q2 : (k : Int) < n := by omega
        have hB := bs_size ss[k]
        have hB2 := unhide H3 ss[k] (List.getElem_mem hlt')
        by_cases hl' : ss[k].length ≤ l
        · have HA : Hid (∀ s ∈ ss.take (k + 1), s.length ≤ l) := by
            intro s hs
            rw [List.take_succ_eq_append_getElem hlt', List.mem_append] at hs
            rcases hs with hs | hs
            · exact ha s hs
            · simp at hs; rw [hs]; exact hl'
          have q3 : ¬ (l : Int) < (bs ss[k]).size := by omega
          generalize bs ss[k] = B at *
          clear ha hB2 hB hl' hlt'
          go_wp2
          go_roundw
          case rel => exact ⟨trivial, k + 1, by omega, by go_num, unhide HA⟩
          case measure => simp [intOf]; omega
        · have he : E = false := by rw [unhide HE]; exact decide_eq_false (fun h => hl' (h _ (List.getElem_mem hlt')))
          subst he
          have q3 : (l : Int) < (bs ss[k]).size := by omega
          generalize bs ss[k] = B at *
          clear ha hB2 hB hl' hlt'
          go_wp2
          go_ret
          exact ⟨rfl, rfl⟩
      · have hkl : k = n := by omega
        subst hkl
        rw [← unhide HN, List.take_length] at ha
        have he : E = true := by rw [unhide HE]; exact decide_eq_true ha
        subst he
        have q2 : ¬ (k : Int) < k := by omega
        clear ha
        go_wp2
        go_ret
        exact ⟨rfl, rfl⟩
  · have e : fewB ss m l = false := by unfold fewB; exact decide_eq_false (fun h => h0 h.1)
    rw [e]
    have q1 : (m : Int) < ss.length := by omega
    clear e hT h3
    generalize ss.length = n at *
    go_enter Try.func6, Try.ntmps6
    go_wp2
    go_ret
    exact ⟨rfl, rfl⟩

theorem Txts.take {w : World} {a0 : Option Addr} {T : List By} (h : Txts w a0 T) (k : Nat) : Txts w a0 (T.take k) := fun i hi => by
  have hi' : i < T.length := by rw [List.length_take] at hi; omega
  obtain ⟨g, o, h1, h2⟩ := h i hi'
  exact ⟨g, o, h1, by rw [h2, List.getElem_take]⟩

end Go.Proofs.Ytiaohpkcncbdnab

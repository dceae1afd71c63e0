/- choke: few, nodes. -/
import Derived.Test.YtjndgglbapghhaaCkB
namespace Go.Proofs.Ytjndgglbapghhaa
open Go.RowKit
set_option linter.unusedVariables false
attribute [local go_sem] Oper.semAt_some

def fewB (l : List Pr) : Bool := decide (l.length ≤ 20) && l.all fun e => decide (e.hv.size ≤ 100)
set_option maxRecDepth 100000 in
set_option maxHeartbeats 1000000 in
theorem few_any (a0 : Option Addr) (l : List Pr) (c : Nat) (w : World) (hl : PrsAt w a0 l) (hm : l.length ≤ maxLen) (hz : ∀ p ∈ l, p.hv.size ≤ maxLen) :
    Calls Try.prog 7 #[.slice a0 l.length c] w fun e w' => e = .returned (.bool (fewB l)) ∧ w = w' := by
  unfold maxLen at hm hz
  have HL := hide hl
  have HZ := hide hz
  obtain ⟨r, hr⟩ : ∃ r, r = fewB l := ⟨_, rfl⟩
  rw [← hr]
  have HR := hide hr
  obtain ⟨n, hn⟩ : ∃ n, n = l.length := ⟨_, rfl⟩
  rw [← hn]
  have HN := hide hn
  rw [← hn] at hm
  clear hl hr hn hz
  by_cases hc : (20 : Int) < n
  · have e : r = false := by
      rw [unhide HR]
      unfold fewB
      rw [← unhide HN, decide_eq_false (by omega)]
      rfl
    subst e
    go_enter Try.func7, Try.ntmps7
    go_wp2
    go_ret
    exact ⟨rfl, rfl⟩
  · go_enter Try.func7, Try.ntmps7
    go_wp2_with fail
    go_loopw [3] (fun v wr => w = wr ∧ ∃ k : Nat, k ≤ n ∧ v = .int .i64 k ∧ (l.take k).all (fun e => decide (e.hv.size ≤ 100)) = true) (fun v _ => n - (intOf v).toNat)
    case atStart => exact ⟨rfl, 0, by omega, rfl, rfl⟩
    case round =>
      obtain ⟨rfl, k, hk, rfl, ha⟩ := hrel
      have HA := hide ha
      clear ha
      by_cases hlt : k < n
      · have hlt' : k < l.length := by rw [← unhide HN]; exact hlt
        obtain ⟨e, he⟩ : ∃ e, e = l[k] := ⟨_, rfl⟩
        obtain ⟨g, o, rfl, hg, hra⟩ := unhide HL k e (by rw [he]; exact List.getElem?_eq_getElem hlt')
        have HE : Hid (e ∈ l ∧ l.take (k + 1) = l.take k ++ [e]) := ⟨by rw [he]; exact List.getElem_mem _, by rw [List.take_succ_eq_append_getElem hlt', he]⟩
        have c2 : w.cell? ⟨g, o + k * 10 + 3, none⟩ = some (.string e.hv) := hra 3 _ rfl
        have hzz := unhide HZ e (unhide HE).1
        obtain ⟨t, ht⟩ : ∃ t, t = e.hv := ⟨_, rfl⟩
        rw [← ht] at c2 hzz
        have HT := hide ht
        have q1 : (k : Int) < n := by omega
        clear he ht hra hlt'
        by_cases hs : (100 : Int) < t.size
        · have e2 : r = false := by
            rw [unhide HR]
            unfold fewB
            have hx : (l.all fun e => decide (e.hv.size ≤ 100)) = false := by
              rw [List.all_eq_false]
              refine ⟨e, ?_, ?_⟩
              · exact (unhide HE).1
              · rw [← unhide HT]; simp; omega
            rw [hx, Bool.and_false]
          subst e2
          go_wp2
          go_ret
          exact ⟨rfl, rfl⟩
        · have HA2 : Hid ((l.take (k + 1)).all (fun e => decide (e.hv.size ≤ 100)) = true) := by
            show _ = _
            rw [(unhide HE).2, List.all_append, unhide HA]
            simp
            rw [← unhide HT]
            omega
          go_wp2
          go_roundw
          case rel => exact ⟨by simp, k + 1, by omega, by go_num, unhide HA2⟩
          case measure => simp [intOf]; omega
      · have hkn : k = n := by omega
        have q1 : ¬ (k : Int) < n := by omega
        have e2 : r = true := by
          have h1 := unhide HA
          rw [hkn, unhide HN, List.take_length] at h1
          rw [unhide HR]
          unfold fewB
          rw [h1, ← unhide HN, decide_eq_true (by omega)]
          rfl
        subst e2
        clear hkn
        go_wp2
        go_ret
        exact ⟨rfl, rfl⟩
end Go.Proofs.Ytjndgglbapghhaa

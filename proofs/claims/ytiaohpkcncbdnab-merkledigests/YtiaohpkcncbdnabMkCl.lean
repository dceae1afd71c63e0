
/- Contracts of merkle's foldFault, climbed, Fold, Check, Climb. -/
import Derived.Test.YtiaohpkcncbdnabMkTt
namespace Go.Proofs.Ytiaohpkcncbdnab
open Go.RowKit
set_option linter.unusedVariables false

/-- whether there is an i-th of n -/
def there (n i : Int) : Bool := decide (1 ≤ n ∧ n ≤ 256 ∧ 0 ≤ i ∧ i < n)
/-- how long its path is, or -1 -/
def depI (n i : Int) : Int := if there n i = true then ((plan n.toNat i.toNat).length : Nat) else -1
/-- why a digest can't be folded by a path -/
def foldE (n i : Int) (d : By) (path : List By) : Nat := if depI n i < 0 ∨ d.length ≠ 32 then 1 else if (path.length : Int) ≠ depI n i then 3 else if ∀ p ∈ path, p.length = 32 then 0 else 3
theorem there_of {n i : Int} (h : there n i = true) : 1 ≤ n ∧ n ≤ 256 ∧ 0 ≤ i ∧ i < n := of_decide_eq_true h
theorem depI_pos {n i : Int} (h : there n i = true) : depI n i = ((plan n.toNat i.toNat).length : Nat) := by unfold depI; rw [if_pos h]
theorem depI_neg {n i : Int} (h : there n i = false) : depI n i = -1 := by unfold depI; rw [if_neg (by rw [h]; simp)]
theorem depI_bound (n i : Int) : -1 ≤ depI n i ∧ depI n i ≤ 8 := by
  cases h : there n i with
  | true =>
    obtain ⟨h1, h2, h3, h4⟩ := there_of h
    have := plan_length n.toNat i.toNat 8 (by omega) (by omega)
    rw [depI_pos h]
    omega
  | false => rw [depI_neg h]; omega
theorem mdepth_any (n i : Int) (w : World) : Calls Try.prog 36 #[.int .i64 n, .int .i64 i] w fun e w' => e = .returned (.int .i64 (depI n i)) ∧ w = w' := by
  cases h : there n i with
  | true =>
    obtain ⟨h1, h2, h3, h4⟩ := there_of h
    rw [depI_pos h]
    have := depth_any n.toNat i.toNat w (by omega) (by omega) (by omega)
    rwa [show ((n.toNat : Nat) : Int) = n by omega, show ((i.toNat : Nat) : Int) = i by omega] at this
  | false =>
    rw [depI_neg h]
    have : ¬ (1 ≤ n ∧ n ≤ 256 ∧ 0 ≤ i ∧ i < n) := of_decide_eq_false h
    exact depth_bad n i w (by omega)
theorem foldE_ok {n i : Int} {d : By} {path : List By} (h : foldE n i d path = 0) : there n i = true ∧ d.length = 32 ∧ path.length = (plan n.toNat i.toNat).length ∧ ∀ p ∈ path, p.length = 32 := by
  unfold foldE at h
  split at h
  · cases h
  rename_i h1
  split at h
  · cases h
  rename_i h2
  split at h
  · rename_i h3
    cases ht : there n i with
    | false => rw [depI_neg ht] at h1; omega
    | true =>
      rw [depI_pos ht] at h2
      exact ⟨rfl, by omega, by omega, h3⟩
  · cases h
theorem foldE_cases (n i : Int) (d : By) (path : List By) : foldE n i d path = 0 ∨ foldE n i d path = 1 ∨ foldE n i d path = 3 := by
  unfold foldE
  split
  · exact .inr (.inl rfl)
  split
  · exact .inr (.inr rfl)
  split
  · exact .inl rfl
  · exact .inr (.inr rfl)

set_option maxRecDepth 100000 in
set_option maxHeartbeats 1000000 in
theorem foldFault_any (n i : Int) (d : By) (path : List By) (a0 : Option Addr) (c : Nat) (w : World) (hT : Txts w a0 path) (h1 : path.length ≤ 100000) (h2 : ∀ p ∈ path, p.length ≤ 100000) (h3 : d.length ≤ 100000) :
    Calls Try.prog 25 #[.int .i64 n, .int .i64 i, .string (bs d), .slice a0 path.length c] w fun e w' => e = .returned (.int .i64 (foldE n i d path)) ∧ w = w' := by
  have hdp := hide (fun w => mdepth_any n i w)
  have hdb := depI_bound n i
  have hE : foldE n i d path = if depI n i < 0 ∨ d.length ≠ 32 then 1 else if (path.length : Int) ≠ depI n i then 3 else if ∀ p ∈ path, p.length = 32 then 0 else 3 := rfl
  have hds := bs_size d
  generalize foldE n i d path = E at *
  generalize depI n i = D at *
  by_cases c1 : D < 0
  · rw [if_pos (.inl c1)] at hE
    subst hE
    clear hT h2
    have q0 : decide (D < 0) = true := decide_eq_true c1
    generalize bs d = B at *
    generalize path.length = m at *
    go_enter Try.func25, Try.ntmps25
    go_wp2_with fail
    refine (unhide hdp _).mono ?_
    rintro e w1 ⟨rfl, rfl⟩
    go_wp2
    go_ret
    exact ⟨rfl, rfl⟩
  have q0 : decide (D < 0) = false := decide_eq_false c1
  by_cases c2 : d.length = 32
  case neg =>
    rw [if_pos (.inr c2)] at hE
    subst hE
    have q1 : ((bs d).size : Int) ≠ 32 := by omega
    have q2 : (bs d).size ≠ 32 := by omega
    have q3 : (bs d).size ≤ 100000 := by omega
    clear hT h2 hds c2 h3
    generalize bs d = B at *
    generalize path.length = m at *
    go_enter Try.func25, Try.ntmps25
    go_wp2_with fail
    refine (unhide hdp _).mono ?_
    rintro e w1 ⟨rfl, rfl⟩
    go_wp2
    go_ret
    exact ⟨rfl, rfl⟩
  rw [if_neg (by omega)] at hE
  have q1 : ((bs d).size : Int) = 32 := by omega
  clear hds c2 h3
  generalize bs d = B at *
  by_cases c3 : (path.length : Int) = D
  case neg =>
    rw [if_pos c3] at hE
    subst hE
    clear hT h2
    generalize path.length = m at *
    go_enter Try.func25, Try.ntmps25
    go_wp2_with fail
    refine (unhide hdp _).mono ?_
    rintro e w1 ⟨rfl, rfl⟩
    go_wp2
    go_ret
    exact ⟨rfl, rfl⟩
  rw [if_neg (fun h => h c3)] at hE
  have HE := hide hE
  have HT := hide hT
  have H2 := hide h2
  subst c3
  generalize hm : path.length = m at *
  have HM := hide hm
  clear hE hT h2 hm
  go_enter Try.func25, Try.ntmps25
  go_wp2_with fail
  refine (unhide hdp _).mono ?_
  rintro e w1 ⟨rfl, rfl⟩
  go_wp2_with fail
  go_loopw [28] (fun v wr => w = wr ∧ ∃ k : Nat, k ≤ m ∧ v = .int .i64 k ∧ ∀ s ∈ path.take k, s.length = 32) (fun v _ => m - (intOf v).toNat)
  case atStart => exact ⟨rfl, 0, Nat.zero_le _, rfl, by simp⟩
  case round =>
    obtain ⟨rfl, k, hk, rfl, ha⟩ := hrel
    by_cases hlt : k < m
    · have hlt' : k < path.length := by rw [unhide HM]; exact hlt
      obtain ⟨g, o, rfl, hc0⟩ := unhide HT k hlt'
      have q2 : (k : Int) < m := by omega
      have hB := bs_size path[k]
      have hB2 := unhide H2 path[k] (List.getElem_mem hlt')
      by_cases hl : path[k].length = 32
      · have HA : Hid (∀ s ∈ path.take (k + 1), s.length = 32) := by
          intro s hs
          rw [List.take_succ_eq_append_getElem hlt', List.mem_append] at hs
          rcases hs with hs | hs
          · exact ha s hs
          · simp at hs; rw [hs]; exact hl
        have q3 : ((bs path[k]).size : Int) = 32 := by omega
        generalize bs path[k] = S at *
        clear ha hB2 hB hl hlt'
        go_wp2
        go_roundw
        case rel => exact ⟨trivial, k + 1, by omega, by go_num, unhide HA⟩
        case measure => simp [intOf]; omega
      · have hn : ¬ ∀ p ∈ path, p.length = 32 := fun h => hl (h _ (List.getElem_mem hlt'))
        have hE := unhide HE
        rw [if_neg hn] at hE
        have HE3 := hide hE
        have q3 : ((bs path[k]).size : Int) ≠ 32 := by omega
        have q4 : (bs path[k]).size ≠ 32 := by omega
        have q5 : (bs path[k]).size ≤ 100000 := by omega
        generalize bs path[k] = S at *
        clear ha hB2 hB hl hlt' hn hE
        go_wp2
        go_ret
        exact ⟨by rw [unhide HE3]; rfl, rfl⟩
    · have hkm : k = m := by omega
      have hall : ∀ p ∈ path, p.length = 32 := by
        have := ha
        rwa [hkm, ← unhide HM, List.take_length] at this
      have hE := unhide HE
      rw [if_pos hall] at hE
      have HE3 := hide hE
      have q2 : ¬ (k : Int) < m := by omega
      clear ha hkm hall hE
      go_wp2
      go_ret
      exact ⟨by rw [unhide HE3]; rfl, rfl⟩

end Go.Proofs.Ytiaohpkcncbdnab

/- peel's last. -/
import Derived.Test.YtfihpmhobjjaaaaPeA
namespace Go.Proofs.Ytfihpmhobjjaaaa
open Go.RowKit
set_option linter.unusedVariables false
attribute [local go_sem] Oper.semAt_some

set_option maxRecDepth 100000 in
set_option maxHeartbeats 1000000 in
theorem last1_any (i : Nat) (hi : i < 160) (b g : Nat) (S : Nat → Bool) (w : World) (hb : w.cell? ⟨b, 0, none⟩ = some (.pointer (some ⟨g, 0, none⟩))) (hM : MkAt w g S) :
    Calls Try.prog 42 #[.int .i64 (i : Int), .pointer (some ⟨b, 0, none⟩)] w fun e w' => e = .returned (.bool (!S i)) ∧ w = w' := by
  have c1 := hM.cell i hi
  have q2 : (i : Int) < 160 := by omega
  generalize S i = x at *
  clear hM
  go_enter Try.func42, Try.ntmps42
  go_wp2
  go_ret
  exact ⟨rfl, rfl⟩
set_option maxRecDepth 100000 in
set_option maxHeartbeats 1000000 in
theorem last2_any (i : Nat) (hi : i < 160) (b g : Nat) (S : Nat → Bool) (w : World) (hb : w.cell? ⟨b, 0, none⟩ = some (.pointer (some ⟨g, 0, none⟩))) (hM : MkAt w g S) :
    Calls Try.prog 44 #[.int .i64 (i : Int), .pointer (some ⟨b, 0, none⟩)] w fun e w' => e = .returned (.bool (!S i)) ∧ w = w' := by
  have c1 := hM.cell i hi
  have q2 : (i : Int) < 160 := by omega
  generalize S i = x at *
  clear hM
  go_enter Try.func44, Try.ntmps44
  go_wp2
  go_ret
  exact ⟨rfl, rfl⟩
/-- where the first one stands of which p holds; -1: nowhere -/
def idxP (ns : List Nat) (p : Nat → Bool) : Int := match ns.findIdx? p with | some k => (k : Int) | none => -1
set_option maxRecDepth 100000 in
set_option maxHeartbeats 1000000 in
theorem iindex1_any (ns : List Nat) (p : Nat → Bool) (cap : Value) (a0 : Option Addr) (c : Nat) (w : World) (hk : ns.length ≤ maxLen) (hI : Ints w a0 (zs ns))
    (hC : ∀ x ∈ ns, Calls Try.prog 42 #[.int .i64 (x : Int), cap] w fun e w' => e = .returned (.bool (p x)) ∧ w = w') :
    Calls Try.prog 41 #[.slice a0 ns.length c, .func (.func 42) #[] #[cap]] w fun e w' => e = .returned (.int .i64 (idxP ns p)) ∧ w = w' := by
  unfold maxLen at hk
  have HI := hide hI
  have HC := hide hC
  generalize hE : idxP ns p = E at *
  have HE := hide hE
  generalize hn : ns.length = n at *
  have HN := hide hn
  clear hI hE hn hC
  go_enter Try.func41, Try.ntmps41
  go_wp2_with fail
  go_loopw [8] (fun v wr => w = wr ∧ ∃ k : Nat, k ≤ n ∧ v = .int .i64 k ∧ ∀ x ∈ ns.take k, p x = false) (fun v _ => n - (intOf v).toNat)
  case atStart => exact ⟨rfl, 0, by omega, rfl, by simp⟩
  case round =>
    obtain ⟨rfl, k, hk', rfl, ha⟩ := hrel
    by_cases hlt : k < n
    · have hlt' : k < ns.length := by rw [unhide HN]; exact hlt
      obtain ⟨g, o, rfl, c0⟩ := unhide HI k (by rw [zs_length]; exact hlt')
      rw [zs_get ns k hlt'] at c0
      have hc := hide (unhide HC ns[k] (List.getElem_mem hlt'))
      have q1 : (k : Int) < n := by omega
      cases hbit : p ns[k] with
      | true =>
        have e2 : E = (k : Int) := by
          rw [← unhide HE]
          unfold idxP
          have : ns.findIdx? p = some k := by
            rw [List.findIdx?_eq_some_iff_getElem]
            refine ⟨hlt', hbit, fun j hj => ?_⟩
            rw [ha _ (List.mem_take_iff_getElem.2 ⟨j, by omega, rfl⟩)]
            simp
          rw [this]
        subst e2
        rw [hbit] at hc
        generalize ns[k] = y at *
        clear hbit ha hlt'
        go_wp2_with fail
        refine (unhide hc).mono ?_
        rintro e w1 ⟨rfl, rfl⟩
        go_wp2
        go_ret
        exact ⟨rfl, rfl⟩
      | false =>
        have HA : Hid (∀ x ∈ ns.take (k + 1), p x = false) := by
          intro x hx
          rw [List.take_succ_eq_append_getElem hlt', List.mem_append] at hx
          rcases hx with hx | hx
          · exact ha x hx
          · simp at hx; rw [hx]; exact hbit
        rw [hbit] at hc
        generalize ns[k] = y at *
        clear hbit ha hlt'
        go_wp2_with fail
        refine (unhide hc).mono ?_
        rintro e w1 ⟨rfl, rfl⟩
        go_wp2
        go_roundw
        case rel => exact ⟨trivial, k + 1, by omega, by go_num, unhide HA⟩
        case measure => simp [intOf]; omega
    · have hkn : k = n := by omega
      subst hkn
      have e2 : E = -1 := by
        rw [← unhide HE]
        unfold idxP
        have : ns.findIdx? p = none := by
          rw [List.findIdx?_eq_none_iff]
          rw [List.take_of_length_le (by rw [unhide HN]; exact Nat.le_refl _)] at ha
          exact ha
        rw [this]
      subst e2
      have q1 : ¬ (k : Int) < k := by omega
      clear ha
      go_wp2
      go_ret
      exact ⟨rfl, rfl⟩
set_option maxRecDepth 100000 in
set_option maxHeartbeats 1000000 in
theorem iindex2_any (ns : List Nat) (p : Nat → Bool) (cap : Value) (a0 : Option Addr) (c : Nat) (w : World) (hk : ns.length ≤ maxLen) (hI : Ints w a0 (zs ns))
    (hC : ∀ x ∈ ns, Calls Try.prog 44 #[.int .i64 (x : Int), cap] w fun e w' => e = .returned (.bool (p x)) ∧ w = w') :
    Calls Try.prog 41 #[.slice a0 ns.length c, .func (.func 44) #[] #[cap]] w fun e w' => e = .returned (.int .i64 (idxP ns p)) ∧ w = w' := by
  unfold maxLen at hk
  have HI := hide hI
  have HC := hide hC
  generalize hE : idxP ns p = E at *
  have HE := hide hE
  generalize hn : ns.length = n at *
  have HN := hide hn
  clear hI hE hn hC
  go_enter Try.func41, Try.ntmps41
  go_wp2_with fail
  go_loopw [8] (fun v wr => w = wr ∧ ∃ k : Nat, k ≤ n ∧ v = .int .i64 k ∧ ∀ x ∈ ns.take k, p x = false) (fun v _ => n - (intOf v).toNat)
  case atStart => exact ⟨rfl, 0, by omega, rfl, by simp⟩
  case round =>
    obtain ⟨rfl, k, hk', rfl, ha⟩ := hrel
    by_cases hlt : k < n
    · have hlt' : k < ns.length := by rw [unhide HN]; exact hlt
      obtain ⟨g, o, rfl, c0⟩ := unhide HI k (by rw [zs_length]; exact hlt')
      rw [zs_get ns k hlt'] at c0
      have hc := hide (unhide HC ns[k] (List.getElem_mem hlt'))
      have q1 : (k : Int) < n := by omega
      cases hbit : p ns[k] with
      | true =>
        have e2 : E = (k : Int) := by
          rw [← unhide HE]
          unfold idxP
          have : ns.findIdx? p = some k := by
            rw [List.findIdx?_eq_some_iff_getElem]
            refine ⟨hlt', hbit, fun j hj => ?_⟩
            rw [ha _ (List.mem_take_iff_getElem.2 ⟨j, by omega, rfl⟩)]
            simp
          rw [this]
        subst e2
        rw [hbit] at hc
        generalize ns[k] = y at *
        clear hbit ha hlt'
        go_wp2_with fail
        refine (unhide hc).mono ?_
        rintro e w1 ⟨rfl, rfl⟩
        go_wp2
        go_ret
        exact ⟨rfl, rfl⟩
      | false =>
        have HA : Hid (∀ x ∈ ns.take (k + 1), p x = false) := by
          intro x hx
          rw [List.take_succ_eq_append_getElem hlt', List.mem_append] at hx
          rcases hx with hx | hx
          · exact ha x hx
          · simp at hx; rw [hx]; exact hbit
        rw [hbit] at hc
        generalize ns[k] = y at *
        clear hbit ha hlt'
        go_wp2_with fail
        refine (unhide hc).mono ?_
        rintro e w1 ⟨rfl, rfl⟩
        go_wp2
        go_roundw
        case rel => exact ⟨trivial, k + 1, by omega, by go_num, unhide HA⟩
        case measure => simp [intOf]; omega
    · have hkn : k = n := by omega
      subst hkn
      have e2 : E = -1 := by
        rw [← unhide HE]
        unfold idxP
        have : ns.findIdx? p = none := by
          rw [List.findIdx?_eq_none_iff]
          rw [List.take_of_length_le (by rw [unhide HN]; exact Nat.le_refl _)] at ha
          exact ha
        rw [this]
      subst e2
      have q1 : ¬ (k : Int) < k := by omega
      clear ha
      go_wp2
      go_ret
      exact ⟨rfl, rfl⟩
theorem idxP_any (ns : List Nat) (p : Nat → Bool) : decide (0 ≤ idxP ns p) = ns.any p := by
  unfold idxP
  cases h : ns.findIdx? p with
  | none =>
    rw [List.findIdx?_eq_none_iff] at h
    have : ns.any p = false := List.any_eq_false.2 (fun x hx => by rw [h x hx]; simp)
    rw [this]; rfl
  | some k =>
    rw [List.findIdx?_eq_some_iff_getElem] at h
    obtain ⟨h1, h2, _⟩ := h
    have : ns.any p = true := List.any_eq_true.2 ⟨_, List.getElem_mem h1, h2⟩
    rw [this]
    exact decide_eq_true (Int.natCast_nonneg k)
set_option maxRecDepth 100000 in
set_option maxHeartbeats 1000000 in
theorem icontains_any (ns : List Nat) (p : Nat → Bool) (cap : Value) (a0 : Option Addr) (c : Nat) (w : World) (hk : ns.length ≤ maxLen) (hI : Ints w a0 (zs ns))
    (hC : ∀ x ∈ ns, Calls Try.prog 44 #[.int .i64 (x : Int), cap] w fun e w' => e = .returned (.bool (p x)) ∧ w = w') :
    Calls Try.prog 43 #[.slice a0 ns.length c, .func (.func 44) #[] #[cap]] w fun e w' => e = .returned (.bool (ns.any p)) ∧ w = w' := by
  have hi := hide (iindex2_any ns p cap a0 c w hk hI hC)
  rw [← idxP_any]
  generalize idxP ns p = x at *
  generalize ns.length = n at *
  clear hI hC
  go_enter Try.func43, Try.ntmps43
  go_wp2_with fail
  refine (unhide hi).mono ?_
  rintro e w1 ⟨rfl, rfl⟩
  go_wp2
  go_ret
  exact ⟨rfl, rfl⟩
end Go.Proofs.Ytfihpmhobjjaaaa

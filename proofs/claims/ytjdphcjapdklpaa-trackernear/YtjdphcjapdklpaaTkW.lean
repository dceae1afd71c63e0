/- tracker: slices.SortStableFunc of fewer than twenty: the insertion sort alone. -/
import Derived.Test.YtjdphcjapdklpaaTkV
namespace Go.Proofs.Ytjdphcjapdklpaa
open Go.RowKit
set_option linter.unusedVariables false
attribute [local go_sem] Oper.semAt_some

set_option maxRecDepth 100000 in
set_option maxHeartbeats 2000000 in
theorem stable_few (g o n cap k : Nat) (cb : Array Value) (hn : n < 20) (S : World → Prop) (w : World)
    (h : Calls Try.prog 48 #[.slice (some ⟨g, o, none⟩) n cap, .int .i64 0, .int .i64 n, .func (.func k) #[] cb] w fun e w' => e = .returned (.tuple #[]) ∧ S w') :
    Calls Try.prog 41 #[.slice (some ⟨g, o, none⟩) n cap, .int .i64 n, .func (.func k) #[] cb] w fun e w' => e = .returned (.tuple #[]) ∧ S w' := by
  have H := hide h
  clear h
  have q1 : ¬ (20 : Int) ≤ n := by omega
  have q2 : ¬ (20 : Int) < n := by omega
  have q1n : ¬ 20 ≤ n := by omega
  have q2n : ¬ 20 < n := by omega
  go_enter Try.func41, Try.ntmps41
  go_wp2_with fail
  go_loopw [7, 8] (fun av bv wr => av = .int .i64 0 ∧ bv = .int .i64 20 ∧ w = wr) (fun _ _ _ => 0)
  case atStart => exact ⟨rfl, rfl, rfl⟩
  case round =>
    obtain ⟨rfl, rfl, rfl⟩ := hrel
    go_wp2_with fail
    refine (unhide H).mono ?_
    rintro e w1 ⟨rfl, hS⟩
    have HS := hide hS
    clear hS H
    go_wp2_with fail
    go_loopw [6] (fun bv wr => bv = .int .i64 20 ∧ w1 = wr) (fun _ _ => 0)
    case atStart => exact ⟨rfl, rfl⟩
    case round =>
      obtain ⟨rfl, rfl⟩ := hrel
      go_wp2
      first | go_end0 | (go_wp2; go_end0) | (refine bodyPost_ret (results_none rfl _ _ _) rfl ?_)
      exact ⟨rfl, unhide HS⟩
set_option maxRecDepth 100000 in
theorem sortStable_few (g o n cap k : Nat) (cb : Array Value) (hn : n < 20) (S : World → Prop) (w : World)
    (h : Calls Try.prog 48 #[.slice (some ⟨g, o, none⟩) n cap, .int .i64 0, .int .i64 n, .func (.func k) #[] cb] w fun e w' => e = .returned (.tuple #[]) ∧ S w') :
    Calls Try.prog 34 #[.slice (some ⟨g, o, none⟩) n cap, .func (.func k) #[] cb] w fun e w' => e = .returned (.tuple #[]) ∧ S w' := by
  have H := hide (stable_few g o n cap k cb hn S w h)
  clear h
  go_enter Try.func34, Try.ntmps34
  go_wp2_with fail
  refine (unhide H).mono ?_
  rintro e w1 ⟨rfl, hS⟩
  have HS := hide hS
  clear hS H
  go_wp2_with fail
  first | go_end0 | (go_wp2; go_end0) | (refine bodyPost_ret (results_none rfl _ _ _) rfl ?_)
  exact ⟨rfl, unhide HS⟩
end Go.Proofs.Ytjdphcjapdklpaa

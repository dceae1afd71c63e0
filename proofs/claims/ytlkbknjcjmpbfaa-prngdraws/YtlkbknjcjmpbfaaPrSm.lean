/- Contract of the document's own Same, where both are the same. -/
import Derived.Test.YtlkbknjcjmpbfaaPrRp
namespace Go.Proofs.Ytlkbknjcjmpbfaa
open Go.RowKit
set_option linter.unusedVariables false

/-- numbers in a row -/
def NumsIn (w : World) (a0 : Option Addr) (k : Nat) (Z : Nat → Nat) : Prop := ∀ i, i < k → ∃ g, a0 = some ⟨g, 0, none⟩ ∧ w.cell? ⟨g, i, none⟩ = some (.int .i64 (Z i))

set_option maxRecDepth 100000 in
set_option maxHeartbeats 1000000 in
theorem rsame_any (w : World) (a0 b0 : Option Addr) (k c d : Nat) (Z : Nat → Nat) (hk : k ≤ 4096) (hA : NumsIn w a0 k Z) (hB : NumsIn w b0 k Z) :
    Calls Try.prog 21 #[.slice a0 k c, .slice b0 k d] w fun e w' => e = .returned (.bool true) ∧ Below w.heap.size w w' := by
  have HA := hide hA
  have HB := hide hB
  clear hA hB
  go_enter Try.func21, Try.ntmps21
  go_wp2_with fail
  go_loopw [5] (fun v wr => ∃ i q : Nat, i ≤ k ∧ v = .int .i64 i ∧ w.drewN q = wr) (fun v _ => k - (intOf v).toNat)
  case atStart => exact ⟨0, 0, Nat.zero_le _, rfl, rfl⟩
  case round =>
    obtain ⟨i, q, hi, rfl, rfl⟩ := hrel
    by_cases hlt : i < k
    · obtain ⟨g, rfl, c1⟩ := unhide HA i hlt
      obtain ⟨g', rfl, c2⟩ := unhide HB i hlt
      have q1 : (i : Int) < k := by omega
      go_wp2
      go_quiet (fail)
      go_wp2
      go_roundw
      case rel => exact ⟨i + 1, q + nq, by omega, by go_num, rfl⟩
      case measure => simp [intOf]; omega
    · have q1 : ¬ (i : Int) < k := by omega
      go_wp2
      go_ret
      exact ⟨rfl, below_drawn (Below.refl _ _) _⟩

end Go.Proofs.Ytlkbknjcjmpbfaa

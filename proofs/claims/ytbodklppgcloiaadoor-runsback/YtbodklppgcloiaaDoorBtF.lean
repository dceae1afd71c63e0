
/- Contracts of bits' List, Rank, Count and Nth. -/
import Derived.Test.YtbodklppgcloiaaDoorBtC
namespace Go.Proofs.YtbodklppgcloiaaDoor
open Go.RowKit
set_option linter.unusedVariables false

theorem listN_yes {s : By} {k : Nat} (h : bitAt s k = true) : listN s (k + 1) = listN s k ++ [(k : Int)] := by
  show (if bitAt s k then _ else _) = _
  rw [if_pos h]
theorem listN_no {s : By} {k : Nat} (h : bitAt s k = false) : listN s (k + 1) = listN s k := by
  show (if bitAt s k then _ else _) = _
  rw [if_neg (by rw [h]; simp)]
theorem rankN_yes {s : By} {k : Nat} (h : bitAt s k = true) : rankN s (k + 1) = rankN s k + 1 := by
  show rankN s k + (if bitAt s k then 1 else 0) = _
  rw [if_pos h]
theorem rankN_no {s : By} {k : Nat} (h : bitAt s k = false) : rankN s (k + 1) = rankN s k := by
  show rankN s k + (if bitAt s k then 1 else 0) = _
  rw [if_neg (by rw [h]; simp)]
  rfl
theorem own_below2 {w w' : World} {base n size : Nat} {e : TypeId} {v : Value} {xs : List Value} (h : w.ownsRow base e size v n xs) (hb : Below w.heap.size w w') : w'.ownsRow base e size v n xs := by
  refine ⟨h.1, ?_⟩
  rcases h.2 with h2 | ⟨g, cap, cur, hv, hg, hh, r⟩
  · exact .inl h2
  · exact .inr ⟨g, cap, cur, hv, hg, (hb.block g (lt_of_block hh)).trans hh, r⟩
def listE (n : Int) (s : By) : Int := if chkI n s = true then 0 else 3
def listR (n : Int) (s : By) : List Int := if chkI n s = true then listN s n.toNat else []
theorem rankN_out (s : By) (k : Nat) (h : 8 * s.length ≤ k) : rankN s k = rankN s (8 * s.length) := by
  induction k with
  | zero => have : 8 * s.length = 0 := by omega
            rw [this]
  | succ k ih =>
    rcases Nat.lt_or_ge k (8 * s.length) with h' | h'
    · have : k + 1 = 8 * s.length := by omega
      rw [this]
    · conv => lhs; unfold rankN
      rw [bitAt_out s k (by omega), ih h']
      rfl
def rankI (s : By) (i : Int) : Nat := rankN s i.toNat
/-- the k-th bit that is 1, or -1 -/
def nthP (s : By) (k : Int) (i : Nat) : Bool := bitAt s i && decide ((rankN s i : Int) = k)
def nthI (s : By) (k : Int) : Int := match (List.range (8 * s.length)).find? (nthP s k) with | some i => i | none => -1
theorem nth_is {s : By} {k : Int} {i : Nat} (hi : i < 8 * s.length) (hp : nthP s k i = true) (hno : ∀ j, j < i → nthP s k j = false) : nthI s k = i := by
  unfold nthI
  have : (List.range (8 * s.length)).find? (nthP s k) = some i := by
    rw [List.find?_range_eq_some]
    exact ⟨hp, by simpa using hi, fun j hj => by rw [hno j hj]; rfl⟩
  rw [this]
theorem nth_none {s : By} {k : Int} (hno : ∀ j, j < 8 * s.length → nthP s k j = false) : nthI s k = -1 := by
  unfold nthI
  have : (List.range (8 * s.length)).find? (nthP s k) = none := by
    rw [List.find?_eq_none]
    intro j hj
    rw [hno j (List.mem_range.1 hj)]
    simp
  rw [this]
end Go.Proofs.YtbodklppgcloiaaDoor

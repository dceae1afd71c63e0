/- What is known of rows of integers that are handed in. -/
import Derived.Test.YtpcndjnhpjhjkaaDoorGaO
import Derived.Deep.Matrix
namespace Go.Proofs.YtpcndjnhpjhjkaaDoor
open Go.ChangeShapes Go.WideShapes Go.ChangeAt Go.RowKit
set_option linter.unusedVariables false

def RowsOk (Rs : List (List Int)) (a0 : Option Addr) (c : Nat) : Prop := Rs.length ≤ c ∧ c ≤ maxLen ∧ (∀ r ∈ Rs, r.length ≤ maxLen) ∧ (∀ r ∈ Rs, ∀ x ∈ r, (Lit.int .i64 x).wf = true) ∧ (a0 = none → c = 0) ∧ ∀ a, a0 = some a → a.spot = none ∨ Rs = []
theorem open_rows {H : Type} {enc : TypeId × Value → H} {P : Program} {W : World} {r : Reach} {b0 : Nat} {t e q : TypeId} {v : Value} {d : DataW H} {p : List MemPlace}
    (ht : P.underlying t = some (.slice e)) (he : P.underlying e = some (.slice q)) (hq : P.underlying q = some (.int .i64)) (ce : P.cellsOf e = 1) (cq : P.cellsOf q = 1)
    (hval : Value.okWide P W r b0 t v) (h : DataW.Trod enc P W 0 (fun _ => true) true t v d p) :
    ∃ a0 Rs cap, v = .slice a0 (List.length (α := List Int) Rs) cap ∧ RowsA W a0 Rs ∧ RowsOk Rs a0 cap := by
  obtain ⟨a0, len, cap, rfl⟩ := okWide_slice ht hval
  obtain ⟨fuel, hf⟩ := h
  rcases Go.Deep.open_int_rows ht he hq ce cq hf with ⟨hcs, hx⟩ | ⟨a, len', cap', A, L, C, Z, hcs, _, hl, hm, hx, hcell⟩
  · simp [Value.cells] at hcs
    obtain ⟨rfl, rfl, rfl⟩ := hcs
    exact ⟨none, [], 0, rfl, fun i hi => absurd hi (by simp), by simp, by unfold maxLen; omega, by simp, by simp, fun _ => rfl, fun _ h => by cases h⟩
  · simp [Value.cells] at hcs
    obtain ⟨rfl, rfl, rfl⟩ := hcs
    have hlen : ((List.range len).map fun r => (Z r).take (L r)).length = len := by simp
    have hspot : 0 < cap → a.spot = none := fun h0 => by
      have := World.cell?_spot (hcell 0 h0).1
      simpa [Addr.add] using this
    refine ⟨some a, (List.range len).map fun r => (Z r).take (L r), cap, by rw [hlen], fun i hi => ?_, by rw [hlen]; exact hl, hm, fun r hr => ?_, fun r hr x hx => ?_, (fun h => by cases h), fun a' ha' => ?_⟩
    · rw [hlen] at hi
      have hsp := hspot (by omega)
      obtain ⟨b, off, spot⟩ := a
      simp only at hsp
      subst hsp
      obtain ⟨c0, c1, c2, c3, c4, c5, c6⟩ := hcell i (by omega)
      refine ⟨b, off, rfl, A i, C i, ?_, fun j hj => ?_⟩
      · rw [← add_plain, c0]
        simp only [List.getElem_map, List.getElem_range, List.length_take, c3, Nat.min_eq_left c1]
      · simp only [List.getElem_map, List.getElem_range, List.length_take, c3, Nat.min_eq_left c1] at hj
        cases hA : A i with
        | none => have := c5 hA; omega
        | some a' =>
          obtain ⟨_, hc⟩ := c6 a' hA
          have hc0 := hc j (by omega)
          obtain ⟨b', off', spot'⟩ := a'
          have hs' : spot' = none := by simpa [Addr.add] using World.cell?_spot (hc 0 (by omega))
          subst hs'
          refine ⟨b', off', rfl, ?_⟩
          rw [← add_plain, hc0]
          have hj2 : j < (Z i).length := by omega
          simp [List.getD, hj2]
    · obtain ⟨i, hi, rfl⟩ := List.mem_map.1 hr
      rw [List.mem_range] at hi
      obtain ⟨c0, c1, c2, c3, _⟩ := hcell i (by omega)
      rw [List.length_take]
      omega
    · obtain ⟨i, hi, rfl⟩ := List.mem_map.1 hr
      rw [List.mem_range] at hi
      obtain ⟨c0, c1, c2, c3, c4, _⟩ := hcell i (by omega)
      exact c4 x (List.mem_of_mem_take hx)
    · cases ha'
      by_cases h0 : 0 < cap
      · exact .inl (hspot h0)
      · exact .inr (List.eq_nil_of_length_eq_zero (by rw [hlen]; omega))
end Go.Proofs.YtpcndjnhpjhjkaaDoor

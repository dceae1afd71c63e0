/- What the law DegreeWords does, whatever the world: it answers true and changes nothing that was there. -/
import Derived.Test.YtmaeebgphblilabDgG
import Derived.Test.YtmaeebgphblilabOpenI
import Derived.OpenShut
namespace Go.Proofs.Ytmaeebgphblilab
open Go.RowKit
set_option linter.unusedVariables false

theorem zat_arg {w : World} {a0 : Option Addr} {len : Nat} {Z : Nat → Int} (h : IntsArg .i64 w a0 len Z) : ZAt w a0 ((List.range len).map Z) := by
  intro i z hi
  simp only [List.getElem?_map, Option.map_eq_some_iff] at hi
  obtain ⟨j, hj, rfl⟩ := hi
  obtain ⟨hlt, rfl⟩ := List.getElem?_eq_some_iff.1 hj
  simp only [List.length_range] at hlt
  obtain ⟨b, off, e, _, hc, _⟩ := h i hlt
  exact ⟨b, off, e, by simpa using hc⟩

set_option maxRecDepth 100000 in
set_option maxHeartbeats 2000000 in
theorem degreeWords_any (a0 : Option Addr) (len cap : Nat) (Z : Nat → Int) (x : Int) (w : World) (hZ : IntsArg .i64 w a0 len Z) (hc : len ≤ cap ∧ cap ≤ maxLen) (wx : (Lit.int .u32 x).wf = true) :
    Calls Try.prog 5 #[.slice a0 len cap, .int .u32 x] w fun e w' => e = .returned (.bool true) ∧ Below w.heap.size w w' := by
  obtain ⟨x0, x1⟩ := bounds_u32 wx
  have hcl : len ≤ 9223372036854775807 := by have := hc; unfold maxLen at this; omega
  by_cases hl : 100 < len
  · have hl' : (100 : Int) < len := by omega
    clear hZ hc wx
    go_enter Try.func5, Try.ntmps5
    go_wp2_with fail
    refine (dgawake_any _).mono ?_
    rintro e w1 ⟨rfl, b1⟩
    have B1 := hide b1
    clear b1
    go_wp2
    go_ret
    exact ⟨rfl, unhide B1⟩
  · have hl' : ¬ (100 : Int) < len := by omega
    have hA := zat_arg hZ
    have hln : ((List.range len).map Z).length = len := by simp
    have h1 := fun w (hA : ZAt w a0 ((List.range len).map Z)) => degree_any w a0 ((List.range len).map Z) len cap x hln (by omega) hA (by omega) (by omega)
    have h2 := fun w (hA : ZAt w a0 ((List.range len).map Z)) => rdegree_any w a0 ((List.range len).map Z) len cap x hln (by omega) hA (by omega) (by omega)
    generalize degA ((List.range len).map Z) x = R at *
    have H1 := hide h1
    have H2 := hide h2
    have HA := hide hA
    have hw1 : IntKind.i64.wrap x = x := IntWalk.i64_in x ⟨by omega, by omega⟩
    clear hZ hc wx h1 h2 hA hln
    go_enter Try.func5, Try.ntmps5
    go_wp2_with fail
    refine (dgawake_any _).mono ?_
    rintro e w1 ⟨rfl, b1⟩
    have HA1 := hide ((unhide HA).up b1)
    have B1 := hide b1
    clear b1 HA
    go_wp2_with fail
    refine (unhide H1 _ (unhide HA1)).mono ?_
    rintro e w2 ⟨rfl, rfl⟩
    go_wp2_with fail
    refine (unhide H2 _ (unhide HA1)).mono ?_
    rintro e w2 ⟨rfl, rfl⟩
    go_wp2
    go_ret
    exact ⟨rfl, unhide B1⟩

end Go.Proofs.Ytmaeebgphblilab

/- What is known of an array of two integers that is handed in. -/
import Derived.Test.YtiibdlddamcfaaaLib
import Derived.ProofKit
import Derived.OpenShut
namespace Go.Proofs.Ytiibdlddamcfaaa
open Go.ChangeShapes Go.WideShapes Go.ChangeAt Go.RowKit
set_option linter.unusedVariables false

theorem array2 {α : Type} {a : Array α} (h : a.size = 2) : ∃ x y, a = #[x, y] := by
  obtain ⟨l⟩ := a
  match l, h with
  | [x, y], _ => exact ⟨x, y, rfl⟩
theorem open_two {H : Type} {enc : TypeId × Value → H} {P : Program} {w : World} {base : Nat} {sp : Nat → Bool} {held : Bool} {r : Reach} {b0 : Nat} {t e : TypeId} {v : Value} {d : DataW H} {p : List MemPlace}
    (ht : P.underlying t = some (.array 2 e)) (he : P.underlying e = some (.int .i64)) (hce : P.cellsOf e = 1) (hct : P.cellsOf t = 2)
    (hval : Value.okWide P w r b0 t v) (h : DataW.Trod enc P w base sp held t v d p) : ∃ x y : Int, v = .agg #[.int .i64 x, .int .i64 y] ∧ (Lit.int .i64 x).wf = true ∧ (Lit.int .i64 y).wf = true := by
  simp only [Value.okWide, ht] at hval
  obtain ⟨cs, rfl, hsz, _⟩ := hval
  obtain ⟨c0, c1, rfl⟩ := array2 (hsz.trans hct)
  obtain ⟨fuel, hf⟩ := h
  obtain ⟨xs, m, _, _, _, hxl, hx⟩ := DataW.trod_array ht hf
  have each : ∀ (i : Nat) (c : Value), i < 2 → [c0, c1][i]? = some c → ∃ x : Int, c = .int .i64 x ∧ (Lit.int .i64 x).wf = true := by
    intro i c hi hc
    have h1 := hx i hi
    have hxi : i < xs.length := by omega
    rw [List.getElem?_eq_getElem hxi, hce, Nat.mul_one] at h1
    obtain ⟨n, h2, _, h3⟩ := DataW.trod_int he h1
    refine ⟨n, ?_, h3⟩
    have h4 : ((Value.agg #[c0, c1]).cells.toList.drop i).take 1 = [c] := by
      show ([c0, c1].drop i).take 1 = [c]
      have hil : i < [c0, c1].length := hi
      rw [List.drop_eq_getElem_cons hil]
      rw [List.getElem?_eq_getElem hil] at hc
      simp [Option.some.inj hc]
    rw [h4] at h2
    exact List.cons.inj h2 |>.1
  obtain ⟨x0, rfl, w0⟩ := each 0 c0 (by decide) rfl
  obtain ⟨x1, rfl, w1⟩ := each 1 c1 (by decide) rfl
  exact ⟨x0, x1, rfl, w0, w1⟩
end Go.Proofs.Ytiibdlddamcfaaa

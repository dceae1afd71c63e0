/- An argument that is an array of eight words, opened. -/
import Derived.Test.YtahejlimdgniiaaShaX
import Derived.ProofKit
import Derived.OpenShut
namespace Go.Proofs.Ytahejlimdgniiaa
open Go.ChangeShapes Go.WideShapes Go.ChangeAt Go.RowKit
set_option linter.unusedVariables false

theorem array8 {α : Type} {cs : Array α} (h : cs.size = 8) : ∃ c0 c1 c2 c3 c4 c5 c6 c7, cs = #[c0, c1, c2, c3, c4, c5, c6, c7] := by
  obtain ⟨l⟩ := cs
  match l, h with
  | [c0, c1, c2, c3, c4, c5, c6, c7], _ => exact ⟨c0, c1, c2, c3, c4, c5, c6, c7, rfl⟩
theorem word_of (n : Int) (h : (Lit.int .u32 n).wf = true) : ∃ x : UInt32, n = n32 x := by
  obtain ⟨h0, h1⟩ := bounds_u32 h
  refine ⟨UInt32.ofNat n.toNat, ?_⟩
  rw [← n32_lit _ (by omega)]
  omega
theorem open_state {H : Type} {enc : TypeId × Value → H} {P : Program} {w : World} {base : Nat} {sp : Nat → Bool} {held : Bool} {r : Reach} {b0 : Nat} {t e : TypeId} {v : Value} {d : DataW H} {p : List MemPlace}
    (ht : P.underlying t = some (.array 8 e)) (he : P.underlying e = some (.int .u32)) (hce : P.cellsOf e = 1) (hct : P.cellsOf t = 8)
    (hval : Value.okWide P w r b0 t v) (h : DataW.Trod enc P w base sp held t v d p) : ∃ s : S8, v = .agg (uc s.list).toArray := by
  simp only [Value.okWide, ht] at hval
  obtain ⟨cs, rfl, hsz, _⟩ := hval
  obtain ⟨c0, c1, c2, c3, c4, c5, c6, c7, rfl⟩ := array8 (hsz.trans hct)
  obtain ⟨fuel, hf⟩ := h
  obtain ⟨xs, m, _, _, _, hxl, hx⟩ := DataW.trod_array ht hf
  have each : ∀ (i : Nat) (c : Value), i < 8 → [c0, c1, c2, c3, c4, c5, c6, c7][i]? = some c → ∃ x : UInt32, c = .int .u32 (n32 x) := by
    intro i c hi hc
    have h1 := hx i hi
    have hxi : i < xs.length := by omega
    rw [List.getElem?_eq_getElem hxi, hce, Nat.mul_one] at h1
    obtain ⟨n, h2, _, h3⟩ := DataW.trod_int he h1
    obtain ⟨x, rfl⟩ := word_of n h3
    refine ⟨x, ?_⟩
    have h4 : ((Value.agg #[c0, c1, c2, c3, c4, c5, c6, c7]).cells.toList.drop i).take 1 = [c] := by
      show ([c0, c1, c2, c3, c4, c5, c6, c7].drop i).take 1 = [c]
      have hil : i < [c0, c1, c2, c3, c4, c5, c6, c7].length := hi
      rw [List.drop_eq_getElem_cons hil]
      rw [List.getElem?_eq_getElem hil] at hc
      simp [Option.some.inj hc]
    rw [h4] at h2
    exact List.cons.inj h2 |>.1
  obtain ⟨x0, rfl⟩ := each 0 c0 (by decide) rfl
  obtain ⟨x1, rfl⟩ := each 1 c1 (by decide) rfl
  obtain ⟨x2, rfl⟩ := each 2 c2 (by decide) rfl
  obtain ⟨x3, rfl⟩ := each 3 c3 (by decide) rfl
  obtain ⟨x4, rfl⟩ := each 4 c4 (by decide) rfl
  obtain ⟨x5, rfl⟩ := each 5 c5 (by decide) rfl
  obtain ⟨x6, rfl⟩ := each 6 c6 (by decide) rfl
  obtain ⟨x7, rfl⟩ := each 7 c7 (by decide) rfl
  exact ⟨⟨x0, x1, x2, x3, x4, x5, x6, x7⟩, rfl⟩

end Go.Proofs.Ytahejlimdgniiaa

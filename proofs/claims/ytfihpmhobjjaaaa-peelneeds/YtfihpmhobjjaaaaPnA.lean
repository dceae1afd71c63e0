/- What texts of rows of rows need. -/
import Derived.Test.YtfihpmhobjjaaaaPeN
namespace Go.Proofs.Ytfihpmhobjjaaaa
open Go.RowKit
set_option linter.unusedVariables false

theorem run_append_emptyN {P : Program} {w : World} (base : Nat) (t ty e : TypeId) (i : TypeInfo) (size : Nat) (ht : P.underlying t = some (.slice e)) (hi : P.info? e = some i)
    (v : Value) (n : Nat) (xs : List Value) (hown : w.ownsRow base e size v n xs) (a0 : Option Addr) (c : Nat) :
    (Builtin.append_ #[t, t] ty #[v, .slice a0 0 c]).run P w = .ok v w := by
  cases a0 with
  | none =>
    rcases hown.2 with ⟨rfl, rfl⟩ | ⟨g, cap, cur, rfl, _, _, hnc, _⟩
    · simp [Builtin.append_, run_underlying ht, sizeOf, typeInfo, hi, Builtin.lenOf, Builtin.firstCells]
    · simp [Builtin.append_, run_underlying ht, sizeOf, typeInfo, hi, Builtin.lenOf, Builtin.firstCells, hnc, storeCells]
  | some ad =>
    have hl : ∀ w : World, (loadCells ad 0).run P w = .ok #[] w := fun w => by
      have := run_loadCells_list (P := P) w ad [] (fun j u h => by simp at h)
      simpa using this
    rcases hown.2 with ⟨rfl, rfl⟩ | ⟨g, cap, cur, rfl, _, _, hnc, _⟩
    · simp [Builtin.append_, run_underlying ht, sizeOf, typeInfo, hi, Builtin.lenOf, Builtin.firstCells, hl]
    · simp [Builtin.append_, run_underlying ht, sizeOf, typeInfo, hi, Builtin.lenOf, Builtin.firstCells, hnc, storeCells, hl]
theorem Try.infoIxN : (Try.prog.info? 23).map (fun i => (i.zero, i.size, i.bytes)) = some (some (.slice none 0 0), 1, 24) := by kernel_rfl
theorem Try.undIxN : Try.prog.underlying 22 = some (.slice 23) := by kernel_rfl
def gtN (Rs : List (List Int)) (i : Nat) : List Int := Rs.getD i []
theorem gtR_getN (Rs : List (List Int)) (i : Nat) (h : i < Rs.length) : gtN Rs i = Rs[i] := by simp [gtN, List.getD, h]
theorem own_tyN {w : World} {base n b size : Nat} {e : TypeId} {v : Value} {xs : List Value} (h : w.ownsRow base e size v n xs) (hb : v.ownBlock = some b) : ∃ cur, w.heap[b]? = some (.cells cur e (0, 0)) := by
  rcases h.2 with ⟨rfl, _⟩ | ⟨g, cap, cur, rfl, _, hg, _⟩
  · simp [Value.ownBlock] at hb
  · simp [Value.ownBlock] at hb
    subst hb
    exact ⟨cur, hg⟩
theorem own_apartN {w : World} {base base' n n' size size' : Nat} {e e' : TypeId} {v v' : Value} {xs xs' : List Value} (h : w.ownsRow base e size v n xs) (h' : w.ownsRow base' e' size' v' n' xs') (he : e ≠ e') : v.ownBlock = none ∨ v.ownBlock ≠ v'.ownBlock := by
  cases hb : v.ownBlock with
  | none => exact .inl rfl
  | some b =>
    refine .inr (fun hb' => ?_)
    obtain ⟨c, hc⟩ := own_tyN h hb
    obtain ⟨c', hc'⟩ := own_tyN h' hb'.symm
    rw [hc] at hc'
    simp at hc'
    exact he hc'.2
end Go.Proofs.Ytfihpmhobjjaaaa

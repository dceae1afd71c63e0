/- tracker: a call's own places, as they are read. -/
import Derived.Test.YtjdphcjapdklpaaTkY
namespace Go.Proofs.Ytjdphcjapdklpaa
open Go.RowKit
set_option linter.unusedVariables false

theorem plC_get : ∀ (l : List (Int × Int)) (i j : Nat) (p : Int × Int), l[i]? = some p → j < 2 → (plC l)[i * 2 + j]? = [Value.int .i64 p.1, .int .i64 p.2][j]?
  | [], _, _, _, h, _ => by simp at h
  | a :: s, 0, j, p, h, hj => by
    simp at h
    subst h
    rw [show plC (a :: s) = [Value.int .i64 a.1, .int .i64 a.2] ++ plC s from rfl, Nat.zero_mul, Nat.zero_add, List.getElem?_append_left (by simpa using hj)]
  | a :: s, i + 1, j, p, h, hj => by
    rw [show plC (a :: s) = [Value.int .i64 a.1, .int .i64 a.2] ++ plC s from rfl, List.getElem?_append_right (by simp; omega)]
    rw [show (i + 1) * 2 + j - [Value.int .i64 a.1, .int .i64 a.2].length = i * 2 + j by simp; omega]
    exact plC_get s i j p (by simpa using h) hj
theorem OwnPl.pls {w : World} {B : Nat} {v : Value} {l : List (Int × Int)} (h : OwnPl w B v l) : ∃ a0 c, v = .slice a0 l.length c ∧ PlsAt w a0 l ∧ l.length ≤ c := by
  rcases h.2 with ⟨h1, h2⟩ | ⟨g, cap, cur, h1, h2, h3, h4, h5, h6, h7⟩
  · refine ⟨none, 0, by rw [h1, h2], fun t c ht => ?_, by omega⟩
    rw [List.length_eq_zero_iff.1 h2] at ht
    cases ht
  · rw [h1] at h
    refine ⟨_, cap, h1, fun t c ht => ⟨g, 0, rfl, lt_of_block h3, fun j v hv => ?_⟩, h4⟩
    have hl := (List.getElem?_eq_some_iff.1 ht).1
    have hj : j < 2 := (List.getElem?_eq_some_iff.1 hv).1
    rw [Nat.zero_add, World.ownsRow.cellAt h (t * 2 + j) (by omega)]
    have e := plC_get l t j c ht hj
    rw [hv] at e
    exact e
end Go.Proofs.Ytjdphcjapdklpaa

/- An argument that is a note of the tracker, opened. -/
import Derived.Test.YtjdphcjapdklpaaTkA
import Derived.ProofKit
import Derived.OpenShut
import Derived.Deep.Slices
import Derived.Deep.MidRow
import Derived.ChangeOld
import Derived.Deep.Strs
import Derived.ChangeSame
namespace Go.Proofs.Ytjdphcjapdklpaa
open Go.ChangeShapes Go.WideShapes Go.ChangeAt Go.RowKit Go.Deep
set_option linter.unusedVariables false

theorem list5 {α : Type} {l : List α} (h : l.length = 5) : ∃ a b c d e, l = [a, b, c, d, e] := by
  match l, h with
  | [a, b, c, d, e], _ => exact ⟨a, b, c, d, e, rfl⟩
set_option maxRecDepth 100000 in
theorem nt_cells {H : Type} {enc : TypeId × Value → H} {W : World} {fuel : Nat} {cs : List Value} {x : DataW H × List MemPlace} (hsz : cs.length = 5) (hf : DataW.trod enc Try.prog W 0 (fun _ => true) true fuel 25 cs = some x) :
    ∃ p : Nt, cs = p.cl := by
  have k1 : Try.prog.cellsOf 3 = 1 := by kernel_rfl
  have k2 : Try.prog.cellsOf 23 = 2 := by kernel_rfl
  have k3 : Try.prog.cellsOf 9 = 1 := by kernel_rfl
  obtain ⟨c0, c1, c2, c3, c4, rfl⟩ := list5 hsz
  obtain ⟨xs, m, _, _, _, hlen, hx⟩ := DataW.trod_struct Try.underlying25 hf
  have f0 := hx 0 _ rfl
  have f1 := hx 1 _ rfl
  have f2 := hx 2 _ rfl
  have f3 := hx 3 _ rfl
  simp [k1, k2, k3] at f0 f1 f2 f3
  match xs, hlen with
  | [y0, y1, y2, y3], _ =>
    simp at f0 f1 f2 f3
    obtain ⟨nm, e0, _⟩ := DataW.trod_string Try.underlying9 f0
    obtain ⟨nd, e1, _⟩ := DataW.trod_int Try.underlying3 f1
    obtain ⟨zs, m2, _, _, _, hlen2, hz⟩ := DataW.trod_struct Try.underlying23 f2
    have g0 := hz 0 _ rfl
    have g1 := hz 1 _ rfl
    simp [k1] at g0 g1
    match zs, hlen2 with
    | [z0, z1], _ =>
      simp at g0 g1
      obtain ⟨px, e2, _⟩ := DataW.trod_int Try.underlying3 g0
      obtain ⟨py, e3, _⟩ := DataW.trod_int Try.underlying3 g1
      obtain ⟨un, e4, _⟩ := DataW.trod_int Try.underlying3 f3
      simp at e0 e1 e2 e3 e4
      subst e0 e1 e2 e3 e4
      exact ⟨⟨nm.data.toList, nd, px, py, un⟩, rfl⟩
set_option maxRecDepth 100000 in
theorem open_note {H : Type} {enc : TypeId × Value → H} {W : World} {r : Reach} {b0 : Nat} {v : Value} {d : DataW H} {p : List MemPlace}
    (hval : Value.okWide Try.prog W r b0 25 v) (h : DataW.Trod enc Try.prog W 0 (fun _ => true) true 25 v d p) :
    ∃ p : Nt, v = .agg p.cl.toArray := by
  obtain ⟨cs, rfl, hsz⟩ := okWide_struct Try.underlying25 hval
  obtain ⟨fuel, hf⟩ := h
  have k : Try.prog.cellsOf 25 = 5 := by kernel_rfl
  rw [k] at hsz
  obtain ⟨l⟩ := cs
  obtain ⟨c0, c1, c2, c3, c4, rfl⟩ := list5 (by simpa using hsz)
  obtain ⟨p, h1⟩ := nt_cells (cs := [c0, c1, c2, c3, c4]) rfl hf
  rw [h1]
  exact ⟨p, rfl⟩
end Go.Proofs.Ytjdphcjapdklpaa

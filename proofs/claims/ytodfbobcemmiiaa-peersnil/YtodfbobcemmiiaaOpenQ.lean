/- An act on a table that is handed in, opened. -/
import Derived.Test.YtodfbobcemmiiaaLib
import Derived.ProofKit
import Derived.OpenShut
import Derived.Deep.Slices
import Derived.ChangeOld
import Derived.Deep.Strs
import Derived.ChangeSame
namespace Go.Proofs.Ytodfbobcemmiiaa
open Go.ChangeShapes Go.WideShapes Go.ChangeAt Go.RowKit Go.Deep
set_option linter.unusedVariables false

theorem list7 {α : Type} {l : List α} (h : l.length = 7) : ∃ a b c d e f g, l = [a, b, c, d, e, f, g] := by
  match l, h with
  | [a, b, c, d, e, f, g], _ => exact ⟨a, b, c, d, e, f, g, rfl⟩
theorem open_pact {H : Type} {enc : TypeId × Value → H} {W : World} {r : Reach} {b0 : Nat} {v : Value} {d : DataW H} {p : List MemPlace}
    (hval : Value.okWide Try.prog W r b0 33 v) (h : DataW.Trod enc Try.prog W 0 (fun _ => true) true 33 v d p) :
    ∃ (kd nd n x y : Int) (s : ByteArray) (on : Bool), v = .agg #[.int .i64 kd, .int .i64 nd, .int .i64 n, .int .i64 x, .int .i64 y, .string s, .bool on] := by
  obtain ⟨cs, rfl, hsz⟩ := okWide_struct Try.underlying33 hval
  obtain ⟨fuel, hf⟩ := h
  have k : Try.prog.cellsOf 33 = 7 := by kernel_rfl
  have k1 : Try.prog.cellsOf 3 = 1 := by kernel_rfl
  have k2 : Try.prog.cellsOf 31 = 2 := by kernel_rfl
  have k3 : Try.prog.cellsOf 9 = 1 := by kernel_rfl
  have k4 : Try.prog.cellsOf 4 = 1 := by kernel_rfl
  rw [k] at hsz
  obtain ⟨l⟩ := cs
  obtain ⟨c0, c1, c2, c3, c4, c5, c6, rfl⟩ := list7 (by simpa using hsz)
  obtain ⟨xs, m, _, _, _, hlen, hx⟩ := DataW.trod_struct Try.underlying33 hf
  have f0 := hx 0 _ rfl
  have f1 := hx 1 _ rfl
  have f2 := hx 2 _ rfl
  have f3 := hx 3 _ rfl
  have f4 := hx 4 _ rfl
  have f5 := hx 5 _ rfl
  simp [k1, k2, k3, k4, Value.cells] at f0 f1 f2 f3 f4 f5
  match xs, hlen with
  | [y0, y1, y2, y3, y4, y5], _ =>
    simp at f0 f1 f2 f3 f4 f5
    obtain ⟨kd, e0, _⟩ := DataW.trod_int Try.underlying3 f0
    obtain ⟨nd, e1, _⟩ := DataW.trod_int Try.underlying3 f1
    obtain ⟨n, e2, _⟩ := DataW.trod_int Try.underlying3 f2
    obtain ⟨s, e4, _⟩ := DataW.trod_string Try.underlying9 f4
    obtain ⟨on, e5, _⟩ := DataW.trod_bool Try.underlying4 f5
    obtain ⟨z0, z1, j, _, _, g0, g1⟩ := trod_struct2 Try.underlying31 f3
    simp [k1] at g0 g1
    obtain ⟨x, e6, _⟩ := DataW.trod_int Try.underlying3 g0
    obtain ⟨y, e7, _⟩ := DataW.trod_int Try.underlying3 g1
    simp at e0 e1 e2 e4 e5 e6 e7
    subst e0 e1 e2 e4 e5 e6 e7
    exact ⟨kd, nd, n, x, y, s, on, rfl⟩
end Go.Proofs.Ytodfbobcemmiiaa

/- Arguments of the tracker's laws, opened: an act, an ask. -/
import Derived.Test.YtjdphcjapdklpaaOpenNo
namespace Go.Proofs.Ytjdphcjapdklpaa
open Go.ChangeShapes Go.WideShapes Go.ChangeAt Go.RowKit Go.Deep
set_option linter.unusedVariables false

theorem list6 {α : Type} {l : List α} (h : l.length = 6) : ∃ a b c d e f, l = [a, b, c, d, e, f] := by
  match l, h with
  | [a, b, c, d, e, f], _ => exact ⟨a, b, c, d, e, f, rfl⟩
theorem list7 {α : Type} {l : List α} (h : l.length = 7) : ∃ a b c d e f g, l = [a, b, c, d, e, f, g] := by
  match l, h with
  | [a, b, c, d, e, f, g], _ => exact ⟨a, b, c, d, e, f, g, rfl⟩
set_option maxRecDepth 100000 in
theorem ta_cells {H : Type} {enc : TypeId × Value → H} {W : World} {fuel : Nat} {cs : List Value} {x : DataW H × List MemPlace} (hsz : cs.length = 7) (hf : DataW.trod enc Try.prog W 0 (fun _ => true) true fuel 40 cs = some x) :
    ∃ (kd nw : Int) (p : Nt), cs = .int .i64 kd :: .int .i64 nw :: p.cl := by
  have k1 : Try.prog.cellsOf 3 = 1 := by kernel_rfl
  have k2 : Try.prog.cellsOf 25 = 5 := by kernel_rfl
  obtain ⟨c0, c1, c2, c3, c4, c5, c6, rfl⟩ := list7 hsz
  obtain ⟨xs, m, _, _, _, hlen, hx⟩ := DataW.trod_struct Try.underlying40 hf
  have f0 := hx 0 _ rfl
  have f1 := hx 1 _ rfl
  have f2 := hx 2 _ rfl
  simp [k1, k2] at f0 f1 f2
  match xs, hlen with
  | [y0, y1, y2], _ =>
    simp at f0 f1 f2
    obtain ⟨kd, e0, _⟩ := DataW.trod_int Try.underlying3 f0
    obtain ⟨nw, e1, _⟩ := DataW.trod_int Try.underlying3 f1
    obtain ⟨p, e2⟩ := nt_cells (cs := [c2, c3, c4, c5, c6]) rfl f2
    simp at e0 e1
    subst e0 e1
    rw [e2]
    exact ⟨kd, nw, p, rfl⟩
set_option maxRecDepth 100000 in
theorem open_tact {H : Type} {enc : TypeId × Value → H} {W : World} {r : Reach} {b0 : Nat} {v : Value} {d : DataW H} {p : List MemPlace}
    (hval : Value.okWide Try.prog W r b0 40 v) (h : DataW.Trod enc Try.prog W 0 (fun _ => true) true 40 v d p) :
    ∃ (kd nw : Int) (p : Nt), v = .agg (.int .i64 kd :: .int .i64 nw :: p.cl).toArray := by
  obtain ⟨cs, rfl, hsz⟩ := okWide_struct Try.underlying40 hval
  obtain ⟨fuel, hf⟩ := h
  have k : Try.prog.cellsOf 40 = 7 := by kernel_rfl
  rw [k] at hsz
  obtain ⟨l⟩ := cs
  obtain ⟨c0, c1, c2, c3, c4, c5, c6, rfl⟩ := list7 (by simpa using hsz)
  obtain ⟨kd, nw, p, h1⟩ := ta_cells (cs := [c0, c1, c2, c3, c4, c5, c6]) rfl hf
  rw [h1]
  exact ⟨kd, nw, p, rfl⟩
set_option maxRecDepth 100000 in
theorem open_task {H : Type} {enc : TypeId × Value → H} {W : World} {r : Reach} {b0 : Nat} {v : Value} {d : DataW H} {p : List MemPlace}
    (hval : Value.okWide Try.prog W r b0 37 v) (h : DataW.Trod enc Try.prog W 0 (fun _ => true) true 37 v d p) :
    ∃ (s t : ByteArray) (x y k now : Int), v = .agg #[.string s, .string t, .int .i64 x, .int .i64 y, .int .i64 k, .int .i64 now] := by
  obtain ⟨cs, rfl, hsz⟩ := okWide_struct Try.underlying37 hval
  obtain ⟨fuel, hf⟩ := h
  have k : Try.prog.cellsOf 37 = 6 := by kernel_rfl
  rw [k] at hsz
  obtain ⟨l⟩ := cs
  obtain ⟨c0, c1, c2, c3, c4, c5, rfl⟩ := list6 (by simpa using hsz)
  have k1 : Try.prog.cellsOf 3 = 1 := by kernel_rfl
  have k2 : Try.prog.cellsOf 23 = 2 := by kernel_rfl
  have k3 : Try.prog.cellsOf 9 = 1 := by kernel_rfl
  obtain ⟨xs, m, _, _, _, hlen, hx⟩ := DataW.trod_struct Try.underlying37 hf
  have f0 := hx 0 _ rfl
  have f1 := hx 1 _ rfl
  have f2 := hx 2 _ rfl
  have f3 := hx 3 _ rfl
  have f4 := hx 4 _ rfl
  simp [k1, k2, k3, Value.cells] at f0 f1 f2 f3 f4
  match xs, hlen with
  | [y0, y1, y2, y3, y4], _ =>
    simp at f0 f1 f2 f3 f4
    obtain ⟨s, e0, _⟩ := DataW.trod_string Try.underlying9 f0
    obtain ⟨t, e1, _⟩ := DataW.trod_string Try.underlying9 f1
    obtain ⟨zs, m2, _, _, _, hlen2, hz⟩ := DataW.trod_struct Try.underlying23 f2
    have g0 := hz 0 _ rfl
    have g1 := hz 1 _ rfl
    simp [k1] at g0 g1
    match zs, hlen2 with
    | [z0, z1], _ =>
      simp at g0 g1
      obtain ⟨px, e2, _⟩ := DataW.trod_int Try.underlying3 g0
      obtain ⟨py, e3, _⟩ := DataW.trod_int Try.underlying3 g1
      obtain ⟨kk, e4, _⟩ := DataW.trod_int Try.underlying3 f3
      obtain ⟨nw, e5, _⟩ := DataW.trod_int Try.underlying3 f4
      simp at e0 e1 e2 e3 e4 e5
      subst e0 e1 e2 e3 e4 e5
      exact ⟨s, t, px, py, kk, nw, rfl⟩
end Go.Proofs.Ytjdphcjapdklpaa

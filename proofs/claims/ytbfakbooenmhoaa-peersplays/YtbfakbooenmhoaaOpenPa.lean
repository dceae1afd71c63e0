/- An argument that is a row of acts on tables of peers, opened. -/
import Derived.Test.YtbfakbooenmhoaaZqI
import Derived.ProofKit
import Derived.OpenShut
import Derived.Deep.Slices
import Derived.ChangeOld
import Derived.Deep.Strs
import Derived.ChangeSame
namespace Go.Proofs.Ytbfakbooenmhoaa
open Go.ChangeShapes Go.WideShapes Go.ChangeAt Go.RowKit Go.Deep
set_option linter.unusedVariables false

/-- an act -/
structure Pa where
  kd : Int
  nd : Int
  n : Int
  x : Int
  y : Int
  s : ByteArray
  on : Bool
def Pa.cl (p : Pa) : List Value := [.int .i64 p.kd, .int .i64 p.nd, .int .i64 p.n, .int .i64 p.x, .int .i64 p.y, .string p.s, .bool p.on]
def PasAt (w : World) (a0 : Option Addr) (l : List Pa) : Prop := ∀ t c, l[t]? = some c → ∃ g o, a0 = some ⟨g, o, none⟩ ∧ g < w.heap.size ∧ w.rangeAt g (o + t * 7) c.cl
def PasOk (l : List Pa) (c : Nat) : Prop := l.length ≤ c ∧ c ≤ maxLen ∧ ∀ p ∈ l, p.s.size ≤ maxLen
theorem list7' {α : Type} {l : List α} (h : l.length = 7) : ∃ a b c d e f g, l = [a, b, c, d, e, f, g] := by
  match l, h with
  | [a, b, c, d, e, f, g], _ => exact ⟨a, b, c, d, e, f, g, rfl⟩
theorem pa_cells {H : Type} {enc : TypeId × Value → H} {W : World} {fuel : Nat} {cs : List Value} {x : DataW H × List MemPlace} (hsz : cs.length = 7) (hf : DataW.trod enc Try.prog W 0 (fun _ => true) true fuel 33 cs = some x) :
    ∃ p : Pa, cs = p.cl ∧ p.s.size ≤ maxLen := by
  have k1 : Try.prog.cellsOf 3 = 1 := by kernel_rfl
  have k2 : Try.prog.cellsOf 31 = 2 := by kernel_rfl
  have k3 : Try.prog.cellsOf 9 = 1 := by kernel_rfl
  have k4 : Try.prog.cellsOf 4 = 1 := by kernel_rfl
  obtain ⟨c0, c1, c2, c3, c4, c5, c6, rfl⟩ := list7' hsz
  obtain ⟨xs, m, _, _, _, hlen, hx⟩ := DataW.trod_struct Try.underlying33 hf
  have f0 := hx 0 _ rfl
  have f1 := hx 1 _ rfl
  have f2 := hx 2 _ rfl
  have f3 := hx 3 _ rfl
  have f4 := hx 4 _ rfl
  have f5 := hx 5 _ rfl
  simp [k1, k2, k3, k4] at f0 f1 f2 f3 f4 f5
  match xs, hlen with
  | [y0, y1, y2, y3, y4, y5], _ =>
    simp at f0 f1 f2 f3 f4 f5
    obtain ⟨kd, e0, _⟩ := DataW.trod_int Try.underlying3 f0
    obtain ⟨nd, e1, _⟩ := DataW.trod_int Try.underlying3 f1
    obtain ⟨n, e2, _⟩ := DataW.trod_int Try.underlying3 f2
    obtain ⟨s, e4, _, ws⟩ := DataW.trod_string Try.underlying9 f4
    obtain ⟨on, e5, _⟩ := DataW.trod_bool Try.underlying4 f5
    obtain ⟨z0, z1, j, _, _, g0, g1⟩ := trod_struct2 Try.underlying31 f3
    simp [k1] at g0 g1
    obtain ⟨x, e6, _⟩ := DataW.trod_int Try.underlying3 g0
    obtain ⟨y, e7, _⟩ := DataW.trod_int Try.underlying3 g1
    simp at e0 e1 e2 e4 e5 e6 e7
    subst e0 e1 e2 e4 e5 e6 e7
    exact ⟨⟨kd, nd, n, x, y, s, on⟩, rfl, ws⟩
theorem open_pacts {H : Type} {enc : TypeId × Value → H} {W : World} {r : Reach} {b0 : Nat} {v : Value} {d : DataW H} {p : List MemPlace}
    (hval : Value.okWide Try.prog W r b0 22 v) (h : DataW.Trod enc Try.prog W 0 (fun _ => true) true 22 v d p) (hlt : ∀ x ∈ p, x.block < W.heap.size) :
    ∃ a0 l cap, v = .slice a0 (List.length (α := Pa) l) cap ∧ PasAt W a0 l ∧ PasOk l cap := by
  have ht := Try.underlying22
  have ce : Try.prog.cellsOf 33 = 7 := by kernel_rfl
  obtain ⟨a0, len, cap, rfl⟩ := okWide_slice ht hval
  obtain ⟨fuel, hf⟩ := h
  rcases open_slice ht hf with ⟨hcs, hx⟩ | ⟨a, len', cap', m, n, D, Pl, hcs, _, hl, hm, hmm, hx, each⟩
  · simp [Value.cells] at hcs
    obtain ⟨rfl, rfl, rfl⟩ := hcs
    exact ⟨none, [], 0, rfl, fun t c ht => by simp at ht, by simp, by unfold maxLen; omega, by simp⟩
  · simp [Value.cells] at hcs
    obtain ⟨rfl, rfl, rfl⟩ := hcs
    simp only [Prod.mk.injEq] at hx
    obtain ⟨rfl, rfl⟩ := hx
    simp only [if_true] at hmm
    have one : ∀ i, i < len → ∃ f : Pa, (∃ b off, some a = some ⟨b, off, none⟩ ∧ b < W.heap.size ∧ W.rangeAt b (off + i * 7) f.cl) ∧ f.s.size ≤ maxLen := by
      intro i hi
      obtain ⟨cs', h1, h2⟩ := each i (by omega)
      rw [ce] at h1
      obtain ⟨_, hlen, hcell⟩ := World.cells?_some h1
      obtain ⟨f, rfl, hs⟩ := pa_cells hlen h2
      obtain ⟨b, off, spot⟩ := a
      have hspot : spot = none := by
        obtain ⟨cs0, u1, u2⟩ := each 0 (by omega)
        rw [ce] at u1
        obtain ⟨_, ulen, ucell⟩ := World.cells?_some u1
        have u0 := ucell 0 (by omega)
        simp [Addr.add] at u0
        rw [List.getElem?_eq_getElem (show 0 < cs0.length by omega)] at u0
        exact World.cell?_spot u0
      subst hspot
      refine ⟨f, ⟨b, off, rfl, hlt (.cell b off) ?_, fun j v hv => ?_⟩, hs⟩
      · refine List.mem_append_left _ (MemPlace.mem_row.2 ⟨0, ?_, by simp⟩)
        rw [ce]
        omega
      · have hj : j < 7 := (List.getElem?_eq_some_iff.1 hv).1
        have k := hcell j hj
        rw [add_add, add_plain, hv] at k
        rw [Nat.add_assoc]
        exact k
    have hlen2 : ((List.range len).map fun i => if h : i < len then Classical.choose (one i h) else (⟨0, 0, 0, 0, 0, ⟨#[]⟩, false⟩ : Pa)).length = len := by simp
    refine ⟨some a, (List.range len).map fun i => if h : i < len then Classical.choose (one i h) else ⟨0, 0, 0, 0, 0, ⟨#[]⟩, false⟩, cap, by rw [hlen2], fun t c htc => ?_, by rw [hlen2]; omega, by omega, fun e hm => ?_⟩
    · have htl : t < len := by
        have := (List.getElem?_eq_some_iff.1 htc).1
        rwa [hlen2] at this
      have := (Classical.choose_spec (one t htl)).1
      rw [List.getElem?_map, List.getElem?_range htl, Option.map_some, Option.some.injEq, dif_pos htl] at htc
      rw [← htc]
      exact this
    · obtain ⟨i, hi, rfl⟩ := List.mem_map.1 hm
      have hi' := List.mem_range.1 hi
      rw [dif_pos hi']
      exact (Classical.choose_spec (one i hi')).2
end Go.Proofs.Ytbfakbooenmhoaa

/- An argument that is a row of peers, and one that tells how one chooses, opened. -/
import Derived.Test.YtjndgglbapghhaaCkA
import Derived.ProofKit
import Derived.OpenShut
import Derived.Deep.Slices
import Derived.ChangeOld
import Derived.Deep.Strs
import Derived.ChangeSame
namespace Go.Proofs.Ytjndgglbapghhaa
open Go.ChangeShapes Go.WideShapes Go.ChangeAt Go.RowKit Go.Deep
set_option linter.unusedVariables false

def PrsAt (w : World) (a0 : Option Addr) (l : List Pr) : Prop := ∀ t c, l[t]? = some c → ∃ g o, a0 = some ⟨g, o, none⟩ ∧ g < w.heap.size ∧ w.rangeAt g (o + t * 10) c.cl
def PrOk (p : Pr) : Prop := p.hv.size ≤ maxLen ∧ (Lit.int .i64 p.nd).wf = true ∧ (Lit.int .i64 p.ra).wf = true
def PrsOk (l : List Pr) (c : Nat) : Prop := l.length ≤ c ∧ c ≤ maxLen ∧ ∀ p ∈ l, PrOk p
theorem list10 {α : Type} {l : List α} (h : l.length = 10) : ∃ a b c d e f g i j k, l = [a, b, c, d, e, f, g, i, j, k] := by
  match l, h with
  | [a, b, c, d, e, f, g, i, j, k], _ => exact ⟨a, b, c, d, e, f, g, i, j, k, rfl⟩
set_option maxRecDepth 100000 in
theorem pr_cells {H : Type} {enc : TypeId × Value → H} {W : World} {fuel : Nat} {cs : List Value} {x : DataW H × List MemPlace} (hsz : cs.length = 10) (hf : DataW.trod enc Try.prog W 0 (fun _ => true) true fuel 48 cs = some x) :
    ∃ p : Pr, cs = p.cl ∧ PrOk p := by
  have k1 : Try.prog.cellsOf 3 = 1 := by kernel_rfl
  have k2 : Try.prog.cellsOf 24 = 2 := by kernel_rfl
  have k3 : Try.prog.cellsOf 9 = 1 := by kernel_rfl
  have k4 : Try.prog.cellsOf 4 = 1 := by kernel_rfl
  obtain ⟨c0, c1, c2, c3, c4, c5, c6, c7, c8, c9, rfl⟩ := list10 hsz
  obtain ⟨xs, m, _, _, _, hlen, hx⟩ := DataW.trod_struct Try.underlying48 hf
  have f0 := hx 0 _ rfl
  have f1 := hx 1 _ rfl
  have f2 := hx 2 _ rfl
  have f3 := hx 3 _ rfl
  have f4 := hx 4 _ rfl
  have f5 := hx 5 _ rfl
  have f6 := hx 6 _ rfl
  have f7 := hx 7 _ rfl
  have f8 := hx 8 _ rfl
  simp [k1, k2, k3, k4] at f0 f1 f2 f3 f4 f5 f6 f7 f8
  match xs, hlen with
  | [y0, y1, y2, y3, y4, y5, y6, y7, y8], _ =>
    simp at f0 f1 f2 f3 f4 f5 f6 f7 f8
    obtain ⟨nd, e0, _, w0⟩ := DataW.trod_int Try.underlying3 f0
    obtain ⟨zs, m2, _, _, _, hlen2, hz⟩ := DataW.trod_struct Try.underlying24 f1
    have g0 := hz 0 _ rfl
    have g1 := hz 1 _ rfl
    simp [k1] at g0 g1
    match zs, hlen2 with
    | [z0, z1], _ =>
      simp at g0 g1
      obtain ⟨px, e1, _⟩ := DataW.trod_int Try.underlying3 g0
      obtain ⟨py, e2, _⟩ := DataW.trod_int Try.underlying3 g1
      obtain ⟨hv, e3, _, w3⟩ := DataW.trod_string Try.underlying9 f2
      obtain ⟨wa, e4, _⟩ := DataW.trod_bool Try.underlying4 f3
      obtain ⟨op, e5, _⟩ := DataW.trod_bool Try.underlying4 f4
      obtain ⟨os, e6, _⟩ := DataW.trod_bool Try.underlying4 f5
      obtain ⟨se, e7, _⟩ := DataW.trod_int Try.underlying3 f6
      obtain ⟨nw, e8, _⟩ := DataW.trod_int Try.underlying3 f7
      obtain ⟨ra, e9, _, w9⟩ := DataW.trod_int Try.underlying3 f8
      simp at e0 e1 e2 e3 e4 e5 e6 e7 e8 e9
      subst e0 e1 e2 e3 e4 e5 e6 e7 e8 e9
      exact ⟨⟨nd, px, py, hv, wa, op, os, se, nw, ra⟩, rfl, w3, w0, w9⟩
set_option maxRecDepth 100000 in
theorem open_peers {H : Type} {enc : TypeId × Value → H} {W : World} {r : Reach} {b0 : Nat} {v : Value} {d : DataW H} {p : List MemPlace}
    (hval : Value.okWide Try.prog W r b0 22 v) (h : DataW.Trod enc Try.prog W 0 (fun _ => true) true 22 v d p) (hlt : ∀ x ∈ p, x.block < W.heap.size) :
    ∃ a0 l cap, v = .slice a0 (List.length (α := Pr) l) cap ∧ PrsAt W a0 l ∧ PrsOk l cap := by
  have ht := Try.underlying22
  have ce : Try.prog.cellsOf 48 = 10 := by kernel_rfl
  obtain ⟨a0, len, cap, rfl⟩ := okWide_slice ht hval
  obtain ⟨fuel, hf⟩ := h
  rcases open_slice ht hf with ⟨hcs, hx⟩ | ⟨a, len', cap', m, n, D, Pl, hcs, _, hl, hm, hmm, hx, each⟩
  · simp [Value.cells] at hcs
    obtain ⟨rfl, rfl, rfl⟩ := hcs
    exact ⟨none, [], 0, rfl, fun t c ht => by simp at ht, by simp, by unfold maxLen; omega, by simp⟩
  · simp [Value.cells] at hcs
    obtain ⟨rfl, rfl, rfl⟩ := hcs
    simp only [Prod.mk.injEq] at hx
    obtain ⟨rfl, rfl⟩ := hx
    simp only [if_true] at hmm
    have one : ∀ i, i < len → ∃ f : Pr, (∃ b off, some a = some ⟨b, off, none⟩ ∧ b < W.heap.size ∧ W.rangeAt b (off + i * 10) f.cl) ∧ PrOk f := by
      intro i hi
      obtain ⟨cs', h1, h2⟩ := each i (by omega)
      rw [ce] at h1
      obtain ⟨_, hlen, hcell⟩ := World.cells?_some h1
      obtain ⟨f, rfl, hs⟩ := pr_cells hlen h2
      obtain ⟨b, off, spot⟩ := a
      have hspot : spot = none := by
        obtain ⟨cs0, u1, u2⟩ := each 0 (by omega)
        rw [ce] at u1
        obtain ⟨_, ulen, ucell⟩ := World.cells?_some u1
        have u0 := ucell 0 (by omega)
        simp [Addr.add] at u0
        rw [List.getElem?_eq_getElem (show 0 < cs0.length by omega)] at u0
        exact World.cell?_spot u0
      subst hspot
      refine ⟨f, ⟨b, off, rfl, hlt (.cell b off) ?_, fun j v hv => ?_⟩, hs⟩
      · refine List.mem_append_left _ (MemPlace.mem_row.2 ⟨0, ?_, by simp⟩)
        rw [ce]
        omega
      · have hj : j < 10 := (List.getElem?_eq_some_iff.1 hv).1
        have k := hcell j hj
        rw [add_add, add_plain, hv] at k
        rw [Nat.add_assoc]
        exact k
    have hlen2 : ((List.range len).map fun i => if h : i < len then Classical.choose (one i h) else zP).length = len := by simp
    refine ⟨some a, (List.range len).map fun i => if h : i < len then Classical.choose (one i h) else zP, cap, by rw [hlen2], fun t c htc => ?_, by rw [hlen2]; omega, by omega, fun e hm => ?_⟩
    · have htl : t < len := by
        have := (List.getElem?_eq_some_iff.1 htc).1
        rwa [hlen2] at this
      have := (Classical.choose_spec (one t htl)).1
      rw [List.getElem?_map, List.getElem?_range htl, Option.map_some, Option.some.injEq, dif_pos htl] at htc
      rw [← htc]
      exact this
    · obtain ⟨i, hi, rfl⟩ := List.mem_map.1 hm
      have hi' := List.mem_range.1 hi
      rw [dif_pos hi']
      exact (Classical.choose_spec (one i hi')).2
/-- how one chooses: slots, the lot, the place -/
def howV (s lot x y : Int) : Value := .agg #[.int .i64 s, .int .i64 lot, .int .i64 x, .int .i64 y]
set_option maxRecDepth 100000 in
theorem open_how {H : Type} {enc : TypeId × Value → H} {W : World} {r : Reach} {b0 : Nat} {v : Value} {d : DataW H} {p : List MemPlace}
    (hval : Value.okWide Try.prog W r b0 26 v) (h : DataW.Trod enc Try.prog W 0 (fun _ => true) true 26 v d p) :
    ∃ s lot x y, v = howV s lot x y ∧ (Lit.int .i64 s).wf = true ∧ (Lit.int .i64 lot).wf = true ∧ (Lit.int .i64 x).wf = true ∧ (Lit.int .i64 y).wf = true := by
  obtain ⟨cs, rfl, hsz⟩ := okWide_struct Try.underlying26 hval
  obtain ⟨fuel, hf⟩ := h
  have k : Try.prog.cellsOf 26 = 4 := by kernel_rfl
  have k1 : Try.prog.cellsOf 3 = 1 := by kernel_rfl
  have k2 : Try.prog.cellsOf 24 = 2 := by kernel_rfl
  rw [k] at hsz
  obtain ⟨l⟩ := cs
  simp at hsz
  match l, hsz with
  | [c0, c1, c2, c3], _ =>
    have hf2 : DataW.trod enc Try.prog W 0 (fun _ => true) true fuel 26 [c0, c1, c2, c3] = some (d, p) := hf
    obtain ⟨xs, m, _, _, _, hlen, hx⟩ := DataW.trod_struct Try.underlying26 hf2
    have f0 := hx 0 _ rfl
    have f1 := hx 1 _ rfl
    have f2 := hx 2 _ rfl
    simp [k1, k2] at f0 f1 f2
    match xs, hlen with
    | [y0, y1, y2], _ =>
      simp at f0 f1 f2
      obtain ⟨s, e0, _, w0⟩ := DataW.trod_int Try.underlying3 f0
      obtain ⟨lot, e1, _, w1⟩ := DataW.trod_int Try.underlying3 f1
      obtain ⟨zs, m2, _, _, _, hlen2, hz⟩ := DataW.trod_struct Try.underlying24 f2
      have g0 := hz 0 _ rfl
      have g1 := hz 1 _ rfl
      simp [k1] at g0 g1
      match zs, hlen2 with
      | [z0, z1], _ =>
        try simp at g0 g1
        obtain ⟨px, e2, _, w2⟩ := DataW.trod_int Try.underlying3 g0
        obtain ⟨py, e3, _, w3⟩ := DataW.trod_int Try.underlying3 g1
        simp at e0 e1 e2 e3
        subst e0 e1 e2 e3
        exact ⟨s, lot, px, py, rfl, w0, w1, w2, w3⟩
end Go.Proofs.Ytjndgglbapghhaa

/- An argument that is an act on a net, and a row of such, opened. -/
import Derived.Test.YtmnjngkdiinnfaaLib
import Derived.ProofKit
import Derived.OpenShut
import Derived.Deep.Slices
import Derived.Deep.MidRow
import Derived.ChangeOld
import Derived.Deep.Strs
import Derived.ChangeSame
namespace Go.Proofs.Ytmnjngkdiinnfaa
open Go.ChangeShapes Go.WideShapes Go.ChangeAt Go.RowKit Go.Deep
set_option linter.unusedVariables false

/-- an act -/
structure Na where
  kd : Int
  id : Int
  fr : Int
  to : Int
  tx : ByteArray
def Na.cl (p : Na) : List Value := [.int .i64 p.kd, .int .i64 p.id, .int .i64 p.fr, .int .i64 p.to, .string p.tx]
def NasAt (w : World) (a0 : Option Addr) (l : List Na) : Prop := ∀ t c, l[t]? = some c → ∃ g o, a0 = some ⟨g, o, none⟩ ∧ g < w.heap.size ∧ w.rangeAt g (o + t * 5) c.cl
def NaOk (p : Na) : Prop := p.tx.size ≤ maxLen ∧ (Lit.int .i64 p.id).wf = true
def NasOk (l : List Na) (c : Nat) : Prop := l.length ≤ c ∧ c ≤ maxLen ∧ ∀ p ∈ l, NaOk p
theorem list5 {α : Type} {l : List α} (h : l.length = 5) : ∃ a b c d e, l = [a, b, c, d, e] := by
  match l, h with
  | [a, b, c, d, e], _ => exact ⟨a, b, c, d, e, rfl⟩
theorem na_cells {H : Type} {enc : TypeId × Value → H} {W : World} {fuel : Nat} {cs : List Value} {x : DataW H × List MemPlace} (hsz : cs.length = 5) (hf : DataW.trod enc Try.prog W 0 (fun _ => true) true fuel 32 cs = some x) :
    ∃ p : Na, cs = p.cl ∧ NaOk p := by
  have k1 : Try.prog.cellsOf 3 = 1 := by kernel_rfl
  have k2 : Try.prog.cellsOf 30 = 3 := by kernel_rfl
  have k3 : Try.prog.cellsOf 9 = 1 := by kernel_rfl
  obtain ⟨c0, c1, c2, c3, c4, rfl⟩ := list5 hsz
  obtain ⟨xs, m, _, _, _, hlen, hx⟩ := DataW.trod_struct Try.underlying32 hf
  have f0 := hx 0 _ rfl
  have f1 := hx 1 _ rfl
  have f2 := hx 2 _ rfl
  simp [k1, k2] at f0 f1 f2
  match xs, hlen with
  | [y0, y1, y2], _ =>
    simp at f0 f1 f2
    obtain ⟨kd, e0, _⟩ := DataW.trod_int Try.underlying3 f0
    obtain ⟨id, e1, _, w1⟩ := DataW.trod_int Try.underlying3 f1
    obtain ⟨zs, m2, _, _, _, hlen2, hz⟩ := DataW.trod_struct Try.underlying30 f2
    have g0 := hz 0 _ rfl
    have g1 := hz 1 _ rfl
    have g2 := hz 2 _ rfl
    simp [k1, k3] at g0 g1 g2
    match zs, hlen2 with
    | [z0, z1, z2], _ =>
      simp at g0 g1 g2
      obtain ⟨fr, e2, _⟩ := DataW.trod_int Try.underlying3 g0
      obtain ⟨to, e3, _⟩ := DataW.trod_int Try.underlying3 g1
      obtain ⟨tx, e4, _, w4⟩ := DataW.trod_string Try.underlying9 g2
      simp at e0 e1 e2 e3 e4
      subst e0 e1 e2 e3 e4
      exact ⟨⟨kd, id, fr, to, tx⟩, rfl, w4, w1⟩
theorem open_nact {H : Type} {enc : TypeId × Value → H} {W : World} {r : Reach} {b0 : Nat} {v : Value} {d : DataW H} {p : List MemPlace}
    (hval : Value.okWide Try.prog W r b0 32 v) (h : DataW.Trod enc Try.prog W 0 (fun _ => true) true 32 v d p) :
    ∃ p : Na, v = .agg p.cl.toArray ∧ NaOk p := by
  obtain ⟨cs, rfl, hsz⟩ := okWide_struct Try.underlying32 hval
  obtain ⟨fuel, hf⟩ := h
  have k : Try.prog.cellsOf 32 = 5 := by kernel_rfl
  rw [k] at hsz
  obtain ⟨l⟩ := cs
  obtain ⟨c0, c1, c2, c3, c4, rfl⟩ := list5 (by simpa using hsz)
  obtain ⟨p, h1, h2⟩ := na_cells (cs := [c0, c1, c2, c3, c4]) rfl hf
  rw [h1]
  exact ⟨p, rfl, h2⟩
theorem open_nacts {H : Type} {enc : TypeId × Value → H} {W : World} {r : Reach} {b0 : Nat} {v : Value} {d : DataW H} {p : List MemPlace}
    (hval : Value.okWide Try.prog W r b0 22 v) (h : DataW.Trod enc Try.prog W 0 (fun _ => true) true 22 v d p) (hlt : ∀ x ∈ p, x.block < W.heap.size) :
    ∃ a0 l cap, v = .slice a0 (List.length (α := Na) l) cap ∧ NasAt W a0 l ∧ NasOk l cap := by
  have ht := Try.underlying22
  have ce : Try.prog.cellsOf 32 = 5 := by kernel_rfl
  obtain ⟨a0, len, cap, rfl⟩ := okWide_slice ht hval
  obtain ⟨fuel, hf⟩ := h
  rcases open_slice ht hf with ⟨hcs, hx⟩ | ⟨a, len', cap', m, n, D, Pl, hcs, _, hl, hm, hmm, hx, each⟩
  · simp [Value.cells] at hcs
    obtain ⟨rfl, rfl, rfl⟩ := hcs
    exact ⟨none, [], 0, rfl, fun t c ht => by simp at ht, by simp, by unfold maxLen; omega, by simp⟩
  · simp [Value.cells] at hcs
    obtain ⟨rfl, rfl, rfl⟩ := hcs
    simp only [Prod.mk.injEq] at hx
    obtain ⟨rfl, rfl⟩ := hx
    simp only [if_true] at hmm
    have one : ∀ i, i < len → ∃ f : Na, (∃ b off, some a = some ⟨b, off, none⟩ ∧ b < W.heap.size ∧ W.rangeAt b (off + i * 5) f.cl) ∧ NaOk f := by
      intro i hi
      obtain ⟨cs', h1, h2⟩ := each i (by omega)
      rw [ce] at h1
      obtain ⟨_, hlen, hcell⟩ := World.cells?_some h1
      obtain ⟨f, rfl, hs⟩ := na_cells hlen h2
      obtain ⟨b, off, spot⟩ := a
      have hspot : spot = none := by
        obtain ⟨cs0, u1, u2⟩ := each 0 (by omega)
        rw [ce] at u1
        obtain ⟨_, ulen, ucell⟩ := World.cells?_some u1
        have u0 := ucell 0 (by omega)
        simp [Addr.add] at u0
        rw [List.getElem?_eq_getElem (show 0 < cs0.length by omega)] at u0
        exact World.cell?_spot u0
      subst hspot
      refine ⟨f, ⟨b, off, rfl, hlt (.cell b off) ?_, fun j v hv => ?_⟩, hs⟩
      · refine List.mem_append_left _ (MemPlace.mem_row.2 ⟨0, ?_, by simp⟩)
        rw [ce]
        omega
      · have hj : j < 5 := (List.getElem?_eq_some_iff.1 hv).1
        have k := hcell j hj
        rw [add_add, add_plain, hv] at k
        rw [Nat.add_assoc]
        exact k
    have hlen2 : ((List.range len).map fun i => if h : i < len then Classical.choose (one i h) else (⟨0, 0, 0, 0, ⟨#[]⟩⟩ : Na)).length = len := by simp
    refine ⟨some a, (List.range len).map fun i => if h : i < len then Classical.choose (one i h) else ⟨0, 0, 0, 0, ⟨#[]⟩⟩, cap, by rw [hlen2], fun t c htc => ?_, by rw [hlen2]; omega, by omega, fun e hm => ?_⟩
    · have htl : t < len := by
        have := (List.getElem?_eq_some_iff.1 htc).1
        rwa [hlen2] at this
      have := (Classical.choose_spec (one t htl)).1
      rw [List.getElem?_map, List.getElem?_range htl, Option.map_some, Option.some.injEq, dif_pos htl] at htc
      rw [← htc]
      exact this
    · obtain ⟨i, hi, rfl⟩ := List.mem_map.1 hm
      have hi' := List.mem_range.1 hi
      rw [dif_pos hi']
      exact (Classical.choose_spec (one i hi')).2
end Go.Proofs.Ytmnjngkdiinnfaa

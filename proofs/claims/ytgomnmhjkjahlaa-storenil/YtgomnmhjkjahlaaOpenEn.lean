/- Arguments that are entries, slices of entries, slices of acts, opened. -/
import Derived.Test.YtgomnmhjkjahlaaStI
import Derived.ProofKit
import Derived.OpenShut
import Derived.Deep.Slices
import Derived.ChangeOld
import Derived.Deep.Strs
import Derived.ChangeSame
namespace Go.Proofs.Ytgomnmhjkjahlaa
open Go.ChangeShapes Go.WideShapes Go.ChangeAt Go.RowKit Go.Deep
set_option linter.unusedVariables false

/-- an entry that was handed in -/
structure RawOk (W : World) (r : Raw) : Prop where
  ints : Ints W r.a0 r.idx
  len : r.idx.length ≤ maxLen
  hv : r.hv.size ≤ maxLen
  dt : r.dt.size ≤ maxLen
  w0 : (Lit.int .i64 r.id).wf = true
  w1 : (Lit.int .i64 r.peer).wf = true
  w2 : (Lit.int .i64 r.mode).wf = true
  w3 : (Lit.int .i64 r.seed).wf = true
theorem RawOk.below {w w' : World} {r : Raw} (h : RawOk w r) (hb : Below w.heap.size w w') : RawOk w' r := ⟨h.ints.below hb, h.len, h.hv, h.dt, h.w0, h.w1, h.w2, h.w3⟩
theorem RawOk.lt {w : World} {r : Raw} (h : RawOk w r) (hn : r.idx ≠ []) (a : Addr) (ha : r.a0 = some a) : a.block < w.heap.size := by
  obtain ⟨g, o, e, hc⟩ := h.ints 0 (List.length_pos_iff.2 hn)
  rw [ha] at e
  cases e
  exact cell_lt hc
theorem trod_struct5 {H : Type} {enc : TypeId × Value → H} {P : Program} {w : World} {base : Nat} {spare : Nat → Bool} {held : Bool} {t : TypeId} {f0 f1 f2 f3 f4 : Field} {fuel : Nat} {cs : List Value} {x : DataW H × List MemPlace} (ht : P.underlying t = some (.struct #[f0, f1, f2, f3, f4])) (h : DataW.trod enc P w base spare held fuel t cs = some x) :
    ∃ y0 y1 y2 y3 y4 n, cs.length = P.cellsOf t ∧ DataW.trod enc P w base spare held n f0.type ((cs.drop f0.offset).take (P.cellsOf f0.type)) = some y0 ∧
      DataW.trod enc P w base spare held n f1.type ((cs.drop f1.offset).take (P.cellsOf f1.type)) = some y1 ∧ DataW.trod enc P w base spare held n f2.type ((cs.drop f2.offset).take (P.cellsOf f2.type)) = some y2 ∧
      DataW.trod enc P w base spare held n f3.type ((cs.drop f3.offset).take (P.cellsOf f3.type)) = some y3 ∧ DataW.trod enc P w base spare held n f4.type ((cs.drop f4.offset).take (P.cellsOf f4.type)) = some y4 := by
  obtain ⟨xs, n, _, rfl, hl, hlen, hf⟩ := DataW.trod_struct ht h
  match xs, hlen with
  | [y0, y1, y2, y3, y4], _ => exact ⟨y0, y1, y2, y3, y4, n, hl, by simpa using hf 0 f0 rfl, by simpa using hf 1 f1 rfl, by simpa using hf 2 f2 rfl, by simpa using hf 3 f3 rfl, by simpa using hf 4 f4 rfl⟩
theorem ints_cell {H : Type} {enc : TypeId × Value → H} {P : Program} {W : World} {t e : TypeId} {v : Value} {fuel : Nat} {x : DataW H × List MemPlace}
    (ht : P.underlying t = some (.slice e)) (he : P.underlying e = some (.int .i64)) (hc : P.cellsOf e = 1) (hf : DataW.trod enc P W 0 (fun _ => true) true fuel t [v] = some x) :
    ∃ a0 l cap, v = .slice a0 (List.length (α := Int) l) cap ∧ Ints W a0 l ∧ l.length ≤ maxLen := by
  rcases open_ints ht he hc hf with ⟨hcs, hx⟩ | ⟨a, len, cap, zs, hcs, _, hl, hm, hz, hx, hcell, hwz⟩
  · simp at hcs
    subst hcs
    exact ⟨none, [], 0, rfl, fun i hi => absurd hi (by simp), by simp⟩
  · simp at hcs
    subst hcs
    simp only [if_true] at hz
    have hlen : (zs.take len).length = len := by rw [List.length_take]; omega
    refine ⟨some a, zs.take len, cap, by rw [hlen], fun i hi => ?_, by rw [hlen]; omega⟩
    rw [hlen] at hi
    obtain ⟨b, off, spot⟩ := a
    have hspot : spot = none := by simpa [Addr.add] using World.cell?_spot (hcell 0 (by omega))
    subst hspot
    refine ⟨b, off, rfl, ?_⟩
    rw [← add_plain, hcell i (by omega)]
    have hi2 : i < zs.length := by omega
    have : zs.getD i 0 = zs[i] := by simp [List.getD, hi2]
    rw [this, List.getElem_take]
theorem list7q {α : Type} {l : List α} (h : l.length = 7) : ∃ a b c d e f g, l = [a, b, c, d, e, f, g] := by
  match l, h with
  | [a, b, c, d, e, f, g], _ => exact ⟨a, b, c, d, e, f, g, rfl⟩
theorem ent_cells {H : Type} {enc : TypeId × Value → H} {W : World} {fuel : Nat} {cs : List Value} {x : DataW H × List MemPlace} (hl : cs.length = 7) (h : DataW.trod enc Try.prog W 0 (fun _ => true) true fuel 34 cs = some x) :
    ∃ r : Raw, cs = (rawC r).toList ∧ RawOk W r := by
  obtain ⟨c0, c1, c2, c3, c4, c5, c6, rfl⟩ := list7q hl
  obtain ⟨y0, y1, y2, y3, y4, n, _, h0, h1, h2, h3, h4⟩ := trod_struct5 Try.underlying34 h
  have k1 : Try.prog.cellsOf 3 = 1 := by kernel_rfl
  have k2 : Try.prog.cellsOf 31 = 3 := by kernel_rfl
  have k3 : Try.prog.cellsOf 32 = 1 := by kernel_rfl
  have k4 : Try.prog.cellsOf 9 = 1 := by kernel_rfl
  simp only [k1, k2, k3, k4, List.drop_zero, List.drop_succ_cons, List.take_succ_cons, List.take_zero] at h0 h1 h2 h3 h4
  obtain ⟨z0, z1, z2, m, _, _, g0, g1, g2⟩ := trod_struct3 Try.underlying31 h2
  simp only [k1, k4, List.drop_zero, List.drop_succ_cons, List.take_succ_cons, List.take_zero] at g0 g1 g2
  obtain ⟨a, e0, _, wa⟩ := DataW.trod_int Try.underlying3 h0
  obtain ⟨b, e1, _, wb⟩ := DataW.trod_int Try.underlying3 h1
  obtain ⟨c, e2, _, wc⟩ := DataW.trod_int Try.underlying3 g0
  obtain ⟨d, e3, _, wd⟩ := DataW.trod_int Try.underlying3 g1
  obtain ⟨s, e4, _, ws⟩ := DataW.trod_string Try.underlying9 g2
  obtain ⟨a0, l, cap, e5, hI, hll⟩ := ints_cell Try.underlying32 Try.underlying3 k1 h3
  obtain ⟨u, e6, _, wu⟩ := DataW.trod_string Try.underlying9 h4
  simp only [List.cons.injEq, and_true] at e0 e1 e2 e3 e4 e6
  subst e0 e1 e2 e3 e4 e5 e6
  exact ⟨⟨a, b, c, d, s, a0, l, cap, u⟩, rfl, hI, hll, ws, wu, wa, wb, wc, wd⟩
set_option maxRecDepth 100000 in
theorem open_entry {H : Type} {enc : TypeId × Value → H} {W : World} {r : Reach} {b0 : Nat} {v : Value} {d : DataW H} {p : List MemPlace}
    (hval : Value.okWide Try.prog W r b0 34 v) (h : DataW.Trod enc Try.prog W 0 (fun _ => true) true 34 v d p) : ∃ x : Raw, v = rawV x ∧ RawOk W x := by
  obtain ⟨cs, rfl, hsz⟩ := okWide_struct Try.underlying34 hval
  obtain ⟨fuel, hf⟩ := h
  have k : Try.prog.cellsOf 34 = 7 := by kernel_rfl
  rw [k] at hsz
  obtain ⟨x, e, hx⟩ := ent_cells (cs := cs.toList) (by simpa using hsz) hf
  exact ⟨x, by rw [Array.toList_inj.1 e], hx⟩
end Go.Proofs.Ytgomnmhjkjahlaa

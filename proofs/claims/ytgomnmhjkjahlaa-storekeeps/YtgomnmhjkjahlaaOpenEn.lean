/- Arguments that are entries, slices of entries, slices of acts, opened. -/
import Derived.Test.YtgomnmhjkjahlaaStL
import Derived.ProofKit
import Derived.OpenShut
import Derived.Deep.Slices
import Derived.ChangeOld
import Derived.Deep.Strs
import Derived.ChangeSame
namespace Go.Proofs.Ytgomnmhjkjahlaa
open Go.ChangeShapes Go.WideShapes Go.ChangeAt Go.RowKit Go.Deep
set_option linter.unusedVariables false

theorem trod_struct5 {H : Type} {enc : TypeId × Value → H} {P : Program} {w : World} {base : Nat} {spare : Nat → Bool} {held : Bool} {t : TypeId} {f0 f1 f2 f3 f4 : Field} {fuel : Nat} {cs : List Value} {x : DataW H × List MemPlace} (ht : P.underlying t = some (.struct #[f0, f1, f2, f3, f4])) (h : DataW.trod enc P w base spare held fuel t cs = some x) :
    ∃ y0 y1 y2 y3 y4 n, cs.length = P.cellsOf t ∧ DataW.trod enc P w base spare held n f0.type ((cs.drop f0.offset).take (P.cellsOf f0.type)) = some y0 ∧
      DataW.trod enc P w base spare held n f1.type ((cs.drop f1.offset).take (P.cellsOf f1.type)) = some y1 ∧ DataW.trod enc P w base spare held n f2.type ((cs.drop f2.offset).take (P.cellsOf f2.type)) = some y2 ∧
      DataW.trod enc P w base spare held n f3.type ((cs.drop f3.offset).take (P.cellsOf f3.type)) = some y3 ∧ DataW.trod enc P w base spare held n f4.type ((cs.drop f4.offset).take (P.cellsOf f4.type)) = some y4 := by
  obtain ⟨xs, n, _, rfl, hl, hlen, hf⟩ := DataW.trod_struct ht h
  match xs, hlen with
  | [y0, y1, y2, y3, y4], _ => exact ⟨y0, y1, y2, y3, y4, n, hl, by simpa using hf 0 f0 rfl, by simpa using hf 1 f1 rfl, by simpa using hf 2 f2 rfl, by simpa using hf 3 f3 rfl, by simpa using hf 4 f4 rfl⟩
theorem ints_cell {H : Type} {enc : TypeId × Value → H} {P : Program} {W : World} {t e : TypeId} {v : Value} {fuel : Nat} {x : DataW H × List MemPlace}
    (ht : P.underlying t = some (.slice e)) (he : P.underlying e = some (.int .i64)) (hc : P.cellsOf e = 1) (hf : DataW.trod enc P W 0 (fun _ => true) true fuel t [v] = some x) :
    ∃ a0 l cap, v = .slice a0 (List.length (α := Int) l) cap ∧ Ints W a0 l ∧ l.length ≤ maxLen := by
  rcases open_ints ht he hc hf with ⟨hcs, hx⟩ | ⟨a, len, cap, zs, hcs, _, hl, hm, hz, hx, hcell, hwz⟩
  · simp at hcs
    subst hcs
    exact ⟨none, [], 0, rfl, fun i hi => absurd hi (by simp), by simp⟩
  · simp at hcs
    subst hcs
    simp only [if_true] at hz
    have hlen : (zs.take len).length = len := by rw [List.length_take]; omega
    refine ⟨some a, zs.take len, cap, by rw [hlen], fun i hi => ?_, by rw [hlen]; omega⟩
    rw [hlen] at hi
    obtain ⟨b, off, spot⟩ := a
    have hspot : spot = none := by simpa [Addr.add] using World.cell?_spot (hcell 0 (by omega))
    subst hspot
    refine ⟨b, off, rfl, ?_⟩
    rw [← add_plain, hcell i (by omega)]
    have hi2 : i < zs.length := by omega
    have : zs.getD i 0 = zs[i] := by simp [List.getD, hi2]
    rw [this, List.getElem_take]
theorem list7q {α : Type} {l : List α} (h : l.length = 7) : ∃ a b c d e f g, l = [a, b, c, d, e, f, g] := by
  match l, h with
  | [a, b, c, d, e, f, g], _ => exact ⟨a, b, c, d, e, f, g, rfl⟩
theorem ent_cells {H : Type} {enc : TypeId × Value → H} {W : World} {fuel : Nat} {cs : List Value} {x : DataW H × List MemPlace} (hl : cs.length = 7) (h : DataW.trod enc Try.prog W 0 (fun _ => true) true fuel 34 cs = some x) :
    ∃ r : Raw, cs = (rawC r).toList ∧ RawOk W r := by
  obtain ⟨c0, c1, c2, c3, c4, c5, c6, rfl⟩ := list7q hl
  obtain ⟨y0, y1, y2, y3, y4, n, _, h0, h1, h2, h3, h4⟩ := trod_struct5 Try.underlying34 h
  have k1 : Try.prog.cellsOf 3 = 1 := by kernel_rfl
  have k2 : Try.prog.cellsOf 31 = 3 := by kernel_rfl
  have k3 : Try.prog.cellsOf 32 = 1 := by kernel_rfl
  have k4 : Try.prog.cellsOf 9 = 1 := by kernel_rfl
  simp only [k1, k2, k3, k4, List.drop_zero, List.drop_succ_cons, List.take_succ_cons, List.take_zero] at h0 h1 h2 h3 h4
  obtain ⟨z0, z1, z2, m, _, _, g0, g1, g2⟩ := trod_struct3 Try.underlying31 h2
  simp only [k1, k4, List.drop_zero, List.drop_succ_cons, List.take_succ_cons, List.take_zero] at g0 g1 g2
  obtain ⟨a, e0, _, wa⟩ := DataW.trod_int Try.underlying3 h0
  obtain ⟨b, e1, _, wb⟩ := DataW.trod_int Try.underlying3 h1
  obtain ⟨c, e2, _, wc⟩ := DataW.trod_int Try.underlying3 g0
  obtain ⟨d, e3, _, wd⟩ := DataW.trod_int Try.underlying3 g1
  obtain ⟨s, e4, _, ws⟩ := DataW.trod_string Try.underlying9 g2
  obtain ⟨a0, l, cap, e5, hI, hll⟩ := ints_cell Try.underlying32 Try.underlying3 k1 h3
  obtain ⟨u, e6, _, wu⟩ := DataW.trod_string Try.underlying9 h4
  simp only [List.cons.injEq, and_true] at e0 e1 e2 e3 e4 e6
  subst e0 e1 e2 e3 e4 e5 e6
  exact ⟨⟨a, b, c, d, s, a0, l, cap, u⟩, rfl, hI, hll, ws, wu, wa, wb, wc, wd⟩
set_option maxRecDepth 100000 in
theorem open_entry {H : Type} {enc : TypeId × Value → H} {W : World} {r : Reach} {b0 : Nat} {v : Value} {d : DataW H} {p : List MemPlace}
    (hval : Value.okWide Try.prog W r b0 34 v) (h : DataW.Trod enc Try.prog W 0 (fun _ => true) true 34 v d p) : ∃ x : Raw, v = rawV x ∧ RawOk W x := by
  obtain ⟨cs, rfl, hsz⟩ := okWide_struct Try.underlying34 hval
  obtain ⟨fuel, hf⟩ := h
  have k : Try.prog.cellsOf 34 = 7 := by kernel_rfl
  rw [k] at hsz
  obtain ⟨x, e, hx⟩ := ent_cells (cs := cs.toList) (by simpa using hsz) hf
  exact ⟨x, by rw [Array.toList_inj.1 e], hx⟩
/-- entries that were handed in -/
def EntsOk (W : World) (l : List Raw) (c : Nat) : Prop := l.length ≤ c ∧ c ≤ maxLen ∧ ∀ r ∈ l, RawOk W r
theorem cells7_at {W : World} {b o : Nat} {r : Raw} (h : ∀ j, j < 7 → W.cell? ⟨b, o + j, none⟩ = (rawC r).toList[j]?) : EntAt W b o r :=
  ⟨h 0 (by omega), h 1 (by omega), h 2 (by omega), h 3 (by omega), h 4 (by omega), h 5 (by omega), h 6 (by omega)⟩
set_option maxRecDepth 100000 in
theorem open_entrys {H : Type} {enc : TypeId × Value → H} {W : World} {r : Reach} {b0 : Nat} {v : Value} {d : DataW H} {p : List MemPlace}
    (hval : Value.okWide Try.prog W r b0 55 v) (h : DataW.Trod enc Try.prog W 0 (fun _ => true) true 55 v d p) :
    ∃ a0 l cap, v = .slice a0 (List.length (α := Raw) l) cap ∧ EntsA W a0 l ∧ EntsOk W l cap := by
  have ce : Try.prog.cellsOf 34 = 7 := by kernel_rfl
  obtain ⟨a0, len, cap, rfl⟩ := okWide_slice Try.undEn hval
  obtain ⟨fuel, hf⟩ := h
  rcases open_slice Try.undEn hf with ⟨hcs, hx⟩ | ⟨a, len', cap', m, n, D, Pl, hcs, _, hl, hm, hmm, hx, each⟩
  · simp [Value.cells] at hcs
    obtain ⟨rfl, rfl, rfl⟩ := hcs
    exact ⟨none, [], 0, rfl, fun i hi => absurd hi (by simp), by simp, by unfold maxLen; omega, by simp⟩
  · simp [Value.cells] at hcs
    obtain ⟨rfl, rfl, rfl⟩ := hcs
    simp only [if_true] at hmm
    have one : ∀ i, i < len → ∃ x : Raw, (∃ b off, some a = some ⟨b, off, none⟩ ∧ EntAt W b (off + i * 7) x) ∧ RawOk W x := by
      intro i hi
      obtain ⟨cs', h1, h2⟩ := each i (by omega)
      rw [ce] at h1
      obtain ⟨_, hlen, hcell⟩ := World.cells?_some h1
      obtain ⟨x, rfl, hx'⟩ := ent_cells hlen h2
      obtain ⟨b, off, spot⟩ := a
      have hspot : spot = none := by
        obtain ⟨cs0, u1, u2⟩ := each 0 (by omega)
        rw [ce] at u1
        obtain ⟨_, ulen, ucell⟩ := World.cells?_some u1
        have u0 := ucell 0 (by omega)
        simp [Addr.add] at u0
        rw [List.getElem?_eq_getElem (show 0 < cs0.length by omega)] at u0
        exact World.cell?_spot u0
      subst hspot
      refine ⟨x, ⟨b, off, rfl, cells7_at fun j hj => ?_⟩, hx'⟩
      have k := hcell j hj
      rw [add_add, add_plain] at k
      rw [Nat.add_assoc]
      exact k
    have hlen : ((List.range len).map fun i => if h : i < len then Classical.choose (one i h) else (⟨0, 0, 0, 0, ⟨#[]⟩, none, [], 0, ⟨#[]⟩⟩ : Raw)).length = len := by simp
    refine ⟨some a, (List.range len).map (fun i => if h : i < len then Classical.choose (one i h) else (⟨0, 0, 0, 0, ⟨#[]⟩, none, [], 0, ⟨#[]⟩⟩ : Raw)), cap, by rw [hlen], ?_, by rw [hlen]; exact hl, hm, ?_⟩
    · intro i hi
      have hi' : i < len := by rw [hlen] at hi; exact hi
      obtain ⟨⟨b, off, hb, x1⟩, _⟩ := Classical.choose_spec (one i hi')
      have e9 : ((List.range len).map (fun i => if h : i < len then Classical.choose (one i h) else (⟨0, 0, 0, 0, ⟨#[]⟩, none, [], 0, ⟨#[]⟩⟩ : Raw)))[i] = Classical.choose (one i hi') := by simp [hi']
      exact ⟨b, off, hb, by rw [e9]; exact x1⟩
    · intro x hx'
      obtain ⟨i, hi, rfl⟩ := List.mem_map.1 hx'
      have hi' := List.mem_range.1 hi
      rw [dif_pos hi']
      exact (Classical.choose_spec (one i hi')).2
/-- an act: what, a number, an entry -/
structure ActR where
  kind : Int
  n : Int
  x : Raw
/-- acts in a row -/
def ActsA (w : World) (a0 : Option Addr) (l : List ActR) : Prop := ∀ i (h : i < l.length), ∃ g o, a0 = some ⟨g, o, none⟩ ∧ w.cell? ⟨g, o + i * 9, none⟩ = some (.int .i64 l[i].kind) ∧ w.cell? ⟨g, o + i * 9 + 1, none⟩ = some (.int .i64 l[i].n) ∧ EntAt w g (o + i * 9 + 2) l[i].x
theorem ActsA.below {w w' : World} {a0 : Option Addr} {l : List ActR} (h : ActsA w a0 l) (hb : Below w.heap.size w w') : ActsA w' a0 l := fun i hi => by
  obtain ⟨g, o, e, h1, h2, h3⟩ := h i hi
  have hg := hb.block g (cell_lt h1)
  exact ⟨g, o, e, cell_same hg h1, cell_same hg h2, h3.same hg⟩
def ActsOk (W : World) (l : List ActR) (c : Nat) : Prop := l.length ≤ c ∧ c ≤ maxLen ∧ ∀ x ∈ l, RawOk W x.x ∧ (Lit.int .i64 x.kind).wf = true ∧ (Lit.int .i64 x.n).wf = true
theorem Try.undAct : Try.prog.underlying 22 = some (.slice 36) := by kernel_rfl
theorem act_cells {H : Type} {enc : TypeId × Value → H} {W : World} {fuel : Nat} {cs : List Value} {x : DataW H × List MemPlace} (hl : cs.length = 9) (h : DataW.trod enc Try.prog W 0 (fun _ => true) true fuel 36 cs = some x) :
    ∃ r : ActR, cs = .int .i64 r.kind :: .int .i64 r.n :: (rawC r.x).toList ∧ RawOk W r.x ∧ (Lit.int .i64 r.kind).wf = true ∧ (Lit.int .i64 r.n).wf = true := by
  match cs, hl with
  | c0 :: c1 :: rest, hl =>
    have hr : rest.length = 7 := by simpa using hl
    obtain ⟨y0, y1, y2, n, _, _, h0, h1, h2⟩ := trod_struct3 Try.underlying36 h
    have k1 : Try.prog.cellsOf 3 = 1 := by kernel_rfl
    have k2 : Try.prog.cellsOf 34 = 7 := by kernel_rfl
    simp only [k1, k2, List.drop_zero, List.drop_succ_cons, List.take_succ_cons, List.take_zero] at h0 h1 h2
    rw [List.take_of_length_le (by omega)] at h2
    obtain ⟨a, e0, _, wa⟩ := DataW.trod_int Try.underlying3 h0
    obtain ⟨b, e1, _, wb⟩ := DataW.trod_int Try.underlying3 h1
    obtain ⟨r, rfl, hr2⟩ := ent_cells hr h2
    simp only [List.cons.injEq, and_true] at e0 e1
    subst e0 e1
    exact ⟨⟨a, b, r⟩, rfl, hr2, wa, wb⟩
set_option maxRecDepth 100000 in
theorem open_acts {H : Type} {enc : TypeId × Value → H} {W : World} {r : Reach} {b0 : Nat} {v : Value} {d : DataW H} {p : List MemPlace}
    (hval : Value.okWide Try.prog W r b0 22 v) (h : DataW.Trod enc Try.prog W 0 (fun _ => true) true 22 v d p) :
    ∃ a0 l cap, v = .slice a0 (List.length (α := ActR) l) cap ∧ ActsA W a0 l ∧ ActsOk W l cap := by
  have ce : Try.prog.cellsOf 36 = 9 := by kernel_rfl
  obtain ⟨a0, len, cap, rfl⟩ := okWide_slice Try.undAct hval
  obtain ⟨fuel, hf⟩ := h
  rcases open_slice Try.undAct hf with ⟨hcs, hx⟩ | ⟨a, len', cap', m, n, D, Pl, hcs, _, hl, hm, hmm, hx, each⟩
  · simp [Value.cells] at hcs
    obtain ⟨rfl, rfl, rfl⟩ := hcs
    exact ⟨none, [], 0, rfl, fun i hi => absurd hi (by simp), by simp, by unfold maxLen; omega, by simp⟩
  · simp [Value.cells] at hcs
    obtain ⟨rfl, rfl, rfl⟩ := hcs
    simp only [if_true] at hmm
    have one : ∀ i, i < len → ∃ x : ActR, (∃ b off, some a = some ⟨b, off, none⟩ ∧ W.cell? ⟨b, off + i * 9, none⟩ = some (.int .i64 x.kind) ∧ W.cell? ⟨b, off + i * 9 + 1, none⟩ = some (.int .i64 x.n) ∧ EntAt W b (off + i * 9 + 2) x.x) ∧ RawOk W x.x ∧ (Lit.int .i64 x.kind).wf = true ∧ (Lit.int .i64 x.n).wf = true := by
      intro i hi
      obtain ⟨cs', h1, h2⟩ := each i (by omega)
      rw [ce] at h1
      obtain ⟨_, hlen, hcell⟩ := World.cells?_some h1
      obtain ⟨x, rfl, hx'⟩ := act_cells hlen h2
      obtain ⟨b, off, spot⟩ := a
      have hspot : spot = none := by
        obtain ⟨cs0, u1, u2⟩ := each 0 (by omega)
        rw [ce] at u1
        obtain ⟨_, ulen, ucell⟩ := World.cells?_some u1
        have u0 := ucell 0 (by omega)
        simp [Addr.add] at u0
        rw [List.getElem?_eq_getElem (show 0 < cs0.length by omega)] at u0
        exact World.cell?_spot u0
      subst hspot
      have kk : ∀ j, j < 9 → W.cell? ⟨b, off + i * 9 + j, none⟩ = (Value.int .i64 x.kind :: Value.int .i64 x.n :: (rawC x.x).toList)[j]? := fun j hj => by
        have k := hcell j hj
        rw [add_add, add_plain] at k
        rw [Nat.add_assoc]
        exact k
      refine ⟨x, ⟨b, off, rfl, kk 0 (by omega), kk 1 (by omega), cells7_at fun j hj => ?_⟩, hx'⟩
      rw [Nat.add_assoc, kk (2 + j) (by omega), Nat.add_comm 2 j]
      rfl
    have hlen : ((List.range len).map fun i => if h : i < len then Classical.choose (one i h) else (⟨0, 0, 0, 0, 0, 0, ⟨#[]⟩, none, [], 0, ⟨#[]⟩⟩ : ActR)).length = len := by simp
    refine ⟨some a, (List.range len).map (fun i => if h : i < len then Classical.choose (one i h) else (⟨0, 0, 0, 0, 0, 0, ⟨#[]⟩, none, [], 0, ⟨#[]⟩⟩ : ActR)), cap, by rw [hlen], ?_, by rw [hlen]; exact hl, hm, ?_⟩
    · intro i hi
      have hi' : i < len := by rw [hlen] at hi; exact hi
      obtain ⟨⟨b, off, hb, x1⟩, _⟩ := Classical.choose_spec (one i hi')
      have e9 : ((List.range len).map (fun i => if h : i < len then Classical.choose (one i h) else (⟨0, 0, 0, 0, 0, 0, ⟨#[]⟩, none, [], 0, ⟨#[]⟩⟩ : ActR)))[i] = Classical.choose (one i hi') := by simp [hi']
      exact ⟨b, off, hb, by rw [e9]; exact x1⟩
    · intro x hx'
      obtain ⟨i, hi, rfl⟩ := List.mem_map.1 hx'
      have hi' := List.mem_range.1 hi
      rw [dif_pos hi']
      exact (Classical.choose_spec (one i hi')).2
end Go.Proofs.Ytgomnmhjkjahlaa

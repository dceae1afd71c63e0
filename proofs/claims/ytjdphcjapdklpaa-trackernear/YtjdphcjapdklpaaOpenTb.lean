/- An argument that is a row of acts on a table, opened. -/
import Derived.Test.YtjdphcjapdklpaaOpenTa
namespace Go.Proofs.Ytjdphcjapdklpaa
open Go.ChangeShapes Go.WideShapes Go.ChangeAt Go.RowKit Go.Deep
set_option linter.unusedVariables false

/-- an act -/
structure Ta where
  kd : Int
  nw : Int
  n : Nt
def Ta.cl (p : Ta) : List Value := .int .i64 p.kd :: .int .i64 p.nw :: p.n.cl
def TasAt (w : World) (a0 : Option Addr) (l : List Ta) : Prop := ∀ t c, l[t]? = some c → ∃ g o, a0 = some ⟨g, o, none⟩ ∧ g < w.heap.size ∧ w.rangeAt g (o + t * 7) c.cl
theorem TasAt.up {w w' : World} {a0 : Option Addr} {l : List Ta} (h : TasAt w a0 l) (hb : Below w.heap.size w w') : TasAt w' a0 l := fun t c ht => by
  obtain ⟨g, o, h1, h2, h3⟩ := h t c ht
  exact ⟨g, o, h1, Nat.lt_of_lt_of_le h2 hb.size, fun j v hv => cell_below (h3 j v hv) hb⟩
def TasOk (l : List Ta) (c : Nat) : Prop := l.length ≤ c ∧ c ≤ maxLen ∧ ∀ p ∈ l, True
set_option maxRecDepth 100000 in
theorem open_tacts {H : Type} {enc : TypeId × Value → H} {W : World} {r : Reach} {b0 : Nat} {v : Value} {d : DataW H} {p : List MemPlace}
    (hval : Value.okWide Try.prog W r b0 35 v) (h : DataW.Trod enc Try.prog W 0 (fun _ => true) true 35 v d p) (hlt : ∀ x ∈ p, x.block < W.heap.size) :
    ∃ a0 l cap, v = .slice a0 (List.length (α := Ta) l) cap ∧ TasAt W a0 l ∧ TasOk l cap := by
  have ht := Try.underlying35
  have ce : Try.prog.cellsOf 40 = 7 := by kernel_rfl
  obtain ⟨a0, len, cap, rfl⟩ := okWide_slice ht hval
  obtain ⟨fuel, hf⟩ := h
  rcases open_slice ht hf with ⟨hcs, hx⟩ | ⟨a, len', cap', m, n, D, Pl, hcs, _, hl, hm, hmm, hx, each⟩
  · simp [Value.cells] at hcs
    obtain ⟨rfl, rfl, rfl⟩ := hcs
    exact ⟨none, [], 0, rfl, fun t c ht => by simp at ht, by simp, by unfold maxLen; omega, by simp⟩
  · simp [Value.cells] at hcs
    obtain ⟨rfl, rfl, rfl⟩ := hcs
    simp only [Prod.mk.injEq] at hx
    obtain ⟨rfl, rfl⟩ := hx
    simp only [if_true] at hmm
    have one : ∀ i, i < len → ∃ f : Ta, (∃ b off, some a = some ⟨b, off, none⟩ ∧ b < W.heap.size ∧ W.rangeAt b (off + i * 7) f.cl) ∧ True := by
      intro i hi
      obtain ⟨cs', h1, h2⟩ := each i (by omega)
      rw [ce] at h1
      obtain ⟨_, hlen, hcell⟩ := World.cells?_some h1
      obtain ⟨kd, nw, q, rfl⟩ := ta_cells hlen h2
      have hs : True := trivial
      obtain ⟨b, off, spot⟩ := a
      have hspot : spot = none := by
        obtain ⟨cs0, u1, u2⟩ := each 0 (by omega)
        rw [ce] at u1
        obtain ⟨_, ulen, ucell⟩ := World.cells?_some u1
        have u0 := ucell 0 (by omega)
        simp [Addr.add] at u0
        rw [List.getElem?_eq_getElem (show 0 < cs0.length by omega)] at u0
        exact World.cell?_spot u0
      subst hspot
      refine ⟨⟨kd, nw, q⟩, ⟨b, off, rfl, hlt (.cell b off) ?_, fun j v hv => ?_⟩, hs⟩
      · refine List.mem_append_left _ (MemPlace.mem_row.2 ⟨0, ?_, by simp⟩)
        rw [ce]
        omega
      · have hj : j < 7 := (List.getElem?_eq_some_iff.1 hv).1
        have k := hcell j hj
        have hv2 : (Value.int .i64 kd :: Value.int .i64 nw :: q.cl)[j]? = some v := hv
        rw [add_add, add_plain, hv2] at k
        rw [Nat.add_assoc]
        exact k
    have hlen2 : ((List.range len).map fun i => if h : i < len then Classical.choose (one i h) else (⟨0, 0, zN⟩ : Ta)).length = len := by simp
    refine ⟨some a, (List.range len).map fun i => if h : i < len then Classical.choose (one i h) else ⟨0, 0, zN⟩, cap, by rw [hlen2], fun t c htc => ?_, by rw [hlen2]; omega, by omega, fun e hm => ?_⟩
    · have htl : t < len := by
        have := (List.getElem?_eq_some_iff.1 htc).1
        rwa [hlen2] at this
      have := (Classical.choose_spec (one t htl)).1
      rw [List.getElem?_map, List.getElem?_range htl, Option.map_some, Option.some.injEq, dif_pos htl] at htc
      rw [← htc]
      exact this
    · obtain ⟨i, hi, rfl⟩ := List.mem_map.1 hm
      have hi' := List.mem_range.1 hi
      trivial
end Go.Proofs.Ytjdphcjapdklpaa

/- An argument that is a slice of events, opened. -/
import Derived.Test.YthgijdhifhnmfaaTrA
import Derived.ProofKit
import Derived.OpenShut
import Derived.Deep.Slices
import Derived.ChangeOld
import Derived.Deep.Strs
namespace Go.Proofs.Ythgijdhifhnmfaa
open Go.ChangeShapes Go.WideShapes Go.ChangeAt Go.RowKit Go.Deep
set_option linter.unusedVariables false

theorem list3 {α : Type} {l : List α} (h : l.length = 3) : ∃ a b c, l = [a, b, c] := by
  match l, h with
  | [a, b, c], _ => exact ⟨a, b, c, rfl⟩
/-- what is known of events that are handed in -/
def EvsOk (l : List Ev) (c : Nat) : Prop := l.length ≤ c ∧ c ≤ maxLen ∧ ∀ e ∈ l, e.t.size ≤ maxLen
theorem open_evs {H : Type} {enc : TypeId × Value → H} {W : World} {r : Reach} {b0 : Nat} {v : Value} {d : DataW H} {p : List MemPlace}
    (hval : Value.okWide Try.prog W r b0 22 v) (h : DataW.Trod enc Try.prog W 0 (fun _ => true) true 22 v d p) :
    ∃ a0 l cap, v = .slice a0 (List.length (α := Ev) l) cap ∧ EvsAt W a0 l ∧ EvsOk l cap := by
  have ht := Try.underlying22
  have he := Try.underlying47
  have ce : Try.prog.cellsOf 47 = 3 := by kernel_rfl
  have ci : Try.prog.cellsOf 3 = 1 := by kernel_rfl
  have cs : Try.prog.cellsOf 9 = 1 := by kernel_rfl
  obtain ⟨a0, len, cap, rfl⟩ := okWide_slice ht hval
  obtain ⟨fuel, hf⟩ := h
  rcases open_slice ht hf with ⟨hcs, hx⟩ | ⟨a, len', cap', m, n, D, Pl, hcs, _, hl, hm, hmm, hx, each⟩
  · simp [Value.cells] at hcs
    obtain ⟨rfl, rfl, rfl⟩ := hcs
    exact ⟨none, [], 0, rfl, fun t c ht => by simp at ht, by simp, by unfold maxLen; omega, by simp⟩
  · simp [Value.cells] at hcs
    obtain ⟨rfl, rfl, rfl⟩ := hcs
    simp only [Prod.mk.injEq] at hx
    obtain ⟨rfl, rfl⟩ := hx
    simp only [if_true] at hmm
    have one : ∀ i, i < len → ∃ f : Ev, (∃ b off, some a = some ⟨b, off, none⟩ ∧
        W.cell? ⟨b, off + i * 3, none⟩ = some (.int .i64 f.k) ∧ W.cell? ⟨b, off + i * 3 + 1, none⟩ = some (.int .i64 f.n) ∧ W.cell? ⟨b, off + i * 3 + 2, none⟩ = some (.string f.t)) ∧ f.t.size ≤ maxLen := by
      intro i hi
      obtain ⟨cs', h1, h2⟩ := each i (by omega)
      rw [ce] at h1
      obtain ⟨_, hlen, hcell⟩ := World.cells?_some h1
      obtain ⟨y0, y1, y2, k, _, _, g0, g1, g2⟩ := Go.Deep.trod_struct3 he h2
      obtain ⟨v0, v1, v2, rfl⟩ := list3 hlen
      simp [ci, cs] at g0 g1 g2
      obtain ⟨n0, e0, _, w0⟩ := DataW.trod_int Try.underlying3 g0
      obtain ⟨n1, e1, _, w1⟩ := DataW.trod_int Try.underlying3 g1
      obtain ⟨n2, e2, _, w2⟩ := DataW.trod_string Try.underlying9 g2
      obtain ⟨b, off, spot⟩ := a
      have q0 := hcell 0 (by omega)
      have q1 := hcell 1 (by omega)
      have q2 := hcell 2 (by omega)
      rw [add_add] at q0 q1 q2
      have hspot : spot = none := by
        obtain ⟨cs0, u1, u2⟩ := each 0 (by omega)
        rw [ce] at u1
        obtain ⟨_, ulen, ucell⟩ := World.cells?_some u1
        have u0 := ucell 0 (by omega)
        simp [Addr.add] at u0
        rw [List.getElem?_eq_getElem (show 0 < cs0.length by omega)] at u0
        exact World.cell?_spot u0
      subst hspot
      rw [add_plain] at q0 q1 q2
      simp at e0 e1 e2
      subst e0 e1 e2
      exact ⟨⟨n0, n1, n2⟩, ⟨b, off, rfl, by simpa using q0, by simpa [Nat.add_assoc] using q1, by simpa [Nat.add_assoc] using q2⟩, w2⟩
    have hlen2 : ((List.range len).map fun i => if h : i < len then Classical.choose (one i h) else ⟨0, 0, ⟨#[]⟩⟩).length = len := by simp
    refine ⟨some a, (List.range len).map fun i => if h : i < len then Classical.choose (one i h) else ⟨0, 0, ⟨#[]⟩⟩, cap, by rw [hlen2], fun t c htc => ?_, by rw [hlen2]; omega, by omega, fun e hm => ?_⟩
    · have htl : t < len := by
        have := (List.getElem?_eq_some_iff.1 htc).1
        rwa [hlen2] at this
      have := (Classical.choose_spec (one t htl)).1
      rw [List.getElem?_map, List.getElem?_range htl, Option.map_some, Option.some.injEq, dif_pos htl] at htc
      rw [← htc]
      exact this
    · obtain ⟨i, hi, rfl⟩ := List.mem_map.1 hm
      have hi' := List.mem_range.1 hi
      rw [dif_pos hi']
      exact (Classical.choose_spec (one i hi')).2
end Go.Proofs.Ythgijdhifhnmfaa

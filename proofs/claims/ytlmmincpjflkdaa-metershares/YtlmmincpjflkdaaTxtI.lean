
/- Rows of integers: as they are read, as a call's own. -/
import Derived.Test.YtlmmincpjflkdaaTxt
namespace Go.Proofs.Ytlmmincpjflkdaa
open Go.ChangeShapes Go.WideShapes Go.ChangeAt Go.RowKit
set_option linter.unusedVariables false

theorem Try.infoI : (Try.prog.info? 3).map (fun i => (i.zero, i.size, i.bytes)) = some (some (.int .i64 0), 1, 8) := by kernel_rfl
theorem Try.undI : Try.prog.underlying 43 = some (.slice 3) := by kernel_rfl
/-- integers as cells -/
def ic (l : List Int) : List Value := l.map fun x => Value.int .i64 x
theorem ic_length (l : List Int) : (ic l).length = l.length := by simp [ic]
theorem ic_append (l m : List Int) : ic (l ++ m) = ic l ++ ic m := by simp [ic]
theorem ic_get (l : List Int) (i : Nat) (h : i < l.length) : (ic l)[i]? = some (Value.int .i64 l[i]) := by simp [ic, h]
theorem ic_one (l : List Int) : ∀ u ∈ ic l, u.oneCell' = true := by
  intro u hu
  simp only [ic, List.mem_map] at hu
  obtain ⟨b, _, rfl⟩ := hu
  rfl
/-- integers in a row of cells -/
def Ints (w : World) (a0 : Option Addr) (l : List Int) : Prop := ∀ i (h : i < l.length), ∃ g o, a0 = some ⟨g, o, none⟩ ∧ w.cell? ⟨g, o + i, none⟩ = some (.int .i64 l[i])
theorem Ints.below {w w' : World} {a0 : Option Addr} {l : List Int} (h : Ints w a0 l) (hb : Below w.heap.size w w') : Ints w' a0 l := fun i hi => by
  obtain ⟨g, o, h1, h2⟩ := h i hi
  exact ⟨g, o, h1, cell_below h2 hb⟩
theorem Ints.take {w : World} {a0 : Option Addr} {l : List Int} (h : Ints w a0 l) (k : Nat) : Ints w a0 (l.take k) := fun i hi => by
  have hi' : i < l.length := by rw [List.length_take] at hi; omega
  obtain ⟨g, o, h1, h2⟩ := h i hi'
  exact ⟨g, o, h1, by rw [h2, List.getElem_take]⟩
/-- integers of the call's own -/
def OwnI (w : World) (base : Nat) (v : Value) (l : List Int) : Prop := w.ownsRow base 3 1 v l.length (ic l)
theorem OwnI.ints {w : World} {base : Nat} {v : Value} {l : List Int} (h : OwnI w base v l) : ∃ a0 c, v = .slice a0 l.length c ∧ Ints w a0 l ∧ l.length ≤ c ∧ c ≤ maxLen := by
  rcases (show World.ownsRow _ _ _ _ _ _ _ from h).2 with ⟨rfl, h0⟩ | ⟨g, cap, cur, rfl, _, hg, hnc, hcm, hcs, htake⟩
  · exact ⟨none, 0, by rw [h0], fun i hi => absurd hi (by omega), by omega, by unfold maxLen; omega⟩
  · refine ⟨some ⟨g, 0, none⟩, cap, rfl, fun i hi => ⟨g, 0, rfl, ?_⟩, hnc, hcm⟩
    rw [Nat.zero_add]
    exact (World.ownsRow.cellAt (h : World.ownsRow _ _ _ _ _ _ _) i (by omega)).trans (ic_get l i hi)
def IntsOk (l : List Int) (c : Nat) : Prop := l.length ≤ c ∧ c ≤ maxLen ∧ ∀ x ∈ l, (Lit.int .i64 x).wf = true
theorem open_intl {H : Type} {enc : TypeId × Value → H} {P : Program} {W : World} {r : Reach} {b0 : Nat} {t e : TypeId} {v : Value} {d : DataW H} {p : List MemPlace}
    (ht : P.underlying t = some (.slice e)) (he : P.underlying e = some (.int .i64)) (hc : P.cellsOf e = 1)
    (hval : Value.okWide P W r b0 t v) (h : DataW.Trod enc P W 0 (fun _ => true) true t v d p) :
    ∃ a0 l cap, v = .slice a0 (List.length (α := Int) l) cap ∧ Ints W a0 l ∧ IntsOk l cap := by
  obtain ⟨a0, len, cap, rfl⟩ := okWide_slice ht hval
  obtain ⟨fuel, hf⟩ := h
  rcases open_ints ht he hc hf with ⟨hcs, hx⟩ | ⟨a, len', cap', zs, hcs, _, hl, hm, hz, hx, hcell, hwz⟩
  · simp [Value.cells] at hcs
    obtain ⟨rfl, rfl, rfl⟩ := hcs
    exact ⟨none, [], 0, rfl, fun i hi => absurd hi (by simp), by simp, by unfold maxLen; omega, by simp⟩
  · simp [Value.cells] at hcs
    obtain ⟨rfl, rfl, rfl⟩ := hcs
    simp only [if_true] at hz
    have hlen : (zs.take len).length = len := by rw [List.length_take]; omega
    refine ⟨some a, zs.take len, cap, by rw [hlen], fun i hi => ?_, by rw [hlen]; exact hl, hm, fun x hx' => hwz x (List.mem_of_mem_take hx')⟩
    rw [hlen] at hi
    obtain ⟨b, off, spot⟩ := a
    have hspot : spot = none := by simpa [Addr.add] using World.cell?_spot (hcell 0 (by omega))
    subst hspot
    refine ⟨b, off, rfl, ?_⟩
    rw [← add_plain, hcell i (by omega)]
    have hi2 : i < zs.length := by omega
    have : zs.getD i 0 = zs[i] := by simp [List.getD, hi2]
    rw [this, List.getElem_take]
theorem wf64 {x : Int} (h : (Lit.int .i64 x).wf = true) : -9223372036854775808 ≤ x ∧ x ≤ 9223372036854775807 := by
  simp [Lit.wf, IntKind.min, IntKind.max, IntKind.signed, IntKind.bits] at h
  omega

end Go.Proofs.Ytlmmincpjflkdaa

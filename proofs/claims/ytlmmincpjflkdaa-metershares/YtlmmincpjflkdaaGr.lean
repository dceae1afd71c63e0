/- A region that draws its order, whose operations read and whose calls make new memory alone: one walk, in the order of the text, over a class of worlds. -/
import Derived.Test.YtlmmincpjflkdaaLib
import Derived.BigQuiet
namespace Go.Proofs.Ytlmmincpjflkdaa
open Go.RowKit
set_option linter.unusedVariables false

/-- a world of the class -/
structure Gr (R : World → Prop) : Type where
  w : World
  ok : R w

theorem wp_region_gr {P : Program} {id : Nat} {Q : Exit → Act → World → Prop} {a : Act} {w : World} {l : List Oper} (R : World → Prop) (hm : P.follows .mixedOrders = true) (hB : Region.lexB .any l.toArray = true) (hR : R w.drew)
    (h : wpQuiet P l.toArray (fun w' => ∃ x : Gr R, w' = x.w) (fun a' => ∀ w', (∃ x : Gr R, w' = x.w) → Q .normal a' w') l a) : (Code.region id l.toArray true).wp P Q a w :=
  wp_region_quiet (C := fun w' => ∃ x : Gr R, w' = x.w) hm hB ⟨⟨w.drew, hR⟩, rfl⟩ (by simpa using h)

/-- worlds that have grown from w -/
abbrev Gb (w : World) := Gr (fun x => Below w.heap.size w x)
theorem gb_start (w : World) : Below w.heap.size w w.drew := (Below.refl _ _).drew
theorem gb_ne (w : World) : Nonempty (Gb w) := ⟨⟨w, Below.refl _ _⟩⟩
theorem gb_cell {w : World} {p : Addr} {v : Value} (h : w.cell? p = some v) (x : Gb w) : x.w.cell? p = some v := by
  have hlt : p.block < w.heap.size := by
    rcases Nat.lt_or_ge p.block w.heap.size with h' | h'
    · exact h'
    · simp [World.cell?, Array.getElem?_eq_none h'] at h
  rw [x.ok.cell hlt]
  exact h
theorem gb_call {P : Program} {f : FuncId} {args : Array Value} {w : World} {v : Value} {x : Gb w} (h : Calls P f args x.w fun e w' => e = .returned v ∧ Below x.w.heap.size x.w w') : Calls P f args x.w fun e w'' => e = .returned v ∧ ∃ y : Gb w, w'' = y.w :=
  h.mono fun _ w' ⟨he, hb⟩ => ⟨he, ⟨w', x.ok.trans (hb.mono x.ok.size)⟩, rfl⟩
theorem gb_same {P : Program} {f : FuncId} {args : Array Value} {w : World} {v : Value} {x : Gb w} (h : Calls P f args x.w fun e w' => e = .returned v ∧ x.w = w') : Calls P f args x.w fun e w'' => e = .returned v ∧ ∃ y : Gb w, w'' = y.w :=
  h.mono fun _ w' ⟨he, hb⟩ => ⟨he, x, hb.symm⟩

end Go.Proofs.Ytlmmincpjflkdaa

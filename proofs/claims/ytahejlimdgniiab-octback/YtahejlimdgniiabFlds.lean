/- Fields in a row of cells. -/
import Derived.Test.YtahejlimdgniiabLib
namespace Go.Proofs.Ytahejlimdgniiab
open Go.RowKit
set_option linter.unusedVariables false

/-- a field -/
structure Fld where
  k : Int
  n : Int
  z : Int
  s : ByteArray
/-- fields, four cells each, in a row of cells -/
def FldsAt (w : World) (a0 : Option Addr) (len : Nat) (F : Nat → Fld) : Prop :=
  ∀ i, i < len → ∃ b off, a0 = some ⟨b, off, none⟩ ∧ b < w.heap.size ∧
    (w.cell? ⟨b, off + i * 4, none⟩ = some (.int .i64 (F i).k) ∧ w.cell? ⟨b, off + i * 4 + 1, none⟩ = some (.int .i64 (F i).n) ∧ w.cell? ⟨b, off + i * 4 + 2, none⟩ = some (.int .i64 (F i).z) ∧ w.cell? ⟨b, off + i * 4 + 3, none⟩ = some (.string (F i).s)) ∧
    (Lit.int .i64 (F i).k).wf = true ∧ (Lit.int .i64 (F i).n).wf = true ∧ (Lit.int .i64 (F i).z).wf = true ∧ (F i).s.size ≤ maxLen
/-- a field's own block -/
def FldAt (w : World) (g : Nat) (f : Fld) : Prop := w.heap[g]? = some (.cells #[.int .i64 f.k, .int .i64 f.n, .int .i64 f.z, .string f.s] 45 (0, 0))
theorem FldAt.cells {w : World} {g : Nat} {f : Fld} (h : FldAt w g f) : w.cell? ⟨g, 0, none⟩ = some (.int .i64 f.k) ∧ w.cell? ⟨g, 1, none⟩ = some (.int .i64 f.n) ∧ w.cell? ⟨g, 2, none⟩ = some (.int .i64 f.z) ∧ w.cell? ⟨g, 3, none⟩ = some (.string f.s) := by
  unfold FldAt at h
  refine ⟨?_, ?_, ?_, ?_⟩ <;> simp [World.cell?, h]
theorem FldAt.below {w w' : World} {g : Nat} {f : Fld} (h : FldAt w g f) (hb : Below w.heap.size w w') : FldAt w' g f := by
  refine (hb.block g ?_).trans h
  unfold FldAt at h
  rcases Nat.lt_or_ge g w.heap.size with h' | h'
  · exact h'
  · rw [Array.getElem?_eq_none h'] at h; cases h

end Go.Proofs.Ytahejlimdgniiab

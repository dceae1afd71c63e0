/- The reader and the document's reader side by side. -/
import Derived.Test.YtahejlimdgniiabRefT
import Derived.Test.YtahejlimdgniiabOctAwake
import Derived.Test.YtahejlimdgniiabFlds
import Derived.Test.YtahejlimdgniiabRegH
namespace Go.Proofs.Ytahejlimdgniiab
open Go.RowKit
set_option linter.unusedVariables false

/-- the two readers agree: on the error, and where there is none on what is left -/
def Ag2 (p q : ByteArray × Int) : Prop := p.2 = q.2 ∧ (p.2 = 0 → p.1 = q.1)
theorem Ag2.eq {p q : ByteArray × Int} (h : Ag2 p q) (h0 : p.2 = 0) : p = q := Prod.ext (h.2 h0) h.1
theorem Ag2.refl (p : ByteArray × Int) : Ag2 p p := ⟨rfl, fun _ => rfl⟩
theorem raw_bad (p : ByteArray × Int) (n : Int) (h : p.2 ≠ 0) : raw p n = (⟨#[]⟩, p) := by unfold raw; rw [if_pos h]
theorem num_bad (p : ByteArray × Int) (n : Int) (h : p.2 ≠ 0) : num p n = (0, p) := by unfold num; rw [if_pos h]
theorem text_bad (p : ByteArray × Int) (h : p.2 ≠ 0) : text p = (⟨#[]⟩, p) := by unfold text; rw [num_bad p 2 h, raw_bad p _ h]
theorem raw_err (p : ByteArray × Int) (n : Int) (h : (raw p n).2.2 ≠ 0) : (raw p n).1 = ⟨#[]⟩ := by
  unfold raw at *
  split
  · rfl
  · rename_i h1
    rw [if_neg h1] at h
    split
    · rfl
    · rename_i h2
      rw [if_neg h2] at h
      split
      · rfl
      · rename_i h3
        rw [if_neg h3] at h
        exact absurd rfl h
theorem raw_ag {p q : ByteArray × Int} (h : Ag2 p q) (n : Int) : (raw p n).1 = (raw q n).1 ∧ Ag2 (raw p n).2 (raw q n).2 := by
  by_cases h0 : p.2 = 0
  · rw [h.eq h0]; exact ⟨rfl, Ag2.refl _⟩
  · rw [raw_bad p n h0, raw_bad q n (by rw [← h.1]; exact h0)]; exact ⟨rfl, h⟩
theorem num_ag {p q : ByteArray × Int} (h : Ag2 p q) (n : Int) : (num p n).1 = (num q n).1 ∧ Ag2 (num p n).2 (num q n).2 := by
  by_cases h0 : p.2 = 0
  · rw [h.eq h0]; exact ⟨rfl, Ag2.refl _⟩
  · rw [num_bad p n h0, num_bad q n (by rw [← h.1]; exact h0)]; exact ⟨rfl, h⟩
theorem rest_ag {p q : ByteArray × Int} (h : Ag2 p q) : (raw p (left p)).1 = (raw q q.1.size).1 ∧ Ag2 (raw p (left p)).2 (raw q q.1.size).2 := by
  by_cases h0 : p.2 = 0
  · have e : left p = p.1.size := by unfold left; rw [if_neg (by simpa using h0)]
    rw [e, h.eq h0]; exact ⟨rfl, Ag2.refl _⟩
  · rw [raw_bad p _ h0, raw_bad q _ (by rw [← h.1]; exact h0)]; exact ⟨rfl, h⟩
theorem text_ag {p q : ByteArray × Int} (h : Ag2 p q) : (text p).1 = (textQ q).1 ∧ Ag2 (text p).2 (textQ q).2 := by
  by_cases h0 : p.2 = 0
  · rw [h.eq h0]
    unfold textQ
    by_cases he : (text q).2.2 ≠ 0
    · rw [if_pos he]
      refine ⟨?_, rfl, fun hz => absurd hz he⟩
      unfold text at he ⊢
      exact raw_err _ _ he
    · rw [if_neg he]
      exact ⟨rfl, Ag2.refl _⟩
  · have hq : q.2 ≠ 0 := by rw [← h.1]; exact h0
    unfold textQ
    rw [text_bad p h0, text_bad q hq, if_pos hq]
    exact ⟨rfl, h⟩
theorem text_le (p : ByteArray × Int) : (text p).2.1.size ≤ p.1.size := by
  unfold text
  have h1 := num_le p 2
  have h2 := (raw_le (num p 2).2 (num p 2).1).2
  omega
theorem textQ_le (p : ByteArray × Int) : (textQ p).2.1.size ≤ p.1.size := by
  unfold textQ
  split
  · exact Nat.le_refl _
  · exact text_le p
theorem left_ag {p q : ByteArray × Int} (h : Ag2 p q) : left p = left q := by
  unfold left
  rw [← h.1]
  by_cases h0 : p.2 = 0
  · rw [h.2 h0]
  · rw [if_pos h0, if_pos h0]
theorem end_ag {p q : ByteArray × Int} (h : Ag2 p q) : atEnd p = atEnd q := by
  unfold atEnd
  by_cases h0 : p.2 = 0
  · rw [h.eq h0]
  · have hq : q.2 ≠ 0 := by rw [← h.1]; exact h0
    rw [if_neg (fun hh => h0 hh.1), if_neg (fun hh => hq hh.1)]
    exact h.1

/-- both readers, in one world -/
structure RInv (w0 : World) (br g : Nat) (w : World) (p q : ByteArray × Int) : Prop where
  rd : RdAt w br p
  ps : p.1.size ≤ 5000
  rf : w.heap[g]? = some (.cells #[.string q.1, .int .i64 q.2] 54 (0, 0))
  qs : q.1.size ≤ 5000
  be : Below w0.heap.size w0 w
theorem RInv.below {w0 w w' : World} {br g : Nat} {p q : ByteArray × Int} (h : RInv w0 br g w p q) (hb : Below w.heap.size w w') : RInv w0 br g w' p q :=
  ⟨(hb.block _ (lt_of_block h.rd)).trans h.rd, h.ps, (hb.block _ (lt_of_block h.rf)).trans h.rf, h.qs, h.be.trans (hb.mono h.be.size)⟩

theorem reads_calls (br : Nat) (p q : ByteArray × Int) (h : Ag2 p q) (hp : p.1.size ≤ 5000) (hq : q.1.size ≤ 5000) : ∃ l ae : Int,
    Hid (∀ w, RdAt w br p → Calls Try.prog 36 #[.pointer (some ⟨br, 0, none⟩)] w fun x w' => x = .returned (.int .i64 l) ∧ w = w') ∧
    Hid (∀ w, Calls Try.prog 37 #[.agg #[.string q.1, .int .i64 q.2]] w fun x w' => x = .returned (.int .i64 l) ∧ Below w.heap.size w w') ∧
    Hid (∀ w, RdAt w br p → Calls Try.prog 38 #[.pointer (some ⟨br, 0, none⟩)] w fun x w' => x = .returned (.int .i64 q.2) ∧ w = w') ∧
    Hid (∀ w, RdAt w br p → Calls Try.prog 39 #[.pointer (some ⟨br, 0, none⟩)] w fun x w' => x = .returned (.int .i64 ae) ∧ w = w') ∧
    Hid (∀ w, Calls Try.prog 40 #[.agg #[.string q.1, .int .i64 q.2]] w fun x w' => x = .returned (.int .i64 ae) ∧ Below w.heap.size w w') := by
  refine ⟨left q, atEnd q, ?_, ?_, ?_, ?_, ?_⟩
  · intro w hr; rw [← left_ag h]; exact rleft_any w br p hr
  · exact fun w => qleft_any q w (by unfold maxLen; omega)
  · intro w hr; rw [← h.1]; exact rerr_any w br p hr
  · intro w hr; rw [← end_ag h]; exact rend_any w br p (by unfold maxLen; omega) hr
  · exact fun w => qend_any q w

theorem fa_got1 (g : Nat) (w : World) : (Instr.fieldAt 56 (.pointer (some ⟨g, 0, none⟩)) 1).run Try.prog w = .ok (.pointer (some ⟨g, 2, none⟩)) w := by go_simp
theorem fa_got2 (g : Nat) (w : World) : (Instr.fieldAt 56 (.pointer (some ⟨g, 0, none⟩)) 2).run Try.prog w = .ok (.pointer (some ⟨g, 3, none⟩)) w := by go_simp
theorem fa_rd1 (g : Nat) (w : World) : (Instr.fieldAt 54 (.pointer (some ⟨g, 0, none⟩)) 1).run Try.prog w = .ok (.pointer (some ⟨g, 1, none⟩)) w := by go_simp
theorem loadI (p : Addr) (v : Value) (w : World) (h : w.cell? p = some v) : (Instr.loadAt 3 (.pointer (some p))).run Try.prog w = .ok v w := by go_simp
theorem loadS (p : Addr) (v : Value) (w : World) (h : w.cell? p = some v) : (Instr.loadAt 9 (.pointer (some p))).run Try.prog w = .ok v w := by go_simp
theorem wpList_store_abs {P : Program} {ops : Array Oper} {rest : List Oper} {op : Oper} {a : Act} {w : World} {Q : Exit → Act → World → Prop} (hgd : op.guard = none) (ty : TypeId) (x y : Operand) (ho : op.op = .store ty x y)
    (b o : Nat) (cells : Array Value) (hx : a.eval x = .pointer (some ⟨b, o, none⟩)) (hy : a.eval y = .agg cells) (ht : w.there b o cells.size) (hi : (P.info? ty).map (·.size) = some cells.size) (h1 : cells.all (·.oneCell') = true)
    (h : ∀ w', Hid (w' = w.setCells b o cells.toList) → wpList P ops Q rest (a.put op.dst undef) w') : wpList P ops Q (op :: rest) a w :=
  wpList_store_mid hgd ty x y ho b o cells hx hy ht hi h1 (h _ rfl)
theorem four_one (a b c d : Value) (h : a.oneCell' = true ∧ b.oneCell' = true ∧ c.oneCell' = true ∧ d.oneCell' = true) : (#[a, b, c, d] : Array Value).all (·.oneCell') = true :=
  all_oneCell_toArray (cs := [a, b, c, d]) (by intro u hu; simp at hu; rcases hu with rfl | rfl | rfl | rfl; exact h.1; exact h.2.1; exact h.2.2.1; exact h.2.2.2)
theorem two_one (a b : Value) (h : a.oneCell' = true ∧ b.oneCell' = true) : (#[a, b] : Array Value).all (·.oneCell') = true :=
  all_oneCell_toArray (cs := [a, b]) (by intro u hu; simp at hu; rcases hu with rfl | rfl; exact h.1; exact h.2)

end Go.Proofs.Ytahejlimdgniiab

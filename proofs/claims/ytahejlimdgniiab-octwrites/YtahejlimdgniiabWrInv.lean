/- The writer and the document's writer side by side. -/
import Derived.Test.YtahejlimdgniiabOctWs
import Derived.Test.YtahejlimdgniiabOctAwake
import Derived.Test.YtahejlimdgniiabRefVt
namespace Go.Proofs.Ytahejlimdgniiab
open Go.RowKit
set_option linter.unusedVariables false

theorem putS2 (n : Nat) (h : n ≤ 65535) : (putS n 2).1.length = 2 ∧ (putS n 2).2 = 0 := by
  unfold putS
  have h2 : (n : Int) / 2 ^ (8 * (2 : Int).toNat) = 0 := by
    show (n : Int) / 65536 = 0
    omega
  rw [if_neg (by omega), if_neg (by rw [h2]; simp)]
  exact ⟨putB_length _ _, rfl⟩

/-- the two writers agree: on the error, and where there is none on the bytes -/
def Ag (p : List UInt8 × Int) (q : ByteArray × Int) : Prop := p.2 = q.2 ∧ (p.2 = 0 → q.1.data.toList = p.1)
theorem ag_raw {p : List UInt8 × Int} {q : ByteArray × Int} (h : Ag p q) (s : ByteArray) : Ag (wRaw p s.data.toList) (vPut q s 0) := by
  obtain ⟨h1, h2⟩ := h
  unfold wRaw vPut
  by_cases h0 : p.2 = 0
  · have e := h2 h0
    have el : p.1.length = q.1.size := by rw [← e, blen]
    have h0' : q.2 = 0 := by rw [← h1]; exact h0
    rw [if_neg (show ¬ p.2 ≠ 0 by simpa using h0), if_neg (show ¬ q.2 ≠ 0 by simpa using h0'), if_neg (show ¬ (0 : Int) ≠ 0 by simp), blen, el]
    split
    · exact ⟨rfl, fun h => by cases h⟩
    · exact ⟨rfl, fun _ => by show (q.1 ++ s).data.toList = _; rw [bapp, e]⟩
  · have h0' : q.2 ≠ 0 := by rw [← h1]; exact h0
    rw [if_pos h0, if_pos h0']
    exact ⟨h1, h2⟩
theorem ag_note {p : List UInt8 × Int} {q : ByteArray × Int} (h : Ag p q) (s : ByteArray) (e : Int) (he : e ≠ 0) : Ag (wNote p e) (vPut q s e) := by
  obtain ⟨h1, h2⟩ := h
  unfold wNote vPut
  by_cases h0 : p.2 = 0
  · have h0' : q.2 = 0 := by rw [← h1]; exact h0
    rw [if_neg (show ¬ p.2 ≠ 0 by simpa using h0), if_neg (show ¬ q.2 ≠ 0 by simpa using h0'), if_pos he]
    exact ⟨rfl, fun h => absurd h he⟩
  · have h0' : q.2 ≠ 0 := by rw [← h1]; exact h0
    rw [if_pos h0, if_pos h0']
    exact ⟨h1, h2⟩
theorem ag_num {p : List UInt8 × Int} {q : ByteArray × Int} (h : Ag p q) (n size : Int) : Ag (wNum p n size) (vPut q ⟨(putS n size).1.toArray⟩ (putS n size).2) := by
  unfold wNum
  by_cases he : (putS n size).2 = 0
  · rw [if_neg (by simpa using he), he]
    have := ag_raw h ⟨(putS n size).1.toArray⟩
    simpa using this
  · rw [if_pos he]
    exact ag_note h _ _ he
theorem ag_text {p : List UInt8 × Int} {q : ByteArray × Int} (h : Ag p q) (s : ByteArray) : Ag (wText p s.data.toList) (vText q s) := by
  unfold wText vText
  rw [blen]
  by_cases hl : 65535 < s.size
  · rw [if_pos hl, if_pos hl]
    exact ag_note h _ _ (by decide)
  · rw [if_neg hl, if_neg hl]
    obtain ⟨t1, t2⟩ := putS2 s.size (by omega)
    unfold wNum
    rw [if_neg (by simpa using t2)]
    generalize (putS s.size 2).1 = t at *
    have ts : (⟨t.toArray⟩ : ByteArray).size = 2 := by rw [← blen]; exact t1
    obtain ⟨h1, h2⟩ := h
    by_cases h0 : p.2 = 0
    · have e := h2 h0
      have el : p.1.length = q.1.size := by rw [← e, blen]
      have h0' : q.2 = 0 := by rw [← h1]; exact h0
      have ev : vPut q ((⟨t.toArray⟩ : ByteArray) ++ s) 0 = if 65536 < q.1.size + (2 + s.size) then (q.1, 2) else (q.1 ++ ((⟨t.toArray⟩ : ByteArray) ++ s), 0) := by
        unfold vPut
        rw [if_neg (show ¬ q.2 ≠ 0 by simpa using h0'), if_neg (show ¬ (0 : Int) ≠ 0 by simp), ByteArray.size_append, ts]
      have er : ∀ (l m : List UInt8), wRaw (l, 0) m = if 65536 < l.length + m.length then (l, 2) else (l ++ m, 0) := by
        intro l m
        unfold wRaw
        rw [if_neg (show ¬ (l, (0 : Int)).2 ≠ 0 by simp)]
      obtain ⟨pl, pe⟩ := p
      obtain rfl : pe = 0 := h0
      rw [ev, er, t1, el]
      by_cases hb : 65536 < q.1.size + 2
      · rw [if_pos hb, if_pos (by omega)]
        have : wRaw (pl, 2) s.data.toList = (pl, 2) := by unfold wRaw; rw [if_pos (show (pl, (2 : Int)).2 ≠ 0 by simp)]
        rw [this]
        exact ⟨rfl, fun h => by cases h⟩
      · rw [if_neg hb, er, blen, List.length_append, t1, el]
        by_cases hc : 65536 < q.1.size + 2 + s.size
        · rw [if_pos hc, if_pos (by omega)]
          exact ⟨rfl, fun h => by cases h⟩
        · rw [if_neg hc, if_neg (by omega)]
          refine ⟨rfl, fun _ => ?_⟩
          show (q.1 ++ ((⟨t.toArray⟩ : ByteArray) ++ s)).data.toList = _
          rw [bapp, bapp, e, List.append_assoc]
    · have h0' : q.2 ≠ 0 := by rw [← h1]; exact h0
      have e1 : wRaw p t = p := by unfold wRaw; rw [if_pos h0]
      rw [e1]
      unfold wRaw vPut
      rw [if_pos h0, if_pos h0']
      exact ⟨h1, h2⟩
theorem vText_le {p : ByteArray × Int} (h : p.1.size ≤ 65536) (s : ByteArray) : (vText p s).1.size ≤ 65536 := by
  unfold vText
  split
  · exact vPut_le h _ _
  · exact vPut_le h _ _

theorem WriterAt.set_other {w : World} {b base g j : Nat} {l : List UInt8} {err : Int} {cs : Array Value} {t : TypeId} {fr : Nat × Nat} {x : Value} (h : WriterAt w b base l err) (hg : w.heap[g]? = some (.cells cs t fr)) (ht : t ≠ 5) (hne : g ≠ b) : WriterAt (w.setCell ⟨g, j, none⟩ x) b base l err := by
  obtain ⟨ao, cap, hh, hown⟩ := h.ex
  refine ⟨⟨ao, cap, (Below.heap_setCell _ _ _ _ (Ne.symm hne)).trans hh, ownsRow_setCell_other hown ?_ _⟩⟩
  rcases hown.2 with ⟨h', _⟩ | ⟨g', cap', cur, h', _, hg', _⟩
  · simp at h'
    simp [Value.ownBlock, h'.1]
  · simp at h'
    rw [h'.1]
    simp only [Value.ownBlock]
    intro hgb
    obtain rfl : g' = g := by simpa using hgb
    rw [hg'] at hg
    simp at hg
    exact ht hg.2.1.symm

/-- both writers, in one world -/
structure WInv (w0 : World) (bw g base : Nat) (w : World) (p : List UInt8 × Int) (q : ByteArray × Int) : Prop where
  wr : WriterAt w bw base p.1 p.2
  lw : p.1.length ≤ 65536
  rf : w.heap[g]? = some (.cells #[.string q.1, .int .i64 q.2] 43 (0, 0))
  lr : q.1.size ≤ 65536
  sz : base ≤ w.heap.size
  be : Below w0.heap.size w0 w
theorem WInv.below {w0 w w' : World} {bw g base : Nat} {p : List UInt8 × Int} {q : ByteArray × Int} (h : WInv w0 bw g base w p q) (hb : Below w.heap.size w w') : WInv w0 bw g base w' p q :=
  ⟨h.wr.below hb, h.lw, (hb.block _ (lt_of_cells h.rf)).trans h.rf, h.lr, Nat.le_trans h.sz hb.size, h.be.trans (hb.mono h.be.size)⟩
theorem WInv.real {w0 w w' : World} {bw g base : Nat} {p p' : List UInt8 × Int} {q : ByteArray × Int} (h : WInv w0 bw g base w p q) (hg : g ≠ bw) (h0 : w0.heap.size ≤ bw) (h1 : w0.heap.size ≤ base) (hw : WriterAt w' bw base p'.1 p'.2) (hl : p'.1.length ≤ 65536) (hk : Kept base bw w w' ∧ Spares bw w w') : WInv w0 bw g base w' p' q :=
  ⟨hw, hl, hk.2 g _ _ _ hg (by decide) h.rf, h.lr, Nat.le_trans h.sz hk.1.size, h.be.trans (hk.1.below _ h1 h0)⟩
theorem WInv.store {w0 w : World} {bw g base : Nat} {p : List UInt8 × Int} {q : ByteArray × Int} (h : WInv w0 bw g base w p q) (hg : g ≠ bw) (h0 : w0.heap.size ≤ g) (q' : ByteArray × Int) (hl : q'.1.size ≤ 65536) :
    WInv w0 bw g base ((w.setCell ⟨g, 0, none⟩ (.string q'.1)).setCell ⟨g, 1, none⟩ (.int .i64 q'.2)) p q' :=
  ⟨(h.wr.set_other h.rf (by decide) hg).set_other (two_set0 h.rf) (by decide) hg, h.lw, two_set1 (two_set0 h.rf), hl, by simpa using h.sz, (h.be.setCell h0 _).setCell h0 _⟩

end Go.Proofs.Ytahejlimdgniiab

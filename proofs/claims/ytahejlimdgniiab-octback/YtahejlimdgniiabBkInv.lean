/- Fields as bytes, written and read; the writer and the fields that were kept. -/
import Derived.Test.YtahejlimdgniiabOctWs
import Derived.Test.YtahejlimdgniiabOctAwake
import Derived.Test.YtahejlimdgniiabOctR
import Derived.Test.YtahejlimdgniiabFlds
import Derived.Test.YtahejlimdgniiabRegH
import Derived.Laws.OwnMore
namespace Go.Proofs.Ytahejlimdgniiab
open Go.RowKit
set_option linter.unusedVariables false

theorem putS_bk (n size : Int) (h : (putS n size).2 = 0) : getV (putS n size).1 = n ∧ ((putS n size).1.length : Int) = size := by
  unfold putS at *
  by_cases hs : size < 1 ∨ 7 < size
  · rw [if_pos hs] at h; simp at h
  · rw [if_neg hs] at *
    by_cases ca : n < 0 ∨ n / 2 ^ (8 * size.toNat) ≠ 0
    · rw [if_pos ca] at h; simp at h
    · rw [if_neg ca]
      exact ⟨getV_putB n _ (by omega) (by omega), by simp only [putB_length]; omega⟩
theorem putS2' (n : Nat) (h : n ≤ 65535) : (putS n 2).1.length = 2 ∧ (putS n 2).2 = 0 := by
  unfold putS
  have h2 : (n : Int) / 2 ^ (8 * (2 : Int).toNat) = 0 := by
    show (n : Int) / 65536 = 0
    omega
  rw [if_neg (by omega), if_neg (by rw [h2]; simp)]
  exact ⟨putB_length _ _, rfl⟩

/-- a field as bytes -/
def encF (f : Fld) : List UInt8 := if f.k = 0 then (putS f.n f.z).1 else if f.k = 1 then (putS f.s.size 2).1 ++ f.s.data.toList else f.s.data.toList
/-- a field that may be -/
def Good (f : Fld) : Prop := (f.k = 0 ∧ (putS f.n f.z).2 = 0) ∨ (f.k = 1 ∧ f.s.size ≤ 300) ∨ (f.k = 2 ∧ f.s.size ≤ 300)
def encs (K : List Fld) : List UInt8 := K.flatMap encF
theorem encF_len (f : Fld) (h : Good f) : (encF f).length ≤ 302 := by
  unfold encF
  rcases h with ⟨h, _⟩ | ⟨h, hs⟩ | ⟨h, hs⟩
  · rw [if_pos h]; have := putS_length f.n f.z; omega
  · rw [if_neg (by omega), if_pos h, List.length_append, blen, (putS2' f.s.size (by omega)).1]; omega
  · rw [if_neg (by omega), if_neg (by omega), blen]; omega
theorem encs_len (K : List Fld) (h : ∀ f ∈ K, Good f) : (encs K).length ≤ 302 * K.length := by
  induction K with
  | nil => simp [encs]
  | cons f K ih =>
    have h1 := encF_len f (h f (by simp))
    have h2 := ih (fun g hg => h g (by simp [hg]))
    simp only [encs, List.flatMap_cons, List.length_append, List.length_cons] at *
    omega
theorem encs_snoc (K : List Fld) (f : Fld) : encs (K ++ [f]) = encs K ++ encF f := by simp [encs]
theorem encs_drop (K : List Fld) (j : Nat) (h : j < K.length) : encs (K.drop j) = encF K[j] ++ encs (K.drop (j + 1)) := by
  rw [List.drop_eq_getElem_cons h]
  simp only [encs, List.flatMap_cons]
theorem wraw_good (l s : List UInt8) (h : l.length + s.length ≤ 65536) : wRaw (l, 0) s = (l ++ s, 0) := by
  unfold wRaw
  rw [if_neg (show ¬ (l, (0 : Int)).2 ≠ 0 by simp), if_neg (show ¬ 65536 < (l, (0 : Int)).1.length + s.length by simp; omega)]
theorem wnum_good (l : List UInt8) (n z : Int) (h : (putS n z).2 = 0) (hl : l.length ≤ 60000) : wNum (l, 0) n z = (l ++ (putS n z).1, 0) := by
  unfold wNum
  rw [if_neg (by simpa using h), wraw_good _ _ (by have := putS_length n z; omega)]
theorem wtext_good (l s : List UInt8) (hs : s.length ≤ 300) (hl : l.length ≤ 60000) : wText (l, 0) s = (l ++ ((putS s.length 2).1 ++ s), 0) := by
  unfold wText
  obtain ⟨t1, t2⟩ := putS2' s.length (by omega)
  rw [if_neg (by omega), wnum_good l s.length 2 t2 hl, wraw_good _ _ (by rw [List.length_append, t1]; omega), List.append_assoc]

theorem bytes_inj {P Q : ByteArray} (h : P.data.toList = Q.data.toList) : P = Q := by
  obtain ⟨⟨a⟩⟩ := P
  obtain ⟨⟨b⟩⟩ := Q
  simp at h
  rw [h]
theorem raw_app (P : ByteArray) (a b : List UInt8) (h : P.data.toList = a ++ b) : (raw (P, 0) a.length).1 = ⟨a.toArray⟩ ∧ ∃ P2 : ByteArray, (raw (P, 0) a.length).2 = (P2, 0) ∧ P2.data.toList = b := by
  have hs : P.size = a.length + b.length := by rw [← blen, h, List.length_append]
  unfold raw
  rw [if_neg (show ¬ (P, (0 : Int)).2 ≠ 0 by simp), if_neg (by omega), if_neg (show ¬ ((P, (0 : Int)).1.size : Int) < a.length by simp only; omega), Int.toNat_natCast]
  refine ⟨bytes_inj ?_, _, rfl, ?_⟩
  · show (P.extract 0 a.length).data.toList = a
    rw [ByteArray.data_extract, Array.toList_extract, List.extract_eq_take_drop, h]
    simp
  · show (P.extract a.length P.size).data.toList = b
    rw [ByteArray.data_extract, Array.toList_extract, List.extract_eq_take_drop, h, hs]
    simp
theorem num_back (P : ByteArray) (n z : Int) (b : List UInt8) (hg : (putS n z).2 = 0) (h : P.data.toList = (putS n z).1 ++ b) : (num (P, 0) z).1 = n ∧ ∃ P2 : ByteArray, (num (P, 0) z).2 = (P2, 0) ∧ P2.data.toList = b := by
  obtain ⟨e1, e2⟩ := putS_bk n z hg
  have hz : ¬ (z < 1 ∨ 7 < z) := by
    intro hc
    unfold putS at hg
    rw [if_pos hc] at hg
    cases hg
  obtain ⟨r1, r2⟩ := raw_app P _ b h
  rw [e2] at r1 r2
  unfold num
  rw [if_neg (show ¬ (P, (0 : Int)).2 ≠ 0 by simp), if_neg hz, r1]
  exact ⟨e1, r2⟩
theorem raw_back (P s : ByteArray) (b : List UInt8) (h : P.data.toList = s.data.toList ++ b) : (raw (P, 0) s.size).1 = s ∧ ∃ P2 : ByteArray, (raw (P, 0) s.size).2 = (P2, 0) ∧ P2.data.toList = b := by
  have := raw_app P s.data.toList b h
  rw [blen] at this
  exact ⟨this.1.trans (bytes_inj rfl), this.2⟩
theorem text_back (P s : ByteArray) (b : List UInt8) (hs : s.size ≤ 300) (h : P.data.toList = ((putS s.size 2).1 ++ s.data.toList) ++ b) : (text (P, 0)).1 = s ∧ ∃ P2 : ByteArray, (text (P, 0)).2 = (P2, 0) ∧ P2.data.toList = b := by
  rw [List.append_assoc] at h
  obtain ⟨e1, P1, e2, e3⟩ := num_back P s.size 2 _ (putS2' s.size (by omega)).2 h
  unfold text
  rw [e1, e2]
  exact raw_back P1 s b e3

/-- the cells of kept fields -/
def fc (f : Fld) : List Value := [.int .i64 f.k, .int .i64 f.n, .int .i64 f.z, .string f.s]
def fcs (K : List Fld) : List Value := K.flatMap fc
theorem fcs_len (K : List Fld) : (fcs K).length = K.length * 4 := by
  induction K with
  | nil => rfl
  | cons f K ih => simp only [fcs, List.flatMap_cons, List.length_append, List.length_cons] at *; simp only [fc, List.length_cons, List.length_nil]; omega
theorem fcs_snoc (K : List Fld) (f : Fld) : fcs (K ++ [f]) = fcs K ++ fc f := by simp [fcs]
theorem fcs_at (K : List Fld) (j : Nat) (h : j < K.length) : (fcs K)[j * 4]? = some (.int .i64 K[j].k) ∧ (fcs K)[j * 4 + 1]? = some (.int .i64 K[j].n) ∧ (fcs K)[j * 4 + 2]? = some (.int .i64 K[j].z) ∧ (fcs K)[j * 4 + 3]? = some (.string K[j].s) := by
  have e : fcs K = fcs (K.take j) ++ (fc K[j] ++ fcs (K.drop (j + 1))) := by
    conv => lhs; rw [← List.take_append_drop j K, List.drop_eq_getElem_cons h]
    simp only [fcs, List.flatMap_append, List.flatMap_cons]
  have hl : (fcs (K.take j)).length = j * 4 := by rw [fcs_len, List.length_take, Nat.min_eq_left (by omega)]
  rw [e]
  refine ⟨?_, ?_, ?_, ?_⟩ <;> rw [List.getElem?_append_right (by omega), hl] <;> simp [fc]

theorem own_below4 {w w' : World} {base n size : Nat} {e : TypeId} {v : Value} {xs : List Value} (h : w.ownsRow base e size v n xs) (hb : Below w.heap.size w w') : w'.ownsRow base e size v n xs := by
  refine ⟨h.1, ?_⟩
  rcases h.2 with h2 | ⟨g, cap, cur, hv, hg, hh, r⟩
  · exact .inl h2
  · exact .inr ⟨g, cap, cur, hv, hg, (hb.block g (lt_of_block hh)).trans hh, r⟩
theorem own_spares {w w' : World} {b base n size : Nat} {e : TypeId} {v : Value} {xs : List Value} (h : w.ownsRow base e size v n xs) (hb : Spares b w w') (he : e ≠ 5) (hbb : b < base) : w'.ownsRow base e size v n xs := by
  refine ⟨h.1, ?_⟩
  rcases h.2 with h2 | ⟨g, cap, cur, hv, hg, hh, r⟩
  · exact .inl h2
  · exact .inr ⟨g, cap, cur, hv, hg, hb g _ _ _ (by omega) he hh, r⟩
theorem WriterAt.grown {w w' : World} {b base n size : Nat} {l : List UInt8} {err : Int} {v : Value} {xs : List Value} (h : WriterAt w b base l err) (hv : w.ownsRow base 45 size v n xs) (hg : w.grownBy w' v.ownBlock) : WriterAt w' b base l err := by
  obtain ⟨ao, cap, hh, hown⟩ := h.ex
  have key : ∀ (i : Nat) (cs : Array Value) (t : TypeId) (fr : Nat × Nat), t ≠ 45 → w.heap[i]? = some (.cells cs t fr) → w'.heap[i]? = some (.cells cs t fr) := by
    intro i cs t fr ht hi
    refine (hg.block i (lt_of_cells hi) ?_).trans hi
    rcases hv.2 with ⟨rfl, _⟩ | ⟨g, cap', cur, rfl, _, hgg, _⟩
    · simp [Value.ownBlock]
    · simp only [Value.ownBlock]
      intro hgb
      obtain rfl : i = g := by simpa using hgb
      rw [hgg] at hi
      simp at hi
      exact ht hi.2.1.symm
  refine ⟨⟨ao, cap, key b _ _ _ (by decide) hh, hown.1, ?_⟩⟩
  rcases hown.2 with h2 | ⟨g, cap2, cur, hv2, hg2, hh2, r⟩
  · exact .inl h2
  · exact .inr ⟨g, cap2, cur, hv2, hg2, key g _ _ _ (by decide) hh2, r⟩

/-- the writer and the fields that were kept, in one world -/
structure BInv (w0 : World) (bw base : Nat) (w : World) (K : List Fld) (v : Value) : Prop where
  wr : WriterAt w bw base (encs K) 0
  kp : w.ownsRow base 45 4 v K.length (fcs K)
  gd : ∀ f ∈ K, Good f
  sz : base ≤ w.heap.size
  be : Below w0.heap.size w0 w
theorem BInv.below {w0 w w' : World} {bw base : Nat} {K : List Fld} {v : Value} (h : BInv w0 bw base w K v) (hb : Below w.heap.size w w') : BInv w0 bw base w' K v :=
  ⟨h.wr.below hb, own_below4 h.kp hb, h.gd, Nat.le_trans h.sz hb.size, h.be.trans (hb.mono h.be.size)⟩

end Go.Proofs.Ytahejlimdgniiab

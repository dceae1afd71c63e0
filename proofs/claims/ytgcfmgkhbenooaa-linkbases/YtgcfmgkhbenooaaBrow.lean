/- Rows of bytes that are written in place: made, or made of a text. -/
import Derived.Test.YtgcfmgkhbenooaaTxt
import Derived.Test.YtgcfmgkhbenooaaLate
import Derived.Lib.ConvBytes
namespace Go.Proofs.Ytgcfmgkhbenooaa
open Go.RowKit
set_option linter.unusedVariables false

/-- block g holds the bytes L, and they may be written -/
def Bw (w : World) (g : Nat) (L : By) : Prop := ∃ cur fr, w.heap[g]? = some (.cells cur 5 fr) ∧ cur.toList.take L.length = bc L ∧ (fr.2 = 0 ∨ L.length ≤ fr.1)
theorem Bw.lt {w : World} {g : Nat} {L : By} (h : Bw w g L) : g < w.heap.size := by
  obtain ⟨cur, fr, h1, _⟩ := h
  exact lt_of_block h1
theorem Bw.cell {w : World} {g : Nat} {L : By} (h : Bw w g L) (j : Nat) (hj : j < L.length) : w.cell? ⟨g, j, none⟩ = some (.int .u8 L[j].toNat) := by
  obtain ⟨cur, fr, h1, h2, _⟩ := h
  rw [cell_of_row _ _ j _ _ fr h1]
  have h3 : (cur.toList.take L.length)[j]? = some (.int .u8 L[j].toNat) := by rw [h2]; exact bc_get L j hj
  rw [List.getElem?_take_of_lt hj] at h3
  simpa using h3
theorem Bw.free {w : World} {g : Nat} {L : By} (h : Bw w g L) (j : Nat) (hj : j < L.length) : w.frozen? ⟨g, j, none⟩ = false := by
  obtain ⟨cur, fr, h1, _, h3⟩ := h
  simp [World.frozen?, h1]
  omega
theorem row_set {w : World} {b : Nat} {cs : Array Value} {T : TypeId} {fr : Nat × Nat} (hb : w.heap[b]? = some (.cells cs T fr)) (i : Nat) (v : Value) :
    (w.setCell ⟨b, i, none⟩ v).heap[b]? = some (.cells (cs.setIfInBounds i v) T fr) := by
  simp [World.setCell, Array.getElem?_modify, hb]
theorem Bw.set {w : World} {g : Nat} {L : By} (h : Bw w g L) (j : Nat) (x : Int) (h0 : 0 ≤ x) (h1 : x < 256) : Bw (w.setCell ⟨g, j, none⟩ (.int .u8 x)) g (L.set j (byteOf x)) := by
  obtain ⟨cur, fr, e1, e2, e3⟩ := h
  refine ⟨_, fr, row_set e1 j _, ?_, by rw [List.length_set]; exact e3⟩
  rw [List.length_set, ← bc_set L j x h0 h1, ← e2, Array.toList_setIfInBounds, List.take_set]
theorem Bw.below {w w' : World} {g : Nat} {L : By} {B : Nat} (h : Bw w g L) (hb : Below B w w') (hg : g < B) : Bw w' g L := by
  obtain ⟨cur, fr, e1, e2, e3⟩ := h
  exact ⟨cur, fr, (hb.block g hg).trans e1, e2, e3⟩
theorem Bw.kept {w w' : World} {g : Nat} {L : By} (h : Bw w g L) (hb : Below w.heap.size w w') : Bw w' g L := h.below hb h.lt
theorem Bw.string {w : World} {g cap : Nat} {L : By} (h : Bw w g L) (hu : Try.prog.underlying 30 = some (.slice 5) := by kernel_rfl) : (convert 30 9 (.slice (some ⟨g, 0, none⟩) L.length cap)).run Try.prog w = .ok (.string (bs L)) w := by
  rw [run_convert_bytes_string w 30 9 5 _ _ _ hu (by kernel_rfl) (by kernel_rfl)]
  have hc := run_loadCells_list (P := Try.prog) w ⟨g, 0, none⟩ (bc L) (fun j u hj => by
    have hjl : j < L.length := by
      rcases Nat.lt_or_ge j L.length with h' | h'
      · exact h'
      · rw [List.getElem?_eq_none (by rw [bc_length]; exact h')] at hj; cases hj
    rw [bc_get L j hjl] at hj
    rw [Addr.add_mid, Nat.zero_add, h.cell j hjl]
    exact hj)
  rw [bc_length] at hc
  rw [run_bytesToString w ⟨g, 0, none⟩ L.length cap (L.map fun b => ((b.toNat : Nat) : Int)) (by rw [hc]; simp [bc]), foldl_push]
  simp [bs]
theorem Bw.of_own {w : World} {base g n cap : Nat} {L : By} (h : w.ownsRow base 5 1 (.slice (some ⟨g, 0, none⟩) n cap) n (bc L)) : Bw w g L := by
  have hl := h.1
  rw [bc_length, Nat.mul_one] at hl
  rcases h.2 with ⟨h', _⟩ | ⟨g', cap', cur, h', _, hg, _, _, _, ht⟩
  · cases h'
  · cases h'
    rw [Nat.mul_one] at ht
    exact ⟨cur, (0, 0), hg, by rw [hl]; exact ht, .inl rfl⟩
theorem Bw.of_bytes (w : World) (L : By) : Bw (Lib.bytesWorld w 5 (bs L)) w.heap.size L := by
  refine ⟨_, _, Lib.bytesWorld_at_new w 5 (bs L), ?_, .inr ?_⟩
  · unfold Lib.bytesCells
    rw [Array.toList_append, List.take_append_of_le_length (by simp [bs])]
    have h : (Array.map (fun b : UInt8 => Value.int .u8 b.toNat) (bs L).data).toList = bc L := by simp [bs, bc]
    rw [h, List.take_of_length_le (by rw [bc_length]; exact Nat.le_refl _)]
  · unfold Lib.bytesCells
    simp [bs]
theorem below_bytes (w : World) (L : By) : Below w.heap.size w (Lib.bytesWorld w 5 (bs L)) := by
  refine ⟨?_, ?_, ?_, ?_, fun k hk => Lib.bytesWorld_at_old w _ _ k hk⟩
  · simp [Lib.bytesWorld, World.freeze, World.alloc, World.drew, -World.alloc_eq, -World.drew_eq]
  · simp [Lib.bytesWorld, World.freeze, World.alloc, World.drew, -World.alloc_eq, -World.drew_eq]
  · simp [Lib.bytesWorld, World.freeze, World.alloc, World.drew, -World.alloc_eq, -World.drew_eq]
  · rw [Lib.bytesWorld_size]; omega
theorem run_bytes (w : World) (L : By) (hu : Try.prog.underlying 30 = some (.slice 5) := by kernel_rfl) : ∃ cap w', (convert 9 30 (.string (bs L))).run Try.prog w = .ok (.slice (some ⟨w.heap.size, 0, none⟩) L.length cap) w' ∧ Bw w' w.heap.size L ∧ Below w.heap.size w w' := by
  have := Lib.run_convert_string_bytes (P := Try.prog) w 9 30 5 (bs L) (u := .string) (by kernel_rfl) hu (by kernel_rfl)
  rw [bs_size] at this
  exact ⟨_, _, this, Bw.of_bytes w L, below_bytes w L⟩

end Go.Proofs.Ytgcfmgkhbenooaa

/- Contract of sha's digest: a state as bytes. -/
import Derived.Test.YtcdnpdmcijiffaaShaX
namespace Go.Proofs.Ytcdnpdmcijiffaa
open Go.RowKit
set_option linter.unusedVariables false

/-- a block of bytes -/
def BytesAt (w : World) (g : Nat) (t : TypeId) (L : List UInt8) : Prop := w.heap[g]? = some (.cells (bc L).toArray t (0, 0))
theorem BytesAt.cell {w : World} {g : Nat} {t : TypeId} {L : List UInt8} (h : BytesAt w g t L) (j : Nat) (hj : j < L.length) : w.cell? ⟨g, j, none⟩ = some (.int .u8 (L[j]).toNat) := by
  rw [cell_of_row w g j _ t (0, 0) h]
  simp only [List.getElem?_toArray]
  exact bc_get L j hj
theorem BytesAt.free {w : World} {g : Nat} {t : TypeId} {L : List UInt8} (h : BytesAt w g t L) (j : Nat) : w.frozen? ⟨g, j, none⟩ = false := frozen_of_row w g j _ t h
theorem BytesAt.set {w : World} {g : Nat} {t : TypeId} {L : List UInt8} (h : BytesAt w g t L) (j : Nat) (x : Int) (h0 : 0 ≤ x) (h1 : x < 256) : BytesAt (w.setCell ⟨g, j, none⟩ (.int .u8 x)) g t (L.set j (byteOf x)) := by
  unfold BytesAt
  rw [heap_setCell_same w g j _ t _ h, ← bc_set _ _ _ h0 h1]
  simp
theorem BytesAt.words {w : World} {g g' j : Nat} {t : TypeId} {L : List UInt32} (h : WordsAt w g t L) (v : Value) (hne : g ≠ g') : WordsAt (w.setCell ⟨g', j, none⟩ v) g t L := h.other v hne
theorem BytesAt.range {w : World} {g : Nat} {t : TypeId} {L : List UInt8} (h : BytesAt w g t L) : w.rangeAt g 0 (bc L) := fun j v hv => by
  rw [Nat.zero_add, cell_of_row w g j _ t (0, 0) h]
  simpa using hv
theorem run_string_at {P : Program} {w : World} {g o n cap : Nat} {l : List UInt8} (src dst e : TypeId) (hs : P.underlying src = some (.slice e)) (he : P.underlying e = some (.int .u8)) (hd : P.underlying dst = some .string)
    (h : w.rangeAt g o (bc l)) (hl : l.length = n) : (convert src dst (.slice (some ⟨g, o, none⟩) n cap)).run P w = .ok (.string ⟨l.toArray⟩) w := by
  rw [run_convert_bytes_string w src dst e _ _ _ hs he hd]
  have hc := run_loadCells_list (P := P) w ⟨g, o, none⟩ (bc l) (fun j v hv => by rw [Addr.add_mid]; exact h j v hv)
  rw [bc_length, hl] at hc
  rw [run_bytesToString w ⟨g, o, none⟩ n cap (l.map fun b => ((b.toNat : Nat) : Int)) (by rw [hc]; simp [bc]), foldl_push]
  simp

/-- byte i of words, the highest of each first -/
def digAt (s : List UInt32) (i : Nat) : UInt8 := byteOf (n32 (s.getD (i / 4) 0) / 2 ^ (24 - 8 * (i % 4)) % 256)
/-- a state of eight words as 32 bytes -/
def dig (s : List UInt32) : List UInt8 := (List.range 32).map (digAt s)
def digL (s : List UInt32) (k : Nat) : List UInt8 := (List.range 32).map fun i => if i < k then digAt s i else 0
theorem digL_length (s : List UInt32) (k : Nat) : (digL s k).length = 32 := by simp [digL]
theorem dig_length (s : List UInt32) : (dig s).length = 32 := by simp [dig]
theorem digL_zero (s : List UInt32) : digL s 0 = List.replicate 32 0 := by
  apply List.ext_getElem
  · simp [digL]
  · intro i h1 h2
    rw [List.getElem_replicate]
    simp [digL]
theorem digL_full (s : List UInt32) : digL s 32 = dig s := by
  unfold digL dig
  apply List.map_congr_left
  intro i hi
  rw [if_pos (List.mem_range.1 hi)]
theorem digL_step (s : List UInt32) (k : Nat) (h : k < 32) : (digL s k).set k (digAt s k) = digL s (k + 1) := by
  apply List.ext_getElem
  · simp [digL]
  · intro i h1 h2
    simp only [List.length_set, digL_length] at h1
    rw [List.getElem_set]
    by_cases e : k = i
    · subst e
      rw [if_pos rfl]
      simp [digL]
    · rw [if_neg e]
      simp only [digL, List.getElem_map, List.getElem_range]
      by_cases c : i < k
      · rw [if_pos c, if_pos (by omega)]
      · rw [if_neg c, if_neg (by omega)]

set_option maxRecDepth 100000 in
theorem digest_any (s : S8) (w : World) :
    Calls Try.prog 83 #[.agg (uc s.list).toArray] w fun e w' => e = .returned (.string ⟨(dig s.list).toArray⟩) ∧ Below w.heap.size w w' := by
  obtain ⟨cs, hcs⟩ : ∃ cs, cs = (uc s.list).toArray := ⟨_, rfl⟩
  rw [← hcs]
  have HC := hide hcs
  clear hcs
  go_enter Try.func83, Try.ntmps83
  go_wp2
  go_loopw [5] (fun i wr => ∃ k : Nat, k ≤ 32 ∧ i = .int .i64 k ∧ WordsAt wr w.heap.size 114 s.list ∧ BytesAt wr (w.heap.size + 1) 121 (digL s.list k) ∧ Below w.heap.size w wr) (fun i _ => 32 - (intOf i).toNat)
  case atStart =>
    refine ⟨0, by omega, rfl, ?_, ?_, ((Below.refl _ _).alloc (Nat.le_refl _) _).alloc (by simp) _⟩
    · rw [unhide HC]
      exact heap_alloc2_old _ _ _
    · rw [digL_zero]
      exact heap_alloc2_new _ _ _
  case round =>
    obtain ⟨k, hk, rfl, hw1, hw2, hb⟩ := hrel
    by_cases hlt : k < 32
    · have hk4 : k / 4 < s.list.length := by rw [S8.len]; omega
      have c1 := hw1.cell (k / 4) hk4
      have hsp : Hid (digAt s.list k = byteOf (n32 s.list[k / 4] / 2 ^ (24 - 8 * (k % 4)) % 256)) := by
        show _ = _
        unfold digAt
        rw [getD_of_lt _ _ hk4]
      have f1 := hw2.free k
      obtain ⟨u, c2⟩ : ∃ u, wr.cell? ⟨w.heap.size + 1, k, none⟩ = some u := ⟨_, hw2.cell k (by rw [digL_length]; exact hlt)⟩
      generalize s.list[k / 4] = x at *
      have HW1 := hide hw1
      have HW2 := hide hw2
      have HB := hide hb
      clear hw1 hw2 hb
      go_wp2
      go_roundw
      case rel =>
        have hv0 : 0 ≤ n32 x / 2 ^ (24 - 8 * (k % 4)) % 256 := Int.emod_nonneg _ (by omega)
        have hv1 : n32 x / 2 ^ (24 - 8 * (k % 4)) % 256 < 256 := Int.emod_lt_of_pos _ (by omega)
        refine ⟨k + 1, by omega, by go_num, (unhide HW1).other _ (by omega), ?_, (unhide HB).setCell (by simp) _⟩
        have := (unhide HW2).set k _ hv0 hv1
        rw [← unhide hsp, digL_step _ _ hlt] at this
        exact this
      case measure => simp [intOf]; omega
    · have hk32 : k = 32 := by omega
      subst hk32
      rw [digL_full] at hw2
      have hcv := run_string_at (P := Try.prog) (n := 32) (cap := 32) 39 9 5 Try.underlying39 (by kernel_rfl) (by kernel_rfl) hw2.range (dig_length _)
      generalize hD : (dig s.list).toArray = D at *
      have HD := hide hD
      have HB := hide hb
      clear hD
      clear hw1 hw2 hb
      go_wp2
      go_ret
      exact ⟨by rw [unhide HD]; rfl, unhide HB⟩

end Go.Proofs.Ytcdnpdmcijiffaa

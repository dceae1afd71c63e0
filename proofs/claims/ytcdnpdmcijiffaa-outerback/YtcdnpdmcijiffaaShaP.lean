/- Contract of sha's Pad. -/
import Derived.Test.YtcdnpdmcijiffaaLib
namespace Go.Proofs.Ytcdnpdmcijiffaa
open Go.RowKit
set_option linter.unusedVariables false

/-- how many bytes 0 the padding of n bytes has -/
def zerosOf (n : Nat) : Nat := (64 - (n + 9) % 64) % 64
/-- the padding of n bytes -/
def padL (n : Nat) : List UInt8 := 128 :: (List.replicate (zerosOf n) 0 ++ putB (8 * n) 8)
theorem padL_length (n : Nat) : (padL n).length = zerosOf n + 9 := by
  unfold padL
  rw [List.length_cons, List.length_append, List.length_replicate, putB_length]
theorem zerosOf_lt (n : Nat) : zerosOf n < 64 := Nat.mod_lt _ (by omega)
theorem pad_whole (n : Nat) : (n + (padL n).length) % 64 = 0 := by
  rw [padL_length]
  unfold zerosOf
  omega
/-- of the last eight bytes the k last ones are written -/
def padK (n k : Nat) : List UInt8 := (List.range (zerosOf n + 9)).map fun j => if j = 0 then 128 else if zerosOf n + 8 - j < k then byteAt (8 * n) (zerosOf n + 8 - j) else 0
theorem padK_length (n k : Nat) : (padK n k).length = zerosOf n + 9 := by simp [padK]
theorem padK_zero (n : Nat) : padK n 0 = (List.replicate (zerosOf n + 9) 0).set 0 128 := by
  apply List.ext_getElem
  · simp [padK]
  · intro i h1 h2
    rw [List.getElem_set]
    simp only [padK, List.getElem_map, List.getElem_range, Nat.not_lt_zero, if_false]
    by_cases e : i = 0
    · rw [if_pos e, if_pos e.symm]
    · rw [if_neg e, if_neg (fun h => e h.symm), List.getElem_replicate]
theorem padK_step (n k : Nat) (h : k < 8) : (padK n k).set (zerosOf n + 8 - k) (byteOf (8 * (n : Int) / 2 ^ (8 * k) % 256)) = padK n (k + 1) := by
  apply List.ext_getElem
  · simp [padK]
  · intro i h1 h2
    simp only [List.length_set, padK_length] at h1
    rw [List.getElem_set]
    simp only [padK, List.getElem_map, List.getElem_range]
    by_cases e : zerosOf n + 8 - k = i
    · rw [if_pos e, if_neg (by omega), if_pos (by omega)]
      have : zerosOf n + 8 - i = k := by omega
      rw [this]
      rfl
    · rw [if_neg e]
      by_cases e0 : i = 0
      · rw [if_pos e0, if_pos e0]
      · rw [if_neg e0, if_neg e0]
        by_cases c : zerosOf n + 8 - i < k
        · rw [if_pos c, if_pos (by omega)]
        · rw [if_neg c, if_neg (by omega)]
theorem padK_full (n : Nat) : padK n 8 = padL n := by
  rw [show padL n = 128 :: (List.replicate (zerosOf n) 0 ++ putB (8 * n) 8) from rfl]
  apply List.ext_getElem
  · rw [padK_length, List.length_cons, List.length_append, List.length_replicate, putB_length]
  · intro i h1 h2
    rw [padK_length] at h1
    simp only [padK, List.getElem_map, List.getElem_range]
    by_cases e0 : i = 0
    · subst e0; rw [if_pos rfl]; rfl
    · rw [if_neg e0]
      obtain ⟨j, rfl⟩ : ∃ j, i = j + 1 := ⟨i - 1, by omega⟩
      rw [List.getElem_cons_succ]
      by_cases c : zerosOf n + 8 - (j + 1) < 8
      · rw [if_pos c, List.getElem_append_right (by rw [List.length_replicate]; omega)]
        simp only [putB, List.getElem_map, List.getElem_range, List.length_replicate]
        congr 1
        omega
      · rw [if_neg c, List.getElem_append_left (by rw [List.length_replicate]; omega), List.getElem_replicate]

theorem Try.infoU : (Try.prog.info? 5).map (fun i => (i.zero, i.size, i.bytes)) = some (some (.int .u8 0), 1, 1) := by kernel_rfl
theorem Try.undB : Try.prog.underlying 39 = some (.slice 5) := by kernel_rfl

set_option maxRecDepth 100000 in
theorem pad_none (n : Int) (w : World) (h : n < 0 ∨ 65536 < n) :
    Calls Try.prog 82 #[.int .i64 n] w fun e w' => e = .returned (.string ⟨#[]⟩) ∧ w = w' := by
  rcases h with h | h
  · go_enter Try.func82, Try.ntmps82
    go_wp2
    go_ret
    exact ⟨rfl, rfl⟩
  · have h' : ¬ n < 0 := by omega
    go_enter Try.func82, Try.ntmps82
    go_wp2
    go_ret
    exact ⟨rfl, rfl⟩

set_option maxRecDepth 100000 in
theorem pad_any (n : Nat) (w : World) (h : n ≤ 65536) :
    Calls Try.prog 82 #[.int .i64 n] w fun e w' => e = .returned (.string ⟨(padL n).toArray⟩) ∧ Below w.heap.size w w' := by
  obtain ⟨i0, hi, hz0, hz1, hz2⟩ := info_parts Try.infoU
  have a1 : ¬ (n : Int) < 0 := by omega
  have a2 : ¬ (65536 : Int) < n := by omega
  have hz := zerosOf_lt n
  have hk0 := hide (padK_zero n)
  have hks := hide (padK_step n)
  have hkf := hide (padK_full n)
  have hkl := hide (padK_length n)
  have ez : -(((n : Int) + 1 + 8) % 64) % 64 = (zerosOf n : Int) := by unfold zerosOf; omega
  generalize zerosOf n = z at *
  go_enter Try.func82, Try.ntmps82
  go_wp2_with (at_make; refine wpList_make_full _ rfl _ _ 39 rfl w.heap.size 5 i0 (.int .u8 0) 1 Try.undB hi hz0 hz1 .i64 .i64 _ _ (z + 9) rfl rfl ?c0 ?c1 ?c2 ?c3 ?c4 ?_)
  case c0 => omega
  case c1 => omega
  case c2 => omega
  case c3 => unfold maxLen; omega
  intro w1 hown hgrow
  have b1 : Below w.heap.size w w1 := (Below.refl _ _).grown hgrow (Nat.le_refl _) (by intro k hk; cases hk)
  rw [made_bytes] at hown
  have f0 := hown.frozenAt 0
  obtain ⟨u0, c0⟩ : ∃ u, w1.cell? ⟨w.heap.size, 0, none⟩ = some u := ⟨_, (hown.cellAt 0 (by omega)).trans (bc_get _ 0 (by rw [List.length_replicate]; omega))⟩
  have hst := hide (hown.stored 0 (.int .u8 128)).1
  have hb1 := hide (b1.setCell (p := ⟨w.heap.size, 0, none⟩) (Nat.le_refl _) (.int .u8 128))
  rw [bc_set _ _ _ (by omega) (by omega), show byteOf 128 = 128 from rfl, ← unhide hk0] at hst
  clear hown hgrow b1 hi hz0 hz1 hz2
  go_wp2
  go_loopw [26] (fun i wr => ∃ k : Nat, k ≤ 8 ∧ i = .int .i64 k ∧ wr.ownsRow w.heap.size 5 1 (.slice (some ⟨w.heap.size, 0, none⟩) (z + 9) (z + 9)) (z + 9) (bc (padK n k)) ∧ Below w.heap.size w wr) (fun i _ => 8 - (intOf i).toNat)
  case atStart => exact ⟨0, by omega, rfl, unhide hst, unhide hb1⟩
  case round =>
    clear hst hb1 f0 c0
    obtain ⟨k, hk, rfl, hown, hb⟩ := hrel
    by_cases hlt : k < 8
    · have f1 := hown.frozenAt (z + 8 - k)
      obtain ⟨u, c1⟩ : ∃ u, wr.cell? ⟨w.heap.size, z + 8 - k, none⟩ = some u := ⟨_, (hown.cellAt (z + 8 - k) (by omega)).trans (bc_get _ _ (by rw [unhide hkl]; omega))⟩
      have hst := hide (hown.stored (z + 8 - k) (.int .u8 (8 * (n : Int) / 2 ^ (8 * k) % 256))).1
      have hb2 := hide (hb.setCell (p := ⟨w.heap.size, z + 8 - k, none⟩) (Nat.le_refl _) (.int .u8 (8 * (n : Int) / 2 ^ (8 * k) % 256)))
      rw [bc_set _ _ _ (by omega) (by omega), unhide hks k hlt] at hst
      clear hown hb
      go_wp2
      rw [Int.mul_comm (n : Int) 8]
      go_roundw
      case rel => exact ⟨k + 1, by omega, by go_num, unhide hst, unhide hb2⟩
      case measure => simp [intOf]; omega
    · have hk8 : k = 8 := by omega
      subst hk8
      have hcv := run_string_own (P := Try.prog) 39 9 Try.undB (by kernel_rfl) (by kernel_rfl) hown
      rw [unhide hkf] at hcv
      generalize hD : (padL n).toArray = D at *
      have HD := hide hD
      have HB := hide hb
      clear hD hown hb
      go_wp2
      go_ret
      exact ⟨by rw [unhide HD]; rfl, unhide HB⟩

end Go.Proofs.Ytcdnpdmcijiffaa

/- Contracts of prng's Block, New, Word, Used. -/
import Derived.Test.YtkcnihngkmaecaaGreatShaZ
import Derived.Test.YtkcnihngkmaecaaGreatOctG
import Derived.Deep.RegionWith
namespace Go.Proofs.YtkcnihngkmaecaaGreat
open Go.RowKit
set_option linter.unusedVariables false

/-- a seed's k-th block -/
def blk (seed : List UInt8) (k : Int) : List UInt8 := if 64 < seed.length ∨ k < 0 ∨ k / 2 ^ (8 * 7) ≠ 0 then [] else shaSum (2 :: byteOf seed.length :: (seed ++ putB k 7))
theorem blk_len (seed : List UInt8) (k : Int) (h1 : seed.length ≤ 64) (h2 : 0 ≤ k) (h3 : k < 72057594037927936) : (blk seed k).length = 32 := by
  have : k / 2 ^ (8 * 7) = 0 := Int.ediv_eq_zero_of_lt h2 h3
  unfold blk
  rw [if_neg (by rintro (h | h | h) <;> omega), shaSum_length]

theorem below_drawn {B : Nat} {a w : World} (h : Below B a w) (n : Nat) : Below B a (w.drewN n) := h.trans ⟨rfl, rfl, rfl, Nat.le_refl _, fun _ _ => rfl⟩
theorem to_any2 (w : World) :
    Calls Tryz.prog 46 #[] w fun x w' => ∃ b, x = .returned (.pointer (some ⟨b, 0, none⟩)) ∧ WriterAt w' b (b + 1) [] 0 ∧ b + 1 ≤ w'.heap.size ∧ w.heap.size ≤ b ∧ Below w.heap.size w w' := by
  refine (to_any w).mono ?_
  rintro e w' ⟨rfl, hW, rfl⟩
  exact ⟨w.heap.size, rfl, hW _ (by omega), by simp, Nat.le_refl _, (Below.refl _ _).alloc (Nat.le_refl _) _⟩

theorem putS_one (n : Int) (h0 : 0 ≤ n) (h1 : n < 256) : putS n 1 = ([byteOf n], 0) := by
  have e : n / 2 ^ (8 * (1 : Int).toNat) = 0 := by show n / 256 = 0; omega
  unfold putS
  rw [if_neg (by omega), if_neg (by rintro (h | h) <;> omega)]
  have e2 : putB n (1 : Int).toNat = [byteOf n] := by
    show putB n 1 = _
    rw [show (1 : Nat) = 0 + 1 from rfl, putB_succ]
    show [byteOf (n / 1 % 256)] = _
    rw [show n / 1 % 256 = n by omega]
  rw [e2]
theorem wNum_one (l : List UInt8) (n : Int) (h0 : 0 ≤ n) (h1 : n < 256) (hl : l.length ≤ 100) : wNum (l, 0) n 1 = (l ++ [byteOf n], 0) := by
  unfold wNum
  rw [putS_one n h0 h1]
  simp [wRaw]
  omega
theorem wRaw_ok (l s : List UInt8) (hl : l.length + s.length ≤ 65536) : wRaw (l, 0) s = (l ++ s, 0) := by
  simp [wRaw]
  omega
theorem wNum_seven (l : List UInt8) (k : Int) (hl : l.length ≤ 100) : wNum (l, 0) k 7 = if k < 0 ∨ k / 2 ^ (8 * 7) ≠ 0 then (l, 8) else (l ++ putB k 7, 0) := by
  have e : putS k 7 = if k < 0 ∨ k / 2 ^ (8 * 7) ≠ 0 then ([], 8) else (putB k 7, 0) := by
    unfold putS
    rw [if_neg (by omega : ¬ ((7 : Int) < 1 ∨ (7 : Int) < 7))]
    rfl
  unfold wNum
  rw [e]
  by_cases h : k < 0 ∨ k / 2 ^ (8 * 7) ≠ 0
  · rw [if_pos h, if_pos h, if_pos (by decide)]
    simp [wNote]
  · rw [if_neg h, if_neg h, if_neg (by simp)]
    exact wRaw_ok _ _ (by rw [putB_length]; omega)

theorem isSeed_any (s : ByteArray) (w : World) (hs : s.size ≤ maxLen) : Calls Tryz.prog 65 #[.string s] w fun e w' => e = .returned (.bool (decide ((s.size : Int) ≤ 64))) ∧ w = w' := by
  unfold maxLen at hs
  go_enter Tryz.func65, Tryz.ntmps65
  go_wp2
  go_ret
  exact ⟨rfl, rfl⟩

theorem block_long (s : ByteArray) (k : Int) (w : World) (hs : s.size ≤ maxLen) (hl : 64 < s.size) :
    Calls Tryz.prog 93 #[.string s, .int .i64 k] w fun e w' => e = .returned (.string ⟨#[]⟩) ∧ w = w' := by
  have hd : decide ((s.size : Int) ≤ 64) = false := by simp; omega
  have hc := hide (isSeed_any s w hs)
  rw [hd] at hc
  clear hd
  go_enter Tryz.func93, Tryz.ntmps93
  go_wp2_with fail
  refine (unhide hc).mono ?_
  rintro e w' ⟨rfl, rfl⟩
  go_wp2
  go_ret
  exact ⟨rfl, rfl⟩

theorem block_short (s : ByteArray) (k : Int) (w : World) (hl : s.size ≤ 64) :
    Calls Tryz.prog 93 #[.string s, .int .i64 k] w fun e w' => e = .returned (.string ⟨(blk s.data.toList k).toArray⟩) ∧ Below w.heap.size w w' := by
  have hd : decide ((s.size : Int) ≤ 64) = true := by simp; omega
  have hc := hide (isSeed_any s w (by unfold maxLen; omega))
  rw [hd] at hc
  clear hd
  have hl' : (s.size : Int) ≤ 64 := by omega
  have hlen : s.data.toList.length = s.size := by simp
  obtain ⟨L, hL⟩ : ∃ L, L = [byteOf 2] ++ [byteOf s.size] ++ s.data.toList := ⟨_, rfl⟩
  have hLl : L.length ≤ 66 := by rw [hL]; simp; omega
  have e7 := hide (wNum_seven L k (by omega))
  have e2 := hide (wRaw_ok ([byteOf 2] ++ [byteOf s.size]) s.data.toList (by simp; omega))
  have e1 := hide (wNum_one [byteOf 2] s.size (by omega) (by omega) (by simp))
  have e0 := hide (wNum_one [] 2 (by omega) (by omega) (by simp))
  rw [List.nil_append] at e0
  rw [← hL] at e2
  have hbk : Hid (blk s.data.toList k = if k < 0 ∨ k / 2 ^ (8 * 7) ≠ 0 then [] else shaSum (L ++ putB k 7)) := by
    show _ = _
    unfold blk
    rw [hL, hlen]
    by_cases h : k < 0 ∨ k / 2 ^ (8 * 7) ≠ 0
    · rw [if_pos (.inr h), if_pos h]
    · rw [if_neg (fun h' => h'.elim (fun h2 => by omega) h), if_neg h]
      rfl
  clear hL hlen
  go_enter Tryz.func93, Tryz.ntmps93
  go_wp2_with fail
  refine (unhide hc).mono ?_
  rintro e w' ⟨rfl, rfl⟩
  go_wp2_with fail
  refine (to_any2 w).mono ?_
  rintro e w1 ⟨b, rfl, hW1, z1, hwb, k1⟩
  have HW1 := hide hW1
  have K1 := hide k1
  clear hW1 k1 hc
  go_wp2_with fail
  refine (wnum_any w1 b (b + 1) [] 0 2 1 (by simp) z1 (by omega) (unhide HW1)).mono ?_
  rintro e w2 ⟨rfl, hW2, k2⟩
  rw [unhide e0] at hW2
  have z2 : b + 1 ≤ w2.heap.size := Nat.le_trans z1 k2.size
  have HW2 := hide hW2
  have K2 := hide ((unhide K1).trans (k2.below w.heap.size (by omega) hwb))
  clear hW2 k2 HW1 K1 e0 z1
  go_wp2_with fail
  refine (wnum_any w2 b (b + 1) [byteOf 2] 0 s.size 1 (by simp) z2 (by omega) (unhide HW2)).mono ?_
  rintro e w3 ⟨rfl, hW3, k3⟩
  rw [unhide e1] at hW3
  have z3 : b + 1 ≤ w3.heap.size := Nat.le_trans z2 k3.size
  have HW3 := hide hW3
  have K3 := hide ((unhide K2).trans (k3.below w.heap.size (by omega) hwb))
  clear hW3 k3 HW2 K2 e1 z2
  go_wp2_with fail
  refine (wraw_any w3 b (b + 1) ([byteOf 2] ++ [byteOf s.size]) 0 s (by unfold maxLen; omega) (by simp) z3 (by omega) (unhide HW3)).mono ?_
  rintro e w4 ⟨rfl, hW4, k4⟩
  rw [unhide e2] at hW4
  have z4 : b + 1 ≤ w4.heap.size := Nat.le_trans z3 k4.size
  have HW4 := hide hW4
  have K4 := hide ((unhide K3).trans (k4.below w.heap.size (by omega) hwb))
  clear hW4 k4 HW3 K3 e2 z3
  go_wp2_with fail
  refine (wnum_any w4 b (b + 1) L 0 k 7 (by omega) z4 (by omega) (unhide HW4)).mono ?_
  rintro e w5 ⟨rfl, hW5, k5⟩
  rw [unhide e7] at hW5
  have K5 := hide ((unhide K4).trans (k5.below w.heap.size (by omega) hwb))
  clear k5 HW4 K4 e7 z4
  by_cases hk : k < 0 ∨ k / 2 ^ (8 * 7) ≠ 0
  · rw [if_pos hk] at hW5 hbk
    have HW5 := hide hW5
    clear hW5 hk
    go_wp2_with fail
    refine (bytes_any w5 b (b + 1) L 8 (unhide HW5)).mono ?_
    rintro e w6 ⟨rfl, n, rfl⟩
    rw [if_neg (by decide : ¬ (8 : Int) = 0)]
    go_wp2
    go_ret
    exact ⟨by rw [unhide hbk]; rfl, below_drawn (unhide K5) _⟩
  · rw [if_neg hk] at hW5 hbk
    have HW5 := hide hW5
    clear hW5 hk
    have hs := hide (fun w => sum_any w ⟨(L ++ putB k 7).toArray⟩ (by simp [ByteArray.size, putB_length]; omega))
    obtain ⟨M, hM⟩ : ∃ M, M = L ++ putB k 7 := ⟨_, rfl⟩
    rw [← hM] at HW5 hbk hs
    clear hM
    go_wp2_with fail
    refine (bytes_any w5 b (b + 1) M 0 (unhide HW5)).mono ?_
    rintro e w6 ⟨rfl, n, rfl⟩
    rw [if_pos rfl]
    generalize hB : (⟨M.toArray⟩ : ByteArray) = B at *
    rw [← unhide hbk] at hs
    clear hB hbk
    generalize hD : (blk s.data.toList k).toArray = D at *
    have HD := hide hD
    clear hD
    go_wp2_with fail
    refine (unhide hs _).mono ?_
    rintro e w7 ⟨rfl, k7⟩
    have K7 := hide ((below_drawn (unhide K5) _).trans (k7.mono (by have := (unhide K5).size; simpa using this)))
    clear k7 K5 hs
    go_wp2
    go_ret
    exact ⟨by rw [unhide HD]; rfl, unhide K7⟩

end Go.Proofs.YtkcnihngkmaecaaGreat


/- Contracts of prng's New, Word, Used. -/
import Derived.Test.YtcdnpdmcijiffaaPrA
import Derived.Test.YtcdnpdmcijiffaaGr
namespace Go.Proofs.Ytcdnpdmcijiffaa
open Go.RowKit
set_option linter.unusedVariables false

theorem block_any (s : ByteArray) (k : Int) (w : World) (hs : s.size ≤ maxLen) :
    Calls Try.prog 67 #[.string s, .int .i64 k] w fun e w' => e = .returned (.string ⟨(blk s.data.toList k).toArray⟩) ∧ Below w.heap.size w w' := by
  by_cases h : s.size ≤ 64
  · exact block_short s k w h
  · refine (block_long s k w hs (by omega)).mono ?_
    rintro e w' ⟨rfl, rfl⟩
    have : blk s.data.toList k = [] := by unfold blk; rw [if_pos (.inl (by simp; omega))]
    exact ⟨by rw [this], Below.refl _ _⟩

/-- block b is a generator of a seed that has drawn u words -/
def GenAt (w : World) (b : Nat) (s : ByteArray) (u : Int) : Prop := w.heap[b]? = some (.cells #[.string s, .int .i64 u] 76 (0, 0))

theorem gnew_long (s : ByteArray) (w : World) (hs : s.size ≤ maxLen) (hl : 64 < s.size) :
    Calls Try.prog 34 #[.string s] w fun e w' => e = .returned (.pointer none) ∧ w = w' := by
  have hd : decide ((s.size : Int) ≤ 64) = false := by simp; omega
  have hc := hide (isSeed_any s w hs)
  rw [hd] at hc
  clear hd
  go_enter Try.func34, Try.ntmps34
  go_wp2_with fail
  refine (unhide hc).mono ?_
  rintro e w' ⟨rfl, rfl⟩
  go_wp2
  go_ret
  exact ⟨rfl, rfl⟩
theorem gnew_any (s : ByteArray) (w : World) (hl : s.size ≤ 64) :
    Calls Try.prog 34 #[.string s] w fun e w' => ∃ b, e = .returned (.pointer (some ⟨b, 0, none⟩)) ∧ GenAt w' b s 0 ∧ w.heap.size ≤ b ∧ Below w.heap.size w w' := by
  have hd : decide ((s.size : Int) ≤ 64) = true := by simp; omega
  have hc := hide (isSeed_any s w (by unfold maxLen; omega))
  rw [hd] at hc
  clear hd
  go_enter Try.func34, Try.ntmps34
  go_wp2_with fail
  refine (unhide hc).mono ?_
  rintro e w' ⟨rfl, rfl⟩
  go_wp2
  go_ret
  exact ⟨w.heap.size, rfl, heap_alloc_new _ _, Nat.le_refl _, (Below.refl _ _).alloc (Nat.le_refl _) _⟩

/-- the word of a place -/
def wd (seed : List UInt8) (u : Nat) : Int := getV (((blk seed (u / 8 : Nat)).drop (4 * (u % 8))).take 4)
theorem wd_bounds (seed : List UInt8) (u : Nat) : 0 ≤ wd seed u ∧ wd seed u < 4294967296 := by
  have h := getV_bounds (((blk seed (u / 8 : Nat)).drop (4 * (u % 8))).take 4)
  refine ⟨h.1, Int.lt_of_lt_of_le h.2 ?_⟩
  have : (256 : Int) ^ (((blk seed (u / 8 : Nat)).drop (4 * (u % 8))).take 4).length ≤ 256 ^ 4 := pow256_le (List.length_take_le _ _)
  exact this

theorem word_nil (w : World) : Calls Try.prog 55 #[.pointer none] w fun e w' => e = .returned (.int .u32 0) ∧ w = w' := by
  go_enter Try.func55, Try.ntmps55
  go_wp2
  go_ret
  exact ⟨rfl, rfl⟩
theorem bext' (s : ByteArray) (a b : Nat) : (s.extract a b).data.toList = (s.data.toList.drop a).take (b - a) := by
  rw [ByteArray.data_extract, Array.toList_extract, List.extract_eq_take_drop]

set_option maxRecDepth 100000 in
set_option maxHeartbeats 1000000 in
theorem word_any (w : World) (b : Nat) (s : ByteArray) (u : Nat) (hs : s.size ≤ 64) (hu : u ≤ 1099511627776) (hG : GenAt w b s u) :
    Calls Try.prog 55 #[.pointer (some ⟨b, 0, none⟩)] w fun e w' => e = .returned (.int .u32 (wd s.data.toList u)) ∧ GenAt w' b s (u + 1) ∧ Kept w.heap.size b w w' := by
  have c0 := cell0_of_two hG
  have c1 := cell1_of_two hG
  have HG := hide hG
  obtain ⟨q, hq⟩ : ∃ q : Nat, q = u / 8 := ⟨_, rfl⟩
  obtain ⟨D, hD⟩ : ∃ D : ByteArray, D = ⟨(blk s.data.toList q).toArray⟩ := ⟨_, rfl⟩
  have hDl : D.data.toList = blk s.data.toList q := by rw [hD]
  have hDs : D.size = 32 := by rw [← blen, hDl]; exact blk_len _ _ (by rw [blen]; exact hs) (by omega) (by omega)
  have hbl := hide (fun w => block_short s q w hs)
  rw [← hD] at hbl
  obtain ⟨k, hk⟩ : ∃ k, k = 4 * (u % 8) := ⟨_, rfl⟩
  have hk2 : k ≤ 28 := by omega
  have hkm : (u : Int) % 8 * 4 = k := by omega
  have hkd : (u : Int) / 8 = q := by omega
  have hgt := hide (fun w => get_any (D.extract k (k + 4)) w (by rw [ByteArray.size_extract]; omega))
  have hwd : Hid (getV (D.extract k (k + 4)).data.toList = wd s.data.toList u) := by
    show _ = _
    rw [bext', hDl, show k + 4 - k = 4 by omega, hk, hq]
    rfl
  rw [unhide hwd] at hgt
  have hb := wd_bounds s.data.toList u
  have hd32 : (D.size : Int) = 32 := by omega
  clear hD hDl hDs hk hwd hG hq
  generalize wd s.data.toList u = v at *
  have f1 := free_of_two (j := 1) (unhide HG)
  go_enter Try.func55, Try.ntmps55
  go_wp2_with fail
  have hc0 : ∀ x : Gb w, x.w.cell? ⟨b, 0, none⟩ = some (.string s) := fun x => gb_cell c0 x
  have hc1 : ∀ x : Gb w, x.w.cell? ⟨b, 1, none⟩ = some (.int .i64 u) := fun x => gb_cell c1 x
  have hne := gb_ne w
  refine wp_region_gr (fun x => Below w.heap.size w x) (by kernel_rfl) (by kernel_rfl) (gb_start w) ?_
  repeat (go_big_quiet_step ((go_at_call 67; exact gb_call (unhide hbl _))))
  refine wpQuiet_nil ?_
  rintro w1 ⟨⟨_, b1⟩, rfl⟩
  have hG1 : GenAt w1 b s u := (b1.block b (lt_of_block (unhide HG))).trans (unhide HG)
  have c1' := cell1_of_two hG1
  have f1' := free_of_two (j := 1) hG1
  have hfin : Hid (GenAt (w1.setCell ⟨b, 1, none⟩ (.int .i64 (u + 1))) b s (u + 1)) := two_set1 hG1
  have hkp : Hid (Kept w.heap.size b w (w1.setCell ⟨b, 1, none⟩ (.int .i64 (u + 1)))) := (Kept.of_below b1).trans (kept_set _ _ _ _ _)
  clear hc0 hc1 hne hG1 b1 c0 c1 f1 hbl
  go_wp2_with fail
  refine (unhide hgt _).mono ?_
  rintro e w2 ⟨rfl, rfl⟩
  go_wp2
  go_ret
  exact ⟨rfl, unhide hfin, unhide hkp⟩

end Go.Proofs.Ytcdnpdmcijiffaa

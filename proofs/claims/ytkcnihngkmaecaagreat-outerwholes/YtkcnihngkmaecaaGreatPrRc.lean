/- Contract of the document's own Choose. -/
import Derived.Test.YtkcnihngkmaecaaGreatPrR
namespace Go.Proofs.YtkcnihngkmaecaaGreat
open Go.RowKit
set_option linter.unusedVariables false

theorem rchoose_bad (w : World) (a0 : Option Addr) (len cap : Nat) (n : Int) (h : ¬ (1 ≤ n ∧ n ≤ 2147483647) ∨ len = 0) (hl : len ≤ maxLen) :
    Calls Tryz.prog 71 #[.slice a0 len cap, .int .i64 n] w fun e w' => e = .returned (.agg #[.int .i64 0, .int .i64 0]) ∧ Below w.heap.size w w' := by
  unfold maxLen at hl
  by_cases h1 : n < 1
  · go_enter Tryz.func71, Tryz.ntmps71
    go_wp2
    exact ret_cell rfl w.heap.size 105 #[.int .i64 0, .int .i64 0] (0, 0) _ rfl (heap_alloc_new _ _) rfl Tryz.underlying105 (by kernel_rfl) ⟨rfl, (Below.refl _ _).alloc (Nat.le_refl _) _⟩
  · by_cases h2 : 2147483647 < n
    · go_enter Tryz.func71, Tryz.ntmps71
      go_wp2
      exact ret_cell rfl w.heap.size 105 #[.int .i64 0, .int .i64 0] (0, 0) _ rfl (heap_alloc_new _ _) rfl Tryz.underlying105 (by kernel_rfl) ⟨rfl, (Below.refl _ _).alloc (Nat.le_refl _) _⟩
    · have h3 : len = 0 := by omega
      subst h3
      clear h
      go_enter Tryz.func71, Tryz.ntmps71
      go_wp2
      exact ret_cell rfl w.heap.size 105 #[.int .i64 0, .int .i64 0] (0, 0) _ rfl (heap_alloc_new _ _) rfl Tryz.underlying105 (by kernel_rfl) ⟨rfl, (Below.refl _ _).alloc (Nat.le_refl _) _⟩

set_option maxRecDepth 100000 in
set_option maxHeartbeats 1000000 in
theorem rchoose_any (w : World) (g o len cap : Nat) (n : Int) (Z : Nat → Int) (hl1 : 1 ≤ len) (h3 : len ≤ maxLen) (hn1 : 1 ≤ n) (hn2 : n ≤ 2147483647) (hZ : WordsIn w g o len Z) :
    Calls Tryz.prog 71 #[.slice (some ⟨g, o, none⟩) len cap, .int .i64 n] w fun e w' => e = .returned (.agg #[.int .i64 (chV Z n (min len 8)), .int .i64 (chUse Z (fairOf n) (min len 8) 0)]) ∧ Below w.heap.size w w' := by
  unfold maxLen at h3
  have hm0 : 0 ≤ 4294967296 % n := Int.emod_nonneg _ (by omega)
  have hm1 : 4294967296 % n < n := Int.emod_lt_of_pos _ (by omega)
  have hfe : fairOf n = 4294967296 - 4294967296 % n := rfl
  have HFE := hide hfe
  have hZ1 := hZ.below ((Below.refl w.heap.size w).alloc (Nat.le_refl _) (.cells #[.int .i64 0, .int .i64 0] 105))
  obtain ⟨t, ht⟩ : ∃ t, t = min len 8 := ⟨_, rfl⟩
  have ht1 : 1 ≤ t := by omega
  have ht2 : t ≤ len := by omega
  have ht8 : t ≤ 8 := by omega
  have hte : t = len ∨ t = 8 := by omega
  rw [← ht]
  clear ht hZ hfe
  unfold chV
  generalize fairOf n = F at *
  generalize hR : chUse Z F t 0 = R at *
  have HR := hide hR
  have HZ := hide hZ1
  have hl0 : ((len : Int) == 0) = false := by rw [beq_eq_false_iff_ne]; omega
  clear hR hZ1
  go_enter Tryz.func71, Tryz.ntmps71
  go_wp2_with fail
  rw [← unhide HFE]
  generalize hW : World.alloc _ _ = W
  rw [hW] at HZ
  have r0 : W.heap[w.heap.size]? = some (.cells #[.int .i64 0, .int .i64 0] 105 (0, 0)) := by rw [← hW]; exact heap_alloc_new _ _
  have b0 : Below w.heap.size w W := by rw [← hW]; exact (Below.refl _ _).alloc (Nat.le_refl _) _
  have R0 := hide r0
  have B0 := hide b0
  have c0 := cell0_of_two r0
  have c1 := cell1_of_two r0
  have f0 := free_of_two (j := 0) r0
  have f1 := free_of_two (j := 1) r0
  clear hW r0 b0
  go_loopw [6, 7, 8] (fun la us i wr => ∃ k : Nat, k ≤ t ∧ i = .int .i64 k ∧ us = .int .i64 k ∧ la = .int .i64 (if k = 0 then 0 else Z (k - 1)) ∧ chUse Z F (t - k) k = R ∧ W = wr) (fun _ _ i _ => t - (intOf i).toNat)
  case atStart => exact ⟨0, Nat.zero_le _, rfl, rfl, rfl, unhide HR, rfl⟩
  case round =>
    obtain ⟨k, hk, rfl, rfl, rfl, hu, rfl⟩ := hrel
    by_cases hlt : k < t
    · obtain ⟨hz1, hz2, hz3⟩ := unhide HZ k (by omega)
      obtain ⟨r, hr⟩ : ∃ r, t - k = r + 1 := ⟨t - k - 1, by omega⟩
      rw [hr, chUse] at hu
      generalize hz : Z k = z at *
      have HZk := hide hz
      clear hz
      have i1 : (k : Int) < len := by omega
      have i2 : (k : Int) < 8 := by omega
      by_cases hzF : z < F
      · rw [if_pos (.inl hzF)] at hu
        have hR1 : Hid (R - 1 = k) := by show _ = _; omega
        have HRu := hide hu
        clear hu hr
        go_wp2
        exact ret_cell rfl w.heap.size 105 #[.int .i64 (z % n), .int .i64 (k + 1)] (0, 0) _ rfl (two_set1 (two_set0 (unhide R0))) rfl Tryz.underlying105 (by kernel_rfl) ⟨by rw [unhide hR1, unhide HZk, ← unhide HRu]; rfl, ((unhide B0).setCell (Nat.le_refl _) _).setCell (Nat.le_refl _) _⟩
      · have HRu : Hid (chUse Z F (t - (k + 1)) (k + 1) = R) := by
          show _ = _
          rw [show t - (k + 1) = r by omega]
          by_cases hr0 : r = 0
          · rw [if_pos (.inr hr0)] at hu
            rw [hr0]
            exact hu
          · rw [if_neg (by omega)] at hu
            exact hu
        clear hu hr
        go_wp2
        go_roundw
        case rel => exact ⟨k + 1, by omega, by go_num, by go_num, by rw [if_neg (by omega), Nat.add_sub_cancel, unhide HZk], unhide HRu, by first | rfl | trivial⟩
        case measure => simp [intOf]; omega
    · have hke : k = t := by omega
      subst hke
      rw [Nat.sub_self, chUse] at hu
      obtain ⟨hz1, hz2, hz3⟩ := unhide HZ (k - 1) (by omega)
      rw [if_neg (by omega : ¬ k = 0)]
      have hR1 : Hid (R - 1 = k - 1) := by show _ = _; omega
      have HRu := hide hu
      clear hu hz1
      generalize hz : Z (k - 1) = z at *
      have HZk := hide hz
      clear hz
      rcases hte with hte | hte
      · have i1 : ¬ (k : Int) < len := by omega
        clear hte
        go_wp2
        exact ret_cell rfl w.heap.size 105 #[.int .i64 (z % n), .int .i64 k] (0, 0) _ rfl (two_set1 (two_set0 (unhide R0))) rfl Tryz.underlying105 (by kernel_rfl) ⟨by rw [unhide hR1, unhide HZk, ← unhide HRu], ((unhide B0).setCell (Nat.le_refl _) _).setCell (Nat.le_refl _) _⟩
      · have i2 : ¬ (k : Int) < 8 := by omega
        clear hte
        by_cases i1 : (k : Int) < len
        · go_wp2
          exact ret_cell rfl w.heap.size 105 #[.int .i64 (z % n), .int .i64 k] (0, 0) _ rfl (two_set1 (two_set0 (unhide R0))) rfl Tryz.underlying105 (by kernel_rfl) ⟨by rw [unhide hR1, unhide HZk, ← unhide HRu], ((unhide B0).setCell (Nat.le_refl _) _).setCell (Nat.le_refl _) _⟩
        · go_wp2
          exact ret_cell rfl w.heap.size 105 #[.int .i64 (z % n), .int .i64 k] (0, 0) _ rfl (two_set1 (two_set0 (unhide R0))) rfl Tryz.underlying105 (by kernel_rfl) ⟨by rw [unhide hR1, unhide HZk, ← unhide HRu], ((unhide B0).setCell (Nat.le_refl _) _).setCell (Nat.le_refl _) _⟩

end Go.Proofs.YtkcnihngkmaecaaGreat

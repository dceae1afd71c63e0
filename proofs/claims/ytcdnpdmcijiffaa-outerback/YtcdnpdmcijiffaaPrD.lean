
/- Contracts of prng's Choose, Below. -/
import Derived.Test.YtcdnpdmcijiffaaPrC
namespace Go.Proofs.Ytcdnpdmcijiffaa
open Go.RowKit
set_option linter.unusedVariables false

set_option maxRecDepth 100000 in
set_option maxHeartbeats 1000000 in
theorem chosen2_any (w : World) (b u : Nat) (s : ByteArray) (n : Int) (hs : s.size ≤ 64) (hu : u ≤ 1000000000) (hn1 : 1 ≤ n) (hn2 : n ≤ 2147483647) (hG : GenAt w b s u) :
    Calls Try.prog 54 #[.func (.func 55) #[.pointer (some ⟨b, 0, none⟩)] #[], .int .i64 8, .int .i64 n] w fun e w' => e = .returned (.tuple #[.int .i64 (chV (fun i => wd s.data.toList (u + i)) n 8), .int .i64 (chUse (fun i => wd s.data.toList (u + i)) (fairOf n) 8 0)]) ∧ GenAt w' b s ((u + chUse (fun i => wd s.data.toList (u + i)) (fairOf n) 8 0 : Nat) : Int) ∧ Kept w.heap.size b w w' := by
  have hm0 : 0 ≤ 4294967296 % n := Int.emod_nonneg _ (by omega)
  have hm1 : 4294967296 % n < n := Int.emod_lt_of_pos _ (by omega)
  have hfe : fairOf n = 4294967296 - 4294967296 % n := rfl
  have HFE := hide hfe
  have HG := hide hG
  have hbd := hide (fun i => wd_bounds s.data.toList (u + i))
  have hwd := hide (fun w i (h : GenAt w b s ((u + i : Nat) : Int)) (hi : i ≤ 8) => word_any w b s (u + i) hs (by omega) h)
  unfold chV
  clear hfe hG
  obtain ⟨Z, hZ⟩ : ∃ Z : Nat → Int, Z = fun i => wd s.data.toList (u + i) := ⟨_, rfl⟩
  have hZi : ∀ i, wd s.data.toList (u + i) = Z i := fun i => by rw [hZ]
  rw [← hZ]
  simp only [hZi] at hbd hwd
  clear hZ hZi
  generalize fairOf n = F at *
  generalize hR : chUse Z F 8 0 = R at *
  have HR := hide hR
  clear hR
  go_enter Try.func54, Try.ntmps54
  go_wp2_with fail
  rw [← unhide HFE]
  go_loopw [7] (fun v wr => ∃ k : Nat, k < 8 ∧ v = .int .i64 k ∧ chUse Z F (8 - k) k = R ∧ GenAt wr b s ((u + k : Nat) : Int) ∧ Kept w.heap.size b w wr) (fun v _ => 8 - (intOf v).toNat)
  case atStart => exact ⟨0, by omega, rfl, unhide HR, unhide HG, Kept.refl _ _ _⟩
  case round =>
    clear HG HR
    obtain ⟨k, hk, rfl, hu, hG, hK⟩ := hrel
    obtain ⟨hz2, hz3⟩ := unhide hbd k
    have hnx := hide (unhide hwd wr k hG (by omega))
    have HU := hide hu
    have HK := hide hK
    clear hu hG hK
    generalize hz : Z k = z at *
    have HZk := hide hz
    clear hz
    go_wp2_with fail
    refine (unhide hnx).mono ?_
    rintro e w1 ⟨rfl, hG1, hK1⟩
    have hs1 := (unhide HK).size
    have HG1 := hide (show GenAt w1 b s ((u + (k + 1) : Nat) : Int) by rw [show ((u + (k + 1) : Nat) : Int) = ((u + k : Nat) : Int) + 1 by omega]; exact hG1)
    have HK2 := hide ((unhide HK).trans (hK1.mono hs1))
    clear hG1 hK1 hnx HK hs1
    obtain ⟨r, hr⟩ : ∃ r, 8 - k = r + 1 := ⟨8 - k - 1, by omega⟩
    have hRu := unhide HU
    rw [hr, chUse, unhide HZk] at hRu
    clear HU
    by_cases hzF : z < F
    · rw [if_pos (.inl hzF)] at hRu
      have hR1 : Hid (R - 1 = k) := by show _ = _; omega
      have HRu := hide hRu
      clear hRu hr
      go_wp2
      go_ret2
      exact ⟨by rw [unhide hR1, unhide HZk, ← unhide HRu]; go_num, by rw [← unhide HRu]; exact unhide HG1, unhide HK2⟩
    · by_cases hkt : k + 1 = 8
      · have hr0 : r = 0 := by omega
        rw [if_pos (.inr hr0)] at hRu
        have hR1 : Hid (R - 1 = k) := by show _ = _; omega
        have HRu := hide hRu
        have hd : ((k : Int) + 1 == 8) = true := by rw [beq_iff_eq]; omega
        clear hRu hr hr0 hkt
        go_wp2
        go_ret2
        exact ⟨by rw [unhide hR1, unhide HZk, ← unhide HRu]; go_num, by rw [← unhide HRu]; exact unhide HG1, unhide HK2⟩
      · rw [if_neg (by omega)] at hRu
        have hd : ((k : Int) + 1 == 8) = false := by rw [beq_eq_false_iff_ne]; omega
        have HRu := hide (show chUse Z F (8 - (k + 1)) (k + 1) = R by rw [show 8 - (k + 1) = r by omega]; exact hRu)
        have hk2 : k + 1 < 8 := by omega
        clear hRu hr hkt
        go_wp2
        go_roundw
        case rel => exact ⟨k + 1, hk2, by go_num, unhide HRu, unhide HG1, unhide HK2⟩
        case measure => simp [intOf]; omega

/-- the words from a place on -/
def wdF (seed : List UInt8) (u : Nat) : Nat → Int := fun i => wd seed (u + i)

theorem below_nil (w : World) (n : Int) : Calls Try.prog 46 #[.pointer none, .int .i64 n] w fun e w' => e = .returned (.int .i64 0) ∧ w = w' := by
  go_enter Try.func46, Try.ntmps46
  go_wp2
  go_ret
  exact ⟨rfl, rfl⟩
theorem below_bad (w : World) (b : Nat) (n : Int) (h : ¬ (1 ≤ n ∧ n ≤ 2147483647)) : Calls Try.prog 46 #[.pointer (some ⟨b, 0, none⟩), .int .i64 n] w fun e w' => e = .returned (.int .i64 0) ∧ w = w' := by
  have hc := hide (fun w => isBound_any n w)
  rw [show decide (1 ≤ n ∧ n ≤ 2147483647) = false from decide_eq_false h] at hc
  clear h
  go_enter Try.func46, Try.ntmps46
  go_wp2_with fail
  refine (unhide hc _).mono ?_
  rintro e w1 ⟨rfl, rfl⟩
  go_wp2
  go_ret
  exact ⟨rfl, rfl⟩
theorem below_any (w : World) (b u : Nat) (s : ByteArray) (n : Int) (hs : s.size ≤ 64) (hu : u ≤ 1000000000) (hn1 : 1 ≤ n) (hn2 : n ≤ 2147483647) (hG : GenAt w b s u) :
    Calls Try.prog 46 #[.pointer (some ⟨b, 0, none⟩), .int .i64 n] w fun e w' => e = .returned (.int .i64 (chV (wdF s.data.toList u) n 8)) ∧ GenAt w' b s ((u + chUse (wdF s.data.toList u) (fairOf n) 8 0 : Nat) : Int) ∧ Kept w.heap.size b w w' := by
  have hc := hide (fun w => isBound_any n w)
  rw [show decide (1 ≤ n ∧ n ≤ 2147483647) = true from decide_eq_true ⟨hn1, hn2⟩] at hc
  have hch := hide (chosen2_any w b u s n hs hu hn1 hn2 hG)
  change Hid (Calls _ _ _ _ fun e w' => e = .returned (.tuple #[.int .i64 (chV (wdF s.data.toList u) n 8), .int .i64 (chUse (wdF s.data.toList u) (fairOf n) 8 0)]) ∧ GenAt w' b s ((u + chUse (wdF s.data.toList u) (fairOf n) 8 0 : Nat) : Int) ∧ Kept w.heap.size b w w') at hch
  generalize chV (wdF s.data.toList u) n 8 = v at *
  generalize chUse (wdF s.data.toList u) (fairOf n) 8 0 = m at *
  clear hG hn1 hn2
  go_enter Try.func46, Try.ntmps46
  go_wp2_with fail
  refine (unhide hc _).mono ?_
  rintro e w1 ⟨rfl, rfl⟩
  go_wp2_with fail
  refine (unhide hch).mono ?_
  rintro e w1 ⟨rfl, hG1, hK1⟩
  have HG1 := hide hG1
  have HK1 := hide hK1
  clear hG1 hK1
  go_wp2
  go_ret
  exact ⟨rfl, unhide HG1, unhide HK1⟩

end Go.Proofs.Ytcdnpdmcijiffaa

/- Contracts of prng's Choose, chosen, Below. -/
import Derived.Test.YtlkbknjcjmpbfaaPrB
namespace Go.Proofs.Ytlkbknjcjmpbfaa
open Go.RowKit
set_option linter.unusedVariables false

/-- how many words are used: from the k-th on, of r that are left -/
def chUse (Z : Nat → Int) (m : Int) : Nat → Nat → Nat
  | 0, k => k
  | r + 1, k => if Z k < m ∨ r = 0 then k + 1 else chUse Z m r (k + 1)
def fairOf (n : Int) : Int := 4294967296 - 4294967296 % n
/-- what is chosen below n, of so many words -/
def chV (Z : Nat → Int) (n : Int) (t : Nat) : Int := Z (chUse Z (fairOf n) t 0 - 1) % n
theorem chUse_le (Z : Nat → Int) (m : Int) : ∀ r k, chUse Z m r k ≤ k + r
  | 0, k => Nat.le_refl _
  | r + 1, k => by
    rw [chUse]
    split
    · omega
    · have := chUse_le Z m r (k + 1)
      omega
theorem chUse_gt (Z : Nat → Int) (m : Int) : ∀ r k, k < chUse Z m (r + 1) k
  | 0, k => by rw [chUse, if_pos (.inr rfl)]; omega
  | r + 1, k => by
    rw [chUse]
    split
    · omega
    · have := chUse_gt Z m r (k + 1)
      omega
theorem chUse_congr (Z Y : Nat → Int) (m : Int) : ∀ r k, (∀ i, k ≤ i → i < k + r → Z i = Y i) → chUse Z m r k = chUse Y m r k
  | 0, k, _ => rfl
  | r + 1, k, h => by
    rw [chUse, chUse, h k (Nat.le_refl _) (by omega), chUse_congr Z Y m r (k + 1) (fun i h1 h2 => h i (by omega) (by omega))]

theorem isBound_any (n : Int) (w : World) : Calls Try.prog 34 #[.int .i64 n] w fun e w' => e = .returned (.bool (decide (1 ≤ n ∧ n ≤ 2147483647))) ∧ w = w' := by
  by_cases h1 : 1 ≤ n
  · by_cases h2 : n ≤ 2147483647
    · have hd : decide (1 ≤ n ∧ n ≤ 2147483647) = true := by simp; omega
      rw [hd]
      go_enter Try.func34, Try.ntmps34
      go_wp2
      go_ret
      exact ⟨rfl, rfl⟩
    · have hd : decide (1 ≤ n ∧ n ≤ 2147483647) = false := by simp; omega
      rw [hd]
      go_enter Try.func34, Try.ntmps34
      go_wp2
      go_ret
      exact ⟨rfl, rfl⟩
  · have hd : decide (1 ≤ n ∧ n ≤ 2147483647) = false := by simp; omega
    rw [hd]
    go_enter Try.func34, Try.ntmps34
    go_wp2
    go_ret
    exact ⟨rfl, rfl⟩

/-- block c holds the words that are left -/
def LeftAt (w : World) (c g o len cap : Nat) : Prop := ∃ p, (0 < len → p = o) ∧ w.heap[c]? = some (.cells #[.slice (some ⟨g, p, none⟩) len cap] 35 (0, 0))

theorem next_any (w : World) (c g o len cap : Nat) (z : Int) (h1 : 1 ≤ len) (h2 : len ≤ cap) (h3 : cap ≤ maxLen) (hC : LeftAt w c g o len cap) (hz : w.cell? ⟨g, o, none⟩ = some (.int .u32 z)) :
    Calls Try.prog 35 #[.pointer (some ⟨c, 0, none⟩)] w fun e w' => e = .returned (.int .u32 z) ∧ LeftAt w' c g (o + 1) (len - 1) (cap - 1) ∧ Kept w.heap.size c w w' := by
  unfold maxLen at h3
  obtain ⟨p, hp, hC⟩ := hC
  obtain rfl := hp (by omega)
  have c0 := cell_of_one hC
  have f0 := free_of_one hC
  have HC := hide hC
  clear hC hp
  obtain ⟨m, rfl⟩ : ∃ m, len = m + 1 := ⟨len - 1, by omega⟩
  obtain ⟨q, rfl⟩ : ∃ q, cap = q + 1 := ⟨cap - 1, by omega⟩
  have i1 : (0 : Int) < ((m + 1 : Nat) : Int) := by omega
  go_enter Try.func35, Try.ntmps35
  go_wp2
  · go_ret
    exact ⟨rfl, ⟨p, fun h => by omega, one_setCell (unhide HC)⟩, kept_set _ _ _ _ _⟩
  · go_ret
    exact ⟨rfl, ⟨p + 1, fun _ => rfl, one_setCell (unhide HC)⟩, kept_set _ _ _ _ _⟩

/-- words in a row -/
def WordsIn (w : World) (g o len : Nat) (Z : Nat → Int) : Prop := ∀ i, i < len → w.cell? ⟨g, o + i, none⟩ = some (.int .u32 (Z i)) ∧ 0 ≤ Z i ∧ Z i < 4294967296
theorem WordsIn.kept {w w' : World} {g o len c : Nat} {Z : Nat → Int} (h : WordsIn w g o len Z) (hk : Kept w.heap.size c w w') (hne : g ≠ c) : WordsIn w' g o len Z := by
  intro i hi
  obtain ⟨h1, h2⟩ := h i hi
  refine ⟨?_, h2⟩
  have hlt : g < w.heap.size := by
    rcases Nat.lt_or_ge g w.heap.size with h' | h'
    · exact h'
    · simp [World.cell?, Array.getElem?_eq_none h'] at h1
  have hb := hk.block g hlt hne
  unfold World.cell? at h1 ⊢
  simp only at h1 ⊢
  rw [hb]
  exact h1
theorem WordsIn.below {w w' : World} {g o len : Nat} {Z : Nat → Int} (h : WordsIn w g o len Z) (hk : Below w.heap.size w w') : WordsIn w' g o len Z := by
  intro i hi
  obtain ⟨h1, h2⟩ := h i hi
  refine ⟨?_, h2⟩
  have hlt : g < w.heap.size := by
    rcases Nat.lt_or_ge g w.heap.size with h' | h'
    · exact h'
    · simp [World.cell?, Array.getElem?_eq_none h'] at h1
  rw [hk.cell (p := ⟨g, o + i, none⟩) hlt]
  exact h1

set_option maxRecDepth 100000 in
set_option maxHeartbeats 1000000 in
theorem chosen1_any (w : World) (c g o len cap t : Nat) (n : Int) (Z : Nat → Int) (ht1 : 1 ≤ t) (ht : t ≤ len) (ht8 : t ≤ 8) (h2 : len ≤ cap) (h3 : cap ≤ maxLen) (hn1 : 1 ≤ n) (hn2 : n ≤ 2147483647) (hne : g ≠ c)
    (hC : LeftAt w c g o len cap) (hZ : WordsIn w g o len Z) :
    Calls Try.prog 36 #[.func (.func 35) #[] #[.pointer (some ⟨c, 0, none⟩)], .int .i64 t, .int .i64 n] w fun e w' => e = .returned (.tuple #[.int .i64 (chV Z n t), .int .i64 (chUse Z (fairOf n) t 0)]) ∧ Kept w.heap.size c w w' := by
  have hm0 : 0 ≤ 4294967296 % n := Int.emod_nonneg _ (by omega)
  have hm1 : 4294967296 % n < n := Int.emod_lt_of_pos _ (by omega)
  have hfe : fairOf n = 4294967296 - 4294967296 % n := rfl
  have HFE := hide hfe
  have HC := hide hC
  have HZ := hide hZ
  have H3 := hide h3
  clear hfe hC hZ h3
  unfold chV
  generalize fairOf n = F at *
  generalize hR : chUse Z F t 0 = R at *
  have HR := hide hR
  clear hR
  go_enter Try.func36, Try.ntmps36
  go_wp2_with fail
  rw [← unhide HFE]
  go_loopw [7] (fun u wr => ∃ k : Nat, k < t ∧ u = .int .i64 k ∧ chUse Z F (t - k) k = R ∧ LeftAt wr c g (o + k) (len - k) (cap - k) ∧ WordsIn wr g o len Z ∧ Kept w.heap.size c w wr) (fun u _ => t - (intOf u).toNat)
  case atStart => exact ⟨0, by omega, rfl, unhide HR, unhide HC, unhide HZ, Kept.refl _ _ _⟩
  case round =>
    clear HC HZ HR
    obtain ⟨k, hk, rfl, hu, hL, hW, hK⟩ := hrel
    obtain ⟨hz1, hz2, hz3⟩ := hW k (by omega)
    have hnx := hide (next_any wr c g (o + k) (len - k) (cap - k) (Z k) (by omega) (by omega) (by have := unhide H3; omega) hL hz1)
    have HU := hide hu
    have HW := hide hW
    have HK := hide hK
    clear hu hL hW hK hz1
    generalize hz : Z k = z at *
    have HZk := hide hz
    clear hz
    go_wp2_with fail
    refine (unhide hnx).mono ?_
    rintro e w1 ⟨rfl, hL1, hK1⟩
    have hs1 := (unhide HK).size
    have HL1 := hide hL1
    have HK2 := hide ((unhide HK).trans (hK1.mono hs1))
    have HW1 := hide ((unhide HW).kept hK1 hne)
    clear hL1 hK1 hnx HK HW hs1
    obtain ⟨r, hr⟩ : ∃ r, t - k = r + 1 := ⟨t - k - 1, by omega⟩
    have hRu := unhide HU
    rw [hr, chUse, unhide HZk] at hRu
    clear HU
    by_cases hzF : z < F
    · rw [if_pos (.inl hzF)] at hRu
      have hR1 : Hid (R - 1 = k) := by show _ = _; omega
      have HRu := hide hRu
      clear hRu hr
      go_wp2
      go_ret2
      exact ⟨by rw [unhide hR1, unhide HZk, ← unhide HRu]; go_num, unhide HK2⟩
    · by_cases hkt : k + 1 = t
      · have hr0 : r = 0 := by omega
        rw [if_pos (.inr hr0)] at hRu
        have hR1 : Hid (R - 1 = k) := by show _ = _; omega
        have HRu := hide hRu
        have hd : ((k : Int) + 1 == (t : Int)) = true := by rw [beq_iff_eq]; omega
        clear hRu hr hr0 hkt
        go_wp2
        go_ret2
        exact ⟨by rw [unhide hR1, unhide HZk, ← unhide HRu]; go_num, unhide HK2⟩
      · rw [if_neg (by omega)] at hRu
        have hd : ((k : Int) + 1 == (t : Int)) = false := by rw [beq_eq_false_iff_ne]; omega
        have HRu := hide (show chUse Z F (t - (k + 1)) (k + 1) = R by rw [show t - (k + 1) = r by omega]; exact hRu)
        have hk2 : k + 1 < t := by omega
        clear hRu hr hkt
        go_wp2
        go_roundw
        case rel => exact ⟨k + 1, hk2, by go_num, unhide HRu, unhide HL1, unhide HW1, unhide HK2⟩
        case measure => simp [intOf]; omega

end Go.Proofs.Ytlkbknjcjmpbfaa

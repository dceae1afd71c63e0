/- Contracts of prng's New, Word, Used. Contracts of prng's Choose, chosen, Below. Contracts of prng's Choose, Below. Contract of prng's Pick. What is picked: unlike numbers below the bound; more picks go on as fewer began. -/
import Derived.Test.YtkcnihngkmaecaaGreatPrA
import Derived.Test.YtkcnihngkmaecaaGreatGr
namespace Go.Proofs.YtkcnihngkmaecaaGreat
open Go.RowKit
set_option linter.unusedVariables false

theorem block_any (s : ByteArray) (k : Int) (w : World) (hs : s.size ≤ maxLen) :
    Calls Tryz.prog 93 #[.string s, .int .i64 k] w fun e w' => e = .returned (.string ⟨(blk s.data.toList k).toArray⟩) ∧ Below w.heap.size w w' := by
  by_cases h : s.size ≤ 64
  · exact block_short s k w h
  · refine (block_long s k w hs (by omega)).mono ?_
    rintro e w' ⟨rfl, rfl⟩
    have : blk s.data.toList k = [] := by unfold blk; rw [if_pos (.inl (by simp; omega))]
    exact ⟨by rw [this], Below.refl _ _⟩

/-- block b is a generator of a seed that has drawn u words -/
def GenAt (w : World) (b : Nat) (s : ByteArray) (u : Int) : Prop := w.heap[b]? = some (.cells #[.string s, .int .i64 u] 97 (0, 0))

theorem gnew_long (s : ByteArray) (w : World) (hs : s.size ≤ maxLen) (hl : 64 < s.size) :
    Calls Tryz.prog 50 #[.string s] w fun e w' => e = .returned (.pointer none) ∧ w = w' := by
  have hd : decide ((s.size : Int) ≤ 64) = false := by simp; omega
  have hc := hide (isSeed_any s w hs)
  rw [hd] at hc
  clear hd
  go_enter Tryz.func50, Tryz.ntmps50
  go_wp2_with fail
  refine (unhide hc).mono ?_
  rintro e w' ⟨rfl, rfl⟩
  go_wp2
  go_ret
  exact ⟨rfl, rfl⟩
theorem gnew_any (s : ByteArray) (w : World) (hl : s.size ≤ 64) :
    Calls Tryz.prog 50 #[.string s] w fun e w' => ∃ b, e = .returned (.pointer (some ⟨b, 0, none⟩)) ∧ GenAt w' b s 0 ∧ w.heap.size ≤ b ∧ Below w.heap.size w w' := by
  have hd : decide ((s.size : Int) ≤ 64) = true := by simp; omega
  have hc := hide (isSeed_any s w (by unfold maxLen; omega))
  rw [hd] at hc
  clear hd
  go_enter Tryz.func50, Tryz.ntmps50
  go_wp2_with fail
  refine (unhide hc).mono ?_
  rintro e w' ⟨rfl, rfl⟩
  go_wp2
  go_ret
  exact ⟨w.heap.size, rfl, heap_alloc_new _ _, Nat.le_refl _, (Below.refl _ _).alloc (Nat.le_refl _) _⟩

/-- the word of a place -/
def wd (seed : List UInt8) (u : Nat) : Int := getV (((blk seed (u / 8 : Nat)).drop (4 * (u % 8))).take 4)
theorem wd_bounds (seed : List UInt8) (u : Nat) : 0 ≤ wd seed u ∧ wd seed u < 4294967296 := by
  have h := getV_bounds (((blk seed (u / 8 : Nat)).drop (4 * (u % 8))).take 4)
  refine ⟨h.1, Int.lt_of_lt_of_le h.2 ?_⟩
  have : (256 : Int) ^ (((blk seed (u / 8 : Nat)).drop (4 * (u % 8))).take 4).length ≤ 256 ^ 4 := pow256_le (List.length_take_le _ _)
  exact this

theorem word_nil (w : World) : Calls Tryz.prog 79 #[.pointer none] w fun e w' => e = .returned (.int .u32 0) ∧ w = w' := by
  go_enter Tryz.func79, Tryz.ntmps79
  go_wp2
  go_ret
  exact ⟨rfl, rfl⟩
theorem bext' (s : ByteArray) (a b : Nat) : (s.extract a b).data.toList = (s.data.toList.drop a).take (b - a) := by
  rw [ByteArray.data_extract, Array.toList_extract, List.extract_eq_take_drop]

set_option maxRecDepth 100000 in
set_option maxHeartbeats 1000000 in
theorem word_any (w : World) (b : Nat) (s : ByteArray) (u : Nat) (hs : s.size ≤ 64) (hu : u ≤ 1099511627776) (hG : GenAt w b s u) :
    Calls Tryz.prog 79 #[.pointer (some ⟨b, 0, none⟩)] w fun e w' => e = .returned (.int .u32 (wd s.data.toList u)) ∧ GenAt w' b s (u + 1) ∧ Kept w.heap.size b w w' := by
  have c0 := cell0_of_two hG
  have c1 := cell1_of_two hG
  have HG := hide hG
  obtain ⟨q, hq⟩ : ∃ q : Nat, q = u / 8 := ⟨_, rfl⟩
  obtain ⟨D, hD⟩ : ∃ D : ByteArray, D = ⟨(blk s.data.toList q).toArray⟩ := ⟨_, rfl⟩
  have hDl : D.data.toList = blk s.data.toList q := by rw [hD]
  have hDs : D.size = 32 := by rw [← blen, hDl]; exact blk_len _ _ (by rw [blen]; exact hs) (by omega) (by omega)
  have hbl := hide (fun w => block_short s q w hs)
  rw [← hD] at hbl
  obtain ⟨k, hk⟩ : ∃ k, k = 4 * (u % 8) := ⟨_, rfl⟩
  have hk2 : k ≤ 28 := by omega
  have hkm : (u : Int) % 8 * 4 = k := by omega
  have hkd : (u : Int) / 8 = q := by omega
  have hgt := hide (fun w => get_any (D.extract k (k + 4)) w (by rw [ByteArray.size_extract]; omega))
  have hwd : Hid (getV (D.extract k (k + 4)).data.toList = wd s.data.toList u) := by
    show _ = _
    rw [bext', hDl, show k + 4 - k = 4 by omega, hk, hq]
    rfl
  rw [unhide hwd] at hgt
  have hb := wd_bounds s.data.toList u
  have hd32 : (D.size : Int) = 32 := by omega
  clear hD hDl hDs hk hwd hG hq
  generalize wd s.data.toList u = v at *
  have f1 := free_of_two (j := 1) (unhide HG)
  go_enter Tryz.func79, Tryz.ntmps79
  go_wp2_with fail
  have hc0 : ∀ x : Gb w, x.w.cell? ⟨b, 0, none⟩ = some (.string s) := fun x => gb_cell c0 x
  have hc1 : ∀ x : Gb w, x.w.cell? ⟨b, 1, none⟩ = some (.int .i64 u) := fun x => gb_cell c1 x
  have hne := gb_ne w
  refine wp_region_gr (fun x => Below w.heap.size w x) (by kernel_rfl) (by kernel_rfl) (gb_start w) ?_
  repeat (go_big_quiet_step ((go_at_call 93; exact gb_call (unhide hbl _))))
  refine wpQuiet_nil ?_
  rintro w1 ⟨⟨_, b1⟩, rfl⟩
  have hG1 : GenAt w1 b s u := (b1.block b (lt_of_block (unhide HG))).trans (unhide HG)
  have c1' := cell1_of_two hG1
  have f1' := free_of_two (j := 1) hG1
  have hfin : Hid (GenAt (w1.setCell ⟨b, 1, none⟩ (.int .i64 (u + 1))) b s (u + 1)) := two_set1 hG1
  have hkp : Hid (Kept w.heap.size b w (w1.setCell ⟨b, 1, none⟩ (.int .i64 (u + 1)))) := (Kept.of_below b1).trans (kept_set _ _ _ _ _)
  clear hc0 hc1 hne hG1 b1 c0 c1 f1 hbl
  go_wp2_with fail
  refine (unhide hgt _).mono ?_
  rintro e w2 ⟨rfl, rfl⟩
  go_wp2
  go_ret
  exact ⟨rfl, unhide hfin, unhide hkp⟩

end Go.Proofs.YtkcnihngkmaecaaGreat
namespace Go.Proofs.YtkcnihngkmaecaaGreat
open Go.RowKit
set_option linter.unusedVariables false

/-- how many words are used: from the k-th on, of r that are left -/
def chUse (Z : Nat → Int) (m : Int) : Nat → Nat → Nat
  | 0, k => k
  | r + 1, k => if Z k < m ∨ r = 0 then k + 1 else chUse Z m r (k + 1)
def fairOf (n : Int) : Int := 4294967296 - 4294967296 % n
/-- what is chosen below n, of so many words -/
def chV (Z : Nat → Int) (n : Int) (t : Nat) : Int := Z (chUse Z (fairOf n) t 0 - 1) % n
theorem chUse_le (Z : Nat → Int) (m : Int) : ∀ r k, chUse Z m r k ≤ k + r
  | 0, k => Nat.le_refl _
  | r + 1, k => by
    rw [chUse]
    split
    · omega
    · have := chUse_le Z m r (k + 1)
      omega
theorem chUse_gt (Z : Nat → Int) (m : Int) : ∀ r k, k < chUse Z m (r + 1) k
  | 0, k => by rw [chUse, if_pos (.inr rfl)]; omega
  | r + 1, k => by
    rw [chUse]
    split
    · omega
    · have := chUse_gt Z m r (k + 1)
      omega
theorem chUse_congr (Z Y : Nat → Int) (m : Int) : ∀ r k, (∀ i, k ≤ i → i < k + r → Z i = Y i) → chUse Z m r k = chUse Y m r k
  | 0, k, _ => rfl
  | r + 1, k, h => by
    rw [chUse, chUse, h k (Nat.le_refl _) (by omega), chUse_congr Z Y m r (k + 1) (fun i h1 h2 => h i (by omega) (by omega))]

theorem isBound_any (n : Int) (w : World) : Calls Tryz.prog 77 #[.int .i64 n] w fun e w' => e = .returned (.bool (decide (1 ≤ n ∧ n ≤ 2147483647))) ∧ w = w' := by
  by_cases h1 : 1 ≤ n
  · by_cases h2 : n ≤ 2147483647
    · have hd : decide (1 ≤ n ∧ n ≤ 2147483647) = true := by simp; omega
      rw [hd]
      go_enter Tryz.func77, Tryz.ntmps77
      go_wp2
      go_ret
      exact ⟨rfl, rfl⟩
    · have hd : decide (1 ≤ n ∧ n ≤ 2147483647) = false := by simp; omega
      rw [hd]
      go_enter Tryz.func77, Tryz.ntmps77
      go_wp2
      go_ret
      exact ⟨rfl, rfl⟩
  · have hd : decide (1 ≤ n ∧ n ≤ 2147483647) = false := by simp; omega
    rw [hd]
    go_enter Tryz.func77, Tryz.ntmps77
    go_wp2
    go_ret
    exact ⟨rfl, rfl⟩

/-- block c holds the words that are left -/
def LeftAt (w : World) (c g o len cap : Nat) : Prop := ∃ p, (0 < len → p = o) ∧ w.heap[c]? = some (.cells #[.slice (some ⟨g, p, none⟩) len cap] 102 (0, 0))

/-- words in a row -/
def WordsIn (w : World) (g o len : Nat) (Z : Nat → Int) : Prop := ∀ i, i < len → w.cell? ⟨g, o + i, none⟩ = some (.int .u32 (Z i)) ∧ 0 ≤ Z i ∧ Z i < 4294967296
theorem WordsIn.kept {w w' : World} {g o len c : Nat} {Z : Nat → Int} (h : WordsIn w g o len Z) (hk : Kept w.heap.size c w w') (hne : g ≠ c) : WordsIn w' g o len Z := by
  intro i hi
  obtain ⟨h1, h2⟩ := h i hi
  refine ⟨?_, h2⟩
  have hlt : g < w.heap.size := by
    rcases Nat.lt_or_ge g w.heap.size with h' | h'
    · exact h'
    · simp [World.cell?, Array.getElem?_eq_none h'] at h1
  have hb := hk.block g hlt hne
  unfold World.cell? at h1 ⊢
  simp only at h1 ⊢
  rw [hb]
  exact h1
theorem WordsIn.below {w w' : World} {g o len : Nat} {Z : Nat → Int} (h : WordsIn w g o len Z) (hk : Below w.heap.size w w') : WordsIn w' g o len Z := by
  intro i hi
  obtain ⟨h1, h2⟩ := h i hi
  refine ⟨?_, h2⟩
  have hlt : g < w.heap.size := by
    rcases Nat.lt_or_ge g w.heap.size with h' | h'
    · exact h'
    · simp [World.cell?, Array.getElem?_eq_none h'] at h1
  rw [hk.cell (p := ⟨g, o + i, none⟩) hlt]
  exact h1

end Go.Proofs.YtkcnihngkmaecaaGreat
namespace Go.Proofs.YtkcnihngkmaecaaGreat
open Go.RowKit
set_option linter.unusedVariables false

set_option maxRecDepth 100000 in
set_option maxHeartbeats 1000000 in
theorem chosen2_any (w : World) (b u : Nat) (s : ByteArray) (n : Int) (hs : s.size ≤ 64) (hu : u ≤ 1000000000) (hn1 : 1 ≤ n) (hn2 : n ≤ 2147483647) (hG : GenAt w b s u) :
    Calls Tryz.prog 78 #[.func (.func 79) #[.pointer (some ⟨b, 0, none⟩)] #[], .int .i64 8, .int .i64 n] w fun e w' => e = .returned (.tuple #[.int .i64 (chV (fun i => wd s.data.toList (u + i)) n 8), .int .i64 (chUse (fun i => wd s.data.toList (u + i)) (fairOf n) 8 0)]) ∧ GenAt w' b s ((u + chUse (fun i => wd s.data.toList (u + i)) (fairOf n) 8 0 : Nat) : Int) ∧ Kept w.heap.size b w w' := by
  have hm0 : 0 ≤ 4294967296 % n := Int.emod_nonneg _ (by omega)
  have hm1 : 4294967296 % n < n := Int.emod_lt_of_pos _ (by omega)
  have hfe : fairOf n = 4294967296 - 4294967296 % n := rfl
  have HFE := hide hfe
  have HG := hide hG
  have hbd := hide (fun i => wd_bounds s.data.toList (u + i))
  have hwd := hide (fun w i (h : GenAt w b s ((u + i : Nat) : Int)) (hi : i ≤ 8) => word_any w b s (u + i) hs (by omega) h)
  unfold chV
  clear hfe hG
  obtain ⟨Z, hZ⟩ : ∃ Z : Nat → Int, Z = fun i => wd s.data.toList (u + i) := ⟨_, rfl⟩
  have hZi : ∀ i, wd s.data.toList (u + i) = Z i := fun i => by rw [hZ]
  rw [← hZ]
  simp only [hZi] at hbd hwd
  clear hZ hZi
  generalize fairOf n = F at *
  generalize hR : chUse Z F 8 0 = R at *
  have HR := hide hR
  clear hR
  go_enter Tryz.func78, Tryz.ntmps78
  go_wp2_with fail
  rw [← unhide HFE]
  go_loopw [7] (fun v wr => ∃ k : Nat, k < 8 ∧ v = .int .i64 k ∧ chUse Z F (8 - k) k = R ∧ GenAt wr b s ((u + k : Nat) : Int) ∧ Kept w.heap.size b w wr) (fun v _ => 8 - (intOf v).toNat)
  case atStart => exact ⟨0, by omega, rfl, unhide HR, unhide HG, Kept.refl _ _ _⟩
  case round =>
    clear HG HR
    obtain ⟨k, hk, rfl, hu, hG, hK⟩ := hrel
    obtain ⟨hz2, hz3⟩ := unhide hbd k
    have hnx := hide (unhide hwd wr k hG (by omega))
    have HU := hide hu
    have HK := hide hK
    clear hu hG hK
    generalize hz : Z k = z at *
    have HZk := hide hz
    clear hz
    go_wp2_with fail
    refine (unhide hnx).mono ?_
    rintro e w1 ⟨rfl, hG1, hK1⟩
    have hs1 := (unhide HK).size
    have HG1 := hide (show GenAt w1 b s ((u + (k + 1) : Nat) : Int) by rw [show ((u + (k + 1) : Nat) : Int) = ((u + k : Nat) : Int) + 1 by omega]; exact hG1)
    have HK2 := hide ((unhide HK).trans (hK1.mono hs1))
    clear hG1 hK1 hnx HK hs1
    obtain ⟨r, hr⟩ : ∃ r, 8 - k = r + 1 := ⟨8 - k - 1, by omega⟩
    have hRu := unhide HU
    rw [hr, chUse, unhide HZk] at hRu
    clear HU
    by_cases hzF : z < F
    · rw [if_pos (.inl hzF)] at hRu
      have hR1 : Hid (R - 1 = k) := by show _ = _; omega
      have HRu := hide hRu
      clear hRu hr
      go_wp2
      go_ret2
      exact ⟨by rw [unhide hR1, unhide HZk, ← unhide HRu]; go_num, by rw [← unhide HRu]; exact unhide HG1, unhide HK2⟩
    · by_cases hkt : k + 1 = 8
      · have hr0 : r = 0 := by omega
        rw [if_pos (.inr hr0)] at hRu
        have hR1 : Hid (R - 1 = k) := by show _ = _; omega
        have HRu := hide hRu
        have hd : ((k : Int) + 1 == 8) = true := by rw [beq_iff_eq]; omega
        clear hRu hr hr0 hkt
        go_wp2
        go_ret2
        exact ⟨by rw [unhide hR1, unhide HZk, ← unhide HRu]; go_num, by rw [← unhide HRu]; exact unhide HG1, unhide HK2⟩
      · rw [if_neg (by omega)] at hRu
        have hd : ((k : Int) + 1 == 8) = false := by rw [beq_eq_false_iff_ne]; omega
        have HRu := hide (show chUse Z F (8 - (k + 1)) (k + 1) = R by rw [show 8 - (k + 1) = r by omega]; exact hRu)
        have hk2 : k + 1 < 8 := by omega
        clear hRu hr hkt
        go_wp2
        go_roundw
        case rel => exact ⟨k + 1, hk2, by go_num, unhide HRu, unhide HG1, unhide HK2⟩
        case measure => simp [intOf]; omega

/-- the words from a place on -/
def wdF (seed : List UInt8) (u : Nat) : Nat → Int := fun i => wd seed (u + i)

theorem below_nil (w : World) (n : Int) : Calls Tryz.prog 66 #[.pointer none, .int .i64 n] w fun e w' => e = .returned (.int .i64 0) ∧ w = w' := by
  go_enter Tryz.func66, Tryz.ntmps66
  go_wp2
  go_ret
  exact ⟨rfl, rfl⟩
theorem below_bad (w : World) (b : Nat) (n : Int) (h : ¬ (1 ≤ n ∧ n ≤ 2147483647)) : Calls Tryz.prog 66 #[.pointer (some ⟨b, 0, none⟩), .int .i64 n] w fun e w' => e = .returned (.int .i64 0) ∧ w = w' := by
  have hc := hide (fun w => isBound_any n w)
  rw [show decide (1 ≤ n ∧ n ≤ 2147483647) = false from decide_eq_false h] at hc
  clear h
  go_enter Tryz.func66, Tryz.ntmps66
  go_wp2_with fail
  refine (unhide hc _).mono ?_
  rintro e w1 ⟨rfl, rfl⟩
  go_wp2
  go_ret
  exact ⟨rfl, rfl⟩
theorem below_any (w : World) (b u : Nat) (s : ByteArray) (n : Int) (hs : s.size ≤ 64) (hu : u ≤ 1000000000) (hn1 : 1 ≤ n) (hn2 : n ≤ 2147483647) (hG : GenAt w b s u) :
    Calls Tryz.prog 66 #[.pointer (some ⟨b, 0, none⟩), .int .i64 n] w fun e w' => e = .returned (.int .i64 (chV (wdF s.data.toList u) n 8)) ∧ GenAt w' b s ((u + chUse (wdF s.data.toList u) (fairOf n) 8 0 : Nat) : Int) ∧ Kept w.heap.size b w w' := by
  have hc := hide (fun w => isBound_any n w)
  rw [show decide (1 ≤ n ∧ n ≤ 2147483647) = true from decide_eq_true ⟨hn1, hn2⟩] at hc
  have hch := hide (chosen2_any w b u s n hs hu hn1 hn2 hG)
  change Hid (Calls _ _ _ _ fun e w' => e = .returned (.tuple #[.int .i64 (chV (wdF s.data.toList u) n 8), .int .i64 (chUse (wdF s.data.toList u) (fairOf n) 8 0)]) ∧ GenAt w' b s ((u + chUse (wdF s.data.toList u) (fairOf n) 8 0 : Nat) : Int) ∧ Kept w.heap.size b w w') at hch
  generalize chV (wdF s.data.toList u) n 8 = v at *
  generalize chUse (wdF s.data.toList u) (fairOf n) 8 0 = m at *
  clear hG hn1 hn2
  go_enter Tryz.func66, Tryz.ntmps66
  go_wp2_with fail
  refine (unhide hc _).mono ?_
  rintro e w1 ⟨rfl, rfl⟩
  go_wp2_with fail
  refine (unhide hch).mono ?_
  rintro e w1 ⟨rfl, hG1, hK1⟩
  have HG1 := hide hG1
  have HK1 := hide hK1
  clear hG1 hK1
  go_wp2
  go_ret
  exact ⟨rfl, unhide HG1, unhide HK1⟩

end Go.Proofs.YtkcnihngkmaecaaGreat
namespace Go.Proofs.YtkcnihngkmaecaaGreat
open Go.RowKit
set_option linter.unusedVariables false

/-- numbers as cells -/
def ic (l : List Nat) : List Value := l.map fun (z : Nat) => Value.int .i64 (z : Int)
theorem ic_length (l : List Nat) : (ic l).length = l.length := by simp [ic]
theorem ic_get (l : List Nat) (j : Nat) (h : j < l.length) : (ic l)[j]? = some (Value.int .i64 (l[j])) := by simp [ic, h]
theorem ic_getD (l : List Nat) (j : Nat) (h : j < l.length) : (ic l)[j]? = some (Value.int .i64 (l.getD j 0)) := by rw [ic_get l j h]; simp [List.getD, h]
theorem ic_set (l : List Nat) (j x : Nat) : (ic l).set j (Value.int .i64 x) = ic (l.set j x) := by simp [ic, List.map_set]
theorem ic_append (l m : List Nat) : ic (l ++ m) = ic l ++ ic m := by simp [ic]
theorem made_ints (n : Nat) : (madeCells #[Value.int .i64 0] n).toList = ic (List.replicate n 0) := by
  rw [toList_madeCells_one]
  simp [ic]

def fillL (n k : Nat) : List Nat := (List.range n).map fun j => if j < k then j else 0
theorem fillL_length (n k : Nat) : (fillL n k).length = n := by simp [fillL]
theorem fillL_zero (n : Nat) : fillL n 0 = List.replicate n 0 := by
  apply List.ext_getElem
  · simp [fillL]
  · intro i h1 h2
    simp [fillL]
theorem fillL_full (n : Nat) : fillL n n = List.range n := by
  apply List.ext_getElem
  · simp [fillL]
  · intro i h1 h2
    simp [fillL] at h1
    simp [fillL, h1]
theorem fillL_step (n k : Nat) (h : k < n) : (fillL n k).set k k = fillL n (k + 1) := by
  apply List.ext_getElem
  · simp [fillL]
  · intro i h1 h2
    simp [fillL] at h1 h2
    rw [List.getElem_set]
    by_cases e : k = i
    · subst e; simp [fillL]
    · rw [if_neg e]
      simp only [fillL, List.getElem_map, List.getElem_range]
      by_cases c : i < k
      · rw [if_pos c, if_pos (by omega)]
      · rw [if_neg c, if_neg (by omega)]

/-- two places of a list changed about -/
def swapL (l : List Nat) (i j : Nat) : List Nat := (l.set i (l.getD j 0)).set j (l.getD i 0)
theorem swapL_length (l : List Nat) (i j : Nat) : (swapL l i j).length = l.length := by simp [swapL]
/-- the place that is drawn in round i -/
def pkJ (seed : List UInt8) (n u i : Nat) : Nat := i + (chV (wdF seed u) ((n : Int) - i) 8).toNat
/-- behind i rounds of picking: the words that were drawn, and the list -/
def pkS (seed : List UInt8) (n u0 : Nat) : Nat → Nat × List Nat
  | 0 => (u0, List.range n)
  | i + 1 => ((pkS seed n u0 i).1 + chUse (wdF seed (pkS seed n u0 i).1) (fairOf ((n : Int) - i)) 8 0, swapL (pkS seed n u0 i).2 i (pkJ seed n (pkS seed n u0 i).1 i))
theorem pkS_length (seed : List UInt8) (n u0 i : Nat) : (pkS seed n u0 i).2.length = n := by
  induction i with
  | zero => simp [pkS]
  | succ i ih => simp only [pkS, swapL_length, ih]
theorem pkS_used (seed : List UInt8) (n u0 i : Nat) : (pkS seed n u0 i).1 ≤ u0 + 8 * i := by
  induction i with
  | zero => simp [pkS]
  | succ i ih =>
    have := chUse_le (wdF seed (pkS seed n u0 i).1) (fairOf ((n : Int) - i)) 8 0
    simp only [pkS]
    omega
theorem chV_bounds (Z : Nat → Int) (n : Int) (t : Nat) (h : 1 ≤ n) : 0 ≤ chV Z n t ∧ chV Z n t < n := ⟨Int.emod_nonneg _ (by omega), Int.emod_lt_of_pos _ (by omega)⟩
theorem pkJ_lt (seed : List UInt8) (n u i : Nat) (h : i < n) : i ≤ pkJ seed n u i ∧ pkJ seed n u i < n := by
  have := chV_bounds (wdF seed u) ((n : Int) - i) 8 (by omega)
  unfold pkJ
  omega

theorem own_kept {w w' : World} {base n b : Nat} {e : TypeId} {v : Value} {xs : List Value} (h : w.ownsRow base e 1 v n xs) (hk : Kept w.heap.size b w w') (hb : b < base) : w'.ownsRow base e 1 v n xs := by
  refine ⟨h.1, ?_⟩
  rcases h.2 with h2 | ⟨g, cap, cur, hv, hg, hh, r⟩
  · exact .inl h2
  · exact .inr ⟨g, cap, cur, hv, hg, (hk.block g (lt_of_block hh) (by omega)).trans hh, r⟩

theorem pick_nil (w : World) (n k : Int) : Calls Tryz.prog 51 #[.pointer none, .int .i64 n, .int .i64 k] w fun e w' => e = .returned (.slice none 0 0) ∧ w = w' := by
  go_enter Tryz.func51, Tryz.ntmps51
  go_wp2
  go_ret
  exact ⟨rfl, rfl⟩
theorem pick_bad (w : World) (b : Nat) (n k : Int) (h : n < 0 ∨ 4096 < n ∨ k < 0 ∨ n < k) : Calls Tryz.prog 51 #[.pointer (some ⟨b, 0, none⟩), .int .i64 n, .int .i64 k] w fun e w' => e = .returned (.slice none 0 0) ∧ w = w' := by
  by_cases h1 : n < 0
  · go_enter Tryz.func51, Tryz.ntmps51
    go_wp2
    go_ret
    exact ⟨rfl, rfl⟩
  · by_cases h2 : 4096 < n
    · go_enter Tryz.func51, Tryz.ntmps51
      go_wp2
      go_ret
      exact ⟨rfl, rfl⟩
    · by_cases h3 : k < 0
      · go_enter Tryz.func51, Tryz.ntmps51
        go_wp2
        go_ret
        exact ⟨rfl, rfl⟩
      · have h4 : n < k := by omega
        clear h
        go_enter Tryz.func51, Tryz.ntmps51
        go_wp2
        go_ret
        exact ⟨rfl, rfl⟩

theorem Tryz.infoI : (Tryz.prog.info? 3).map (fun i => (i.zero, i.size, i.bytes)) = some (some (.int .i64 0), 1, 8) := by kernel_rfl
theorem Tryz.undI : Tryz.prog.underlying 26 = some (.slice 3) := by kernel_rfl

set_option maxRecDepth 100000 in
set_option maxHeartbeats 2000000 in
theorem pick_any (w : World) (b u n k : Nat) (s : ByteArray) (hs : s.size ≤ 64) (hu : u ≤ 900000000) (hn : n ≤ 4096) (hk : k ≤ n) (hG : GenAt w b s u) :
    Calls Tryz.prog 51 #[.pointer (some ⟨b, 0, none⟩), .int .i64 n, .int .i64 k] w fun e w' => ∃ g, e = .returned (.slice (some ⟨g, 0, none⟩) k k) ∧ w.heap.size ≤ g ∧
      (∀ i, i < n → w'.cell? ⟨g, i, none⟩ = some (.int .i64 ((pkS s.data.toList n u k).2.getD i 0))) ∧ GenAt w' b s (pkS s.data.toList n u k).1 ∧ Kept w.heap.size b w w' ∧ (∀ i, w'.frozen? ⟨g, i, none⟩ = false) ∧ g < w'.heap.size := by
  obtain ⟨i0, hi, hz0, hz1, hz2⟩ := info_parts Tryz.infoI
  have hb := lt_of_block hG
  have i1 : ¬ (n : Int) < 0 := by omega
  have i2 : ¬ (4096 : Int) < n := by omega
  have i3 : ¬ (k : Int) < 0 := by omega
  have i4 : ¬ (n : Int) < k := by omega
  have HG := hide hG
  clear hG
  go_enter Tryz.func51, Tryz.ntmps51
  go_wp2_with (at_make; refine wpList_make_full _ rfl _ _ 26 rfl w.heap.size 3 i0 (.int .i64 0) 1 Tryz.undI hi hz0 hz1 .i64 .i64 _ _ n rfl rfl rfl rfl ?c2 ?c3 (Nat.le_refl _) ?_)
  case c2 => omega
  case c3 => unfold maxLen; omega
  intro w1 hown hgrow
  have hb1 : Below w.heap.size w w1 := (Below.refl _ _).grown hgrow (Nat.le_refl _) (by intro k hk; cases hk)
  rw [made_ints, ← fillL_zero] at hown
  have HB1 := hide hb1
  have HO := hide hown
  clear hgrow hown hb1
  go_wp2_with fail
  go_loopw [33] (fun v wr => ∃ j : Nat, j ≤ n ∧ v = .int .i64 j ∧ wr.ownsRow w.heap.size 3 1 (.slice (some ⟨w.heap.size, 0, none⟩) n n) n (ic (fillL n j)) ∧ Below w.heap.size w wr) (fun v _ => n - (intOf v).toNat)
  case atStart => exact ⟨0, Nat.zero_le _, rfl, unhide HO, unhide HB1⟩
  case round =>
    clear HO HB1
    obtain ⟨j, hj, rfl, hown, hbl⟩ := hrel
    by_cases hlt : j < n
    · have hfz := hown.frozenAt j
      obtain ⟨x, hce⟩ : ∃ x, wr.cell? ⟨w.heap.size, j, none⟩ = some x := ⟨_, (hown.cellAt j (by omega)).trans (ic_get _ _ (by rw [fillL_length]; exact hlt))⟩
      have hst := (hown.stored j (.int .i64 j)).1
      rw [ic_set, fillL_step n j hlt] at hst
      have HST := hide hst
      have HB2 := hide (hbl.setCell (p := ⟨w.heap.size, j, none⟩) (Nat.le_refl _) (.int .i64 j))
      have hlt' : (j : Int) < n := by omega
      clear hown hbl hst
      go_wp2
      go_roundw
      case rel => exact ⟨j + 1, by omega, by go_num, unhide HST, unhide HB2⟩
      case measure => simp [intOf]; omega
    · have hjn : j = n := by omega
      subst hjn
      rw [fillL_full] at hown
      have hGr : GenAt wr b s u := (hbl.block b hb).trans (unhide HG)
      have HGr := hide hGr
      have HO := hide hown
      have HKr := hide (Kept.of_below (b := b) hbl)
      have hlt' : ¬ (j : Int) < j := by omega
      clear HG hown hbl hGr
      go_wp2_with fail
      generalize wr = wo at *
      go_loopw [42] (fun v wr => ∃ i : Nat, i ≤ k ∧ v = .int .i64 i ∧ wr.ownsRow w.heap.size 3 1 (.slice (some ⟨w.heap.size, 0, none⟩) j j) j (ic (pkS s.data.toList j u i).2) ∧ GenAt wr b s (pkS s.data.toList j u i).1 ∧ Kept w.heap.size b w wr) (fun v _ => k - (intOf v).toNat)
      case atStart => exact ⟨0, Nat.zero_le _, rfl, unhide HO, unhide HGr, unhide HKr⟩
      case round =>
        clear HO HGr HKr
        obtain ⟨i, hik, rfl, hown, hGr, hKr⟩ := hrel
        by_cases hlt : i < k
        · have hus := pkS_used s.data.toList j u i
          have hbw := hide (below_any wr b (pkS s.data.toList j u i).1 s ((j : Int) - i) hs (by omega) (by omega) (by omega) hGr)
          have hv := chV_bounds (wdF s.data.toList (pkS s.data.toList j u i).1) ((j : Int) - i) 8 (by omega)
          have hpl := pkS_length s.data.toList j u i
          obtain ⟨d, hd⟩ := Int.eq_ofNat_of_zero_le hv.1
          have hst : Hid (pkS s.data.toList j u (i + 1) = ((pkS s.data.toList j u i).1 + chUse (wdF s.data.toList (pkS s.data.toList j u i).1) (fairOf ((j : Int) - i)) 8 0, ((pkS s.data.toList j u i).2.set i ((pkS s.data.toList j u i).2.getD (i + d) 0)).set (i + d) ((pkS s.data.toList j u i).2.getD i 0))) := by
            show _ = _
            rw [pkS]
            unfold pkJ swapL
            rw [hd, Int.toNat_natCast]
          rw [hd] at hbw hv
          generalize chUse (wdF s.data.toList (pkS s.data.toList j u i).1) (fairOf ((j : Int) - i)) 8 0 = m at *
          generalize (pkS s.data.toList j u i).1 = G at *
          generalize (pkS s.data.toList j u i).2 = L at *
          have HO := hide hown
          have HKr := hide hKr
          have hdj : i + d < j := by omega
          clear hown hGr hKr hd
          go_wp2_with fail
          refine (unhide hbw).mono ?_
          rintro e w2 ⟨rfl, hG2, hK2⟩
          have hown2 := own_kept (unhide HO) hK2 hb
          have HK2 := hide ((unhide HKr).trans (hK2.mono (unhide HKr).size))
          have HG2 := hide hG2
          have ci := (hown2.cellAt i (by omega)).trans (ic_getD L i (by omega))
          have cj := (hown2.cellAt (i + d) (by omega)).trans (ic_getD L (i + d) (by omega))
          have fi := hown2.frozenAt i
          have fj := hown2.frozenAt (i + d)
          have hs1 := (hown2.stored i (.int .i64 (L.getD (i + d) 0 : Nat))).1
          rw [ic_set] at hs1
          have fj1 := hs1.frozenAt (i + d)
          obtain ⟨y, cj1⟩ : ∃ y, (w2.setCell ⟨w.heap.size, i, none⟩ (.int .i64 (L.getD (i + d) 0 : Nat))).cell? ⟨w.heap.size, i + d, none⟩ = some y := ⟨_, (hs1.cellAt (i + d) (by omega)).trans (ic_getD _ _ (by rw [List.length_set]; omega))⟩
          have hs2 := (hs1.stored (i + d) (.int .i64 (L.getD i 0 : Nat))).1
          rw [ic_set] at hs2
          have HS2 := hide hs2
          have q1 : (i : Int) < j := by omega
          have q2 : (i : Int) + d < j := by omega
          clear hown2 hG2 hK2 hs1 hs2 HO HKr hbw
          generalize L.getD (i + d) 0 = x1 at *
          generalize L.getD i 0 = x2 at *
          have HG3 : Hid (GenAt ((w2.setCell ⟨w.heap.size, i, none⟩ (.int .i64 x1)).setCell ⟨w.heap.size, i + d, none⟩ (.int .i64 x2)) b s ((G + m : Nat) : Int)) := by
            show _ = _
            rw [Below.heap_setCell _ _ _ _ (show b ≠ w.heap.size by omega), Below.heap_setCell _ _ _ _ (show b ≠ w.heap.size by omega)]
            exact unhide HG2
          have HK3 : Hid (Kept w.heap.size b w ((w2.setCell ⟨w.heap.size, i, none⟩ (.int .i64 x1)).setCell ⟨w.heap.size, i + d, none⟩ (.int .i64 x2))) := by
            have h1 := unhide HK2
            refine ⟨h1.os, h1.tape, h1.output, by simpa using h1.size, fun q hq hn => ?_⟩
            rw [Below.heap_setCell _ _ _ _ (show q ≠ w.heap.size by omega), Below.heap_setCell _ _ _ _ (show q ≠ w.heap.size by omega)]
            exact h1.block q hq hn
          clear HG2 HK2
          go_wp2
          go_region
          go_wp2
          go_roundw
          case rel => exact ⟨i + 1, by omega, by go_num, by rw [unhide hst]; exact unhide HS2, by rw [unhide hst]; exact unhide HG3, ⟨(unhide HK3).os, (unhide HK3).tape, (unhide HK3).output, (unhide HK3).size, (unhide HK3).block⟩⟩
          case measure => simp [intOf]; omega
        · have hik2 : i = k := by omega
          subst hik2
          have hpl := pkS_length s.data.toList j u i
          have HC : Hid (∀ q, q < j → wr.cell? ⟨w.heap.size, q, none⟩ = some (.int .i64 ((pkS s.data.toList j u i).2.getD q 0))) := fun q hq => (hown.cellAt q (by omega)).trans (ic_getD _ _ (by omega))
          have HFZ : Hid (∀ q, wr.frozen? ⟨w.heap.size, q, none⟩ = false) := fun q => hown.frozenAt q
          have HLT : Hid (w.heap.size < wr.heap.size) := (hown.lt w.heap.size rfl).2
          have HG2 := hide hGr
          have HK2 := hide hKr
          have q1 : (i : Int) ≤ j := by omega
          clear hown hGr hKr
          go_wp2
          go_ret
          exact ⟨w.heap.size, rfl, Nat.le_refl _, unhide HC, unhide HG2, unhide HK2, unhide HFZ, unhide HLT⟩

end Go.Proofs.YtkcnihngkmaecaaGreat
namespace Go.Proofs.YtkcnihngkmaecaaGreat
set_option linter.unusedVariables false

theorem getD_set' (l : List Nat) (i a x : Nat) (h : i < l.length) : (l.set i x).getD a 0 = if a = i then x else l.getD a 0 := by
  by_cases e : a = i
  · subst e; simp [List.getD, h]
  · rw [if_neg e]
    simp [List.getD, List.getElem?_set_ne (Ne.symm e)]
theorem swapL_get (l : List Nat) (i j a : Nat) (hi : i < l.length) (hj : j < l.length) : (swapL l i j).getD a 0 = l.getD (if a = j then i else if a = i then j else a) 0 := by
  unfold swapL
  rw [getD_set' _ _ _ _ (by simpa using hj)]
  by_cases e : a = j
  · rw [if_pos e, if_pos e]
  · rw [if_neg e, if_neg e, getD_set' _ _ _ _ hi]
    by_cases e2 : a = i
    · rw [if_pos e2, if_pos e2]
    · rw [if_neg e2, if_neg e2]

theorem pkS_inj (seed : List UInt8) (n u : Nat) : ∀ i, i ≤ n → (∀ a b, a < n → b < n → (pkS seed n u i).2.getD a 0 = (pkS seed n u i).2.getD b 0 → a = b) ∧ ∀ a, a < n → (pkS seed n u i).2.getD a 0 < n := by
  intro i
  induction i with
  | zero =>
    intro _
    have e : ∀ a, a < n → (pkS seed n u 0).2.getD a 0 = a := fun a ha => by simp [pkS, List.getD, ha]
    refine ⟨fun a b ha hb h => ?_, fun a ha => by rw [e a ha]; exact ha⟩
    rwa [e a ha, e b hb] at h
  | succ i ih =>
    intro hi
    obtain ⟨h1, h2⟩ := ih (by omega)
    have hl := pkS_length seed n u i
    have hj := pkJ_lt seed n (pkS seed n u i).1 i (by omega)
    have e : ∀ a, (pkS seed n u (i + 1)).2.getD a 0 = (pkS seed n u i).2.getD (if a = pkJ seed n (pkS seed n u i).1 i then i else if a = i then pkJ seed n (pkS seed n u i).1 i else a) 0 := fun a => swapL_get _ _ _ _ (by omega) (by omega)
    generalize pkJ seed n (pkS seed n u i).1 i = j at *
    have sb : ∀ a, a < n → (if a = j then i else if a = i then j else a) < n := fun a ha => by
      by_cases a1 : a = j
      · rw [if_pos a1]; omega
      · rw [if_neg a1]
        by_cases a2 : a = i
        · rw [if_pos a2]; omega
        · rw [if_neg a2]; exact ha
    constructor
    · intro a b ha hb h
      rw [e, e] at h
      have h3 := h1 _ _ (sb a ha) (sb b hb) h
      clear h e
      repeat' split at h3
      all_goals omega
    · intro a ha
      rw [e]
      exact h2 _ (sb a ha)
theorem pkS_fix (seed : List UInt8) (n u : Nat) (k a : Nat) (ha : a < k) : ∀ m, k ≤ m → m ≤ n → (pkS seed n u m).2.getD a 0 = (pkS seed n u k).2.getD a 0 := by
  intro m hkm
  obtain ⟨d, rfl⟩ := Nat.exists_eq_add_of_le hkm
  clear hkm
  induction d with
  | zero => intro _; rfl
  | succ d ih0 =>
    intro hmn
    have hm : k ≤ k + d := by omega
    have ih : k + d ≤ n → (pkS seed n u (k + d)).2.getD a 0 = (pkS seed n u k).2.getD a 0 := ih0
    rw [show k + (d + 1) = (k + d) + 1 by omega] at hmn ⊢
    generalize k + d = m at *
    have hl := pkS_length seed n u m
    have hj := pkJ_lt seed n (pkS seed n u m).1 m (by omega)
    have e : (pkS seed n u (m + 1)).2.getD a 0 = (pkS seed n u m).2.getD (if a = pkJ seed n (pkS seed n u m).1 m then m else if a = m then pkJ seed n (pkS seed n u m).1 m else a) 0 := swapL_get _ _ _ _ (by omega) (by omega)
    rw [e, if_neg (by omega), if_neg (by omega)]
    exact ih (by omega)

/-- which numbers were seen -/
def snB (A : Nat → Nat) (i x : Nat) : Bool := (List.range i).any fun j => A j == x
theorem snB_zero (A : Nat → Nat) (x : Nat) : snB A 0 x = false := rfl
theorem snB_succ (A : Nat → Nat) (i x : Nat) : snB A (i + 1) x = (snB A i x || A i == x) := by simp [snB, List.range_succ]
theorem snB_fresh (A : Nat → Nat) (n i : Nat) (hi : i < n) (h : ∀ a b, a < n → b < n → A a = A b → a = b) : snB A i (A i) = false := by
  unfold snB
  rw [List.any_eq_false]
  intro j hj he
  have := List.mem_range.1 hj
  have := h j i (by omega) hi (by simpa using he)
  omega

end Go.Proofs.YtkcnihngkmaecaaGreat

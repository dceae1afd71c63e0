/- The laws BitsBack and BitsSets, walked. -/
import Derived.Test.YtfcgbalcdnfmaaaBtL
namespace Go.Proofs.Ytfcgbalcdnfmaaa
open Go.RowKit
set_option linter.unusedVariables false

/-- the k-th of a set's numbers -/
theorem listN_at (s : By) (n : Nat) : ∀ (k : Nat) (h : k < (listN s n).length), ∃ i : Nat, (listN s n)[k] = i ∧ i < n ∧ bitAt s i = true ∧ rankN s i = k := by
  induction n with
  | zero => intro k h; simp [listN] at h
  | succ n ih =>
    intro k h
    cases hv : bitAt s n with
    | false =>
      have e := listN_no hv
      have h' : k < (listN s n).length := by rw [e] at h; exact h
      obtain ⟨i, h1, h2, h3, h4⟩ := ih k h'
      refine ⟨i, ?_, by omega, h3, h4⟩
      rw [← h1]
      simp only [e]
    | true =>
      have e := listN_yes hv
      rcases Nat.lt_or_ge k (listN s n).length with h' | h'
      · obtain ⟨i, h1, h2, h3, h4⟩ := ih k h'
        refine ⟨i, ?_, by omega, h3, h4⟩
        rw [← h1]
        simp only [e]
        rw [List.getElem_append_left h']
      · have hk : k = (listN s n).length := by rw [e, List.length_append] at h; simp at h; omega
        refine ⟨n, ?_, by omega, hv, ?_⟩
        · subst hk
          simp only [e]
          rw [List.getElem_append_right (Nat.le_refl _)]
          simp
        · rw [hk, listN_length]
theorem listN_nodup (s : By) (n : Nat) : (listN s n).Nodup := by
  induction n with
  | zero => simp [listN]
  | succ n ih =>
    cases hv : bitAt s n with
    | false => rw [listN_no hv]; exact ih
    | true =>
      rw [listN_yes hv, List.nodup_append]
      refine ⟨ih, by simp, fun a ha b hb => ?_⟩
      simp at hb
      subst hb
      obtain ⟨i, h1, _, h3⟩ := (listN_mem s n a).1 ha
      omega
theorem rank_end {n : Nat} {s : By} (hc : chk n s = true) : rankN s n = rankN s (8 * s.length) := by
  have h1 := (chk_iff.1 hc).2.1
  have h2 := wid_le n
  have key : ∀ d, rankN s (n + d) = rankN s n := by
    intro d
    induction d with
    | zero => rfl
    | succ d ih => rw [← Nat.add_assoc, rankN_no (chk_hi hc _ (by omega)), ih]
  have := key (8 * s.length - n)
  rw [show n + (8 * s.length - n) = 8 * s.length by omega] at this
  exact this.symm
theorem back_of {n : Nat} {s : By} (hc : chk n s = true) : ofE n (listN s n) = 0 ∧ ofR n (listN s n) = s := by
  have hn := (chk_iff.1 hc).1
  have hl := (chk_iff.1 hc).2.1
  have hE : ofE n (listN s n) = 0 := by
    unfold ofE
    rw [if_neg (fun h => h ⟨by omega, fun x hx => by
      obtain ⟨i, h1, _, h3⟩ := (listN_mem s n x).1 hx
      omega⟩), if_neg (fun h => h (listN_nodup s n))]
  refine ⟨hE, ?_⟩
  unfold ofR
  rw [if_pos hE, Int.toNat_natCast]
  symm
  apply eq_makeP hl
  intro i hi
  rw [Bool.eq_iff_iff, decide_eq_true_iff, listN_mem]
  constructor
  · intro hb
    refine ⟨i, ?_, hb, rfl⟩
    rcases Nat.lt_or_ge i n with h | h
    · exact h
    · rw [chk_hi hc i h] at hb; cases hb
  · rintro ⟨j, h1, h2, h3⟩
    have : i = j := by omega
    subst this; exact h2
theorem nth_at {s : By} {i k : Nat} (hi : i < 8 * s.length) (hb : bitAt s i = true) (hr : rankN s i = k) : nthI s k = i := by
  refine nth_is hi (by unfold nthP; rw [hb, hr]; simp) (fun j hj => ?_)
  unfold nthP
  cases hbj : bitAt s j
  · rfl
  · have h1 := rankN_yes hbj
    have h2 := rankN_mono s (show j + 1 ≤ i by omega)
    rw [decide_eq_false (by omega), Bool.and_false]
theorem nth_end {n : Nat} {s : By} (hc : chk n s = true) : nthI s ((listN s n).length : Nat) = -1 := by
  refine nth_none (fun j hj => ?_)
  unfold nthP
  cases hbj : bitAt s j
  · rfl
  · have h1 := rankN_yes hbj
    have h2 := rankN_mono s (show j + 1 ≤ 8 * s.length by omega)
    have h3 := rank_end hc
    rw [listN_length, decide_eq_false (by omega), Bool.and_false]
set_option maxRecDepth 100000 in
set_option maxHeartbeats 4000000 in
theorem bitsBack_any (n : Int) (s : ByteArray) (w : World) (hs : s.size ≤ maxLen) :
    Calls Try.prog 7 #[.int .i64 n, .string s] w fun e w' => e = .returned (.bool true) ∧ Below w.heap.size w w' := by
  have haw := hide tawake_any
  rw [← bs_of s]
  have hl : s.size = s.data.toList.length := by simp
  rw [hl] at hs
  have hl2 := bs_size s.data.toList
  clear hl
  generalize s.data.toList = S at *
  have h1 := hide (fun w => list_any n S w hs)
  have h5 := hide (fun w => check_any n S w hs)
  rcases listE_cases n S with ⟨hC, hE, hL⟩ | ⟨hC, hE, hL⟩
  · rw [hE, hL] at h1
    have h0 : 0 ≤ n := by
      unfold chkI at hC
      rw [Bool.and_eq_true, decide_eq_true_iff] at hC
      exact hC.1
    obtain ⟨m, rfl⟩ : ∃ m : Nat, n = m := ⟨n.toNat, by omega⟩
    rw [Int.toNat_natCast] at h1 hL
    rw [chkI_nat] at hC
    have hm := (chk_iff.1 hC).1
    have hsl := (chk_iff.1 hC).2.1
    have hw20 := wid_le20 m hm
    have hwm := wid_le m
    have hlr := listN_length S m
    have hrl := rankN_le S m
    have h2 := hide (fun w a0 c hT => of_any m (listN S m) a0 c w hT (by omega))
    rw [(back_of hC).1, (back_of hC).2] at h2
    have h3 := hide (fun w => count_any S w (by omega))
    rw [← rank_end hC, ← hlr] at h3
    have h4 := hide (fun (i : Nat) w => has_any S i w (by omega))
    have h6 := hide (fun (k : Int) w => nth_any S k w (by omega))
    have h7 := hide (fun (k : Nat) w => rank_any S k w (by omega))
    have h8 := hide (fun w => nth_any S ((listN S m).length : Nat) w (by omega))
    rw [nth_end hC] at h8
    have HAT := hide (fun k h => listN_at S m k h)
    have HNTH := hide (fun (i k : Nat) (hi : i < 8 * S.length) hb hr => nth_at (s := S) (i := i) (k := k) hi hb hr)
    have HMONO := hide (fun (a b : Nat) h => rankN_mono S (a := a) (b := b) h)
    clear hE hL hC h0 hrl hlr
    generalize hLL : listN S m = L at *
    clear hLL
    have hln : L.length ≤ 160 := by
      rcases Nat.lt_or_ge 160 L.length with h | h
      · obtain ⟨i, _, h1, h2, h3⟩ := unhide HAT 160 h
        have := rankN_le S i
        omega
      · exact h
    obtain ⟨ln, hnn⟩ : ∃ ln, L.length = ln := ⟨_, rfl⟩
    rw [hnn] at h2 h3 h8 hln
    have HLN := hide hnn
    clear hnn
    have q0 : ((ln : Int) == ln) = true := by simp
    go_enter Try.func7, Try.ntmps7
    go_wp2_with fail
    refine (unhide h1 _).mono ?_
    rintro e w1 ⟨v1, rfl, ho1, b1⟩
    obtain ⟨a1, c1, rfl, hT1, hc1, hd1⟩ := ho1.ints
    unfold maxLen at hd1
    have B1 := hide b1
    clear b1
    have HT1 := hide hT1
    clear ho1 hT1
    rw [unhide HLN] at hc1 ⊢
    go_wp2_with fail
    refine (unhide h2 _ _ _ (unhide HT1)).mono ?_
    rintro e w2 ⟨rfl, b2⟩
    replace HT1 := hide ((unhide HT1).below b2)
    have B2 := hide ((unhide B1).trans (b2.mono (unhide B1).size))
    clear b2 B1
    go_wp2_with fail
    refine (unhide h3 _).mono ?_
    rintro e w3 ⟨rfl, b3⟩
    replace HT1 := hide ((unhide HT1).below b3)
    have B3 := hide ((unhide B2).trans (b3.mono (unhide B2).size))
    clear b3 B2
    go_wp2_with fail
    go_loopw [9] (fun i wr => ∃ k : Nat, k ≤ ln ∧ i = .int .i64 k ∧ Ints wr a1 L ∧ Below w.heap.size w wr) (fun i _ => ln - (intOf i).toNat)
    case atStart => exact ⟨0, Nat.zero_le _, rfl, unhide HT1, unhide B3⟩
    case round =>
      clear HT1 B3
      obtain ⟨k, hk, rfl, hT, hb⟩ := hrel
      have HB := hide hb
      have HT := hide hT
      by_cases hlt : k < ln
      · have q1 : (k : Int) < ln := by omega
        have hlt' : k < L.length := by rw [unhide HLN]; exact hlt
        obtain ⟨g, o, rfl, y0⟩ := hT k hlt'
        obtain ⟨i, hi, him, hbi, hri⟩ := unhide HAT k hlt'
        rw [hi] at y0
        have hn2 : nthI S k = i := unhide HNTH i k (by omega) hbi hri
        have k1 := hide (unhide h4 i)
        rw [hasI_nat, hbi] at k1
        have k2 := hide (unhide h6 k)
        rw [hn2] at k2
        have k3 := hide (unhide h7 i)
        unfold rankI at k3
        rw [Int.toNat_natCast, hri] at k3
        have e1 : ((i : Int) == i) = true := by simp
        have e2 : ((k : Int) == k) = true := by simp
        by_cases hk0 : 0 < k
        · obtain ⟨k', rfl⟩ : ∃ k', k = k' + 1 := ⟨k - 1, by omega⟩
          have hlt2 : k' < L.length := by omega
          obtain ⟨g', o', ha, y1⟩ := hT k' hlt2
          simp only [Option.some.injEq, Addr.mk.injEq] at ha
          obtain ⟨rfl, rfl, _⟩ := ha
          obtain ⟨j, hj, hjm, hbj, hrj⟩ := unhide HAT k' hlt2
          rw [hj] at y1
          have hji : j < i := by
            rcases Nat.lt_or_ge j i with h | h
            · exact h
            · have := unhide HMONO i j h; omega
          have q5 : decide ((i : Int) ≤ j) = false := decide_eq_false (by omega)
          have q6 : decide (i ≤ j) = false := decide_eq_false (by omega)
          have hc0 : ∀ x : Gb wr, x.w.cell? ⟨g, o + (k' + 1), none⟩ = some (.int .i64 i) := fun x => gb_cell y0 x
          have hc1 : ∀ x : Gb wr, x.w.cell? ⟨g, o + k', none⟩ = some (.int .i64 j) := fun x => gb_cell y1 x
          have hke : ((k' + 1 : Nat) : Int) = (k' : Int) + 1 := rfl
          generalize hK : k' + 1 = K at *
          have hK' : (K : Int) - 1 = k' := by omega
          have HKK := hide hK
          have q7 : decide ((0 : Int) < K) = true := decide_eq_true (by omega)
          have q7b : decide (0 < K) = true := decide_eq_true (by omega)
          have q8 : (k' : Int) < ln := by omega
          clear hK hke hbi hri hi him hn2 hlt' hlt2 hbj hrj hj hjm hji hT hb y0 y1 hk0
          go_wp2_with fail
          have hne := gb_ne wr
          refine wp_region_gr (fun x => Below wr.heap.size wr x) (by kernel_rfl) (by kernel_rfl) (gb_start wr) ?_
          repeat (go_big_quiet_step ((first | (go_at_call 24; exact gb_call (unhide k1 _)) | (go_at_call 33; exact gb_call (unhide k2 _)) | (go_at_call 32; exact gb_call (unhide k3 _)))))
          refine wpQuiet_nil ?_
          rintro w7 ⟨⟨_, b7⟩, rfl⟩
          have B7 := hide ((unhide HB).trans (b7.mono (unhide HB).size))
          have HT7 := hide ((unhide HT).below b7)
          clear b7 hne hc0 hc1 HT HB
          go_wp2
          go_roundw
          case rel => exact ⟨K + 1, by omega, by go_num, unhide HT7, unhide B7⟩
          case measure => simp [intOf]; omega
        · have hk00 : k = 0 := by omega
          subst hk00
          have hc0 : ∀ x : Gb wr, x.w.cell? ⟨g, o + 0, none⟩ = some (.int .i64 i) := fun x => gb_cell y0 x
          have hc1 : ∀ x : Gb wr, x.w.cell? ⟨g, o, none⟩ = some (.int .i64 i) := fun x => gb_cell y0 x
          have z0 : ((0 : Nat) : Int) = 0 := rfl
          rw [z0] at k2 k3
          clear hbi hri hi him hn2 hlt' hT hb y0 hk0
          go_wp2_with fail
          have hne := gb_ne wr
          refine wp_region_gr (fun x => Below wr.heap.size wr x) (by kernel_rfl) (by kernel_rfl) (gb_start wr) ?_
          repeat (go_big_quiet_step ((first | (go_at_call 24; exact gb_call (unhide k1 _)) | (go_at_call 33; exact gb_call (unhide k2 _)) | (go_at_call 32; exact gb_call (unhide k3 _)))))
          refine wpQuiet_nil ?_
          rintro w7 ⟨⟨_, b7⟩, rfl⟩
          have B7 := hide ((unhide HB).trans (b7.mono (unhide HB).size))
          have HT7 := hide ((unhide HT).below b7)
          clear b7 hne hc0 hc1 HT HB
          go_wp2
          go_roundw
          case rel => exact ⟨1, by omega, by go_num, unhide HT7, unhide B7⟩
          case measure => simp [intOf]; omega
      · have q1 : ¬ (k : Int) < ln := by omega
        clear hT hb HT
        go_wp2_with fail
        refine (unhide haw _).mono ?_
        rintro e w20 ⟨rfl, b20⟩
        have B20 := hide ((unhide HB).trans (b20.mono (unhide HB).size))
        clear b20 HB
        go_wp2_with fail
        refine (unhide h8 _).mono ?_
        rintro e w21 ⟨rfl, b21⟩
        have B21 := hide ((unhide B20).trans (b21.mono (unhide B20).size))
        clear b21 B20
        go_wp2
        go_ret
        exact ⟨rfl, unhide B21⟩
  · rw [hE, hL] at h1
    rw [hC] at h5
    clear hE hL hC hs
    generalize bs S = B at *
    generalize S.length = sl at *
    have hl0 : ([] : List Int).length = 0 := rfl
    go_enter Try.func7, Try.ntmps7
    go_wp2_with fail
    refine (unhide h1 _).mono ?_
    rintro e w1 ⟨v1, rfl, ho1, b1⟩
    obtain ⟨a1, c1, rfl, hT1, hc1, hd1⟩ := ho1.ints
    unfold maxLen at hd1
    have B1 := hide b1
    clear b1
    have HT1 := hide hT1
    clear ho1 hT1
    rw [hl0]
    clear HT1
    go_wp2_with fail
    refine (unhide haw _).mono ?_
    rintro e w2 ⟨rfl, b2⟩
    have B2 := hide ((unhide B1).trans (b2.mono (unhide B1).size))
    clear b2 B1
    go_wp2_with fail
    refine (unhide h5 _).mono ?_
    rintro e w3 ⟨rfl, b3⟩
    have B3 := hide ((unhide B2).trans (b3.mono (unhide B2).size))
    clear b3 B2
    go_wp2
    go_ret
    exact ⟨rfl, unhide B3⟩

theorem zip_bit {f : UInt8 → UInt8 → UInt8} {q : Bool → Bool → Bool} (hf : ∀ x y j, j < 8 → bitB (f x y) j = q (bitB x j) (bitB y j)) (h0 : q false false = false) (a b : By) (h : a.length = b.length) (i : Nat) :
    bitAt (List.zipWith f a b) i = q (bitAt a i) (bitAt b i) := by
  have hz := zip_len f a b h
  rcases Nat.lt_or_ge (i / 8) a.length with hi | hi
  · rw [bitAt_in _ _ (by rw [hz]; exact hi)]
    simp only [List.getElem_zipWith]
    rw [hf _ _ _ (by omega), ← bitAt_in a i hi, ← bitAt_in b i (by omega)]
  · rw [bitAt_out _ _ (by rw [hz]; exact hi), bitAt_out a i hi, bitAt_out b i (by omega), h0]
theorem chk_zip {f : UInt8 → UInt8 → UInt8} {q : Bool → Bool → Bool} (hf : ∀ x y j, j < 8 → bitB (f x y) j = q (bitB x j) (bitB y j)) (h0 : q false false = false) {n : Nat} {a b : By} (ha : chk n a = true) (hb : chk n b = true) : chk n (List.zipWith f a b) = true := by
  obtain ⟨a1, a2, a3⟩ := chk_iff.1 ha
  obtain ⟨b1, b2, b3⟩ := chk_iff.1 hb
  have h : a.length = b.length := by omega
  refine chk_iff.2 ⟨a1, by rw [zip_len f a b h, a2], fun i h1 h2 => ?_⟩
  rw [zip_bit hf h0 a b h, chk_hi ha i h2, chk_hi hb i h2, h0]
def sAnd (a b : By) : By := List.zipWith (fun x y => x &&& y) a b
def sOr (a b : By) : By := List.zipWith (fun x y => x ||| y) a b
def sMinus (a b : By) : By := List.zipWith (fun x y => x &&& ~~~y) a b
theorem sAnd_bit (a b : By) (h : a.length = b.length) (i : Nat) : bitAt (sAnd a b) i = (bitAt a i && bitAt b i) := zip_bit (q := fun x y => x && y) (fun x y j _ => and_bit x y j) rfl a b h i
theorem sOr_bit (a b : By) (h : a.length = b.length) (i : Nat) : bitAt (sOr a b) i = (bitAt a i || bitAt b i) := zip_bit (q := fun x y => x || y) (fun x y j _ => or_bit x y j) rfl a b h i
theorem sMinus_bit (a b : By) (h : a.length = b.length) (i : Nat) : bitAt (sMinus a b) i = (bitAt a i && !bitAt b i) := zip_bit (q := fun x y => x && !y) (fun x y j hj => by rw [and_bit, not_bit y j hj]) rfl a b h i
theorem sAnd_len (a b : By) (h : a.length = b.length) : (sAnd a b).length = a.length := zip_len _ a b h
theorem sOr_len (a b : By) (h : a.length = b.length) : (sOr a b).length = a.length := zip_len _ a b h
theorem sMinus_len (a b : By) (h : a.length = b.length) : (sMinus a b).length = a.length := zip_len _ a b h
theorem rank_sum (a b x y : By) (hx : ∀ i, bitAt x i = (bitAt a i && bitAt b i)) (hy : ∀ i, bitAt y i = (bitAt a i || bitAt b i)) (k : Nat) : rankN x k + rankN y k = rankN a k + rankN b k := by
  induction k with
  | zero => rfl
  | succ k ih =>
    show (rankN x k + _) + (rankN y k + _) = (rankN a k + _) + (rankN b k + _)
    rw [hx, hy]
    cases bitAt a k <;> cases bitAt b k <;> simp <;> omega
theorem bothR_eq (f : UInt8 → UInt8 → UInt8) (a b : By) (h : a.length = b.length) : bothE a b = 0 ∧ bothR f a b = List.zipWith f a b := by
  unfold bothE bothR
  rw [if_pos h, if_pos h]
  exact ⟨rfl, rfl⟩
set_option maxRecDepth 100000 in
set_option maxHeartbeats 4000000 in
theorem bitsSets_any (n : Int) (a b : ByteArray) (w : World) (ha : a.size ≤ maxLen) (hb : b.size ≤ maxLen) :
    Calls Try.prog 8 #[.int .i64 n, .string a, .string b] w fun e w' => e = .returned (.bool true) ∧ Below w.heap.size w w' := by
  have haw := hide tawake_any
  rw [← bs_of a, ← bs_of b]
  have hl : a.size = a.data.toList.length := by simp
  have hl' : b.size = b.data.toList.length := by simp
  rw [hl] at ha
  rw [hl'] at hb
  clear hl hl'
  generalize a.data.toList = A at *
  generalize b.data.toList = B at *
  have h1 := hide (fun w => check_any n A w ha)
  have h2 := hide (fun w => check_any n B w hb)
  cases hCA : chkI n A with
  | false =>
    rw [hCA] at h1
    clear hCA ha hb h2
    generalize bs A = X at *
    generalize bs B = Y at *
    go_enter Try.func8, Try.ntmps8
    go_wp2_with fail
    refine (unhide h1 _).mono ?_
    rintro e w1 ⟨rfl, b1⟩
    have B1 := hide b1
    clear b1
    go_wp2_with fail
    refine (unhide haw _).mono ?_
    rintro e w2 ⟨rfl, b2⟩
    have B2 := hide ((unhide B1).trans (b2.mono (unhide B1).size))
    clear b2 B1
    go_wp2
    go_ret
    exact ⟨rfl, unhide B2⟩
  | true =>
    rw [hCA] at h1
    cases hCB : chkI n B with
    | false =>
      rw [hCB] at h2
      clear hCA hCB ha hb
      generalize bs A = X at *
      generalize bs B = Y at *
      go_enter Try.func8, Try.ntmps8
      go_wp2_with fail
      refine (unhide h1 _).mono ?_
      rintro e w1 ⟨rfl, b1⟩
      have B1 := hide b1
      clear b1
      go_wp2_with fail
      refine (unhide h2 _).mono ?_
      rintro e w2 ⟨rfl, b2⟩
      have B2 := hide ((unhide B1).trans (b2.mono (unhide B1).size))
      clear b2 B1
      go_wp2_with fail
      refine (unhide haw _).mono ?_
      rintro e w3 ⟨rfl, b3⟩
      have B3 := hide ((unhide B2).trans (b3.mono (unhide B2).size))
      clear b3 B2
      go_wp2
      go_ret
      exact ⟨rfl, unhide B3⟩
    | true =>
      rw [hCB] at h2
      have h0 : 0 ≤ n := by
        unfold chkI at hCA
        rw [Bool.and_eq_true, decide_eq_true_iff] at hCA
        exact hCA.1
      obtain ⟨m, rfl⟩ : ∃ m : Nat, n = m := ⟨n.toNat, by omega⟩
      rw [chkI_nat] at hCA hCB
      obtain ⟨a1, a2, a3⟩ := chk_iff.1 hCA
      obtain ⟨b1, b2, b3⟩ := chk_iff.1 hCB
      have hw20 := wid_le20 m a1
      have hAB : A.length = B.length := by omega
      have lx := sAnd_len A B hAB
      have ly := sOr_len A B hAB
      have lz := sMinus_len A B hAB
      have h3 := hide (fun w => and_any A B w (by omega) (by omega))
      have h4 := hide (fun w => or_any A B w (by omega) (by omega))
      have h5 := hide (fun w => minus_any A B w (by omega) (by omega))
      have h6 := hide (fun w => or_any (sAnd A B) (sMinus A B) w (by omega) (by omega))
      have h7 := hide (fun w => and_any (sMinus A B) B w (by omega) (by omega))
      have eA := bothR_eq (fun x y => x &&& y) A B hAB
      have eO := bothR_eq (fun x y => x ||| y) A B hAB
      have eM := bothR_eq (fun x y => x &&& ~~~y) A B hAB
      have eW := bothR_eq (fun x y => x ||| y) (sAnd A B) (sMinus A B) (by omega)
      have eV := bothR_eq (fun x y => x &&& y) (sMinus A B) B (by omega)
      rw [eA.1, eA.2] at h3
      rw [eO.1, eO.2] at h4
      rw [eM.1, eM.2] at h5
      have hw : List.zipWith (fun x y => x ||| y) (sAnd A B) (sMinus A B) = A := by
        apply bits_ext (by show (sOr (sAnd A B) (sMinus A B)).length = _; rw [sOr_len _ _ (by omega), lx])
        intro i _
        show bitAt (sOr (sAnd A B) (sMinus A B)) i = _
        rw [sOr_bit _ _ (by omega), sAnd_bit A B hAB, sMinus_bit A B hAB]
        cases bitAt A i <;> cases bitAt B i <;> rfl
      have hv : List.zipWith (fun x y => x &&& y) (sMinus A B) B = emptyL m := by
        rw [emptyL_nat m a1, ← makeP_none]
        apply eq_makeP (by show (sAnd (sMinus A B) B).length = _; rw [sAnd_len _ _ (by omega), lz, a2])
        intro i _
        show bitAt (sAnd (sMinus A B) B) i = _
        rw [sAnd_bit _ _ (by omega), sMinus_bit A B hAB]
        cases bitAt A i <;> cases bitAt B i <;> rfl
      rw [eW.1, eW.2, hw] at h6
      rw [eV.1, eV.2, hv] at h7
      have cx : chk m (sAnd A B) = true := chk_zip (q := fun x y => x && y) (fun x y j _ => and_bit x y j) rfl hCA hCB
      have cy : chk m (sOr A B) = true := chk_zip (q := fun x y => x || y) (fun x y j _ => or_bit x y j) rfl hCA hCB
      have cz : chk m (sMinus A B) = true := chk_zip (q := fun x y => x && !y) (fun x y j hj => by rw [and_bit, not_bit y j hj]) rfl hCA hCB
      have h8 := hide (fun w => check_any m (sAnd A B) w (by unfold maxLen; omega))
      have h9 := hide (fun w => check_any m (sOr A B) w (by unfold maxLen; omega))
      have h10 := hide (fun w => check_any m (sMinus A B) w (by unfold maxLen; omega))
      rw [chkI_nat, cx] at h8
      rw [chkI_nat, cy] at h9
      rw [chkI_nat, cz] at h10
      have h11 := hide (fun w => count_any (sAnd A B) w (by omega))
      have h12 := hide (fun w => count_any (sOr A B) w (by omega))
      have h13 := hide (fun w => count_any A w (by omega))
      have h14 := hide (fun w => count_any B w (by omega))
      have h15 := hide (empty_any m)
      have hsum := rank_sum A B (sAnd A B) (sOr A B) (sAnd_bit A B hAB) (sOr_bit A B hAB) (8 * A.length)
      rw [lx] at h11
      rw [ly] at h12
      rw [← hAB] at h14
      have r1 := rankN_le (sAnd A B) (8 * A.length)
      have r2 := rankN_le (sOr A B) (8 * A.length)
      have r3 := rankN_le A (8 * A.length)
      have r4 := rankN_le B (8 * A.length)
      have hAl : A.length ≤ 20 := by omega
      generalize rankN (sAnd A B) (8 * A.length) = c1 at *
      generalize rankN (sOr A B) (8 * A.length) = c2 at *
      generalize rankN A (8 * A.length) = c3 at *
      generalize rankN B (8 * A.length) = c4 at *
      have q9 : ((c1 : Int) + c2 == (c3 : Int) + c4) = true := by
        have : (c1 : Int) + c2 = (c3 : Int) + c4 := by omega
        rw [this]; simp
      have q10 : c1 ≤ 160 ∧ c2 ≤ 160 ∧ c3 ≤ 160 ∧ c4 ≤ 160 := by omega
      obtain ⟨q11, q12, q13, q14⟩ := q10
      rw [show List.zipWith (fun x y => x &&& y) A B = sAnd A B from rfl] at h3
      rw [show List.zipWith (fun x y => x ||| y) A B = sOr A B from rfl] at h4
      rw [show List.zipWith (fun x y => x &&& ~~~y) A B = sMinus A B from rfl] at h5
      generalize bs (sAnd A B) = SX at *
      generalize bs (sOr A B) = SY at *
      generalize bs (sMinus A B) = SZ at *
      generalize bs (emptyL m) = SE at *
      generalize bs A = X at *
      generalize bs B = Y at *
      have HS := hide hsum
      clear eA eO eM eW eV hw hv cx cy cz hsum r1 r2 r3 r4 lx ly lz hAB a1 a2 a3 b1 b2 b3 hCA hCB ha hb hw20 hAl h0
      obtain ⟨cs, hcs⟩ : ∃ cs : Nat, cs = c1 + c2 := ⟨_, rfl⟩
      have e12 : (c1 : Int) + c2 = cs := by omega
      have e34 : (c3 : Int) + c4 = cs := by have := unhide HS; omega
      have q9' : ((cs : Int) == cs) = true := by simp
      have hcsb : cs ≤ 320 := by omega
      clear hcs q9
      go_enter Try.func8, Try.ntmps8
      go_wp2_with fail
      refine (unhide h1 _).mono ?_
      rintro e w1 ⟨rfl, b1⟩
      have B1 := hide b1
      clear b1
      go_wp2_with fail
      refine (unhide h2 _).mono ?_
      rintro e w2 ⟨rfl, b2⟩
      have B2 := hide ((unhide B1).trans (b2.mono (unhide B1).size))
      clear b2 B1
      go_wp2_with fail
      refine (unhide h3 _).mono ?_
      rintro e w3 ⟨rfl, b3⟩
      have B3 := hide ((unhide B2).trans (b3.mono (unhide B2).size))
      clear b3 B2
      go_wp2_with fail
      refine (unhide h4 _).mono ?_
      rintro e w4 ⟨rfl, b4⟩
      have B4 := hide ((unhide B3).trans (b4.mono (unhide B3).size))
      clear b4 B3
      go_wp2_with fail
      refine (unhide h5 _).mono ?_
      rintro e w5 ⟨rfl, b5⟩
      have B5 := hide ((unhide B4).trans (b5.mono (unhide B4).size))
      clear b5 B4
      go_wp2_with fail
      refine (unhide h6 _).mono ?_
      rintro e w6 ⟨rfl, b6⟩
      have B6 := hide ((unhide B5).trans (b6.mono (unhide B5).size))
      clear b6 B5
      go_wp2_with fail
      refine (unhide h7 _).mono ?_
      rintro e w7 ⟨rfl, b7⟩
      have B7 := hide ((unhide B6).trans (b7.mono (unhide B6).size))
      clear b7 B6
      go_wp2_with fail
      refine (unhide h8 _).mono ?_
      rintro e w8 ⟨rfl, b8⟩
      have B8 := hide ((unhide B7).trans (b8.mono (unhide B7).size))
      clear b8 B7
      go_wp2_with fail
      refine (unhide h9 _).mono ?_
      rintro e w9 ⟨rfl, b9⟩
      have B9 := hide ((unhide B8).trans (b9.mono (unhide B8).size))
      clear b9 B8
      go_wp2_with fail
      refine (unhide h10 _).mono ?_
      rintro e w10 ⟨rfl, b10⟩
      have B10 := hide ((unhide B9).trans (b10.mono (unhide B9).size))
      clear b10 B9
      go_wp2_with fail
      refine (unhide haw _).mono ?_
      rintro e w11 ⟨rfl, b11⟩
      have B11 := hide ((unhide B10).trans (b11.mono (unhide B10).size))
      clear b11 B10
      go_wp2_with fail
      refine (unhide h11 _).mono ?_
      rintro e w12 ⟨rfl, b12⟩
      have B12 := hide ((unhide B11).trans (b12.mono (unhide B11).size))
      clear b12 B11
      go_wp2_with fail
      refine (unhide h12 _).mono ?_
      rintro e w13 ⟨rfl, b13⟩
      have B13 := hide ((unhide B12).trans (b13.mono (unhide B12).size))
      clear b13 B12
      go_wp2_with fail
      refine (unhide h13 _).mono ?_
      rintro e w14 ⟨rfl, b14⟩
      have B14 := hide ((unhide B13).trans (b14.mono (unhide B13).size))
      clear b14 B13
      go_wp2_with fail
      refine (unhide h14 _).mono ?_
      rintro e w15 ⟨rfl, b15⟩
      have B15 := hide ((unhide B14).trans (b15.mono (unhide B14).size))
      clear b15 B14
      go_wp2_with fail
      refine (unhide h15 _).mono ?_
      rintro e w16 ⟨rfl, b16⟩
      have B16 := hide ((unhide B15).trans (b16.mono (unhide B15).size))
      clear b16 B15
      go_wp2
      go_ret
      exact ⟨rfl, unhide B16⟩

end Go.Proofs.Ytfcgbalcdnfmaaa

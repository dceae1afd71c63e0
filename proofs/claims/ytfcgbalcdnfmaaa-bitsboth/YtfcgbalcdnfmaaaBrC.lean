/- Contracts of the document's bits: Rank, Nth, Both. -/
import Derived.Test.YtfcgbalcdnfmaaaBrA
import Derived.Test.YtfcgbalcdnfmaaaBtE
namespace Go.Proofs.Ytfcgbalcdnfmaaa
open Go.RowKit
set_option linter.unusedVariables false

set_option maxHeartbeats 1000000 in
theorem rrank_any (s : By) (i : Int) (w : World) (hs : s.length ≤ 100000) : Calls Try.prog 31 #[.string (bs s), .int .i64 i] w fun e w' => e = .returned (.int .i64 (rankI s i)) ∧ w = w' := by
  have hbs := bs_size s
  have hhas := hide (fun (i : Nat) w (hi : i ≤ 1000000) => rhas_any s i w hs (by omega))
  obtain ⟨M, hM⟩ : ∃ M : Nat, M = min i.toNat (8 * s.length) := ⟨_, rfl⟩
  have hR : rankI s i = rankN s M := by
    unfold rankI
    rcases Nat.le_total i.toNat (8 * s.length) with h | h
    · rw [hM, Nat.min_eq_left h]
    · rw [hM, Nat.min_eq_right h, rankN_out s _ h]
  have hMb : M ≤ 800000 := by omega
  rw [hR]
  have HM : Hid (∀ k : Nat, k < M ↔ ((k : Int) < i ∧ (k : Int) < 8 * (s.length : Int))) := fun k => by constructor <;> intro h <;> omega
  clear hR hM
  generalize hRes : rankN s M = RES
  have HRES := hide hRes
  clear hRes
  go_enter Try.func31, Try.ntmps31
  go_wp2_with fail
  go_loopw [5, 6] (fun v i wr => w = wr ∧ ∃ k : Nat, k ≤ M ∧ i = .int .i64 k ∧ v = .int .i64 (rankN s k)) (fun _ i _ => M - (intOf i).toNat)
  case atStart => exact ⟨rfl, 0, Nat.zero_le _, rfl, rfl⟩
  case round =>
    obtain ⟨rfl, k, hk, rfl, rfl⟩ := hrel
    have hrk := rankN_le s k
    by_cases hlt : k < M
    · obtain ⟨q1, q2⟩ := (unhide HM k).1 hlt
      have hh := hide (fun w => unhide hhas k w (by omega))
      rw [hasI_nat] at hh
      cases hv : bitAt s k with
      | true =>
        rw [hv] at hh
        have e2 := hide (rankN_yes hv)
        generalize rankN s k = rk at *
        clear hv
        go_wp2_with (go_at_call 25; refine (unhide hh _).mono ?_; rintro e w2 ⟨rfl, rfl⟩)
        go_roundw
        case rel => exact ⟨trivial, k + 1, by omega, by go_num, by rw [unhide e2]; go_num⟩
        case measure => simp [intOf]; omega
      | false =>
        rw [hv] at hh
        have e2 := rankN_no hv
        rw [← e2] at hrk ⊢
        generalize hrr : rankN s (k + 1) = rk at *
        have HRR := hide hrr
        clear hv e2 hrr
        go_wp2_with (go_at_call 25; refine (unhide hh _).mono ?_; rintro e w2 ⟨rfl, rfl⟩)
        go_roundw
        case rel => exact ⟨trivial, k + 1, by omega, by go_num, by rw [unhide HRR]⟩
        case measure => simp [intOf]; omega
    · have hke : k = M := by omega
      have hfin : Hid (rankN s k = RES) := by show _ = _; rw [hke]; exact unhide HRES
      have hno := fun h => hlt ((unhide HM k).2 h)
      clear hke
      generalize rankN s k = rk at *
      by_cases hki : (k : Int) < i
      · have q2 : ¬ (k : Int) < 8 * (s.length : Int) := fun h => hno ⟨hki, h⟩
        clear hno
        go_wp2
        go_ret
        exact ⟨by rw [← unhide hfin]; rfl, rfl⟩
      · clear hno
        go_wp2
        go_ret
        exact ⟨by rw [← unhide hfin]; rfl, rfl⟩
set_option maxHeartbeats 1000000 in
theorem rnth_any (s : By) (k : Int) (w : World) (hs : s.length ≤ 100000) : Calls Try.prog 34 #[.string (bs s), .int .i64 k] w fun e w' => e = .returned (.int .i64 (nthI s k)) ∧ w = w' := by
  have hbs := bs_size s
  have hhas := hide (fun (i : Nat) w (hi : i ≤ 1000000) => rhas_any s i w hs (by omega))
  have hrank := hide (fun (i : Nat) w => rrank_any s i w hs)
  have HIS := hide (fun i a b c => nth_is (s := s) (k := k) (i := i) a b c)
  have HNO := hide (fun a => nth_none (s := s) (k := k) a)
  have HP : Hid (∀ i, nthP s k i = (bitAt s i && decide ((rankN s i : Int) = k))) := fun _ => rfl
  generalize nthI s k = E at *
  go_enter Try.func34, Try.ntmps34
  go_wp2_with fail
  go_loopw [5] (fun i wr => w = wr ∧ ∃ q : Nat, q ≤ 8 * s.length ∧ i = .int .i64 q ∧ (∀ j, j < q → nthP s k j = false)) (fun i _ => 8 * s.length - (intOf i).toNat)
  case atStart => exact ⟨rfl, 0, Nat.zero_le _, rfl, fun j hj => by omega⟩
  case round =>
    obtain ⟨rfl, q, hq, rfl, hall⟩ := hrel
    have hrk := rankN_le s q
    by_cases hlt : q < 8 * s.length
    · have q1 : (q : Int) < 8 * (s.length : Int) := by omega
      have hh := hide (fun w => unhide hhas q w (by omega))
      rw [hasI_nat] at hh
      have hr := hide (unhide hrank q)
      unfold rankI at hr
      rw [Int.toNat_natCast] at hr
      cases hv : bitAt s q with
      | false =>
        rw [hv] at hh
        have HA : Hid (∀ j, j < q + 1 → nthP s k j = false) := fun j hj => by
          rcases Nat.lt_succ_iff_lt_or_eq.1 hj with h | rfl
          · exact hall j h
          · rw [unhide HP, hv]; rfl
        clear hv hall
        go_wp2_with (go_at_call 25; refine (unhide hh _).mono ?_; rintro e w2 ⟨rfl, rfl⟩)
        go_roundw
        case rel => exact ⟨trivial, q + 1, by omega, by go_num, unhide HA⟩
        case measure => simp [intOf]; omega
      | true =>
        rw [hv] at hh
        by_cases hk : (rankN s q : Int) = k
        · have hE : E = q := unhide HIS q hlt (by rw [unhide HP, hv, decide_eq_true hk]; rfl) hall
          have HE := hide hE
          rw [hk] at hr
          have q5 : (k == k) = true := by simp
          clear hv hall hk hE hrk
          go_wp2_with (first | (go_at_call 25; refine (unhide hh _).mono ?_; rintro e w2 ⟨rfl, rfl⟩) | (go_at_call 31; refine (unhide hr _).mono ?_; rintro e w2 ⟨rfl, rfl⟩))
          go_ret
          exact ⟨by rw [unhide HE]; rfl, rfl⟩
        · have HA : Hid (∀ j, j < q + 1 → nthP s k j = false) := fun j hj => by
            rcases Nat.lt_succ_iff_lt_or_eq.1 hj with h | rfl
            · exact hall j h
            · rw [unhide HP, decide_eq_false hk, Bool.and_false]
          have q5 : ((rankN s q : Int) == k) = false := by rw [beq_eq_false_iff_ne]; exact hk
          generalize rankN s q = rk at *
          clear hv hall
          go_wp2_with (first | (go_at_call 25; refine (unhide hh _).mono ?_; rintro e w2 ⟨rfl, rfl⟩) | (go_at_call 31; refine (unhide hr _).mono ?_; rintro e w2 ⟨rfl, rfl⟩))
          go_roundw
          case rel => exact ⟨trivial, q + 1, by omega, by go_num, unhide HA⟩
          case measure => simp [intOf]; omega
    · have q1 : ¬ (q : Int) < 8 * (s.length : Int) := by omega
      have hE : E = -1 := unhide HNO (fun j hj => hall j (by omega))
      have HE := hide hE
      clear hall hE
      go_wp2
      go_ret
      exact ⟨by rw [unhide HE]; rfl, rfl⟩

/-- the numbers below k that are so -/
def pickN (p : Nat → Bool) : Nat → List Int
  | 0 => []
  | k + 1 => if p k then pickN p k ++ [(k : Int)] else pickN p k
theorem pickN_yes {p : Nat → Bool} {k : Nat} (h : p k = true) : pickN p (k + 1) = pickN p k ++ [(k : Int)] := by
  show (if p k then _ else _) = _
  rw [if_pos h]
theorem pickN_no {p : Nat → Bool} {k : Nat} (h : p k = false) : pickN p (k + 1) = pickN p k := by
  show (if p k then _ else _) = _
  rw [if_neg (by rw [h]; simp)]
theorem pickN_le (p : Nat → Bool) (k : Nat) : (pickN p k).length ≤ k := by
  induction k with
  | zero => exact Nat.le_refl _
  | succ k ih =>
    cases h : p k
    · rw [pickN_no h]; omega
    · rw [pickN_yes h, List.length_append]; simp; omega
theorem pickN_mem (p : Nat → Bool) (k i : Nat) : ((i : Int) ∈ pickN p k) ↔ i < k ∧ p i = true := by
  induction k with
  | zero => simp [pickN]
  | succ k ih =>
    cases h : p k
    · rw [pickN_no h, ih]
      constructor
      · rintro ⟨h1, h2⟩; exact ⟨by omega, h2⟩
      · rintro ⟨h1, h2⟩
        rcases Nat.lt_succ_iff_lt_or_eq.1 h1 with h' | rfl
        · exact ⟨h', h2⟩
        · rw [h] at h2; cases h2
    · rw [pickN_yes h, List.mem_append, ih]
      simp only [List.mem_singleton]
      constructor
      · rintro (⟨h1, h2⟩ | h')
        · exact ⟨by omega, h2⟩
        · have : i = k := by omega
          subst this; exact ⟨by omega, h⟩
      · rintro ⟨h1, h2⟩
        rcases Nat.lt_succ_iff_lt_or_eq.1 h1 with h' | rfl
        · exact .inl ⟨h', h2⟩
        · exact .inr rfl
theorem both_bits {f : UInt8 → UInt8 → UInt8} {q : Bool → Bool → Bool} (hf : ∀ x y j, j < 8 → bitB (f x y) j = q (bitB x j) (bitB y j)) (a b : By) (h : a.length = b.length) :
    mkL (8 * a.length) (pickN (fun i => q (bitAt a i) (bitAt b i)) (8 * a.length)) = List.zipWith f a b := by
  have hz := zip_len f a b h
  have hw : wid (8 * a.length) = a.length := by unfold wid; omega
  symm
  unfold mkL
  rw [hw]
  apply eq_makeP hz
  intro i hi
  rw [bitAt_in _ _ (by rw [hz]; omega)]
  simp only [List.getElem_zipWith]
  rw [hf _ _ _ (by omega), ← bitAt_in a i (by omega), ← bitAt_in b i (by omega), Bool.eq_iff_iff]
  simp only [Bool.and_eq_true, decide_eq_true_iff, pickN_mem]
  constructor
  · intro h'; exact ⟨hi, hi, h'⟩
  · intro h'; exact h'.2.2

set_option maxRecDepth 100000 in
set_option maxHeartbeats 4000000 in
theorem rbothAnd_any (a b : By) (w : World) (ha : a.length ≤ 100) (hb : b.length ≤ 100) :
    Calls Try.prog 29 #[.string (bs a), .string (bs b), .int .i64 0] w fun e w' => e = .returned (.tuple #[.string (bs (bothR (fun x y => x &&& y) a b)), .int .i64 (bothE a b)]) ∧ Below w.heap.size w w' := by
  have h1 := bs_size a
  have h2 := bs_size b
  unfold bothR bothE
  by_cases h : a.length = b.length
  · rw [if_pos h, if_pos h]
    have hmath := both_bits (f := fun x y => x &&& y) (q := fun x y => x && y) (fun x y j hj => and_bit x y j) a b h
    rw [← hmath]
    have hA := hide (fun (i : Nat) w (hi : i ≤ 1000000) => rhas_any a i w (by omega) (by omega))
    have hB := hide (fun (i : Nat) w (hi : i ≤ 1000000) => rhas_any b i w (by omega) (by omega))
    obtain ⟨p, hp⟩ : ∃ p : Nat → Bool, p = fun i => (fun x y => x && y) (bitAt a i) (bitAt b i) := ⟨_, rfl⟩
    rw [← hp]
    have HP : Hid (∀ i, p i = (fun x y => x && y) (bitAt a i) (bitAt b i)) := fun i => by rw [hp]
    have hmk := hide (fun w a0 c hT => rmake_any (8 * a.length) (pickN p (8 * a.length)) a0 c w hT (by omega) (by have := pickN_le p (8 * a.length); omega))
    generalize hRR : bs (mkL (8 * a.length) (pickN p (8 * a.length))) = R at *
    rw [← h] at h2
    obtain ⟨n, hn⟩ : ∃ n, n = a.length := ⟨_, rfl⟩
    rw [← hn] at h1 h2 ha hmk
    rw [show ((8 * n : Nat) : Int) = 8 * (n : Int) by omega] at hmk
    obtain ⟨i0, hi0, hz0, hz1, hz2⟩ := info_parts Try.infoI
    clear h hb hp hmath hRR hn
    go_enter Try.func29, Try.ntmps29
    go_wp2_with fail
    go_loopw [8, 9] (fun v i wr => ∃ k : Nat, k ≤ 8 * n ∧ i = .int .i64 k ∧ OwnI wr w.heap.size v (pickN p k) ∧ Below w.heap.size w wr) (fun _ i _ => 8 * n - (intOf i).toNat)
    case atStart => exact ⟨0, Nat.zero_le _, rfl, World.ownsRow_nil _ _ _ _, Below.refl _ _⟩
    case round =>
      obtain ⟨k, hk, rfl, hown, hb⟩ := hrel
      obtain ⟨ao, cap, rfl⟩ := own_shape' (show World.ownsRow _ _ _ _ _ _ _ from hown)
      have hfl := pickN_le p k
      have HO := hide hown
      have HB := hide hb
      have hz := hb.size
      clear hown hb
      by_cases hlt : k < 8 * n
      · have q1 : (k : Int) < 8 * (n : Int) := by omega
        have hqa := hide (fun w => unhide hA k w (by omega))
        have hqb := hide (fun w => unhide hB k w (by omega))
        rw [hasI_nat] at hqa hqb
        have hpk := unhide HP k
        cases hX : bitAt a k with
        | true =>
          cases hY : bitAt b k with
          | true =>
            have hpt : p k = true := by rw [hpk, hX, hY]; rfl
            have HN2 := hide (pickN_yes hpt)
            rw [hX] at hqa
            rw [hY] at hqb
            generalize hFF : pickN p k = FF at *
            have HO' : Hid (wr.ownsRow w.heap.size 3 1 (.slice ao FF.length cap) FF.length (ic FF)) := unhide HO
            generalize hfx : FF.length = fl at *
            have HFX := hide hfx
            clear hX hY hpk hpt hfx hFF HO
            go_wp2_with fail
            refine (unhide hqa _).mono ?_
            rintro e w2 ⟨rfl, rfl⟩
            go_wp2_with fail
            refine (unhide hqb _).mono ?_
            rintro e w2 ⟨rfl, rfl⟩
            go_wp2_with (at_builtin; refine wpList_append_own _ rfl _ _ 22 rfl w.heap.size 3 i0 (.int .i64 0) 1 8 Try.undI hi0 hz0 hz1 hz2 rfl (by decide) _ _ _ rfl ((unhide HO').alloc _) ⟨wr.heap.size, 0, none⟩ 1 1 [.int .i64 k] rfl rfl (news_lit _ [_] _) ?d2 ?d3 ?d4 ?d5 ?_)
            case d2 => first | rfl | (intro u hu; simp at hu; subst hu; rfl)
            case d3 => unfold maxLen; omega
            case d4 => omega
            case d5 => first | omega | (simp; omega)
            intro v' w3 hown' hgrow _
            have hb' := hide ((((unhide HB).alloc (by omega) _)).grown hgrow (by simp; omega) (fun k hk => (((unhide HO').lt k hk).1)))
            have ho2 : Hid (OwnI w3 w.heap.size v' (pickN p (k + 1))) := by
              show World.ownsRow _ _ _ _ _ _ _
              rw [unhide HN2, ic_append, List.length_append, unhide HFX]
              exact hown'
            obtain ⟨ao', cap', rfl⟩ := own_shape' hown'
            clear hown' hgrow HO' HB
            go_wp2
            go_roundw
            case rel => exact ⟨k + 1, by omega, by go_num, unhide ho2, unhide hb'⟩
            case measure => simp [intOf]; omega
          | false =>
            have hpt : p k = false := by rw [hpk, hX, hY]; rfl
            have HN2 := hide (pickN_no hpt)
            rw [hX] at hqa
            rw [hY] at hqb
            generalize hFF : pickN p k = FF at *
            generalize FF.length = fl at *
            clear hX hY hpk hpt hFF
            go_wp2_with fail
            refine (unhide hqa _).mono ?_
            rintro e w2 ⟨rfl, rfl⟩
            go_wp2_with fail
            refine (unhide hqb _).mono ?_
            rintro e w2 ⟨rfl, rfl⟩
            go_wp2
            go_roundw
            case rel => exact ⟨k + 1, by omega, by go_num, by rw [unhide HN2]; exact unhide HO, unhide HB⟩
            case measure => simp [intOf]; omega
        | false =>
          cases hY : bitAt b k with
          | true =>
            have hpt : p k = false := by rw [hpk, hX, hY]; rfl
            have HN2 := hide (pickN_no hpt)
            rw [hX] at hqa
            rw [hY] at hqb
            generalize hFF : pickN p k = FF at *
            generalize FF.length = fl at *
            clear hX hY hpk hpt hFF
            go_wp2_with fail
            refine (unhide hqa _).mono ?_
            rintro e w2 ⟨rfl, rfl⟩
            go_wp2_with fail
            refine (unhide hqb _).mono ?_
            rintro e w2 ⟨rfl, rfl⟩
            go_wp2
            go_roundw
            case rel => exact ⟨k + 1, by omega, by go_num, by rw [unhide HN2]; exact unhide HO, unhide HB⟩
            case measure => simp [intOf]; omega
          | false =>
            have hpt : p k = false := by rw [hpk, hX, hY]; rfl
            have HN2 := hide (pickN_no hpt)
            rw [hX] at hqa
            rw [hY] at hqb
            generalize hFF : pickN p k = FF at *
            generalize FF.length = fl at *
            clear hX hY hpk hpt hFF
            go_wp2_with fail
            refine (unhide hqa _).mono ?_
            rintro e w2 ⟨rfl, rfl⟩
            go_wp2_with fail
            refine (unhide hqb _).mono ?_
            rintro e w2 ⟨rfl, rfl⟩
            go_wp2
            go_roundw
            case rel => exact ⟨k + 1, by omega, by go_num, by rw [unhide HN2]; exact unhide HO, unhide HB⟩
            case measure => simp [intOf]; omega
      · have hke : k = 8 * n := by omega
        subst hke
        have q1 : ¬ ((8 * n : Nat) : Int) < 8 * (n : Int) := by omega
        obtain ⟨a2, c2, hv2, hT2, _, _⟩ := (unhide HO).ints
        simp only [Value.slice.injEq] at hv2
        obtain ⟨rfl, hx9, rfl⟩ := hv2
        have hcall := hide (unhide hmk wr _ cap hT2)
        generalize (pickN p (8 * n)).length = fl at *
        clear hx9 hT2
        go_wp2_with fail
        refine (unhide hcall).mono ?_
        rintro e w8 ⟨rfl, b8⟩
        have B8 := hide ((unhide HB).trans (b8.mono (unhide HB).size))
        clear b8 HB
        go_wp2
        go_ret2
        exact ⟨rfl, unhide B8⟩
  · rw [if_neg h, if_neg h]
    have hx : ¬ (a.length : Int) = b.length := by omega
    generalize a.length = n at *
    generalize b.length = m at *
    generalize bs a = A at *
    generalize bs b = B at *
    go_enter Try.func29, Try.ntmps29
    go_wp2
    go_ret2
    exact ⟨rfl, Below.refl _ _⟩

set_option maxRecDepth 100000 in
set_option maxHeartbeats 4000000 in
theorem rbothOr_any (a b : By) (w : World) (ha : a.length ≤ 100) (hb : b.length ≤ 100) :
    Calls Try.prog 29 #[.string (bs a), .string (bs b), .int .i64 1] w fun e w' => e = .returned (.tuple #[.string (bs (bothR (fun x y => x ||| y) a b)), .int .i64 (bothE a b)]) ∧ Below w.heap.size w w' := by
  have h1 := bs_size a
  have h2 := bs_size b
  unfold bothR bothE
  by_cases h : a.length = b.length
  · rw [if_pos h, if_pos h]
    have hmath := both_bits (f := fun x y => x ||| y) (q := fun x y => x || y) (fun x y j hj => or_bit x y j) a b h
    rw [← hmath]
    have hA := hide (fun (i : Nat) w (hi : i ≤ 1000000) => rhas_any a i w (by omega) (by omega))
    have hB := hide (fun (i : Nat) w (hi : i ≤ 1000000) => rhas_any b i w (by omega) (by omega))
    obtain ⟨p, hp⟩ : ∃ p : Nat → Bool, p = fun i => (fun x y => x || y) (bitAt a i) (bitAt b i) := ⟨_, rfl⟩
    rw [← hp]
    have HP : Hid (∀ i, p i = (fun x y => x || y) (bitAt a i) (bitAt b i)) := fun i => by rw [hp]
    have hmk := hide (fun w a0 c hT => rmake_any (8 * a.length) (pickN p (8 * a.length)) a0 c w hT (by omega) (by have := pickN_le p (8 * a.length); omega))
    generalize hRR : bs (mkL (8 * a.length) (pickN p (8 * a.length))) = R at *
    rw [← h] at h2
    obtain ⟨n, hn⟩ : ∃ n, n = a.length := ⟨_, rfl⟩
    rw [← hn] at h1 h2 ha hmk
    rw [show ((8 * n : Nat) : Int) = 8 * (n : Int) by omega] at hmk
    obtain ⟨i0, hi0, hz0, hz1, hz2⟩ := info_parts Try.infoI
    clear h hb hp hmath hRR hn
    go_enter Try.func29, Try.ntmps29
    go_wp2_with fail
    go_loopw [8, 9] (fun v i wr => ∃ k : Nat, k ≤ 8 * n ∧ i = .int .i64 k ∧ OwnI wr w.heap.size v (pickN p k) ∧ Below w.heap.size w wr) (fun _ i _ => 8 * n - (intOf i).toNat)
    case atStart => exact ⟨0, Nat.zero_le _, rfl, World.ownsRow_nil _ _ _ _, Below.refl _ _⟩
    case round =>
      obtain ⟨k, hk, rfl, hown, hb⟩ := hrel
      obtain ⟨ao, cap, rfl⟩ := own_shape' (show World.ownsRow _ _ _ _ _ _ _ from hown)
      have hfl := pickN_le p k
      have HO := hide hown
      have HB := hide hb
      have hz := hb.size
      clear hown hb
      by_cases hlt : k < 8 * n
      · have q1 : (k : Int) < 8 * (n : Int) := by omega
        have hqa := hide (fun w => unhide hA k w (by omega))
        have hqb := hide (fun w => unhide hB k w (by omega))
        rw [hasI_nat] at hqa hqb
        have hpk := unhide HP k
        cases hX : bitAt a k with
        | true =>
          cases hY : bitAt b k with
          | true =>
            have hpt : p k = true := by rw [hpk, hX, hY]; rfl
            have HN2 := hide (pickN_yes hpt)
            rw [hX] at hqa
            rw [hY] at hqb
            generalize hFF : pickN p k = FF at *
            have HO' : Hid (wr.ownsRow w.heap.size 3 1 (.slice ao FF.length cap) FF.length (ic FF)) := unhide HO
            generalize hfx : FF.length = fl at *
            have HFX := hide hfx
            clear hX hY hpk hpt hfx hFF HO
            go_wp2_with fail
            refine (unhide hqa _).mono ?_
            rintro e w2 ⟨rfl, rfl⟩
            go_wp2_with fail
            refine (unhide hqb _).mono ?_
            rintro e w2 ⟨rfl, rfl⟩
            go_wp2_with (at_builtin; refine wpList_append_own _ rfl _ _ 22 rfl w.heap.size 3 i0 (.int .i64 0) 1 8 Try.undI hi0 hz0 hz1 hz2 rfl (by decide) _ _ _ rfl ((unhide HO').alloc _) ⟨wr.heap.size, 0, none⟩ 1 1 [.int .i64 k] rfl rfl (news_lit _ [_] _) ?d2 ?d3 ?d4 ?d5 ?_)
            case d2 => first | rfl | (intro u hu; simp at hu; subst hu; rfl)
            case d3 => unfold maxLen; omega
            case d4 => omega
            case d5 => first | omega | (simp; omega)
            intro v' w3 hown' hgrow _
            have hb' := hide ((((unhide HB).alloc (by omega) _)).grown hgrow (by simp; omega) (fun k hk => (((unhide HO').lt k hk).1)))
            have ho2 : Hid (OwnI w3 w.heap.size v' (pickN p (k + 1))) := by
              show World.ownsRow _ _ _ _ _ _ _
              rw [unhide HN2, ic_append, List.length_append, unhide HFX]
              exact hown'
            obtain ⟨ao', cap', rfl⟩ := own_shape' hown'
            clear hown' hgrow HO' HB
            go_wp2
            go_roundw
            case rel => exact ⟨k + 1, by omega, by go_num, unhide ho2, unhide hb'⟩
            case measure => simp [intOf]; omega
          | false =>
            have hpt : p k = true := by rw [hpk, hX, hY]; rfl
            have HN2 := hide (pickN_yes hpt)
            rw [hX] at hqa
            rw [hY] at hqb
            generalize hFF : pickN p k = FF at *
            have HO' : Hid (wr.ownsRow w.heap.size 3 1 (.slice ao FF.length cap) FF.length (ic FF)) := unhide HO
            generalize hfx : FF.length = fl at *
            have HFX := hide hfx
            clear hX hY hpk hpt hfx hFF HO
            go_wp2_with fail
            refine (unhide hqa _).mono ?_
            rintro e w2 ⟨rfl, rfl⟩
            go_wp2_with fail
            refine (unhide hqb _).mono ?_
            rintro e w2 ⟨rfl, rfl⟩
            go_wp2_with (at_builtin; refine wpList_append_own _ rfl _ _ 22 rfl w.heap.size 3 i0 (.int .i64 0) 1 8 Try.undI hi0 hz0 hz1 hz2 rfl (by decide) _ _ _ rfl ((unhide HO').alloc _) ⟨wr.heap.size, 0, none⟩ 1 1 [.int .i64 k] rfl rfl (news_lit _ [_] _) ?d2 ?d3 ?d4 ?d5 ?_)
            case d2 => first | rfl | (intro u hu; simp at hu; subst hu; rfl)
            case d3 => unfold maxLen; omega
            case d4 => omega
            case d5 => first | omega | (simp; omega)
            intro v' w3 hown' hgrow _
            have hb' := hide ((((unhide HB).alloc (by omega) _)).grown hgrow (by simp; omega) (fun k hk => (((unhide HO').lt k hk).1)))
            have ho2 : Hid (OwnI w3 w.heap.size v' (pickN p (k + 1))) := by
              show World.ownsRow _ _ _ _ _ _ _
              rw [unhide HN2, ic_append, List.length_append, unhide HFX]
              exact hown'
            obtain ⟨ao', cap', rfl⟩ := own_shape' hown'
            clear hown' hgrow HO' HB
            go_wp2
            go_roundw
            case rel => exact ⟨k + 1, by omega, by go_num, unhide ho2, unhide hb'⟩
            case measure => simp [intOf]; omega
        | false =>
          cases hY : bitAt b k with
          | true =>
            have hpt : p k = true := by rw [hpk, hX, hY]; rfl
            have HN2 := hide (pickN_yes hpt)
            rw [hX] at hqa
            rw [hY] at hqb
            generalize hFF : pickN p k = FF at *
            have HO' : Hid (wr.ownsRow w.heap.size 3 1 (.slice ao FF.length cap) FF.length (ic FF)) := unhide HO
            generalize hfx : FF.length = fl at *
            have HFX := hide hfx
            clear hX hY hpk hpt hfx hFF HO
            go_wp2_with fail
            refine (unhide hqa _).mono ?_
            rintro e w2 ⟨rfl, rfl⟩
            go_wp2_with fail
            refine (unhide hqb _).mono ?_
            rintro e w2 ⟨rfl, rfl⟩
            go_wp2_with (at_builtin; refine wpList_append_own _ rfl _ _ 22 rfl w.heap.size 3 i0 (.int .i64 0) 1 8 Try.undI hi0 hz0 hz1 hz2 rfl (by decide) _ _ _ rfl ((unhide HO').alloc _) ⟨wr.heap.size, 0, none⟩ 1 1 [.int .i64 k] rfl rfl (news_lit _ [_] _) ?d2 ?d3 ?d4 ?d5 ?_)
            case d2 => first | rfl | (intro u hu; simp at hu; subst hu; rfl)
            case d3 => unfold maxLen; omega
            case d4 => omega
            case d5 => first | omega | (simp; omega)
            intro v' w3 hown' hgrow _
            have hb' := hide ((((unhide HB).alloc (by omega) _)).grown hgrow (by simp; omega) (fun k hk => (((unhide HO').lt k hk).1)))
            have ho2 : Hid (OwnI w3 w.heap.size v' (pickN p (k + 1))) := by
              show World.ownsRow _ _ _ _ _ _ _
              rw [unhide HN2, ic_append, List.length_append, unhide HFX]
              exact hown'
            obtain ⟨ao', cap', rfl⟩ := own_shape' hown'
            clear hown' hgrow HO' HB
            go_wp2
            go_roundw
            case rel => exact ⟨k + 1, by omega, by go_num, unhide ho2, unhide hb'⟩
            case measure => simp [intOf]; omega
          | false =>
            have hpt : p k = false := by rw [hpk, hX, hY]; rfl
            have HN2 := hide (pickN_no hpt)
            rw [hX] at hqa
            rw [hY] at hqb
            generalize hFF : pickN p k = FF at *
            generalize FF.length = fl at *
            clear hX hY hpk hpt hFF
            go_wp2_with fail
            refine (unhide hqa _).mono ?_
            rintro e w2 ⟨rfl, rfl⟩
            go_wp2_with fail
            refine (unhide hqb _).mono ?_
            rintro e w2 ⟨rfl, rfl⟩
            go_wp2
            go_roundw
            case rel => exact ⟨k + 1, by omega, by go_num, by rw [unhide HN2]; exact unhide HO, unhide HB⟩
            case measure => simp [intOf]; omega
      · have hke : k = 8 * n := by omega
        subst hke
        have q1 : ¬ ((8 * n : Nat) : Int) < 8 * (n : Int) := by omega
        obtain ⟨a2, c2, hv2, hT2, _, _⟩ := (unhide HO).ints
        simp only [Value.slice.injEq] at hv2
        obtain ⟨rfl, hx9, rfl⟩ := hv2
        have hcall := hide (unhide hmk wr _ cap hT2)
        generalize (pickN p (8 * n)).length = fl at *
        clear hx9 hT2
        go_wp2_with fail
        refine (unhide hcall).mono ?_
        rintro e w8 ⟨rfl, b8⟩
        have B8 := hide ((unhide HB).trans (b8.mono (unhide HB).size))
        clear b8 HB
        go_wp2
        go_ret2
        exact ⟨rfl, unhide B8⟩
  · rw [if_neg h, if_neg h]
    have hx : ¬ (a.length : Int) = b.length := by omega
    generalize a.length = n at *
    generalize b.length = m at *
    generalize bs a = A at *
    generalize bs b = B at *
    go_enter Try.func29, Try.ntmps29
    go_wp2
    go_ret2
    exact ⟨rfl, Below.refl _ _⟩

set_option maxRecDepth 100000 in
set_option maxHeartbeats 4000000 in
theorem rbothMinus_any (a b : By) (w : World) (ha : a.length ≤ 100) (hb : b.length ≤ 100) :
    Calls Try.prog 29 #[.string (bs a), .string (bs b), .int .i64 2] w fun e w' => e = .returned (.tuple #[.string (bs (bothR (fun x y => x &&& ~~~y) a b)), .int .i64 (bothE a b)]) ∧ Below w.heap.size w w' := by
  have h1 := bs_size a
  have h2 := bs_size b
  unfold bothR bothE
  by_cases h : a.length = b.length
  · rw [if_pos h, if_pos h]
    have hmath := both_bits (f := fun x y => x &&& ~~~y) (q := fun x y => x && !y) (fun x y j hj => by rw [and_bit, not_bit y j hj]) a b h
    rw [← hmath]
    have hA := hide (fun (i : Nat) w (hi : i ≤ 1000000) => rhas_any a i w (by omega) (by omega))
    have hB := hide (fun (i : Nat) w (hi : i ≤ 1000000) => rhas_any b i w (by omega) (by omega))
    obtain ⟨p, hp⟩ : ∃ p : Nat → Bool, p = fun i => (fun x y => x && !y) (bitAt a i) (bitAt b i) := ⟨_, rfl⟩
    rw [← hp]
    have HP : Hid (∀ i, p i = (fun x y => x && !y) (bitAt a i) (bitAt b i)) := fun i => by rw [hp]
    have hmk := hide (fun w a0 c hT => rmake_any (8 * a.length) (pickN p (8 * a.length)) a0 c w hT (by omega) (by have := pickN_le p (8 * a.length); omega))
    generalize hRR : bs (mkL (8 * a.length) (pickN p (8 * a.length))) = R at *
    rw [← h] at h2
    obtain ⟨n, hn⟩ : ∃ n, n = a.length := ⟨_, rfl⟩
    rw [← hn] at h1 h2 ha hmk
    rw [show ((8 * n : Nat) : Int) = 8 * (n : Int) by omega] at hmk
    obtain ⟨i0, hi0, hz0, hz1, hz2⟩ := info_parts Try.infoI
    clear h hb hp hmath hRR hn
    go_enter Try.func29, Try.ntmps29
    go_wp2_with fail
    go_loopw [8, 9] (fun v i wr => ∃ k : Nat, k ≤ 8 * n ∧ i = .int .i64 k ∧ OwnI wr w.heap.size v (pickN p k) ∧ Below w.heap.size w wr) (fun _ i _ => 8 * n - (intOf i).toNat)
    case atStart => exact ⟨0, Nat.zero_le _, rfl, World.ownsRow_nil _ _ _ _, Below.refl _ _⟩
    case round =>
      obtain ⟨k, hk, rfl, hown, hb⟩ := hrel
      obtain ⟨ao, cap, rfl⟩ := own_shape' (show World.ownsRow _ _ _ _ _ _ _ from hown)
      have hfl := pickN_le p k
      have HO := hide hown
      have HB := hide hb
      have hz := hb.size
      clear hown hb
      by_cases hlt : k < 8 * n
      · have q1 : (k : Int) < 8 * (n : Int) := by omega
        have hqa := hide (fun w => unhide hA k w (by omega))
        have hqb := hide (fun w => unhide hB k w (by omega))
        rw [hasI_nat] at hqa hqb
        have hpk := unhide HP k
        cases hX : bitAt a k with
        | true =>
          cases hY : bitAt b k with
          | true =>
            have hpt : p k = false := by rw [hpk, hX, hY]; rfl
            have HN2 := hide (pickN_no hpt)
            rw [hX] at hqa
            rw [hY] at hqb
            generalize hFF : pickN p k = FF at *
            generalize FF.length = fl at *
            clear hX hY hpk hpt hFF
            go_wp2_with fail
            refine (unhide hqa _).mono ?_
            rintro e w2 ⟨rfl, rfl⟩
            go_wp2_with fail
            refine (unhide hqb _).mono ?_
            rintro e w2 ⟨rfl, rfl⟩
            go_wp2
            go_roundw
            case rel => exact ⟨k + 1, by omega, by go_num, by rw [unhide HN2]; exact unhide HO, unhide HB⟩
            case measure => simp [intOf]; omega
          | false =>
            have hpt : p k = true := by rw [hpk, hX, hY]; rfl
            have HN2 := hide (pickN_yes hpt)
            rw [hX] at hqa
            rw [hY] at hqb
            generalize hFF : pickN p k = FF at *
            have HO' : Hid (wr.ownsRow w.heap.size 3 1 (.slice ao FF.length cap) FF.length (ic FF)) := unhide HO
            generalize hfx : FF.length = fl at *
            have HFX := hide hfx
            clear hX hY hpk hpt hfx hFF HO
            go_wp2_with fail
            refine (unhide hqa _).mono ?_
            rintro e w2 ⟨rfl, rfl⟩
            go_wp2_with fail
            refine (unhide hqb _).mono ?_
            rintro e w2 ⟨rfl, rfl⟩
            go_wp2_with (at_builtin; refine wpList_append_own _ rfl _ _ 22 rfl w.heap.size 3 i0 (.int .i64 0) 1 8 Try.undI hi0 hz0 hz1 hz2 rfl (by decide) _ _ _ rfl ((unhide HO').alloc _) ⟨wr.heap.size, 0, none⟩ 1 1 [.int .i64 k] rfl rfl (news_lit _ [_] _) ?d2 ?d3 ?d4 ?d5 ?_)
            case d2 => first | rfl | (intro u hu; simp at hu; subst hu; rfl)
            case d3 => unfold maxLen; omega
            case d4 => omega
            case d5 => first | omega | (simp; omega)
            intro v' w3 hown' hgrow _
            have hb' := hide ((((unhide HB).alloc (by omega) _)).grown hgrow (by simp; omega) (fun k hk => (((unhide HO').lt k hk).1)))
            have ho2 : Hid (OwnI w3 w.heap.size v' (pickN p (k + 1))) := by
              show World.ownsRow _ _ _ _ _ _ _
              rw [unhide HN2, ic_append, List.length_append, unhide HFX]
              exact hown'
            obtain ⟨ao', cap', rfl⟩ := own_shape' hown'
            clear hown' hgrow HO' HB
            go_wp2
            go_roundw
            case rel => exact ⟨k + 1, by omega, by go_num, unhide ho2, unhide hb'⟩
            case measure => simp [intOf]; omega
        | false =>
          cases hY : bitAt b k with
          | true =>
            have hpt : p k = false := by rw [hpk, hX, hY]; rfl
            have HN2 := hide (pickN_no hpt)
            rw [hX] at hqa
            rw [hY] at hqb
            generalize hFF : pickN p k = FF at *
            generalize FF.length = fl at *
            clear hX hY hpk hpt hFF
            go_wp2_with fail
            refine (unhide hqa _).mono ?_
            rintro e w2 ⟨rfl, rfl⟩
            go_wp2_with fail
            refine (unhide hqb _).mono ?_
            rintro e w2 ⟨rfl, rfl⟩
            go_wp2
            go_roundw
            case rel => exact ⟨k + 1, by omega, by go_num, by rw [unhide HN2]; exact unhide HO, unhide HB⟩
            case measure => simp [intOf]; omega
          | false =>
            have hpt : p k = false := by rw [hpk, hX, hY]; rfl
            have HN2 := hide (pickN_no hpt)
            rw [hX] at hqa
            rw [hY] at hqb
            generalize hFF : pickN p k = FF at *
            generalize FF.length = fl at *
            clear hX hY hpk hpt hFF
            go_wp2_with fail
            refine (unhide hqa _).mono ?_
            rintro e w2 ⟨rfl, rfl⟩
            go_wp2_with fail
            refine (unhide hqb _).mono ?_
            rintro e w2 ⟨rfl, rfl⟩
            go_wp2
            go_roundw
            case rel => exact ⟨k + 1, by omega, by go_num, by rw [unhide HN2]; exact unhide HO, unhide HB⟩
            case measure => simp [intOf]; omega
      · have hke : k = 8 * n := by omega
        subst hke
        have q1 : ¬ ((8 * n : Nat) : Int) < 8 * (n : Int) := by omega
        obtain ⟨a2, c2, hv2, hT2, _, _⟩ := (unhide HO).ints
        simp only [Value.slice.injEq] at hv2
        obtain ⟨rfl, hx9, rfl⟩ := hv2
        have hcall := hide (unhide hmk wr _ cap hT2)
        generalize (pickN p (8 * n)).length = fl at *
        clear hx9 hT2
        go_wp2_with fail
        refine (unhide hcall).mono ?_
        rintro e w8 ⟨rfl, b8⟩
        have B8 := hide ((unhide HB).trans (b8.mono (unhide HB).size))
        clear b8 HB
        go_wp2
        go_ret2
        exact ⟨rfl, unhide B8⟩
  · rw [if_neg h, if_neg h]
    have hx : ¬ (a.length : Int) = b.length := by omega
    generalize a.length = n at *
    generalize b.length = m at *
    generalize bs a = A at *
    generalize bs b = B at *
    go_enter Try.func29, Try.ntmps29
    go_wp2
    go_ret2
    exact ⟨rfl, Below.refl _ _⟩

end Go.Proofs.Ytfcgbalcdnfmaaa

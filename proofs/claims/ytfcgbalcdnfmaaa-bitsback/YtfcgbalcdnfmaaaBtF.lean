/- Contracts of bits' List, Rank, Count and Nth. -/
import Derived.Test.YtfcgbalcdnfmaaaBtC
namespace Go.Proofs.Ytfcgbalcdnfmaaa
open Go.RowKit
set_option linter.unusedVariables false

theorem listN_yes {s : By} {k : Nat} (h : bitAt s k = true) : listN s (k + 1) = listN s k ++ [(k : Int)] := by
  show (if bitAt s k then _ else _) = _
  rw [if_pos h]
theorem listN_no {s : By} {k : Nat} (h : bitAt s k = false) : listN s (k + 1) = listN s k := by
  show (if bitAt s k then _ else _) = _
  rw [if_neg (by rw [h]; simp)]
theorem rankN_yes {s : By} {k : Nat} (h : bitAt s k = true) : rankN s (k + 1) = rankN s k + 1 := by
  show rankN s k + (if bitAt s k then 1 else 0) = _
  rw [if_pos h]
theorem rankN_no {s : By} {k : Nat} (h : bitAt s k = false) : rankN s (k + 1) = rankN s k := by
  show rankN s k + (if bitAt s k then 1 else 0) = _
  rw [if_neg (by rw [h]; simp)]
  rfl
theorem own_below2 {w w' : World} {base n size : Nat} {e : TypeId} {v : Value} {xs : List Value} (h : w.ownsRow base e size v n xs) (hb : Below w.heap.size w w') : w'.ownsRow base e size v n xs := by
  refine ⟨h.1, ?_⟩
  rcases h.2 with h2 | ⟨g, cap, cur, hv, hg, hh, r⟩
  · exact .inl h2
  · exact .inr ⟨g, cap, cur, hv, hg, (hb.block g (lt_of_block hh)).trans hh, r⟩
def listE (n : Int) (s : By) : Int := if chkI n s = true then 0 else 3
def listR (n : Int) (s : By) : List Int := if chkI n s = true then listN s n.toNat else []
set_option maxHeartbeats 1000000 in
theorem list_any (n : Int) (s : By) (w : World) (hs : s.length ≤ maxLen) : Calls Try.prog 12 #[.int .i64 n, .string (bs s)] w fun e w' => ∃ v, e = .returned (.tuple #[v, .int .i64 (listE n s)]) ∧ OwnI w' w.heap.size v (listR n s) ∧ Below w.heap.size w w' := by
  have hc := hide (fun w => check_any n s w hs)
  unfold listE listR
  cases hC : chkI n s with
  | false =>
    rw [hC] at hc
    rw [if_neg (by simp), if_neg (by simp)]
    generalize bs s = S at *
    clear hC
    go_enter Try.func12, Try.ntmps12
    go_wp2_with fail
    refine (unhide hc _).mono ?_
    rintro e w1 ⟨rfl, b1⟩
    have B1 := hide b1
    clear b1
    go_wp2
    go_ret2
    exact ⟨_, rfl, World.ownsRow_nil _ _ _ _, unhide B1⟩
  | true =>
    rw [hC] at hc
    rw [if_pos rfl, if_pos rfl]
    have h0 : 0 ≤ n := by
      unfold chkI at hC
      rw [Bool.and_eq_true, decide_eq_true_iff] at hC
      exact hC.1
    obtain ⟨m, rfl⟩ : ∃ m : Nat, n = m := ⟨n.toNat, by omega⟩
    rw [chkI_nat] at hC
    obtain ⟨c1, c2, c3⟩ := chk_iff.1 hC
    have hW := wid_le20 m c1
    rw [Int.toNat_natCast]
    have hhas := hide (fun (i : Nat) w => has_any s i w (by omega))
    obtain ⟨i0, hi, hz0, hz1, hz2⟩ := info_parts Try.infoI
    clear hC c2 c3 hs
    go_enter Try.func12, Try.ntmps12
    go_wp2_with fail
    refine (unhide hc _).mono ?_
    rintro e w1 ⟨rfl, b1⟩
    have B1 := hide b1
    clear b1
    go_wp2
    go_loopw [6, 13] (fun v i wr => ∃ k : Nat, k ≤ m ∧ i = .int .i64 k ∧ wr.ownsRow w.heap.size 3 1 v (rankN s k) (ic (listN s k)) ∧ Below w.heap.size w wr) (fun _ i _ => m - (intOf i).toNat)
    case atStart => exact ⟨0, Nat.zero_le _, rfl, World.ownsRow_nil _ _ _ _, unhide B1⟩
    case round =>
      clear B1
      obtain ⟨k, hk, rfl, hown, hb⟩ := hrel
      obtain ⟨ao, cap, rfl⟩ := own_shape' hown
      have HO := hide hown
      have HB := hide hb
      have hz := hb.size
      have hrk := rankN_le s k
      clear hown hb
      by_cases hlt : k < m
      · have q1 : (k : Int) < m := by omega
        have hq := hide (unhide hhas k)
        rw [hasI_nat] at hq
        cases hv : bitAt s k with
        | true =>
          rw [hv] at hq
          have e1 := hide (listN_yes hv)
          have e2 := hide (rankN_yes hv)
          generalize rankN s k = rk at *
          clear hv
          go_wp2_with fail
          refine (unhide hq _).mono ?_
          rintro e w2 ⟨rfl, b2⟩
          have HO2 := hide (own_below2 (unhide HO) b2)
          have HB2 := hide ((unhide HB).trans (b2.mono hz))
          have hz2' := (unhide HB2).size
          clear b2 HO HB
          go_wp2_with (at_builtin; refine wpList_append_own _ rfl _ _ 22 rfl w.heap.size 3 i0 (.int .i64 0) 1 8 Try.undI hi hz0 hz1 hz2 rfl (by decide) _ _ _ rfl ((unhide HO2).alloc _) ⟨w2.heap.size, 0, none⟩ 1 1 [.int .i64 k] rfl rfl (news_lit _ [_] _) ?d2 ?d3 ?d4 ?d5 ?_)
          case d2 => first | rfl | (intro u hu; simp at hu; subst hu; rfl)
          case d3 => unfold maxLen; omega
          case d4 => omega
          case d5 => first | omega | (simp; omega)
          intro v' w3 hown' hgrow _
          have hb' := hide ((((unhide HB2).alloc (by omega) _)).grown hgrow (by simp; omega) (fun k hk => (((unhide HO2).lt k hk).1)))
          have ho2 : Hid (w3.ownsRow w.heap.size 3 1 v' (rankN s (k + 1)) (ic (listN s (k + 1)))) := by
            show World.ownsRow _ _ _ _ _ _ _
            rw [unhide e1, unhide e2, ic_append]
            exact hown'
          obtain ⟨ao', cap', rfl⟩ := own_shape' hown'
          clear hown' hgrow HO2 HB2
          go_wp2
          go_roundw
          case rel => exact ⟨k + 1, by omega, by go_num, unhide ho2, unhide hb'⟩
          case measure => simp [intOf]; omega
        | false =>
          rw [hv] at hq
          have e1 := listN_no hv
          have e2 := rankN_no hv
          rw [← e1, ← e2] at HO
          rw [← e2] at hrk ⊢
          generalize hrr : rankN s (k + 1) = rk at *
          have HRR := hide hrr
          clear hv e1 e2 hrr
          go_wp2_with fail
          refine (unhide hq _).mono ?_
          rintro e w2 ⟨rfl, b2⟩
          have HO2 := hide (own_below2 (unhide HO) b2)
          have HB2 := hide ((unhide HB).trans (b2.mono hz))
          clear b2 HO HB
          go_wp2
          go_roundw
          case rel => exact ⟨k + 1, by omega, by go_num, by rw [unhide HRR]; exact unhide HO2, unhide HB2⟩
          case measure => simp [intOf]; omega
      · have hke : k = m := by omega
        subst hke
        have q1 : ¬ (k : Int) < k := by omega
        have ho2 : Hid (OwnI wr w.heap.size (.slice ao (rankN s k) cap) (listN s k)) := by
          show World.ownsRow _ _ _ _ _ _ _
          rw [listN_length]
          exact unhide HO
        generalize rankN s k = rk at *
        clear HO
        go_wp2
        go_ret2
        exact ⟨_, rfl, unhide ho2, unhide HB⟩

theorem rankN_out (s : By) (k : Nat) (h : 8 * s.length ≤ k) : rankN s k = rankN s (8 * s.length) := by
  induction k with
  | zero => have : 8 * s.length = 0 := by omega
            rw [this]
  | succ k ih =>
    rcases Nat.lt_or_ge k (8 * s.length) with h' | h'
    · have : k + 1 = 8 * s.length := by omega
      rw [this]
    · conv => lhs; unfold rankN
      rw [bitAt_out s k (by omega), ih h']
      rfl
def rankI (s : By) (i : Int) : Nat := rankN s i.toNat
set_option maxHeartbeats 1000000 in
theorem rank_any (s : By) (i : Int) (w : World) (hs : s.length ≤ 100000) : Calls Try.prog 32 #[.string (bs s), .int .i64 i] w fun e w' => e = .returned (.int .i64 (rankI s i)) ∧ Below w.heap.size w w' := by
  have hbs := bs_size s
  have hhas := hide (fun (i : Nat) w => has_any s i w hs)
  obtain ⟨M, hM⟩ : ∃ M : Nat, M = min i.toNat (8 * s.length) := ⟨_, rfl⟩
  have hR : rankI s i = rankN s M := by
    unfold rankI
    rcases Nat.le_total i.toNat (8 * s.length) with h | h
    · rw [hM, Nat.min_eq_left h]
    · rw [hM, Nat.min_eq_right h, rankN_out s _ h]
  have hmin : (if i ≤ (s.length : Int) * 8 then i else (s.length : Int) * 8) ≤ M ∧ (0 ≤ i → (M : Int) = if i ≤ (s.length : Int) * 8 then i else (s.length : Int) * 8) := by
    constructor
    · split <;> omega
    · intro h0; split <;> omega
  have hMb : M ≤ 800000 := by omega
  rw [hR]
  have HM := hide hM
  clear hR hM hmin
  generalize hRes : rankN s M = RES
  have HRES := hide hRes
  clear hRes
  by_cases hc : i ≤ (s.length : Int) * 8
  · have hT : Hid (∀ k : Nat, k < M ↔ (k : Int) < i) := fun k => by
      have := unhide HM
      constructor
      · intro h; omega
      · intro h; omega
    go_enter Try.func32, Try.ntmps32
    go_wp2_with fail
    go_loopw [5, 12] (fun v i wr => ∃ k : Nat, k ≤ M ∧ i = .int .i64 k ∧ v = .int .i64 (rankN s k) ∧ Below w.heap.size w wr) (fun _ i _ => M - (intOf i).toNat)
    case atStart => exact ⟨0, Nat.zero_le _, rfl, rfl, Below.refl _ _⟩
    case round =>
      obtain ⟨k, hk, rfl, rfl, hb⟩ := hrel
      have HB := hide hb
      have hrk := rankN_le s k
      by_cases hlt : k < M
      · have q1 := (unhide hT k).1 hlt
        have hh := hide (unhide hhas k)
        rw [hasI_nat] at hh
        cases hv : bitAt s k with
        | true =>
          rw [hv] at hh
          have e2 := hide (rankN_yes hv)
          generalize rankN s k = rk at *
          clear hv hb
          go_wp2_with fail
          refine (unhide hh _).mono ?_
          rintro e w2 ⟨rfl, b2⟩
          have HB2 := hide ((unhide HB).trans (b2.mono (unhide HB).size))
          clear b2 HB
          go_wp2
          go_roundw
          case rel => exact ⟨k + 1, by omega, by go_num, by rw [unhide e2]; go_num, unhide HB2⟩
          case measure => simp [intOf]; omega
        | false =>
          rw [hv] at hh
          have e2 := rankN_no hv
          rw [← e2] at hrk ⊢
          generalize hrr : rankN s (k + 1) = rk at *
          have HRR := hide hrr
          clear hv e2 hrr hb
          go_wp2_with fail
          refine (unhide hh _).mono ?_
          rintro e w2 ⟨rfl, b2⟩
          have HB2 := hide ((unhide HB).trans (b2.mono (unhide HB).size))
          clear b2 HB
          go_wp2
          go_roundw
          case rel => exact ⟨k + 1, by omega, by go_num, by rw [unhide HRR], unhide HB2⟩
          case measure => simp [intOf]; omega
      · have q1 := fun h => hlt ((unhide hT k).2 h)
        have hke : k = M := by omega
        have hfin : Hid (rankN s k = RES) := by show _ = _; rw [hke]; exact unhide HRES
        clear hke
        generalize rankN s k = rk at *
        clear hb
        go_wp2
        go_ret
        exact ⟨by rw [← unhide hfin]; rfl, unhide HB⟩
  · have hT : Hid (∀ k : Nat, k < M ↔ (k : Int) < (s.length : Int) * 8) := fun k => by
      have := unhide HM
      constructor
      · intro h; omega
      · intro h; omega
    have hc' : (s.length : Int) * 8 < i := by omega
    go_enter Try.func32, Try.ntmps32
    go_wp2_with fail
    go_loopw [5, 12] (fun v i wr => ∃ k : Nat, k ≤ M ∧ i = .int .i64 k ∧ v = .int .i64 (rankN s k) ∧ Below w.heap.size w wr) (fun _ i _ => M - (intOf i).toNat)
    case atStart => exact ⟨0, Nat.zero_le _, rfl, rfl, Below.refl _ _⟩
    case round =>
      obtain ⟨k, hk, rfl, rfl, hb⟩ := hrel
      have HB := hide hb
      have hrk := rankN_le s k
      by_cases hlt : k < M
      · have q1 := (unhide hT k).1 hlt
        have hh := hide (unhide hhas k)
        rw [hasI_nat] at hh
        cases hv : bitAt s k with
        | true =>
          rw [hv] at hh
          have e2 := hide (rankN_yes hv)
          generalize rankN s k = rk at *
          clear hv hb
          go_wp2_with fail
          refine (unhide hh _).mono ?_
          rintro e w2 ⟨rfl, b2⟩
          have HB2 := hide ((unhide HB).trans (b2.mono (unhide HB).size))
          clear b2 HB
          go_wp2
          go_roundw
          case rel => exact ⟨k + 1, by omega, by go_num, by rw [unhide e2]; go_num, unhide HB2⟩
          case measure => simp [intOf]; omega
        | false =>
          rw [hv] at hh
          have e2 := rankN_no hv
          rw [← e2] at hrk ⊢
          generalize hrr : rankN s (k + 1) = rk at *
          have HRR := hide hrr
          clear hv e2 hrr hb
          go_wp2_with fail
          refine (unhide hh _).mono ?_
          rintro e w2 ⟨rfl, b2⟩
          have HB2 := hide ((unhide HB).trans (b2.mono (unhide HB).size))
          clear b2 HB
          go_wp2
          go_roundw
          case rel => exact ⟨k + 1, by omega, by go_num, by rw [unhide HRR], unhide HB2⟩
          case measure => simp [intOf]; omega
      · have q1 := fun h => hlt ((unhide hT k).2 h)
        have hke : k = M := by omega
        have hfin : Hid (rankN s k = RES) := by show _ = _; rw [hke]; exact unhide HRES
        clear hke
        generalize rankN s k = rk at *
        clear hb
        go_wp2
        go_ret
        exact ⟨by rw [← unhide hfin]; rfl, unhide HB⟩
theorem count_any (s : By) (w : World) (hs : s.length ≤ 100000) : Calls Try.prog 30 #[.string (bs s)] w fun e w' => e = .returned (.int .i64 (rankN s (8 * s.length))) ∧ Below w.heap.size w w' := by
  have h := hide (fun w => rank_any s ((s.length : Int) * 8) w hs)
  have hbs := bs_size s
  unfold rankI at h
  rw [show ((s.length : Int) * 8).toNat = 8 * s.length by omega] at h
  generalize rankN s (8 * s.length) = R at *
  generalize s.length = n at *
  generalize bs s = S at *
  go_enter Try.func30, Try.ntmps30
  go_wp2_with fail
  refine (unhide h _).mono ?_
  rintro e w1 ⟨rfl, b1⟩
  have B1 := hide b1
  clear b1
  go_wp2
  go_ret
  exact ⟨rfl, unhide B1⟩

/-- the k-th bit that is 1, or -1 -/
def nthP (s : By) (k : Int) (i : Nat) : Bool := bitAt s i && decide ((rankN s i : Int) = k)
def nthI (s : By) (k : Int) : Int := match (List.range (8 * s.length)).find? (nthP s k) with | some i => i | none => -1
theorem nth_is {s : By} {k : Int} {i : Nat} (hi : i < 8 * s.length) (hp : nthP s k i = true) (hno : ∀ j, j < i → nthP s k j = false) : nthI s k = i := by
  unfold nthI
  have : (List.range (8 * s.length)).find? (nthP s k) = some i := by
    rw [List.find?_range_eq_some]
    exact ⟨hp, by simpa using hi, fun j hj => by rw [hno j hj]; rfl⟩
  rw [this]
theorem nth_none {s : By} {k : Int} (hno : ∀ j, j < 8 * s.length → nthP s k j = false) : nthI s k = -1 := by
  unfold nthI
  have : (List.range (8 * s.length)).find? (nthP s k) = none := by
    rw [List.find?_eq_none]
    intro j hj
    rw [hno j (List.mem_range.1 hj)]
    simp
  rw [this]
set_option maxHeartbeats 1000000 in
theorem nth_any (s : By) (k : Int) (w : World) (hs : s.length ≤ 100000) : Calls Try.prog 33 #[.string (bs s), .int .i64 k] w fun e w' => e = .returned (.int .i64 (nthI s k)) ∧ Below w.heap.size w w' := by
  have hbs := bs_size s
  have hhas := hide (fun (i : Nat) w => has_any s i w hs)
  have HIS := hide (fun i a b c => nth_is (s := s) (k := k) (i := i) a b c)
  have HNO := hide (fun a => nth_none (s := s) (k := k) a)
  have HP : Hid (∀ i, nthP s k i = (bitAt s i && decide ((rankN s i : Int) = k))) := fun _ => rfl
  generalize nthI s k = E at *
  go_enter Try.func33, Try.ntmps33
  go_wp2_with fail
  go_loopw [5, 10] (fun v i wr => ∃ q : Nat, q ≤ 8 * s.length ∧ i = .int .i64 q ∧ v = .int .i64 (rankN s q) ∧ (∀ j, j < q → nthP s k j = false) ∧ Below w.heap.size w wr) (fun _ i _ => 8 * s.length - (intOf i).toNat)
  case atStart => exact ⟨0, Nat.zero_le _, rfl, rfl, fun j hj => by omega, Below.refl _ _⟩
  case round =>
    obtain ⟨q, hq, rfl, rfl, hall, hb⟩ := hrel
    have HB := hide hb
    have hrk := rankN_le s q
    by_cases hlt : q < 8 * s.length
    · have q1 : (q : Int) < (s.length : Int) * 8 := by omega
      have hh := hide (unhide hhas q)
      rw [hasI_nat] at hh
      cases hv : bitAt s q with
      | false =>
        rw [hv] at hh
        have e2 := rankN_no hv
        have HA : Hid (∀ j, j < q + 1 → nthP s k j = false) := fun j hj => by
          rcases Nat.lt_succ_iff_lt_or_eq.1 hj with h | rfl
          · exact hall j h
          · rw [unhide HP, hv]; rfl
        rw [← e2] at hrk ⊢
        generalize hrr : rankN s (q + 1) = rk at *
        have HRR := hide hrr
        clear hv e2 hrr hall hb
        go_wp2_with fail
        refine (unhide hh _).mono ?_
        rintro e w2 ⟨rfl, b2⟩
        have HB2 := hide ((unhide HB).trans (b2.mono (unhide HB).size))
        clear b2 HB
        go_wp2
        go_roundw
        case rel => exact ⟨q + 1, by omega, by go_num, by rw [unhide HRR], unhide HA, unhide HB2⟩
        case measure => simp [intOf]; omega
      | true =>
        rw [hv] at hh
        have e2 := hide (rankN_yes hv)
        by_cases hk : (rankN s q : Int) = k
        · have hE : E = q := unhide HIS q hlt (by rw [unhide HP, hv, decide_eq_true hk]; rfl) hall
          have HE := hide hE
          have q5 : ((rankN s q : Int) == k) = true := by simp [hk]
          generalize rankN s q = rk at *
          clear hv hall hb hk hE
          go_wp2_with fail
          refine (unhide hh _).mono ?_
          rintro e w2 ⟨rfl, b2⟩
          have HB2 := hide ((unhide HB).trans (b2.mono (unhide HB).size))
          clear b2 HB
          go_wp2
          go_ret
          exact ⟨by rw [unhide HE]; rfl, unhide HB2⟩
        · have HA : Hid (∀ j, j < q + 1 → nthP s k j = false) := fun j hj => by
            rcases Nat.lt_succ_iff_lt_or_eq.1 hj with h | rfl
            · exact hall j h
            · rw [unhide HP, decide_eq_false hk, Bool.and_false]
          have q5 : ((rankN s q : Int) == k) = false := by rw [beq_eq_false_iff_ne]; exact hk
          generalize rankN s q = rk at *
          clear hv hall hb
          go_wp2_with fail
          refine (unhide hh _).mono ?_
          rintro e w2 ⟨rfl, b2⟩
          have HB2 := hide ((unhide HB).trans (b2.mono (unhide HB).size))
          clear b2 HB
          go_wp2
          go_roundw
          case rel => exact ⟨q + 1, by omega, by go_num, by rw [unhide e2]; go_num, unhide HA, unhide HB2⟩
          case measure => simp [intOf]; omega
    · have q1 : ¬ (q : Int) < (s.length : Int) * 8 := by omega
      have hE : E = -1 := unhide HNO (fun j hj => hall j (by omega))
      have HE := hide hE
      generalize rankN s q = rk at *
      clear hall hb hE
      go_wp2
      go_ret
      exact ⟨by rw [unhide HE]; rfl, unhide HB⟩

end Go.Proofs.Ytfcgbalcdnfmaaa

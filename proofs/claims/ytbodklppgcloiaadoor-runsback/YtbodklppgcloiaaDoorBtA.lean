/- Contracts of bits' small functions: isBelow, mask, Has, isBound, width, Check, Empty. -/
import Derived.Test.YtbodklppgcloiaaDoorBitP
import Derived.Test.YtbodklppgcloiaaDoorBrow
import Derived.Deep.QuietTactic
namespace Go.Proofs.YtbodklppgcloiaaDoor
open Go.RowKit
set_option linter.unusedVariables false

def lowB (i n : Int) : Bool := decide (0 ≤ i ∧ i < n)
theorem isBelow_any (i n : Int) (w : World) : Calls Tryd.prog 81 #[.int .i64 i, .int .i64 n] w fun e w' => e = .returned (.bool (lowB i n)) ∧ w = w' := by
  unfold lowB
  by_cases h1 : 0 ≤ i
  · by_cases h2 : i < n
    · rw [decide_eq_true ⟨h1, h2⟩]
      go_enter Tryd.func81, Tryd.ntmps81
      go_wp2
      go_ret
      exact ⟨rfl, rfl⟩
    · rw [decide_eq_false (fun h => h2 h.2)]
      go_enter Tryd.func81, Tryd.ntmps81
      go_wp2
      go_ret
      exact ⟨rfl, rfl⟩
  · rw [decide_eq_false (fun h => h1 h.1)]
    go_enter Tryd.func81, Tryd.ntmps81
    go_wp2
    go_ret
    exact ⟨rfl, rfl⟩
theorem mask_any (i : Nat) (w : World) : Calls Tryd.prog 57 #[.int .i64 i] w fun e w' => e = .returned (.int .u8 (maskB i).toNat) ∧ w = w' := by
  rw [maskB_nat]
  have h1 : (i : Int).tmod 8 = ((i % 8 : Nat) : Int) := by rw [Int.tmod_eq_emod_of_nonneg (by omega)]; omega
  have h2 : i % 8 < 8 := Nat.mod_lt _ (by omega)
  have h3 : (i : Int) % 8 = ((i % 8 : Nat) : Int) := by omega
  generalize i % 8 = r at *
  match r, h2 with
  | 0, _ | 1, _ | 2, _ | 3, _ | 4, _ | 5, _ | 6, _ | 7, _ =>
    go_enter Tryd.func57, Tryd.ntmps57
    go_wp2
    go_ret
    exact ⟨rfl, rfl⟩

theorem has_any (s : By) (i : Int) (w : World) (hs : s.length ≤ 100000) : Calls Tryd.prog 54 #[.string (bs s), .int .i64 i] w fun e w' => e = .returned (.bool (hasI s i)) ∧ Below w.heap.size w w' := by
  have hbs := bs_size s
  have hlow := hide (isBelow_any i (s.length * 8 : Int))
  by_cases h : 0 ≤ i ∧ i < (s.length : Int) * 8
  · obtain ⟨m, rfl⟩ : ∃ m : Nat, i = m := ⟨i.toNat, by omega⟩
    unfold lowB at hlow
    rw [decide_eq_true h] at hlow
    have hm : m / 8 < s.length := by omega
    have hE : hasI s m = bitB s[m / 8] (m % 8) := by
      unfold hasI
      rw [decide_eq_true (by omega), Bool.true_and, Int.toNat_natCast, bitAt_in s m hm]
    have hix := run_index_bs (P := Tryd.prog) 9 s (m / 8) hm (by kernel_rfl)
    have hmask := hide (mask_any m)
    have hd : (m : Int).tdiv 8 = ((m / 8 : Nat) : Int) := by rw [Int.tdiv_eq_ediv_of_nonneg (by omega)]; omega
    have hd2 : (m : Int) / 8 = ((m / 8 : Nat) : Int) := by omega
    have hX := and8 s[m / 8] (maskB m)
    have hb := has_bit s[m / 8] m
    have hbi : (m : Int) < (s.length : Int) * 8 := h.2
    generalize s[m / 8] = x at *
    generalize m / 8 = d at *
    rw [hE]
    generalize (maskB m).toNat = mk at *
    have hv : bitB x (m % 8) = !((((x &&& maskB m).toNat : Nat) : Int) == 0) := by
      cases hq : bitB x (m % 8)
      · rw [hb.2 hq]; rfl
      · have : ¬ (x &&& maskB m).toNat = 0 := fun h0 => by
          have := hb.1 (UInt8.toNat_inj.1 (by rw [h0]; rfl))
          rw [this] at hq; cases hq
        have h2 : ((((x &&& maskB m).toNat : Nat) : Int) == 0) = false := by rw [beq_eq_false_iff_ne]; omega
        rw [h2]; rfl
    rw [hv]
    generalize (x &&& maskB m).toNat = y at *
    generalize x.toNat = xn at *
    generalize hsl : s.length = sl at *
    generalize bs s = S at *
    clear hsl hb hE hm h hv
    go_enter Tryd.func54, Tryd.ntmps54
    go_wp2_with fail
    have hne := gb_ne w
    refine wp_region_gr (fun x => Below w.heap.size w x) (by kernel_rfl) (by kernel_rfl) (gb_start w) ?_
    repeat (go_big_quiet_step ((first | (go_at_call 81; exact gb_same (unhide hlow _)) | (go_at_call 57; exact gb_same (unhide hmask _)))))
    refine wpQuiet_nil ?_
    rintro w7 ⟨⟨_, b7⟩, rfl⟩
    have B7 := hide b7
    clear b7 hne
    go_wp2
    go_ret
    exact ⟨rfl, unhide B7⟩
  · unfold lowB at hlow
    rw [decide_eq_false h] at hlow
    have hE : hasI s i = false := by
      unfold hasI
      by_cases h0 : 0 ≤ i
      · rw [bitAt_out s i.toNat (by omega), Bool.and_false]
      · rw [decide_eq_false h0, Bool.false_and]
    rw [hE]
    generalize hsl : s.length = sl at *
    generalize bs s = S at *
    clear hsl hE h
    go_enter Tryd.func54, Tryd.ntmps54
    go_wp2_with fail
    have hne := gb_ne w
    refine wp_region_gr (fun x => Below w.heap.size w x) (by kernel_rfl) (by kernel_rfl) (gb_start w) ?_
    repeat (go_big_quiet_step ((go_at_call 81; exact gb_same (unhide hlow _))))
    refine wpQuiet_nil ?_
    rintro w7 ⟨⟨_, b7⟩, rfl⟩
    have B7 := hide b7
    clear b7 hne
    go_wp2
    go_ret
    exact ⟨rfl, unhide B7⟩

theorem isBound_any (n : Int) (w : World) : Calls Tryd.prog 52 #[.int .i64 n] w fun e w' => e = .returned (.bool (lowB n 161)) ∧ w = w' := by
  have h := hide (isBelow_any n 161)
  go_enter Tryd.func52, Tryd.ntmps52
  go_wp2_with fail
  refine (unhide h _).mono ?_
  rintro e w1 ⟨rfl, rfl⟩
  go_wp2
  go_ret
  exact ⟨rfl, rfl⟩
theorem width_any (n : Nat) (w : World) (hn : n ≤ 100000) : Calls Tryd.prog 53 #[.int .i64 n] w fun e w' => e = .returned (.int .i64 (wid n)) ∧ w = w' := by
  have h1 : ((n : Int) + 8 - 1).tdiv 8 = (wid n : Int) := by rw [Int.tdiv_eq_ediv_of_nonneg (by omega)]; unfold wid; omega
  have h2 : ((n : Int) + 8 - 1) / 8 = (wid n : Int) := by unfold wid; omega
  have h3 : ((n : Int) + 7) / 8 = (wid n : Int) := by unfold wid; omega
  have h4 : ((n : Int) + 7).tdiv 8 = (wid n : Int) := by rw [Int.tdiv_eq_ediv_of_nonneg (by omega)]; unfold wid; omega
  generalize wid n = W at *
  go_enter Tryd.func53, Tryd.ntmps53
  go_wp2
  go_ret
  exact ⟨rfl, rfl⟩

theorem wid_le20 (n : Nat) (h : n ≤ 160) : wid n ≤ 20 := by unfold wid; omega
theorem hasI_nat (s : By) (i : Nat) : hasI s i = bitAt s i := by unfold hasI; rw [decide_eq_true (by omega), Bool.true_and, Int.toNat_natCast]
theorem chkI_nat (s : By) (n : Nat) : chkI n s = chk n s := by unfold chkI; rw [decide_eq_true (by omega), Bool.true_and, Int.toNat_natCast]
set_option maxHeartbeats 1000000 in
theorem check_any (n : Int) (s : By) (w : World) (hs : s.length ≤ maxLen) : Calls Tryd.prog 29 #[.int .i64 n, .string (bs s)] w fun e w' => e = .returned (.bool (chkI n s)) ∧ Below w.heap.size w w' := by
  have hbs := bs_size s
  have hb := hide (isBound_any n)
  unfold maxLen at hs
  by_cases h : 0 ≤ n ∧ n < 161
  · obtain ⟨m, rfl⟩ : ∃ m : Nat, n = m := ⟨n.toNat, by omega⟩
    unfold lowB at hb
    rw [decide_eq_true h] at hb
    have hw := hide (fun w => width_any m w (by omega))
    rw [chkI_nat]
    have hW := wid_le20 m (by omega)
    have hWm := wid_le m
    by_cases hl : s.length = wid m
    · have hhas := hide (fun (i : Nat) w => has_any s i w (by omega))
      have HC : Hid (chk m s = decide (∀ i, i < 8 * wid m → m ≤ i → bitAt s i = false)) := by
        show _ = _
        unfold chk
        rw [decide_eq_decide]
        exact ⟨fun h => h.2.2, fun h' => ⟨by omega, hl, h'⟩⟩
      generalize chk m s = E at *
      rw [hl] at hbs
      clear hl hs
      generalize wid m = W at *
      have q1 : ((W : Int) == (W : Int)) = true := by simp
      go_enter Tryd.func29, Tryd.ntmps29
      go_wp2_with (first | (go_at_call 52; refine (unhide hb _).mono ?_; rintro e w1 ⟨rfl, rfl⟩) | (go_at_call 53; refine (unhide hw _).mono ?_; rintro e w1 ⟨rfl, rfl⟩))
      go_loopw [21] (fun i wr => ∃ k : Nat, k ≤ 8 * W - m ∧ i = .int .i64 k ∧ (∀ i, i < m + k → m ≤ i → bitAt s i = false) ∧ Below w.heap.size w wr) (fun i _ => 8 * W - m - (intOf i).toNat)
      case atStart => exact ⟨0, Nat.zero_le _, rfl, fun i h1 h2 => by omega, Below.refl _ _⟩
      case round =>
        obtain ⟨k, hk, rfl, hall, hbl⟩ := hrel
        have HB := hide hbl
        by_cases hlt : k < 8 * W - m
        · have q2 : (k : Int) < (W : Int) * 8 - m := by omega
          have hq := hide (unhide hhas (m + k))
          rw [hasI_nat, show ((m + k : Nat) : Int) = (m : Int) + k from rfl] at hq
          cases hv : bitAt s (m + k) with
          | true =>
            rw [hv] at hq
            have he : E = false := by
              rw [unhide HC]
              exact decide_eq_false (fun h' => by have := h' (m + k) (by omega) (by omega); rw [hv] at this; cases this)
            subst he
            clear hall hbl hv
            go_wp2_with fail
            refine (unhide hq _).mono ?_
            rintro e w2 ⟨rfl, b2⟩
            have B2 := hide ((unhide HB).trans (b2.mono (unhide HB).size))
            clear b2 HB
            go_wp2
            go_ret
            exact ⟨rfl, unhide B2⟩
          | false =>
            rw [hv] at hq
            have HA : Hid (∀ i, i < m + (k + 1) → m ≤ i → bitAt s i = false) := by
              intro i h1 h2
              rcases Nat.lt_or_ge i (m + k) with h' | h'
              · exact hall i h' h2
              · have : i = m + k := by omega
                subst this; exact hv
            clear hall hbl hv
            go_wp2_with fail
            refine (unhide hq _).mono ?_
            rintro e w2 ⟨rfl, b2⟩
            have B2 := hide ((unhide HB).trans (b2.mono (unhide HB).size))
            clear b2 HB
            go_wp2
            go_roundw
            case rel => exact ⟨k + 1, by omega, by go_num, unhide HA, unhide B2⟩
            case measure => simp [intOf]; omega
        · have q2 : ¬ (k : Int) < (W : Int) * 8 - m := by omega
          have he : E = true := by
            rw [unhide HC]
            exact decide_eq_true (fun i h1 h2 => hall i (by omega) h2)
          subst he
          clear hall hbl
          go_wp2
          go_ret
          exact ⟨rfl, unhide HB⟩
    · have e : chk m s = false := decide_eq_false (fun h' => hl h'.2.1)
      rw [e]
      have q1 : ((s.length : Int) == (wid m : Int)) = false := by rw [beq_eq_false_iff_ne]; omega
      have q2 : ¬ s.length = wid m := hl
      clear e
      generalize wid m = W at *
      generalize s.length = sl at *
      generalize bs s = S at *
      go_enter Tryd.func29, Tryd.ntmps29
      go_wp2_with (first | (go_at_call 52; refine (unhide hb _).mono ?_; rintro e w1 ⟨rfl, rfl⟩) | (go_at_call 53; refine (unhide hw _).mono ?_; rintro e w1 ⟨rfl, rfl⟩))
      go_ret
      exact ⟨rfl, Below.refl _ _⟩
  · unfold lowB at hb
    rw [decide_eq_false h] at hb
    have e : chkI n s = false := by
      unfold chkI
      by_cases h0 : 0 ≤ n
      · rw [show chk n.toNat s = false from decide_eq_false (fun h' => by omega), Bool.and_false]
      · rw [decide_eq_false h0, Bool.false_and]
    rw [e]
    generalize s.length = sl at *
    generalize bs s = S at *
    clear h e
    go_enter Tryd.func29, Tryd.ntmps29
    go_wp2_with (go_at_call 52; refine (unhide hb _).mono ?_; rintro e w1 ⟨rfl, rfl⟩)
    go_ret
    exact ⟨rfl, Below.refl _ _⟩

/-- the set of none -/
def emptyL (n : Int) : By := if 0 ≤ n ∧ n < 161 then List.replicate (wid n.toNat) 0 else []
theorem emptyL_nat (n : Nat) (h : n ≤ 160) : emptyL n = List.replicate (wid n) 0 := by unfold emptyL; rw [if_pos (by omega), Int.toNat_natCast]
theorem empty_any (n : Int) (w : World) : Calls Tryd.prog 56 #[.int .i64 n] w fun e w' => e = .returned (.string (bs (emptyL n))) ∧ Below w.heap.size w w' := by
  have hb := hide (isBound_any n)
  by_cases h : 0 ≤ n ∧ n < 161
  · unfold lowB at hb
    rw [decide_eq_true h] at hb
    obtain ⟨m, rfl⟩ : ∃ m : Nat, n = m := ⟨n.toNat, by omega⟩
    rw [emptyL_nat m (by omega)]
    have hw := hide (fun w => width_any m w (by omega))
    have hW := wid_le20 m (by omega)
    generalize wid m = W at *
    obtain ⟨i0, hi, hz0, hz1, hz2⟩ := info_parts Tryd.infoU
    clear h
    go_enter Tryd.func56, Tryd.ntmps56
    go_wp2_with (first | (go_at_call 52; refine (unhide hb _).mono ?_; rintro e w1 ⟨rfl, rfl⟩) | (go_at_call 53; refine (unhide hw _).mono ?_; rintro e w1 ⟨rfl, rfl⟩) | (at_make; refine wpList_make_full _ rfl _ _ 75 rfl w.heap.size 5 i0 (.int .u8 0) 1 Tryd.undB hi hz0 hz1 .i64 .i64 _ _ W rfl rfl rfl rfl ?c2 ?c3 ?c4 ?_))
    case c2 => rw [hz2]; omega
    case c3 => unfold maxLen; omega
    case c4 => exact Nat.le_refl _
    intro w1 hown hgrow
    have hb1 : Below w.heap.size w w1 := (Below.refl _ _).grown hgrow (Nat.le_refl _) (by intro k hk; cases hk)
    rw [made_bytes] at hown
    have hcv := run_string_own (P := Tryd.prog) 75 9 Tryd.undB (by kernel_rfl) (by kernel_rfl) hown
    clear hgrow hown
    have HB := hide hb1
    clear hb1
    generalize hD : (List.replicate W (0 : UInt8)).toArray = D at *
    have HD := hide hD
    clear hD
    go_wp2
    go_ret
    exact ⟨by rw [← unhide HD]; rfl, unhide HB⟩
  · unfold lowB at hb
    rw [decide_eq_false h] at hb
    have e : emptyL n = [] := by unfold emptyL; rw [if_neg h]
    rw [e]
    clear h e
    go_enter Tryd.func56, Tryd.ntmps56
    go_wp2_with (go_at_call 52; refine (unhide hb _).mono ?_; rintro e w1 ⟨rfl, rfl⟩)
    go_ret
    exact ⟨rfl, Below.refl _ _⟩

end Go.Proofs.YtbodklppgcloiaaDoor

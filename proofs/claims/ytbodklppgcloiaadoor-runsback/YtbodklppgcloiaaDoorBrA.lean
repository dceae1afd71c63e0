
/- Contracts of the document's bits: bit, Has, Check, has, Make, Empty, Full. -/
import Derived.Test.YtbodklppgcloiaaDoorBtF
namespace Go.Proofs.YtbodklppgcloiaaDoor
open Go.RowKit
set_option linter.unusedVariables false

theorem bit_val (x : UInt8) (j : Nat) : ((x.toNat / 2 ^ j) % 2 = 1) ↔ bitB x j = true := by
  unfold bitB
  rw [Nat.testBit_eq_decide_div_mod_eq]
  simp
set_option maxHeartbeats 1000000 in
theorem rbit_any (s : By) (i : Nat) (w : World) (hs : s.length ≤ 100000) (hi : i / 8 < s.length) : Calls Tryd.prog 60 #[.string (bs s), .int .i64 i] w fun e w' => e = .returned (.int .i64 (if bitAt s i then 1 else 0)) ∧ w = w' := by
  have hbs := bs_size s
  have hix := run_index_bs (P := Tryd.prog) 9 s (i / 8) hi (by kernel_rfl)
  have hv := bit_val s[i / 8] (i % 8)
  rw [← bitAt_in s i hi] at hv
  have hx := s[i / 8].toNat_lt
  have hd : (i : Int).tdiv 8 = ((i / 8 : Nat) : Int) := by rw [Int.tdiv_eq_ediv_of_nonneg (by omega)]; omega
  have hd2 : (i : Int) / 8 = ((i / 8 : Nat) : Int) := by omega
  have hr : (i : Int).tmod 8 = ((i % 8 : Nat) : Int) := by rw [Int.tmod_eq_emod_of_nonneg (by omega)]; omega
  have hr2 : (i : Int) % 8 = ((i % 8 : Nat) : Int) := by omega
  have hr8 : i % 8 < 8 := Nat.mod_lt _ (by omega)
  have HV : Hid ((if bitAt s i then (1 : Int) else 0) = ((s[i / 8].toNat / 2 ^ (i % 8) % 2 : Nat) : Int)) := by
    show _ = _
    cases hb : bitAt s i
    · have : ¬ s[i / 8].toNat / 2 ^ (i % 8) % 2 = 1 := fun h => by have := hv.1 h; rw [hb] at this; cases this
      have : s[i / 8].toNat / 2 ^ (i % 8) % 2 = 0 := by omega
      rw [this]; rfl
    · rw [hv.2 hb]; rfl
  have q0 : (i / 8 : Nat) < s.length := hi
  generalize (if bitAt s i then (1 : Int) else 0) = E at *
  generalize s[i / 8].toNat = x at *
  generalize i / 8 = d at *
  generalize i % 8 = r at *
  clear hv
  go_enter Tryd.func60, Tryd.ntmps60
  go_wp2
  go_loopw [5, 6] (fun v i wr => w = wr ∧ ∃ j y : Nat, j ≤ r ∧ i = .int .i64 j ∧ v = .int .i64 y ∧ y = x / 2 ^ j ∧ y < 256) (fun _ i _ => r - (intOf i).toNat)
  case atStart => exact ⟨rfl, 0, x, Nat.zero_le _, rfl, rfl, by simp, hx⟩
  case round =>
    obtain ⟨rfl, j, y, hj, rfl, rfl, hy, hy2⟩ := hrel
    by_cases hlt : j < r
    · have q1 : (j : Int) < r := by omega
      have HY : Hid (y / 2 = x / 2 ^ (j + 1)) := by show _ = _; rw [hy, Nat.div_div_eq_div_mul, Nat.pow_succ]
      have hh : (y : Int) / 2 = ((y / 2 : Nat) : Int) := by omega
      have hh2 : (y : Int).tdiv 2 = ((y / 2 : Nat) : Int) := by rw [Int.tdiv_eq_ediv_of_nonneg (by omega)]; omega
      have hh3 : y / 2 < 256 := by omega
      generalize y / 2 = z at *
      clear hy
      go_wp2
      go_roundw
      case rel => exact ⟨trivial, j + 1, z, by omega, by go_num, rfl, unhide HY, hh3⟩
      case measure => simp [intOf]; omega
    · have hjr : j = r := by omega
      have q1 : ¬ (j : Int) < r := by omega
      have HE : Hid (E = ((y % 2 : Nat) : Int)) := by show _ = _; rw [unhide HV, hy, hjr]
      have hh : (y : Int) % 2 = ((y % 2 : Nat) : Int) := by omega
      have hh2 : (y : Int).tmod 2 = ((y % 2 : Nat) : Int) := by rw [Int.tmod_eq_emod_of_nonneg (by omega)]; omega
      generalize y % 2 = z at *
      clear hy hjr
      go_wp2
      go_ret
      exact ⟨by rw [unhide HE]; rfl, rfl⟩
theorem rhas_any (s : By) (i : Int) (w : World) (hs : s.length ≤ 100000) (hi : i ≤ 9223372036854775807) : Calls Tryd.prog 34 #[.string (bs s), .int .i64 i] w fun e w' => e = .returned (.bool (hasI s i)) ∧ w = w' := by
  have hbs := bs_size s
  by_cases h0 : 0 ≤ i
  · obtain ⟨m, rfl⟩ : ∃ m : Nat, i = m := ⟨i.toNat, by omega⟩
    rw [hasI_nat]
    have hd : (m : Int).tdiv 8 = ((m / 8 : Nat) : Int) := by rw [Int.tdiv_eq_ediv_of_nonneg (by omega)]; omega
    have hd2 : (m : Int) / 8 = ((m / 8 : Nat) : Int) := by omega
    by_cases h : m / 8 < s.length
    · have hb := hide (fun w => rbit_any s m w hs h)
      have q1 : ((m / 8 : Nat) : Int) < s.length := by omega
      generalize m / 8 = d at *
      cases hv : bitAt s m with
      | true =>
        rw [hv, if_pos rfl] at hb
        generalize s.length = sl at *
        generalize bs s = S at *
        go_enter Tryd.func34, Tryd.ntmps34
        go_wp2_with (go_at_call 60; refine (unhide hb _).mono ?_; rintro e w1 ⟨rfl, rfl⟩)
        go_ret
        exact ⟨rfl, rfl⟩
      | false =>
        rw [hv, if_neg (by simp)] at hb
        generalize s.length = sl at *
        generalize bs s = S at *
        go_enter Tryd.func34, Tryd.ntmps34
        go_wp2_with (go_at_call 60; refine (unhide hb _).mono ?_; rintro e w1 ⟨rfl, rfl⟩)
        go_ret
        exact ⟨rfl, rfl⟩
    · rw [bitAt_out s m (by omega)]
      have q1 : decide (((m / 8 : Nat) : Int) < s.length) = false := decide_eq_false (by omega)
      have q2 : decide ((m / 8) < s.length) = false := decide_eq_false (by omega)
      have q3 : decide ((0 : Int) ≤ m) = true := decide_eq_true (by omega)
      have q4 : m / 8 ≤ 1152921504606846975 := by omega
      generalize m / 8 = d at *
      generalize s.length = sl at *
      generalize bs s = S at *
      go_enter Tryd.func34, Tryd.ntmps34
      go_wp2
      go_ret
      exact ⟨rfl, rfl⟩
  · have e : hasI s i = false := by unfold hasI; rw [decide_eq_false h0, Bool.false_and]
    rw [e]
    generalize s.length = sl at *
    generalize bs s = S at *
    go_enter Tryd.func34, Tryd.ntmps34
    go_wp2
    go_ret
    exact ⟨rfl, rfl⟩
set_option maxHeartbeats 1000000 in
theorem rcheck_any (n : Int) (s : By) (w : World) (hs : s.length ≤ maxLen) : Calls Tryd.prog 33 #[.int .i64 n, .string (bs s)] w fun e w' => e = .returned (.bool (chkI n s)) ∧ w = w' := by
  have hbs := bs_size s
  unfold maxLen at hs
  by_cases h0 : 0 ≤ n
  · by_cases h1 : n ≤ 160
    · obtain ⟨m, rfl⟩ : ∃ m : Nat, n = m := ⟨n.toNat, by omega⟩
      rw [chkI_nat]
      have hW := wid_le20 m (by omega)
      have hWm := wid_le m
      have h3 : ((m : Int) + 7) / 8 = (wid m : Int) := by unfold wid; omega
      have h4 : ((m : Int) + 7).tdiv 8 = (wid m : Int) := by rw [Int.tdiv_eq_ediv_of_nonneg (by omega)]; unfold wid; omega
      by_cases hl : s.length = wid m
      · have hhas := hide (fun (i : Nat) w (hi : i ≤ 1000000) => rhas_any s i w (by omega) (by omega))
        have HC : Hid (chk m s = decide (∀ i, i < 8 * wid m → m ≤ i → bitAt s i = false)) := by
          show _ = _
          unfold chk
          rw [decide_eq_decide]
          exact ⟨fun h => h.2.2, fun h' => ⟨by omega, hl, h'⟩⟩
        generalize chk m s = E at *
        rw [hl] at hbs
        clear hl hs
        generalize wid m = W at *
        have q1 : ((W : Int) == (W : Int)) = true := by simp
        go_enter Tryd.func33, Tryd.ntmps33
        go_wp2
        go_loopw [5] (fun i wr => w = wr ∧ ∃ k : Nat, k ≤ 8 * W ∧ m ≤ k ∧ i = .int .i64 k ∧ (∀ i, i < k → m ≤ i → bitAt s i = false)) (fun i _ => 8 * W - (intOf i).toNat)
        case atStart => exact ⟨rfl, m, by omega, Nat.le_refl _, rfl, fun i h1 h2 => by omega⟩
        case round =>
          obtain ⟨rfl, k, hk, hmk, rfl, hall⟩ := hrel
          by_cases hlt : k < 8 * W
          · have q2 : (k : Int) < 8 * (W : Int) := by omega
            have hq := hide (fun w => unhide hhas k w (by omega))
            rw [hasI_nat] at hq
            cases hv : bitAt s k with
            | true =>
              rw [hv] at hq
              have he : E = false := by
                rw [unhide HC]
                exact decide_eq_false (fun h' => by have := h' k (by omega) (by omega); rw [hv] at this; cases this)
              subst he
              clear hall hv
              go_wp2_with (go_at_call 34; refine (unhide hq _).mono ?_; rintro e w1 ⟨rfl, rfl⟩)
              go_ret
              exact ⟨rfl, rfl⟩
            | false =>
              rw [hv] at hq
              have HA : Hid (∀ i, i < k + 1 → m ≤ i → bitAt s i = false) := by
                intro i h1 h2
                rcases Nat.lt_or_ge i k with h' | h'
                · exact hall i h' h2
                · have : i = k := by omega
                  subst this; exact hv
              clear hall hv
              go_wp2_with (go_at_call 34; refine (unhide hq _).mono ?_; rintro e w1 ⟨rfl, rfl⟩)
              go_roundw
              case rel => exact ⟨trivial, k + 1, by omega, by omega, by go_num, unhide HA⟩
              case measure => simp [intOf]; omega
          · have q2 : ¬ (k : Int) < 8 * (W : Int) := by omega
            have he : E = true := by
              rw [unhide HC]
              exact decide_eq_true (fun i h1 h2 => hall i (by omega) h2)
            subst he
            clear hall
            go_wp2
            go_ret
            exact ⟨rfl, rfl⟩
      · have e : chk m s = false := decide_eq_false (fun h' => hl h'.2.1)
        rw [e]
        have q1 : ((s.length : Int) == (wid m : Int)) = false := by rw [beq_eq_false_iff_ne]; omega
        have q2 : ¬ s.length = wid m := hl
        have q3 : ((s.length : Int) != (wid m : Int)) = true := by simp; omega
        have d0 : decide ((m : Int) < 0) = false := decide_eq_false (by omega)
        have d1 : decide ((160 : Int) < m) = false := decide_eq_false (by omega)
        clear e
        generalize wid m = W at *
        generalize s.length = sl at *
        generalize bs s = S at *
        go_enter Tryd.func33, Tryd.ntmps33
        go_wp2
        go_ret
        exact ⟨rfl, rfl⟩
    · have e : chkI n s = false := by
        unfold chkI
        rw [show chk n.toNat s = false from decide_eq_false (fun h' => by omega), Bool.and_false]
      rw [e]
      generalize s.length = sl at *
      generalize bs s = S at *
      clear e
      go_enter Tryd.func33, Tryd.ntmps33
      go_wp2
      go_ret
      exact ⟨rfl, rfl⟩
  · have e : chkI n s = false := by unfold chkI; rw [decide_eq_false h0, Bool.false_and]
    rw [e]
    generalize s.length = sl at *
    generalize bs s = S at *
    clear e
    go_enter Tryd.func33, Tryd.ntmps33
    go_wp2
    go_ret
    exact ⟨rfl, rfl⟩

set_option maxHeartbeats 1000000 in
theorem rhasl_any (l : List Int) (x : Int) (a0 : Option Addr) (c : Nat) (w : World) (hT : Ints w a0 l) (h2 : l.length ≤ 100000) :
    Calls Tryd.prog 64 #[.slice a0 l.length c, .int .i64 x] w fun e w' => e = .returned (.bool (decide (x ∈ l))) ∧ w = w' := by
  have HT := hide hT
  generalize hE : decide (x ∈ l) = E
  have HE := hide hE
  generalize hn : l.length = m at *
  have HN := hide hn
  clear hT hn hE
  go_enter Tryd.func64, Tryd.ntmps64
  go_wp2_with fail
  go_loopw [5] (fun i wr => w = wr ∧ ∃ k : Nat, k ≤ m ∧ i = .int .i64 k ∧ x ∉ l.take k) (fun i _ => m - (intOf i).toNat)
  case atStart => exact ⟨rfl, 0, Nat.zero_le _, rfl, by simp⟩
  case round =>
    obtain ⟨rfl, k, hk, rfl, ha⟩ := hrel
    by_cases hlt : k < m
    · have hlt' : k < l.length := by rw [unhide HN]; exact hlt
      obtain ⟨g, o, rfl, hc0⟩ := unhide HT k hlt'
      have q2 : (k : Int) < m := by omega
      by_cases hl : l[k] = x
      · have he : E = true := by rw [← unhide HE]; exact decide_eq_true (hl ▸ List.getElem_mem hlt')
        subst he
        have q3 : (l[k] == x) = true := by simp [hl]
        rw [hl] at hc0
        clear ha hl hlt' q3
        have q4 : (x == x) = true := by simp
        go_wp2
        go_ret
        exact ⟨rfl, rfl⟩
      · have HA : Hid (x ∉ l.take (k + 1)) := by
          intro h
          rw [List.take_succ_eq_append_getElem hlt', List.mem_append] at h
          rcases h with h | h
          · exact ha h
          · simp at h; exact hl h.symm
        have q3 : (l[k] == x) = false := by rw [beq_eq_false_iff_ne]; exact hl
        generalize l[k] = B at *
        clear ha hlt'
        go_wp2
        go_roundw
        case rel => exact ⟨trivial, k + 1, by omega, by go_num, unhide HA⟩
        case measure => simp [intOf]; omega
    · have hkl : k = m := by omega
      subst hkl
      rw [← unhide HN, List.take_length] at ha
      have he : E = false := by rw [← unhide HE]; exact decide_eq_false ha
      subst he
      have q2 : ¬ (k : Int) < k := by omega
      clear ha
      go_wp2
      go_ret
      exact ⟨rfl, rfl⟩

/-- the document's set of numbers -/
def mkL (n : Nat) (l : List Int) : By := makeP (wid n) (fun i => decide (i < n) && decide ((i : Int) ∈ l))
set_option maxHeartbeats 4000000 in
theorem rmake_any (n : Nat) (l : List Int) (a0 : Option Addr) (c : Nat) (w : World) (hT : Ints w a0 l) (hn : n ≤ 1000) (h2 : l.length ≤ 100000) :
    Calls Tryd.prog 40 #[.int .i64 n, .slice a0 l.length c] w fun e w' => e = .returned (.string (bs (mkL n l))) ∧ Below w.heap.size w w' := by
  unfold mkL
  have hh := hide (fun (x : Int) w' (hb : Below w.heap.size w w') => rhasl_any l x a0 c w' (hT.below hb) h2)
  have hW : wid n ≤ 126 := by unfold wid; omega
  have h3 : ((n : Int) + 7) / 8 = (wid n : Int) := by unfold wid; omega
  have h4 : ((n : Int) + 7).tdiv 8 = (wid n : Int) := by rw [Int.tdiv_eq_ediv_of_nonneg (by omega)]; unfold wid; omega
  obtain ⟨p, hp⟩ : ∃ p : Nat → Bool, p = fun i => decide (i < n) && decide ((i : Int) ∈ l) := ⟨_, rfl⟩
  rw [← hp]
  have HP : Hid (∀ i, p i = (decide (i < n) && decide ((i : Int) ∈ l))) := fun i => by rw [hp]
  obtain ⟨i0, hi, hz0, hz1, hz2⟩ := info_parts Tryd.infoU
  generalize wid n = W at *
  generalize hR : bs (makeP W p) = R
  have HR := hide hR
  clear hp hR hT
  generalize l.length = ln at *
  go_enter Tryd.func40, Tryd.ntmps40
  go_wp2_with fail
  go_loopw [5, 6] (fun v i wr => ∃ k : Nat, k ≤ W ∧ i = .int .i64 k ∧ wr.ownsRow w.heap.size 5 1 v k (bc (makeP k p)) ∧ Below w.heap.size w wr) (fun _ i _ => W - (intOf i).toNat)
  case atStart => exact ⟨0, Nat.zero_le _, rfl, World.ownsRow_nil _ _ _ _, Below.refl _ _⟩
  case round =>
    obtain ⟨k, hk, rfl, hown, hb⟩ := hrel
    obtain ⟨ao, cap, rfl⟩ := own_shape' hown
    have HO := hide hown
    have HB := hide hb
    have hz := hb.size
    clear hown hb
    by_cases hlt : k < W
    · have q1 : (k : Int) < W := by omega
      have HS := hide (makeP_succ k p)
      go_wp2
      generalize wr = wo at *
      go_loopw [7, 8] (fun v i wr => wo = wr ∧ ∃ t y : Nat, t ≤ 8 ∧ i = .int .i64 (7 - (t : Int)) ∧ v = .int .i64 y ∧ y = acc (fun j => p (8 * k + j)) t ∧ y < 256) (fun _ i _ => (intOf i + 1).toNat)
      case atStart => exact ⟨rfl, 0, 0, by omega, rfl, rfl, rfl, by omega⟩
      case round =>
        obtain ⟨rfl, t, y, ht, rfl, rfl, hy, hy2⟩ := hrel
        by_cases ht8 : t < 8
        · obtain ⟨j, hj⟩ : ∃ j : Nat, j = 7 - t := ⟨_, rfl⟩
          have ej : (7 : Int) - t = j := by omega
          rw [ej]
          have hy3 : y < 128 := by
            have h5 := acc_lt (fun j => p (8 * k + j)) t
            have h6 : 2 ^ t ≤ 2 ^ 7 := Nat.pow_le_pow_right (by omega) (by omega)
            omega
          have HA : Hid (acc (fun j => p (8 * k + j)) (t + 1) = 2 * y + (if p (8 * k + j) then 1 else 0)) := by
            show 2 * acc _ t + (if p (8 * k + (7 - t)) then 1 else 0) = _
            rw [← hy, ← hj]
          have hpj := unhide HP (8 * k + j)
          have hcl := hide (unhide hh ((8 * k + j : Nat) : Int) wo (unhide HB))
          have ec : ((8 * k + j : Nat) : Int) = 8 * (k : Int) + j := by omega
          rw [ec] at hcl hpj
          have HEJ := hide ej
          have hj7 : j ≤ 7 := by omega
          have HJ := hide hj
          clear hy ej hj
          by_cases hkn : 8 * k + j < n
          · have q5 : 8 * (k : Int) + j < n := by omega
            rw [decide_eq_true hkn, Bool.true_and] at hpj
            rw [← hpj] at hcl
            cases hv : p (8 * k + j) with
            | true =>
              rw [hv] at hcl HA
              clear hv hpj
              go_wp2_with (go_at_call 64; refine (unhide hcl).mono ?_; rintro e w1 ⟨rfl, rfl⟩)
              go_roundw
              case rel => exact ⟨trivial, t + 1, 2 * y + 1, by omega, by have := unhide HEJ; have h9 : ((j : Int) - 1) = 7 - ((t + 1 : Nat) : Int) := by omega
                                                                         first | rw [h9] | go_num, by go_num, by rw [unhide HA]; rfl, by omega⟩
              case measure => simp [intOf]
            | false =>
              rw [hv] at hcl HA
              clear hv hpj
              go_wp2_with (go_at_call 64; refine (unhide hcl).mono ?_; rintro e w1 ⟨rfl, rfl⟩)
              go_roundw
              case rel => exact ⟨trivial, t + 1, 2 * y, by omega, by have := unhide HEJ; have h9 : ((j : Int) - 1) = 7 - ((t + 1 : Nat) : Int) := by omega
                                                                     first | rw [h9] | go_num, by go_num, by rw [unhide HA]; rfl, by omega⟩
              case measure => simp [intOf]
          · have q5 : ¬ 8 * (k : Int) + j < n := by omega
            rw [decide_eq_false hkn, Bool.false_and] at hpj
            rw [hpj] at HA
            clear hpj hcl
            go_wp2
            go_roundw
            case rel => exact ⟨trivial, t + 1, 2 * y, by omega, by have := unhide HEJ; have h9 : ((j : Int) - 1) = 7 - ((t + 1 : Nat) : Int) := by omega
                                                                   first | rw [h9] | go_num, by go_num, by rw [unhide HA]; rfl, by omega⟩
            case measure => simp [intOf]
        · have ht' : t = 8 := by omega
          subst ht'
          have ej : (7 : Int) - ((8 : Nat) : Int) = -1 := by decide
          rw [ej]
          have HY : Hid (y = (byteP fun j => p (8 * k + j)).toNat) := by show _ = _; rw [byteP_nat]; exact hy
          have hw8 := wrap8 y hy2
          clear hy ej
          go_wp2_with (at_builtin; refine wpList_append_own _ rfl _ _ 75 rfl w.heap.size 5 i0 (.int .u8 0) 1 1 Tryd.undB hi hz0 hz1 hz2 rfl (by decide) _ _ _ rfl ((unhide HO).alloc _) ⟨wo.heap.size, 0, none⟩ 1 1 [.int .u8 y] rfl rfl (news_lit _ [_] _) ?d2 ?d3 ?d4 ?d5 ?_)
          case d2 => first | rfl | (intro u hu; simp at hu; subst hu; rfl)
          case d3 => unfold maxLen; omega
          case d4 => omega
          case d5 => first | omega | (simp; omega)
          intro v' w3 hown' hgrow _
          have hb' := hide ((((unhide HB).alloc (by omega) _)).grown hgrow (by simp; omega) (fun k hk => (((unhide HO).lt k hk).1)))
          have ho2 : Hid (w3.ownsRow w.heap.size 5 1 v' (k + 1) (bc (makeP (k + 1) p))) := by
            show World.ownsRow _ _ _ _ _ _ _
            rw [unhide HS, bc_append]
            show World.ownsRow _ _ _ _ _ _ (_ ++ [.int .u8 ((byteP fun j => p (8 * k + j)).toNat : Int)])
            rw [← unhide HY]
            exact hown'
          obtain ⟨ao', cap', rfl⟩ := own_shape' hown'
          clear hown' hgrow HO HB
          go_wp2
          go_roundw
          case rel => exact ⟨k + 1, by omega, by go_num, unhide ho2, unhide hb'⟩
          case measure => simp [intOf]; omega
    · have hke : k = W := by omega
      subst hke
      have q1 : ¬ (k : Int) < k := by omega
      have hcv := run_string_own (P := Tryd.prog) 75 9 Tryd.undB (by kernel_rfl) (by kernel_rfl) (unhide HO)
      rw [show (⟨(makeP k p).toArray⟩ : ByteArray) = R from unhide HR] at hcv
      go_wp2
      go_ret
      exact ⟨rfl, unhide HB⟩

/-- the first numbers -/
def upto (k : Nat) : List Int := (List.range k).map fun (i : Nat) => (i : Int)
theorem upto_succ (k : Nat) : upto (k + 1) = upto k ++ [(k : Int)] := by simp [upto, List.range_succ]
theorem upto_length (k : Nat) : (upto k).length = k := by simp [upto]
end Go.Proofs.YtbodklppgcloiaaDoor

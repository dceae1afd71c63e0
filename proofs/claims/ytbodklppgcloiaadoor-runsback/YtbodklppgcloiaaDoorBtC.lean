/- Contracts of bits' Of, List, With and Without. -/
import Derived.Test.YtbodklppgcloiaaDoorBtB
namespace Go.Proofs.YtbodklppgcloiaaDoor
open Go.RowKit
set_option linter.unusedVariables false

/-- are all numbers below n? -/
def allLow (l : List Int) (n : Int) : Prop := ∀ x ∈ l, 0 ≤ x ∧ x < n
instance (l : List Int) (n : Int) : Decidable (allLow l n) := inferInstanceAs (Decidable (∀ x ∈ l, 0 ≤ x ∧ x < n))
theorem allLow_snoc {l : List Int} {n : Int} {k : Nat} (hk : k < l.length) (h : allLow (l.take k) n) (h1 : 0 ≤ l[k] ∧ l[k] < n) : allLow (l.take (k + 1)) n := by
  intro s hs
  rw [List.take_succ_eq_append_getElem hk, List.mem_append] at hs
  rcases hs with hs | hs
  · exact h s hs
  · simp at hs; rw [hs]; exact h1
set_option maxHeartbeats 1000000 in
theorem areBelow_any (l : List Int) (a0 : Option Addr) (c : Nat) (n : Int) (w : World) (hT : Ints w a0 l) (h2 : l.length ≤ 100000) :
    Calls Tryd.prog 55 #[.slice a0 l.length c, .int .i64 n] w fun e w' => e = .returned (.bool (decide (allLow l n))) ∧ w = w' := by
  have HT := hide hT
  have hbel := hide (fun i => isBelow_any i n)
  have HE : Hid (decide (allLow l n) = decide (allLow l n)) := rfl
  generalize hE : decide (allLow l n) = E at *
  have HE2 := hide hE
  generalize hn : l.length = m at *
  have HN := hide hn
  clear hT hn hE HE
  go_enter Tryd.func55, Tryd.ntmps55
  go_wp2_with fail
  go_loopw [9] (fun i wr => w = wr ∧ ∃ k : Nat, k ≤ m ∧ i = .int .i64 k ∧ allLow (l.take k) n) (fun i _ => m - (intOf i).toNat)
  case atStart => exact ⟨rfl, 0, Nat.zero_le _, rfl, fun s hs => by simp at hs⟩
  case round =>
    obtain ⟨rfl, k, hk, rfl, ha⟩ := hrel
    by_cases hlt : k < m
    · have hlt' : k < l.length := by rw [unhide HN]; exact hlt
      obtain ⟨g, o, rfl, hc0⟩ := unhide HT k hlt'
      have q2 : (k : Int) < m := by omega
      have hq := hide (unhide hbel l[k])
      by_cases hl : 0 ≤ l[k] ∧ l[k] < n
      · have HA := hide (allLow_snoc hlt' ha hl)
        unfold lowB at hq
        rw [decide_eq_true hl] at hq
        generalize l[k] = B at *
        clear ha hl hlt'
        go_wp2_with (go_at_call 81; refine (unhide hq _).mono ?_; rintro e w1 ⟨rfl, rfl⟩)
        go_roundw
        case rel => exact ⟨trivial, k + 1, by omega, by go_num, unhide HA⟩
        case measure => simp [intOf]; omega
      · have he : E = false := by
          rw [← unhide HE2, decide_eq_false (fun h => hl (h _ (List.getElem_mem hlt')))]
        subst he
        unfold lowB at hq
        rw [decide_eq_false hl] at hq
        generalize l[k] = B at *
        clear ha hl hlt'
        go_wp2_with (go_at_call 81; refine (unhide hq _).mono ?_; rintro e w1 ⟨rfl, rfl⟩)
        go_ret
        exact ⟨rfl, rfl⟩
    · have hkl : k = m := by omega
      subst hkl
      rw [← unhide HN, List.take_length] at ha
      have he : E = true := by rw [← unhide HE2, decide_eq_true ha]
      subst he
      have q2 : ¬ (k : Int) < k := by omega
      clear ha
      go_wp2
      go_ret
      exact ⟨rfl, rfl⟩

/-- Of's error, and its set -/
def ofE (n : Int) (l : List Int) : Int := if ¬ ((0 ≤ n ∧ n < 161) ∧ allLow l n) then 1 else if ¬ l.Nodup then 5 else 0
def ofR (n : Int) (l : List Int) : By := if ofE n l = 0 then makeP (wid n.toNat) (fun i => decide ((i : Int) ∈ l)) else []
theorem nodup_take_snoc {l : List Int} {k : Nat} (hk : k < l.length) (h : (l.take k).Nodup) (hn : l[k] ∉ l.take k) : (l.take (k + 1)).Nodup := by
  rw [List.take_succ_eq_append_getElem hk, List.nodup_append]
  refine ⟨h, by simp, fun a ha b hb => ?_⟩
  simp at hb
  subst hb
  intro e
  exact hn (e ▸ ha)
set_option maxRecDepth 100000 in
set_option maxHeartbeats 2000000 in
theorem of_any (n : Int) (l : List Int) (a0 : Option Addr) (c : Nat) (w : World) (hT : Ints w a0 l) (h2 : l.length ≤ 100000) :
    Calls Tryd.prog 30 #[.int .i64 n, .slice a0 l.length c] w fun e w' => e = .returned (.tuple #[.string (bs (ofR n l)), .int .i64 (ofE n l)]) ∧ Below w.heap.size w w' := by
  have hbd := hide (isBound_any n)
  have hem := hide (empty_any n)
  by_cases hb0 : 0 ≤ n ∧ n < 161
  · unfold lowB at hbd
    rw [decide_eq_true hb0] at hbd
    have har := hide (areBelow_any l a0 c n w hT h2)
    by_cases hal : allLow l n
    · rw [decide_eq_true hal] at har
      obtain ⟨m, rfl⟩ : ∃ m : Nat, n = m := ⟨n.toNat, by omega⟩
      have hE : ofE m l = if l.Nodup then 0 else 5 := by
        unfold ofE; rw [if_neg (by simp; exact ⟨by omega, hal⟩)]
        by_cases hn : l.Nodup
        · rw [if_pos hn, if_neg (by simpa using hn)]
        · rw [if_neg hn, if_pos hn]
      have hR : Hid (ofR m l = if ofE m l = 0 then makeP (wid m) (fun i => decide ((i : Int) ∈ l)) else []) := rfl
      rw [emptyL_nat m (by omega), ← makeP_none] at hem
      have hW := wid_le20 m (by omega)
      have hWm := wid_le m
      generalize hRR : bs (ofR m l) = R
      have HRR := hide hRR
      generalize ofE m l = E at *
      have HE := hide hE
      generalize wid m = W at *
      have HT := hide hT
      have HAL := hide hal
      generalize hn : l.length = ln at *
      have HN := hide hn
      clear hE hb0 hal hRR hT hn
      go_enter Tryd.func30, Tryd.ntmps30
      go_wp2_with (first | (go_at_call 52; refine (unhide hbd _).mono ?_; rintro e w1 ⟨rfl, rfl⟩) | (go_at_call 55; refine (unhide har).mono ?_; rintro e w1 ⟨rfl, rfl⟩))
      refine (unhide hem _).mono ?_
      rintro e w1 ⟨rfl, b1⟩
      obtain ⟨cap, w2, hcv, hbw, hbl⟩ := run_bytes w1 (makeP W fun _ => false)
      rw [makeP_length] at hcv
      have HB2 := hide (b1.trans (hbl.mono b1.size))
      have HBW := hide hbw
      have hgw := b1.size
      clear b1 hbw hbl hem har
      go_wp2
      go_loopw [23] (fun i wr => ∃ k : Nat, k ≤ ln ∧ i = .int .i64 k ∧ (l.take k).Nodup ∧ Bw wr w1.heap.size (makeP W (fun i => decide ((i : Int) ∈ l.take k))) ∧ Below w.heap.size w wr) (fun i _ => ln - (intOf i).toNat)
      case atStart => exact ⟨0, Nat.zero_le _, rfl, by simp, by have := unhide HBW; rwa [makeP_congr (q := fun i => decide ((i : Int) ∈ l.take 0)) (fun i hi => by simp)] at this, unhide HB2⟩
      case round =>
        clear HBW HB2
        obtain ⟨k, hk, rfl, hnd, hB, hb⟩ := hrel
        have HB := hide hb
        by_cases hlt : k < ln
        · have q1 : (k : Int) < ln := by omega
          have hlt' : k < l.length := by rw [unhide HN]; exact hlt
          obtain ⟨g, o, rfl, hc0⟩ := unhide HT k hlt'
          have hcI := cell_below hc0 hb
          obtain ⟨v0, v1⟩ := unhide HAL l[k] (List.getElem_mem hlt')
          obtain ⟨v, hv⟩ : ∃ v : Nat, l[k] = v := ⟨l[k].toNat, by omega⟩
          rw [hv] at hcI v0 v1
          have hvW : v < 8 * W := by omega
          have hlen : v / 8 < (makeP W (fun i => decide ((i : Int) ∈ l.take k))).length := by rw [makeP_length]; omega
          have hmask := hide (mask_any v)
          have hd : (v : Int).tdiv 8 = ((v / 8 : Nat) : Int) := by rw [Int.tdiv_eq_ediv_of_nonneg (by omega)]; omega
          have hd2 : (v : Int) / 8 = ((v / 8 : Nat) : Int) := by omega
          have hdW : v / 8 < W := by omega
          have hc := hB.cell (v / 8) hlen
          have hbit := makeP_bit W (fun i => decide ((i : Int) ∈ l.take k)) v
          rw [decide_eq_true hvW, Bool.true_and, bitAt_in _ _ hlen] at hbit
          have hhb := has_bit (makeP W (fun i => decide ((i : Int) ∈ l.take k)))[v / 8] v
          have hA8 := and8 (makeP W (fun i => decide ((i : Int) ∈ l.take k)))[v / 8] (maskB v)
          by_cases hin : (v : Int) ∈ l.take k
          · rw [decide_eq_true hin] at hbit
            have hne : ¬ ((makeP W (fun i => decide ((i : Int) ∈ l.take k)))[v / 8] &&& maskB v).toNat = 0 := fun h0 => by
              have := hhb.1 (UInt8.toNat_inj.1 (by rw [h0]; rfl))
              rw [hbit] at this; cases this
            have hnn : ¬ l.Nodup := fun h => by
              have h3 := List.Sublist.nodup (List.take_sublist (k + 1) l) h
              rw [List.take_succ_eq_append_getElem hlt', List.nodup_append] at h3
              exact h3.2.2 _ hin l[k] (by simp) hv.symm
            have hE5 : E = 5 := by rw [unhide HE, if_neg hnn]
            have HE5 := hide hE5
            have HR0 : Hid (R = ⟨#[]⟩) := by
              show _ = _
              rw [← unhide HRR, unhide hR, if_neg (by rw [hE5]; decide)]; rfl
            have q5 : (((((makeP W (fun i => decide ((i : Int) ∈ l.take k)))[v / 8] &&& maskB v).toNat : Nat) : Int) == 0) = false := by rw [beq_eq_false_iff_ne]; omega
            generalize (makeP W (fun i => decide ((i : Int) ∈ l.take k)))[v / 8] = x at *
            generalize v / 8 = d at *
            generalize (x &&& maskB v).toNat = y at *
            clear hB hb hnd hhb hbit hin hnn hE5 hne hc0 hlen hv hlt'
            go_wp2_with fail
            have hne := gb_ne wr
            have hcX : ∀ y : Gb wr, y.w.cell? ⟨w1.heap.size, d, none⟩ = some (.int .u8 x.toNat) := fun y => gb_cell hc y
            refine wp_region_gr (fun x => Below wr.heap.size wr x) (by kernel_rfl) (by kernel_rfl) (gb_start wr) ?_
            repeat (go_big_quiet_step ((go_at_call 57; exact gb_same (unhide hmask _))))
            refine wpQuiet_nil ?_
            rintro w7 ⟨⟨_, b7⟩, rfl⟩
            have B7 := hide ((unhide HB).trans (b7.mono (unhide HB).size))
            clear b7 hne hcX
            go_wp2
            go_ret2
            exact ⟨by rw [unhide HE5, unhide HR0]; rfl, unhide B7⟩
          · rw [decide_eq_false hin] at hbit
            have q5 : (((((makeP W (fun i => decide ((i : Int) ∈ l.take k)))[v / 8] &&& maskB v).toNat : Nat) : Int) == 0) = true := by rw [hhb.2 hbit]; rfl
            have HND := hide (nodup_take_snoc hlt' hnd (by rw [hv]; exact hin))
            have hst0 := or_step (W := W) (p := fun i => decide ((i : Int) ∈ l.take k)) hvW hlen
            have hcg : makeP W (fun i => decide ((i : Int) ∈ l.take k) || decide (i = v)) = makeP W (fun i => decide ((i : Int) ∈ l.take (k + 1))) := makeP_congr (fun i hi => by
              rw [Bool.eq_iff_iff, List.take_succ_eq_append_getElem hlt']
              simp [hv]
              constructor
              · rintro (h | h)
                · exact .inl h
                · exact .inr (by omega)
              · rintro (h | h)
                · exact .inl h
                · exact .inr (by omega))
            rw [hcg] at hst0
            clear hcg
            have hlL : (makeP W (fun i => decide ((i : Int) ∈ l.take k))).length = W := makeP_length _ _
            have HNX : Hid (makeP W (fun i => decide ((i : Int) ∈ l.take (k + 1))) = (makeP W (fun i => decide ((i : Int) ∈ l.take k))).set (v / 8) ((makeP W (fun i => decide ((i : Int) ∈ l.take k)))[v / 8] ||| maskB v)) := hst0.symm
            have HBL0 := hide hB
            generalize makeP W (fun i => decide ((i : Int) ∈ l.take k)) = L at *
            have HX := hide (or8 L[v / 8] (maskB v))
            have HV := hide (L[v / 8] ||| maskB v).toNat_lt
            generalize L[v / 8] = x at *
            generalize v / 8 = d at *
            generalize (x &&& maskB v).toNat = y at *
            clear hnd hhb hbit hin hc0 hv hlt'
            go_wp2_with fail
            have hne := gb_ne wr
            have hcX : ∀ y : Gb wr, y.w.cell? ⟨w1.heap.size, d, none⟩ = some (.int .u8 x.toNat) := fun y => gb_cell hc y
            refine wp_region_gr (fun x => Below wr.heap.size wr x) (by kernel_rfl) (by kernel_rfl) (gb_start wr) ?_
            repeat (go_big_quiet_step ((go_at_call 57; exact gb_same (unhide hmask _))))
            refine wpQuiet_nil ?_
            rintro w7 ⟨⟨_, b7⟩, rfl⟩
            have B7 := hide ((unhide HB).trans (b7.mono (unhide HB).size))
            have hc7 := cell_below hc b7
            have HBL := hide ((unhide HBL0).kept b7)
            clear b7 hne hcX hc HBL0 HB hcI
            have HB := B7
            have hc := hc7
            clear hc7 B7 hA8
            go_wp2_with fail
            clear q5
            clear hB hb hst0
            skip
            refine wp_region_late 9 ?A0 (by kernel_rfl) (by kernel_rfl) (by kernel_rfl) ?lex0 ?_
            case lex0 =>
              intro X
              have hneX := gb_ne X.w
              have hcX : ∀ y : Gb X.w, y.w.cell? ⟨w1.heap.size, d, none⟩ = some (.int .u8 x.toNat) := fun y => gb_cell (cell_below hc X.ok) y
              dsimp only [List.take_succ_cons, List.take_zero]
              repeat (go_big_quiet_step ((go_at_call 57; exact gb_same (unhide hmask _))))
              refine wpQuiet_nil ?_
              exact rfl
            intro w8 b8
            try simp only [List.drop_succ_cons, List.drop_zero]
            have hB8 := (unhide HBL).kept b8
            have hfr8 := hB8.free d (by omega)
            have hc8 := hB8.cell d (by omega)
            have hst := hB8.set d ((x ||| maskB v).toNat) (by omega) (by have := unhide HV; omega)
            rw [byteOf_nat, ← unhide HX] at hst
            have HST := hide hst
            have HK2 := hide (((unhide HB).trans (b8.mono (unhide HB).size)).setCell (p := ⟨w1.heap.size, d, none⟩) hgw (.int .u8 (bits .or .u8 (x.toNat : Int) ((maskB v).toNat : Int))))
            clear hst hB8 b8 HBL HX HB hc
            go_wp2_with fail
            refine onlyN ?_
            go_wp2
            go_roundw
            case rel => exact ⟨k + 1, by omega, by go_num, unhide HND, by rw [unhide HNX]; exact unhide HST, unhide HK2⟩
            case measure => simp [intOf]; omega
        · have hke : k = ln := by omega
          subst hke
          have q1 : ¬ (k : Int) < k := by omega
          have htk : l.take k = l := by rw [← unhide HN, List.take_length]
          rw [htk] at hB hnd
          have hE0 : E = 0 := by rw [unhide HE, if_pos hnd]
          have HE0 := hide hE0
          have HR0 : Hid (R = bs (makeP W (fun i => decide ((i : Int) ∈ l)))) := by
            show _ = _
            rw [← unhide HRR, unhide hR, if_pos hE0]
          have hcv2 := hB.string (cap := cap)
          rw [makeP_length, ← unhide HR0] at hcv2
          clear hB hb hnd htk hE0
          go_wp2
          go_ret2
          exact ⟨by rw [unhide HE0]; rfl, unhide HB⟩
    · rw [decide_eq_false hal] at har
      have e1 : ofE n l = 1 := by unfold ofE; rw [if_pos (fun h => hal h.2)]
      have e2 : ofR n l = [] := by unfold ofR; rw [e1]; rfl
      rw [e1, e2]
      clear e1 e2 hal hT
      generalize l.length = ln at *
      go_enter Tryd.func30, Tryd.ntmps30
      go_wp2_with (first | (go_at_call 52; refine (unhide hbd _).mono ?_; rintro e w1 ⟨rfl, rfl⟩) | (go_at_call 55; refine (unhide har).mono ?_; rintro e w1 ⟨rfl, rfl⟩))
      go_ret2
      exact ⟨rfl, Below.refl _ _⟩
  · unfold lowB at hbd
    rw [decide_eq_false hb0] at hbd
    have e1 : ofE n l = 1 := by unfold ofE; rw [if_pos (fun h => hb0 h.1)]
    have e2 : ofR n l = [] := by unfold ofR; rw [e1]; rfl
    rw [e1, e2]
    clear e1 e2 hb0 hT
    generalize l.length = ln at *
    go_enter Tryd.func30, Tryd.ntmps30
    go_wp2_with (go_at_call 52; refine (unhide hbd _).mono ?_; rintro e w1 ⟨rfl, rfl⟩)
    go_ret2
    exact ⟨rfl, Below.refl _ _⟩

end Go.Proofs.YtbodklppgcloiaaDoor

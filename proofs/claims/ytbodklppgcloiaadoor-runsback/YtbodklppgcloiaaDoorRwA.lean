/- The document's runs: Of. -/
import Derived.Test.YtbodklppgcloiaaDoorRuQ
import Derived.Test.YtbodklppgcloiaaDoorBrA
namespace Go.Proofs.YtbodklppgcloiaaDoor
open Go.RowKit
set_option linter.unusedVariables false

theorem Tryd.infoR : (Tryd.prog.info? 55).map (fun i => (i.zero, i.size, i.bytes)) = some (some (.agg #[.int .i64 0, .int .i64 0]), 2, 16) := by kernel_rfl
theorem Tryd.undR : Tryd.prog.underlying 27 = some (.slice 55) := by kernel_rfl
/-- the document's spans, of the call's own -/
def OwnR (w : World) (base : Nat) (v : Value) (l : List (Nat × Nat)) : Prop := w.ownsRow base 55 2 v l.length (pcs l)
theorem own_ge {w : World} {base n size : Nat} {e : TypeId} {v : Value} {xs : List Value} {g : Nat} (h : w.ownsRow base e size v n xs) (hg : v.ownBlock = some g) : base ≤ g := by
  rcases h.2 with ⟨h', _⟩ | ⟨g', cap', cur, h', hb, _⟩
  · rw [h'] at hg; simp [Value.ownBlock] at hg
  · rw [h'] at hg; simp [Value.ownBlock] at hg; omega
set_option maxRecDepth 100000 in
set_option maxHeartbeats 8000000 in
theorem rsof_true (m : Nat) (s q : By) (hm : m ≤ 160) (hl20 : s.length ≤ 20) (hC : chkI m s = true) (hq : ∀ j, j ≤ m → bitAt q j = (decide (j < m) && (bitAt s j == true))) (w : World) : Calls Tryd.prog 11 #[.int .i64 m, .string (bs s), .bool true] w fun e w' => ∃ v, e = .returned (.tuple #[v, .int .i64 0]) ∧ OwnR w' w.heap.size v (runsL q m) ∧ Below w.heap.size w w' := by
  obtain ⟨i0, hi, hz0, hz1, hz2⟩ := info_parts Tryd.infoR
  have hc := hide (rcheck_any m s w (by unfold maxLen; omega))
  rw [hC] at hc
  clear hC
  go_enter Tryd.func11, Tryd.ntmps11
  go_wp2_with fail
  refine (unhide hc).mono ?_
  rintro e w1 ⟨rfl, rfl⟩
  go_wp2
  go_loopw [8, 9, 10] (fun v lo i wr => ∃ k : Nat, k ≤ m + 1 ∧ i = .int .i64 k ∧ lo = .int .i64 (if (rl q k).2 < k then ((rl q k).2 : Int) else -1) ∧ wr.ownsRow w.heap.size 55 2 v (rl q k).1.length (pcs (rl q k).1) ∧ Below w.heap.size w wr) (fun _ _ i _ => m + 2 - (intOf i).toNat)
  case atStart => exact ⟨0, Nat.zero_le _, rfl, rfl, World.ownsRow_nil _ _ _ _, Below.refl _ _⟩
  case round =>
    obtain ⟨k, hk, rfl, rfl, hrow, hB⟩ := hrel
    obtain ⟨hr1, hr2⟩ := rl_le q k
    by_cases hlt : k < m + 1
    · by_cases hkm : k < m
      · have q1 : (k : Int) ≤ (m : Int) := by omega
        have q2 : (k : Int) < (m : Int) := by omega
        have hh := rhas_any s k wr (by omega) (by omega)
        rw [hasI_nat] at hh
        have hqk := hq k (by omega)
        rw [decide_eq_true hkm, Bool.true_and] at hqk
        cases hv : bitAt s k with
        | true =>
          rw [hv] at hh hqk
          have hh := hide hh
          clear hv
          replace hqk : bitAt q k = true := hqk
          by_cases hl : (rl q k).2 < k
          · rw [if_pos hl]
            have HR := hide (rl_in hqk)
            generalize hrr : rl q k = r at *
            obtain ⟨L, lo⟩ := r
            simp only at hl hr1 hr2 hrow
            have i9 : ¬ (lo : Int) < 0 := by omega
            have HROW := hide hrow
            have HB := hide hB
            have HL := hide hl
            clear hrr hrow hB hl hqk
            go_wp2_with fail
            refine (unhide hh).mono ?_
            rintro e w5 ⟨rfl, rfl⟩
            go_wp2
            go_roundw
            case rel => exact ⟨k + 1, by omega, by go_num, by rw [unhide HR, if_pos (by show lo < k + 1; have := unhide HL; omega)], by rw [unhide HR]; exact unhide HROW, unhide HB⟩
            case measure => simp [intOf]; omega
          · rw [if_neg hl]
            have HR := hide (rl_in hqk)
            generalize hrr : rl q k = r at *
            obtain ⟨L, lo⟩ := r
            simp only at hl hr1 hr2 hrow
            have hlk : lo = k := by omega
            subst hlk
            have HROW := hide hrow
            have HB := hide hB
            clear hrr hrow hB hl hqk
            go_wp2_with fail
            refine (unhide hh).mono ?_
            rintro e w5 ⟨rfl, rfl⟩
            go_wp2
            go_roundw
            case rel => exact ⟨lo + 1, by omega, by go_num, by rw [unhide HR, if_pos (by show lo < lo + 1; omega)], by rw [unhide HR]; exact unhide HROW, unhide HB⟩
            case measure => simp [intOf]; omega
        | false =>
          rw [hv] at hh hqk
          have hh := hide hh
          clear hv
          replace hqk : bitAt q k = false := hqk
          by_cases hl : (rl q k).2 < k
          · rw [if_pos hl]
            have HR := hide (rl_out hqk hl)
            generalize hrr : rl q k = r at *
            obtain ⟨L, lo⟩ := r
            simp only at hl hr1 hr2 hrow
            have i9 : (0 : Int) ≤ (lo : Int) := by omega
            obtain ⟨ao, cap, rfl⟩ := own_form2 hrow
            have HROW := hide hrow
            have HB := hide hB
            have HN : Hid (∀ j u, [Value.int .i64 (lo : Int), Value.int .i64 (k : Int)][j]? = some u → (wr.alloc (.cells #[.int .i64 (lo : Int), .int .i64 (k : Int)] 55)).cell? ((⟨wr.heap.size, 0, none⟩ : Addr).add j) = some u) := news_lit wr [_, _] _
            clear hrr hrow hB hl hqk
            go_wp2_with fail
            refine (unhide hh).mono ?_
            rintro e w5 ⟨rfl, rfl⟩
            go_wp2_with (at_builtin; refine wpList_append_own _ rfl _ _ 27 rfl w.heap.size 55 i0 (.agg #[.int .i64 0, .int .i64 0]) 2 16 Tryd.undR hi hz0 hz1 hz2 rfl (by decide) _ _ _ rfl (unhide HROW |>.alloc _) ⟨wr.heap.size, 0, none⟩ 1 1 [.int .i64 (lo : Int), .int .i64 (k : Int)] rfl rfl (unhide HN) (by intro u hu; simp at hu; rcases hu with rfl | rfl <;> rfl) (by unfold maxLen; omega) (by omega) (by have := (unhide HB).size; simp; omega) ?_; intro v' w1 hown' hgrow _; obtain ⟨ao', cap', rfl⟩ := own_form2 hown')
            have HB2 := hide (((unhide HB).alloc (unhide HB).size _).grown hgrow (by have := (unhide HB).size; simp; omega) (fun g e => own_ge (unhide HROW) e))
            go_roundw
            case rel => exact ⟨k + 1, by omega, by go_num, by rw [unhide HR, if_neg (by show ¬ k + 1 < k + 1; omega)], by rw [unhide HR, pcs_append, List.length_append]; exact hown', unhide HB2⟩
            case measure => simp [intOf]; omega
          · rw [if_neg hl]
            have HR := hide (rl_gap hqk hl)
            generalize hrr : rl q k = r at *
            obtain ⟨L, lo⟩ := r
            simp only at hl hr1 hr2 hrow
            have HROW := hide hrow
            have HB := hide hB
            clear hrr hrow hB hl hqk
            go_wp2_with fail
            refine (unhide hh).mono ?_
            rintro e w5 ⟨rfl, rfl⟩
            go_wp2
            go_roundw
            case rel => exact ⟨k + 1, by omega, by go_num, by rw [unhide HR, if_neg (by show ¬ k + 1 < k + 1; omega)], by rw [unhide HR]; exact unhide HROW, unhide HB⟩
            case measure => simp [intOf]; omega
      · have q1 : (k : Int) ≤ (m : Int) := by omega
        have q2 : ¬ (k : Int) < (m : Int) := by omega
        have hqk := hq k (by omega)
        rw [decide_eq_false hkm, Bool.false_and] at hqk
        by_cases hl : (rl q k).2 < k
        · rw [if_pos hl]
          have HR := hide (rl_out hqk hl)
          generalize hrr : rl q k = r at *
          obtain ⟨L, lo⟩ := r
          simp only at hl hr1 hr2 hrow
          have i9 : (0 : Int) ≤ (lo : Int) := by omega
          obtain ⟨ao, cap, rfl⟩ := own_form2 hrow
          have HROW := hide hrow
          have HB := hide hB
          have HN : Hid (∀ j u, [Value.int .i64 (lo : Int), Value.int .i64 (k : Int)][j]? = some u → (wr.alloc (.cells #[.int .i64 (lo : Int), .int .i64 (k : Int)] 55)).cell? ((⟨wr.heap.size, 0, none⟩ : Addr).add j) = some u) := news_lit wr [_, _] _
          clear hrr hrow hB hl hqk
          go_wp2_with (at_builtin; refine wpList_append_own _ rfl _ _ 27 rfl w.heap.size 55 i0 (.agg #[.int .i64 0, .int .i64 0]) 2 16 Tryd.undR hi hz0 hz1 hz2 rfl (by decide) _ _ _ rfl (unhide HROW |>.alloc _) ⟨wr.heap.size, 0, none⟩ 1 1 [.int .i64 (lo : Int), .int .i64 (k : Int)] rfl rfl (unhide HN) (by intro u hu; simp at hu; rcases hu with rfl | rfl <;> rfl) (by unfold maxLen; omega) (by omega) (by have := (unhide HB).size; simp; omega) ?_; intro v' w1 hown' hgrow _; obtain ⟨ao', cap', rfl⟩ := own_form2 hown')
          have HB2 := hide (((unhide HB).alloc (unhide HB).size _).grown hgrow (by have := (unhide HB).size; simp; omega) (fun g e => own_ge (unhide HROW) e))
          go_roundw
          case rel => exact ⟨k + 1, by omega, by go_num, by rw [unhide HR, if_neg (by show ¬ k + 1 < k + 1; omega)], by rw [unhide HR, pcs_append, List.length_append]; exact hown', unhide HB2⟩
          case measure => simp [intOf]; omega
        · rw [if_neg hl]
          have HR := hide (rl_gap hqk hl)
          generalize hrr : rl q k = r at *
          obtain ⟨L, lo⟩ := r
          simp only at hl hr1 hr2 hrow
          have HROW := hide hrow
          have HB := hide hB
          clear hrr hrow hB hl hqk
          go_wp2
          go_roundw
          case rel => exact ⟨k + 1, by omega, by go_num, by rw [unhide HR, if_neg (by show ¬ k + 1 < k + 1; omega)], by rw [unhide HR]; exact unhide HROW, unhide HB⟩
          case measure => simp [intOf]; omega
    · have hke : k = m + 1 := by omega
      have q1 : ¬ (k : Int) ≤ (m : Int) := by omega
      rw [hke] at hrow
      have HROW := hide hrow
      have HB := hide hB
      clear hrow hB
      generalize (if (rl q k).2 < k then ((rl q k).2 : Int) else -1) = lov at *
      obtain ⟨ao, cap, rfl⟩ := own_form2 (unhide HROW)
      clear hke
      go_wp2
      go_ret2
      exact ⟨_, rfl, unhide HROW, unhide HB⟩
set_option maxRecDepth 100000 in
set_option maxHeartbeats 8000000 in
theorem rsof_false (m : Nat) (s q : By) (hm : m ≤ 160) (hl20 : s.length ≤ 20) (hC : chkI m s = true) (hq : ∀ j, j ≤ m → bitAt q j = (decide (j < m) && (bitAt s j == false))) (w : World) : Calls Tryd.prog 11 #[.int .i64 m, .string (bs s), .bool false] w fun e w' => ∃ v, e = .returned (.tuple #[v, .int .i64 0]) ∧ OwnR w' w.heap.size v (runsL q m) ∧ Below w.heap.size w w' := by
  obtain ⟨i0, hi, hz0, hz1, hz2⟩ := info_parts Tryd.infoR
  have hc := hide (rcheck_any m s w (by unfold maxLen; omega))
  rw [hC] at hc
  clear hC
  go_enter Tryd.func11, Tryd.ntmps11
  go_wp2_with fail
  refine (unhide hc).mono ?_
  rintro e w1 ⟨rfl, rfl⟩
  go_wp2
  go_loopw [8, 9, 10] (fun v lo i wr => ∃ k : Nat, k ≤ m + 1 ∧ i = .int .i64 k ∧ lo = .int .i64 (if (rl q k).2 < k then ((rl q k).2 : Int) else -1) ∧ wr.ownsRow w.heap.size 55 2 v (rl q k).1.length (pcs (rl q k).1) ∧ Below w.heap.size w wr) (fun _ _ i _ => m + 2 - (intOf i).toNat)
  case atStart => exact ⟨0, Nat.zero_le _, rfl, rfl, World.ownsRow_nil _ _ _ _, Below.refl _ _⟩
  case round =>
    obtain ⟨k, hk, rfl, rfl, hrow, hB⟩ := hrel
    obtain ⟨hr1, hr2⟩ := rl_le q k
    by_cases hlt : k < m + 1
    · by_cases hkm : k < m
      · have q1 : (k : Int) ≤ (m : Int) := by omega
        have q2 : (k : Int) < (m : Int) := by omega
        have hh := rhas_any s k wr (by omega) (by omega)
        rw [hasI_nat] at hh
        have hqk := hq k (by omega)
        rw [decide_eq_true hkm, Bool.true_and] at hqk
        cases hv : bitAt s k with
        | true =>
          rw [hv] at hh hqk
          have hh := hide hh
          clear hv
          replace hqk : bitAt q k = false := hqk
          by_cases hl : (rl q k).2 < k
          · rw [if_pos hl]
            have HR := hide (rl_out hqk hl)
            generalize hrr : rl q k = r at *
            obtain ⟨L, lo⟩ := r
            simp only at hl hr1 hr2 hrow
            have i9 : (0 : Int) ≤ (lo : Int) := by omega
            obtain ⟨ao, cap, rfl⟩ := own_form2 hrow
            have HROW := hide hrow
            have HB := hide hB
            have HN : Hid (∀ j u, [Value.int .i64 (lo : Int), Value.int .i64 (k : Int)][j]? = some u → (wr.alloc (.cells #[.int .i64 (lo : Int), .int .i64 (k : Int)] 55)).cell? ((⟨wr.heap.size, 0, none⟩ : Addr).add j) = some u) := news_lit wr [_, _] _
            clear hrr hrow hB hl hqk
            go_wp2_with fail
            refine (unhide hh).mono ?_
            rintro e w5 ⟨rfl, rfl⟩
            go_wp2_with (at_builtin; refine wpList_append_own _ rfl _ _ 27 rfl w.heap.size 55 i0 (.agg #[.int .i64 0, .int .i64 0]) 2 16 Tryd.undR hi hz0 hz1 hz2 rfl (by decide) _ _ _ rfl (unhide HROW |>.alloc _) ⟨wr.heap.size, 0, none⟩ 1 1 [.int .i64 (lo : Int), .int .i64 (k : Int)] rfl rfl (unhide HN) (by intro u hu; simp at hu; rcases hu with rfl | rfl <;> rfl) (by unfold maxLen; omega) (by omega) (by have := (unhide HB).size; simp; omega) ?_; intro v' w1 hown' hgrow _; obtain ⟨ao', cap', rfl⟩ := own_form2 hown')
            have HB2 := hide (((unhide HB).alloc (unhide HB).size _).grown hgrow (by have := (unhide HB).size; simp; omega) (fun g e => own_ge (unhide HROW) e))
            go_roundw
            case rel => exact ⟨k + 1, by omega, by go_num, by rw [unhide HR, if_neg (by show ¬ k + 1 < k + 1; omega)], by rw [unhide HR, pcs_append, List.length_append]; exact hown', unhide HB2⟩
            case measure => simp [intOf]; omega
          · rw [if_neg hl]
            have HR := hide (rl_gap hqk hl)
            generalize hrr : rl q k = r at *
            obtain ⟨L, lo⟩ := r
            simp only at hl hr1 hr2 hrow
            have HROW := hide hrow
            have HB := hide hB
            clear hrr hrow hB hl hqk
            go_wp2_with fail
            refine (unhide hh).mono ?_
            rintro e w5 ⟨rfl, rfl⟩
            go_wp2
            go_roundw
            case rel => exact ⟨k + 1, by omega, by go_num, by rw [unhide HR, if_neg (by show ¬ k + 1 < k + 1; omega)], by rw [unhide HR]; exact unhide HROW, unhide HB⟩
            case measure => simp [intOf]; omega
        | false =>
          rw [hv] at hh hqk
          have hh := hide hh
          clear hv
          replace hqk : bitAt q k = true := hqk
          by_cases hl : (rl q k).2 < k
          · rw [if_pos hl]
            have HR := hide (rl_in hqk)
            generalize hrr : rl q k = r at *
            obtain ⟨L, lo⟩ := r
            simp only at hl hr1 hr2 hrow
            have i9 : ¬ (lo : Int) < 0 := by omega
            have HROW := hide hrow
            have HB := hide hB
            have HL := hide hl
            clear hrr hrow hB hl hqk
            go_wp2_with fail
            refine (unhide hh).mono ?_
            rintro e w5 ⟨rfl, rfl⟩
            go_wp2
            go_roundw
            case rel => exact ⟨k + 1, by omega, by go_num, by rw [unhide HR, if_pos (by show lo < k + 1; have := unhide HL; omega)], by rw [unhide HR]; exact unhide HROW, unhide HB⟩
            case measure => simp [intOf]; omega
          · rw [if_neg hl]
            have HR := hide (rl_in hqk)
            generalize hrr : rl q k = r at *
            obtain ⟨L, lo⟩ := r
            simp only at hl hr1 hr2 hrow
            have hlk : lo = k := by omega
            subst hlk
            have HROW := hide hrow
            have HB := hide hB
            clear hrr hrow hB hl hqk
            go_wp2_with fail
            refine (unhide hh).mono ?_
            rintro e w5 ⟨rfl, rfl⟩
            go_wp2
            go_roundw
            case rel => exact ⟨lo + 1, by omega, by go_num, by rw [unhide HR, if_pos (by show lo < lo + 1; omega)], by rw [unhide HR]; exact unhide HROW, unhide HB⟩
            case measure => simp [intOf]; omega
      · have q1 : (k : Int) ≤ (m : Int) := by omega
        have q2 : ¬ (k : Int) < (m : Int) := by omega
        have hqk := hq k (by omega)
        rw [decide_eq_false hkm, Bool.false_and] at hqk
        by_cases hl : (rl q k).2 < k
        · rw [if_pos hl]
          have HR := hide (rl_out hqk hl)
          generalize hrr : rl q k = r at *
          obtain ⟨L, lo⟩ := r
          simp only at hl hr1 hr2 hrow
          have i9 : (0 : Int) ≤ (lo : Int) := by omega
          obtain ⟨ao, cap, rfl⟩ := own_form2 hrow
          have HROW := hide hrow
          have HB := hide hB
          have HN : Hid (∀ j u, [Value.int .i64 (lo : Int), Value.int .i64 (k : Int)][j]? = some u → (wr.alloc (.cells #[.int .i64 (lo : Int), .int .i64 (k : Int)] 55)).cell? ((⟨wr.heap.size, 0, none⟩ : Addr).add j) = some u) := news_lit wr [_, _] _
          clear hrr hrow hB hl hqk
          go_wp2_with (at_builtin; refine wpList_append_own _ rfl _ _ 27 rfl w.heap.size 55 i0 (.agg #[.int .i64 0, .int .i64 0]) 2 16 Tryd.undR hi hz0 hz1 hz2 rfl (by decide) _ _ _ rfl (unhide HROW |>.alloc _) ⟨wr.heap.size, 0, none⟩ 1 1 [.int .i64 (lo : Int), .int .i64 (k : Int)] rfl rfl (unhide HN) (by intro u hu; simp at hu; rcases hu with rfl | rfl <;> rfl) (by unfold maxLen; omega) (by omega) (by have := (unhide HB).size; simp; omega) ?_; intro v' w1 hown' hgrow _; obtain ⟨ao', cap', rfl⟩ := own_form2 hown')
          have HB2 := hide (((unhide HB).alloc (unhide HB).size _).grown hgrow (by have := (unhide HB).size; simp; omega) (fun g e => own_ge (unhide HROW) e))
          go_roundw
          case rel => exact ⟨k + 1, by omega, by go_num, by rw [unhide HR, if_neg (by show ¬ k + 1 < k + 1; omega)], by rw [unhide HR, pcs_append, List.length_append]; exact hown', unhide HB2⟩
          case measure => simp [intOf]; omega
        · rw [if_neg hl]
          have HR := hide (rl_gap hqk hl)
          generalize hrr : rl q k = r at *
          obtain ⟨L, lo⟩ := r
          simp only at hl hr1 hr2 hrow
          have HROW := hide hrow
          have HB := hide hB
          clear hrr hrow hB hl hqk
          go_wp2
          go_roundw
          case rel => exact ⟨k + 1, by omega, by go_num, by rw [unhide HR, if_neg (by show ¬ k + 1 < k + 1; omega)], by rw [unhide HR]; exact unhide HROW, unhide HB⟩
          case measure => simp [intOf]; omega
    · have hke : k = m + 1 := by omega
      have q1 : ¬ (k : Int) ≤ (m : Int) := by omega
      rw [hke] at hrow
      have HROW := hide hrow
      have HB := hide hB
      clear hrow hB
      generalize (if (rl q k).2 < k then ((rl q k).2 : Int) else -1) = lov at *
      obtain ⟨ao, cap, rfl⟩ := own_form2 (unhide HROW)
      clear hke
      go_wp2
      go_ret2
      exact ⟨_, rfl, unhide HROW, unhide HB⟩
end Go.Proofs.YtbodklppgcloiaaDoor

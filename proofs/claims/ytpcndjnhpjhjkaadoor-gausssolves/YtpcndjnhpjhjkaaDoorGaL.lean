/- gauss: the numbers of a row. -/
import Derived.Test.YtpcndjnhpjhjkaaDoorGaK
namespace Go.Proofs.YtpcndjnhpjhjkaaDoor
open Go.RowKit
set_option linter.unusedVariables false
attribute [local go_sem] Oper.semAt_some

/-- the bits of a word, rising -/
def wnums (x : Nat) : List Nat := (List.range 64).filter fun i => x.testBit i
theorem wnums_zero : wnums 0 = [] := by
  unfold wnums
  rw [List.filter_eq_nil_iff]
  simp
theorem and_pred_lt {x : Nat} (hb : x < 2 ^ 64) : x &&& (x - 1) < 2 ^ 64 := Nat.lt_of_le_of_lt Nat.and_le_left hb
theorem and_pred_less {x : Nat} (hx : x ≠ 0) : x &&& (x - 1) < x := by
  have : x &&& (x - 1) ≤ x - 1 := Nat.and_le_right
  omega
theorem wnums_step {x : Nat} (hx : x ≠ 0) (hb : x < 2 ^ 64) : wnums x = fb x :: wnums (x &&& (x - 1)) := by
  have hb2 : x < 2 ^ 200 := Nat.lt_of_lt_of_le hb (Nat.pow_le_pow_right (by omega) (by omega))
  obtain ⟨h1, h2⟩ := fb_spec hx hb2
  have ht : fb x < 64 := (Nat.pow_lt_pow_iff_right (show 1 < 2 by omega)).1 (Nat.lt_of_le_of_lt (Nat.ge_two_pow_of_testBit h1) hb)
  refine eq_of_ord (fun x : Nat => x) _ _ (List.Pairwise.filter _ List.pairwise_lt_range) (List.pairwise_cons.2 ⟨fun y hy => ?_, List.Pairwise.filter _ List.pairwise_lt_range⟩) (fun i => ?_)
  · unfold wnums at hy
    rw [List.mem_filter, and_pred hx hb] at hy
    simp only [Bool.and_eq_true, decide_eq_true_eq] at hy
    have := fb_le hb2 hy.2.1
    omega
  · unfold wnums
    rw [List.mem_cons, List.mem_filter, List.mem_filter, and_pred hx hb, List.mem_range]
    simp only [Bool.and_eq_true, decide_eq_true_eq]
    constructor
    · rintro ⟨a, b⟩
      by_cases e : i = fb x
      · exact .inl e
      · exact .inr ⟨a, b, e⟩
    · rintro (e | ⟨a, b, _⟩)
      · rw [e]; exact ⟨ht, h1⟩
      · exact ⟨a, b⟩
/-- the numbers of the first k words -/
def nk (R : Nat) : Nat → List Nat
  | 0 => []
  | k + 1 => nk R k ++ (wnums (wd R k)).map fun i => 64 * k + i
theorem nk_mem (R : Nat) : ∀ (k i : Nat), i ∈ nk R k ↔ i < 64 * k ∧ R.testBit i = true
  | 0, i => by simp [nk]
  | k + 1, i => by
    unfold nk
    rw [List.mem_append, nk_mem R k i, List.mem_map]
    constructor
    · rintro (⟨a, b⟩ | ⟨j, hj, rfl⟩)
      · exact ⟨by omega, b⟩
      · unfold wnums at hj
        rw [List.mem_filter, List.mem_range] at hj
        have := hj.1
        rw [wd_bit R k j hj.1] at hj
        exact ⟨by omega, hj.2⟩
    · rintro ⟨a, b⟩
      by_cases h : i < 64 * k
      · exact .inl ⟨h, b⟩
      · refine .inr ⟨i - 64 * k, ?_, by omega⟩
        unfold wnums
        rw [List.mem_filter, List.mem_range, wd_bit R k _ (by omega), show 64 * k + (i - 64 * k) = i by omega]
        exact ⟨by omega, b⟩
theorem nk_ord (R : Nat) : ∀ (k : Nat), (nk R k).Pairwise (· < ·)
  | 0 => List.Pairwise.nil
  | k + 1 => by
    unfold nk
    refine List.pairwise_append.2 ⟨nk_ord R k, ?_, fun x hx y hy => ?_⟩
    · rw [List.pairwise_map]
      exact List.Pairwise.imp (fun h => by omega) (List.Pairwise.filter _ List.pairwise_lt_range)
    · have h1 := (nk_mem R k x).1 hx
      obtain ⟨j, _, rfl⟩ := List.mem_map.1 hy
      omega
theorem nk_nums {R n : Nat} (hn : n ≤ 192) (hR : R < 2 ^ n) : nk R 3 = numsR n R := by
  refine eq_of_ord (fun x : Nat => x) _ _ (nk_ord R 3) (List.Pairwise.filter _ List.pairwise_lt_range) (fun i => ?_)
  rw [nk_mem]
  unfold numsR
  rw [List.mem_filter, List.mem_range]
  constructor
  · rintro ⟨_, b⟩
    exact ⟨(Nat.pow_lt_pow_iff_right (show 1 < 2 by omega)).1 (Nat.lt_of_le_of_lt (Nat.ge_two_pow_of_testBit b) hR), b⟩
  · rintro ⟨a, b⟩
    exact ⟨by omega, b⟩
theorem wnums_len (x : Nat) : (wnums x).length ≤ 64 := by
  unfold wnums
  have := List.length_filter_le (fun i => x.testBit i) (List.range 64)
  simpa using this
theorem nk_len (R : Nat) : ∀ k, (nk R k).length ≤ 64 * k
  | 0 => by simp [nk]
  | k + 1 => by
    unfold nk
    have := nk_len R k
    have := wnums_len (wd R k)
    rw [List.length_append, List.length_map]
    omega
theorem wrap_pred (x : Nat) (hx : x ≠ 0) (hb : x < 2 ^ 64) : IntKind.u64.wrap ((x : Int) - 1) = ((x - 1 : Nat) : Int) := by
  simp [IntKind.wrap, IntKind.bits, IntKind.signed]
  omega
theorem zs_append (a b : List Nat) : zs (a ++ b) = zs a ++ zs b := by simp [zs]
set_option maxRecDepth 100000 in
set_option maxHeartbeats 1000000 in
theorem numbers_any (R : Nat) (w : World) (hT : Tz w) :
    Calls Tryd.prog 32 #[rowV R] w fun e w' => ∃ v, e = .returned v ∧ w'.ownsRow w.heap.size 3 1 v (nk R 3).length (ic (zs (nk R 3))) ∧ Below w.heap.size w w' := by
  have HT := hide hT
  have hw0 : 0 < w.heap.size := cell_lt (hT 0 (by omega))
  obtain ⟨i0, hi, hz0, hz1, hz2⟩ : ∃ i, Tryd.prog.info? 3 = some i ∧ i.zero = some (.int .i64 0) ∧ i.size = 1 ∧ i.bytes = 8 := by
    have h := Tryd.infoI
    cases hh : Tryd.prog.info? 3 with
    | none => rw [hh] at h; cases h
    | some i =>
      rw [hh] at h
      simp only [Option.map_some, Option.some.injEq, Prod.mk.injEq] at h
      exact ⟨i, rfl, h.1, h.2.1, h.2.2⟩
  unfold rowV
  clear hT
  go_enter Tryd.func32, Tryd.ntmps32
  go_wp2_with fail
  go_loopw [3, 7] (fun v u wr => ∃ k : Nat, k ≤ 3 ∧ u = .int .i64 k ∧ wr.ownsRow w.heap.size 3 1 v (nk R k).length (ic (zs (nk R k))) ∧ Below w.heap.size w wr) (fun _ u _ => 3 - (intOf u).toNat)
  case atStart => exact ⟨0, by omega, rfl, World.ownsRow_nil _ _ _ _, (Below.refl _ _).alloc (Nat.le_refl _) _⟩
  case round =>
    obtain ⟨k, hk, rfl, hO, hB⟩ := hrel
    obtain ⟨ao, cap, rfl⟩ := own_shape' hO
    by_cases hlt : k < 3
    · have q1 : (k : Int) < 3 := by omega
      have hix : ∀ W, (Instr.index 68 (.agg #[.int .u64 (wd R 0), .int .u64 (wd R 1), .int .u64 (wd R 2)]) (.int .i64 k)).run Tryd.prog W = .ok (.int .u64 (wd R k)) W := fun W => by
        obtain rfl | rfl | rfl : k = 0 ∨ k = 1 ∨ k = 2 := by omega
        all_goals kernel_rfl
      have HO := hide hO
      have HB := hide hB
      clear hO hB
      go_wp2_with fail
      have hnk1 := nk_len R (k + 1)
      go_loopw [3, 5] (fun v u wr2 => ∃ (cw : Nat) (N : List Nat), u = .int .u64 cw ∧ cw < 2 ^ 64 ∧ N ++ (wnums cw).map (fun i => 64 * k + i) = nk R (k + 1) ∧ wr2.ownsRow w.heap.size 3 1 v N.length (ic (zs N)) ∧ Below w.heap.size w wr2) (fun _ u _ => (intOf u).toNat)
      case atStart => exact ⟨wd R k, nk R k, rfl, wd_lt R k, rfl, unhide HO, unhide HB⟩
      case round =>
        clear HO HB hix
        obtain ⟨cw, N, rfl, hcw, hN, hO2, hB2⟩ := hrel
        obtain ⟨ao2, cap2, rfl⟩ := own_shape' hO2
        by_cases h0 : cw = 0
        · subst h0
          have HN : Hid (N = nk R (k + 1)) := by
            have := hN
            rw [wnums_zero, List.map_nil, List.append_nil] at this
            exact this
          have HO := hide hO2
          have HB := hide hB2
          clear hO2 hB2 hN
          go_wp2
          go_roundw
          case rel => exact ⟨k + 1, by omega, by go_num, by rw [← unhide HN]; exact unhide HO, unhide HB⟩
          case measure => simp [intOf]; omega
        · have htz := hide (tz_any cw h0 hcw _ ((unhide HT).below hB2))
          have hst := wnums_step h0 hcw
          have HN2 : Hid ((N ++ [64 * k + fb cw]) ++ (wnums (cw &&& (cw - 1))).map (fun i => 64 * k + i) = nk R (k + 1)) := by
            show _ = _
            rw [← hN, hst]
            simp
          have hNl : N.length + 1 ≤ 192 := by
            have h1 := congrArg List.length (unhide HN2)
            rw [List.length_append, List.length_append] at h1
            have h2 := nk_len R (k + 1)
            simp at h1
            omega
          have hand := bits_and_u64_nat cw (cw - 1) hcw (by omega)
          rw [← wrap_pred cw h0 hcw] at hand
          have HC2 : Hid (cw &&& (cw - 1) < 2 ^ 64) := and_pred_lt hcw
          have HC3 : Hid (cw &&& (cw - 1) < cw) := and_pred_less h0
          have hfb : fb cw < 64 := by
            obtain ⟨t, m, ht, _, hf⟩ := low_form h0 hcw
            omega
          have HZ : Hid (ic (zs (N ++ [64 * k + fb cw])) = ic (zs N) ++ [.int .i64 ((k : Int) * 64 + (fb cw : Nat))]) := by
            show _ = _
            rw [zs_append, ic_append]
            simp [zs, ic]
            omega
          have q2 : ((cw : Int) == 0) = false := by simp; omega
          have q3 : ¬ (cw : Int) = 0 := by omega
          have q4 : ((cw : Int) != 0) = true := by simp; omega
          have HO := hide hO2
          have HB := hide hB2
          generalize hcn : cw &&& (cw - 1) = cn at *
          generalize fb cw = t at *
          have HHC := hide hcw
          have H0 := hide h0
          clear hO2 hB2 hN hst hcn hcw
          go_wp2_with fail
          refine (unhide htz).mono ?_
          rintro e w2 ⟨rfl, rfl⟩
          go_wp2_with (at_builtin; refine wpList_append_own _ rfl _ _ 32 rfl w.heap.size 3 i0 _ 1 8 Tryd.undI hi hz0 hz1 hz2 rfl (by decide) _ _ _ rfl ((unhide HO).alloc _) _ 1 1 [.int .i64 ((k : Int) * 64 + (t : Nat))] rfl rfl (news_lit _ [_] _) ?d2 ?d3 ?d4 ?d5 ?_)
          case d2 => intro u hu; simp at hu; subst hu; rfl
          case d3 => unfold maxLen; omega
          case d4 => omega
          case d5 => have := (unhide HB).size; first | omega | (simp; omega)
          intro v' w3 hown' hgrow _
          have hb' := hide ((((unhide HB).alloc (unhide HB).size _)).grown hgrow (by have := (unhide HB).size; simp; omega) (fun k hk => (((unhide HO).lt k hk).1)))
          have ho2 : Hid (w3.ownsRow w.heap.size 3 1 v' (N ++ [64 * k + t]).length (ic (zs (N ++ [64 * k + t])))) := by
            show World.ownsRow _ _ _ _ _ _ _
            rw [unhide HZ, List.length_append]
            exact hown'
          obtain ⟨ao', cap', rfl⟩ := own_shape' hown'
          clear hown' hgrow HO HB
          go_wp2
          go_roundw
          case rel => exact ⟨cn, N ++ [64 * k + t], by go_num, unhide HC2, unhide HN2, unhide ho2, unhide hb'⟩
          case measure => have := unhide HC3; simp [intOf]; omega
    · have hk3 : k = 3 := by omega
      subst hk3
      have HO := hide hO
      have HB := hide hB
      clear hO hB
      go_wp2
      go_ret
      exact ⟨_, rfl, unhide HO, unhide HB⟩
end Go.Proofs.YtpcndjnhpjhjkaaDoor

/- Contracts of bits' With and Without, and List. -/
import Derived.Test.YtfcgbalcdnfmaaaBtC
namespace Go.Proofs.Ytfcgbalcdnfmaaa
open Go.RowKit
set_option linter.unusedVariables false

theorem dec_cast (j k : Nat) : decide ((j : Int) = (k : Int)) = decide (j = k) := decide_eq_decide.2 (by omega)
def oneE (n : Int) (s : By) (i : Int) : Int := if chkI n s = false then 3 else if ¬ (0 ≤ i ∧ i < n) then 1 else 0
theorem checkOne_any (n : Int) (s : By) (i : Int) (w : World) (hs : s.length ≤ maxLen) : Calls Try.prog 41 #[.int .i64 n, .string (bs s), .int .i64 i] w fun e w' => e = .returned (.int .i64 (oneE n s i)) ∧ Below w.heap.size w w' := by
  have hc := hide (fun w => check_any n s w hs)
  have hb := hide (isBelow_any i n)
  unfold oneE
  generalize bs s = S at *
  cases hC : chkI n s with
  | false =>
    rw [hC] at hc
    rw [if_pos rfl]
    go_enter Try.func41, Try.ntmps41
    go_wp2_with fail
    refine (unhide hc _).mono ?_
    rintro e w1 ⟨rfl, b1⟩
    have B1 := hide b1
    clear b1
    go_wp2
    go_ret
    exact ⟨rfl, unhide B1⟩
  | true =>
    rw [hC] at hc
    rw [if_neg (by simp)]
    unfold lowB at hb
    by_cases h : 0 ≤ i ∧ i < n
    · rw [decide_eq_true h] at hb
      rw [if_neg (fun h' => h' h)]
      clear h
      go_enter Try.func41, Try.ntmps41
      go_wp2_with fail
      refine (unhide hc _).mono ?_
      rintro e w1 ⟨rfl, b1⟩
      have B1 := hide b1
      clear b1
      go_wp2_with (go_at_call 42; refine (unhide hb _).mono ?_; rintro e w2 ⟨rfl, rfl⟩)
      go_ret
      exact ⟨rfl, unhide B1⟩
    · rw [decide_eq_false h] at hb
      rw [if_pos h]
      clear h
      go_enter Try.func41, Try.ntmps41
      go_wp2_with fail
      refine (unhide hc _).mono ?_
      rintro e w1 ⟨rfl, b1⟩
      have B1 := hide b1
      clear b1
      go_wp2_with (go_at_call 42; refine (unhide hb _).mono ?_; rintro e w2 ⟨rfl, rfl⟩)
      go_ret
      exact ⟨rfl, unhide B1⟩
/-- what is known where a set and a number are right -/
theorem one_facts {n : Int} {s : By} {i : Int} (h : oneE n s i = 0) : ∃ m k : Nat, n = m ∧ i = k ∧ k < m ∧ m ≤ 160 ∧ s.length = wid m ∧ chk m s = true := by
  unfold oneE at h
  split at h
  · cases h
  split at h
  · cases h
  · rename_i h1 h2
    have h2' : 0 ≤ i ∧ i < n := Classical.byContradiction h2
    obtain ⟨m, rfl⟩ : ∃ m : Nat, n = m := ⟨n.toNat, by omega⟩
    obtain ⟨k, rfl⟩ : ∃ k : Nat, i = k := ⟨i.toNat, by omega⟩
    have h3 : chk m s = true := by rw [← chkI_nat]; simpa using h1
    have h4 := chk_iff.1 h3
    exact ⟨m, k, rfl, rfl, by omega, h4.1, h4.2.1, h3⟩

/-- a set with a number -/
def withR (n : Int) (s : By) (i : Int) : By := if oneE n s i = 0 then makeP (wid n.toNat) (fun j => bitAt s j || decide ((j : Int) = i)) else []
set_option maxRecDepth 100000 in
set_option maxHeartbeats 2000000 in
theorem with_any (n : Int) (s : By) (i : Int) (w : World) (hs : s.length ≤ maxLen) : Calls Try.prog 21 #[.int .i64 n, .string (bs s), .int .i64 i] w fun e w' => e = .returned (.tuple #[.string (bs (withR n s i)), .int .i64 (oneE n s i)]) ∧ Below w.heap.size w w' := by
  have hc := hide (fun w => checkOne_any n s i w hs)
  by_cases hE : oneE n s i = 0
  · obtain ⟨m, k, rfl, rfl, hkm, hm, hl, hchk⟩ := one_facts hE
    have hR : withR m s k = makeP (wid m) (fun j => bitAt s j || decide (j = k)) := by unfold withR; rw [if_pos hE, Int.toNat_natCast]; congr 1; funext j; rw [dec_cast]
    rw [hR, hE]
    rw [hE] at hc
    have hW := wid_le20 m hm
    have hWm := wid_le m
    have hlen : k / 8 < s.length := by rw [hl]; omega
    have hst0 : s.set (k / 8) (s[k / 8] ||| maskB k) = makeP (wid m) (fun j => bitAt s j || decide (j = k)) := by
      apply eq_makeP (by rw [List.length_set, hl])
      intro j hj
      rw [bitAt_or _ _ _ hlen]
    rw [← hst0]
    have hlL := hl
    have hmask := hide (mask_any k)
    have hd : (k : Int).tdiv 8 = ((k / 8 : Nat) : Int) := by rw [Int.tdiv_eq_ediv_of_nonneg (by omega)]; omega
    have hd2 : (k : Int) / 8 = ((k / 8 : Nat) : Int) := by omega
    have hdW : k / 8 < wid m := by omega
    generalize hRR : bs (s.set (k / 8) (s[k / 8] ||| maskB k)) = R
    have HRR := hide hRR
    clear hRR hR hE hchk
    have HX := hide (or8 s[k / 8] (maskB k))
    have HV := hide (s[k / 8] ||| maskB k).toNat_lt
    go_enter Try.func21, Try.ntmps21
    go_wp2_with fail
    refine (unhide hc _).mono ?_
    rintro e w1 ⟨rfl, b1⟩
    obtain ⟨cap, wr, hcv, hB, hb⟩ := run_bytes w1 s
    rw [hl] at hcv
    have HB := hide (b1.trans (hb.mono b1.size))
    have hgw := b1.size
    have HBL := hide hB
    have hc := hB.cell (k / 8) hlen
    clear b1
    generalize wid m = W at *
    generalize s[k / 8] = x at *
    generalize k / 8 = d at *
    clear hB hb hst0
    go_wp2_with fail
    refine wp_region_late 9 ?A0 (by kernel_rfl) (by kernel_rfl) (by kernel_rfl) ?lex0 ?_
    case lex0 =>
      intro X
      have hneX := gb_ne X.w
      have hcX : ∀ y : Gb X.w, y.w.cell? ⟨w1.heap.size, d, none⟩ = some (.int .u8 x.toNat) := fun y => gb_cell (cell_below hc X.ok) y
      dsimp only [List.take_succ_cons, List.take_zero]
      repeat (go_big_quiet_step ((go_at_call 37; exact gb_same (unhide hmask _))))
      refine wpQuiet_nil ?_
      exact rfl
    intro w8 b8
    try simp only [List.drop_succ_cons, List.drop_zero]
    have hB8 := (unhide HBL).kept b8
    have hfr8 := hB8.free d (by omega)
    have hc8 := hB8.cell d (by omega)
    have hst := hB8.set d ((x ||| maskB k).toNat) (by omega) (by have := unhide HV; omega)
    rw [byteOf_nat, ← unhide HX] at hst
    have HST := hide hst
    have HK2 := hide (((unhide HB).trans (b8.mono (unhide HB).size)).setCell (p := ⟨w1.heap.size, d, none⟩) hgw (.int .u8 (bits .or .u8 (x.toNat : Int) ((maskB k).toNat : Int))))
    clear hst hB8 b8 HBL HX HB hc
    go_wp2_with fail
    refine onlyN ?_
    have hcv2 := (unhide HST).string (cap := cap)
    rw [List.length_set, hl, unhide HRR] at hcv2
    clear HST
    go_wp2
    go_ret2
    exact ⟨rfl, unhide HK2⟩
  · have hR : withR n s i = [] := by unfold withR; rw [if_neg hE]
    rw [hR]
    have q1 : ¬ oneE n s i = 0 := hE
    have q2 : (oneE n s i == 0) = false := by rw [beq_eq_false_iff_ne]; exact hE
    generalize oneE n s i = E at *
    generalize bs s = S at *
    clear hR hE
    go_enter Try.func21, Try.ntmps21
    go_wp2_with fail
    refine (unhide hc _).mono ?_
    rintro e w1 ⟨rfl, b1⟩
    have B1 := hide b1
    clear b1
    go_wp2
    go_ret2
    exact ⟨rfl, unhide B1⟩

/-- a set without a number -/
def woutR (n : Int) (s : By) (i : Int) : By := if oneE n s i = 0 then makeP (wid n.toNat) (fun j => bitAt s j && !decide ((j : Int) = i)) else []
set_option maxRecDepth 100000 in
set_option maxHeartbeats 2000000 in
theorem wout_any (n : Int) (s : By) (i : Int) (w : World) (hs : s.length ≤ maxLen) : Calls Try.prog 23 #[.int .i64 n, .string (bs s), .int .i64 i] w fun e w' => e = .returned (.tuple #[.string (bs (woutR n s i)), .int .i64 (oneE n s i)]) ∧ Below w.heap.size w w' := by
  have hc := hide (fun w => checkOne_any n s i w hs)
  by_cases hE : oneE n s i = 0
  · obtain ⟨m, k, rfl, rfl, hkm, hm, hl, hchk⟩ := one_facts hE
    have hR : woutR m s k = makeP (wid m) (fun j => bitAt s j && !decide (j = k)) := by unfold woutR; rw [if_pos hE, Int.toNat_natCast]; congr 1; funext j; rw [dec_cast]
    rw [hR, hE]
    rw [hE] at hc
    have hW := wid_le20 m hm
    have hWm := wid_le m
    have hlen : k / 8 < s.length := by rw [hl]; omega
    have hst0 : s.set (k / 8) (s[k / 8] &&& ~~~maskB k) = makeP (wid m) (fun j => bitAt s j && !decide (j = k)) := by
      apply eq_makeP (by rw [List.length_set, hl])
      intro j hj
      rw [bitAt_andNot _ _ _ hlen]
    rw [← hst0]
    have hlL := hl
    have hmask := hide (mask_any k)
    have hd : (k : Int).tdiv 8 = ((k / 8 : Nat) : Int) := by rw [Int.tdiv_eq_ediv_of_nonneg (by omega)]; omega
    have hd2 : (k : Int) / 8 = ((k / 8 : Nat) : Int) := by omega
    have hdW : k / 8 < wid m := by omega
    generalize hRR : bs (s.set (k / 8) (s[k / 8] &&& ~~~maskB k)) = R
    have HRR := hide hRR
    clear hRR hR hE hchk
    have HX := hide (andNot8 s[k / 8] (maskB k))
    have HV := hide (s[k / 8] &&& ~~~maskB k).toNat_lt
    go_enter Try.func23, Try.ntmps23
    go_wp2_with fail
    refine (unhide hc _).mono ?_
    rintro e w1 ⟨rfl, b1⟩
    obtain ⟨cap, wr, hcv, hB, hb⟩ := run_bytes w1 s
    rw [hl] at hcv
    have HB := hide (b1.trans (hb.mono b1.size))
    have hgw := b1.size
    have HBL := hide hB
    have hc := hB.cell (k / 8) hlen
    clear b1
    generalize wid m = W at *
    generalize s[k / 8] = x at *
    generalize k / 8 = d at *
    clear hB hb hst0
    go_wp2_with fail
    refine wp_region_late 9 ?A0 (by kernel_rfl) (by kernel_rfl) (by kernel_rfl) ?lex0 ?_
    case lex0 =>
      intro X
      have hneX := gb_ne X.w
      have hcX : ∀ y : Gb X.w, y.w.cell? ⟨w1.heap.size, d, none⟩ = some (.int .u8 x.toNat) := fun y => gb_cell (cell_below hc X.ok) y
      dsimp only [List.take_succ_cons, List.take_zero]
      repeat (go_big_quiet_step ((go_at_call 37; exact gb_same (unhide hmask _))))
      refine wpQuiet_nil ?_
      exact rfl
    intro w8 b8
    try simp only [List.drop_succ_cons, List.drop_zero]
    have hB8 := (unhide HBL).kept b8
    have hfr8 := hB8.free d (by omega)
    have hc8 := hB8.cell d (by omega)
    have hst := hB8.set d ((x &&& ~~~maskB k).toNat) (by omega) (by have := unhide HV; omega)
    rw [byteOf_nat, ← unhide HX] at hst
    have HST := hide hst
    have HK2 := hide (((unhide HB).trans (b8.mono (unhide HB).size)).setCell (p := ⟨w1.heap.size, d, none⟩) hgw (.int .u8 (bits .andNot .u8 (x.toNat : Int) ((maskB k).toNat : Int))))
    clear hst hB8 b8 HBL HX HB hc
    go_wp2_with fail
    refine onlyN ?_
    have hcv2 := (unhide HST).string (cap := cap)
    rw [List.length_set, hl, unhide HRR] at hcv2
    clear HST
    go_wp2
    go_ret2
    exact ⟨rfl, unhide HK2⟩
  · have hR : woutR n s i = [] := by unfold woutR; rw [if_neg hE]
    rw [hR]
    have q1 : ¬ oneE n s i = 0 := hE
    have q2 : (oneE n s i == 0) = false := by rw [beq_eq_false_iff_ne]; exact hE
    generalize oneE n s i = E at *
    generalize bs s = S at *
    clear hR hE
    go_enter Try.func23, Try.ntmps23
    go_wp2_with fail
    refine (unhide hc _).mono ?_
    rintro e w1 ⟨rfl, b1⟩
    have B1 := hide b1
    clear b1
    go_wp2
    go_ret2
    exact ⟨rfl, unhide B1⟩

end Go.Proofs.Ytfcgbalcdnfmaaa

/- The document's Add; facts of rows and their numbers. -/
import Derived.Test.YtpcndjnhpjhjkaaDoorGmM
namespace Go.Proofs.YtpcndjnhpjhjkaaDoor
open Go.RowKit
set_option linter.unusedVariables false
attribute [local go_sem] Oper.semAt_some

theorem numsR_mem {n r i : Nat} : i ∈ numsR n r ↔ i < n ∧ r.testBit i = true := by
  unfold numsR
  rw [List.mem_filter, List.mem_range]
theorem numsR_succ (n r : Nat) : numsR (n + 1) r = numsR n r ++ (if r.testBit n = true then [n] else []) := by
  unfold numsR
  rw [List.range_succ, List.filter_append]
  congr 1
  by_cases h : r.testBit n = true
  · rw [if_pos h]; simp [h]
  · rw [if_neg h]; simp [h]
theorem rowN_nums {n r : Nat} (h : r < 2 ^ n) : rowN (numsR n r) = r := by
  apply Nat.eq_of_testBit_eq
  intro i
  rw [rowN_bit]
  by_cases hi : i < n
  · cases hb : r.testBit i with
    | true => exact decide_eq_true (numsR_mem.2 ⟨hi, hb⟩)
    | false => exact decide_eq_false (fun hm => by have := (numsR_mem.1 hm).2; rw [hb] at this; cases this)
  · rw [decide_eq_false (fun hm => hi (numsR_mem.1 hm).1), Nat.testBit_lt_two_pow (Nat.lt_of_lt_of_le h (Nat.pow_le_pow_right (by omega) (by omega)))]
theorem nums_rowN {n : Nat} {ns : List Nat} (h : ∀ x ∈ ns, x < n) (hp : ns.Pairwise (· < ·)) : numsR n (rowN ns) = ns := (sorted_nums h hp).symm
theorem mem_zs {i : Nat} {ns : List Nat} : (i : Int) ∈ zs ns ↔ i ∈ ns := by
  unfold zs
  rw [List.mem_map]
  constructor
  · rintro ⟨x, hx, e⟩
    have : x = i := by omega
    rw [← this]; exact hx
  · intro h; exact ⟨i, h, rfl⟩
set_option maxRecDepth 100000 in
set_option maxHeartbeats 1000000 in
theorem radd_any (n : Nat) (a b : List Nat) (a0 b0 : Option Addr) (c d : Nat) (hn : n ≤ 160) (ha : a.length ≤ 100000) (hb : b.length ≤ 100000) (w : World) (hA : Ints w a0 (zs a)) (hB : Ints w b0 (zs b)) :
    Calls Tryd.prog 26 #[.int .i64 n, .slice a0 a.length c, .slice b0 b.length d] w fun e w' => ∃ v, e = .returned v ∧ w'.ownsRow w.heap.size 3 1 v (numsR n (rowN a ^^^ rowN b)).length (ic (zs (numsR n (rowN a ^^^ rowN b)))) ∧ Below w.heap.size w w' := by
  have h1 : Hid (∀ (i : Nat) W, Below w.heap.size w W → Calls Tryd.prog 25 #[.slice a0 a.length c, .int .i64 (i : Int)] W fun e w' => e = .returned (.bool ((rowN a).testBit i)) ∧ W = w') := fun i W hW => by
    have := ghas_any (zs a) (i : Int) a0 c (by rw [zs_length]; unfold maxLen; omega) W (hA.below hW)
    rw [zs_length] at this
    rw [rowN_bit, show decide (i ∈ a) = decide ((i : Int) ∈ zs a) by simp [mem_zs]]
    exact this
  have h2 : Hid (∀ (i : Nat) W, Below w.heap.size w W → Calls Tryd.prog 25 #[.slice b0 b.length d, .int .i64 (i : Int)] W fun e w' => e = .returned (.bool ((rowN b).testBit i)) ∧ W = w') := fun i W hW => by
    have := ghas_any (zs b) (i : Int) b0 d (by rw [zs_length]; unfold maxLen; omega) W (hB.below hW)
    rw [zs_length] at this
    rw [rowN_bit, show decide (i ∈ b) = decide ((i : Int) ∈ zs b) by simp [mem_zs]]
    exact this
  obtain ⟨i0, hi, hz0, hz1, hz2⟩ : ∃ i, Tryd.prog.info? 3 = some i ∧ i.zero = some (.int .i64 0) ∧ i.size = 1 ∧ i.bytes = 8 := by
    have h := Tryd.infoI
    cases hh : Tryd.prog.info? 3 with
    | none => rw [hh] at h; cases h
    | some i =>
      rw [hh] at h
      simp only [Option.map_some, Option.some.injEq, Prod.mk.injEq] at h
      exact ⟨i, rfl, h.1, h.2.1, h.2.2⟩
  generalize rowN a = ra at *
  generalize rowN b = rb at *
  generalize a.length = la at *
  generalize b.length = lb at *
  clear hA hB
  go_enter Tryd.func26, Tryd.ntmps26
  go_wp2_with fail
  go_loopw [7, 8] (fun v u wr => ∃ k : Nat, k ≤ n ∧ u = .int .i64 k ∧ wr.ownsRow w.heap.size 3 1 v (numsR k (ra ^^^ rb)).length (ic (zs (numsR k (ra ^^^ rb)))) ∧ Below w.heap.size w wr) (fun _ u _ => n - (intOf u).toNat)
  case atStart => exact ⟨0, by omega, rfl, World.ownsRow_nil _ _ _ _, Below.refl _ _⟩
  case round =>
    obtain ⟨k, hk, rfl, hO, hW⟩ := hrel
    obtain ⟨ao, cap, rfl⟩ := own_shape' hO
    have hfl := numsR_len k (ra ^^^ rb)
    by_cases hlt : k < n
    · have q1 : (k : Int) < n := by omega
      have k1 := hide (unhide h1 k wr hW)
      have k2 := hide (unhide h2 k wr hW)
      have HS : Hid (numsR (k + 1) (ra ^^^ rb) = numsR k (ra ^^^ rb) ++ (if (ra.testBit k ^^ rb.testBit k) = true then [k] else [])) := by
        show _ = _
        rw [numsR_succ, Nat.testBit_xor]
      have HO := hide hO
      have HW := hide hW
      generalize hN : numsR k (ra ^^^ rb) = N at *
      by_cases hx : (ra.testBit k ^^ rb.testBit k) = true
      · rw [if_pos hx] at HS
        have d1 : (ra.testBit k == rb.testBit k) = false := by
          cases h3 : ra.testBit k <;> cases h4 : rb.testBit k <;> simp_all
        generalize ra.testBit k = x at *
        generalize rb.testBit k = y at *
        clear hO hW hx hN
        go_wp2_with fail
        refine (unhide k1).mono ?_
        rintro e w1 ⟨rfl, rfl⟩
        go_wp2_with fail
        refine (unhide k2).mono ?_
        rintro e w1 ⟨rfl, rfl⟩
        have hzw := (unhide HW).size
        go_wp2_with (at_builtin; refine wpList_append_own _ rfl _ _ 32 rfl w.heap.size 3 i0 _ 1 8 Tryd.undI hi hz0 hz1 hz2 rfl (by decide) _ _ _ rfl ((unhide HO).alloc _) ⟨wr.heap.size, 0, none⟩ 1 1 [.int .i64 (k : Int)] rfl rfl (news_lit _ [_] _) ?d2 ?d3 ?d4 ?d5 ?_)
        case d2 => intro u hu; simp at hu; subst hu; rfl
        case d3 => unfold maxLen; omega
        case d4 => omega
        case d5 => first | omega | (simp; omega)
        intro v' w3 hown' hgrow _
        have hb' := hide ((((unhide HW).alloc (by omega) _)).grown hgrow (by simp; omega) (fun k hk => (((unhide HO).lt k hk).1)))
        have ho2 : Hid (w3.ownsRow w.heap.size 3 1 v' (numsR (k + 1) (ra ^^^ rb)).length (ic (zs (numsR (k + 1) (ra ^^^ rb))))) := by
          show World.ownsRow _ _ _ _ _ _ _
          rw [unhide HS, zs_append, ic_append, List.length_append]
          exact hown'
        obtain ⟨ao', cap', rfl⟩ := own_shape' hown'
        clear hown' hgrow HO HW
        go_wp2
        go_roundw
        case rel => exact ⟨k + 1, by omega, by go_num, unhide ho2, unhide hb'⟩
        case measure => simp [intOf]; omega
      · rw [if_neg hx, List.append_nil] at HS
        have d1 : (ra.testBit k == rb.testBit k) = true := by
          cases h3 : ra.testBit k <;> cases h4 : rb.testBit k <;> simp_all
        generalize ra.testBit k = x at *
        generalize rb.testBit k = y at *
        clear hO hW hx hN
        go_wp2_with fail
        refine (unhide k1).mono ?_
        rintro e w1 ⟨rfl, rfl⟩
        go_wp2_with fail
        refine (unhide k2).mono ?_
        rintro e w1 ⟨rfl, rfl⟩
        go_wp2
        go_roundw
        case rel => exact ⟨k + 1, by omega, by go_num, by rw [unhide HS]; exact unhide HO, unhide HW⟩
        case measure => simp [intOf]; omega
    · have hkn : k = n := by omega
      subst hkn
      have q1 : ¬ (k : Int) < k := by omega
      have HO := hide hO
      have HW := hide hW
      clear hO hW
      go_wp2
      go_ret
      exact ⟨_, rfl, unhide HO, unhide HW⟩
end Go.Proofs.YtpcndjnhpjhjkaaDoor

/- Contracts of the document's Unpack and Either; mathematics of both. -/
import Derived.Test.YtbodklppgcloiaaDoorRwD
namespace Go.Proofs.YtbodklppgcloiaaDoor
open Go.RowKit Go.Shelf
set_option linter.unusedVariables false
attribute [local go_sem] Oper.semAt_some

/-- the numbers below n of q numbers from a on -/
def inN (n a : Nat) : Nat → List Int
  | 0 => []
  | q + 1 => if a + q < n then inN n a q ++ [((a + q : Nat) : Int)] else inN n a q
theorem inN_len (n a q : Nat) : (inN n a q).length ≤ q := by
  induction q with
  | zero => simp [inN]
  | succ q ih =>
    unfold inN
    split
    · rw [List.length_append, List.length_singleton]; omega
    · omega
theorem inN_all {n a q : Nat} (h : a + q ≤ n) : inN n a q = (List.range q).map fun (i : Nat) => (a : Int) + (i : Int) := by
  induction q with
  | zero => rfl
  | succ q ih =>
    unfold inN
    rw [if_pos (by omega), ih (by omega), List.range_succ, List.map_append]
    rfl
/-- what the document reads of packed bytes -/
def dN (n : Nat) : Nat → By → List Int
  | e, a :: b :: t => if e ≤ n then inN n (e + a.toNat) b.toNat ++ dN n (e + a.toNat + b.toNat) t else []
  | _, _ => []
theorem gNums_cons (x : Int × Int) (l : List (Int × Int)) : gNums (x :: l) = ((List.range (x.2 - x.1).toNat).map fun (i : Nat) => x.1 + (i : Int)) ++ gNums l := by simp [gNums]
theorem dN_nums {n : Nat} : ∀ (t : By) (e : Nat), e ≤ n → (∀ x ∈ pkd e t, x.1 < x.2 ∧ x.2 ≤ n) → dN n e t = gNums (toI (pkd e t))
  | [], e, _, _ => rfl
  | [a], e, _, h => by have := h (e + a.toNat, e + a.toNat) (by simp [pkd]); simp at this
  | a :: b :: t, e, he, h => by
    have h1 := (h (e + a.toNat, e + a.toNat + b.toNat) (by simp [pkd])).2
    simp only at h1
    have ih := dN_nums t (e + a.toNat + b.toNat) h1 (fun x hx => h x (by simp [pkd, hx]))
    show (if e ≤ n then _ else _) = gNums ((((e + a.toNat : Nat) : Int), ((e + a.toNat + b.toNat : Nat) : Int)) :: toI (pkd (e + a.toNat + b.toNat) t))
    rw [if_pos he, ih, gNums_cons, inN_all h1]
    have hq : (((e + a.toNat + b.toNat : Nat) : Int) - ((e + a.toNat : Nat) : Int)).toNat = b.toNat := by omega
    simp only [hq]
theorem mem_gNums {l : List (Int × Int)} {i : Int} : i ∈ gNums l ↔ ∃ x ∈ l, x.1 ≤ i ∧ i < x.2 := by
  unfold gNums
  rw [List.mem_flatMap]
  constructor
  · rintro ⟨x, hx, h⟩
    obtain ⟨q, hq, rfl⟩ := List.mem_map.1 h
    rw [List.mem_range] at hq
    exact ⟨x, hx, by omega, by omega⟩
  · rintro ⟨x, hx, h1, h2⟩
    exact ⟨x, hx, List.mem_map.2 ⟨(i - x.1).toNat, List.mem_range.2 (by omega), by omega⟩⟩
theorem cov_gNums (l : List (Int × Int)) (i : Int) : covB l i = decide (i ∈ gNums l) := by
  rw [Bool.eq_iff_iff, decide_eq_true_iff, covB_iff, mem_gNums]
  constructor
  · rintro ⟨k, x, h1, h2⟩
    exact ⟨x, List.mem_of_getElem? h1, h2⟩
  · rintro ⟨x, h1, h2⟩
    obtain ⟨k, hk⟩ := List.getElem?_of_mem h1
    exact ⟨k, x, hk, h2⟩
theorem mkL_bit (n : Nat) (l : List Int) (i : Nat) : bitAt (mkL n l) i = (decide (i < n) && decide ((i : Int) ∈ l)) := by
  unfold mkL
  rw [makeP_bit]
  have := wid_le n
  rcases Nat.lt_or_ge i n with h | h
  · rw [decide_eq_true h, decide_eq_true (by omega), Bool.true_and]
  · rw [decide_eq_false (p := i < n) (by omega), Bool.false_and, Bool.and_false]
theorem mkL_chk (n : Nat) (hn : n ≤ 160) (l : List Int) : chk n (mkL n l) = true := by
  refine chk_iff.2 ⟨hn, by unfold mkL; rw [makeP_length], fun i _ h2 => ?_⟩
  rw [mkL_bit, decide_eq_false (by omega), Bool.false_and]
theorem toI_inj {a b : List (Nat × Nat)} (h : toI a = toI b) : a = b := by
  unfold toI at h
  refine List.map_inj_right (fun x y e => ?_) |>.1 h
  simp only [Prod.mk.injEq] at e
  exact Prod.ext (by omega) (by omega)
theorem ok_all {n : Int} {l : List (Int × Int)} (h : gOk n l) (x : Int × Int) (hx : x ∈ l) : x.1 < x.2 ∧ x.2 ≤ n := by
  obtain ⟨k, hk⟩ := List.getElem?_of_mem hx
  have := gNext_iff.1 (h k x hk)
  omega
theorem doc_unp (n : Nat) (hn : n ≤ 160) (t : By) : (packR n (mkL n (dN n 0 t)) = t ∧ unpR n t = mkL n (dN n 0 t) ∧ unpE n t = 0) ∨ (packR n (mkL n (dN n 0 t)) ≠ t ∧ unpR n t = [] ∧ unpE n t = 3) := by
  have hc := mkL_chk n hn (dN n 0 t)
  by_cases hok : gOk n (toI (pkd 0 t))
  · have hall : ∀ x ∈ pkd 0 t, x.1 < x.2 ∧ x.2 ≤ n := fun x hx => by
      have := ok_all hok ((x.1 : Int), (x.2 : Int)) (List.mem_map.2 ⟨x, hx, rfl⟩)
      simp only at this
      omega
    have hd := dN_nums t 0 (Nat.zero_le _) hall
    have hu := uniq_runs hok (mkL n (dN n 0 t)) (fun i => by rw [mkL_bit, hd, cov_gNums])
    have hr := toI_inj hu
    refine .inl ⟨?_, ?_⟩
    · rw [(pack_eq hc).1, hr]
      exact pkB_pkd t 0 (fun x hx => (hall x hx).1)
    · have := gat_runs hc 3
      rw [hu] at this
      exact this
  · refine .inr ⟨fun h => hok ?_, ?_, ?_⟩
    · have h2 := pkd_pkB _ _ (chn_ok (chk_le hc) (runs_ok hc))
      rw [← (pack_eq hc).1, h] at h2
      rw [h2]
      exact runs_ok hc
    · unfold unpR gatR
      rw [if_neg (fun h => hok h.2)]
    · unfold unpE gatE
      rw [toJ_eq, if_neg (fun h => h (by omega)), if_neg hok]
theorem unp_out {n : Int} (h : ¬ (0 ≤ n ∧ n ≤ 160)) (t : By) : unpR n t = [] ∧ unpE n t = 1 := by
  unfold unpR unpE gatR gatE
  rw [if_neg (fun h' => h h'.1), if_pos h]
  exact ⟨rfl, rfl⟩
/-- what one has and the other has not, below k -/
def eiN (a b : By) : Nat → List Int
  | 0 => []
  | k + 1 => if (bitAt a k != bitAt b k) = true then eiN a b k ++ [(k : Int)] else eiN a b k
theorem eiN_len (a b : By) (k : Nat) : (eiN a b k).length ≤ k := by
  induction k with
  | zero => simp [eiN]
  | succ k ih =>
    unfold eiN
    split
    · rw [List.length_append, List.length_singleton]; omega
    · omega
theorem eiN_mem (a b : By) (k : Nat) (x : Int) : x ∈ eiN a b k ↔ ∃ i : Nat, i < k ∧ (bitAt a i != bitAt b i) = true ∧ x = i := by
  induction k with
  | zero => simp [eiN]
  | succ k ih =>
    unfold eiN
    split
    · rename_i hc
      rw [List.mem_append, ih]
      simp only [List.mem_singleton]
      constructor
      · rintro (⟨i, h1, h2, h3⟩ | h)
        · exact ⟨i, by omega, h2, h3⟩
        · exact ⟨k, by omega, hc, h⟩
      · rintro ⟨i, h1, h2, h3⟩
        rcases Nat.lt_or_ge i k with h | h
        · exact .inl ⟨i, h, h2, h3⟩
        · exact .inr (by rw [h3, show i = k by omega])
    · rename_i hc
      rw [ih]
      constructor
      · rintro ⟨i, h1, h2, h3⟩; exact ⟨i, by omega, h2, h3⟩
      · rintro ⟨i, h1, h2, h3⟩
        rcases Nat.lt_or_ge i k with h | h
        · exact ⟨i, h, h2, h3⟩
        · rw [show i = k by omega] at h2; exact absurd h2 hc
theorem either_eq {n : Nat} {a b : By} (ha : chk n a = true) (hb : chk n b = true) : mkL n (eiN a b n) = xorL a b := by
  obtain ⟨c, l, hx⟩ := xor_facts ha hb
  have hn := chk_le ha
  have c2 := mkL_chk n hn (eiN a b n)
  obtain ⟨_, e1, _⟩ := chk_iff.1 c
  obtain ⟨_, e2, _⟩ := chk_iff.1 c2
  refine bits_ext (by omega) fun i _ => ?_
  rw [hx, mkL_bit]
  rcases Nat.lt_or_ge i n with h | h
  · rw [decide_eq_true h, Bool.true_and, Bool.eq_iff_iff, decide_eq_true_iff, eiN_mem]
    constructor
    · rintro ⟨j, _, h2, h3⟩
      rw [show i = j by omega]; exact h2
    · intro h2; exact ⟨i, h, h2, rfl⟩
  · rw [decide_eq_false (by omega), Bool.false_and, chk_hi ha i h, chk_hi hb i h]; rfl
set_option maxRecDepth 100000 in
set_option maxHeartbeats 1000000 in
theorem reither_any (m : Nat) (a b : By) (w : World) (hm : m ≤ 160) (ha : a.length ≤ 100000) (hb : b.length ≤ 100000) : Calls Tryd.prog 51 #[.int .i64 m, .string (bs a), .string (bs b)] w fun e w' => e = .returned (.string (bs (mkL m (eiN a b m)))) ∧ Below w.heap.size w w' := by
  have hl := eiN_len a b
  have hmk := hide (fun w a0 c hT => rmake_any m (eiN a b m) a0 c w hT (by omega) (by have := hl m; omega))
  have h1 := hide (fun (k : Nat) (hk : k ≤ 160) w => rhas_any a k w ha (by omega))
  have h2 := hide (fun (k : Nat) (hk : k ≤ 160) w => rhas_any b k w hb (by omega))
  obtain ⟨i0, hi, hz0, hz1, hz2⟩ := info_parts Tryd.infoI
  generalize bs (mkL m (eiN a b m)) = R at *
  generalize bs a = A at *
  generalize bs b = B at *
  go_enter Tryd.func51, Tryd.ntmps51
  go_wp2_with fail
  go_loopw [7, 8] (fun v i wr => ∃ k : Nat, k ≤ m ∧ i = .int .i64 k ∧ OwnI wr w.heap.size v (eiN a b k) ∧ Below w.heap.size w wr) (fun _ i _ => m - (intOf i).toNat)
  case atStart => exact ⟨0, Nat.zero_le _, rfl, World.ownsRow_nil _ _ _ _, Below.refl _ _⟩
  case round =>
    obtain ⟨k, hk, rfl, hown, hb'⟩ := hrel
    have hkl := hl k
    by_cases hlt : k < m
    · have q1 : (k : Int) < m := by omega
      have g1 := hide (fun w => unhide h1 k (by omega) w)
      have g2 := hide (fun w => unhide h2 k (by omega) w)
      rw [hasI_nat] at g1 g2
      have HS : Hid (eiN a b (k + 1) = if (bitAt a k != bitAt b k) = true then eiN a b k ++ [(k : Int)] else eiN a b k) := rfl
      generalize bitAt a k = ba at *
      generalize bitAt b k = bb at *
      generalize hEL : (eiN a b k).length = EL at *
      have HEL := hide hEL
      have hO : wr.ownsRow w.heap.size 3 1 u7 EL (ic (eiN a b k)) := by rw [← hEL]; exact hown
      obtain ⟨ao, cap, rfl⟩ := own_shape' hO
      have HO := hide hO
      have HB := hide hb'
      have hz := hb'.size
      clear hown hb' hO hEL
      cases ba with
      | true =>
        cases bb with
        | true =>
          rw [if_neg (by simp)] at HS
          have ho2 : Hid (OwnI wr w.heap.size (.slice ao EL cap) (eiN a b (k + 1))) := by
            show World.ownsRow _ _ _ _ _ _ _
            rw [unhide HS, unhide HEL]
            exact unhide HO
          go_wp2_with fail
          refine (unhide g1 _).mono ?_
          rintro e w1 ⟨rfl, rfl⟩
          go_wp2_with fail
          refine (unhide g2 _).mono ?_
          rintro e w1 ⟨rfl, rfl⟩
          go_wp2
          go_roundw
          case rel => exact ⟨k + 1, by omega, by go_num, unhide ho2, unhide HB⟩
          case measure => simp [intOf]; omega
        | false =>
          rw [if_pos (by simp)] at HS
          go_wp2_with fail
          refine (unhide g1 _).mono ?_
          rintro e w1 ⟨rfl, rfl⟩
          go_wp2_with fail
          refine (unhide g2 _).mono ?_
          rintro e w1 ⟨rfl, rfl⟩
          go_wp2_with (at_builtin; refine wpList_append_own _ rfl _ _ 47 rfl w.heap.size 3 i0 (.int .i64 0) 1 8 Tryd.undI hi hz0 hz1 hz2 rfl (by decide) _ _ _ rfl ((unhide HO).alloc _) ⟨wr.heap.size, 0, none⟩ 1 1 [.int .i64 k] rfl rfl (news_lit _ [_] _) ?d2 ?d3 ?d4 ?d5 ?_)
          case d2 => first | rfl | (intro u hu; simp at hu; subst hu; rfl)
          case d3 => unfold maxLen; omega
          case d4 => omega
          case d5 => first | omega | (simp; omega)
          intro v' w3 hown' hgrow _
          have hb' := hide ((((unhide HB).alloc (by omega) _)).grown hgrow (by simp; omega) (fun k hk => (((unhide HO).lt k hk).1)))
          have ho2 : Hid (OwnI w3 w.heap.size v' (eiN a b (k + 1))) := by
            show World.ownsRow _ _ _ _ _ _ _
            rw [unhide HS, List.length_append, unhide HEL, ic_append]
            exact hown'
          obtain ⟨ao', cap', rfl⟩ := own_shape' hown'
          clear hown' hgrow HO HB
          go_wp2
          go_roundw
          case rel => exact ⟨k + 1, by omega, by go_num, unhide ho2, unhide hb'⟩
          case measure => simp [intOf]; omega
      | false =>
        cases bb with
        | true =>
          rw [if_pos (by simp)] at HS
          go_wp2_with fail
          refine (unhide g1 _).mono ?_
          rintro e w1 ⟨rfl, rfl⟩
          go_wp2_with fail
          refine (unhide g2 _).mono ?_
          rintro e w1 ⟨rfl, rfl⟩
          go_wp2_with (at_builtin; refine wpList_append_own _ rfl _ _ 47 rfl w.heap.size 3 i0 (.int .i64 0) 1 8 Tryd.undI hi hz0 hz1 hz2 rfl (by decide) _ _ _ rfl ((unhide HO).alloc _) ⟨wr.heap.size, 0, none⟩ 1 1 [.int .i64 k] rfl rfl (news_lit _ [_] _) ?d2 ?d3 ?d4 ?d5 ?_)
          case d2 => first | rfl | (intro u hu; simp at hu; subst hu; rfl)
          case d3 => unfold maxLen; omega
          case d4 => omega
          case d5 => first | omega | (simp; omega)
          intro v' w3 hown' hgrow _
          have hb' := hide ((((unhide HB).alloc (by omega) _)).grown hgrow (by simp; omega) (fun k hk => (((unhide HO).lt k hk).1)))
          have ho2 : Hid (OwnI w3 w.heap.size v' (eiN a b (k + 1))) := by
            show World.ownsRow _ _ _ _ _ _ _
            rw [unhide HS, List.length_append, unhide HEL, ic_append]
            exact hown'
          obtain ⟨ao', cap', rfl⟩ := own_shape' hown'
          clear hown' hgrow HO HB
          go_wp2
          go_roundw
          case rel => exact ⟨k + 1, by omega, by go_num, unhide ho2, unhide hb'⟩
          case measure => simp [intOf]; omega
        | false =>
          rw [if_neg (by simp)] at HS
          have ho2 : Hid (OwnI wr w.heap.size (.slice ao EL cap) (eiN a b (k + 1))) := by
            show World.ownsRow _ _ _ _ _ _ _
            rw [unhide HS, unhide HEL]
            exact unhide HO
          go_wp2_with fail
          refine (unhide g1 _).mono ?_
          rintro e w1 ⟨rfl, rfl⟩
          go_wp2_with fail
          refine (unhide g2 _).mono ?_
          rintro e w1 ⟨rfl, rfl⟩
          go_wp2
          go_roundw
          case rel => exact ⟨k + 1, by omega, by go_num, unhide ho2, unhide HB⟩
          case measure => simp [intOf]; omega
    · have hke : k = m := by omega
      subst hke
      have q1 : ¬ (k : Int) < k := by omega
      obtain ⟨a1, c1, rfl, hT1, _, _⟩ := hown.ints
      have HT1 := hide hT1
      have HB := hide hb'
      clear hT1 hown hb'
      generalize (eiN a b k).length = EL at *
      go_wp2_with fail
      refine (unhide hmk _ _ _ (unhide HT1)).mono ?_
      rintro e w1 ⟨rfl, b1⟩
      have B1 := hide ((unhide HB).trans (b1.mono (unhide HB).size))
      clear b1 HB
      go_wp2
      go_ret
      exact ⟨rfl, unhide B1⟩
end Go.Proofs.YtbodklppgcloiaaDoor

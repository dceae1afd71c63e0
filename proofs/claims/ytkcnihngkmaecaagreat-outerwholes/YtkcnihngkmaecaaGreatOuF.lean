/- Contracts of outer: absent. -/
import Derived.Test.YtkcnihngkmaecaaGreatOuE
namespace Go.Proofs.YtkcnihngkmaecaaGreat
open Go.RowKit
set_option linter.unusedVariables false
attribute [local go_sem] Oper.semAt_some

/-- those of the numbers whose texts are not there -/
def absL (ss : List By) (ns : List Nat) : List Nat := ns.filter fun i => decide (ss.getD i [] = [])
theorem absL_len (ss : List By) (ns : List Nat) : (absL ss ns).length ≤ ns.length := List.length_filter_le _ _
theorem absL_succ (ss : List By) (ns : List Nat) (k : Nat) (h : k < ns.length) : absL ss (ns.take (k + 1)) = absL ss (ns.take k) ++ (if ss.getD ns[k] [] = [] then [ns[k]] else []) := by
  unfold absL
  rw [List.take_succ_eq_append_getElem h, List.filter_append]
  congr 1
  by_cases e : ss.getD ns[k] [] = []
  · rw [if_pos e]
    rw [List.filter_cons_of_pos (by simpa using e)]
    rfl
  · rw [if_neg e]
    rw [List.filter_cons_of_neg (by simpa using e)]
    rfl
set_option maxRecDepth 100000 in
set_option maxHeartbeats 2000000 in
theorem absent_any (ss : List By) (a0 : Option Addr) (c : Nat) (ns : List Nat) (b0 : Option Addr) (d : Nat) (w : World) (hT : Txts w a0 ss) (hN : NumsAt w b0 ns) (h2 : ss.length ≤ 100000) (h4 : ns.length ≤ 10000) (h5 : ∀ i ∈ ns, i < ss.length) :
    Calls Tryz.prog 58 #[.slice a0 ss.length c, .slice b0 ns.length d] w fun e w' => ∃ v, e = .returned v ∧ w'.ownsRow w.heap.size 3 1 v (absL ss ns).length (ic (absL ss ns)) ∧ Below w.heap.size w w' := by
  obtain ⟨i0, hi, hz0, hz1, hz2⟩ := info_parts Tryz.infoI
  obtain ⟨m, hm⟩ : ∃ m, m = ns.length := ⟨_, rfl⟩
  have HM := hide hm
  rw [← hm]
  have hmb : m ≤ 10000 := by omega
  have HT := hide hT
  have HN := hide hN
  obtain ⟨l, hl⟩ : ∃ l, l = ss.length := ⟨_, rfl⟩
  have HL := hide hl
  rw [← hl]
  have hlb : l ≤ 100000 := by omega
  clear hT hN hm hl
  go_enter Tryz.func58, Tryz.ntmps58
  go_wp2_with fail
  go_loopw [5, 10] (fun v iv wr => ∃ k : Nat, k ≤ m ∧ iv = .int .i64 k ∧ wr.ownsRow w.heap.size 3 1 v (absL ss (ns.take k)).length (ic (absL ss (ns.take k))) ∧ Below w.heap.size w wr) (fun _ iv _ => m - (intOf iv).toNat)
  case atStart => exact ⟨0, Nat.zero_le _, rfl, World.ownsRow_nil _ _ _ _, Below.refl _ _⟩
  case round =>
    obtain ⟨k, hk, rfl, hO, hB⟩ := hrel
    by_cases hlt : k < m
    · have hlt' : k < ns.length := by rw [← unhide HM]; exact hlt
      have q1 : (k : Int) < (m : Int) := by omega
      obtain ⟨g, o, rfl, c1⟩ := unhide HN k hlt'
      have c1 := cell_below c1 hB
      have hn5 := h5 ns[k] (List.getElem_mem hlt')
      obtain ⟨g2, o2, rfl, c2⟩ := unhide HT ns[k] hn5
      have c2 := cell_below c2 hB
      have q2 : (ns[k] : Int) < (l : Int) := by have := unhide HL; omega
      have HSU := hide (absL_succ ss ns k hlt')
      have hg : ss.getD ns[k] [] = ss[ns[k]] := by simp [List.getD, hn5]
      rw [hg] at HSU
      have hab : (absL ss (ns.take k)).length ≤ 10000 := by
        have := absL_len ss (ns.take k)
        rw [List.length_take] at this
        have := unhide HM
        omega
      obtain ⟨ao, cap, rfl⟩ := own_shape' hO
      have HO := hide hO
      have HB := hide hB
      have hzz := hB.size
      have hem : (bs ss[ns[k]]).toList.isEmpty = decide (ss[ns[k]] = []) := by
        rw [ByteArray.toList_eq, bs_list]
        cases ss[ns[k]] <;> rfl
      by_cases he : ss[ns[k]] = []
      · rw [decide_eq_true he] at hem
        have hsu := unhide HSU
        rw [if_pos he] at hsu
        have HSU2 := hide hsu
        generalize hI : ns[k] = I at *
        generalize bs ss[I] = S at *
        generalize hAL : (absL ss (ns.take k)).length = AL at *
        have HAL := hide hAL
        clear hO hB hg hI he hsu HSU hAL
        go_wp2_with (at_builtin; refine wpList_append_own _ rfl _ _ 26 rfl w.heap.size 3 i0 (.int .i64 0) 1 8 Tryz.undI hi hz0 hz1 hz2 rfl (by decide) _ _ _ rfl ((unhide HO).alloc _) ⟨wr.heap.size, 0, none⟩ 1 1 [.int .i64 (I : Int)] rfl rfl (news_lit _ [_] _) ?d2 ?d3 ?d4 ?d5 ?_)
        case d2 => intro u hu; simp at hu; subst hu; rfl
        case d3 => unfold maxLen; omega
        case d4 => omega
        case d5 => first | omega | (simp; omega)
        intro v' w3 hown' hgrow _
        have hb' := hide ((((unhide HB).alloc (by omega) _)).grown hgrow (by simp; omega) (fun k hk => (((unhide HO).lt k hk).1)))
        have ho2 : Hid (w3.ownsRow w.heap.size 3 1 v' (absL ss (ns.take (k + 1))).length (ic (absL ss (ns.take (k + 1))))) := by
          show World.ownsRow _ _ _ _ _ _ _
          rw [unhide HSU2, ic_append, List.length_append, unhide HAL]
          exact hown'
        obtain ⟨ao', cap', rfl⟩ := own_shape' hown'
        clear hown' hgrow HO HB
        go_wp2
        go_roundw
        case rel => exact ⟨k + 1, by omega, by go_num, unhide ho2, unhide hb'⟩
        case measure => simp [intOf]; omega
      · rw [decide_eq_false he] at hem
        have hsu := unhide HSU
        rw [if_neg he, List.append_nil] at hsu
        have HSU2 := hide hsu
        generalize hI : ns[k] = I at *
        generalize bs ss[I] = S at *
        generalize hAL : (absL ss (ns.take k)).length = AL at *
        have HAL := hide hAL
        clear hO hB hg hI he hsu HSU hAL
        go_wp2
        go_roundw
        case rel => exact ⟨k + 1, by omega, by go_num, by rw [unhide HSU2, unhide HAL]; exact unhide HO, unhide HB⟩
        case measure => simp [intOf]; omega
    · have hke : k = ns.length := by have := unhide HM; omega
      have q1 : ¬ (k : Int) < (m : Int) := by omega
      rw [hke, List.take_length] at hO
      obtain ⟨ao, cap, rfl⟩ := own_shape' hO
      have HO := hide hO
      have HB := hide hB
      generalize hAL : (absL ss ns).length = AL at *
      have HAL := hide hAL
      clear hO hB hke hAL
      go_wp2
      go_ret
      exact ⟨_, rfl, by rw [unhide HAL]; exact unhide HO, unhide HB⟩
/-- do the rules hold all of whose texts are there? -/
def holdB (ss : List By) (L : Nat → List Nat) (size : Int) (k : Nat) : Bool := (List.range k).all fun j => !(decide ((absL ss (L j)).length = 0) && decide (sumR (pres (atN ss (L j))) size ≠ zeroL size))
theorem holdB_succ (ss : List By) (L : Nat → List Nat) (size : Int) (k : Nat) : holdB ss L size (k + 1) = (holdB ss L size k && !(decide ((absL ss (L k)).length = 0) && decide (sumR (pres (atN ss (L k))) size ≠ zeroL size))) := by
  simp [holdB, List.range_succ, List.all_append]
theorem holdB_false (ss : List By) (L : Nat → List Nat) (size : Int) {k a : Nat} (hk : k < a) (h : (!(decide ((absL ss (L k)).length = 0) && decide (sumR (pres (atN ss (L k))) size ≠ zeroL size))) = false) : holdB ss L size a = false := by
  unfold holdB
  rw [List.all_eq_false]
  exact ⟨k, List.mem_range.2 hk, by rw [h]; simp⟩
set_option maxRecDepth 100000 in
set_option maxHeartbeats 4000000 in
theorem hold_any (ss : List By) (a0 : Option Addr) (c : Nat) (base g a : Nat) (V : Nat → Value) (L : Nat → List Nat) (size : Int) (w : World) (hT : Txts w a0 ss) (hR : Rows2 w base g a V L) (ha : a ≤ 1000) (h2 : ss.length ≤ 100000) (h3 : ∀ s ∈ ss, s.length ≤ 100000) (h4 : ∀ j, (L j).length ≤ 10000) (h5 : ∀ j, ∀ i ∈ L j, i < ss.length) :
    Calls Tryz.prog 40 #[.slice (some ⟨g, 0, none⟩) a a, .slice a0 ss.length c, .int .i64 size] w fun e w' => e = .returned (.bool (holdB ss L size a)) ∧ Below w.heap.size w w' := by
  have hab := hide (fun (j : Nat) b0 d w hT hN => absent_any ss a0 c (L j) b0 d w hT hN h2 (h4 j) (h5 j))
  have hsm := hide (fun (j : Nat) b0 d w hT hN => osum_any ss a0 c (L j) b0 d size w hT hN h2 h3 (h4 j) (h5 j))
  have hze := hide (fun w => zero_any size w)
  have HT := hide hT
  have HR := hide hR
  obtain ⟨l, hl⟩ : ∃ l, l = ss.length := ⟨_, rfl⟩
  rw [← hl] at hab hsm ⊢
  clear hT hR hl
  go_enter Tryz.func40, Tryz.ntmps40
  go_wp2_with fail
  go_loopw [11] (fun iv wr => ∃ k : Nat, k ≤ a ∧ iv = .int .i64 k ∧ holdB ss L size k = true ∧ Below w.heap.size w wr) (fun iv _ => a - (intOf iv).toNat)
  case atStart => exact ⟨0, Nat.zero_le _, rfl, rfl, Below.refl _ _⟩
  case round =>
    obtain ⟨k, hk, rfl, hH, hB⟩ := hrel
    by_cases hlt : k < a
    · have q1 : (k : Int) < (a : Int) := by omega
      have hRk := (unhide HR).below hB
      have d1 := hRk.cell k hlt
      obtain ⟨b0, cc, hVk, hNm⟩ := nums_of_own (hRk.row k hlt)
      rw [hVk] at d1
      have hTk := (unhide HT).below hB
      have ha1 := hide (unhide hab k b0 cc wr hTk hNm)
      have HSU := hide (holdB_succ ss L size k)
      have HFA := hide (holdB_false ss L size hlt)
      have HTk := hide hTk
      have HNm := hide hNm
      have HB := hide hB
      have HH := hide hH
      generalize hLL : (L k).length = LL at *
      have HLL := hide hLL
      clear hRk hTk hNm hB hH hVk hLL
      go_wp2_with fail
      refine (unhide ha1).mono ?_
      rintro e w2 ⟨v2, rfl, hO2, b2⟩
      obtain ⟨ao, cap, rfl⟩ := own_shape' hO2
      have HB2 := hide ((unhide HB).trans (b2.mono (unhide HB).size))
      have hs2 := hide (unhide hsm k b0 cc w2 ((unhide HTk).below b2) ((unhide HNm).below b2))
      rw [unhide HLL] at hs2
      by_cases hz : (absL ss (L k)).length = 0
      · have qz : (((absL ss (L k)).length : Int) == 0) = true := by simp [hz]
        have hz2 := hz
        rw [hz]
        have hcmp : ((bs (sumR (pres (atN ss (L k))) size)).toList == (bs (zeroL size)).toList) = decide (sumR (pres (atN ss (L k))) size = zeroL size) := by
          rw [ByteArray.toList_eq, ByteArray.toList_eq, bs_list, bs_list]
          by_cases h : sumR (pres (atN ss (L k))) size = zeroL size
          · rw [decide_eq_true h, h]; simp
          · rw [decide_eq_false h]; simpa using h
        by_cases he : sumR (pres (atN ss (L k))) size = zeroL size
        · rw [decide_eq_true he] at hcmp
          have HK : Hid (holdB ss L size (k + 1) = true) := by
            show _ = _
            rw [unhide HSU, unhide HH, he]; simp
          generalize bs (sumR (pres (atN ss (L k))) size) = S1 at *
          generalize bs (zeroL size) = S2 at *
          clear hO2 b2 he hz qz hz2
          go_wp2_with fail
          refine (unhide hs2).mono ?_
          rintro e w3 ⟨rfl, b3⟩
          have HB3 := hide ((unhide HB2).trans (b3.mono (unhide HB2).size))
          clear b3
          go_wp2_with fail
          refine (unhide hze _).mono ?_
          rintro e w4 ⟨rfl, b4⟩
          have HB4 := hide ((unhide HB3).trans (b4.mono (unhide HB3).size))
          clear b4
          go_wp2
          go_roundw
          case rel => exact ⟨k + 1, by omega, by go_num, unhide HK, unhide HB4⟩
          case measure => simp [intOf]; omega
        · rw [decide_eq_false he] at hcmp
          have HK : Hid (holdB ss L size a = false) := unhide HFA (by rw [hz2]; simp [he])
          generalize bs (sumR (pres (atN ss (L k))) size) = S1 at *
          generalize bs (zeroL size) = S2 at *
          clear hO2 b2 he hz qz hz2
          go_wp2_with fail
          refine (unhide hs2).mono ?_
          rintro e w3 ⟨rfl, b3⟩
          have HB3 := hide ((unhide HB2).trans (b3.mono (unhide HB2).size))
          clear b3
          go_wp2_with fail
          refine (unhide hze _).mono ?_
          rintro e w4 ⟨rfl, b4⟩
          have HB4 := hide ((unhide HB3).trans (b4.mono (unhide HB3).size))
          clear b4
          go_wp2
          go_ret
          exact ⟨by rw [unhide HK]; rfl, unhide HB4⟩
      · have qz : (((absL ss (L k)).length : Int) == 0) = false := by rw [beq_eq_false_iff_ne]; omega
        have HK : Hid (holdB ss L size (k + 1) = true) := by
          show _ = _
          rw [unhide HSU, unhide HH, decide_eq_false hz]; rfl
        generalize (absL ss (L k)).length = AL at *
        clear hO2 b2 hs2
        go_wp2
        go_roundw
        case rel => exact ⟨k + 1, by omega, by go_num, unhide HK, unhide HB2⟩
        case measure => simp [intOf]; omega
    · have hke : k = a := by omega
      subst hke
      have q1 : ¬ (k : Int) < (k : Int) := by omega
      have HH := hide hH
      have HB := hide hB
      clear hH hB
      go_wp2
      go_ret
      exact ⟨by rw [unhide HH]; rfl, unhide HB⟩
end Go.Proofs.YtkcnihngkmaecaaGreat

/- The document's Set. -/
import Derived.Test.YtdelkacoidangaaDoorRwP
namespace Go.Proofs.YtdelkacoidangaaDoor
open Go.RowKit
set_option linter.unusedVariables false

/-- behind k spans at number i -/
def covS (l : List (Int × Int)) (i k : Nat) : List Int := if covB (l.take k) i then covN l i ++ [(i : Int)] else covN l i
theorem covS_zero (l : List (Int × Int)) (i : Nat) : covS l i 0 = covN l i := by unfold covS covB; simp
theorem covS_all (l : List (Int × Int)) (i : Nat) : covS l i l.length = covN l (i + 1) := by unfold covS; rw [List.take_length]; rfl
theorem covB_snoc (l : List (Int × Int)) (i : Int) (k : Nat) (h : k < l.length) : covB (l.take (k + 1)) i = (covB (l.take k) i || (decide (l[k].1 ≤ i) && decide (i < l[k].2))) := by
  unfold covB
  rw [List.take_succ_eq_append_getElem h, List.any_append]
  simp
theorem covS_has (l : List (Int × Int)) (i k : Nat) : decide ((i : Int) ∈ covS l i k) = covB (l.take k) i := by
  have hn : (i : Int) ∉ covN l i := fun h => by
    obtain ⟨j, h1, _, h3⟩ := (covN_mem l i i).1 h
    omega
  unfold covS
  cases covB (l.take k) i with
  | true => rw [if_pos rfl]; exact decide_eq_true (by simp)
  | false => rw [if_neg (by simp)]; exact decide_eq_false hn
theorem covS_len (l : List (Int × Int)) (i k : Nat) : (covS l i k).length ≤ i + 1 := by
  have := covN_len l i
  unfold covS
  split
  · rw [List.length_append, List.length_singleton]; omega
  · omega
set_option maxRecDepth 100000 in
set_option maxHeartbeats 8000000 in
theorem rset25_any (n : Int) (xs : List (Int × Int)) (a0 : Option Addr) (c : Nat) (w : World) (hS : SpR w a0 xs) (hx : xs.length ≤ 1000) : Calls Tryd.prog 14 #[.int .i64 n, .slice a0 xs.length c] w fun e w' => e = .returned (.tuple #[.string (bs (gatR n xs)), .int .i64 (gatE n 1 xs)]) ∧ Below w.heap.size w w' := by
  obtain ⟨i0, hi, hz0, hzs, hz2⟩ := info_parts Tryd.infoI
  by_cases hn : 0 ≤ n ∧ n ≤ 160
  · obtain ⟨m, rfl⟩ : ∃ m : Nat, n = m := ⟨n.toNat, by omega⟩
    have hm : m ≤ 160 := by omega
    have hm0 : ¬ (m : Int) < 0 := by omega
    have hm1 : ¬ 160 < (m : Int) := by omega
    have HS := hide hS
    obtain ⟨L, hL⟩ : ∃ L, L = xs.length := ⟨_, rfl⟩
    have HL := hide hL
    have hLb : L ≤ 1000 := by omega
    have hds := hide (doc_set m hm xs)
    rw [← hL]
    clear hS hL hn
    go_enter Tryd.func14, Tryd.ntmps14
    go_wp2
    go_loopw [6, 7] (fun v i wr => ∃ k : Nat, k ≤ m ∧ i = .int .i64 k ∧ OwnI wr w.heap.size v (covN xs k) ∧ Below w.heap.size w wr) (fun _ i _ => m - (intOf i).toNat)
    case atStart => exact ⟨0, Nat.zero_le _, rfl, World.ownsRow_nil _ _ _ _, Below.refl _ _⟩
    case round =>
      obtain ⟨k, hk, rfl, hrow, hB⟩ := hrel
      by_cases hlt : k < m
      · have q1 : (k : Int) < (m : Int) := by omega
        have HROW := hide hrow
        have HB := hide hB
        obtain ⟨ao, cc, rfl, _⟩ := hrow.ints
        clear hrow hB
        generalize hLN : (covN xs k).length = LN at *
        have HLN := hide hLN
        clear hLN
        go_wp2
        generalize wr = wo at *
        go_loopw [6, 8] (fun v j wr => ∃ q : Nat, q ≤ L ∧ j = .int .i64 q ∧ OwnI wr w.heap.size v (covS xs k q) ∧ Below w.heap.size w wr) (fun _ j _ => L - (intOf j).toNat)
        case atStart => exact ⟨0, Nat.zero_le _, rfl, by rw [covS_zero]; exact unhide HROW, unhide HB⟩
        case round =>
          obtain ⟨q, hq, rfl, hrow', hB'⟩ := hrel
          by_cases hql : q < L
          · have hql' : q < xs.length := by rw [← unhide HL]; exact hql
            have i1 : (q : Int) < (L : Int) := by omega
            obtain ⟨g, o, rfl, s1, s2⟩ := unhide HS q hql'
            have c1 := cell_below s1 hB'
            have c2 := cell_below s2 hB'
            clear s1 s2
            have hsn := covB_snoc xs k q hql'
            obtain ⟨ao', cc', rfl, hT', _⟩ := hrow'.ints
            have hha := rhas25_any (covS xs k q) k ao' cc' wr hT' (by have := covS_len xs k q; omega)
            rw [covS_has] at hha
            obtain ⟨⟨x1, x2⟩, hxe⟩ : ∃ x, xs[q] = x := ⟨_, rfl⟩
            rw [hxe] at c1 c2 hsn
            simp only at c1 c2 hsn
            have HROW' := hide hrow'
            have HB' := hide hB'
            have hcl := covS_len xs k q
            clear hxe hrow' hB' hT' hql'
            generalize hLC : (covS xs k q).length = LC at *
            have HLC := hide hLC
            clear hLC
            have hcl0 := covS_len xs k q
            by_cases h1 : x1 ≤ (k : Int)
            · have r1 : x1 ≤ (k : Int) := h1
              by_cases h2 : (k : Int) < x2
              · rw [decide_eq_true h1, decide_eq_true h2, Bool.true_and] at hsn
                cases hv : covB (xs.take q) k with
                | true =>
                  rw [hv] at hha hsn
                  have HHA := hide hha
                  have HCS : Hid (covS xs k (q + 1) = covS xs k q) := by
                    show _ = _
                    unfold covS
                    rw [hsn, hv]; rfl
                  clear hsn hv hha
                  go_wp2_with fail
                  refine (unhide HHA).mono ?_
                  rintro e w5 ⟨rfl, rfl⟩
                  go_wp2
                  go_roundw
                  case rel => exact ⟨q + 1, by omega, by go_num, by rw [unhide HCS]; exact unhide HROW', unhide HB'⟩
                  case measure => simp [intOf]; omega
                | false =>
                  rw [hv] at hha hsn
                  have HHA := hide hha
                  have HCS : Hid (covS xs k (q + 1) = covS xs k q ++ [(k : Int)]) := by
                    show _ = _
                    unfold covS
                    rw [hsn, hv]; rfl
                  have HN2 : Hid (∀ j u, [Value.int .i64 (k : Int)][j]? = some u → (wr.alloc (.cells #[.int .i64 (k : Int)] 3)).cell? ((⟨wr.heap.size, 0, none⟩ : Addr).add j) = some u) := news_lit wr [_] _
                  clear hsn hv hha
                  go_wp2_with fail
                  refine (unhide HHA).mono ?_
                  rintro e w5 ⟨rfl, rfl⟩
                  go_wp2_with (at_builtin; refine wpList_append_own _ rfl _ _ 47 rfl w.heap.size 3 i0 (.int .i64 0) 1 8 Tryd.undI hi hz0 hzs hz2 rfl (by decide) _ _ _ rfl (World.ownsRow.alloc (unhide HROW') _) ⟨wr.heap.size, 0, none⟩ 1 1 [.int .i64 (k : Int)] rfl rfl (unhide HN2) (by intro u hu; simp at hu; subst hu; rfl) (by unfold maxLen; omega) (by omega) (by have := (unhide HB').size; simp; omega) ?_; intro v' w1 hown' hgrow _; obtain ⟨ao', cap', rfl⟩ := own_shape' hown')
                  have HB2 := hide (((unhide HB').alloc (unhide HB').size _).grown hgrow (by have := (unhide HB').size; simp; omega) (fun g e => own_ge (unhide HROW') e))
                  go_roundw
                  case rel => exact ⟨q + 1, by omega, by go_num, by unfold OwnI; rw [unhide HCS, List.length_append, ic_append]; exact hown', unhide HB2⟩
                  case measure => simp [intOf]; omega
              · have HCS : Hid (covS xs k (q + 1) = covS xs k q) := by
                  show _ = _
                  unfold covS
                  rw [hsn, decide_eq_false h2, Bool.and_false, Bool.or_false]
                clear hsn hha
                go_wp2
                go_roundw
                case rel => exact ⟨q + 1, by omega, by go_num, by rw [unhide HCS]; exact unhide HROW', unhide HB'⟩
                case measure => simp [intOf]; omega
            · have HCS : Hid (covS xs k (q + 1) = covS xs k q) := by
                show _ = _
                unfold covS
                rw [hsn, decide_eq_false h1, Bool.false_and, Bool.or_false]
              clear hsn hha
              go_wp2
              go_roundw
              case rel => exact ⟨q + 1, by omega, by go_num, by rw [unhide HCS]; exact unhide HROW', unhide HB'⟩
              case measure => simp [intOf]; omega
          · have i1 : ¬ (q : Int) < (L : Int) := by omega
            have hqe : q = xs.length := by have := unhide HL; omega
            rw [hqe, covS_all] at hrow'
            have HROW' := hide hrow'
            have HB' := hide hB'
            obtain ⟨ao', cc', rfl, _⟩ := hrow'.ints
            clear hrow' hB' hqe
            go_wp2
            go_roundw
            case rel => exact ⟨k + 1, by omega, by go_num, unhide HROW', unhide HB'⟩
            case measure => simp [intOf]; omega
      · have q1 : ¬ (k : Int) < (m : Int) := by omega
        have hke : k = m := by omega
        rw [hke] at hrow
        clear hke
        obtain ⟨ao, cc, rfl, hT, _⟩ := hrow.ints
        have hmk := hide (rmake_any m (covN xs m) ao cc wr hT (by omega) (by have := covN_len xs m; omega))
        change Hid (Calls Tryd.prog _ _ wr fun e w' => e = .returned (.string (bs (docD m xs))) ∧ _) at hmk
        have hchk : chkI m (docD m xs) = true := by rw [chkI_nat]; exact docD_chk m hm xs
        have hdl : (docD m xs).length ≤ 20 := by
          obtain ⟨_, _, _, _, _, h⟩ := chkI_facts hchk
          exact h
        have hof := hide (fun w => rsof_any m (docD m xs) true w (by unfold maxLen; omega))
        unfold ofsE docR at hof
        rw [hchk, if_pos rfl, if_pos rfl, if_pos rfl, Int.toNat_natCast] at hof
        have hll : (runsL (docD m xs) m).length ≤ 161 := Nat.le_trans (rl_le _ (m + 1)).2 (by omega)
        have hsm := hide (fun b0 d w (hA : SpR w a0 xs) (hB : SpR w b0 (toI (runsL (docD m xs) m))) => same_spans xs (toI (runsL (docD m xs) m)) a0 b0 c d w hA hB (by omega) (by rw [toI_length]; omega))
        rw [← unhide HL] at hsm
        have HB := hide hB
        have HT0 := hide ((unhide HS).below hB)
        have hll2 : (covN xs m).length ≤ m := covN_len xs m
        clear hrow hB hT hchk hdl hll HS
        rcases unhide hds with ⟨d1, d2, d3⟩ | ⟨d1, d2, d3⟩
        · have HD2 := hide d2
          have HD3 := hide d3
          generalize hDS : bs (docD m xs) = DS at *
          have HDS := hide hDS
          clear hDS
          have hdec : decide (xs = toI (runsL (docD m xs) m)) = true := decide_eq_true d1
          clear d1 d2 d3 hds
          generalize (covN xs m).length = LN at *
          go_wp2_with fail
          refine (unhide hmk).mono ?_
          rintro e w3 ⟨rfl, b3⟩
          have B3 := hide ((unhide HB).trans (b3.mono (unhide HB).size))
          have HT1 := hide ((unhide HT0).below b3)
          clear b3 HB HT0 hmk
          go_wp2_with fail
          refine (unhide hof _).mono ?_
          rintro e w4 ⟨v, rfl, ho, b4⟩
          obtain ⟨b0, d, rfl, hTb⟩ := ho.own.spr
          have B4 := hide ((unhide B3).trans (b4.mono (unhide B3).size))
          have ksm := hide (unhide hsm b0 d w4 ((unhide HT1).below b4) hTb)
          clear b4 B3 HT1 ho hTb hof hsm
          rw [hdec] at ksm
          go_wp2_with fail
          refine (unhide ksm).mono ?_
          rintro e w5 ⟨rfl, b5⟩
          have B5 := hide ((unhide B4).trans (b5.mono (unhide B4).size))
          clear b5 B4 ksm
          go_wp2
          go_ret2
          exact ⟨by rw [unhide HD2, unhide HD3, unhide HDS]; rfl, unhide B5⟩
        · have HD2 := hide d2
          have HD3 := hide d3
          generalize hDS : bs (docD m xs) = DS at *
          have HDS := hide hDS
          clear hDS
          have hdec : decide (xs = toI (runsL (docD m xs) m)) = false := decide_eq_false d1
          clear d1 d2 d3 hds
          generalize (covN xs m).length = LN at *
          go_wp2_with fail
          refine (unhide hmk).mono ?_
          rintro e w3 ⟨rfl, b3⟩
          have B3 := hide ((unhide HB).trans (b3.mono (unhide HB).size))
          have HT1 := hide ((unhide HT0).below b3)
          clear b3 HB HT0 hmk
          go_wp2_with fail
          refine (unhide hof _).mono ?_
          rintro e w4 ⟨v, rfl, ho, b4⟩
          obtain ⟨b0, d, rfl, hTb⟩ := ho.own.spr
          have B4 := hide ((unhide B3).trans (b4.mono (unhide B3).size))
          have ksm := hide (unhide hsm b0 d w4 ((unhide HT1).below b4) hTb)
          clear b4 B3 HT1 ho hTb hof hsm
          rw [hdec] at ksm
          go_wp2_with fail
          refine (unhide ksm).mono ?_
          rintro e w5 ⟨rfl, b5⟩
          have B5 := hide ((unhide B4).trans (b5.mono (unhide B4).size))
          clear b5 B4 ksm
          go_wp2
          go_ret2
          exact ⟨by rw [unhide HD2, unhide HD3]; rfl, unhide B5⟩
  · have q1 : n < 0 ∨ 160 < n := by omega
    have hE : gatE n 1 xs = 1 := by
      unfold gatE
      rw [if_pos hn]
    have hR : gatR n xs = [] := by
      unfold gatR
      rw [if_neg (fun h => hn h.1)]
    rw [hE, hR]
    clear hE hR hS hn
    generalize xs.length = L at *
    go_enter Tryd.func14, Tryd.ntmps14
    rcases q1 with q1 | q1
    · go_wp2
      go_ret2
      exact ⟨rfl, Below.refl _ _⟩
    · have q0 : ¬ n < 0 := by omega
      go_wp2
      go_ret2
      exact ⟨rfl, Below.refl _ _⟩
end Go.Proofs.YtdelkacoidangaaDoor

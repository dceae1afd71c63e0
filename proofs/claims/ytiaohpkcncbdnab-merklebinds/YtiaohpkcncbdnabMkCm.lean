/- Contract of merkle's climbed. -/
import Derived.Test.YtiaohpkcncbdnabMkCl
namespace Go.Proofs.Ytiaohpkcncbdnab
open Go.RowKit
set_option linter.unusedVariables false

theorem planN_grow (j k n i : Nat) : (planN j n i).length ≤ (planN (j + k) n i).length := by
  induction k with
  | zero => exact Nat.le_refl _
  | succ k ih =>
    refine Nat.le_trans ih ?_
    show _ ≤ (planN (j + k) n i ++ _).length
    rw [List.length_append]
    omega
theorem planN_upto (j n i : Nat) (h : j ≤ 8) (hn : n ≤ 256) (hi : i < n) : (planN j n i).length ≤ (plan n i).length := by
  have := planN_grow j (8 - j) n i
  rwa [show j + (8 - j) = 8 by omega, planN_plan 8 n i hi hn] at this
theorem planN_done (j n i : Nat) (hi : i < n) (h : ¬ 1 < cl j n) : planN j n i = plan n i := by
  refine planN_plan j n i hi ?_
  rcases Nat.lt_or_ge (2 ^ j) n with h' | h'
  · exact absurd (cl_gt j n h') h
  · exact h'
theorem take_more {α : Type} (l : List α) (L : Nat) (h : L < l.length) : l.take (L + 1) = l.take L ++ [l[L]] := List.take_succ_eq_append_getElem h

set_option maxRecDepth 100000 in
set_option maxHeartbeats 4000000 in
theorem climbed_any (n i : Nat) (d : By) (path : List By) (a0 : Option Addr) (c : Nat) (w : World) (hT : Txts w a0 path) (hc : path.length ≤ c) (hcm : c ≤ maxLen) (h1 : 1 ≤ n) (h2 : n ≤ 256) (h3 : i < n) (hl : path.length = (plan n i).length) (hp : ∀ p ∈ path, p.length = 32) (hd : d.length = 32) :
    Calls Try.prog 26 #[.int .i64 n, .int .i64 i, .string (bs d), .slice a0 path.length c] w fun e w' => ∃ v, e = .returned (.tuple #[.string (bs (climbP shaSum (plan n i) d path).1), v]) ∧ OwnS w' w.heap.size v (climbP shaSum (plan n i) d path).2 ∧ Below w.heap.size w w' := by
  obtain ⟨i0, hi0, hz0, hz1, hz2⟩ := info_parts Try.infoS
  have hm8 := plan_length n i 8 h3 h2
  have HT := hide hT
  have HP := hide hp
  have HLL := hide hl
  have hm : path.length ≤ 8 := by omega
  clear hT hp hl hm8
  unfold maxLen at hcm
  go_enter Try.func26, Try.ntmps26
  go_wp2_with fail
  go_loopw [0, 1, 2, 3, 9] (fun nv iv dv pv tv wr => ∃ (j : Nat) (ap : Option Addr), j ≤ 8 ∧ nv = .int .i64 (cl j n : Nat) ∧ iv = .int .i64 (i / 2 ^ j : Nat) ∧ dv = .string (bs (climbP shaSum (planN j n i) d (path.take (planN j n i).length)).1) ∧ pv = .slice ap (path.length - (planN j n i).length) (c - (planN j n i).length) ∧ ((planN j n i).length < path.length → ∃ g o, a0 = some ⟨g, o, none⟩ ∧ ap = some ⟨g, o + (planN j n i).length, none⟩) ∧ OwnS wr w.heap.size tv (climbP shaSum (planN j n i) d (path.take (planN j n i).length)).2 ∧ (climbP shaSum (planN j n i) d (path.take (planN j n i).length)).1.length = 32 ∧ Below w.heap.size w wr) (fun nv _ _ _ _ _ => (intOf nv).toNat)
  case atStart =>
    refine ⟨0, a0, by omega, rfl, by simp, by simp [planN, climbP], by simp [planN], fun h => ?_, by simp [planN, climbP]; exact World.ownsRow_nil _ _ _ _, by simpa [planN, climbP] using hd, Below.refl _ _⟩
    obtain ⟨g, o, h', _⟩ := unhide HT 0 (by simpa [planN] using h)
    exact ⟨g, o, h', by simp [planN, h']⟩
  case round =>
    obtain ⟨j, ap, hj, rfl, rfl, rfl, rfl, hap, hown, hlen, hb⟩ := hrel
    obtain ⟨at9, c9, rfl⟩ := own_shapeN (show World.ownsRow _ _ _ _ _ _ _ from hown)
    have hzs := hb.size
    have hup := planN_upto j n i hj h2 h3
    rw [← unhide HLL] at hup
    have hI : i / 2 ^ j < 256 := Nat.lt_of_le_of_lt (Nat.div_le_self _ _) (by omega)
    have hcb := cl_le j n
    by_cases hlt : 1 < cl j n
    · have hj8 : j < 8 := by
        rcases Nat.lt_or_ge j 8 with h | h
        · exact h
        · rw [cl_one j n h1 (Nat.le_trans h2 (pow_mono8 h))] at hlt
          omega
      have hpa := hide (fun w => partner_any (cl j n) (i / 2 ^ j) w (by omega) (by omega))
      have hI2 : Hid (i / 2 ^ (j + 1) = i / 2 ^ j / 2) := by
        show _ = _
        rw [Nat.pow_succ, Nat.div_div_eq_div_mul]
      have hc2 : Hid (cl (j + 1) n = (cl j n + 1) / 2) := rfl
      obtain ⟨I2, hI2e⟩ : ∃ I2, I2 = i / 2 ^ j / 2 := ⟨_, rfl⟩
      obtain ⟨c2, hc2e⟩ : ∃ c2, c2 = (cl j n + 1) / 2 := ⟨_, rfl⟩
      rw [← hI2e] at hI2
      rw [← hc2e] at hc2
      have hst : Hid (planN (j + 1) n i = planN j n i ++ (if pt (i / 2 ^ j) < cl j n then [decide ((i / 2 ^ j) % 2 = 1)] else [])) := rfl
      have hup2 := planN_upto (j + 1) n i (by omega) h2 h3
      rw [← unhide HLL] at hup2
      by_cases hlt2 : pt (i / 2 ^ j) < cl j n
      · rw [if_pos hlt2] at hst
        rw [unhide hst, List.length_append, List.length_singleton] at hup2
        obtain ⟨g, o, rfl, rfl⟩ := hap (by omega)
        have hcell : ∃ h : (planN j n i).length < path.length, wr.cell? ⟨g, o + (planN j n i).length, none⟩ = some (.string (bs path[(planN j n i).length])) := by
          refine ⟨by omega, ?_⟩
          obtain ⟨g', o', eg, hcc⟩ := ((unhide HT).below hb) _ (show (planN j n i).length < path.length by omega)
          simp only [Option.some.injEq, Addr.mk.injEq, and_true] at eg
          obtain ⟨rfl, rfl⟩ := eg
          exact hcc
        obtain ⟨hLm, y1⟩ := hcell
        have hx32 := unhide HP _ (List.getElem_mem hLm)
        have hsn : Hid (climbP shaSum (planN (j + 1) n i) d (path.take (planN (j + 1) n i).length) = knotS shaSum (climbP shaSum (planN j n i) d (path.take (planN j n i).length)) (decide ((i / 2 ^ j) % 2 = 1), path[(planN j n i).length])) := by
          show _ = _
          rw [unhide hst, List.length_append, List.length_singleton, take_more path _ hLm, climbP_snoc]
          rw [List.length_take]
          omega
        have hln : Hid ((planN (j + 1) n i).length = (planN j n i).length + 1) := by
          show _ = _
          rw [unhide hst, List.length_append]; rfl
        rw [show decide (pt (i / 2 ^ j) < cl j n) = true from decide_eq_true hlt2] at hpa
        have hTl : (climbP shaSum (planN j n i) d (path.take (planN j n i).length)).2.length ≤ 8 := by
          rw [climbP_len shaSum _ _ _ (by rw [List.length_take]; omega), List.length_take]
          omega
        generalize climbP shaSum (planN j n i) d (path.take (planN j n i).length) = P at *
        generalize hxx : path[(planN j n i).length] = x at *
        generalize (planN j n i).length = L at *
        clear hxx hst hap
        obtain ⟨D, T⟩ := P
        simp only at hown hlen hTl ⊢
        obtain ⟨M, hM⟩ : ∃ M, M = path.length - L := ⟨_, rfl⟩
        obtain ⟨C, hC⟩ : ∃ C, C = c - L := ⟨_, rfl⟩
        rw [← hM, ← hC]
        have m1 : 1 ≤ M ∧ M ≤ C ∧ C ≤ 9223372036854775807 := by omega
        have hq : ((i / 2 ^ j : Nat) : Int).tdiv 2 = I2 := by rw [hI2e]; rfl
        have hq2 : ((cl j n : Int) + 1).tdiv 2 = c2 := by rw [hc2e]; rfl
        have hI2b : I2 < 256 := by omega
        have hc2b : c2 ≤ 256 ∧ c2 < cl j n := by omega
        have k1 := hide (fun w => knotText_any D x w (by omega) (by omega))
        have k2 := hide (fun w => knotText_any x D w (by omega) (by omega))
        have k3 := hide (fun w => msum_any (knotT D x) w (by simp [knotT]; omega))
        have k4 := hide (fun w => msum_any (knotT x D) w (by simp [knotT]; omega))
        have HO := hide (show World.ownsRow _ _ _ _ _ _ _ from hown)
        have HB := hide hb
        have HM := hide hM
        have HCe := hide hC
        clear hM hC hown hb
        have hpt : Hid (pt (i / 2 ^ j) = if (i / 2 ^ j) % 2 = 0 then (i / 2 ^ j) + 1 else (i / 2 ^ j) - 1) := rfl
        by_cases hodd : (i / 2 ^ j) % 2 = 1
        · rw [decide_eq_true hodd] at hsn
          have hjI : (pt (i / 2 ^ j) : Int) < ((i / 2 ^ j : Nat) : Int) := by
            have := unhide hpt
            rw [if_neg (by omega)] at this
            omega
          have hjN : decide (pt (i / 2 ^ j) < i / 2 ^ j) = true := decide_eq_true (by omega)
          clear hpt
          generalize cl j n = cc at *
          generalize i / 2 ^ j = I at *
          generalize pt I = J at *
          go_wp2_with fail
          refine (unhide hpa _).mono ?_
          rintro e w1 ⟨rfl, rfl⟩
          go_wp2_with fail
          go_region
          go_wp2_with fail
          refine (unhide k2 _).mono ?_
          rintro e w1 ⟨rfl, rfl⟩
          generalize hKT : knotT x D = KT at *
          have HKT := hide hKT
          clear hKT
          go_wp2_with (at_builtin; refine wpList_append_own _ rfl _ _ 22 rfl w.heap.size 9 i0 (.string ⟨#[]⟩) 1 16 Try.undS hi0 hz0 hz1 hz2 rfl (by decide) _ _ _ rfl ((unhide HO).alloc _) ⟨wr.heap.size, 0, none⟩ 1 1 [.string (bs KT)] rfl rfl (news_one' _ _ _) ?d2 ?d3 ?d4 ?d5 ?_)
          case d2 => first | rfl | (intro u hu; simp at hu; subst hu; rfl)
          case d3 => unfold maxLen; omega
          case d4 => omega
          case d5 => first | omega | (simp; omega)
          intro v9 w9 hown9 hgrow9 _
          have B9 := hide (((unhide HB).alloc hzs (.cells #[.string (bs KT)] 9)).drew.grown hgrow9 (by simp; omega) (fun q hq => ((unhide HO).lt q hq).1))
          have H9 : Hid (w9.ownsRow w.heap.size 9 1 v9 (T ++ [KT]).length (sc (T ++ [KT]))) := by
            show World.ownsRow _ _ _ _ _ _ _
            rw [sc_append, List.length_append, List.length_singleton]
            exact hown9
          obtain ⟨a9, c9, rfl⟩ := own_shapeN hown9
          clear hown9 hgrow9 HO HB
          go_wp2_with fail
          refine (unhide k4 _).mono ?_
          rintro e w8 ⟨rfl, b8⟩
          have H8 := hide (own_below2 (unhide H9) b8)
          have B8 := hide ((unhide B9).trans (b8.mono (unhide B9).size))
          have hD2 := shaSum_length KT
          clear H9 B9 b8
          go_wp2
          go_roundw
          case rel =>
            refine ⟨j + 1, if C = 1 then some ⟨g, o + L, none⟩ else some ⟨g, o + L + 1, none⟩, by omega, ?n1, ?n2, ?r1, ?r2, fun h => ?r5, ?r3, ?r4, unhide B8⟩
            case n1 => rw [unhide hc2]; congr 1
            case n2 => rw [unhide hI2]; congr 1
            case r1 => rw [unhide hsn, ← unhide HKT]; rfl
            case r2 =>
              have h1 := unhide HM
              have h2 := unhide HCe
              have h3 := unhide hln
              rw [h3, show path.length - (L + 1) = M - 1 by omega, show c - (L + 1) = C - 1 by omega]
            case r5 =>
              have h1 := unhide HM
              have h2 := unhide HCe
              rw [unhide hln] at h ⊢
              rw [if_neg (by omega)]
              exact ⟨g, o, rfl, rfl⟩
            case r3 => rw [unhide hsn]; have := unhide H8; rw [← unhide HKT] at this; exact this
            case r4 => rw [unhide hsn]; exact shaSum_length _
          case measure => simp [intOf]; omega
        · rw [decide_eq_false hodd] at hsn
          have hjI : ¬ (pt (i / 2 ^ j) : Int) < ((i / 2 ^ j : Nat) : Int) := by
            have := unhide hpt
            rw [if_pos (by omega)] at this
            omega
          have hjN : decide (pt (i / 2 ^ j) < i / 2 ^ j) = false := decide_eq_false (by omega)
          clear hpt
          generalize cl j n = cc at *
          generalize i / 2 ^ j = I at *
          generalize pt I = J at *
          go_wp2_with fail
          refine (unhide hpa _).mono ?_
          rintro e w1 ⟨rfl, rfl⟩
          go_wp2_with fail
          go_region
          go_wp2_with fail
          refine (unhide k1 _).mono ?_
          rintro e w1 ⟨rfl, rfl⟩
          generalize hKT : knotT D x = KT at *
          have HKT := hide hKT
          clear hKT
          go_wp2_with (at_builtin; refine wpList_append_own _ rfl _ _ 22 rfl w.heap.size 9 i0 (.string ⟨#[]⟩) 1 16 Try.undS hi0 hz0 hz1 hz2 rfl (by decide) _ _ _ rfl ((unhide HO).alloc _) ⟨wr.heap.size, 0, none⟩ 1 1 [.string (bs KT)] rfl rfl (news_one' _ _ _) ?d2 ?d3 ?d4 ?d5 ?_)
          case d2 => first | rfl | (intro u hu; simp at hu; subst hu; rfl)
          case d3 => unfold maxLen; omega
          case d4 => omega
          case d5 => first | omega | (simp; omega)
          intro v9 w9 hown9 hgrow9 _
          have B9 := hide (((unhide HB).alloc hzs (.cells #[.string (bs KT)] 9)).drew.grown hgrow9 (by simp; omega) (fun q hq => ((unhide HO).lt q hq).1))
          have H9 : Hid (w9.ownsRow w.heap.size 9 1 v9 (T ++ [KT]).length (sc (T ++ [KT]))) := by
            show World.ownsRow _ _ _ _ _ _ _
            rw [sc_append, List.length_append, List.length_singleton]
            exact hown9
          obtain ⟨a9, c9, rfl⟩ := own_shapeN hown9
          clear hown9 hgrow9 HO HB
          go_wp2_with fail
          refine (unhide k3 _).mono ?_
          rintro e w8 ⟨rfl, b8⟩
          have H8 := hide (own_below2 (unhide H9) b8)
          have B8 := hide ((unhide B9).trans (b8.mono (unhide B9).size))
          have hD2 := shaSum_length KT
          clear H9 B9 b8
          go_wp2
          go_roundw
          case rel =>
            refine ⟨j + 1, if C = 1 then some ⟨g, o + L, none⟩ else some ⟨g, o + L + 1, none⟩, by omega, ?n1, ?n2, ?r1, ?r2, fun h => ?r5, ?r3, ?r4, unhide B8⟩
            case n1 => rw [unhide hc2]; congr 1
            case n2 => rw [unhide hI2]; congr 1
            case r1 => rw [unhide hsn, ← unhide HKT]; rfl
            case r2 =>
              have h1 := unhide HM
              have h2 := unhide HCe
              have h3 := unhide hln
              rw [h3, show path.length - (L + 1) = M - 1 by omega, show c - (L + 1) = C - 1 by omega]
            case r5 =>
              have h1 := unhide HM
              have h2 := unhide HCe
              rw [unhide hln] at h ⊢
              rw [if_neg (by omega)]
              exact ⟨g, o, rfl, rfl⟩
            case r3 => rw [unhide hsn]; have := unhide H8; rw [← unhide HKT] at this; exact this
            case r4 => rw [unhide hsn]; exact shaSum_length _
          case measure => simp [intOf]; omega
      · rw [if_neg hlt2, List.append_nil] at hst
        rw [show decide (pt (i / 2 ^ j) < cl j n) = false from decide_eq_false hlt2] at hpa
        have HI : Hid (∃ (ap' : Option Addr), ((planN (j + 1) n i).length < path.length → ∃ g o, a0 = some ⟨g, o, none⟩ ∧ ap' = some ⟨g, o + (planN (j + 1) n i).length, none⟩) ∧ ap' = ap) := ⟨ap, by rw [unhide hst]; exact hap, rfl⟩
        have hq : ((i / 2 ^ j : Nat) : Int).tdiv 2 = I2 := by rw [hI2e]; rfl
        have hq2 : ((cl j n : Int) + 1).tdiv 2 = c2 := by rw [hc2e]; rfl
        have hI2b : I2 < 256 := by omega
        have hc2b : c2 ≤ 256 ∧ c2 < cl j n := by omega
        have HO := hide hown
        have HB := hide hb
        have HLn := hide hlen
        clear hown hb hlen hap
        have hst2 := hide (show planN (j + 1) n i = planN j n i from unhide hst)
        clear hst
        rw [unhide hst2] at HI
        generalize hPe : climbP shaSum (planN j n i) d (path.take (planN j n i).length) = P at *
        have HPe := hide hPe
        clear hPe
        generalize cl j n = cc at *
        generalize i / 2 ^ j = I at *
        generalize pt I = J at *
        go_wp2_with fail
        refine (unhide hpa _).mono ?_
        rintro e w1 ⟨rfl, rfl⟩
        go_wp2
        go_roundw
        case rel =>
          obtain ⟨ap', h6, rfl⟩ := unhide HI
          refine ⟨j + 1, ap', by omega, ?n1, ?n2, ?r1, ?r2, ?r5, ?r3, ?r4, unhide HB⟩
          case n1 => rw [unhide hc2]; congr 1
          case n2 => rw [unhide hI2]; congr 1
          case r1 => rw [unhide hst2, unhide HPe]
          case r2 => rw [unhide hst2]
          case r5 => rw [unhide hst2]; exact h6
          case r3 => rw [unhide hst2, unhide HPe]; exact unhide HO
          case r4 => rw [unhide hst2, unhide HPe]; exact unhide HLn
        case measure => simp [intOf]; omega
    · have hpd := planN_done j n i h3 hlt
      have hfull : path.take (planN j n i).length = path := by rw [hpd, ← unhide HLL, List.take_length]
      rw [hfull, hpd] at hown
      rw [hfull, hpd]
      have HO := hide hown
      have HB := hide hb
      have hq : ¬ (1 : Int) < (cl j n : Nat) := by omega
      have hqn : decide (1 < cl j n) = false := decide_eq_false hlt
      clear hown hb hlen hap hfull hpd hlt
      generalize cl j n = cc at *
      generalize i / 2 ^ j = I at *
      generalize hPe : climbP shaSum (plan n i) d path = P at *
      have HPe := hide hPe
      clear hPe
      generalize (plan n i).length = L at *
      go_wp2
      go_ret2
      exact ⟨.slice at9 P.2.length c9, by rw [unhide HPe]; rfl, by rw [unhide HPe]; exact unhide HO, unhide HB⟩

end Go.Proofs.Ytiaohpkcncbdnab

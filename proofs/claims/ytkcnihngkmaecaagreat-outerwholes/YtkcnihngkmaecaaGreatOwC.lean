/- outer: the document's Whole. -/
import Derived.Test.YtkcnihngkmaecaaGreatOwZ
import Derived.Test.YtkcnihngkmaecaaGreatEfh
namespace Go.Proofs.YtkcnihngkmaecaaGreat
open Go.RowKit
set_option linter.unusedVariables false
attribute [local go_sem] Oper.semAt_some

set_option maxRecDepth 100000 in
set_option maxHeartbeats 1000000 in
theorem dWhole_no (sd n a q : Int) (hP : plOk sd n a q = false) (a0 : Option Addr) (l c : Nat) (w : World) :
    Calls Tryz.prog 20 #[plV sd n a q, .slice a0 l c] w fun e w' => e = .returned (.tuple #[.slice none 0 0, .int .i64 1]) ∧ Below w.heap.size w w' := by
  have hck := hide (fun w => dcheck_any sd n a q w)
  rw [hP] at hck
  have hb0 : Below w.heap.size w (w.alloc (.cells #[.int .i64 sd, .int .i64 n, .int .i64 a, .int .i64 q] 24)) := (Below.refl _ w).alloc (Nat.le_refl _) _
  obtain ⟨c0, c1, c2, c3⟩ := plan_cellsD w sd n a q _ (Below.refl _ _)
  have B0 := hide hb0
  unfold plV at *
  clear hb0 hP
  go_enter Tryz.func20, Tryz.ntmps20
  go_wp2_with fail
  refine (unhide hck _).mono ?_
  rintro e w1 ⟨rfl, b1⟩
  have B1 := hide ((unhide B0).trans (b1.mono (unhide B0).size))
  clear b1 c0 c1 c2 c3
  go_wp2
  go_ret2
  exact ⟨rfl, unhide B1⟩
set_option maxRecDepth 100000 in
set_option maxHeartbeats 1000000 in
theorem dWhole_len (sd n a q : Nat) (hP : plOk sd n a q = true) (a0 : Option Addr) (l c : Nat) (hl : l ≠ n) (w : World) :
    Calls Tryz.prog 20 #[plV sd n a q, .slice a0 l c] w fun e w' => e = .returned (.tuple #[.slice none 0 0, .int .i64 1]) ∧ Below w.heap.size w w' := by
  have hck := hide (fun w => dcheck_any sd n a q w)
  have hbn : n ≤ 96 ∧ a ≤ 64 := by unfold plOk at hP; simp at hP; omega
  rw [hP] at hck
  have hb0 : Below w.heap.size w (w.alloc (.cells #[.int .i64 (sd : Int), .int .i64 (n : Int), .int .i64 (a : Int), .int .i64 (q : Int)] 24)) := (Below.refl _ w).alloc (Nat.le_refl _) _
  have hpd := hide (plan_cellsD w sd n a q)
  obtain ⟨c0, c1, c2, c3⟩ := unhide hpd _ (Below.refl _ _)
  have B0 := hide hb0
  have q1 : ((l : Int) == (n : Int)) = false := by rw [beq_eq_false_iff_ne]; omega
  unfold plV at *
  clear hb0 hP
  go_enter Tryz.func20, Tryz.ntmps20
  go_wp2_with fail
  generalize hW0 : w.alloc (.cells #[.int .i64 (sd : Int), .int .i64 (n : Int), .int .i64 (a : Int), .int .i64 (q : Int)] 24) = W0 at *
  have HW0 := hide hW0
  clear hW0
  refine (unhide hck W0).mono ?_
  rintro e w1 ⟨rfl, b1⟩
  have B1 := hide ((unhide B0).trans (b1.mono (unhide B0).size))
  clear c0 c1 c2 c3
  obtain ⟨c0, c1, c2, c3⟩ := unhide hpd w1 b1
  clear b1
  go_wp2
  go_ret2
  exact ⟨rfl, unhide B1⟩
set_option maxRecDepth 100000 in
set_option maxHeartbeats 1000000 in
theorem dWhole_siz (sd n a q : Nat) (hP : plOk sd n a q = true) (ss : List By) (a0 : Option Addr) (c : Nat) (hl : ss.length = n) (hs : szB ss = false) (w : World) (hT : Txts w a0 ss) (h3 : ∀ s ∈ ss, s.length ≤ 100000) :
    Calls Tryz.prog 20 #[plV sd n a q, .slice a0 ss.length c] w fun e w' => e = .returned (.tuple #[.slice none 0 0, .int .i64 1]) ∧ Below w.heap.size w w' := by
  have hck := hide (fun w => dcheck_any sd n a q w)
  have hbn : n ≤ 96 ∧ a ≤ 64 := by unfold plOk at hP; simp at hP; omega
  have hsz := hide (fun w hT => dsized_any ss a0 c w hT (by omega) h3)
  rw [hP] at hck
  rw [hs] at hsz
  have HT := hide hT
  have hb0 : Below w.heap.size w (w.alloc (.cells #[.int .i64 (sd : Int), .int .i64 (n : Int), .int .i64 (a : Int), .int .i64 (q : Int)] 24)) := (Below.refl _ w).alloc (Nat.le_refl _) _
  have hpd := hide (plan_cellsD w sd n a q)
  obtain ⟨c0, c1, c2, c3⟩ := unhide hpd _ (Below.refl _ _)
  have B0 := hide hb0
  generalize hll : ss.length = l at *
  have q1 : ((l : Int) != (n : Int)) = false := by rw [bne_eq_false_iff_eq]; omega
  unfold plV at *
  clear hb0 hP hs hT hll hl
  go_enter Tryz.func20, Tryz.ntmps20
  go_wp2_with fail
  generalize hW0 : w.alloc (.cells #[.int .i64 (sd : Int), .int .i64 (n : Int), .int .i64 (a : Int), .int .i64 (q : Int)] 24) = W0 at *
  have HW0 := hide hW0
  clear hW0
  refine (unhide hck W0).mono ?_
  rintro e w1 ⟨rfl, b1⟩
  have B1 := hide ((unhide B0).trans (b1.mono (unhide B0).size))
  clear c0 c1 c2 c3
  obtain ⟨c0, c1, c2, c3⟩ := unhide hpd w1 b1
  have hs1 := hide (unhide hsz w1 ((unhide HT).below (unhide B1)))
  clear b1
  go_wp2_with fail
  refine (unhide hs1).mono ?_
  rintro e w2 ⟨rfl, b2⟩
  have B2 := hide ((unhide B1).trans (b2.mono (unhide B1).size))
  clear b2 c0 c1 c2 c3
  go_wp2
  go_ret2
  exact ⟨rfl, unhide B2⟩
theorem own_below3 {w w' : World} {base n : Nat} {t : TypeId} {v : Value} {xs : List Value} (h : w.ownsRow base t 1 v n xs) (hb : Below w.heap.size w w') : w'.ownsRow base t 1 v n xs := by
  rcases h.2 with h1 | ⟨b, cap, cur, h1, h5, h6, h7⟩
  · exact ⟨h.1, .inl h1⟩
  · exact ⟨h.1, .inr ⟨b, cap, cur, h1, h5, (hb.block b (lt_of_block h6)).trans h6, h7⟩⟩
set_option maxRecDepth 100000 in
set_option maxHeartbeats 4000000 in
theorem dWhole_yes (sd n a q : Nat) (hsd : sd ≤ 72057594037927935) (hn1 : 1 ≤ n) (hn : n ≤ 96) (ha1 : 1 ≤ a) (ha : a ≤ 64) (hq1 : 1 ≤ q) (hq : q ≤ 8) (ss : List By) (a0 : Option Addr) (c : Nat) (hl : ss.length = n) (hs : szB ss = true) (w : World) (hT : Txts w a0 ss) :
    Calls Tryz.prog 20 #[plV sd n a q, .slice a0 ss.length c] w fun e w' => ∃ v, e = .returned (.tuple #[v, .int .i64 0]) ∧ OwnS w' w.heap.size v (ss ++ auxL sd n a q ss a) ∧ Below w.heap.size w w' := by
  have hP : plOk sd n a q = true := by unfold plOk; simp; omega
  have hpos : 0 < ss.length := by omega
  obtain ⟨i0, hi, hz0', hz1, hz2⟩ := info_parts Tryz.infoS
  obtain ⟨m, hm0, hm1, hm2, hall⟩ := ofS_facts hpos (by unfold szB at hs; rw [Bool.and_eq_true] at hs; exact hs.2)
  have hax := hide (fun j => aux_of (sd := sd) (a := a) (q := q) hl hn1 hm1 hm2 hall j)
  have hAX := hide (auxL_succ sd n a q ss)
  have hAL : Hid (∀ k, (auxL sd n a q ss k).length = k) := fun k => by simp [auxL]
  have hck := hide (fun w => dcheck_any sd n a q w)
  have hsz := hide (fun w hT => dsized_any ss a0 c w hT (by omega) (fun s hs => by rw [hall s hs]; omega))
  have htb := hide (fun w => dtable_any sd n a q hsd hn ha1 ha hq1 hq w)
  have hmm := hide (fun (j : Nat) (hj : j < a) b d w hT => dmem_any sd n a q j hn ha (by omega) b d w hT)
  have hsm := hide (fun j b d w hT hN => dsum_any ss m hm1 hm2 hall a0 c (memL sd a q j n) b d w hT hN (by omega) (by
    have := memL_len sd a q j n
    omega) (fun i hi => by have := memL_lt sd a q j n i hi; omega))
  rw [hP] at hck
  rw [hs] at hsz
  obtain ⟨g0, o0, rfl, cz⟩ := hT 0 hpos
  rw [Nat.add_zero, show ss[0] = ss.getD 0 [] by simp [List.getD, hpos]] at cz
  have hsz0 : (bs (ss.getD 0 [])).size = m := (bs_size _).trans hm0
  generalize bs (ss.getD 0 []) = S0 at *
  have CZ := hide cz
  have HT := hide hT
  have hb0 : Below w.heap.size w (w.alloc (.cells #[.int .i64 (sd : Int), .int .i64 (n : Int), .int .i64 (a : Int), .int .i64 (q : Int)] 24)) := (Below.refl _ w).alloc (Nat.le_refl _) _
  have hpd := hide (plan_cellsD w sd n a q)
  obtain ⟨c0, c1, c2, c3⟩ := unhide hpd _ (Below.refl _ _)
  have B0 := hide hb0
  have HL := hide hl
  rw [hl] at hsz hsm ⊢
  have q0 : (0 : Int) < (n : Int) := by omega
  unfold plV at *
  clear hb0 hP hs hT hm0 hall cz hl hpos
  go_enter Tryz.func20, Tryz.ntmps20
  go_wp2_with fail
  generalize hW0 : w.alloc (.cells #[.int .i64 (sd : Int), .int .i64 (n : Int), .int .i64 (a : Int), .int .i64 (q : Int)] 24) = W0 at *
  have HW0 := hide hW0
  clear hW0
  refine (unhide hck W0).mono ?_
  rintro e w1 ⟨rfl, b1⟩
  have B1 := hide ((unhide B0).trans (b1.mono (unhide B0).size))
  have E1 := hide b1
  clear c0 c1 c2 c3
  obtain ⟨c0, c1, c2, c3⟩ := unhide hpd w1 b1
  have hs1 := hide (unhide hsz w1 ((unhide HT).below (unhide B1)))
  clear b1
  go_wp2_with fail
  refine (unhide hs1).mono ?_
  rintro e w2 ⟨rfl, b2⟩
  have B2 := hide ((unhide B1).trans (b2.mono (unhide B1).size))
  have E2 := hide ((unhide E1).trans (b2.mono (unhide E1).size))
  clear b2 c0 c1 c2 c3
  obtain ⟨c0, c1, c2, c3⟩ := unhide hpd w2 (unhide E2)
  go_wp2_with fail
  refine (unhide htb w2).mono ?_
  rintro e w3 ⟨⟨v3, rfl, Vs, hO, hR⟩, b3⟩
  obtain ⟨rb, rc, rfl, hTab⟩ := tab_own hO hR
  have HTab := hide hTab
  have B3 := hide ((unhide B2).trans (b3.mono (unhide B2).size))
  have E3 := hide ((unhide E2).trans (b3.mono (unhide E2).size))
  have hz3 := (unhide B3).size
  clear b3 c0 c1 c2 c3 hO hR hTab
  go_wp2_with fail
  go_loopw [7, 8] (fun v u wr => ∃ k : Nat, k ≤ n ∧ u = .int .i64 k ∧ OwnS wr w3.heap.size v (ss.take k) ∧ Below w3.heap.size w3 wr) (fun _ u _ => n - (intOf u).toNat)
  case atStart => exact ⟨0, Nat.zero_le _, rfl, World.ownsRow_nil _ _ _ _, Below.refl _ _⟩
  case round =>
    obtain ⟨k, hk, rfl, hO, hB⟩ := hrel
    have HB := hide hB
    have hzr := hB.size
    have BW := hide ((unhide B3).trans (hB.mono (unhide B3).size))
    clear hB
    have hkl : (ss.take k).length = k := by have := unhide HL; rw [List.length_take]; omega
    have hOo : wr.ownsRow w3.heap.size 9 1 u7 k (sc (ss.take k)) := by
      have h := hO
      unfold OwnS at h
      rw [hkl] at h
      exact h
    obtain ⟨ao, cap, rfl⟩ := own_shape' hOo
    have HO := hide hOo
    by_cases hlt : k < n
    · have hlt' : k < ss.length := by rw [unhide HL]; exact hlt
      have q1 : (k : Int) < (n : Int) := by omega
      obtain ⟨g, o, he, c4⟩ := (unhide HT).below (unhide BW) k hlt'
      simp only [Option.some.injEq, Addr.mk.injEq, and_true] at he
      obtain ⟨rfl, rfl⟩ := he
      have HTK : Hid (ss.take (k + 1) = ss.take k ++ [ss[k]]) := List.take_succ_eq_append_getElem hlt'
      generalize hS : bs ss[k] = S at *
      have HS := hide hS
      clear hO hOo hS
      go_wp2_with (at_builtin; refine wpList_append_own _ rfl _ _ 41 rfl w3.heap.size 9 i0 (.string ⟨#[]⟩) 1 16 Tryz.undS hi hz0' hz1 hz2 rfl (by decide) _ _ _ rfl ((unhide HO).alloc _) ⟨wr.heap.size, 0, none⟩ 1 1 [.string S] rfl rfl (news_lit _ [_] _) ?d2 ?d3 ?d4 ?d5 ?_)
      case d2 => intro u hu; simp at hu; subst hu; rfl
      case d3 => unfold maxLen; omega
      case d4 => omega
      case d5 => first | omega | (simp; omega)
      intro v' w4 hown' hgrow _
      have hb' := hide ((((unhide HB).alloc (by omega) _)).grown hgrow (by simp; omega) (fun k hk => (((unhide HO).lt k hk).1)))
      have ho2 : Hid (OwnS w4 w3.heap.size v' (ss.take (k + 1))) := by
        show World.ownsRow _ _ _ _ _ _ _
        rw [unhide HTK, sc_append, List.length_append, hkl]
        have hsc : sc [ss[k]] = [.string S] := by simp [sc, unhide HS]
        rw [hsc]
        exact hown'
      obtain ⟨ao', cap', rfl⟩ := own_shape' hown'
      clear hown' hgrow HO HB
      go_wp2
      go_roundw
      case rel => exact ⟨k + 1, by omega, by go_num, unhide ho2, unhide hb'⟩
      case measure => simp [intOf]; omega
    · have hke : k = n := by omega
      subst hke
      have q1 : ¬ (k : Int) < (k : Int) := by omega
      have HO1 : Hid (OwnS wr w3.heap.size (.slice ao k cap) (ss ++ auxL sd k a q ss 0)) := by
        show OwnS _ _ _ _
        rw [show auxL sd k a q ss 0 = [] from rfl, List.append_nil]
        rw [List.take_of_length_le (by have := unhide HL; omega)] at hO
        exact hO
      clear hO hOo HO
      go_wp2_with fail
      go_loopw [7, 9] (fun v u wt => ∃ t : Nat, t ≤ a ∧ u = .int .i64 t ∧ OwnS wt w3.heap.size v (ss ++ auxL sd k a q ss t) ∧ Below w3.heap.size w3 wt) (fun _ u _ => a - (intOf u).toNat)
      case atStart => exact ⟨0, Nat.zero_le _, rfl, unhide HO1, unhide HB⟩
      case round =>
        clear HO1 HB BW hzr
        obtain ⟨t, ht, rfl, hO, hB⟩ := hrel
        have HB := hide hB
        have hzr := hB.size
        have BW := hide ((unhide B3).trans (hB.mono (unhide B3).size))
        obtain ⟨c0, c1, c2, c3⟩ := unhide hpd wr ((unhide E3).trans (hB.mono (unhide E3).size))
        clear hB
        have hkl' : (ss ++ auxL sd k a q ss t).length = k + t := by rw [List.length_append, unhide HL, unhide hAL t]
        have hOo : wr.ownsRow w3.heap.size 9 1 u7 (k + t) (sc (ss ++ auxL sd k a q ss t)) := by
          have h := hO
          unfold OwnS at h
          rw [hkl'] at h
          exact h
        obtain ⟨ao, cap, rfl⟩ := own_shape' hOo
        have HO := hide hOo
        by_cases hlt : t < a
        · have q2 : (t : Int) < (a : Int) := by omega
          have C4 := hide (cell_below (unhide CZ) (unhide BW))
          have HSX := hide (unhide hAX t)
          rw [unhide hax t] at HSX
          generalize hSM : sumL m (atN ss (memL sd a q t k)) = SM at *
          have HSM := hide hSM
          clear hO hOo hSM
          go_wp2_with fail
          clear c0 c1 c2 c3
          refine wp_region_efh [false, false, false, false, true, false, false, false, false, true, true, true, true] [0] 4 ?A0 _ _ (by kernel_rfl) (by kernel_rfl) rfl ?lex ?free ?_
          case lex =>
            intro X
            have hneX := gb_ne X.w
            have hcX : ∀ z : Gb X.w, z.w.cell? ⟨g0, o0, none⟩ = _ := fun z => gb_cell (cell_below (unhide C4) X.ok) z
            dsimp only [restM]
            repeat (go_big_quiet_step (fail))
            refine wpQuiet_nil ?_
            exact rfl
          case free =>
            intro j hj o ho W
            simp only [List.mem_cons, List.not_mem_nil, or_false] at hj
            subst hj
            simp only [List.getElem?_cons_zero, Option.some.injEq] at ho
            subst ho
            go_big_quiet_step (fail)
            refine wpQuiet_nil ?_
            exact rfl
          intro w8 b8
          have HO8 := hide (own_below3 (unhide HO) b8)
          have HB8 := hide ((unhide HB).trans (b8.mono hzr))
          have BW8 := hide ((unhide BW).trans (b8.mono (unhide BW).size))
          have hs8 := (unhide HB8).size
          have hm8 := hide (unhide hmm t hlt rb rc w8 ((unhide HTab).below (unhide HB8)))
          clear b8 C4 HO HB BW
          go_wp2_with fail
          refine (unhide hm8).mono ?_
          rintro e w9 ⟨⟨v9, rfl, hO9⟩, b9⟩
          obtain ⟨mb, mc, rfl, hN9⟩ := nums_of_own hO9
          have hs9 := hide (unhide hsm t mb mc w9 (((unhide HT).below (unhide BW8)).below b9) hN9)
          rw [unhide HSM] at hs9
          have HO9 := hide (own_below3 (unhide HO8) b9)
          have HB9 := hide ((unhide HB8).trans (b9.mono hs8))
          have hs9' := (unhide HB9).size
          have b9' := hide b9
          generalize (memL sd a q t k).length = ml at *
          generalize hSB : bs SM = SB at *
          have HSB := hide hSB
          clear hO9 hN9 HO8 HB8 BW8 b9 hSB
          go_wp2_with fail
          refine onlyN ⟨unhide b9', ?_⟩
          dsimp only [effM]
          go_wp2_with fail
          refine (unhide hs9).mono ?_
          rintro e w10 ⟨rfl, b10⟩
          have HO10 := hide (own_below3 (unhide HO9) b10)
          have HB10 := hide ((unhide HB9).trans (b10.mono hs9'))
          have hs10 := (unhide HB10).size
          clear b10 HO9 HB9
          go_wp2_with (at_builtin; refine wpList_append_own _ rfl _ _ 41 rfl w3.heap.size 9 i0 (.string ⟨#[]⟩) 1 16 Tryz.undS hi hz0' hz1 hz2 rfl (by decide) _ _ _ rfl ((unhide HO10).alloc _) ⟨w10.heap.size, 0, none⟩ 1 1 [.string SB] rfl rfl (news_lit _ [_] _) ?d6 ?d7 ?d8 ?d9 ?_)
          case d6 => intro u hu; simp at hu; subst hu; rfl
          case d7 => unfold maxLen; omega
          case d8 => omega
          case d9 => first | omega | (simp; omega)
          intro v' w11 hown' hgrow _
          have hb' := hide ((((unhide HB10).alloc (by omega) _)).grown hgrow (by simp; omega) (fun k hk => (((unhide HO10).lt k hk).1)))
          have ho2 : Hid (OwnS w11 w3.heap.size v' (ss ++ auxL sd k a q ss (t + 1))) := by
            show World.ownsRow _ _ _ _ _ _ _
            rw [unhide HSX, ← List.append_assoc, List.length_append, hkl', sc_append]
            have hsc : sc [SM] = [.string SB] := by simp [sc, unhide HSB]
            rw [hsc]
            exact hown'
          obtain ⟨ao', cap', rfl⟩ := own_shape' hown'
          clear hown' hgrow HO10 HB10
          go_wp2_with fail
          refine onlyN ?_
          go_wp2
          go_roundw
          case rel => exact ⟨t + 1, by omega, by go_num, unhide ho2, unhide hb'⟩
          case measure => simp [intOf]; omega
        · have hte : t = a := by omega
          subst hte
          have q2 : ¬ (t : Int) < (t : Int) := by omega
          have HF : Hid (OwnS wr w.heap.size (.slice ao (k + t) cap) (ss ++ auxL sd k t q ss t)) := own_mono hO hz3
          clear hO hOo HO hkl'
          go_wp2
          go_ret2
          exact ⟨_, rfl, unhide HF, unhide BW⟩
theorem dWhole_any (sd n a q : Int) (ss : List By) (a0 : Option Addr) (c : Nat) (w : World) (hT : Txts w a0 ss) (h2 : ss.length ≤ 100000) (h3 : ∀ s ∈ ss, s.length ≤ 100000) :
    Calls Tryz.prog 20 #[plV sd n a q, .slice a0 ss.length c] w fun e w' => ∃ v, e = .returned (.tuple #[v, .int .i64 (whE sd n a q ss)]) ∧ OwnS w' w.heap.size v (whR sd n a q ss) ∧ Below w.heap.size w w' := by
  have hno : ∀ {e : Ending} {w' : World}, ¬ (plOk sd n a q = true ∧ alike ss n = true) → (e = .returned (.tuple #[.slice none 0 0, .int .i64 1]) ∧ Below w.heap.size w w') → ∃ v, e = .returned (.tuple #[v, .int .i64 (whE sd n a q ss)]) ∧ OwnS w' w.heap.size v (whR sd n a q ss) ∧ Below w.heap.size w w' := fun hne ⟨he, hb⟩ => by
    unfold whE whR
    rw [if_neg hne, if_neg hne]
    exact ⟨_, he, World.ownsRow_nil _ _ _ _, hb⟩
  cases hP : plOk sd n a q with
  | false => exact (dWhole_no sd n a q hP a0 _ c w).mono (fun e w' h => hno (by simp [hP]) h)
  | true =>
    obtain ⟨sd', n', a', q', rfl, rfl, rfl, rfl, k1, ⟨k2, k3⟩, ⟨k4, k5⟩, k6, k7⟩ := plOk_facts hP
    by_cases hl : ss.length = n'
    · have h := szB_alike ss n' (by omega) hl
      cases hs : szB ss with
      | true =>
        refine (dWhole_yes sd' n' a' q' k1 k2 k3 k4 k5 k6 k7 ss a0 c hl hs w hT).mono ?_
        rintro e w' ⟨v, he, ho, hb⟩
        unfold whE whR
        rw [if_pos ⟨hP, by rw [← h, hs]⟩, if_pos ⟨hP, by rw [← h, hs]⟩]
        exact ⟨v, he, by simpa using ho, hb⟩
      | false => exact (dWhole_siz sd' n' a' q' hP ss a0 c hl hs w hT h3).mono (fun e w' hh => hno (by rw [← h, hs]; simp) hh)
    · refine (dWhole_len sd' n' a' q' hP a0 _ c hl w).mono (fun e w' hh => hno (fun hc => hl ?_) hh)
      have := hc.2
      unfold alike at this
      rw [Bool.and_eq_true, decide_eq_true_iff] at this
      omega
end Go.Proofs.YtkcnihngkmaecaaGreat

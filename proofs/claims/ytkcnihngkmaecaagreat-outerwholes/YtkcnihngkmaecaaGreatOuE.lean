/- Contracts of outer: areAlike, Whole. -/
import Derived.Test.YtkcnihngkmaecaaGreatOuD
namespace Go.Proofs.YtkcnihngkmaecaaGreat
open Go.RowKit
set_option linter.unusedVariables false
attribute [local go_sem] Oper.semAt_some

/-- as many blocks, all of one size? -/
def alike (ss : List By) (n : Int) : Bool := decide ((ss.length : Int) = n) && ofS ss ((ss.getD 0 []).length : Int)
set_option maxRecDepth 100000 in
theorem alike_any (ss : List By) (a0 : Option Addr) (c : Nat) (n : Int) (hn : 1 ≤ n) (w : World) (hT : Txts w a0 ss) (h2 : ss.length ≤ 100000) (h3 : ∀ s ∈ ss, s.length ≤ 100000) :
    Calls Tryz.prog 35 #[.slice a0 ss.length c, .int .i64 n] w fun e w' => e = .returned (.bool (alike ss n)) ∧ w = w' := by
  have ho := hide (fun size => oareOf_any ss a0 c size w hT h2 h3)
  unfold alike
  by_cases h : (ss.length : Int) = n
  · rw [decide_eq_true h, Bool.true_and]
    have hpos : 0 < ss.length := by omega
    obtain ⟨g, o, rfl, c0⟩ := hT 0 hpos
    rw [Nat.add_zero] at c0
    have hg : ss.getD 0 [] = ss[0] := by simp [List.getD, hpos]
    rw [hg]
    have hsz : (bs ss[0]).size = ss[0].length := bs_size _
    have ho1 := hide (unhide ho (ss[0].length : Int))
    generalize bs ss[0] = S at *
    generalize ss[0].length = L at *
    have hq : ((ss.length : Int) == n) = true := by simpa using h
    have hp2 : (0 : Int) < (ss.length : Int) := by omega
    clear hT h hg ho hpos
    generalize ss.length = m at *
    go_enter Tryz.func35, Tryz.ntmps35
    go_wp2_with fail
    refine (unhide ho1).mono ?_
    rintro e w1 ⟨rfl, rfl⟩
    go_wp2
    go_ret
    exact ⟨rfl, rfl⟩
  · rw [decide_eq_false h, Bool.false_and]
    have hq : ((ss.length : Int) == n) = false := by simpa using h
    generalize ss.length = m at *
    clear hT h ho
    go_enter Tryz.func35, Tryz.ntmps35
    go_wp2
    go_ret
    exact ⟨rfl, rfl⟩
/-- the auxiliary blocks, the first k of them -/
def auxL (sd n a q : Nat) (ss : List By) (k : Nat) : List By := (List.range k).map fun j => sumR (pres (atN ss (memL sd a q j n))) ((ss.getD 0 []).length : Int)
theorem auxL_succ (sd n a q : Nat) (ss : List By) (k : Nat) : auxL sd n a q ss (k + 1) = auxL sd n a q ss k ++ [sumR (pres (atN ss (memL sd a q k n))) ((ss.getD 0 []).length : Int)] := by
  simp [auxL, List.range_succ]
def whE (sd n a q : Int) (ss : List By) : Int := if plOk sd n a q = true ∧ alike ss n = true then 0 else 1
def whR (sd n a q : Int) (ss : List By) : List By := if plOk sd n a q = true ∧ alike ss n = true then ss ++ auxL sd.toNat n.toNat a.toNat q.toNat ss a.toNat else []
theorem plOk_facts {sd n a q : Int} (h : plOk sd n a q = true) : ∃ sd' n' a' q' : Nat, sd = sd' ∧ n = n' ∧ a = a' ∧ q = q' ∧ sd' ≤ 72057594037927935 ∧ (1 ≤ n' ∧ n' ≤ 96) ∧ (1 ≤ a' ∧ a' ≤ 64) ∧ 1 ≤ q' ∧ q' ≤ 8 := by
  unfold plOk at h
  simp only [Bool.and_eq_true, decide_eq_true_eq] at h
  obtain ⟨⟨⟨h1, h2⟩, h3⟩, h4⟩ := h
  exact ⟨sd.toNat, n.toNat, a.toNat, q.toNat, by omega, by omega, by omega, by omega, by omega, ⟨by omega, by omega⟩, ⟨by omega, by omega⟩, by omega, by omega⟩
theorem memL_lt (sd a q j n i : Nat) (h : i ∈ memL sd a q j n) : i < n := by
  unfold memL at h
  exact List.mem_range.1 (List.mem_filter.1 h).1
theorem Rows2.other {w w' : World} {base g n : Nat} {V : Nat → Value} {L : Nat → List Nat} {row : Option Nat} (h : Rows2 w base g n V L) (hg : w.grownBy w' row) (hr : ∀ b, row = some b → ∃ cur, w.heap[b]? = some (.cells cur 9 (0, 0))) : Rows2 w' base g n V L := by
  refine ⟨(hg.block g (lt_of_block h.blk) (fun e => ?_)).trans h.blk, h.ge, fun j hj => (h.row j hj).kept hg ?_, h.dis⟩
  · obtain ⟨cur, hc⟩ := hr g e.symm
    rw [h.blk] at hc
    simp at hc
  · cases hb : (V j).ownBlock with
    | none => exact .inl rfl
    | some b =>
      refine .inr (fun e => ?_)
      obtain ⟨cur, hc⟩ := hr b e.symm
      obtain ⟨c2, hc2⟩ := own_type (h.row j hj) hb
      rw [hc] at hc2
      simp at hc2
theorem own_string {w : World} {base n b : Nat} {v : Value} {xs : List Value} (h : w.ownsRow base 9 1 v n xs) (hb : v.ownBlock = some b) : ∃ cur, w.heap[b]? = some (.cells cur 9 (0, 0)) := by
  rcases h.2 with ⟨rfl, _⟩ | ⟨g, cap, cur, rfl, _, hg, _⟩
  · simp [Value.ownBlock] at hb
  · simp [Value.ownBlock] at hb
    subst hb
    exact ⟨cur, hg⟩
set_option maxRecDepth 100000 in
set_option maxHeartbeats 4000000 in
theorem whole_any (sd n a q : Int) (ss : List By) (a0 : Option Addr) (c : Nat) (w : World) (hT : Txts w a0 ss) (h2 : ss.length ≤ 100000) (h3 : ∀ s ∈ ss, s.length ≤ 100000) :
    Calls Tryz.prog 19 #[plV sd n a q, .slice a0 ss.length c] w fun e w' => ∃ v, e = .returned (.tuple #[v, .int .i64 (whE sd n a q ss)]) ∧ OwnS w' w.heap.size v (whR sd n a q ss) ∧ Below w.heap.size w w' := by
  have hck := hide (fun w => check_any sd n a q w)
  have hb0 : Below w.heap.size w (w.alloc (.cells #[.int .i64 sd, .int .i64 n, .int .i64 a, .int .i64 q] 23)) := (Below.refl _ w).alloc (Nat.le_refl _) _
  have hpc := hide (plan_cells w sd n a q)
  have B0 := hide hb0
  unfold whE whR
  unfold plV at *
  cases hP : plOk sd n a q with
  | false =>
    rw [hP] at hck
    rw [if_neg (by simp), if_neg (by simp)]
    obtain ⟨c0, c1, c2, c3⟩ := unhide hpc _ (Below.refl _ _)
    generalize ss.length = m at *
    clear hb0 hT hP
    go_enter Tryz.func19, Tryz.ntmps19
    go_wp2_with fail
    refine (unhide hck _).mono ?_
    rintro e w1 ⟨rfl, b1⟩
    have B1 := hide ((unhide B0).trans (b1.mono (unhide B0).size))
    clear b1 c0 c1 c2 c3
    go_wp2
    go_ret2
    exact ⟨_, rfl, World.ownsRow_nil _ _ _ _, unhide B1⟩
  | true =>
    rw [hP] at hck
    obtain ⟨sd', n', a', q', rfl, rfl, rfl, rfl, k1, ⟨k2, k3⟩, ⟨k4, k5⟩, k6, k7⟩ := plOk_facts hP
    have hal := hide (fun w hT => alike_any ss a0 c (n' : Int) (by omega) w hT h2 h3)
    obtain ⟨c0, c1, c2, c3⟩ := unhide hpc _ (Below.refl _ _)
    cases hA : alike ss n' with
    | false =>
      rw [hA] at hal
      rw [if_neg (by simp), if_neg (by simp)]
      have HT := hide hT
      obtain ⟨m, hm⟩ : ∃ m, m = ss.length := ⟨_, rfl⟩
      rw [← hm] at hal ⊢
      clear hb0 hT hP hA hm
      generalize hW0 : w.alloc (.cells #[.int .i64 (sd' : Int), .int .i64 (n' : Int), .int .i64 (a' : Int), .int .i64 (q' : Int)] 23) = W0 at *
      go_enter Tryz.func19, Tryz.ntmps19
      go_wp2_with fail
      have HW0 := hide hW0
      clear hW0
      refine (unhide hck _).mono ?_
      rintro e w1 ⟨rfl, b1⟩
      have B1 := hide ((unhide B0).trans (b1.mono (unhide B0).size))
      obtain ⟨c0, c1, c2, c3⟩ := unhide hpc w1 b1
      have ha1 := hide (unhide hal w1 ((unhide HT).below (unhide B1)))
      clear b1
      go_wp2_with fail
      refine (unhide ha1).mono ?_
      rintro e w2 ⟨rfl, rfl⟩
      go_wp2
      go_ret2
      exact ⟨_, rfl, World.ownsRow_nil _ _ _ _, unhide B1⟩
    | true =>
      rw [hA] at hal
      rw [if_pos ⟨rfl, rfl⟩, if_pos ⟨rfl, rfl⟩]
      simp only [Int.toNat_natCast]
      obtain ⟨i0, hi, hz0, hz1, hz2⟩ := info_parts Tryz.infoS
      have hss : ss.length = n' := by
        unfold alike at hA
        simp only [Bool.and_eq_true, decide_eq_true_eq] at hA
        omega
      have hcl := hide (fun w hT => clone_any ss a0 c w hT h2)
      have hme := hide (fun w => members_any sd' n' a' q' k1 k3 k4 k5 k6 k7 w)
      have hpos : 0 < ss.length := by omega
      have hsum := hide (fun (j : Nat) b0 d w hT hN => osum_any ss a0 c (memL sd' a' q' j n') b0 d ((ss.getD 0 []).length : Int) w hT hN h2 h3 (by have := memL_len sd' a' q' j n'; omega) (fun i hi => by have := memL_lt sd' a' q' j n' i hi; omega))
      obtain ⟨g0, o0, ha0, hcz⟩ := hT 0 hpos
      subst ha0
      rw [Nat.add_zero, show ss[0] = ss.getD 0 [] by simp [List.getD, hpos]] at hcz
      have HT := hide hT
      have HCZ := hide hcz
      have hsz : (bs (ss.getD 0 [])).size = (ss.getD 0 []).length := bs_size _
      have hAX := hide (auxL_succ sd' n' a' q' ss)
      have hAL : Hid (∀ k, (auxL sd' n' a' q' ss k).length = k) := fun k => by simp [auxL]
      unfold plV at hme
      rw [hss] at hal hcl hsum ⊢
      generalize hS0 : bs (ss.getD 0 []) = S0 at *
      generalize (ss.getD 0 []).length = L0 at *
      have hn1 : (0 : Int) < (n' : Int) := by omega
      clear hb0 hT hP hA hcz hS0 hpos
      generalize hW0 : w.alloc (.cells #[.int .i64 (sd' : Int), .int .i64 (n' : Int), .int .i64 (a' : Int), .int .i64 (q' : Int)] 23) = W0 at *
      go_enter Tryz.func19, Tryz.ntmps19
      go_wp2_with fail
      have HW0 := hide hW0
      clear hW0
      refine (unhide hck _).mono ?_
      rintro e w1 ⟨rfl, b1⟩
      have B1 := hide ((unhide B0).trans (b1.mono (unhide B0).size))
      have D1 := hide b1
      obtain ⟨c0, c1, c2, c3⟩ := unhide hpc w1 b1
      have ha1 := hide (unhide hal w1 ((unhide HT).below (unhide B1)))
      clear b1
      go_wp2_with fail
      refine (unhide ha1).mono ?_
      rintro e w2 ⟨rfl, rfl⟩
      have hc1 := hide (unhide hcl w1 ((unhide HT).below (unhide B1)))
      go_wp2_with fail
      refine (unhide hc1).mono ?_
      rintro e w3 ⟨v3, rfl, hO3, b3⟩
      have B3 := hide ((unhide B1).trans (b3.mono (unhide B1).size))
      have D3 := hide ((unhide D1).trans (b3.mono (unhide D1).size))
      have HO3 := hide (own_mono hO3 (unhide B1).size)
      clear hO3 b3 c0 c1 c2 c3
      obtain ⟨c0, c1, c2, c3⟩ := unhide hpc w3 (unhide D3)
      go_wp2_with fail
      refine (unhide hme w3).mono ?_
      rintro e w4 ⟨gm, rfl, ⟨V, hR⟩, b4⟩
      have B4 := hide ((unhide B3).trans (b4.mono (unhide B3).size))
      have HR := hide hR
      have HO4 : Hid (OwnS w4 w.heap.size v3 ss) := by
        have h := unhide HO3
        show World.ownsRow _ _ _ _ _ _ _
        rcases (show World.ownsRow _ _ _ _ _ _ _ from h).2 with h1 | ⟨b, cap, cur, h1, h5, h6, h7⟩
        · exact ⟨h.1, .inl h1⟩
        · exact ⟨h.1, .inr ⟨b, cap, cur, h1, h5, (b4.block b (lt_of_block h6)).trans h6, h7⟩⟩
      clear hR b4 HO3 c0 c1 c2 c3
      go_wp2_with fail
      have hwz : w.heap.size ≤ w3.heap.size := (unhide B3).size
      have hHO : Hid (OwnS w4 w.heap.size v3 (ss ++ auxL sd' n' a' q' ss 0)) := by
        show OwnS _ _ _ _
        rw [show auxL sd' n' a' q' ss 0 = [] from rfl, List.append_nil]
        exact unhide HO4
      clear HO4
      go_loopw [6, 24] (fun v iv wr => ∃ k : Nat, k ≤ a' ∧ iv = .int .i64 k ∧ OwnS wr w.heap.size v (ss ++ auxL sd' n' a' q' ss k) ∧ Rows2 wr w3.heap.size gm a' V (fun j => memL sd' a' q' j n') ∧ Below w.heap.size w wr) (fun _ iv _ => a' - (intOf iv).toNat)
      case atStart => exact ⟨0, Nat.zero_le _, rfl, unhide hHO, unhide HR, unhide B4⟩
      case round =>
        clear hHO HR B4
        obtain ⟨k, hk, rfl, hO, hR, hB⟩ := hrel
        by_cases hlt : k < a'
        · have q1 : (k : Int) < (a' : Int) := by omega
          have d1 := hR.cell k hlt
          obtain ⟨b0, cc, hVk, hNm⟩ := nums_of_own (hR.row k hlt)
          rw [hVk] at d1
          have hs1 := hide (unhide hsum k b0 cc wr ((unhide HT).below hB) hNm)
          have d2 := cell_below (unhide HCZ) hB
          have hkl : (ss ++ auxL sd' n' a' q' ss k).length = n' + k := by rw [List.length_append, hss, unhide hAL k]
          have hOo : wr.ownsRow w.heap.size 9 1 u6 (n' + k) (sc (ss ++ auxL sd' n' a' q' ss k)) := by
            have h := hO
            unfold OwnS at h
            rw [hkl] at h
            exact h
          obtain ⟨ao, cap, rfl⟩ := own_shape' hOo
          have HO := hide hOo
          have HB := hide hB
          have HR := hide hR
          have HSX := hide (unhide hAX k)
          generalize hSM : sumR (pres (atN ss (memL sd' a' q' k n'))) (L0 : Int) = SM at *
          generalize hSB : bs SM = SB at *
          have HSB := hide hSB
          generalize (memL sd' a' q' k n').length = ML at *
          clear hO hR hB hOo hNm hVk hSB hSM
          go_wp2_with fail
          refine (unhide hs1).mono ?_
          rintro e w5 ⟨rfl, b5⟩
          have HO5 : Hid (w5.ownsRow w.heap.size 9 1 (.slice ao (n' + k) cap) (n' + k) (sc (ss ++ auxL sd' n' a' q' ss k))) := by
            have h := unhide HO
            show World.ownsRow _ _ _ _ _ _ _
            rcases h.2 with h1 | ⟨b, cap', cur, h1, h5, h6, h7⟩
            · exact ⟨h.1, .inl h1⟩
            · exact ⟨h.1, .inr ⟨b, cap', cur, h1, h5, (b5.block b (lt_of_block h6)).trans h6, h7⟩⟩
          have HB5 := hide ((unhide HB).trans (b5.mono (unhide HB).size))
          have HR5 := hide ((unhide HR).below b5)
          have hz5 := (unhide HB5).size
          clear b5 HO HB HR
          go_wp2_with (at_builtin; refine wpList_append_own _ rfl _ _ 41 rfl w.heap.size 9 i0 (.string ⟨#[]⟩) 1 16 Tryz.undS hi hz0 hz1 hz2 rfl (by decide) _ _ _ rfl ((unhide HO5).alloc _) ⟨w5.heap.size, 0, none⟩ 1 1 [.string SB] rfl rfl (news_lit _ [_] _) ?d2 ?d3 ?d4 ?d5 ?_)
          case d2 => intro u hu; simp at hu; subst hu; rfl
          case d3 => unfold maxLen; omega
          case d4 => omega
          case d5 => first | omega | (simp; omega)
          intro v' w6 hown' hgrow _
          have hb' := hide ((((unhide HB5).alloc (by omega) _)).grown hgrow (by simp; omega) (fun k hk => (((unhide HO5).lt k hk).1)))
          have hR6 := hide (((unhide HR5).below ((Below.refl _ w5).alloc (Nat.le_refl _) (.cells #[.string SB] 9))).other hgrow (fun b hb => own_string ((unhide HO5).alloc _) hb))
          have ho2 : Hid (OwnS w6 w.heap.size v' (ss ++ auxL sd' n' a' q' ss (k + 1))) := by
            show World.ownsRow _ _ _ _ _ _ _
            rw [unhide HSX, ← List.append_assoc, List.length_append, hkl, sc_append]
            have hsc : sc [SM] = [.string SB] := by simp [sc, unhide HSB]
            rw [hsc]
            exact hown'
          obtain ⟨ao', cap', rfl⟩ := own_shape' hown'
          clear hown' hgrow HO5 HB5 HR5
          go_wp2
          go_roundw
          case rel => exact ⟨k + 1, by omega, by go_num, unhide ho2, unhide hR6, unhide hb'⟩
          case measure => simp [intOf]; omega
        · have hke : k = a' := by omega
          subst hke
          have q1 : ¬ (k : Int) < (k : Int) := by omega
          have HO := hide hO
          have HB := hide hB
          obtain ⟨ao, cap, rfl, _⟩ := hO.txts
          generalize (ss ++ auxL sd' n' k q' ss k).length = ZL at *
          clear hO hB hR
          go_wp2
          go_ret2
          exact ⟨_, rfl, unhide HO, unhide HB⟩
end Go.Proofs.YtkcnihngkmaecaaGreat

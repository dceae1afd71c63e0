/- The law RunsBack, walked. -/
import Derived.Test.YtbodklppgcloiaaDoorTxZ
import Derived.Test.YtbodklppgcloiaaDoorRuL
import Derived.Test.YtbodklppgcloiaaDoorTxG
namespace Go.Proofs.YtbodklppgcloiaaDoor
open Go.RowKit Go.Shelf
set_option linter.unusedVariables false
attribute [local go_sem] Oper.semAt_some

theorem packR_le (n : Int) (s : By) : (packR n s).length ≤ 65536 := by
  unfold packR
  split
  · split
    · exact packS_le _
    · simp
  · simp
theorem textR_le (n : Int) (s : By) : (textR n s).length ≤ 2000 := by
  unfold textR
  split
  · rename_i hC
    obtain ⟨m, rfl, hch, hm, hl, hl20⟩ := chkI_facts hC
    rw [Int.toNat_natCast]
    have hall : ∀ x ∈ runsL s m, x.1 < x.2 ∧ x.2 ≤ 160 := fun x hx => ok_part hm (runs_ok hch) x hx
    have hLL : (runsL s m).length ≤ 161 := Nat.le_trans (rl_le s _).2 (by omega)
    unfold textL
    split
    · simp
    · have := jn_len (runsL s m) hall
      show (jn _).length ≤ _
      omega
  · simp
theorem ofsE_of {n : Nat} {s : By} (hc : chk n s = true) : ofsE n s = 0 := by unfold ofsE; rw [if_pos (by rw [chkI_nat]; exact hc)]
theorem back_set {n : Int} {s : By} (h : chkI n s = true) : packE n s = 0 ∧ unpR n (packR n s) = s ∧ unpE n (packR n s) = 0 ∧ ofsE n s = 0 ∧ redR n (textR n s) = s ∧ redE n (textR n s) = 0 := by
  obtain ⟨m, rfl, hch, hm, hl, hl20⟩ := chkI_facts h
  obtain ⟨u1, u2⟩ := unpack_pack hch
  have hw := wr_text hm (runs_ok hch)
  rw [← text_eq hch] at hw
  have hg := gat_runs hch 3
  rw [← hw] at hg
  exact ⟨(pack_eq hch).2, u1, u2, ofsE_of hch, hg.1, hg.2⟩
theorem back_not {n : Int} {s : By} (h : chkI n s = false) : packE n s = 3 := by unfold packE; rw [if_neg (by rw [h]; simp)]
theorem back_pack {n : Int} {t : By} (h : unpE n t = 0) : packE n (unpR n t) = 0 ∧ packR n (unpR n t) = t := by
  by_cases hr : 0 ≤ n ∧ n ≤ 160
  · obtain ⟨m, rfl⟩ : ∃ m : Nat, n = m := ⟨n.toNat, by omega⟩
    rcases doc_unp m (by omega) t with ⟨d1, d2, _⟩ | ⟨_, _, d3⟩
    · rw [d2]
      exact ⟨(pack_eq (mkL_chk m (by omega) _)).2, d1⟩
    · rw [h] at d3; cases d3
  · rw [(unp_out hr t).2] at h; cases h
theorem back_text {n : Int} {t : By} (h : redE n t = 0) : ofsE n (redR n t) = 0 ∧ textR n (redR n t) = t := by
  by_cases hr : 0 ≤ n ∧ n ≤ 160
  · obtain ⟨m, rfl⟩ : ∃ m : Nat, n = m := ⟨n.toNat, by omega⟩
    rcases doc_read m (by omega) t with ⟨d1, d2, _⟩ | ⟨_, _, d3⟩
    · have d2' : redR m t = mkL m (docN m t) := d2
      rw [d2']
      exact ⟨ofsE_of (mkL_chk m (by omega) _), d1⟩
    · have h' : gatE m 3 (wrB t) = 0 := h
      rw [h'] at d3; cases d3
  · rw [(red_out hr t).2] at h; cases h
theorem redR_len (n : Int) (t : By) : (redR n t).length ≤ 20 := gatR_len n _
theorem unpR_len (n : Int) (t : By) : (unpR n t).length ≤ 20 := gatR_len n _
set_option maxRecDepth 100000 in
set_option maxHeartbeats 8000000 in
theorem runsBack_by (n : Int) (s t : By) (w : World) (hs : s.length ≤ maxLen) (ht : t.length ≤ maxLen) (hG : Glob w) : Calls Tryd.prog 7 #[.int .i64 n, .string (bs s), .string (bs t)] w fun e w' => e = .returned (.bool true) ∧ Below w.heap.size w w' := by
  have haw := hide ruawake_any
  have hsz := bs_size s
  have hsz2 := bs_size t
  by_cases hbig : 30 < s.length ∨ (¬ 30 < s.length ∧ 1000 < t.length)
  · have i0 : (30 : Int) < ((bs s).size : Int) ∨ (¬ (30 : Int) < ((bs s).size : Int) ∧ (1000 : Int) < ((bs t).size : Int)) := by rw [hsz, hsz2]; omega
    generalize bs s = S at *
    generalize bs t = T at *
    clear hsz hsz2 hbig
    go_enter Tryd.func7, Tryd.ntmps7
    rcases i0 with i1 | ⟨i1, i2⟩
    all_goals
      go_wp2_with fail
      refine (unhide haw _).mono ?_
      rintro e w1 ⟨rfl, b1⟩
      have B1 := hide b1
      clear b1
      go_wp2
      go_ret
      exact ⟨rfl, unhide B1⟩
  · have i1 : ¬ (30 : Int) < ((bs s).size : Int) := by rw [hsz]; omega
    have i2 : ¬ (1000 : Int) < ((bs t).size : Int) := by rw [hsz2]; omega
    have l1 := packR_le n s
    have l2 := textR_le n s
    have l3 := unpR_len n t
    have l4 := redR_len n t
    have p1 := hide (fun w' (hb : Below w.heap.size w w') => pack_any n s w' hs)
    have p2 := hide (fun w' (hb : Below w.heap.size w w') => unpack_any n (packR n s) (by omega) w')
    have p3 := hide (fun w' (hb : Below w.heap.size w w') => text_all n s w' hs (hG.below hb))
    have p4 := hide (fun w' (hb : Below w.heap.size w w') => read_any n (textR n s) (by omega) w' (hG.below hb))
    have p5 := hide (fun w' (hb : Below w.heap.size w w') => unpack_any n t (by omega) w')
    have p6 := hide (fun w' (hb : Below w.heap.size w w') => pack_any n (unpR n t) w' (by unfold maxLen; omega))
    have p7 := hide (fun w' (hb : Below w.heap.size w w') => read_any n t (by omega) w' (hG.below hb))
    have p8 := hide (fun w' (hb : Below w.heap.size w w') => text_all n (redR n t) w' (by unfold maxLen; omega) (hG.below hb))
    clear hsz hsz2 hbig l1 l2 l3 l4
    cases hA : chkI n s with
    | true =>
      by_cases hB : unpE n t = 0
      · by_cases hD : redE n t = 0
        · obtain ⟨f1, f2, f3, f4, f5, f6⟩ := back_set hA
          rw [f1] at p1
          rw [f2, f3] at p2
          rw [f4] at p3
          rw [f5, f6] at p4
          obtain ⟨g1, g2⟩ := back_pack hB
          rw [hB] at p5
          rw [g1, g2] at p6
          obtain ⟨k1, k2⟩ := back_text hD
          rw [hD] at p7
          rw [k1, k2] at p8
          clear hs ht hG hA hB hD f1 f2 f3 f4 f5 f6 g1 g2 k1 k2
          generalize bs (packR n s) = PR at *
          generalize bs (textR n s) = TR at *
          generalize bs (unpR n t) = UR at *
          generalize bs (redR n t) = RR at *
          generalize bs s = S at *
          generalize bs t = T at *
          go_enter Tryd.func7, Tryd.ntmps7
          go_wp2_with fail
          refine (unhide p1 _ (Below.refl _ _)).mono ?_
          rintro e w1 ⟨rfl, b1⟩
          have B1 := hide b1
          clear b1
          go_wp2_with fail
          refine (unhide p2 _ (unhide B1)).mono ?_
          rintro e w2 ⟨rfl, b2⟩
          have B2 := hide ((unhide B1).trans (b2.mono (unhide B1).size))
          clear b2 B1
          go_wp2_with fail
          refine (unhide p3 _ (unhide B2)).mono ?_
          rintro e w3 ⟨rfl, b3⟩
          have B3 := hide ((unhide B2).trans (b3.mono (unhide B2).size))
          clear b3 B2
          go_wp2_with fail
          refine (unhide p4 _ (unhide B3)).mono ?_
          rintro e w4 ⟨rfl, b4⟩
          have B4 := hide ((unhide B3).trans (b4.mono (unhide B3).size))
          clear b4 B3
          go_wp2_with fail
          refine (unhide p5 _ (unhide B4)).mono ?_
          rintro e w5 ⟨rfl, b5⟩
          have B5 := hide ((unhide B4).trans (b5.mono (unhide B4).size))
          clear b5 B4
          go_wp2_with fail
          refine (unhide p6 _ (unhide B5)).mono ?_
          rintro e w6 ⟨rfl, b6⟩
          have B6 := hide ((unhide B5).trans (b6.mono (unhide B5).size))
          clear b6 B5
          go_wp2_with fail
          refine (unhide p7 _ (unhide B6)).mono ?_
          rintro e w7 ⟨rfl, b7⟩
          have B7 := hide ((unhide B6).trans (b7.mono (unhide B6).size))
          clear b7 B6
          go_wp2_with fail
          refine (unhide p8 _ (unhide B7)).mono ?_
          rintro e w8 ⟨rfl, b8⟩
          have B8 := hide ((unhide B7).trans (b8.mono (unhide B7).size))
          clear b8 B7
          go_wp2_with fail
          refine (unhide haw _).mono ?_
          rintro e w9 ⟨rfl, b9⟩
          have B9 := hide ((unhide B8).trans (b9.mono (unhide B8).size))
          clear b9 B8
          go_wp2
          go_ret
          exact ⟨rfl, unhide B9⟩
        · obtain ⟨f1, f2, f3, f4, f5, f6⟩ := back_set hA
          rw [f1] at p1
          rw [f2, f3] at p2
          rw [f4] at p3
          rw [f5, f6] at p4
          obtain ⟨g1, g2⟩ := back_pack hB
          rw [hB] at p5
          rw [g1, g2] at p6
          have hD' : (redE n t == 0) = false := by simpa using hD
          generalize redE n t = RE at *
          clear hs ht hG hA hB hD f1 f2 f3 f4 f5 f6 g1 g2
          generalize bs (packR n s) = PR at *
          generalize bs (textR n s) = TR at *
          generalize bs (unpR n t) = UR at *
          generalize bs (redR n t) = RR at *
          generalize bs s = S at *
          generalize bs t = T at *
          go_enter Tryd.func7, Tryd.ntmps7
          go_wp2_with fail
          refine (unhide p1 _ (Below.refl _ _)).mono ?_
          rintro e w1 ⟨rfl, b1⟩
          have B1 := hide b1
          clear b1
          go_wp2_with fail
          refine (unhide p2 _ (unhide B1)).mono ?_
          rintro e w2 ⟨rfl, b2⟩
          have B2 := hide ((unhide B1).trans (b2.mono (unhide B1).size))
          clear b2 B1
          go_wp2_with fail
          refine (unhide p3 _ (unhide B2)).mono ?_
          rintro e w3 ⟨rfl, b3⟩
          have B3 := hide ((unhide B2).trans (b3.mono (unhide B2).size))
          clear b3 B2
          go_wp2_with fail
          refine (unhide p4 _ (unhide B3)).mono ?_
          rintro e w4 ⟨rfl, b4⟩
          have B4 := hide ((unhide B3).trans (b4.mono (unhide B3).size))
          clear b4 B3
          go_wp2_with fail
          refine (unhide p5 _ (unhide B4)).mono ?_
          rintro e w5 ⟨rfl, b5⟩
          have B5 := hide ((unhide B4).trans (b5.mono (unhide B4).size))
          clear b5 B4
          go_wp2_with fail
          refine (unhide p6 _ (unhide B5)).mono ?_
          rintro e w6 ⟨rfl, b6⟩
          have B6 := hide ((unhide B5).trans (b6.mono (unhide B5).size))
          clear b6 B5
          go_wp2_with fail
          refine (unhide p7 _ (unhide B6)).mono ?_
          rintro e w7 ⟨rfl, b7⟩
          have B7 := hide ((unhide B6).trans (b7.mono (unhide B6).size))
          clear b7 B6
          go_wp2_with fail
          refine (unhide haw _).mono ?_
          rintro e w8 ⟨rfl, b8⟩
          have B8 := hide ((unhide B7).trans (b8.mono (unhide B7).size))
          clear b8 B7
          go_wp2
          go_ret
          exact ⟨rfl, unhide B8⟩
      · by_cases hD : redE n t = 0
        · obtain ⟨f1, f2, f3, f4, f5, f6⟩ := back_set hA
          rw [f1] at p1
          rw [f2, f3] at p2
          rw [f4] at p3
          rw [f5, f6] at p4
          have hB' : (unpE n t == 0) = false := by simpa using hB
          obtain ⟨k1, k2⟩ := back_text hD
          rw [hD] at p7
          rw [k1, k2] at p8
          generalize unpE n t = UE at *
          clear hs ht hG hA hB hD f1 f2 f3 f4 f5 f6 k1 k2
          generalize bs (packR n s) = PR at *
          generalize bs (textR n s) = TR at *
          generalize bs (unpR n t) = UR at *
          generalize bs (redR n t) = RR at *
          generalize bs s = S at *
          generalize bs t = T at *
          go_enter Tryd.func7, Tryd.ntmps7
          go_wp2_with fail
          refine (unhide p1 _ (Below.refl _ _)).mono ?_
          rintro e w1 ⟨rfl, b1⟩
          have B1 := hide b1
          clear b1
          go_wp2_with fail
          refine (unhide p2 _ (unhide B1)).mono ?_
          rintro e w2 ⟨rfl, b2⟩
          have B2 := hide ((unhide B1).trans (b2.mono (unhide B1).size))
          clear b2 B1
          go_wp2_with fail
          refine (unhide p3 _ (unhide B2)).mono ?_
          rintro e w3 ⟨rfl, b3⟩
          have B3 := hide ((unhide B2).trans (b3.mono (unhide B2).size))
          clear b3 B2
          go_wp2_with fail
          refine (unhide p4 _ (unhide B3)).mono ?_
          rintro e w4 ⟨rfl, b4⟩
          have B4 := hide ((unhide B3).trans (b4.mono (unhide B3).size))
          clear b4 B3
          go_wp2_with fail
          refine (unhide p5 _ (unhide B4)).mono ?_
          rintro e w5 ⟨rfl, b5⟩
          have B5 := hide ((unhide B4).trans (b5.mono (unhide B4).size))
          clear b5 B4
          go_wp2_with fail
          refine (unhide p7 _ (unhide B5)).mono ?_
          rintro e w6 ⟨rfl, b6⟩
          have B6 := hide ((unhide B5).trans (b6.mono (unhide B5).size))
          clear b6 B5
          go_wp2_with fail
          refine (unhide p8 _ (unhide B6)).mono ?_
          rintro e w7 ⟨rfl, b7⟩
          have B7 := hide ((unhide B6).trans (b7.mono (unhide B6).size))
          clear b7 B6
          go_wp2_with fail
          refine (unhide haw _).mono ?_
          rintro e w8 ⟨rfl, b8⟩
          have B8 := hide ((unhide B7).trans (b8.mono (unhide B7).size))
          clear b8 B7
          go_wp2
          go_ret
          exact ⟨rfl, unhide B8⟩
        · obtain ⟨f1, f2, f3, f4, f5, f6⟩ := back_set hA
          rw [f1] at p1
          rw [f2, f3] at p2
          rw [f4] at p3
          rw [f5, f6] at p4
          have hB' : (unpE n t == 0) = false := by simpa using hB
          have hD' : (redE n t == 0) = false := by simpa using hD
          generalize unpE n t = UE at *
          generalize redE n t = RE at *
          clear hs ht hG hA hB hD f1 f2 f3 f4 f5 f6
          generalize bs (packR n s) = PR at *
          generalize bs (textR n s) = TR at *
          generalize bs (unpR n t) = UR at *
          generalize bs (redR n t) = RR at *
          generalize bs s = S at *
          generalize bs t = T at *
          go_enter Tryd.func7, Tryd.ntmps7
          go_wp2_with fail
          refine (unhide p1 _ (Below.refl _ _)).mono ?_
          rintro e w1 ⟨rfl, b1⟩
          have B1 := hide b1
          clear b1
          go_wp2_with fail
          refine (unhide p2 _ (unhide B1)).mono ?_
          rintro e w2 ⟨rfl, b2⟩
          have B2 := hide ((unhide B1).trans (b2.mono (unhide B1).size))
          clear b2 B1
          go_wp2_with fail
          refine (unhide p3 _ (unhide B2)).mono ?_
          rintro e w3 ⟨rfl, b3⟩
          have B3 := hide ((unhide B2).trans (b3.mono (unhide B2).size))
          clear b3 B2
          go_wp2_with fail
          refine (unhide p4 _ (unhide B3)).mono ?_
          rintro e w4 ⟨rfl, b4⟩
          have B4 := hide ((unhide B3).trans (b4.mono (unhide B3).size))
          clear b4 B3
          go_wp2_with fail
          refine (unhide p5 _ (unhide B4)).mono ?_
          rintro e w5 ⟨rfl, b5⟩
          have B5 := hide ((unhide B4).trans (b5.mono (unhide B4).size))
          clear b5 B4
          go_wp2_with fail
          refine (unhide p7 _ (unhide B5)).mono ?_
          rintro e w6 ⟨rfl, b6⟩
          have B6 := hide ((unhide B5).trans (b6.mono (unhide B5).size))
          clear b6 B5
          go_wp2_with fail
          refine (unhide haw _).mono ?_
          rintro e w7 ⟨rfl, b7⟩
          have B7 := hide ((unhide B6).trans (b7.mono (unhide B6).size))
          clear b7 B6
          go_wp2
          go_ret
          exact ⟨rfl, unhide B7⟩
    | false =>
      by_cases hB : unpE n t = 0
      · by_cases hD : redE n t = 0
        · have f1 := back_not hA
          rw [f1] at p1
          obtain ⟨g1, g2⟩ := back_pack hB
          rw [hB] at p5
          rw [g1, g2] at p6
          obtain ⟨k1, k2⟩ := back_text hD
          rw [hD] at p7
          rw [k1, k2] at p8
          clear hs ht hG hA hB hD f1 g1 g2 k1 k2
          generalize bs (packR n s) = PR at *
          generalize bs (textR n s) = TR at *
          generalize bs (unpR n t) = UR at *
          generalize bs (redR n t) = RR at *
          generalize bs s = S at *
          generalize bs t = T at *
          go_enter Tryd.func7, Tryd.ntmps7
          go_wp2_with fail
          refine (unhide p1 _ (Below.refl _ _)).mono ?_
          rintro e w1 ⟨rfl, b1⟩
          have B1 := hide b1
          clear b1
          go_wp2_with fail
          refine (unhide p5 _ (unhide B1)).mono ?_
          rintro e w2 ⟨rfl, b2⟩
          have B2 := hide ((unhide B1).trans (b2.mono (unhide B1).size))
          clear b2 B1
          go_wp2_with fail
          refine (unhide p6 _ (unhide B2)).mono ?_
          rintro e w3 ⟨rfl, b3⟩
          have B3 := hide ((unhide B2).trans (b3.mono (unhide B2).size))
          clear b3 B2
          go_wp2_with fail
          refine (unhide p7 _ (unhide B3)).mono ?_
          rintro e w4 ⟨rfl, b4⟩
          have B4 := hide ((unhide B3).trans (b4.mono (unhide B3).size))
          clear b4 B3
          go_wp2_with fail
          refine (unhide p8 _ (unhide B4)).mono ?_
          rintro e w5 ⟨rfl, b5⟩
          have B5 := hide ((unhide B4).trans (b5.mono (unhide B4).size))
          clear b5 B4
          go_wp2_with fail
          refine (unhide haw _).mono ?_
          rintro e w6 ⟨rfl, b6⟩
          have B6 := hide ((unhide B5).trans (b6.mono (unhide B5).size))
          clear b6 B5
          go_wp2
          go_ret
          exact ⟨rfl, unhide B6⟩
        · have f1 := back_not hA
          rw [f1] at p1
          obtain ⟨g1, g2⟩ := back_pack hB
          rw [hB] at p5
          rw [g1, g2] at p6
          have hD' : (redE n t == 0) = false := by simpa using hD
          generalize redE n t = RE at *
          clear hs ht hG hA hB hD f1 g1 g2
          generalize bs (packR n s) = PR at *
          generalize bs (textR n s) = TR at *
          generalize bs (unpR n t) = UR at *
          generalize bs (redR n t) = RR at *
          generalize bs s = S at *
          generalize bs t = T at *
          go_enter Tryd.func7, Tryd.ntmps7
          go_wp2_with fail
          refine (unhide p1 _ (Below.refl _ _)).mono ?_
          rintro e w1 ⟨rfl, b1⟩
          have B1 := hide b1
          clear b1
          go_wp2_with fail
          refine (unhide p5 _ (unhide B1)).mono ?_
          rintro e w2 ⟨rfl, b2⟩
          have B2 := hide ((unhide B1).trans (b2.mono (unhide B1).size))
          clear b2 B1
          go_wp2_with fail
          refine (unhide p6 _ (unhide B2)).mono ?_
          rintro e w3 ⟨rfl, b3⟩
          have B3 := hide ((unhide B2).trans (b3.mono (unhide B2).size))
          clear b3 B2
          go_wp2_with fail
          refine (unhide p7 _ (unhide B3)).mono ?_
          rintro e w4 ⟨rfl, b4⟩
          have B4 := hide ((unhide B3).trans (b4.mono (unhide B3).size))
          clear b4 B3
          go_wp2_with fail
          refine (unhide haw _).mono ?_
          rintro e w5 ⟨rfl, b5⟩
          have B5 := hide ((unhide B4).trans (b5.mono (unhide B4).size))
          clear b5 B4
          go_wp2
          go_ret
          exact ⟨rfl, unhide B5⟩
      · by_cases hD : redE n t = 0
        · have f1 := back_not hA
          rw [f1] at p1
          have hB' : (unpE n t == 0) = false := by simpa using hB
          obtain ⟨k1, k2⟩ := back_text hD
          rw [hD] at p7
          rw [k1, k2] at p8
          generalize unpE n t = UE at *
          clear hs ht hG hA hB hD f1 k1 k2
          generalize bs (packR n s) = PR at *
          generalize bs (textR n s) = TR at *
          generalize bs (unpR n t) = UR at *
          generalize bs (redR n t) = RR at *
          generalize bs s = S at *
          generalize bs t = T at *
          go_enter Tryd.func7, Tryd.ntmps7
          go_wp2_with fail
          refine (unhide p1 _ (Below.refl _ _)).mono ?_
          rintro e w1 ⟨rfl, b1⟩
          have B1 := hide b1
          clear b1
          go_wp2_with fail
          refine (unhide p5 _ (unhide B1)).mono ?_
          rintro e w2 ⟨rfl, b2⟩
          have B2 := hide ((unhide B1).trans (b2.mono (unhide B1).size))
          clear b2 B1
          go_wp2_with fail
          refine (unhide p7 _ (unhide B2)).mono ?_
          rintro e w3 ⟨rfl, b3⟩
          have B3 := hide ((unhide B2).trans (b3.mono (unhide B2).size))
          clear b3 B2
          go_wp2_with fail
          refine (unhide p8 _ (unhide B3)).mono ?_
          rintro e w4 ⟨rfl, b4⟩
          have B4 := hide ((unhide B3).trans (b4.mono (unhide B3).size))
          clear b4 B3
          go_wp2_with fail
          refine (unhide haw _).mono ?_
          rintro e w5 ⟨rfl, b5⟩
          have B5 := hide ((unhide B4).trans (b5.mono (unhide B4).size))
          clear b5 B4
          go_wp2
          go_ret
          exact ⟨rfl, unhide B5⟩
        · have f1 := back_not hA
          rw [f1] at p1
          have hB' : (unpE n t == 0) = false := by simpa using hB
          have hD' : (redE n t == 0) = false := by simpa using hD
          generalize unpE n t = UE at *
          generalize redE n t = RE at *
          clear hs ht hG hA hB hD f1
          generalize bs (packR n s) = PR at *
          generalize bs (textR n s) = TR at *
          generalize bs (unpR n t) = UR at *
          generalize bs (redR n t) = RR at *
          generalize bs s = S at *
          generalize bs t = T at *
          go_enter Tryd.func7, Tryd.ntmps7
          go_wp2_with fail
          refine (unhide p1 _ (Below.refl _ _)).mono ?_
          rintro e w1 ⟨rfl, b1⟩
          have B1 := hide b1
          clear b1
          go_wp2_with fail
          refine (unhide p5 _ (unhide B1)).mono ?_
          rintro e w2 ⟨rfl, b2⟩
          have B2 := hide ((unhide B1).trans (b2.mono (unhide B1).size))
          clear b2 B1
          go_wp2_with fail
          refine (unhide p7 _ (unhide B2)).mono ?_
          rintro e w3 ⟨rfl, b3⟩
          have B3 := hide ((unhide B2).trans (b3.mono (unhide B2).size))
          clear b3 B2
          go_wp2_with fail
          refine (unhide haw _).mono ?_
          rintro e w4 ⟨rfl, b4⟩
          have B4 := hide ((unhide B3).trans (b4.mono (unhide B3).size))
          clear b4 B3
          go_wp2
          go_ret
          exact ⟨rfl, unhide B4⟩
theorem runsBack_any (n : Int) (a b : ByteArray) (w : World) (ha : a.size ≤ maxLen) (hb : b.size ≤ maxLen) (hG : Glob w) : Calls Tryd.prog 7 #[.int .i64 n, .string a, .string b] w fun e w' => e = .returned (.bool true) ∧ Below w.heap.size w w' := by
  rw [← bs_of a, ← bs_of b]
  exact runsBack_by n a.data.toList b.data.toList w (by rw [← show a.size = a.data.toList.length from by simp]; exact ha) (by rw [← show b.size = b.data.toList.length from by simp]; exact hb) hG
end Go.Proofs.YtbodklppgcloiaaDoor

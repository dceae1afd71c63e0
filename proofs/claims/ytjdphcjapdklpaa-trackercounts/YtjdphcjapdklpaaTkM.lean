/- TrackerCounts. -/
import Derived.Test.YtjdphcjapdklpaaTkL
import Derived.Test.YtjdphcjapdklpaaRst
import Derived.Laws.StructEq
namespace Go.Proofs.Ytjdphcjapdklpaa
open Go.RowKit
set_option linter.unusedVariables false
attribute [local go_sem] Oper.semAt_some

theorem cell_set_grown (W : World) (g o : Nat) (v : Value) : W.grownBy (W.setCell ⟨g, o, none⟩ v) (some g) := ⟨rfl, rfl, rfl, by simp [World.setCell], fun k _ hk => Below.heap_setCell _ _ _ _ (fun e => hk (by rw [e]))⟩
/-- the state of the law: both notes' boxes, the table -/
structure CT (w : World) (b mb : Nat) (pn : By) (pd px py pu qx qy qu : Int) (f : Names) (N : Nat) (W : World) : Prop where
  a : W.heap[w.heap.size]? = some (.cells #[.string (bs pn), .int .i64 pd, .int .i64 px, .int .i64 py, .int .i64 pu] 25 (0, 0))
  q : W.heap[w.heap.size + 1]? = some (.cells #[.string (bs pn), .int .i64 pd, .int .i64 qx, .int .i64 qy, .int .i64 qu] 25 (0, 0))
  t : TbAt W b mb f N 3
  be : Below w.heap.size w W
  lo : w.heap.size + 2 ≤ mb
theorem CT.up {w : World} {b mb : Nat} {pn : By} {pd px py pu qx qy qu : Int} {f : Names} {N : Nat} {W W' : World} (h : CT w b mb pn pd px py pu qx qy qu f N W) (hb : Below W.heap.size W W') : CT w b mb pn pd px py pu qx qy qu f N W' :=
  ⟨(hb.block _ (lt_of_block h.a)).trans h.a, (hb.block _ (lt_of_block h.q)).trans h.q, h.t.up hb, h.be.trans (hb.mono h.be.size), h.lo⟩
theorem CT.go {w : World} {b mb : Nat} {pn : By} {pd px py pu qx qy qu : Int} {f g : Names} {N M : Nat} {W W' : World} (h : CT w b mb pn pd px py pu qx qy qu f N W) (ht : TbAt W' b mb g M 3) (hg : W.grownBy W' (some mb)) : CT w b mb pn pd px py pu qx qy qu g M W' :=
  ⟨(hg.block _ (lt_of_block h.a) (fun e => by have := Option.some.inj e; have := h.lo; omega)).trans h.a, (hg.block _ (lt_of_block h.q) (fun e => by have := Option.some.inj e; have := h.lo; omega)).trans h.q, ht, below_tab h.be hg h.be.size h.be.size (by have := h.lo; omega), h.lo⟩
/-- what Nodes and its length answer -/
def RB1 : Nat → Value → World → Prop
  | 16, v, _ => ∃ a c, v = .slice a 1 c
  | 17, v, _ => v = .int .i64 1
  | _, v, _ => v = undef
theorem RB1.stay {j : Nat} {v : Value} {x y : World} (h : RB1 j v x) : RB1 j v y := by
  unfold RB1 at h ⊢
  split at h <;> exact h
def RB2 : Nat → Value → World → Prop
  | 16, v, _ => ∃ a c, v = .slice a 1 c
  | 17, v, _ => v = .int .i64 1
  | 31, v, _ => ∃ a c, v = .slice a 0 c
  | 32, v, _ => v = .int .i64 0
  | _, v, _ => v = undef
theorem RB2.stay {j : Nat} {v : Value} {x y : World} (h : RB2 j v x) : RB2 j v y := by
  unfold RB2 at h ⊢
  split at h <;> exact h
theorem cnt_now {p : Nt} {now : Int} (h : 1 ≤ p.nd ∧ p.nd ≤ 15) : cntB now p = decide (now ≤ p.un) := by
  unfold cntB
  rw [decide_eq_true h, Bool.true_and]
theorem mayN_t {p : Nt} {now : Int} (h : mayN p now = true) : p.nm.length = 32 ∧ (1 ≤ p.nd ∧ p.nd ≤ 15) ∧ now ≤ p.un ∧ p.un ≤ 1099511627776 := by
  unfold mayN isN at h
  simp only [Bool.and_eq_true, decide_eq_true_iff] at h
  exact ⟨h.1, h.2.1, h.2.2.2⟩
set_option maxRecDepth 100000 in
set_option maxHeartbeats 16000000 in
theorem trackerCounts_any (p q : Nt) (now : Int) (w : World) : Calls Try.prog 3 #[.agg p.cl.toArray, .agg q.cl.toArray, .int .i64 now] w fun e w' => e = .returned (.bool true) ∧ Below w.heap.size w w' := by
  have HA := hide (fun W => tawake_any W)
  have HNW := hide (fun W => tnew_any 3 W (by omega))
  obtain ⟨pn, pd, px, py, pu⟩ := p
  obtain ⟨qn, qd, qx, qy, qu⟩ := q
  have e1 := bs_size pn
  have e2 := bs_size qn
  unfold Nt.cl
  dsimp only
  have hsz : (w.alloc (.cells #[.string (bs pn), .int .i64 pd, .int .i64 px, .int .i64 py, .int .i64 pu] 25)).heap.size = w.heap.size + 1 := by simp
  by_cases h1 : pn.length ≤ 100
  · have q1 : ¬ (100 : Int) < pn.length := by omega
    by_cases h2 : qn.length ≤ 100
    · have q2 : ¬ (100 : Int) < qn.length := by omega
      obtain ⟨W0, hW0⟩ : ∃ W, W = (w.alloc (.cells #[.string (bs pn), .int .i64 pd, .int .i64 px, .int .i64 py, .int .i64 pu] 25)).alloc (.cells #[.string (bs qn), .int .i64 qd, .int .i64 qx, .int .i64 qy, .int .i64 qu] 25) := ⟨_, rfl⟩
      have HW := hide hW0
      have hA0 : Hid (W0.heap[w.heap.size]? = some (.cells #[.string (bs pn), .int .i64 pd, .int .i64 px, .int .i64 py, .int .i64 pu] 25 (0, 0))) := by
        show _ = _
        rw [hW0, Below.heap_alloc _ _ _ (by simp)]
        exact heap_alloc_new _ _
      have hQ0 : Hid (W0.heap[w.heap.size + 1]? = some (.cells #[.string (bs qn), .int .i64 qd, .int .i64 qx, .int .i64 qy, .int .i64 qu] 25 (0, 0))) := by
        show _ = _
        have := heap_alloc_new (w.alloc (.cells #[.string (bs pn), .int .i64 pd, .int .i64 px, .int .i64 py, .int .i64 pu] 25)) (.cells #[.string (bs qn), .int .i64 qd, .int .i64 qx, .int .i64 qy, .int .i64 qu] 25)
        rw [hsz, ← hW0] at this
        exact this
      have hB0 : Hid (Below w.heap.size w W0) := by
        show Below _ _ _
        rw [hW0]
        exact ((Below.refl _ w).alloc (Nat.le_refl _) _).alloc (by simp) _
      have hS0 : Hid (W0.heap.size = w.heap.size + 2) := by
        show _ = _
        rw [hW0]
        simp
      clear hW0
      have HP32 := hide (show pn.length ≤ maxLen by unfold maxLen; omega)
      clear h1 h2
      go_enter Try.func3, Try.ntmps3
      go_wp2_with fail
      rw [← unhide HW]
      clear HW q1 q2 hsz e1 e2
      refine (unhide HNW _).mono ?_
      rintro e w1 ⟨⟨b, mb, hb, hmb, rfl, hT⟩, b1⟩
      have HT1 := hide hT
      have HB1 := hide b1
      have hblo : Hid (w.heap.size + 2 ≤ b ∧ w.heap.size + 2 ≤ mb) := by have := unhide hS0; exact ⟨by omega, by omega⟩
      clear hT b1 hb hmb
      go_wp2_with fail
      refine (unhide HA _).mono ?_
      rintro e w2 ⟨rfl, b2⟩
      have hA2 := (b2.block _ (by have := (unhide HB1).size; have := unhide hS0; omega)).trans (((unhide HB1).block _ (lt_of_block (unhide hA0))).trans (unhide hA0))
      have hQ2 := (b2.block _ (by have := (unhide HB1).size; have := unhide hS0; omega)).trans (((unhide HB1).block _ (lt_of_block (unhide hQ0))).trans (unhide hQ0))
      have hT2 := (unhide HT1).up b2
      have hB2 := ((unhide hB0).trans ((unhide HB1).mono (unhide hB0).size)).trans (b2.mono (Nat.le_trans (unhide hB0).size (unhide HB1).size))
      have hQa := heap_setCell_same w2 (w.heap.size + 1) 0 _ _ (.string (bs pn)) hQ2
      have hAa := (Below.heap_setCell w2 ⟨w.heap.size + 1, 0, none⟩ (.string (bs pn)) w.heap.size (by simp)).trans hA2
      have hQb := heap_setCell_same _ (w.heap.size + 1) 1 _ _ (.int .i64 pd) hQa
      have hAb := (Below.heap_setCell (w2.setCell ⟨w.heap.size + 1, 0, none⟩ (.string (bs pn))) ⟨w.heap.size + 1, 1, none⟩ (.int .i64 pd) w.heap.size (by simp)).trans hAa
      have HCT : Hid (CT w b mb pn pd px py pu qx qy qu (fun _ => none) 0 ((w2.setCell ⟨w.heap.size + 1, 0, none⟩ (.string (bs pn))).setCell ⟨w.heap.size + 1, 1, none⟩ (.int .i64 pd))) := by
        refine ⟨hAb, by simpa using hQb, ?_, (hB2.setCell (by simp) _).setCell (by simp) _, (unhide hblo).2⟩
        have h := unhide hblo
        exact (hT2.kept (cell_set_grown _ _ _ _) (by simp; omega) (by simp; omega)).kept (cell_set_grown _ _ _ _) (by simp; omega) (by simp; omega)
      have c0 : w2.cell? ⟨w.heap.size, 0, none⟩ = some (.string (bs pn)) := cell_of_row _ _ 0 _ _ _ hA2
      have c1 : (w2.setCell ⟨w.heap.size + 1, 0, none⟩ (.string (bs pn))).cell? ⟨w.heap.size, 1, none⟩ = some (.int .i64 pd) := cell_of_row _ _ 1 _ _ _ hAa
      have d0 : w2.cell? ⟨w.heap.size + 1, 0, none⟩ = some (.string (bs qn)) := cell_of_row _ _ 0 _ _ _ hQ2
      have d1 : (w2.setCell ⟨w.heap.size + 1, 0, none⟩ (.string (bs pn))).cell? ⟨w.heap.size + 1, 1, none⟩ = some (.int .i64 qd) := by
        rw [cell_of_row _ _ 1 _ _ _ hQa]
        rfl
      have g0 : w2.frozen? ⟨w.heap.size + 1, 0, none⟩ = false := by simp [World.frozen?, hQ2]
      have g1 : (w2.setCell ⟨w.heap.size + 1, 0, none⟩ (.string (bs pn))).frozen? ⟨w.heap.size + 1, 1, none⟩ = false := by simp [World.frozen?, hQa]
      clear hA2 hQ2 hT2 hB2 hQa hAa hQb hAb b2 HT1 HB1 hblo hA0 hQ0 hB0 hS0 HNW HA
      go_wp2_with (refine wpList_load_row rfl 25 (.tmp 3) rfl w.heap.size rfl 25 _ (0, 0) _ (unhide HCT).a Try.underlying25 rfl (by kernel_rfl) ?_)
      generalize (w2.setCell ⟨w.heap.size + 1, 0, none⟩ (.string (bs pn))).setCell ⟨w.heap.size + 1, 1, none⟩ (.int .i64 pd) = w3 at *
      clear c0 c1 d0 d1 g0 g1
      cases hm : mayN ⟨pn, pd, px, py, pu⟩ 0 with
      | false =>
        refine (ann_bad b mb _ 0 3 0 ⟨pn, pd, px, py, pu⟩ w3 (unhide HCT).t (unhide HP32) (by rw [hm]; rfl)).mono ?_
        rintro e w4 ⟨rfl, b4⟩
        have HC4 := hide ((unhide HCT).up b4)
        have HL : Hid (Calls Try.prog 9 #[.pointer (some ⟨b, 0, none⟩), .int .i64 0] w4 fun e w' => e = .returned (.int .i64 0) ∧ Below w4.heap.size w4 w') := len_is b mb _ 0 3 0 w4 [] (unhide HC4).t (by omega) (by simp) (fun k => by simp [ndF, isT, nodesF_z])
        clear b4 HCT hm
        go_wp2_with fail
        refine (unhide HL).mono ?_
        rintro e w5 ⟨rfl, b5⟩
        have HB5 := hide ((unhide HC4).up b5).be
        clear b5 HL HC4
        go_wp2
        go_ret
        exact ⟨rfl, unhide HB5⟩
      | true =>
        have hmt := mayN_t hm
        have HMT := hide hmt
        refine (ann_ok b mb _ 0 3 0 ⟨pn, pd, px, py, pu⟩ w3 (unhide HCT).t (by omega) (by omega) (unhide HP32) rfl hm).mono ?_
        rintro e w4 ⟨rfl, hT4, hg4⟩
        have HC4 := hide ((unhide HCT).go hT4 hg4)
        have hF : annF (fun _ => none) ⟨pn, pd, px, py, pu⟩ 0 pn = some (putA zS ⟨pn, pd, px, py, pu⟩) := by rw [ann_none]; exact putF_at _ _ _
        have HF := hide hF
        clear hT4 hg4 HCT hm hmt hF
        obtain ⟨F1, hF1⟩ : ∃ F, F = annF (fun _ => none) ⟨pn, pd, px, py, pu⟩ 0 := ⟨_, rfl⟩
        rw [← hF1] at HF HC4
        have HF1 := hide hF1
        clear hF1
        have hac := (unhide HC4).a
        obtain ⟨⟨x0, x1, x2, x3, x4⟩, xl⟩ := note_cells (p := ⟨pn, pd, px, py, pu⟩) hac
        clear hac
        by_cases hnt : now < 0 ∨ now > 1099511627776
        · have hit : isT now = false := by unfold isT; exact decide_eq_false (by omega)
          have HND : Hid (Calls Try.prog 10 #[.pointer (some ⟨b, 0, none⟩), .string (bs pn), .int .i64 now] w4 fun e w' => ∃ a c, e = .returned (.slice a 0 c) ∧ Below w4.heap.size w4 w') := nodes_len b mb F1 1 3 pn now w4 0 (unhide HC4).t (unhide HP32) (by unfold ndF; rw [hit]; rfl)
          rcases Int.lt_or_le now 0 with h0 | h0
          · clear hnt
            go_wp2_with fail
            refine (unhide HND).mono ?_
            rintro e w5 ⟨a5, k5, rfl, b5⟩
            have HB5 := hide ((unhide HC4).up b5).be
            clear b5 HND HC4
            go_wp2
            go_ret
            exact ⟨rfl, unhide HB5⟩
          · have h9 : (1099511627776 : Int) < now := by omega
            have h8 : ¬ now < 0 := by omega
            clear hnt
            go_wp2_with fail
            refine (unhide HND).mono ?_
            rintro e w5 ⟨a5, k5, rfl, b5⟩
            have HB5 := hide ((unhide HC4).up b5).be
            clear b5 HND HC4
            go_wp2
            go_ret
            exact ⟨rfl, unhide HB5⟩
        · have h8 : ¬ now < 0 := by omega
          have h9 : ¬ (1099511627776 : Int) < now := by omega
          have hit : isT now = true := by unfold isT; exact decide_eq_true (by omega)
          have HIT := hide hit
          clear hnt
          clear x0 x1 x2 x3 x4 xl
          have hndF : ndF F1 pn now = if now ≤ pu then [⟨pn, pd, px, py, pu⟩] else [] := by
            rw [ndF_t (unhide HIT), unhide HF]
            show nodesF now (putA zS ⟨pn, pd, px, py, pu⟩) = _
            rw [nodesF_one now _ (unhide HMT).2.1, cnt_now (unhide HMT).2.1]
            by_cases hc : now ≤ pu
            · rw [if_pos hc, if_pos (decide_eq_true hc)]
            · rw [if_neg hc, if_neg (by simpa using hc)]
          have HNF := hide hndF
          have HAG := hide (ann_again ⟨pn, pd, px, py, pu⟩ ⟨pn, pd, qx, qy, qu⟩ rfl (unhide HMT).2.1 rfl now)
          have hFF : annF F1 ⟨pn, pd, qx, qy, qu⟩ now pn = some (putA zS ⟨pn, pd, qx, qy, qu⟩) := by
            rw [unhide HF1, ann_none]
            exact unhide HAG
          have HFF := hide hFF
          clear hndF HAG hFF hit
          by_cases hc : now ≤ pu
          · have hct : decide (now ≤ pu) = true := decide_eq_true hc
            go_wp2_with fail
            refine wp_region_rel [false, false, false, false, true, true, false, false, false, false, false, false] [] [5] [64, 65] (Act.put _ (some 65) (.int .i64 1)) ?A41 (fun x y => Below x.heap.size x y) (RA 1) (by kernel_rfl) (by kernel_rfl) (fun x y z h1 h2 => h1.trans (h2.mono h1.size)) (fun x y h => h) (fun j v x y h hb => RA.stay h) ((Off.refl _ _).put 65 _ (by simp)) ?det41 ?lex41 ?gA41 ?st41 ?fin41
            case lex41 =>
              intro z hz
              have hneX := gb_ne z
              obtain ⟨⟨t0, t1, t2, t3, t4⟩, tl⟩ := note_cells (p := ⟨pn, pd, px, py, pu⟩) ((unhide HC4).up hz).a
              have g0 : ∀ y : Gb z, _ := fun y => gb_cell t0 y
              have g4 : ∀ y : Gb z, _ := fun y => gb_cell t4 y
              clear t0 t1 t2 t3 t4 tl
              dsimp only [restM]
              simp only [Act.put, List.setIfInBounds_toArray, List.set_cons_succ, List.set_cons_zero]
              repeat (go_big_quiet_step (fail))
              refine wpQuiet_nil ?_
              exact rfl
            case det41 =>
              intro j hj o s ho hs v z hR
              simp only [List.mem_cons, List.not_mem_nil, or_false] at hj
              rcases hj with rfl
              all_goals
                simp only [List.getElem?_cons_succ, List.getElem?_cons_zero, Option.some.injEq] at ho
                subst ho
                simp only [Option.some.injEq] at hs
                subst hs
                exact hR.trans rfl
            case gA41 =>
              intro g hg
              exact absurd hg (List.not_mem_nil)
            case st41 =>
              intro j o ho hmj z bb hz hop
              have hj : j ∈ [4, 5] := mask_in hmj
              simp only [List.mem_cons, List.not_mem_nil, or_false] at hj
              rcases hj with rfl | rfl
              · simp only [List.getElem?_cons_succ, List.getElem?_cons_zero, Option.some.injEq] at ho
                subst ho
                have y0 : bb.eval (.tmp 60) = .pointer (some ⟨b, 0, none⟩) := hop 60 (by simp [Op.operands, Call.operands])
                have y1 : bb.eval (.tmp 62) = .string (bs pn) := hop 62 (by simp [Op.operands, Call.operands])
                have y2 : bb.eval (.tmp 63) = .int .i64 now := hop 63 (by simp [Op.operands, Call.operands])
                refine wp_call 10 #[.tmp 60, .tmp 62, .tmp 63] _ rfl Try.call10 #[.pointer (some ⟨b, 0, none⟩), .string (bs pn), .int .i64 now] (by simp [y0, y1, y2]) (nodes_len b mb F1 1 3 pn now z 1 ((unhide HC4).up hz).t (unhide HP32) (by rw [unhide HNF, if_pos hc]; rfl)) ?_
                rintro e w7 ⟨a7, c7, rfl, b7⟩
                exact ⟨_, rfl, _, rfl, ⟨_, _, rfl⟩, b7⟩
              · simp only [List.getElem?_cons_succ, List.getElem?_cons_zero, Option.some.injEq] at ho
                subst ho
                obtain ⟨a7, c7, y0⟩ : ∃ a c, bb.eval (.tmp 64) = .slice a 1 c := hop 64 (by simp [Op.operands, Call.operands])
                have y1 : bb.tmps[64]?.getD undef = .slice a7 1 c7 := by simpa [Act.eval] using y0
                unfold Oper.wp
                simp [y1, go_sem, Builtin.len_]
                exact ⟨_, rfl, rfl, Below.refl _ _⟩
            case fin41 =>
              intro bb z hz hoff hrel
              have hall := Off.all _ _ hoff
              simp only [List.foldl_cons, List.foldl_nil] at hall
              generalize bb.eval (.tmp 64) = v64 at hall
              generalize bb.eval (.tmp 65) = v65 at hall
              rw [hall]
              clear hall hrel hoff
              simp only [Act.put, List.setIfInBounds_toArray, List.set_cons_succ, List.set_cons_zero]
              have HC5 := hide ((unhide HC4).up hz)
              clear hz HC4
              go_wp2_with (refine wpList_load_row rfl 25 (.tmp 4) rfl (w.heap.size + 1) rfl 25 _ (0, 0) _ (unhide HC5).q Try.underlying25 rfl (by kernel_rfl) ?_)
              cases hm : mayN ⟨pn, pd, qx, qy, qu⟩ now with
              | false =>
                refine (ann_bad b mb F1 1 3 now ⟨pn, pd, qx, qy, qu⟩ z (unhide HC5).t (unhide HP32) (by rw [hm, Bool.and_false])).mono ?_
                rintro e w6 ⟨rfl, b6⟩
                have HC6 := hide ((unhide HC5).up b6)
                obtain ⟨⟨x0, x1, x2, x3, x4⟩, xl⟩ := note_cells (p := ⟨pn, pd, px, py, pu⟩) (unhide HC6).a
                have HND : Hid (Calls Try.prog 10 #[.pointer (some ⟨b, 0, none⟩), .string (bs pn), .int .i64 now] w6 fun e w' => ∃ a c, e = .returned (.slice a 1 c) ∧ Below w6.heap.size w6 w') := nodes_len b mb F1 1 3 pn now w6 1 (unhide HC6).t (unhide HP32) (by rw [unhide HNF, if_pos hc]; rfl)
                clear b6 HC5 hm
                go_wp2_with fail
                refine (unhide HND).mono ?_
                rintro e w7 ⟨a7, k7, rfl, b7⟩
                have HC7 := hide ((unhide HC6).up b7)
                clear b7 HC6 HND x0 x1 x2 x3 x4 xl
                obtain ⟨⟨x0, x1, x2, x3, x4⟩, xl⟩ := note_cells (p := ⟨pn, pd, px, py, pu⟩) (unhide HC7).a
                have HB7 := hide (unhide HC7).be
                go_wp2
                go_ret
                exact ⟨rfl, unhide HB7⟩
              | true =>
                have hmt2 := mayN_t hm
                have HM2 := hide hmt2
                refine (ann_ok b mb F1 1 3 now ⟨pn, pd, qx, qy, qu⟩ z (unhide HC5).t (by omega) (by omega) (unhide HP32) (unhide HIT) hm).mono ?_
                rintro e w6 ⟨rfl, hT6, hg6⟩
                have HC6 := hide ((unhide HC5).go hT6 hg6)
                clear hT6 hg6 HC5 hm hmt2
                obtain ⟨F2, hF2⟩ : ∃ F, F = annF F1 ⟨pn, pd, qx, qy, qu⟩ now := ⟨_, rfl⟩
                rw [← hF2] at HFF HC6
                clear hF2
                have hnd2 : ∀ t, isT t = true → ndF F2 pn t = if cntB t ⟨pn, pd, qx, qy, qu⟩ = true then [⟨pn, pd, qx, qy, qu⟩] else [] := fun t ht => by
                  rw [ndF_t ht, unhide HFF]
                  exact nodesF_one t _ (unhide HM2).2.1
                have hi0 := unhide HIT
                unfold isT at hi0
                rw [decide_eq_true_iff] at hi0
                have hu := unhide HM2
                dsimp only at hu
                have hndN : ndF F2 pn now = [⟨pn, pd, qx, qy, qu⟩] := by
                  rw [hnd2 now (unhide HIT), cnt_now hu.2.1, if_pos (decide_eq_true hu.2.2.1)]
                have hndU : ndF F2 pn qu = [⟨pn, pd, qx, qy, qu⟩] := by
                  rw [hnd2 qu (by unfold isT; exact decide_eq_true (by omega)), cnt_now hu.2.1, if_pos (decide_eq_true (Int.le_refl _))]
                have hndV : qu ≠ 1099511627776 → ndF F2 pn (qu + 1) = [] := fun hne => by
                  rw [hnd2 (qu + 1) (by unfold isT; exact decide_eq_true (by omega)), cnt_now hu.2.1, if_neg (by rw [decide_eq_true_iff]; dsimp only; omega)]
                have HNN := hide hndN
                have HNU := hide hndU
                have HNV := hide hndV
                clear hnd2 hndN hndU hndV hi0
                have hqb : Hid (0 ≤ qu ∧ qu ≤ 1099511627776) := by have := unhide HIT; unfold isT at this; rw [decide_eq_true_iff] at this; exact ⟨by omega, by omega⟩
                clear hu
                obtain ⟨⟨x0, x1, x2, x3, x4⟩, xl⟩ := note_cells (p := ⟨pn, pd, px, py, pu⟩) (unhide HC6).a
                have HND := hide (nodes_any b mb F2 2 3 pn now w6 (unhide HC6).t (unhide HP32))
                go_wp2_with fail
                refine (unhide HND).mono ?_
                rintro e w7 ⟨v7, rfl, hR⟩
                obtain ⟨a7, k7, rfl, hat, _⟩ := hR.own.nts
                rw [unhide HNN] at hat
                obtain ⟨g, o, rfl, hgl, hrg⟩ := hat 0 _ rfl
                rw [unhide HNN]
                have HC7 := hide ((unhide HC6).up hR.be)
                have HRG := hide hrg
                have HGL := hide hgl
                have hz0 : (0 : Nat) * 5 = 0 := rfl
                clear hR hat HND HC6 hrg hgl hz0 x0 x1 x2 x3 x4 xl
                have HQB := hqb
                clear hqb
                have hqb := HQB
                clear HQB
                try simp only [List.length_cons, List.length_nil, Nat.zero_add]
                go_wp2_with fail
                by_cases hmx : qu = 1099511627776
                · subst hmx
                  refine wp_region_rsk [false, false, false, false, false, false, false, false, false, false, false, false, false, false, false, false, true, true, false, false, false, false, false, false, false, true, true, true, true, true, true, true, true, true, false, false, false] [false, false, false, false, false, false, false, false, false, false, false, false, false, false, false, false, false, false, false, false, false, false, false, false, false, true, true, true, true, true, true, true, true, true, false, false, false] [(86, true), (93, true), (103, true), (107, true)] [17, 33] [99, 100, 108, 109, 110, 111, 112, 113, 114, 115, 116] (Act.put (Act.put _ (some 100) (.int .i64 1)) (some 116) (undef)) ?A418 (fun x y => Below x.heap.size x y) (RB1) (by kernel_rfl) (by kernel_rfl) (fun x y z h1 h2 => h1.trans (h2.mono h1.size)) (fun x y h => h) (fun j v x y h hb => RB1.stay h) (((Off.refl _ _).put 100 _ (by simp)).put 116 _ (by simp)) ?det418 ?lex418 ?gA418 ?sk418 ?st418 ?fin418
                  case lex418 =>
                    intro z8 hz
                    have hneX := gb_ne z8
                    obtain ⟨⟨t0, t1, t2, t3, t4⟩, tl⟩ := note_cells (p := ⟨pn, pd, px, py, pu⟩) ((unhide HC7).up hz).a
                    have g0 : ∀ y : Gb z8, _ := fun y => gb_cell t0 y
                    clear t0 t1 t2 t3 t4 tl
                    obtain ⟨⟨t0, t1, t2, t3, t4⟩, tl⟩ := note_cells (p := ⟨pn, pd, qx, qy, 1099511627776⟩) ((unhide HC7).up hz).q
                    have h0 : ∀ y : Gb z8, _ := fun y => gb_cell t0 y
                    have h1 : ∀ y : Gb z8, _ := fun y => gb_cell t1 y
                    have h2 : ∀ y : Gb z8, _ := fun y => gb_cell t2 y
                    have h3 : ∀ y : Gb z8, _ := fun y => gb_cell t3 y
                    have h4 : ∀ y : Gb z8, _ := fun y => gb_cell t4 y
                    clear t0 t1 t2 t3 t4 tl
                    have l0 : z8.cell? ⟨g, o, none⟩ = some (.string (bs pn)) := by
                      have := cell_below (unhide HRG 0 _ rfl) hz
                      simpa using this
                    have m0 : ∀ y : Gb z8, _ := fun y => gb_cell l0 y
                    have l1 : z8.cell? ⟨g, o + 1, none⟩ = some (.int .i64 pd) := by
                      have := cell_below (unhide HRG 1 _ rfl) hz
                      simpa using this
                    have m1 : ∀ y : Gb z8, _ := fun y => gb_cell l1 y
                    have l2 : z8.cell? ⟨g, o + 2, none⟩ = some (.int .i64 qx) := by
                      have := cell_below (unhide HRG 2 _ rfl) hz
                      simpa using this
                    have m2 : ∀ y : Gb z8, _ := fun y => gb_cell l2 y
                    have l3 : z8.cell? ⟨g, o + 3, none⟩ = some (.int .i64 qy) := by
                      have := cell_below (unhide HRG 3 _ rfl) hz
                      simpa using this
                    have m3 : ∀ y : Gb z8, _ := fun y => gb_cell l3 y
                    have l4 : z8.cell? ⟨g, o + 4, none⟩ = some (.int .i64 1099511627776) := by
                      have := cell_below (unhide HRG 4 _ rfl) hz
                      simpa using this
                    have m4 : ∀ y : Gb z8, _ := fun y => gb_cell l4 y
                    clear l0 l1 l2 l3 l4
                    dsimp only [restM]
                    simp only [Act.put, List.setIfInBounds_toArray, List.set_cons_succ, List.set_cons_zero]
                    repeat (go_big_quiet_step (fail))
                    refine wpQuiet_nil ?_
                    exact rfl
                  case det418 =>
                    intro j hj o s ho hs v z hR
                    simp only [List.mem_cons, List.not_mem_nil, or_false] at hj
                    rcases hj with rfl | rfl
                    all_goals
                      simp only [List.getElem?_cons_succ, List.getElem?_cons_zero, Option.some.injEq] at ho
                      subst ho
                      simp only [Option.some.injEq] at hs
                      subst hs
                      exact hR.trans rfl
                  case gA418 =>
                    intro g hg
                    simp only [List.mem_cons, List.not_mem_nil, or_false] at hg
                    rcases hg with rfl | rfl | rfl | rfl <;> rfl
                  case sk418 =>
                    intro j hj x
                    have hj2 : j ∈ [25, 26, 27, 28, 29, 30, 31, 32, 33] := mask_in hj
                    simp only [List.mem_cons, List.not_mem_nil, or_false] at hj2
                    rcases hj2 with rfl | rfl | rfl | rfl | rfl | rfl | rfl | rfl | rfl
                    all_goals exact rfl
                  case st418 =>
                    intro j o ho hmj hns z8 bb hz hop
                    have hj : j ∈ [16, 17, 25, 26, 27, 28, 29, 30, 31, 32, 33] := mask_in hmj
                    simp only [List.mem_cons, List.not_mem_nil, or_false] at hj
                    rcases hj with rfl | rfl | rfl | rfl | rfl | rfl | rfl | rfl | rfl | rfl | rfl
                    · simp only [List.getElem?_cons_succ, List.getElem?_cons_zero, Option.some.injEq] at ho
                      subst ho
                      have y0 : bb.eval (.tmp 94) = .pointer (some ⟨b, 0, none⟩) := hop 94 (by simp [Op.operands, Call.operands])
                      have y1 : bb.eval (.tmp 96) = .string (bs pn) := hop 96 (by simp [Op.operands, Call.operands])
                      have y2 : bb.eval (.tmp 98) = .int .i64 1099511627776 := hop 98 (by simp [Op.operands, Call.operands])
                      refine wp_call 10 #[.tmp 94, .tmp 96, .tmp 98] _ rfl Try.call10 #[.pointer (some ⟨b, 0, none⟩), .string (bs pn), .int .i64 1099511627776] (by simp [y0, y1, y2]) (nodes_len b mb F2 2 3 pn 1099511627776 z8 1 ((unhide HC7).up hz).t (unhide HP32) (by rw [unhide HNU]; rfl)) ?_
                      rintro e w9 ⟨a9, c9, rfl, b9⟩
                      exact ⟨_, rfl, _, rfl, ⟨_, _, rfl⟩, b9⟩
                    · simp only [List.getElem?_cons_succ, List.getElem?_cons_zero, Option.some.injEq] at ho
                      subst ho
                      obtain ⟨a9, c9, y0⟩ : ∃ a c, bb.eval (.tmp 99) = .slice a 1 c := hop 99 (by simp [Op.operands, Call.operands])
                      have y1 : bb.tmps[99]?.getD undef = .slice a9 1 c9 := by simpa [Act.eval] using y0
                      unfold Oper.wp
                      simp [y1, go_sem, Builtin.len_]
                      exact ⟨_, rfl, rfl, Below.refl _ _⟩
                    · exact absurd rfl hns
                    · exact absurd rfl hns
                    · exact absurd rfl hns
                    · exact absurd rfl hns
                    · exact absurd rfl hns
                    · exact absurd rfl hns
                    · exact absurd rfl hns
                    · exact absurd rfl hns
                    · exact absurd rfl hns
                  case fin418 =>
                    intro bb z8 hz hoff hrel
                    have hall := Off.all _ _ hoff
                    simp only [List.foldl_cons, List.foldl_nil] at hall
                    generalize bb.eval (.tmp 99) = v99 at hall
                    generalize bb.eval (.tmp 100) = v100 at hall
                    generalize bb.eval (.tmp 108) = v108 at hall
                    generalize bb.eval (.tmp 109) = v109 at hall
                    generalize bb.eval (.tmp 110) = v110 at hall
                    generalize bb.eval (.tmp 111) = v111 at hall
                    generalize bb.eval (.tmp 112) = v112 at hall
                    generalize bb.eval (.tmp 113) = v113 at hall
                    generalize bb.eval (.tmp 114) = v114 at hall
                    generalize bb.eval (.tmp 115) = v115 at hall
                    generalize bb.eval (.tmp 116) = v116 at hall
                    rw [hall]
                    clear hall hrel hoff
                    simp only [Act.put, List.setIfInBounds_toArray, List.set_cons_succ, List.set_cons_zero]
                    have HB8 := hide ((unhide HC7).up hz).be
                    clear hz HC7
                    go_wp2
                    go_ret
                    exact ⟨rfl, unhide HB8⟩
                · have hmt : (qu == 1099511627776) = false := by simpa using hmx
                  have hw64 : IntKind.i64.wrap (qu + 1) = qu + 1 := by have := unhide hqb; rw [IntKind.wrap_i64]; omega
                  refine wp_region_rel [false, false, false, false, false, false, false, false, false, false, false, false, false, false, false, false, true, true, false, false, false, false, false, false, false, false, false, false, false, false, false, true, true, false, false, false, false] [(86, true), (93, true), (103, true), (107, false)] [17, 32] [99, 100, 114, 115] (Act.put (Act.put _ (some 100) (.int .i64 1)) (some 115) (.int .i64 0)) ?A419 (fun x y => Below x.heap.size x y) (RB2) (by kernel_rfl) (by kernel_rfl) (fun x y z h1 h2 => h1.trans (h2.mono h1.size)) (fun x y h => h) (fun j v x y h hb => RB2.stay h) (((Off.refl _ _).put 100 _ (by simp)).put 115 _ (by simp)) ?det419 ?lex419 ?gA419 ?st419 ?fin419
                  case lex419 =>
                    intro z8 hz
                    have hneX := gb_ne z8
                    obtain ⟨⟨t0, t1, t2, t3, t4⟩, tl⟩ := note_cells (p := ⟨pn, pd, px, py, pu⟩) ((unhide HC7).up hz).a
                    have g0 : ∀ y : Gb z8, _ := fun y => gb_cell t0 y
                    clear t0 t1 t2 t3 t4 tl
                    obtain ⟨⟨t0, t1, t2, t3, t4⟩, tl⟩ := note_cells (p := ⟨pn, pd, qx, qy, qu⟩) ((unhide HC7).up hz).q
                    have h0 : ∀ y : Gb z8, _ := fun y => gb_cell t0 y
                    have h1 : ∀ y : Gb z8, _ := fun y => gb_cell t1 y
                    have h2 : ∀ y : Gb z8, _ := fun y => gb_cell t2 y
                    have h3 : ∀ y : Gb z8, _ := fun y => gb_cell t3 y
                    have h4 : ∀ y : Gb z8, _ := fun y => gb_cell t4 y
                    clear t0 t1 t2 t3 t4 tl
                    have l0 : z8.cell? ⟨g, o, none⟩ = some (.string (bs pn)) := by
                      have := cell_below (unhide HRG 0 _ rfl) hz
                      simpa using this
                    have m0 : ∀ y : Gb z8, _ := fun y => gb_cell l0 y
                    have l1 : z8.cell? ⟨g, o + 1, none⟩ = some (.int .i64 pd) := by
                      have := cell_below (unhide HRG 1 _ rfl) hz
                      simpa using this
                    have m1 : ∀ y : Gb z8, _ := fun y => gb_cell l1 y
                    have l2 : z8.cell? ⟨g, o + 2, none⟩ = some (.int .i64 qx) := by
                      have := cell_below (unhide HRG 2 _ rfl) hz
                      simpa using this
                    have m2 : ∀ y : Gb z8, _ := fun y => gb_cell l2 y
                    have l3 : z8.cell? ⟨g, o + 3, none⟩ = some (.int .i64 qy) := by
                      have := cell_below (unhide HRG 3 _ rfl) hz
                      simpa using this
                    have m3 : ∀ y : Gb z8, _ := fun y => gb_cell l3 y
                    have l4 : z8.cell? ⟨g, o + 4, none⟩ = some (.int .i64 qu) := by
                      have := cell_below (unhide HRG 4 _ rfl) hz
                      simpa using this
                    have m4 : ∀ y : Gb z8, _ := fun y => gb_cell l4 y
                    clear l0 l1 l2 l3 l4
                    dsimp only [restM]
                    simp only [Act.put, List.setIfInBounds_toArray, List.set_cons_succ, List.set_cons_zero]
                    repeat (go_big_quiet_step (fail))
                    refine wpQuiet_nil ?_
                    exact rfl
                  case det419 =>
                    intro j hj o s ho hs v z hR
                    simp only [List.mem_cons, List.not_mem_nil, or_false] at hj
                    rcases hj with rfl | rfl
                    all_goals
                      simp only [List.getElem?_cons_succ, List.getElem?_cons_zero, Option.some.injEq] at ho
                      subst ho
                      simp only [Option.some.injEq] at hs
                      subst hs
                      exact hR.trans rfl
                  case gA419 =>
                    intro g hg
                    simp only [List.mem_cons, List.not_mem_nil, or_false] at hg
                    rcases hg with rfl | rfl | rfl | rfl <;> rfl
                  case st419 =>
                    intro j o ho hmj z8 bb hz hop
                    have hj : j ∈ [16, 17, 31, 32] := mask_in hmj
                    simp only [List.mem_cons, List.not_mem_nil, or_false] at hj
                    rcases hj with rfl | rfl | rfl | rfl
                    · simp only [List.getElem?_cons_succ, List.getElem?_cons_zero, Option.some.injEq] at ho
                      subst ho
                      have y0 : bb.eval (.tmp 94) = .pointer (some ⟨b, 0, none⟩) := hop 94 (by simp [Op.operands, Call.operands])
                      have y1 : bb.eval (.tmp 96) = .string (bs pn) := hop 96 (by simp [Op.operands, Call.operands])
                      have y2 : bb.eval (.tmp 98) = .int .i64 qu := hop 98 (by simp [Op.operands, Call.operands])
                      refine wp_call 10 #[.tmp 94, .tmp 96, .tmp 98] _ rfl Try.call10 #[.pointer (some ⟨b, 0, none⟩), .string (bs pn), .int .i64 qu] (by simp [y0, y1, y2]) (nodes_len b mb F2 2 3 pn qu z8 1 ((unhide HC7).up hz).t (unhide HP32) (by rw [unhide HNU]; rfl)) ?_
                      rintro e w9 ⟨a9, c9, rfl, b9⟩
                      exact ⟨_, rfl, _, rfl, ⟨_, _, rfl⟩, b9⟩
                    · simp only [List.getElem?_cons_succ, List.getElem?_cons_zero, Option.some.injEq] at ho
                      subst ho
                      obtain ⟨a9, c9, y0⟩ : ∃ a c, bb.eval (.tmp 99) = .slice a 1 c := hop 99 (by simp [Op.operands, Call.operands])
                      have y1 : bb.tmps[99]?.getD undef = .slice a9 1 c9 := by simpa [Act.eval] using y0
                      unfold Oper.wp
                      simp [y1, go_sem, Builtin.len_]
                      exact ⟨_, rfl, rfl, Below.refl _ _⟩
                    · simp only [List.getElem?_cons_succ, List.getElem?_cons_zero, Option.some.injEq] at ho
                      subst ho
                      have y0 : bb.eval (.tmp 108) = .pointer (some ⟨b, 0, none⟩) := hop 108 (by simp [Op.operands, Call.operands])
                      have y1 : bb.eval (.tmp 110) = .string (bs pn) := hop 110 (by simp [Op.operands, Call.operands])
                      have y2 : bb.eval (.tmp 113) = .int .i64 (qu + 1) := hop 113 (by simp [Op.operands, Call.operands])
                      refine wp_call 10 #[.tmp 108, .tmp 110, .tmp 113] _ rfl Try.call10 #[.pointer (some ⟨b, 0, none⟩), .string (bs pn), .int .i64 (qu + 1)] (by simp [y0, y1, y2]) (nodes_len b mb F2 2 3 pn (qu + 1) z8 0 ((unhide HC7).up hz).t (unhide HP32) (by rw [unhide HNV hmx]; rfl)) ?_
                      rintro e w9 ⟨a9, c9, rfl, b9⟩
                      exact ⟨_, rfl, _, rfl, ⟨_, _, rfl⟩, b9⟩
                    · simp only [List.getElem?_cons_succ, List.getElem?_cons_zero, Option.some.injEq] at ho
                      subst ho
                      obtain ⟨a9, c9, y0⟩ : ∃ a c, bb.eval (.tmp 114) = .slice a 0 c := hop 114 (by simp [Op.operands, Call.operands])
                      have y1 : bb.tmps[114]?.getD undef = .slice a9 0 c9 := by simpa [Act.eval] using y0
                      unfold Oper.wp
                      simp [y1, go_sem, Builtin.len_]
                      exact ⟨_, rfl, rfl, Below.refl _ _⟩
                  case fin419 =>
                    intro bb z8 hz hoff hrel
                    have hall := Off.all _ _ hoff
                    simp only [List.foldl_cons, List.foldl_nil] at hall
                    generalize bb.eval (.tmp 99) = v99 at hall
                    generalize bb.eval (.tmp 100) = v100 at hall
                    generalize bb.eval (.tmp 114) = v114 at hall
                    generalize bb.eval (.tmp 115) = v115 at hall
                    rw [hall]
                    clear hall hrel hoff
                    simp only [Act.put, List.setIfInBounds_toArray, List.set_cons_succ, List.set_cons_zero]
                    have HB8 := hide ((unhide HC7).up hz).be
                    clear hz HC7
                    go_wp2
                    go_ret
                    exact ⟨rfl, unhide HB8⟩
          · have hcf : decide (now ≤ pu) = false := decide_eq_false hc
            go_wp2_with fail
            refine wp_region_rel [false, false, false, false, true, true, false, false, false, false, false, false] [] [5] [64, 65] (Act.put _ (some 65) (.int .i64 0)) ?A42 (fun x y => Below x.heap.size x y) (RA 0) (by kernel_rfl) (by kernel_rfl) (fun x y z h1 h2 => h1.trans (h2.mono h1.size)) (fun x y h => h) (fun j v x y h hb => RA.stay h) ((Off.refl _ _).put 65 _ (by simp)) ?det42 ?lex42 ?gA42 ?st42 ?fin42
            case lex42 =>
              intro z hz
              have hneX := gb_ne z
              obtain ⟨⟨t0, t1, t2, t3, t4⟩, tl⟩ := note_cells (p := ⟨pn, pd, px, py, pu⟩) ((unhide HC4).up hz).a
              have g0 : ∀ y : Gb z, _ := fun y => gb_cell t0 y
              have g4 : ∀ y : Gb z, _ := fun y => gb_cell t4 y
              clear t0 t1 t2 t3 t4 tl
              dsimp only [restM]
              simp only [Act.put, List.setIfInBounds_toArray, List.set_cons_succ, List.set_cons_zero]
              repeat (go_big_quiet_step (fail))
              refine wpQuiet_nil ?_
              exact rfl
            case det42 =>
              intro j hj o s ho hs v z hR
              simp only [List.mem_cons, List.not_mem_nil, or_false] at hj
              rcases hj with rfl
              all_goals
                simp only [List.getElem?_cons_succ, List.getElem?_cons_zero, Option.some.injEq] at ho
                subst ho
                simp only [Option.some.injEq] at hs
                subst hs
                exact hR.trans rfl
            case gA42 =>
              intro g hg
              exact absurd hg (List.not_mem_nil)
            case st42 =>
              intro j o ho hmj z bb hz hop
              have hj : j ∈ [4, 5] := mask_in hmj
              simp only [List.mem_cons, List.not_mem_nil, or_false] at hj
              rcases hj with rfl | rfl
              · simp only [List.getElem?_cons_succ, List.getElem?_cons_zero, Option.some.injEq] at ho
                subst ho
                have y0 : bb.eval (.tmp 60) = .pointer (some ⟨b, 0, none⟩) := hop 60 (by simp [Op.operands, Call.operands])
                have y1 : bb.eval (.tmp 62) = .string (bs pn) := hop 62 (by simp [Op.operands, Call.operands])
                have y2 : bb.eval (.tmp 63) = .int .i64 now := hop 63 (by simp [Op.operands, Call.operands])
                refine wp_call 10 #[.tmp 60, .tmp 62, .tmp 63] _ rfl Try.call10 #[.pointer (some ⟨b, 0, none⟩), .string (bs pn), .int .i64 now] (by simp [y0, y1, y2]) (nodes_len b mb F1 1 3 pn now z 0 ((unhide HC4).up hz).t (unhide HP32) (by rw [unhide HNF, if_neg (by omega)]; rfl)) ?_
                rintro e w7 ⟨a7, c7, rfl, b7⟩
                exact ⟨_, rfl, _, rfl, ⟨_, _, rfl⟩, b7⟩
              · simp only [List.getElem?_cons_succ, List.getElem?_cons_zero, Option.some.injEq] at ho
                subst ho
                obtain ⟨a7, c7, y0⟩ : ∃ a c, bb.eval (.tmp 64) = .slice a 0 c := hop 64 (by simp [Op.operands, Call.operands])
                have y1 : bb.tmps[64]?.getD undef = .slice a7 0 c7 := by simpa [Act.eval] using y0
                unfold Oper.wp
                simp [y1, go_sem, Builtin.len_]
                exact ⟨_, rfl, rfl, Below.refl _ _⟩
            case fin42 =>
              intro bb z hz hoff hrel
              have hall := Off.all _ _ hoff
              simp only [List.foldl_cons, List.foldl_nil] at hall
              generalize bb.eval (.tmp 64) = v64 at hall
              generalize bb.eval (.tmp 65) = v65 at hall
              rw [hall]
              clear hall hrel hoff
              simp only [Act.put, List.setIfInBounds_toArray, List.set_cons_succ, List.set_cons_zero]
              have HC5 := hide ((unhide HC4).up hz)
              clear hz HC4
              go_wp2_with (refine wpList_load_row rfl 25 (.tmp 4) rfl (w.heap.size + 1) rfl 25 _ (0, 0) _ (unhide HC5).q Try.underlying25 rfl (by kernel_rfl) ?_)
              cases hm : mayN ⟨pn, pd, qx, qy, qu⟩ now with
              | false =>
                refine (ann_bad b mb F1 1 3 now ⟨pn, pd, qx, qy, qu⟩ z (unhide HC5).t (unhide HP32) (by rw [hm, Bool.and_false])).mono ?_
                rintro e w6 ⟨rfl, b6⟩
                have HC6 := hide ((unhide HC5).up b6)
                obtain ⟨⟨x0, x1, x2, x3, x4⟩, xl⟩ := note_cells (p := ⟨pn, pd, px, py, pu⟩) (unhide HC6).a
                have HND : Hid (Calls Try.prog 10 #[.pointer (some ⟨b, 0, none⟩), .string (bs pn), .int .i64 now] w6 fun e w' => ∃ a c, e = .returned (.slice a 0 c) ∧ Below w6.heap.size w6 w') := nodes_len b mb F1 1 3 pn now w6 0 (unhide HC6).t (unhide HP32) (by rw [unhide HNF, if_neg (by omega)]; rfl)
                clear b6 HC5 hm
                go_wp2_with fail
                refine (unhide HND).mono ?_
                rintro e w7 ⟨a7, k7, rfl, b7⟩
                have HC7 := hide ((unhide HC6).up b7)
                clear b7 HC6 HND x0 x1 x2 x3 x4 xl
                obtain ⟨⟨x0, x1, x2, x3, x4⟩, xl⟩ := note_cells (p := ⟨pn, pd, px, py, pu⟩) (unhide HC7).a
                have HB7 := hide (unhide HC7).be
                go_wp2
                go_ret
                exact ⟨rfl, unhide HB7⟩
              | true =>
                have hmt2 := mayN_t hm
                have HM2 := hide hmt2
                refine (ann_ok b mb F1 1 3 now ⟨pn, pd, qx, qy, qu⟩ z (unhide HC5).t (by omega) (by omega) (unhide HP32) (unhide HIT) hm).mono ?_
                rintro e w6 ⟨rfl, hT6, hg6⟩
                have HC6 := hide ((unhide HC5).go hT6 hg6)
                clear hT6 hg6 HC5 hm hmt2
                obtain ⟨F2, hF2⟩ : ∃ F, F = annF F1 ⟨pn, pd, qx, qy, qu⟩ now := ⟨_, rfl⟩
                rw [← hF2] at HFF HC6
                clear hF2
                have hnd2 : ∀ t, isT t = true → ndF F2 pn t = if cntB t ⟨pn, pd, qx, qy, qu⟩ = true then [⟨pn, pd, qx, qy, qu⟩] else [] := fun t ht => by
                  rw [ndF_t ht, unhide HFF]
                  exact nodesF_one t _ (unhide HM2).2.1
                have hi0 := unhide HIT
                unfold isT at hi0
                rw [decide_eq_true_iff] at hi0
                have hu := unhide HM2
                dsimp only at hu
                have hndN : ndF F2 pn now = [⟨pn, pd, qx, qy, qu⟩] := by
                  rw [hnd2 now (unhide HIT), cnt_now hu.2.1, if_pos (decide_eq_true hu.2.2.1)]
                have hndU : ndF F2 pn qu = [⟨pn, pd, qx, qy, qu⟩] := by
                  rw [hnd2 qu (by unfold isT; exact decide_eq_true (by omega)), cnt_now hu.2.1, if_pos (decide_eq_true (Int.le_refl _))]
                have hndV : qu ≠ 1099511627776 → ndF F2 pn (qu + 1) = [] := fun hne => by
                  rw [hnd2 (qu + 1) (by unfold isT; exact decide_eq_true (by omega)), cnt_now hu.2.1, if_neg (by rw [decide_eq_true_iff]; dsimp only; omega)]
                have HNN := hide hndN
                have HNU := hide hndU
                have HNV := hide hndV
                clear hnd2 hndN hndU hndV hi0
                have hqb : Hid (0 ≤ qu ∧ qu ≤ 1099511627776) := by have := unhide HIT; unfold isT at this; rw [decide_eq_true_iff] at this; exact ⟨by omega, by omega⟩
                clear hu
                obtain ⟨⟨x0, x1, x2, x3, x4⟩, xl⟩ := note_cells (p := ⟨pn, pd, px, py, pu⟩) (unhide HC6).a
                have HND := hide (nodes_any b mb F2 2 3 pn now w6 (unhide HC6).t (unhide HP32))
                go_wp2_with fail
                refine (unhide HND).mono ?_
                rintro e w7 ⟨v7, rfl, hR⟩
                obtain ⟨a7, k7, rfl, hat, _⟩ := hR.own.nts
                rw [unhide HNN] at hat
                obtain ⟨g, o, rfl, hgl, hrg⟩ := hat 0 _ rfl
                rw [unhide HNN]
                have HC7 := hide ((unhide HC6).up hR.be)
                have HRG := hide hrg
                have HGL := hide hgl
                have hz0 : (0 : Nat) * 5 = 0 := rfl
                clear hR hat HND HC6 hrg hgl hz0 x0 x1 x2 x3 x4 xl
                have HQB := hqb
                clear hqb
                have hqb := HQB
                clear HQB
                try simp only [List.length_cons, List.length_nil, Nat.zero_add]
                go_wp2_with fail
                by_cases hmx : qu = 1099511627776
                · subst hmx
                  refine wp_region_rsk [false, false, false, false, false, false, false, false, false, false, false, false, false, false, false, false, true, true, false, false, false, false, false, false, false, true, true, true, true, true, true, true, true, true, false, false, false] [false, false, false, false, false, false, false, false, false, false, false, false, false, false, false, false, false, false, false, false, false, false, false, false, false, true, true, true, true, true, true, true, true, true, false, false, false] [(86, true), (93, true), (103, true), (107, true)] [17, 33] [99, 100, 108, 109, 110, 111, 112, 113, 114, 115, 116] (Act.put (Act.put _ (some 100) (.int .i64 1)) (some 116) (undef)) ?A428 (fun x y => Below x.heap.size x y) (RB1) (by kernel_rfl) (by kernel_rfl) (fun x y z h1 h2 => h1.trans (h2.mono h1.size)) (fun x y h => h) (fun j v x y h hb => RB1.stay h) (((Off.refl _ _).put 100 _ (by simp)).put 116 _ (by simp)) ?det428 ?lex428 ?gA428 ?sk428 ?st428 ?fin428
                  case lex428 =>
                    intro z8 hz
                    have hneX := gb_ne z8
                    obtain ⟨⟨t0, t1, t2, t3, t4⟩, tl⟩ := note_cells (p := ⟨pn, pd, px, py, pu⟩) ((unhide HC7).up hz).a
                    have g0 : ∀ y : Gb z8, _ := fun y => gb_cell t0 y
                    clear t0 t1 t2 t3 t4 tl
                    obtain ⟨⟨t0, t1, t2, t3, t4⟩, tl⟩ := note_cells (p := ⟨pn, pd, qx, qy, 1099511627776⟩) ((unhide HC7).up hz).q
                    have h0 : ∀ y : Gb z8, _ := fun y => gb_cell t0 y
                    have h1 : ∀ y : Gb z8, _ := fun y => gb_cell t1 y
                    have h2 : ∀ y : Gb z8, _ := fun y => gb_cell t2 y
                    have h3 : ∀ y : Gb z8, _ := fun y => gb_cell t3 y
                    have h4 : ∀ y : Gb z8, _ := fun y => gb_cell t4 y
                    clear t0 t1 t2 t3 t4 tl
                    have l0 : z8.cell? ⟨g, o, none⟩ = some (.string (bs pn)) := by
                      have := cell_below (unhide HRG 0 _ rfl) hz
                      simpa using this
                    have m0 : ∀ y : Gb z8, _ := fun y => gb_cell l0 y
                    have l1 : z8.cell? ⟨g, o + 1, none⟩ = some (.int .i64 pd) := by
                      have := cell_below (unhide HRG 1 _ rfl) hz
                      simpa using this
                    have m1 : ∀ y : Gb z8, _ := fun y => gb_cell l1 y
                    have l2 : z8.cell? ⟨g, o + 2, none⟩ = some (.int .i64 qx) := by
                      have := cell_below (unhide HRG 2 _ rfl) hz
                      simpa using this
                    have m2 : ∀ y : Gb z8, _ := fun y => gb_cell l2 y
                    have l3 : z8.cell? ⟨g, o + 3, none⟩ = some (.int .i64 qy) := by
                      have := cell_below (unhide HRG 3 _ rfl) hz
                      simpa using this
                    have m3 : ∀ y : Gb z8, _ := fun y => gb_cell l3 y
                    have l4 : z8.cell? ⟨g, o + 4, none⟩ = some (.int .i64 1099511627776) := by
                      have := cell_below (unhide HRG 4 _ rfl) hz
                      simpa using this
                    have m4 : ∀ y : Gb z8, _ := fun y => gb_cell l4 y
                    clear l0 l1 l2 l3 l4
                    dsimp only [restM]
                    simp only [Act.put, List.setIfInBounds_toArray, List.set_cons_succ, List.set_cons_zero]
                    repeat (go_big_quiet_step (fail))
                    refine wpQuiet_nil ?_
                    exact rfl
                  case det428 =>
                    intro j hj o s ho hs v z hR
                    simp only [List.mem_cons, List.not_mem_nil, or_false] at hj
                    rcases hj with rfl | rfl
                    all_goals
                      simp only [List.getElem?_cons_succ, List.getElem?_cons_zero, Option.some.injEq] at ho
                      subst ho
                      simp only [Option.some.injEq] at hs
                      subst hs
                      exact hR.trans rfl
                  case gA428 =>
                    intro g hg
                    simp only [List.mem_cons, List.not_mem_nil, or_false] at hg
                    rcases hg with rfl | rfl | rfl | rfl <;> rfl
                  case sk428 =>
                    intro j hj x
                    have hj2 : j ∈ [25, 26, 27, 28, 29, 30, 31, 32, 33] := mask_in hj
                    simp only [List.mem_cons, List.not_mem_nil, or_false] at hj2
                    rcases hj2 with rfl | rfl | rfl | rfl | rfl | rfl | rfl | rfl | rfl
                    all_goals exact rfl
                  case st428 =>
                    intro j o ho hmj hns z8 bb hz hop
                    have hj : j ∈ [16, 17, 25, 26, 27, 28, 29, 30, 31, 32, 33] := mask_in hmj
                    simp only [List.mem_cons, List.not_mem_nil, or_false] at hj
                    rcases hj with rfl | rfl | rfl | rfl | rfl | rfl | rfl | rfl | rfl | rfl | rfl
                    · simp only [List.getElem?_cons_succ, List.getElem?_cons_zero, Option.some.injEq] at ho
                      subst ho
                      have y0 : bb.eval (.tmp 94) = .pointer (some ⟨b, 0, none⟩) := hop 94 (by simp [Op.operands, Call.operands])
                      have y1 : bb.eval (.tmp 96) = .string (bs pn) := hop 96 (by simp [Op.operands, Call.operands])
                      have y2 : bb.eval (.tmp 98) = .int .i64 1099511627776 := hop 98 (by simp [Op.operands, Call.operands])
                      refine wp_call 10 #[.tmp 94, .tmp 96, .tmp 98] _ rfl Try.call10 #[.pointer (some ⟨b, 0, none⟩), .string (bs pn), .int .i64 1099511627776] (by simp [y0, y1, y2]) (nodes_len b mb F2 2 3 pn 1099511627776 z8 1 ((unhide HC7).up hz).t (unhide HP32) (by rw [unhide HNU]; rfl)) ?_
                      rintro e w9 ⟨a9, c9, rfl, b9⟩
                      exact ⟨_, rfl, _, rfl, ⟨_, _, rfl⟩, b9⟩
                    · simp only [List.getElem?_cons_succ, List.getElem?_cons_zero, Option.some.injEq] at ho
                      subst ho
                      obtain ⟨a9, c9, y0⟩ : ∃ a c, bb.eval (.tmp 99) = .slice a 1 c := hop 99 (by simp [Op.operands, Call.operands])
                      have y1 : bb.tmps[99]?.getD undef = .slice a9 1 c9 := by simpa [Act.eval] using y0
                      unfold Oper.wp
                      simp [y1, go_sem, Builtin.len_]
                      exact ⟨_, rfl, rfl, Below.refl _ _⟩
                    · exact absurd rfl hns
                    · exact absurd rfl hns
                    · exact absurd rfl hns
                    · exact absurd rfl hns
                    · exact absurd rfl hns
                    · exact absurd rfl hns
                    · exact absurd rfl hns
                    · exact absurd rfl hns
                    · exact absurd rfl hns
                  case fin428 =>
                    intro bb z8 hz hoff hrel
                    have hall := Off.all _ _ hoff
                    simp only [List.foldl_cons, List.foldl_nil] at hall
                    generalize bb.eval (.tmp 99) = v99 at hall
                    generalize bb.eval (.tmp 100) = v100 at hall
                    generalize bb.eval (.tmp 108) = v108 at hall
                    generalize bb.eval (.tmp 109) = v109 at hall
                    generalize bb.eval (.tmp 110) = v110 at hall
                    generalize bb.eval (.tmp 111) = v111 at hall
                    generalize bb.eval (.tmp 112) = v112 at hall
                    generalize bb.eval (.tmp 113) = v113 at hall
                    generalize bb.eval (.tmp 114) = v114 at hall
                    generalize bb.eval (.tmp 115) = v115 at hall
                    generalize bb.eval (.tmp 116) = v116 at hall
                    rw [hall]
                    clear hall hrel hoff
                    simp only [Act.put, List.setIfInBounds_toArray, List.set_cons_succ, List.set_cons_zero]
                    have HB8 := hide ((unhide HC7).up hz).be
                    clear hz HC7
                    go_wp2
                    go_ret
                    exact ⟨rfl, unhide HB8⟩
                · have hmt : (qu == 1099511627776) = false := by simpa using hmx
                  have hw64 : IntKind.i64.wrap (qu + 1) = qu + 1 := by have := unhide hqb; rw [IntKind.wrap_i64]; omega
                  refine wp_region_rel [false, false, false, false, false, false, false, false, false, false, false, false, false, false, false, false, true, true, false, false, false, false, false, false, false, false, false, false, false, false, false, true, true, false, false, false, false] [(86, true), (93, true), (103, true), (107, false)] [17, 32] [99, 100, 114, 115] (Act.put (Act.put _ (some 100) (.int .i64 1)) (some 115) (.int .i64 0)) ?A429 (fun x y => Below x.heap.size x y) (RB2) (by kernel_rfl) (by kernel_rfl) (fun x y z h1 h2 => h1.trans (h2.mono h1.size)) (fun x y h => h) (fun j v x y h hb => RB2.stay h) (((Off.refl _ _).put 100 _ (by simp)).put 115 _ (by simp)) ?det429 ?lex429 ?gA429 ?st429 ?fin429
                  case lex429 =>
                    intro z8 hz
                    have hneX := gb_ne z8
                    obtain ⟨⟨t0, t1, t2, t3, t4⟩, tl⟩ := note_cells (p := ⟨pn, pd, px, py, pu⟩) ((unhide HC7).up hz).a
                    have g0 : ∀ y : Gb z8, _ := fun y => gb_cell t0 y
                    clear t0 t1 t2 t3 t4 tl
                    obtain ⟨⟨t0, t1, t2, t3, t4⟩, tl⟩ := note_cells (p := ⟨pn, pd, qx, qy, qu⟩) ((unhide HC7).up hz).q
                    have h0 : ∀ y : Gb z8, _ := fun y => gb_cell t0 y
                    have h1 : ∀ y : Gb z8, _ := fun y => gb_cell t1 y
                    have h2 : ∀ y : Gb z8, _ := fun y => gb_cell t2 y
                    have h3 : ∀ y : Gb z8, _ := fun y => gb_cell t3 y
                    have h4 : ∀ y : Gb z8, _ := fun y => gb_cell t4 y
                    clear t0 t1 t2 t3 t4 tl
                    have l0 : z8.cell? ⟨g, o, none⟩ = some (.string (bs pn)) := by
                      have := cell_below (unhide HRG 0 _ rfl) hz
                      simpa using this
                    have m0 : ∀ y : Gb z8, _ := fun y => gb_cell l0 y
                    have l1 : z8.cell? ⟨g, o + 1, none⟩ = some (.int .i64 pd) := by
                      have := cell_below (unhide HRG 1 _ rfl) hz
                      simpa using this
                    have m1 : ∀ y : Gb z8, _ := fun y => gb_cell l1 y
                    have l2 : z8.cell? ⟨g, o + 2, none⟩ = some (.int .i64 qx) := by
                      have := cell_below (unhide HRG 2 _ rfl) hz
                      simpa using this
                    have m2 : ∀ y : Gb z8, _ := fun y => gb_cell l2 y
                    have l3 : z8.cell? ⟨g, o + 3, none⟩ = some (.int .i64 qy) := by
                      have := cell_below (unhide HRG 3 _ rfl) hz
                      simpa using this
                    have m3 : ∀ y : Gb z8, _ := fun y => gb_cell l3 y
                    have l4 : z8.cell? ⟨g, o + 4, none⟩ = some (.int .i64 qu) := by
                      have := cell_below (unhide HRG 4 _ rfl) hz
                      simpa using this
                    have m4 : ∀ y : Gb z8, _ := fun y => gb_cell l4 y
                    clear l0 l1 l2 l3 l4
                    dsimp only [restM]
                    simp only [Act.put, List.setIfInBounds_toArray, List.set_cons_succ, List.set_cons_zero]
                    repeat (go_big_quiet_step (fail))
                    refine wpQuiet_nil ?_
                    exact rfl
                  case det429 =>
                    intro j hj o s ho hs v z hR
                    simp only [List.mem_cons, List.not_mem_nil, or_false] at hj
                    rcases hj with rfl | rfl
                    all_goals
                      simp only [List.getElem?_cons_succ, List.getElem?_cons_zero, Option.some.injEq] at ho
                      subst ho
                      simp only [Option.some.injEq] at hs
                      subst hs
                      exact hR.trans rfl
                  case gA429 =>
                    intro g hg
                    simp only [List.mem_cons, List.not_mem_nil, or_false] at hg
                    rcases hg with rfl | rfl | rfl | rfl <;> rfl
                  case st429 =>
                    intro j o ho hmj z8 bb hz hop
                    have hj : j ∈ [16, 17, 31, 32] := mask_in hmj
                    simp only [List.mem_cons, List.not_mem_nil, or_false] at hj
                    rcases hj with rfl | rfl | rfl | rfl
                    · simp only [List.getElem?_cons_succ, List.getElem?_cons_zero, Option.some.injEq] at ho
                      subst ho
                      have y0 : bb.eval (.tmp 94) = .pointer (some ⟨b, 0, none⟩) := hop 94 (by simp [Op.operands, Call.operands])
                      have y1 : bb.eval (.tmp 96) = .string (bs pn) := hop 96 (by simp [Op.operands, Call.operands])
                      have y2 : bb.eval (.tmp 98) = .int .i64 qu := hop 98 (by simp [Op.operands, Call.operands])
                      refine wp_call 10 #[.tmp 94, .tmp 96, .tmp 98] _ rfl Try.call10 #[.pointer (some ⟨b, 0, none⟩), .string (bs pn), .int .i64 qu] (by simp [y0, y1, y2]) (nodes_len b mb F2 2 3 pn qu z8 1 ((unhide HC7).up hz).t (unhide HP32) (by rw [unhide HNU]; rfl)) ?_
                      rintro e w9 ⟨a9, c9, rfl, b9⟩
                      exact ⟨_, rfl, _, rfl, ⟨_, _, rfl⟩, b9⟩
                    · simp only [List.getElem?_cons_succ, List.getElem?_cons_zero, Option.some.injEq] at ho
                      subst ho
                      obtain ⟨a9, c9, y0⟩ : ∃ a c, bb.eval (.tmp 99) = .slice a 1 c := hop 99 (by simp [Op.operands, Call.operands])
                      have y1 : bb.tmps[99]?.getD undef = .slice a9 1 c9 := by simpa [Act.eval] using y0
                      unfold Oper.wp
                      simp [y1, go_sem, Builtin.len_]
                      exact ⟨_, rfl, rfl, Below.refl _ _⟩
                    · simp only [List.getElem?_cons_succ, List.getElem?_cons_zero, Option.some.injEq] at ho
                      subst ho
                      have y0 : bb.eval (.tmp 108) = .pointer (some ⟨b, 0, none⟩) := hop 108 (by simp [Op.operands, Call.operands])
                      have y1 : bb.eval (.tmp 110) = .string (bs pn) := hop 110 (by simp [Op.operands, Call.operands])
                      have y2 : bb.eval (.tmp 113) = .int .i64 (qu + 1) := hop 113 (by simp [Op.operands, Call.operands])
                      refine wp_call 10 #[.tmp 108, .tmp 110, .tmp 113] _ rfl Try.call10 #[.pointer (some ⟨b, 0, none⟩), .string (bs pn), .int .i64 (qu + 1)] (by simp [y0, y1, y2]) (nodes_len b mb F2 2 3 pn (qu + 1) z8 0 ((unhide HC7).up hz).t (unhide HP32) (by rw [unhide HNV hmx]; rfl)) ?_
                      rintro e w9 ⟨a9, c9, rfl, b9⟩
                      exact ⟨_, rfl, _, rfl, ⟨_, _, rfl⟩, b9⟩
                    · simp only [List.getElem?_cons_succ, List.getElem?_cons_zero, Option.some.injEq] at ho
                      subst ho
                      obtain ⟨a9, c9, y0⟩ : ∃ a c, bb.eval (.tmp 114) = .slice a 0 c := hop 114 (by simp [Op.operands, Call.operands])
                      have y1 : bb.tmps[114]?.getD undef = .slice a9 0 c9 := by simpa [Act.eval] using y0
                      unfold Oper.wp
                      simp [y1, go_sem, Builtin.len_]
                      exact ⟨_, rfl, rfl, Below.refl _ _⟩
                  case fin429 =>
                    intro bb z8 hz hoff hrel
                    have hall := Off.all _ _ hoff
                    simp only [List.foldl_cons, List.foldl_nil] at hall
                    generalize bb.eval (.tmp 99) = v99 at hall
                    generalize bb.eval (.tmp 100) = v100 at hall
                    generalize bb.eval (.tmp 114) = v114 at hall
                    generalize bb.eval (.tmp 115) = v115 at hall
                    rw [hall]
                    clear hall hrel hoff
                    simp only [Act.put, List.setIfInBounds_toArray, List.set_cons_succ, List.set_cons_zero]
                    have HB8 := hide ((unhide HC7).up hz).be
                    clear hz HC7
                    go_wp2
                    go_ret
                    exact ⟨rfl, unhide HB8⟩
    · have q2 : (100 : Int) < qn.length := by omega
      go_enter Try.func3, Try.ntmps3
      go_wp2_with fail
      refine (unhide HA _).mono ?_
      rintro e w1 ⟨rfl, b1⟩
      go_wp2
      go_ret
      exact ⟨rfl, (((Below.refl _ w).alloc (Nat.le_refl _) _).alloc (by simp) _).trans (b1.mono (by simp; omega))⟩
  · have q1 : (100 : Int) < pn.length := by omega
    go_enter Try.func3, Try.ntmps3
    go_wp2_with fail
    refine (unhide HA _).mono ?_
    rintro e w1 ⟨rfl, b1⟩
    go_wp2
    go_ret
    exact ⟨rfl, (((Below.refl _ w).alloc (Nat.le_refl _) _).alloc (by simp) _).trans (b1.mono (by simp; omega))⟩
end Go.Proofs.Ytjdphcjapdklpaa

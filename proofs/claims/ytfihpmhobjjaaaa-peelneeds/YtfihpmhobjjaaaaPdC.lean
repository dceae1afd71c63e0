/- The document's Peel, walked. -/
import Derived.Test.YtfihpmhobjjaaaaPdB
namespace Go.Proofs.Ytfihpmhobjjaaaa
open Go.RowKit
set_option linter.unusedVariables false
attribute [local go_sem] Oper.semAt_some

set_option maxRecDepth 100000 in
set_option maxHeartbeats 2000000 in
theorem dpeel_any (n : Nat) (R : List (List Nat)) (K : List Nat) (h : Pl n R K) (a0 k0 : Option Addr) (c kc : Nat) (w : World) (hI : RowsC w a0 R) (hK : Ints w k0 (zs K)) :
    Calls Try.prog 29 #[.int .i64 n, .slice a0 R.length c, .slice k0 K.length kc] w fun e w' => ∃ vL vK, e = .returned (.agg #[vL, vK]) ∧ ∃ D, w'.ownsRow w.heap.size 35 2 vL (List.length (α := Nat × Nat) D) (stc D) ∧ w'.ownsRow w.heap.size 3 1 vK (KD K D).length (ic (zs (KD K D))) ∧ D = (peelF n (inS K) R).1 ∧ inS (KD K D) = (peelF n (inS K) R).2 ∧ Below w.heap.size w w' := by
  obtain ⟨i0, hi0, hz0, hz1, hz2⟩ := info_parts Try.infoI
  obtain ⟨j0, hj0, hy0, hy1, hy2⟩ := info_parts Try.infoDs
  have h160 := h.n160
  have hkl := h.klen
  have hm4 := h.m400
  have HI := hide hI
  have HK := hide hK
  have HRL : Hid (∀ r ∈ R, r.length ≤ 160) := fun r hr => by have := h.rlen r hr; omega
  have HRN : Hid (RLt n R) := h.lt
  generalize hE : peelF n (inS K) R = E at *
  have HE := hide hE
  generalize hl : K.length = l at *
  have HL := hide hl
  generalize hm : R.length = m at *
  have HM := hide hm
  clear hI hK hl hm h hE
  go_enter Try.func29, Try.ntmps29
  go_wp2_with fail
  go_loopw [8] (fun v wr => ∃ (k : Nat) (vK : Value), k ≤ l ∧ v = .int .i64 k ∧ PD w wr [] (K.take k) (.slice none 0 0) vK) (fun v _ => l - (intOf v).toNat)
  case atStart => exact ⟨0, .slice none 0 0, by omega, rfl, heap_alloc2_new _ _ _, heap_alloc2_old _ _ _, World.ownsRow_nil _ _ _ _, World.ownsRow_nil _ _ _ _, ((Below.refl _ _).alloc (Nat.le_refl _) _).alloc (by simp) _, by simp⟩
  case round =>
    obtain ⟨k, vK, hk, rfl, hP⟩ := hrel
    obtain ⟨ak, ck, hvk, hik⟩ := hP.ints
    have hsz := hP.sz
    by_cases hlt : k < l
    · have hltK : k < K.length := by rw [unhide HL]; exact hlt
      obtain ⟨g, o, rfl, c0⟩ := ((unhide HK).below hP.bel) k (by rw [zs_length]; exact hltK)
      rw [zs_get K k hltK] at c0
      have q1 : (k : Int) < l := by omega
      have HC0 := hide c0
      have HP := hide hP
      have HT : Hid (K.take (k + 1) = K.take k ++ [K[k]]) := List.take_succ_eq_append_getElem hltK
      generalize K[k] = y at *
      have hkl2 : (K.take k).length = k := by rw [List.length_take]; omega
      clear hP c0 hik hltK hvk
      go_wp2_with fail
      refine wp_region_eff [false, false, false, false, false, false, true, true, false, true] [8] 6 ?A0 _ _ (by kernel_rfl) (by kernel_rfl) rfl ?lex ?free ?_
      case lex =>
        intro X
        have hneX := gb_ne X.w
        have hcX : ∀ z : Gb X.w, z.w.cell? ⟨g, o + k, none⟩ = _ := fun z => gb_cell (cell_below (unhide HC0) X.ok) z
        have hdX : ∀ z : Gb X.w, z.w.cell? ⟨w.heap.size + 1, 1, none⟩ = _ := fun z => gb_cell (cell_below (unhide HP).cells.2 X.ok) z
        dsimp only [restM]
        repeat (go_big_quiet_step (fail))
        refine wpQuiet_nil ?_
        exact rfl
      case free =>
        intro j hj o ho W
        simp only [List.mem_cons, List.not_mem_nil, or_false] at hj
        subst hj
        simp only [List.getElem?_cons_succ, List.getElem?_cons_zero, Option.some.injEq] at ho
        subst ho
        go_big_quiet_step (fail)
        refine wpQuiet_nil ?_
        exact rfl
      intro w8 b8
      have HP8 := hide ((unhide HP).below b8)
      have hsz8 := (unhide HP8).sz
      clear HP b8 HC0
      go_wp2_with fail
      refine onlyN ⟨(Below.refl _ _).alloc (Nat.le_refl _) _, ?_⟩
      dsimp only [effM]
      go_wp2_with (at_builtin; refine wpList_append_own _ rfl _ _ 23 rfl (w.heap.size + 2) 3 i0 (.int .i64 0) 1 8 Try.undI hi0 hz0 hz1 hz2 rfl (by decide) _ _ _ rfl ((unhide HP8).kn.alloc _) ⟨w8.heap.size, 0, none⟩ 1 1 [.int .i64 (y : Int)] ?cx rfl ?cn ?c2 ?c3 ?c4 ?c5 ?_)
      case cn => exact news_lit w8 [.int .i64 (y : Int)] 3
      case c2 => intro u hu; simp at hu; rw [hu]; rfl
      case c3 => unfold maxLen; omega
      case c4 => omega
      case c5 => simp; omega
      all_goals try rfl
      intro v' w7 hown7 hgrow7 _
      obtain ⟨ao7, cp7, rfl⟩ := own_shape2 hown7
      have HP7 := hide ((unhide HP8).pushK (i := y) (by rw [hkl2]; exact hown7) hgrow7)
      have hbx : w7.heap[w.heap.size + 1]? = some (.cells #[.slice none 0 0, vK] 52 (0, 0)) := by
        have hb : Below (w.heap.size + 2) w8 w7 := ((Below.refl _ _).alloc hsz8 _).grown hgrow7 (by simp; omega) (fun q hq => ((unhide HP8).kn.lt q hq).1)
        exact (hb.block _ (by omega)).trans (unhide HP8).box
      have c7 := two1 hbx
      have f7 := twof (j := 1) hbx
      rw [← unhide HT] at HP7
      clear hown7 hgrow7 hbx
      go_wp2_with fail
      refine onlyN ?_
      go_wp2
      go_roundw
      case rel => exact ⟨k + 1, _, by omega, by go_num, unhide HP7⟩
      case measure => simp [intOf]; omega
    · have hkl' : k = l := by omega
      subst hkl'
      have q1 : ¬ (k : Int) < k := by omega
      have htk : K.take k = KD K [] := by rw [List.take_of_length_le (by rw [unhide HL]; exact Nat.le_refl _)]; simp [KD]
      rw [htk] at hP
      have HP0 := hide hP
      have HKD0 : Hid (KD K [] = K) := by simp [KD, Hid]
      clear hP hik hvk htk
      go_wp2_with fail
      go_loopw [9] (fun v wr => ∃ (s : Nat) (D : List (Nat × Nat)) (vL vK : Value) (f : Nat), s + f = n ∧ D.length ≤ s ∧ v = .int .i64 s ∧ PD w wr D (KD K D) vL vK ∧ D ++ (peelF f (inS (KD K D)) R).1 = E.1 ∧ (peelF f (inS (KD K D)) R).2 = E.2) (fun v _ => n - (intOf v).toNat)
      case atStart => exact ⟨0, [], .slice none 0 0, vK, n, by omega, Nat.le_refl _, rfl, unhide HP0, by rw [unhide HKD0, unhide HE]; rfl, by rw [unhide HKD0, unhide HE]⟩
      case round =>
        clear HP0
        obtain ⟨s, D, vL, vK, f, hsf, hdl, rfl, hP, hD1, hD2⟩ := hrel
        have hsz := hP.sz
        obtain ⟨la, lc, rfl⟩ := own_shape2 hP.st
        obtain ⟨ka, kcp, rfl⟩ := own_shape2 hP.kn
        have hshape : True := trivial
        by_cases hlt : s < n
        · have q2 : (s : Int) < n := by omega
          have HP := hide hP
          have HD1 := hide hD1
          have HD2 := hide hD2
          clear hP hD1 hD2
          go_wp2_with fail
          go_loopw [10, 11] (fun v u wr => ∃ j : Nat, j ≤ m ∧ u = .int .i64 j ∧ PD w wr D (KD K D) (.slice la D.length lc) (.slice ka (KD K D).length kcp) ∧ ((v = .int .i64 (-1) ∧ ∀ s (h : s < R.length), s < j → lstN (inS (KD K D)) R[s] = none) ∨ ∃ (t : Nat) (ht : t < R.length) (i : Nat), v = .int .i64 t ∧ (∀ s (h : s < R.length), s < t → lstN (inS (KD K D)) R[s] = none) ∧ lstN (inS (KD K D)) R[t] = some i)) (fun _ u _ => m - (intOf u).toNat)
          case atStart => exact ⟨0, by omega, rfl, unhide HP, .inl ⟨rfl, fun s h hs => absurd hs (by omega)⟩⟩
          case round =>
            clear HP
            obtain ⟨j, hj, rfl, hP, ⟨rfl, hbef⟩ | ⟨t, ht, i, rfl, hbef, hlst⟩⟩ := hrel
            · by_cases hjm : j < m
              · have q3 : (j : Int) < m := by omega
                have hjR : j < R.length := by rw [unhide HM]; exact hjm
                obtain ⟨gr, ogr, rfl, b, cc, c0, hIk, _⟩ := ((unhide HI).below hP.bel) j hjR
                obtain ⟨ak, ck, hvk, hik⟩ := hP.ints
                simp only [Value.slice.injEq, true_and] at hvk
                obtain ⟨rfl, rfl⟩ := hvk
                have hks : (KD K D).length ≤ 1000 := by rw [KD_len, unhide HL]; omega
                have hre : Hid (∀ (Z : World), Below wr.heap.size wr Z → Calls Try.prog 31 #[.slice b R[j].length cc, (.slice ka (KD K D).length kcp)] Z fun e w' => ∃ v, e = .returned v ∧ w'.ownsRow Z.heap.size 3 1 v (unk (inS (KD K D)) R[j]).length (ic (zs (unk (inS (KD K D)) R[j]))) ∧ Below Z.heap.size Z w') := fun Z hz => by
                  have := rest_any R[j] (KD K D) b ka cc kcp (by have := unhide HRL _ (List.getElem_mem hjR); omega) (by omega) Z (hIk.below hz) (hik.below hz)
                  skip
                  exact this
                have HP := hide hP
                have HC0 := hide c0
                have HBF := hide hbef
                have HLL : Hid ((∃ i, lstN (inS (KD K D)) R[j] = some i ∧ (unk (inS (KD K D)) R[j]).length = 1) ∨ (lstN (inS (KD K D)) R[j] = none ∧ (unk (inS (KD K D)) R[j]).length ≠ 1)) := by
                  rcases lst_len (S := inS (KD K D)) (r := R[j]) with ⟨i, h1, h2⟩ | h
                  · exact .inl ⟨i, h1, by rw [h2]; rfl⟩
                  · exact .inr h
                generalize hul : (unk (inS (KD K D)) R[j]).length = ul at *
                generalize R[j].length = rl at *
                clear hP c0 hIk hik hbef hul
                go_wp2_with fail
                refine wp_region_late 6 ?A1 (by kernel_rfl) (by kernel_rfl) (by kernel_rfl) ?lex1 ?_
                case lex1 =>
                  intro X
                  have hneX := gb_ne X.w
                  have hcX : ∀ z : Gb X.w, z.w.cell? ⟨gr, ogr + j, none⟩ = _ := fun z => gb_cell (cell_below (unhide HC0) X.ok) z
                  have hdX : ∀ z : Gb X.w, z.w.cell? ⟨w.heap.size + 1, 1, none⟩ = _ := fun z => gb_cell (cell_below (unhide HP).cells.2 X.ok) z
                  dsimp only [List.take_succ_cons, List.take_zero]
                  repeat (go_big_quiet_step (fail))
                  refine wpQuiet_nil ?_
                  exact rfl
                intro w3 b3
                try simp only [List.drop_succ_cons, List.drop_zero]
                have HP3 := hide ((unhide HP).below b3)
                have hr3 := hide (unhide hre w3 b3)
                clear b3
                go_wp2_with fail
                refine (unhide hr3).mono ?_
                rintro e w4 ⟨v4, rfl, hO4, b4⟩
                have HP4 := hide ((unhide HP3).below b4)
                obtain ⟨a4, c4, rfl⟩ := own_shape2 hO4
                clear hO4 b4 HP3
                rcases unhide HLL with ⟨i, hli, hone⟩ | ⟨hli, hne⟩
                · subst hone
                  have HLI := hide hli
                  clear hli
                  go_wp2_with fail
                  refine onlyN ?_
                  go_wp2
                  go_roundw
                  case rel => exact ⟨j + 1, by omega, by go_num, unhide HP4, .inr ⟨j, hjR, i, by go_num, unhide HBF, unhide HLI⟩⟩
                  case measure => simp [intOf]; omega
                · have q5 : ((ul : Int) == 1) = false := by simp; omega
                  have q6 : ¬ (ul : Int) = 1 := by omega
                  have HBF2 : Hid (∀ s (h : s < R.length), s < j + 1 → lstN (inS (KD K D)) R[s] = none) := fun s h hs => by
                    by_cases e : s = j
                    · subst e; exact hli
                    · exact unhide HBF s h (by omega)
                  clear hli
                  go_wp2_with fail
                  refine onlyN ?_
                  go_wp2
                  go_roundw
                  case rel => exact ⟨j + 1, by omega, by go_num, unhide HP4, .inl ⟨by go_num, unhide HBF2⟩⟩
                  case measure => simp [intOf]; omega
              · have hjm' : j = m := by omega
                subst hjm'
                have q3 : ¬ (j : Int) < j := by omega
                have hrp : ripe1 (inS (KD K D)) 0 R = none := ripe1_no (fun r hr => by
                  obtain ⟨x, hx, rfl⟩ := List.getElem_of_mem hr
                  exact hbef x hx (by rw [← unhide HM]; exact hx))
                have hd1 : D = E.1 := by
                  have := unhide HD1
                  rwa [peelF_none hrp, List.append_nil] at this
                have hd2 : inS (KD K D) = E.2 := by
                  have := unhide HD2
                  rwa [peelF_none hrp] at this
                have hone : True := trivial
                have htwo : True := trivial
                clear hbef hrp
                have f0 := twof (j := 0) hP.res
                have f1 := twof (j := 1) hP.res
                have e0 := two0 hP.res
                have e1 := two1 hP.res
                obtain ⟨d0, d1⟩ := hP.cells
                have HX : Hid (∃ D', ((wr.setCell ⟨w.heap.size, 0, none⟩ (.slice la D.length lc)).setCell ⟨w.heap.size, 1, none⟩ (.slice ka (KD K D).length kcp)).ownsRow w.heap.size 35 2 (.slice la D.length lc) (List.length (α := Nat × Nat) D') (stc D') ∧ ((wr.setCell ⟨w.heap.size, 0, none⟩ (.slice la D.length lc)).setCell ⟨w.heap.size, 1, none⟩ (.slice ka (KD K D).length kcp)).ownsRow w.heap.size 3 1 (.slice ka (KD K D).length kcp) (KD K D').length (ic (zs (KD K D'))) ∧ D' = E.1 ∧ inS (KD K D') = E.2 ∧ Below w.heap.size w ((wr.setCell ⟨w.heap.size, 0, none⟩ (.slice la D.length lc)).setCell ⟨w.heap.size, 1, none⟩ (.slice ka (KD K D).length kcp))) := ⟨D, own_mono (ownsRow_setCell_below (ownsRow_setCell_below hP.st (by simp) _) (by simp) _) (by omega), own_mono (ownsRow_setCell_below (ownsRow_setCell_below hP.kn (by simp) _) (by simp) _) (by omega), hd1, hd2, (hP.bel.setCell (p := ⟨w.heap.size, 0, none⟩) (Nat.le_refl _) _).setCell (p := ⟨w.heap.size, 1, none⟩) (Nat.le_refl _) _⟩
                have HRS := hide (heap_setCell_same _ _ 1 _ _ (.slice ka (KD K D).length kcp) (heap_setCell_same _ _ 0 _ _ (.slice la D.length lc) hP.res))
                clear hP hd1 hd2 hone htwo
                go_wp2
                obtain ⟨D', x1, x2, x3, x4, x5⟩ := unhide HX
                refine ret_two rfl w.heap.size 52 #[(.slice la D.length lc), (.slice ka (KD K D).length kcp)] (0, 0) _ rfl (unhide HRS) rfl Try.underlying52 (by kernel_rfl) ⟨_, _, rfl, D', x1, x2, x3, x4, x5⟩
            · by_cases hjm : j < m
              · have q3 : (j : Int) < m := by omega
                have hlt17 : t < m := by rw [← unhide HM]; exact ht
                obtain ⟨gr, ogr, rfl, b, cc, c0, hIk, _⟩ := ((unhide HI).below hP.bel) t ht
                obtain ⟨ak, ck, hvk, hik⟩ := hP.ints
                simp only [Value.slice.injEq, true_and] at hvk
                obtain ⟨rfl, rfl⟩ := hvk
                have hks : (KD K D).length ≤ 1000 := by rw [KD_len, unhide HL]; omega
                have hus : unk (inS (KD K D)) R[t] = [i] := by
                  rcases lst_len (S := inS (KD K D)) (r := R[t]) with ⟨i', h1, h2⟩ | ⟨h1, _⟩
                  · rw [hlst] at h1
                    simp at h1
                    rw [h2, h1]
                  · rw [hlst] at h1; cases h1
                have hre : Hid (∀ (Z : World), Below wr.heap.size wr Z → Calls Try.prog 31 #[.slice b R[t].length cc, (.slice ka (KD K D).length kcp)] Z fun e w' => ∃ v, e = .returned v ∧ w'.ownsRow Z.heap.size 3 1 v 1 (ic (zs [i])) ∧ Below Z.heap.size Z w') := fun Z hz => by
                  have := rest_any R[t] (KD K D) b ka cc kcp (by have := unhide HRL _ (List.getElem_mem ht); omega) (by omega) Z (hIk.below hz) (hik.below hz)
                  rw [hus] at this
                  exact this
                have hrp : ripe1 (inS (KD K D)) 0 R = some (t, i) := by
                  have := ripe1_at (S := inS (KD K D)) (R := R) (k := 0) (t := t) (i := i) ht (fun s h hs => hbef s h hs) hlst
                  rwa [Nat.zero_add] at this
                obtain ⟨f', rfl⟩ : ∃ f', f = f' + 1 := ⟨f - 1, by omega⟩
                have HN1 : Hid ((D ++ [(t, i)]) ++ (peelF f' (inS (KD K (D ++ [(t, i)]))) R).1 = E.1) := by
                  have := unhide HD1
                  rw [peelF_some hrp] at this
                  show _ = _
                  rw [KD_snoc, ← inS_snoc, List.append_assoc]
                  exact this
                have HN2 : Hid ((peelF f' (inS (KD K (D ++ [(t, i)]))) R).2 = E.2) := by
                  have := unhide HD2
                  rw [peelF_some hrp] at this
                  show _ = _
                  rw [KD_snoc, ← inS_snoc]
                  exact this
                have HKS : Hid (KD K (D ++ [(t, i)]) = KD K D ++ [i]) := KD_snoc K D (t, i)
                have HP := hide hP
                have HC0 := hide c0
                have q17 : (t : Int) < m := by omega
                have q18 : ¬ (t : Int) < 0 := by omega
                have d18 : decide ((t : Int) < 0) = false := decide_eq_false q18
                have hdl2 : D.length ≤ 160 := by omega
                generalize R[t].length = rl at *
                clear hP c0 hIk hik hus hlst hbef hrp
                go_wp2_with fail
                refine wp_region_late 6 ?A2 (by kernel_rfl) (by kernel_rfl) (by kernel_rfl) ?lex2 ?_
                case lex2 =>
                  intro X
                  have hneX := gb_ne X.w
                  have hcX : ∀ z : Gb X.w, z.w.cell? ⟨gr, ogr + t, none⟩ = _ := fun z => gb_cell (cell_below (unhide HC0) X.ok) z
                  have hdX : ∀ z : Gb X.w, z.w.cell? ⟨w.heap.size + 1, 1, none⟩ = _ := fun z => gb_cell (cell_below (unhide HP).cells.2 X.ok) z
                  dsimp only [List.take_succ_cons, List.take_zero]
                  repeat (go_big_quiet_step (fail))
                  refine wpQuiet_nil ?_
                  exact rfl
                intro w3 b3
                try simp only [List.drop_succ_cons, List.drop_zero]
                have HP3 := hide ((unhide HP).below b3)
                have hr3 := hide (unhide hre w3 b3)
                clear b3
                go_wp2_with fail
                refine (unhide hr3).mono ?_
                rintro e w4 ⟨v4, rfl, hO4, b4⟩
                have HP4 := hide ((unhide HP3).below b4)
                obtain ⟨g4, c4, rfl⟩ : ∃ g4 c4, v4 = .slice (some ⟨g4, 0, none⟩) 1 c4 := by
                  rcases hO4.2 with ⟨_, h⟩ | ⟨g, c', cur, h, _⟩
                  · simp at h
                  · exact ⟨_, _, h⟩
                have c4' : w4.cell? ⟨g4, 0, none⟩ = some (.int .i64 (i : Int)) := by
                  rw [hO4.cellAt 0 (by omega)]
                  rfl
                clear hO4 b4 HP3
                go_wp2_with fail
                refine onlyN ?_
                obtain ⟨c41, c42⟩ := (unhide HP4).cells
                have hsz4 := (unhide HP4).sz
                have HST := hide (unhide HP4).st
                have hstl := (unhide HP4).st.lt
                clear c4'
                go_wp2_with (at_builtin; refine wpList_append_own _ rfl _ _ 30 rfl (w.heap.size + 2) 35 j0 (.agg #[.int .i64 0, .int .i64 0]) 2 16 Try.undDs hj0 hy0 hy1 hy2 rfl (by decide) _ _ _ rfl ((unhide HST).alloc _) ⟨w4.heap.size, 0, none⟩ 1 1 [.int .i64 (t : Int), .int .i64 (i : Int)] ?ex rfl ?en ?e2 ?e3 ?e4 ?e5 ?_)
                case en => exact news_lit w4 [.int .i64 (t : Int), .int .i64 (i : Int)] 35
                case e2 => intro u hu; simp at hu; rcases hu with rfl | rfl <;> rfl
                case e3 => unfold maxLen; omega
                case e4 => omega
                case e5 => simp; omega
                all_goals try rfl
                intro v5 w5 hown5 hgrow5 _
                obtain ⟨ao5, cp5, rfl⟩ := own_shape2 hown5
                have HP5 := hide ((unhide HP4).pushL (p := (t, i)) hown5 hgrow5)
                have hbx5 : w5.heap[w.heap.size + 1]? = some (.cells #[(.slice la D.length lc), (.slice ka (KD K D).length kcp)] 52 (0, 0)) := by
                  have hb : Below (w.heap.size + 2) w4 w5 := ((Below.refl _ _).alloc hsz4 _).grown hgrow5 (by simp; omega) (fun q hq => (hstl q hq).1)
                  exact (hb.block _ (by omega)).trans (unhide HP4).box
                have c50 := two0 hbx5
                have f50 := twof (j := 0) hbx5
                have c51 := two1 hbx5
                have hsz5 : w.heap.size + 2 ≤ w5.heap.size := by
                  have := (unhide HP5).sz
                  simpa using this
                have HKN := hide (unhide HP5).kn
                have hknl := (unhide HP5).kn.lt
                clear hown5 hgrow5 hbx5 c41 c42 HST
                go_wp2_with (at_builtin; refine wpList_append_own _ rfl _ _ 23 rfl (w.heap.size + 2) 3 i0 (.int .i64 0) 1 8 Try.undI hi0 hz0 hz1 hz2 rfl (by decide) _ _ _ rfl ((unhide HKN).alloc _) ⟨w5.heap.size, 0, none⟩ 1 1 [.int .i64 (i : Int)] ?fx rfl ?fn ?f2 ?f3 ?f4 ?f5 ?_)
                case fn =>
                  have := news_lit (w5.setCell ⟨w.heap.size + 1, 0, none⟩ (.slice ao5 (D.length + 1) cp5)) [.int .i64 (i : Int)] 3
                  simpa using this
                case f2 => intro u hu; simp at hu; rw [hu]; rfl
                case f3 => unfold maxLen; omega
                case f4 => omega
                case f5 => simp; omega
                all_goals try rfl
                intro v6 w6 hown6 hgrow6 _
                obtain ⟨ao6, cp6, rfl⟩ := own_shape2 hown6
                have HP6 := hide ((unhide HP5).pushK (i := i) hown6 hgrow6)
                have hbx6 : w6.heap[w.heap.size + 1]? = some (.cells #[.slice ao5 (D.length + 1) cp5, (.slice ka (KD K D).length kcp)] 52 (0, 0)) := by
                  have hb : Below (w.heap.size + 2) (w5.setCell ⟨w.heap.size + 1, 0, none⟩ (.slice ao5 (D.length + 1) cp5)) w6 := ((Below.refl _ _).alloc (by simp; omega) _).grown hgrow6 (by simp; omega) (fun q hq => (hknl q hq).1)
                  exact (hb.block _ (by omega)).trans (unhide HP5).box
                have c61 := two1 hbx6
                have f61 := twof (j := 1) hbx6
                rw [← unhide HKS] at HP6
                clear hown6 hgrow6 hbx6 HKN c50 f50 c51
                go_wp2
                go_roundw
                case rel => exact ⟨s + 1, D ++ [(t, i)], _, _, f', by omega, by rw [List.length_append]; simp; omega, by go_num, unhide HP6, unhide HN1, unhide HN2⟩
                case measure => simp [intOf]; omega
              · have q3 : ¬ (j : Int) < m := by omega
                have hlt17 : t < m := by rw [← unhide HM]; exact ht
                obtain ⟨gr, ogr, rfl, b, cc, c0, hIk, _⟩ := ((unhide HI).below hP.bel) t ht
                obtain ⟨ak, ck, hvk, hik⟩ := hP.ints
                simp only [Value.slice.injEq, true_and] at hvk
                obtain ⟨rfl, rfl⟩ := hvk
                have hks : (KD K D).length ≤ 1000 := by rw [KD_len, unhide HL]; omega
                have hus : unk (inS (KD K D)) R[t] = [i] := by
                  rcases lst_len (S := inS (KD K D)) (r := R[t]) with ⟨i', h1, h2⟩ | ⟨h1, _⟩
                  · rw [hlst] at h1
                    simp at h1
                    rw [h2, h1]
                  · rw [hlst] at h1; cases h1
                have hre : Hid (∀ (Z : World), Below wr.heap.size wr Z → Calls Try.prog 31 #[.slice b R[t].length cc, (.slice ka (KD K D).length kcp)] Z fun e w' => ∃ v, e = .returned v ∧ w'.ownsRow Z.heap.size 3 1 v 1 (ic (zs [i])) ∧ Below Z.heap.size Z w') := fun Z hz => by
                  have := rest_any R[t] (KD K D) b ka cc kcp (by have := unhide HRL _ (List.getElem_mem ht); omega) (by omega) Z (hIk.below hz) (hik.below hz)
                  rw [hus] at this
                  exact this
                have hrp : ripe1 (inS (KD K D)) 0 R = some (t, i) := by
                  have := ripe1_at (S := inS (KD K D)) (R := R) (k := 0) (t := t) (i := i) ht (fun s h hs => hbef s h hs) hlst
                  rwa [Nat.zero_add] at this
                obtain ⟨f', rfl⟩ : ∃ f', f = f' + 1 := ⟨f - 1, by omega⟩
                have HN1 : Hid ((D ++ [(t, i)]) ++ (peelF f' (inS (KD K (D ++ [(t, i)]))) R).1 = E.1) := by
                  have := unhide HD1
                  rw [peelF_some hrp] at this
                  show _ = _
                  rw [KD_snoc, ← inS_snoc, List.append_assoc]
                  exact this
                have HN2 : Hid ((peelF f' (inS (KD K (D ++ [(t, i)]))) R).2 = E.2) := by
                  have := unhide HD2
                  rw [peelF_some hrp] at this
                  show _ = _
                  rw [KD_snoc, ← inS_snoc]
                  exact this
                have HKS : Hid (KD K (D ++ [(t, i)]) = KD K D ++ [i]) := KD_snoc K D (t, i)
                have HP := hide hP
                have HC0 := hide c0
                have q17 : (t : Int) < m := by omega
                have q18 : ¬ (t : Int) < 0 := by omega
                have d18 : decide ((t : Int) < 0) = false := decide_eq_false q18
                have hdl2 : D.length ≤ 160 := by omega
                generalize R[t].length = rl at *
                clear hP c0 hIk hik hus hlst hbef hrp
                go_wp2_with fail
                refine wp_region_late 6 ?A3 (by kernel_rfl) (by kernel_rfl) (by kernel_rfl) ?lex3 ?_
                case lex3 =>
                  intro X
                  have hneX := gb_ne X.w
                  have hcX : ∀ z : Gb X.w, z.w.cell? ⟨gr, ogr + t, none⟩ = _ := fun z => gb_cell (cell_below (unhide HC0) X.ok) z
                  have hdX : ∀ z : Gb X.w, z.w.cell? ⟨w.heap.size + 1, 1, none⟩ = _ := fun z => gb_cell (cell_below (unhide HP).cells.2 X.ok) z
                  dsimp only [List.take_succ_cons, List.take_zero]
                  repeat (go_big_quiet_step (fail))
                  refine wpQuiet_nil ?_
                  exact rfl
                intro w3 b3
                try simp only [List.drop_succ_cons, List.drop_zero]
                have HP3 := hide ((unhide HP).below b3)
                have hr3 := hide (unhide hre w3 b3)
                clear b3
                go_wp2_with fail
                refine (unhide hr3).mono ?_
                rintro e w4 ⟨v4, rfl, hO4, b4⟩
                have HP4 := hide ((unhide HP3).below b4)
                obtain ⟨g4, c4, rfl⟩ : ∃ g4 c4, v4 = .slice (some ⟨g4, 0, none⟩) 1 c4 := by
                  rcases hO4.2 with ⟨_, h⟩ | ⟨g, c', cur, h, _⟩
                  · simp at h
                  · exact ⟨_, _, h⟩
                have c4' : w4.cell? ⟨g4, 0, none⟩ = some (.int .i64 (i : Int)) := by
                  rw [hO4.cellAt 0 (by omega)]
                  rfl
                clear hO4 b4 HP3
                go_wp2_with fail
                refine onlyN ?_
                obtain ⟨c41, c42⟩ := (unhide HP4).cells
                have hsz4 := (unhide HP4).sz
                have HST := hide (unhide HP4).st
                have hstl := (unhide HP4).st.lt
                clear c4'
                go_wp2_with (at_builtin; refine wpList_append_own _ rfl _ _ 30 rfl (w.heap.size + 2) 35 j0 (.agg #[.int .i64 0, .int .i64 0]) 2 16 Try.undDs hj0 hy0 hy1 hy2 rfl (by decide) _ _ _ rfl ((unhide HST).alloc _) ⟨w4.heap.size, 0, none⟩ 1 1 [.int .i64 (t : Int), .int .i64 (i : Int)] ?gx rfl ?gn ?g2 ?g3 ?g4h ?g5h ?_)
                case gn => exact news_lit w4 [.int .i64 (t : Int), .int .i64 (i : Int)] 35
                case g2 => intro u hu; simp at hu; rcases hu with rfl | rfl <;> rfl
                case g3 => unfold maxLen; omega
                case g4h => omega
                case g5h => simp; omega
                all_goals try rfl
                intro v5 w5 hown5 hgrow5 _
                obtain ⟨ao5, cp5, rfl⟩ := own_shape2 hown5
                have HP5 := hide ((unhide HP4).pushL (p := (t, i)) hown5 hgrow5)
                have hbx5 : w5.heap[w.heap.size + 1]? = some (.cells #[(.slice la D.length lc), (.slice ka (KD K D).length kcp)] 52 (0, 0)) := by
                  have hb : Below (w.heap.size + 2) w4 w5 := ((Below.refl _ _).alloc hsz4 _).grown hgrow5 (by simp; omega) (fun q hq => (hstl q hq).1)
                  exact (hb.block _ (by omega)).trans (unhide HP4).box
                have c50 := two0 hbx5
                have f50 := twof (j := 0) hbx5
                have c51 := two1 hbx5
                have hsz5 : w.heap.size + 2 ≤ w5.heap.size := by
                  have := (unhide HP5).sz
                  simpa using this
                have HKN := hide (unhide HP5).kn
                have hknl := (unhide HP5).kn.lt
                clear hown5 hgrow5 hbx5 c41 c42 HST
                go_wp2_with (at_builtin; refine wpList_append_own _ rfl _ _ 23 rfl (w.heap.size + 2) 3 i0 (.int .i64 0) 1 8 Try.undI hi0 hz0 hz1 hz2 rfl (by decide) _ _ _ rfl ((unhide HKN).alloc _) ⟨w5.heap.size, 0, none⟩ 1 1 [.int .i64 (i : Int)] ?hx rfl ?hn ?h2 ?h3 ?h4 ?h5 ?_)
                case hn =>
                  have := news_lit (w5.setCell ⟨w.heap.size + 1, 0, none⟩ (.slice ao5 (D.length + 1) cp5)) [.int .i64 (i : Int)] 3
                  simpa using this
                case h2 => intro u hu; simp at hu; rw [hu]; rfl
                case h3 => unfold maxLen; omega
                case h4 => omega
                case h5 => simp; omega
                all_goals try rfl
                intro v6 w6 hown6 hgrow6 _
                obtain ⟨ao6, cp6, rfl⟩ := own_shape2 hown6
                have HP6 := hide ((unhide HP5).pushK (i := i) hown6 hgrow6)
                have hbx6 : w6.heap[w.heap.size + 1]? = some (.cells #[.slice ao5 (D.length + 1) cp5, (.slice ka (KD K D).length kcp)] 52 (0, 0)) := by
                  have hb : Below (w.heap.size + 2) (w5.setCell ⟨w.heap.size + 1, 0, none⟩ (.slice ao5 (D.length + 1) cp5)) w6 := ((Below.refl _ _).alloc (by simp; omega) _).grown hgrow6 (by simp; omega) (fun q hq => (hknl q hq).1)
                  exact (hb.block _ (by omega)).trans (unhide HP5).box
                have c61 := two1 hbx6
                have f61 := twof (j := 1) hbx6
                rw [← unhide HKS] at HP6
                clear hown6 hgrow6 hbx6 HKN c50 f50 c51
                go_wp2
                go_roundw
                case rel => exact ⟨s + 1, D ++ [(t, i)], _, _, f', by omega, by rw [List.length_append]; simp; omega, by go_num, unhide HP6, unhide HN1, unhide HN2⟩
                case measure => simp [intOf]; omega
        · have hsn : s = n := by omega
          subst hsn
          obtain rfl : f = 0 := by omega
          have q2 : ¬ (s : Int) < s := by omega
          have hd1 : D = E.1 := by
            have := hD1
            rwa [show (peelF 0 (inS (KD K D)) R).1 = [] from rfl, List.append_nil] at this
          have hd2 : inS (KD K D) = E.2 := hD2
          have hone : True := trivial
          have htwo : True := trivial
          clear hD1 hD2
          have f0 := twof (j := 0) hP.res
          have f1 := twof (j := 1) hP.res
          have e0 := two0 hP.res
          have e1 := two1 hP.res
          obtain ⟨d0, d1⟩ := hP.cells
          have HX : Hid (∃ D', ((wr.setCell ⟨w.heap.size, 0, none⟩ (.slice la D.length lc)).setCell ⟨w.heap.size, 1, none⟩ (.slice ka (KD K D).length kcp)).ownsRow w.heap.size 35 2 (.slice la D.length lc) (List.length (α := Nat × Nat) D') (stc D') ∧ ((wr.setCell ⟨w.heap.size, 0, none⟩ (.slice la D.length lc)).setCell ⟨w.heap.size, 1, none⟩ (.slice ka (KD K D).length kcp)).ownsRow w.heap.size 3 1 (.slice ka (KD K D).length kcp) (KD K D').length (ic (zs (KD K D'))) ∧ D' = E.1 ∧ inS (KD K D') = E.2 ∧ Below w.heap.size w ((wr.setCell ⟨w.heap.size, 0, none⟩ (.slice la D.length lc)).setCell ⟨w.heap.size, 1, none⟩ (.slice ka (KD K D).length kcp))) := ⟨D, own_mono (ownsRow_setCell_below (ownsRow_setCell_below hP.st (by simp) _) (by simp) _) (by omega), own_mono (ownsRow_setCell_below (ownsRow_setCell_below hP.kn (by simp) _) (by simp) _) (by omega), hd1, hd2, (hP.bel.setCell (p := ⟨w.heap.size, 0, none⟩) (Nat.le_refl _) _).setCell (p := ⟨w.heap.size, 1, none⟩) (Nat.le_refl _) _⟩
          have HRS := hide (heap_setCell_same _ _ 1 _ _ (.slice ka (KD K D).length kcp) (heap_setCell_same _ _ 0 _ _ (.slice la D.length lc) hP.res))
          clear hP hd1 hd2 hone htwo
          go_wp2
          obtain ⟨D', x1, x2, x3, x4, x5⟩ := unhide HX
          refine ret_two rfl w.heap.size 52 #[(.slice la D.length lc), (.slice ka (KD K D).length kcp)] (0, 0) _ rfl (unhide HRS) rfl Try.underlying52 (by kernel_rfl) ⟨_, _, rfl, D', x1, x2, x3, x4, x5⟩
end Go.Proofs.Ytfihpmhobjjaaaa

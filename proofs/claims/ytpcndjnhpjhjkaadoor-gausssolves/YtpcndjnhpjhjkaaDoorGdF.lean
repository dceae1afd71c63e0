/- The document's Reduce, walked. -/
import Derived.Test.YtpcndjnhpjhjkaaDoorGdZ
namespace Go.Proofs.YtpcndjnhpjhjkaaDoor
open Go.RowKit
set_option linter.unusedVariables false
attribute [local go_sem] Oper.semAt_some

set_option maxRecDepth 100000 in
set_option maxHeartbeats 4000000 in
theorem dreduce_any (n m : Nat) (L : List Ln) (hn : n ≤ 160) (hm : m ≤ 100) (hM : L.length ≤ 400) (hs : Szd m L) (hbd : ∀ x ∈ L, x.1 < 2 ^ n) (a0 : Option Addr) (c : Nat) (w : World) (hI : SidesA n w a0 L) :
    Calls Tryd.prog 33 #[.int .i64 n, .slice a0 L.length c] w fun e w' => ∃ vL vE, e = .returned (.agg #[vL, vE]) ∧ (∃ Cs, w'.ownsRow w.heap.size 78 2 vL (docN L).1.length Cs ∧ SideC n w w' (docN L).1 Cs) ∧ w'.ownsRow w.heap.size 9 1 vE (docN L).2.length (sc (docN L).2) ∧ Below w.heap.size w w' := by
  obtain ⟨i0, hi0, hz0, hz1, hz2⟩ : ∃ i, Tryd.prog.info? 78 = some i ∧ i.zero = some (.agg #[.slice none 0 0, .string ⟨#[]⟩]) ∧ i.size = 2 ∧ i.bytes = 40 := by
    have h := Tryd.infoSd
    cases hh : Tryd.prog.info? 78 with
    | none => rw [hh] at h; cases h
    | some i =>
      rw [hh] at h
      simp only [Option.map_some, Option.some.injEq, Prod.mk.injEq] at h
      exact ⟨i, rfl, h.1, h.2.1, h.2.2⟩
  obtain ⟨s0, hs0, hy0, hy1, hy2⟩ : ∃ i, Tryd.prog.info? 9 = some i ∧ i.zero = some (.string ⟨#[]⟩) ∧ i.size = 1 ∧ i.bytes = 16 := by
    have h : (Tryd.prog.info? 9).map (fun i => (i.zero, i.size, i.bytes)) = some (some (.string ⟨#[]⟩), 1, 16) := by kernel_rfl
    cases hh : Tryd.prog.info? 9 with
    | none => rw [hh] at h; cases h
    | some i =>
      rw [hh] at h
      simp only [Option.map_some, Option.some.injEq, Prod.mk.injEq] at h
      exact ⟨i, rfl, h.1, h.2.1, h.2.2⟩
  have hus : Tryd.prog.underlying 41 = some (.slice 9) := by kernel_rfl
  have HI := hide hI
  have HDI : Hid (∀ k, k ≤ L.length → DI m n (L.take k) (docN (L.take k))) := fun k hk => DI.all (by omega) _ _ rfl (fun x hx => hs x (List.mem_of_mem_take hx)) (fun x hx => hbd x (List.mem_of_mem_take hx))
  have HX0 : Hid (∀ k, k < L.length → (gt L k).2.length = m ∧ (gt L k).1 < 2 ^ n) := fun k hk => ⟨hs _ (gt_mem hk), hbd _ (gt_mem hk)⟩
  have HLEN := hide (docN_lens L)
  have HTAKE : Hid (∀ k, k < L.length → docN (L.take (k + 1)) = docS (docN (L.take k)) (gt L k)) := fun k hk => docN_take hk
  have HFIN : Hid (docN (L.take L.length) = docN L) := by show _ = _; rw [List.take_length]
  generalize hML : L.length = M at *
  have HML := hide hML
  clear hI hs hbd hML
  go_enter Tryd.func33, Tryd.ntmps33
  go_wp2_with fail
  go_loopw [6] (fun v wr => ∃ (k : Nat) (vL vE : Value), k ≤ M ∧ v = .int .i64 k ∧ RD n w wr (docN (L.take k)) vL vE) (fun v _ => M - (intOf v).toNat)
  case atStart => exact ⟨0, .slice none 0 0, .slice none 0 0, by omega, rfl, heap_alloc2_new _ _ _, heap_alloc2_old _ _ _, ⟨[], World.ownsRow_nil _ _ _ _, SideC.nil _ _ _⟩, World.ownsRow_nil _ _ _ _, ((Below.refl _ _).alloc (Nat.le_refl _) _).alloc (by simp) _, by simp⟩
  case round =>
    obtain ⟨k, vL, vE, hk, rfl, hR⟩ := hrel
    have hl1 := unhide HLEN k hk
    have hdi := unhide HDI k hk
    obtain ⟨Cs0, hli0, _⟩ := hR.li
    obtain ⟨la, lc, rfl⟩ := own_shape4 hli0
    obtain ⟨ea, ec, rfl⟩ := own_shape4 hR.em
    by_cases hlt : k < M
    · obtain ⟨hx1, hx2⟩ := unhide HX0 k hlt
      obtain ⟨g, o, rfl, b, cc, c0, c1, hIb⟩ := unhide HI k (by rw [unhide HML]; exact hlt)
      have HT := hide (unhide HTAKE k hlt)
      generalize docN (L.take k) = s at *
      generalize gt L k = x0 at *
      have d0 := cell_below c0 hR.bel
      have d1 := cell_below c1 hR.bel
      have q1 : (k : Int) < M := by omega
      have hgx : w.heap.size + 2 ≤ wr.heap.size := hR.sz
      have hbA : Below wr.heap.size wr (wr.alloc (.cells #[.slice b (numsR n x0.1).length cc, .string (bs x0.2)] 78)) := (Below.refl _ _).alloc (Nat.le_refl _) _
      have HR1 := hide (hR.below hbA)
      have HX1 : Hid (XB n w (wr.alloc (.cells #[.slice b (numsR n x0.1).length cc, .string (bs x0.2)] 78)) wr.heap.size x0) := ⟨b, cc, heap_alloc_new _ _, .inl hIb⟩
      have hvl : ∀ q, (Value.slice la s.1.length lc).ownBlock = some q → q < wr.heap.size := fun q hq => (hli0.lt q hq).2
      have HVL := hide hvl
      have HDI2 := hide hdi
      generalize hls : s.1.length = ls at *
      have HLS := hide hls
      generalize hes : s.2.length = es at *
      have HES := hide hes
      clear hR c0 c1 hIb hli0 hbA hvl hdi hls hes
      go_wp2_with fail
      generalize hw1 : wr.alloc (.cells #[.slice b (numsR n x0.1).length cc, .string (bs x0.2)] 78) = w1 at *
      clear hw1
      generalize wr.heap.size = gx at *
      generalize (numsR n x0.1).length = lx0 at *
      go_loopw [8] (fun v wr => ∃ (j : Nat), j ≤ ls ∧ v = .int .i64 j ∧ RD n w wr s (.slice la ls lc) (.slice ea es ec) ∧ XB n w wr gx (redX (s.1.take j) x0)) (fun v _ => ls - (intOf v).toNat)
      case atStart => exact ⟨0, by omega, rfl, unhide HR1, unhide HX1⟩
      case round =>
        clear HR1 HX1
        obtain ⟨j, hj, rfl, hR, hX⟩ := hrel
        have hgw := hX.lt
        by_cases hjl : j < ls
        · have hjs : j < s.1.length := by rw [unhide HLS]; exact hjl
          obtain ⟨Cs, hli, hsc⟩ := hR.li
          obtain ⟨bx, cx, hbx, hix⟩ := hX
          obtain ⟨gl, cl, el, _⟩ : ∃ gl cl, Value.slice la ls lc = .slice (some ⟨gl, 0, none⟩) ls cl ∧ True := by
            rw [← unhide HLS] at hli
            rcases hli.2 with ⟨_, h⟩ | ⟨g', c', cur, h, _⟩
            · omega
            · rw [unhide HLS] at h
              exact ⟨_, _, h, trivial⟩
          simp only [Value.slice.injEq, true_and] at el
          obtain ⟨rfl, rfl⟩ := el
          obtain ⟨by', cy, y1, y2, hiy⟩ := hsc j hjs
          have hli' : wr.ownsRow (w.heap.size + 2) 78 2 (.slice (some ⟨gl, 0, none⟩) ls lc) ls Cs := by rw [unhide HLS] at hli; exact hli
          have p1 := (hli'.cellAt (j * 2) (by omega)).trans y1
          have p2 := (hli'.cellAt (j * 2 + 1) (by omega)).trans y2
          have x1 := cell0_two hbx
          have x2 := cell1_two hbx
          have b1 := cell0_two hR.box
          have hym := gt_mem hjs
          have hynz := (unhide HDI2).rd.nz _ hym
          have hybd := (unhide HDI2).bd _ hym
          have hylen := (unhide HDI2).szd _ hym
          have hxlen : (redX (s.1.take j) x0).2.length = m := (redX_spn (unhide HDI2).szd (s.1.take j) (fun y hy => List.mem_of_mem_take hy) x0 hx1).1
          have hxbd : (redX (s.1.take j) x0).1 < 2 ^ n := redX_bd (s.1.take j) (fun y hy => (unhide HDI2).bd y (List.mem_of_mem_take hy)) x0 hx2
          have hrt := redX_take (x := x0) hjs
          have q3 : (j : Int) < ls := by omega
          have HRS := hide hrt
          generalize hX' : redX (s.1.take j) x0 = X at *
          generalize hY' : gt s.1 j = Y at *
          have hiX := hix.ints hR.bel
          have hiY := hiy.ints hR.bel
          have hfi : Hid (∀ z : Gb wr, Calls Tryd.prog 48 #[.int .i64 n, .agg #[.slice by' (numsR n Y.1).length cy, .string (bs Y.2)]] z.w fun e w' => e = .returned (.int .i64 (fstI n Y.1)) ∧ Below z.w.heap.size z.w w') := fun z => dfirst_any n Y hn hybd by' cy z.w (hiY.below z.ok)
          have hha : Hid (∀ z : Gb wr, Calls Tryd.prog 25 #[.slice bx (numsR n X.1).length cx, .int .i64 (fstI n Y.1)] z.w fun e w' => e = .returned (.bool (X.1.testBit (fb Y.1))) ∧ z.w = w') := fun z => by
            have := ghas_any (zs (numsR n X.1)) (fstI n Y.1) bx cx (by have := numsR_len n X.1; rw [zs_length]; unfold maxLen; omega) z.w (hiX.below z.ok)
            rwa [zs_length, has_first hn hxbd hynz hybd] at this
          have hpl : Hid (∀ z, Below wr.heap.size wr z → Calls Tryd.prog 49 #[.int .i64 n, .agg #[.slice bx (numsR n X.1).length cx, .string (bs X.2)], .agg #[.slice by' (numsR n Y.1).length cy, .string (bs Y.2)]] z fun e w' => ∃ v, e = .returned (.agg #[v, .string (bs (addV X Y).2)]) ∧ w'.ownsRow z.heap.size 3 1 v (numsR n (addV X Y).1).length (ic (zs (numsR n (addV X Y).1))) ∧ Below z.heap.size z w') := fun z hz => dplus_any n m X Y hn hm hxbd hybd hxlen hylen bx by' cx cy z (hiX.below hz) (hiY.below hz)
          have HR := hide hR
          have HXB : Hid (XB n w wr gx X) := ⟨bx, cx, hbx, hix⟩
          generalize fstI n Y.1 = fy at *
          generalize hlX : (numsR n X.1).length = lX at *
          have HLX := hide hlX
          generalize (numsR n Y.1).length = lY at *
          clear hR hix hiy hiX hiY hli hli' hsc y1 y2 hbx hym hynz hybd hylen hxlen hxbd hrt hX' hY' hlX
          go_wp2_with fail
          refine wp_region_gr (fun x => Below wr.heap.size wr x) (by kernel_rfl) (by kernel_rfl) (gb_start wr) ?_
          have hne := gb_ne wr
          have X1 : ∀ z : Gb wr, z.w.cell? ⟨gx, 0, none⟩ = _ := fun z => gb_cell x1 z
          have X3 : ∀ z : Gb wr, z.w.cell? ⟨w.heap.size + 1, 0, none⟩ = _ := fun z => gb_cell b1 z
          have X4 : ∀ z : Gb wr, z.w.cell? ⟨gl, j * 2, none⟩ = _ := fun z => gb_cell p1 z
          have X5 : ∀ z : Gb wr, z.w.cell? ⟨gl, j * 2 + 1, none⟩ = _ := fun z => gb_cell p2 z
          repeat (go_big_quiet_step ((first | (go_at_call 48; exact gb_call (unhide hfi _)) | (go_at_call 25; exact gb_same (unhide hha _)))))
          refine wpQuiet_nil ?_
          rintro w7 ⟨⟨w7, b7⟩, rfl⟩
          have HR7 := hide ((unhide HR).below b7)
          have HX7 := hide ((unhide HXB).below b7)
          have hpl7 := hide (fun z (hz : Below w7.heap.size w7 z) => unhide hpl z (b7.trans (hz.mono b7.size)))
          have x17 := cell_below x1 b7
          have x27 := cell_below x2 b7
          have b17 := cell_below b1 b7
          have p17 := cell_below p1 b7
          have p27 := cell_below p2 b7
          clear X1 X3 X4 X5 hne b7 x1 x2 b1 p1 p2
          cases htb : X.1.testBit (fb Y.1) with
          | false =>
            rw [htb] at HRS
            simp only [Bool.false_eq_true, if_false] at HRS
            have HX8 : Hid (XB n w w7 gx (redX (s.1.take (j + 1)) x0)) := by rw [unhide HRS]; exact unhide HX7
            clear htb
            go_wp2
            go_roundw
            case rel => exact ⟨j + 1, by omega, by go_num, unhide HR7, unhide HX8⟩
            case measure => simp [intOf]; omega
          | true =>
            rw [htb] at HRS
            simp only [if_true] at HRS
            clear htb
            go_wp2_with fail
            refine wp_region_late 7 ?A1 (by kernel_rfl) (by kernel_rfl) (by kernel_rfl) ?lex1 ?_
            case lex1 =>
              intro Z
              have hneZ := gb_ne Z.w
              have X1 : ∀ z : Gb Z.w, z.w.cell? ⟨gx, 0, none⟩ = _ := fun z => gb_cell (cell_below x17 Z.ok) z
              have X2 : ∀ z : Gb Z.w, z.w.cell? ⟨gx, 1, none⟩ = _ := fun z => gb_cell (cell_below x27 Z.ok) z
              have X3 : ∀ z : Gb Z.w, z.w.cell? ⟨w.heap.size + 1, 0, none⟩ = _ := fun z => gb_cell (cell_below b17 Z.ok) z
              have X4 : ∀ z : Gb Z.w, z.w.cell? ⟨gl, j * 2, none⟩ = _ := fun z => gb_cell (cell_below p17 Z.ok) z
              have X5 : ∀ z : Gb Z.w, z.w.cell? ⟨gl, j * 2 + 1, none⟩ = _ := fun z => gb_cell (cell_below p27 Z.ok) z
              dsimp only [List.take_succ_cons, List.take_zero]
              repeat (go_big_quiet_step (fail))
              refine wpQuiet_nil ?_
              exact rfl
            intro w8 b8
            try simp only [List.drop_succ_cons, List.drop_zero]
            have HR8 := hide ((unhide HR7).below b8)
            have HX8 := hide ((unhide HX7).below b8)
            have hp8 := hide (unhide hpl7 w8 b8)
            clear b8
            go_wp2_with fail
            refine (unhide hp8).mono ?_
            rintro e w9 ⟨v9, rfl, hO9, b9⟩
            obtain ⟨va, vc, rfl⟩ := own_shape4 hO9
            have hR9 := (unhide HR8).below b9
            have hX9 := (unhide HX8).below b9
            have hw8 := (unhide HR8).bel.size
            obtain ⟨b9', c9', hbx9, _⟩ := hX9
            have z0 := cell0_two hbx9
            have z1 := cell1_two hbx9
            have f0 := free_two (j := 0) hbx9
            have f1 := free_two (j := 1) hbx9
            have hbx10 := heap_setCell_same _ _ 0 _ _ (.slice va (numsR n (addV X Y).1).length vc) hbx9
            have hR10 := hR9.setX (j := 0) hbx9 hgx (unhide HVL) (.slice va (numsR n (addV X Y).1).length vc)
            have hR11 := hR10.setX (j := 1) hbx10 hgx (unhide HVL) (.string (bs (addV X Y).2))
            have hk10 : KI w9 (w9.setCell ⟨gx, 0, none⟩ (.slice va (numsR n (addV X Y).1).length vc)) := KI.set hbx9 (by decide) _
            have hk11 : KI (w9.setCell ⟨gx, 0, none⟩ (.slice va (numsR n (addV X Y).1).length vc)) ((w9.setCell ⟨gx, 0, none⟩ (.slice va (numsR n (addV X Y).1).length vc)).setCell ⟨gx, 1, none⟩ (.string (bs (addV X Y).2))) := KI.set hbx10 (by decide) _
            have HR11 := hide hR11
            have HX11 : Hid (XB n w ((w9.setCell ⟨gx, 0, none⟩ (.slice va (numsR n (addV X Y).1).length vc)).setCell ⟨gx, 1, none⟩ (.string (bs (addV X Y).2))) gx (redX (s.1.take (j + 1)) x0)) := by
              rw [unhide HRS]
              exact ⟨va, vc, heap_setCell_same _ _ 1 _ _ (.string (bs (addV X Y).2)) hbx10, (IRow.ki (.inr ⟨vc, own_mono hO9 hw8⟩) hk10).ki hk11⟩
            generalize (numsR n (addV X Y).1).length = lZ at *
            generalize bs (addV X Y).2 = bZ at *
            clear hR9 hR10 hR11 hbx9 hbx10 hO9 b9 hk10 hk11 x17 x27 b17 p17 p27
            go_wp2_with fail
            refine onlyN ?_
            go_wp2
            go_roundw
            case rel => exact ⟨j + 1, by omega, by go_num, unhide HR11, unhide HX11⟩
            case measure => simp [intOf]; omega
        · have hjl' : j = ls := by omega
          subst hjl'
          have q3 : ¬ (j : Int) < j := by omega
          have htk : s.1.take j = s.1 := List.take_of_length_le (by rw [unhide HLS]; exact Nat.le_refl _)
          rw [htk] at hX
          have hxlen : (redX s.1 x0).2.length = m := (redX_spn (unhide HDI2).szd s.1 (fun y hy => hy) x0 hx1).1
          have hxbd : (redX s.1 x0).1 < 2 ^ n := redX_bd s.1 (fun y hy => (unhide HDI2).bd y hy) x0 hx2
          have hxbit : ∀ y ∈ s.1, (redX s.1 x0).1.testBit (fb y.1) = false := redX_bit (unhide HDI2).rd s.1 [] rfl x0 (by simp)
          have HDS := hide (docS_one s x0)
          obtain ⟨bx, cx, hbx, hix⟩ := hX
          have x1 := cell0_two hbx
          have x2 := cell1_two hbx
          have b1 := cell0_two hR.box
          have b2 := cell1_two hR.box
          generalize redX s.1 x0 = X at *
          have hnil := numsR_nil hxbd
          by_cases hz : X.1 = 0
          · have hl0 : (numsR n X.1).length = 0 := hnil.2 hz
            have HS2 : Hid (docN (L.take (k + 1)) = (s.1, s.2 ++ [X.2])) := by
              show _ = _
              rw [unhide HT, unhide HDS, if_pos hz]
            rw [hl0] at x1
            have HEM := hide hR.em
            have HR := hide hR
            have heml := hR.em.lt
            have hsz := hR.sz
            have f1 := free_two (j := 1) hR.box
            clear hR hbx hix hnil hl0 htk
            go_wp2_with (at_builtin; refine wpList_append_own _ rfl _ _ 41 rfl (w.heap.size + 2) 9 s0 (.string ⟨#[]⟩) 1 16 hus hs0 hy0 hy1 hy2 rfl (by decide) _ _ _ rfl ((unhide HEM).alloc _) ⟨wr.heap.size, 0, none⟩ 1 1 [.string (bs X.2)] ?cx rfl ?cn ?c2 ?c3 ?c4 ?c5 ?_)
            case c2 => first | rfl | (intro u hu; simp at hu; rw [hu]; rfl)
            case c3 => unfold maxLen; have := unhide HES; omega
            case c4 => have := unhide HES; omega
            case c5 => first | omega | (simp; omega)
            all_goals try rfl
            intro v' w7 hown7 hgrow7 _
            obtain ⟨ao7, cp7, rfl⟩ := own_shape4 hown7
            have hsz7 : (wr.alloc (.cells #[.string (bs X.2)] 9)).heap.size ≤ w7.heap.size := hgrow7.size
            have HR7 := hide ((unhide HR).pushE hown7 hgrow7 hsz7)
            have hbx7 : w7.heap[w.heap.size + 1]? = some (.cells #[.slice la j lc, .slice ea es ec] 74 (0, 0)) := by
              have hb : Below (w.heap.size + 2) wr w7 := ((Below.refl _ _).alloc hsz _).grown hgrow7 (by simp; omega) (fun q hq => (heml q hq).1)
              exact (hb.block _ (by omega)).trans (unhide HR).box
            have c7 := cell1_two hbx7
            have f7 := free_two (j := 1) hbx7
            rw [← unhide HS2] at HR7
            clear hown7 hgrow7 hbx7 x1 x2 b1 b2 f1
            go_wp2
            go_roundw
            case rel => exact ⟨k + 1, _, _, by omega, by go_num, unhide HR7⟩
            case measure => simp [intOf]; omega
          · have hl0 : (numsR n X.1).length ≠ 0 := fun e => hz (hnil.1 e)
            have HS2 : Hid (docN (L.take (k + 1)) = (insS X (s.1.map (addIf X)), s.2)) := by
              show _ = _
              rw [unhide HT, unhide HDS, if_neg hz]
            have HXB : Hid (XB n w wr gx X) := ⟨bx, cx, hbx, hix⟩
            have HR := hide hR
            have HBIT := hide hxbit
            have hiX := hix.ints hR.bel
            have hfx : Hid (∀ z, Below wr.heap.size wr z → Calls Tryd.prog 48 #[.int .i64 n, .agg #[.slice bx (numsR n X.1).length cx, .string (bs X.2)]] z fun e w' => e = .returned (.int .i64 (fb X.1 : Int)) ∧ Below z.heap.size z w') := fun z hz' => by
              have := dfirst_any n X hn hxbd bx cx z (hiX.below hz')
              have e : fstI n X.1 = (fb X.1 : Int) := by unfold fstI; rw [if_neg hz]
              rwa [e] at this
            have hx200 : X.1 < 2 ^ 200 := Nat.lt_of_lt_of_le hxbd (Nat.pow_le_pow_right (by omega) (by omega))
            have q7 : ¬ ((numsR n X.1).length : Int) = 0 := by omega
            have q8 : (((numsR n X.1).length : Int) == 0) = false := beq_eq_false_iff_ne.2 q7
            have q9 : ¬ (numsR n X.1).length = 0 := hl0
            have HW3 := hide (show wr.heap.size = wr.heap.size from rfl)
            have hws := hR.sz
            have HIX := hide hix
            generalize hlX : (numsR n X.1).length = lX at *
            have HLX := hide hlX
            generalize hbX : bs X.2 = bX at *
            have HBX := hide hbX
            clear hR hbx hix hnil hl0 htk hxbit hiX hlX hbX
            generalize wr = w3 at *
            go_wp2_with fail
            go_loopw [9, 10, 11] (fun v u x wr => ∃ (i : Nat) (N : List Ln) (p : Bool) (Cs : List Value), i ≤ j ∧ x = .int .i64 i ∧ u = .bool p ∧ InK X ((s.1.take i).map (addIf X)) N p ∧ wr.ownsRow w3.heap.size 78 2 v N.length Cs ∧ SideC n w wr N Cs ∧ Below w3.heap.size w3 wr) (fun _ _ x _ => j - (intOf x).toNat)
            case atStart => exact ⟨0, [], false, [], by omega, rfl, rfl, InK.nil X, World.ownsRow_nil _ _ _ _, SideC.nil _ _ _, Below.refl _ _⟩
            case round =>
              obtain ⟨i, N, p, Cs, hi, rfl, rfl, hin, hO, hSC, hB⟩ := hrel
              obtain ⟨na, nc, rfl⟩ := own_shape4 hO
              have hbs := hB.size
              by_cases hil : i < j
              · have his : i < s.1.length := by rw [unhide HLS]; exact hil
                obtain ⟨Cs0, hli, hsc⟩ := (unhide HR).li
                obtain ⟨gl, cl, el, _⟩ : ∃ gl cl, Value.slice la j lc = .slice (some ⟨gl, 0, none⟩) j cl ∧ True := by
                  rcases hli.2 with ⟨_, h⟩ | ⟨g', c', cur, h, _⟩
                  · have := unhide HLS; omega
                  · rw [unhide HLS] at h
                    exact ⟨_, _, h, trivial⟩
                simp only [Value.slice.injEq, true_and] at el
                obtain ⟨rfl, rfl⟩ := el
                obtain ⟨by', cy, ya, yb', hiy⟩ := hsc i his
                have hli' : w3.ownsRow (w.heap.size + 2) 78 2 (.slice (some ⟨gl, 0, none⟩) j lc) j Cs0 := by rw [unhide HLS] at hli; exact hli
                have p1 := cell_below ((hli'.cellAt (i * 2) (by omega)).trans ya) hB
                have p2 := cell_below ((hli'.cellAt (i * 2 + 1) (by omega)).trans yb') hB
                have b17 := cell_below b1 hB
                have x17 := cell_below x1 hB
                have x27 := cell_below x2 hB
                have hym := gt_mem his
                have hynz := (unhide HDI2).rd.nz _ hym
                have hybd := (unhide HDI2).bd _ hym
                have hylen := (unhide HDI2).szd _ hym
                have hybit := unhide HBIT _ hym
                have q20 : (i : Int) < j := by omega
                obtain ⟨Y, hYe⟩ : ∃ Y, gt s.1 i = Y := ⟨_, rfl⟩
                have HYe := hide hYe
                rw [hYe] at p1 p2 hiy hynz hybd hylen hybit
                have hbel3 : Below w.heap.size w wr := (unhide HR).bel.trans (hB.mono (unhide HR).bel.size)
                have hki3 : KI w3 wr := KI.of_below hB
                have hiyw := hiy.ki hki3
                have hbA : Below wr.heap.size wr (wr.alloc (.cells #[.slice by' (numsR n Y.1).length cy, .string (bs Y.2)] 78)) := (Below.refl _ _).alloc (Nat.le_refl _) _
                have hy200 : Y.1 < 2 ^ 200 := Nat.lt_of_lt_of_le hybd (Nat.pow_le_pow_right (by omega) (by omega))
                have hyself := (fb_spec hynz hy200).1
                clear hYe hli hli' hsc ya yb' hym
                go_wp2_with fail
                have hgy := heap_alloc_new wr (.cells #[.slice by' (numsR n Y.1).length cy, .string (bs Y.2)] 78)
                have hgyl : w3.heap.size ≤ wr.heap.size := hbs
                have hO4 := own_below2 hO hbA
                have hSC4 := hSC.ki (KI.of_below hbA)
                have hB4 := hB.trans (hbA.mono hbs)
                have hiy4 := hiyw.ki (KI.of_below hbA)
                have x18 := cell_below x17 hbA
                have x28 := cell_below x27 hbA
                have hyl : ∀ q, (Value.slice na N.length nc).ownBlock = some q → q < wr.heap.size := fun q hq => (hO.lt q hq).2
                have HNGY := hide hyl
                generalize hw4 : wr.alloc (.cells #[.slice by' (numsR n Y.1).length cy, .string (bs Y.2)] 78) = w4 at *
                generalize hgyn : wr.heap.size = gy at *
                have y0 := cell0_two hgy
                have y1 := cell1_two hgy
                have hbel4 : Below w.heap.size w w4 := hbel3.trans (hbA.mono (by have := hbel3.size; omega))
                have hiY4 := hiy4.ints hbel4
                have hfi : Hid (∀ z : Gb w4, Calls Tryd.prog 48 #[.int .i64 n, .agg #[.slice bx lX cx, .string bX]] z.w fun e w' => e = .returned (.int .i64 (fb X.1 : Int)) ∧ Below z.w.heap.size z.w w') := fun z => unhide hfx z.w (hB4.trans (z.ok.mono hB4.size))
                have hha : Hid (∀ z : Gb w4, Calls Tryd.prog 25 #[.slice by' (numsR n Y.1).length cy, .int .i64 (fb X.1 : Int)] z.w fun e w' => e = .returned (.bool (Y.1.testBit (fb X.1))) ∧ z.w = w') := fun z => by
                  have e : fstI n X.1 = (fb X.1 : Int) := by unfold fstI; rw [if_neg hz]
                  have := ghas_any (zs (numsR n Y.1)) (fb X.1 : Int) by' cy (by have := numsR_len n Y.1; rw [zs_length]; unfold maxLen; omega) z.w (hiY4.below z.ok)
                  rw [← e, zs_length, has_first hn hybd hz hxbd] at this
                  rw [← e]
                  exact this
                have hpl : Hid (∀ z, Below w4.heap.size w4 z → Calls Tryd.prog 49 #[.int .i64 n, .agg #[.slice by' (numsR n Y.1).length cy, .string (bs Y.2)], .agg #[.slice bx lX cx, .string bX]] z fun e w' => ∃ v, e = .returned (.agg #[v, .string (bs (addV Y X).2)]) ∧ w'.ownsRow z.heap.size 3 1 v (numsR n (addV Y X).1).length (ic (zs (numsR n (addV Y X).1))) ∧ Below z.heap.size z w') := fun z hz' => by
                  have hi9 := ((unhide HIX).ints (unhide HR).bel).below (hB4.trans (hz'.mono hB4.size))
                  have := dplus_any n m Y X hn hm hybd hxbd hylen hxlen by' bx cy cx z (hiY4.below hz') hi9
                  rwa [unhide HLX, unhide HBX] at this
                have HO4 := hide hO4
                have HSC4 := hide hSC4
                have HB4 := hide hB4
                have HIY4 := hide hiy4
                have HGY := hide hgy
                clear hO hSC hB hbs hO4 hSC4 hB4 hiy hiyw hiy4 hiY4 hki3 hbel3 hbA hw4 hgyn hgy p1 p2 b17 x17 x27 hyl
                refine wp_region_gr (fun x => Below w4.heap.size w4 x) (by kernel_rfl) (by kernel_rfl) (gb_start w4) ?_
                have hne := gb_ne w4
                have X1 : ∀ z : Gb w4, z.w.cell? ⟨gx, 0, none⟩ = _ := fun z => gb_cell x18 z
                have X2 : ∀ z : Gb w4, z.w.cell? ⟨gx, 1, none⟩ = _ := fun z => gb_cell x28 z
                have X4 : ∀ z : Gb w4, z.w.cell? ⟨gy, 0, none⟩ = _ := fun z => gb_cell y0 z
                repeat (go_big_quiet_step ((first | (go_at_call 48; exact gb_call (unhide hfi _)) | (go_at_call 25; exact gb_same (unhide hha _)))))
                refine wpQuiet_nil ?_
                rintro w7 ⟨⟨w7, b7⟩, rfl⟩
                clear X1 X2 X4 hne
                cases htb : Y.1.testBit (fb X.1) with
                | false =>
                  have hZe : addIf X Y = Y := by unfold addIf; rw [htb]; rfl
                  have HZ := hide hZe
                  have HOz := hide (own_below2 (unhide HO4) b7)
                  have HSCz := hide ((unhide HSC4).ki (KI.of_below b7))
                  have HBz := hide ((unhide HB4).trans (b7.mono (unhide HB4).size))
                  have HIZ := hide ((unhide HIY4).ki (KI.of_below b7))
                  have y0 := cell_below y0 b7
                  have y1 := cell_below y1 b7
                  have hgyw : gy < w7.heap.size := cell_lt y0
                  have HGZ := hide ((b7.block gy (lt_of_block (unhide HGY))).trans (unhide HGY))
                  have hZn := hynz
                  have hZb := hybd
                  clear b7 htb hZe x18 x28
                  have hiZ := (unhide HIZ).ints ((unhide HR).bel.trans ((unhide HBz).mono (unhide HR).bel.size))
                  have hfz : Hid (∀ z : Gb w7, Calls Tryd.prog 48 #[.int .i64 n, .agg #[.slice by' (numsR n Y.1).length cy, .string (bs Y.2)]] z.w fun e w' => e = .returned (.int .i64 (fb Y.1 : Int)) ∧ Below z.w.heap.size z.w w') := fun z => by
                    have := dfirst_any n Y hn hZb by' cy z.w (hiZ.below z.ok)
                    have e : fstI n Y.1 = (fb Y.1 : Int) := by unfold fstI; rw [if_neg hZn]
                    rwa [e] at this
                  have hfx8 : Hid (∀ z : Gb w7, Calls Tryd.prog 48 #[.int .i64 n, .agg #[.slice bx lX cx, .string bX]] z.w fun e w' => e = .returned (.int .i64 (fb X.1 : Int)) ∧ Below z.w.heap.size z.w w') := fun z => unhide hfx z.w ((unhide HBz).trans (z.ok.mono (unhide HBz).size))
                  have gx1 := cell_below x1 (unhide HBz)
                  have gx2 := cell_below x2 (unhide HBz)
                  have HIXz := hide ((unhide HIX).ki (KI.of_below (unhide HBz)))
                  have hmap : Hid ((s.1.take (i + 1)).map (addIf X) = (s.1.take i).map (addIf X) ++ [Y]) := by
                    show _ = _
                    rw [List.take_succ_eq_append_getElem his, List.map_append, ← unhide HZ, ← (show gt s.1 i = s.1[i] by simp [gt, List.getD, his]), unhide HYe]
                    rfl
                  have hNl : N.length ≤ 500 := by
                    have h1 := hin.len
                    rw [List.length_map, List.length_take] at h1
                    omega
                  have HNLq : Hid (N.length ≤ 500) := hNl
                  have HNLr : Hid (N.length ≤ 500) := hNl
                  have HNLu : Hid ((N ++ [X]).length ≤ 501) := by show _ ≤ _; rw [List.length_append]; simp; omega
                  clear hiZ hNl
                  cases p with
                  | true =>
                    have HIN := hide (hin.put (y := Y))
                    rw [← unhide hmap] at HIN
                    clear hin
                    go_wp2_with fail
                    refine wp_region_gr (fun x => Below w7.heap.size w7 x) (by kernel_rfl) (by kernel_rfl) (gb_start w7) ?_
                    have hne := gb_ne w7
                    have X1 : ∀ z : Gb w7, z.w.cell? ⟨gx, 0, none⟩ = _ := fun z => gb_cell gx1 z
                    have X2 : ∀ z : Gb w7, z.w.cell? ⟨gx, 1, none⟩ = _ := fun z => gb_cell gx2 z
                    have X4 : ∀ z : Gb w7, z.w.cell? ⟨gy, 0, none⟩ = _ := fun z => gb_cell y0 z
                    have X5 : ∀ z : Gb w7, z.w.cell? ⟨gy, 1, none⟩ = _ := fun z => gb_cell y1 z
                    repeat (go_big_quiet_step (fail))
                    refine wpQuiet_nil ?_
                    rintro w8 ⟨⟨w8, b8⟩, rfl⟩
                    have HO8 := hide (own_below2 (unhide HOz) b8)
                    have HSC8 := hide ((unhide HSCz).ki (KI.of_below b8))
                    have HB8 := hide ((unhide HBz).trans (b8.mono (unhide HBz).size))
                    have HIZ8 := hide ((unhide HIZ).ki (KI.of_below b8))
                    have HIX8 := hide ((unhide HIXz).ki (KI.of_below b8))
                    have y08 := cell_below y0 b8
                    have y18 := cell_below y1 b8
                    have gx18 := cell_below gx1 b8
                    have gx28 := cell_below gx2 b8
                    have HG8 := hide ((b8.block gy (lt_of_block (unhide HGZ))).trans (unhide HGZ))
                    clear X1 X2 X4 X5 hne b8 y0 y1 gx1 gx2
                    have hclq : Cs.length = N.length * 2 := by have := (unhide HO8).1; omega
                    have hnlq : N.length ≤ 1000 := by have := unhide HNLq; omega
                    have hbsq := (unhide HB8).size
                    go_wp2_with (at_builtin; refine wpList_append_own _ rfl _ _ 72 rfl w3.heap.size 78 i0 _ 2 40 Tryd.undSd hi0 hz0 hz1 hz2 rfl (by decide) _ _ _ rfl ((unhide HO8).alloc _) ⟨w8.heap.size, 0, none⟩ 1 1 [.slice by' (numsR n Y.1).length cy, .string (bs Y.2)] rfl rfl (news_lit _ [_, _] _) ?d1_2 ?d1_3 ?d1_4 ?d1_5 ?_)
                    case d1_2 => first | rfl | exact ⟨rfl, rfl⟩ | (intro u hu; simp at hu; rcases hu with rfl | rfl <;> rfl)
                    case d1_3 => unfold maxLen; omega
                    case d1_4 => omega
                    case d1_5 => first | omega | (simp; omega)
                    all_goals try rfl
                    intro v' w9 hown' hgrow' _
                    obtain ⟨naq, ncq, rfl⟩ := own_shape4 hown'
                    have hkiq : KI w8 w9 := (KI.of_below ((Below.refl _ _).alloc (Nat.le_refl _) _)).trans (KI.grown ((unhide HO8).alloc _) (by decide) hgrow' hgrow'.size)
                    have hbq : Below w3.heap.size w8 w9 := ((Below.refl w3.heap.size _).alloc (by omega) _).grown hgrow' (by first | omega | (simp; omega)) (fun q hq => ((unhide HO8).lt q hq).1)
                    have HSCq : Hid (SideC n w w9 (N ++ [Y]) (Cs ++ [.slice by' (numsR n Y.1).length cy, .string (bs Y.2)])) := by
                      have := ((unhide HSC8).ki hkiq).snoc hclq (x := Y) (c := cy) ((unhide HIZ8).ki hkiq)
                      exact this
                    have HOq : Hid (w9.ownsRow w3.heap.size 78 2 (.slice naq (N.length + 1) ncq) (N ++ [Y]).length (Cs ++ [.slice by' (numsR n Y.1).length cy, .string (bs Y.2)])) := by
                      show World.ownsRow _ _ _ _ _ _ _
                      rw [List.length_append]
                      exact hown'
                    have HBq := hide ((unhide HB8).trans hbq)
                    have HKq := hide hkiq
                    have HGKq : Hid (∀ (g : Nat) (X : Obj), w8.heap[g]? = some X → (Value.slice na N.length nc).ownBlock ≠ some g → w9.heap[g]? = some X) := fun g X hX hne => by
                      rw [hgrow'.block g (by have := lt_of_block hX; first | omega | (simp; omega)) (fun e => hne e.symm), Below.heap_alloc _ _ _ (lt_of_block hX)]
                      exact hX
                    clear hown' hgrow' hkiq hbq hclq
                    go_wp2
                    go_roundw
                    case rel => exact ⟨i + 1, _, true, _, by omega, by go_num, rfl, unhide HIN, unhide HOq, unhide HSCq, unhide HBq⟩
                    case measure => simp [intOf]; omega
                  | false =>
                    by_cases hlz : fb X.1 < fb Y.1
                    · have HIN := hide (hin.now (y := Y) hlz)
                      rw [← unhide hmap] at HIN
                      have v1 : (fb X.1 : Int) < (fb Y.1 : Int) := by omega
                      have v2 : decide ((fb X.1 : Int) < (fb Y.1 : Int)) = true := decide_eq_true v1
                      have v3 : decide (fb X.1 < fb Y.1) = true := decide_eq_true hlz
                      clear hin
                      go_wp2_with fail
                      refine wp_region_gr (fun x => Below w7.heap.size w7 x) (by kernel_rfl) (by kernel_rfl) (gb_start w7) ?_
                      have hne := gb_ne w7
                      have X1 : ∀ z : Gb w7, z.w.cell? ⟨gx, 0, none⟩ = _ := fun z => gb_cell gx1 z
                      have X2 : ∀ z : Gb w7, z.w.cell? ⟨gx, 1, none⟩ = _ := fun z => gb_cell gx2 z
                      have X4 : ∀ z : Gb w7, z.w.cell? ⟨gy, 0, none⟩ = _ := fun z => gb_cell y0 z
                      have X5 : ∀ z : Gb w7, z.w.cell? ⟨gy, 1, none⟩ = _ := fun z => gb_cell y1 z
                      iterate 6 (go_big_quiet_step ((go_at_call 48; exact gb_call (unhide hfx8 _))))
                      repeat (go_big_quiet_step ((go_at_call 48; exact gb_call (unhide hfz _))))
                      refine wpQuiet_nil ?_
                      rintro w8 ⟨⟨w8, b8⟩, rfl⟩
                      have HO8 := hide (own_below2 (unhide HOz) b8)
                      have HSC8 := hide ((unhide HSCz).ki (KI.of_below b8))
                      have HB8 := hide ((unhide HBz).trans (b8.mono (unhide HBz).size))
                      have HIZ8 := hide ((unhide HIZ).ki (KI.of_below b8))
                      have HIX8 := hide ((unhide HIXz).ki (KI.of_below b8))
                      have y08 := cell_below y0 b8
                      have y18 := cell_below y1 b8
                      have gx18 := cell_below gx1 b8
                      have gx28 := cell_below gx2 b8
                      have HG8 := hide ((b8.block gy (lt_of_block (unhide HGZ))).trans (unhide HGZ))
                      clear X1 X2 X4 X5 hne b8 y0 y1 gx1 gx2
                      have hclr : Cs.length = N.length * 2 := by have := (unhide HO8).1; omega
                      have hnlr : N.length ≤ 1000 := by have := unhide HNLr; omega
                      have hbsr := (unhide HB8).size
                      go_wp2_with (at_builtin; refine wpList_append_own _ rfl _ _ 72 rfl w3.heap.size 78 i0 _ 2 40 Tryd.undSd hi0 hz0 hz1 hz2 rfl (by decide) _ _ _ rfl ((unhide HO8).alloc _) ⟨w8.heap.size, 0, none⟩ 1 1 [.slice bx lX cx, .string bX] rfl rfl (news_lit _ [_, _] _) ?d2_2 ?d2_3 ?d2_4 ?d2_5 ?_)
                      case d2_2 => first | rfl | exact ⟨rfl, rfl⟩ | (intro u hu; simp at hu; rcases hu with rfl | rfl <;> rfl)
                      case d2_3 => unfold maxLen; omega
                      case d2_4 => omega
                      case d2_5 => first | omega | (simp; omega)
                      all_goals try rfl
                      intro v' w9 hown' hgrow' _
                      obtain ⟨nar, ncr, rfl⟩ := own_shape4 hown'
                      have hkir : KI w8 w9 := (KI.of_below ((Below.refl _ _).alloc (Nat.le_refl _) _)).trans (KI.grown ((unhide HO8).alloc _) (by decide) hgrow' hgrow'.size)
                      have hbr : Below w3.heap.size w8 w9 := ((Below.refl w3.heap.size _).alloc (by omega) _).grown hgrow' (by first | omega | (simp; omega)) (fun q hq => ((unhide HO8).lt q hq).1)
                      have HSCr : Hid (SideC n w w9 (N ++ [X]) (Cs ++ [.slice bx lX cx, .string bX])) := by
                        have := ((unhide HSC8).ki hkir).snoc hclr (x := X) (c := cx) ((unhide HIX8).ki hkir)
                        rw [unhide HLX, unhide HBX] at this
                        exact this
                      have HOr : Hid (w9.ownsRow w3.heap.size 78 2 (.slice nar (N.length + 1) ncr) (N ++ [X]).length (Cs ++ [.slice bx lX cx, .string bX])) := by
                        show World.ownsRow _ _ _ _ _ _ _
                        rw [List.length_append]
                        exact hown'
                      have HBr := hide ((unhide HB8).trans hbr)
                      have HKr := hide hkir
                      have HGKr : Hid (∀ (g : Nat) (X : Obj), w8.heap[g]? = some X → (Value.slice na N.length nc).ownBlock ≠ some g → w9.heap[g]? = some X) := fun g X hX hne => by
                        rw [hgrow'.block g (by have := lt_of_block hX; first | omega | (simp; omega)) (fun e => hne e.symm), Below.heap_alloc _ _ _ (lt_of_block hX)]
                        exact hX
                      clear hown' hgrow' hkir hbr hclr
                      have HIZ9 := hide ((unhide HIZ8).ki (unhide HKr))
                      have hG9y := unhide HGKr gy _ (unhide HG8) (fun e => by have := unhide HNGY gy e; omega)
                      have y09 := cell0_two hG9y
                      have y19 := cell1_two hG9y
                      clear y08 y18 gx18 gx28 hG9y
                      have hclu : (Cs ++ [Value.slice bx lX cx, Value.string bX]).length = (N ++ [X]).length * 2 := by have := (unhide HOr).1; omega
                      have hnlu : (N ++ [X]).length ≤ 1000 := by have := unhide HNLu; omega
                      have hbsu := (unhide HBr).size
                      go_wp2_with (at_builtin; refine wpList_append_own _ rfl _ _ 72 rfl w3.heap.size 78 i0 _ 2 40 Tryd.undSd hi0 hz0 hz1 hz2 rfl (by decide) _ _ _ rfl ((unhide HOr).alloc _) ⟨w9.heap.size, 0, none⟩ 1 1 [.slice by' (numsR n Y.1).length cy, .string (bs Y.2)] rfl rfl (news_lit _ [_, _] _) ?d3_2 ?d3_3 ?d3_4 ?d3_5 ?_)
                      case d3_2 => first | rfl | exact ⟨rfl, rfl⟩ | (intro u hu; simp at hu; rcases hu with rfl | rfl <;> rfl)
                      case d3_3 => unfold maxLen; omega
                      case d3_4 => omega
                      case d3_5 => first | omega | (simp; omega)
                      all_goals try rfl
                      intro v' w10 hown' hgrow' _
                      obtain ⟨nau, ncu, rfl⟩ := own_shape4 hown'
                      have hkiu : KI w9 w10 := (KI.of_below ((Below.refl _ _).alloc (Nat.le_refl _) _)).trans (KI.grown ((unhide HOr).alloc _) (by decide) hgrow' hgrow'.size)
                      have hbu : Below w3.heap.size w9 w10 := ((Below.refl w3.heap.size _).alloc (by omega) _).grown hgrow' (by first | omega | (simp; omega)) (fun q hq => ((unhide HOr).lt q hq).1)
                      have HSCu : Hid (SideC n w w10 ((N ++ [X]) ++ [Y]) ((Cs ++ [Value.slice bx lX cx, Value.string bX]) ++ [.slice by' (numsR n Y.1).length cy, .string (bs Y.2)])) := by
                        have := ((unhide HSCr).ki hkiu).snoc hclu (x := Y) (c := cy) ((unhide HIZ9).ki hkiu)
                        exact this
                      have HOu : Hid (w10.ownsRow w3.heap.size 78 2 (.slice nau (N.length + 1 + 1) ncu) ((N ++ [X]) ++ [Y]).length ((Cs ++ [Value.slice bx lX cx, Value.string bX]) ++ [.slice by' (numsR n Y.1).length cy, .string (bs Y.2)])) := by
                        show World.ownsRow _ _ _ _ _ _ _
                        rw [show (N ++ [X] ++ [Y]).length = N.length + 1 + 1 by simp, List.append_assoc]
                        exact hown'
                      have HBu := hide ((unhide HBr).trans hbu)
                      have HKu := hide hkiu
                      have HGKu : Hid (∀ (g : Nat) (X : Obj), w9.heap[g]? = some X → (Value.slice nar (N.length + 1) ncr).ownBlock ≠ some g → w10.heap[g]? = some X) := fun g X hX hne => by
                        rw [hgrow'.block g (by have := lt_of_block hX; first | omega | (simp; omega)) (fun e => hne e.symm), Below.heap_alloc _ _ _ (lt_of_block hX)]
                        exact hX
                      clear hown' hgrow' hkiu hbu hclu
                      go_wp2
                      go_roundw
                      case rel => exact ⟨i + 1, _, true, _, by omega, by go_num, rfl, unhide HIN, unhide HOu, unhide HSCu, unhide HBu⟩
                      case measure => simp [intOf]; omega
                    · have HIN := hide (hin.not (y := Y) hlz)
                      rw [← unhide hmap] at HIN
                      have v1 : ¬ (fb X.1 : Int) < (fb Y.1 : Int) := by omega
                      have v2 : decide ((fb X.1 : Int) < (fb Y.1 : Int)) = false := decide_eq_false v1
                      have v3 : decide (fb X.1 < fb Y.1) = false := decide_eq_false hlz
                      clear hin
                      go_wp2_with fail
                      refine wp_region_gr (fun x => Below w7.heap.size w7 x) (by kernel_rfl) (by kernel_rfl) (gb_start w7) ?_
                      have hne := gb_ne w7
                      have X1 : ∀ z : Gb w7, z.w.cell? ⟨gx, 0, none⟩ = _ := fun z => gb_cell gx1 z
                      have X2 : ∀ z : Gb w7, z.w.cell? ⟨gx, 1, none⟩ = _ := fun z => gb_cell gx2 z
                      have X4 : ∀ z : Gb w7, z.w.cell? ⟨gy, 0, none⟩ = _ := fun z => gb_cell y0 z
                      have X5 : ∀ z : Gb w7, z.w.cell? ⟨gy, 1, none⟩ = _ := fun z => gb_cell y1 z
                      iterate 6 (go_big_quiet_step ((go_at_call 48; exact gb_call (unhide hfx8 _))))
                      repeat (go_big_quiet_step ((go_at_call 48; exact gb_call (unhide hfz _))))
                      refine wpQuiet_nil ?_
                      rintro w8 ⟨⟨w8, b8⟩, rfl⟩
                      have HO8 := hide (own_below2 (unhide HOz) b8)
                      have HSC8 := hide ((unhide HSCz).ki (KI.of_below b8))
                      have HB8 := hide ((unhide HBz).trans (b8.mono (unhide HBz).size))
                      have HIZ8 := hide ((unhide HIZ).ki (KI.of_below b8))
                      have HIX8 := hide ((unhide HIXz).ki (KI.of_below b8))
                      have y08 := cell_below y0 b8
                      have y18 := cell_below y1 b8
                      have gx18 := cell_below gx1 b8
                      have gx28 := cell_below gx2 b8
                      have HG8 := hide ((b8.block gy (lt_of_block (unhide HGZ))).trans (unhide HGZ))
                      clear X1 X2 X4 X5 hne b8 y0 y1 gx1 gx2
                      have hclq : Cs.length = N.length * 2 := by have := (unhide HO8).1; omega
                      have hnlq : N.length ≤ 1000 := by have := unhide HNLq; omega
                      have hbsq := (unhide HB8).size
                      go_wp2_with (at_builtin; refine wpList_append_own _ rfl _ _ 72 rfl w3.heap.size 78 i0 _ 2 40 Tryd.undSd hi0 hz0 hz1 hz2 rfl (by decide) _ _ _ rfl ((unhide HO8).alloc _) ⟨w8.heap.size, 0, none⟩ 1 1 [.slice by' (numsR n Y.1).length cy, .string (bs Y.2)] rfl rfl (news_lit _ [_, _] _) ?d4_2 ?d4_3 ?d4_4 ?d4_5 ?_)
                      case d4_2 => first | rfl | exact ⟨rfl, rfl⟩ | (intro u hu; simp at hu; rcases hu with rfl | rfl <;> rfl)
                      case d4_3 => unfold maxLen; omega
                      case d4_4 => omega
                      case d4_5 => first | omega | (simp; omega)
                      all_goals try rfl
                      intro v' w9 hown' hgrow' _
                      obtain ⟨naq, ncq, rfl⟩ := own_shape4 hown'
                      have hkiq : KI w8 w9 := (KI.of_below ((Below.refl _ _).alloc (Nat.le_refl _) _)).trans (KI.grown ((unhide HO8).alloc _) (by decide) hgrow' hgrow'.size)
                      have hbq : Below w3.heap.size w8 w9 := ((Below.refl w3.heap.size _).alloc (by omega) _).grown hgrow' (by first | omega | (simp; omega)) (fun q hq => ((unhide HO8).lt q hq).1)
                      have HSCq : Hid (SideC n w w9 (N ++ [Y]) (Cs ++ [.slice by' (numsR n Y.1).length cy, .string (bs Y.2)])) := by
                        have := ((unhide HSC8).ki hkiq).snoc hclq (x := Y) (c := cy) ((unhide HIZ8).ki hkiq)
                        exact this
                      have HOq : Hid (w9.ownsRow w3.heap.size 78 2 (.slice naq (N.length + 1) ncq) (N ++ [Y]).length (Cs ++ [.slice by' (numsR n Y.1).length cy, .string (bs Y.2)])) := by
                        show World.ownsRow _ _ _ _ _ _ _
                        rw [List.length_append]
                        exact hown'
                      have HBq := hide ((unhide HB8).trans hbq)
                      have HKq := hide hkiq
                      have HGKq : Hid (∀ (g : Nat) (X : Obj), w8.heap[g]? = some X → (Value.slice na N.length nc).ownBlock ≠ some g → w9.heap[g]? = some X) := fun g X hX hne => by
                        rw [hgrow'.block g (by have := lt_of_block hX; first | omega | (simp; omega)) (fun e => hne e.symm), Below.heap_alloc _ _ _ (lt_of_block hX)]
                        exact hX
                      clear hown' hgrow' hkiq hbq hclq
                      go_wp2
                      go_roundw
                      case rel => exact ⟨i + 1, _, false, _, by omega, by go_num, rfl, unhide HIN, unhide HOq, unhide HSCq, unhide HBq⟩
                      case measure => simp [intOf]; omega
                | true =>
                  have hZe : addIf X Y = addV Y X := by unfold addIf; rw [htb]; rfl
                  have HZ := hide hZe
                  have hp7 := hide (unhide hpl w7 b7)
                  have hO7 := own_below2 (unhide HO4) b7
                  have hSC7 := (unhide HSC4).ki (KI.of_below b7)
                  have hB7 := (unhide HB4).trans (b7.mono (unhide HB4).size)
                  have y07 := cell_below y0 b7
                  have y17 := cell_below y1 b7
                  have x19 := cell_below x18 b7
                  have x29 := cell_below x28 b7
                  have hG7 := (b7.block gy (lt_of_block (unhide HGY))).trans (unhide HGY)
                  have HO7 := hide hO7
                  have HSC7 := hide hSC7
                  have HB7 := hide hB7
                  have HG7 := hide hG7
                  have hZn : (addV Y X).1 ≠ 0 := fun e => by
                    have h1 := addV_bit Y X (fb Y.1)
                    rw [hyself, hybit, e] at h1
                    simp at h1
                  have hZb : (addV Y X).1 < 2 ^ n := Nat.xor_lt_two_pow hybd hxbd
                  clear b7 htb hZe x18 x28 hO7 hSC7 hB7 hG7 y0 y1
                  go_wp2_with fail
                  refine (unhide hp7).mono ?_
                  rintro e w9 ⟨v9, rfl, hO9, b9⟩
                  obtain ⟨va, vc, rfl⟩ := own_shape4 hO9
                  have hG9 := (b9.block gy (lt_of_block (unhide HG7))).trans (unhide HG7)
                  have z0 := cell0_two hG9
                  have z1 := cell1_two hG9
                  have f0 := free_two (j := 0) hG9
                  have f1 := free_two (j := 1) hG9
                  have hG10 := heap_setCell_same _ _ 0 _ _ (.slice va (numsR n (addV Y X).1).length vc) hG9
                  have hG11 := heap_setCell_same _ _ 1 _ _ (.string (bs (addV Y X).2)) hG10
                  have hk10 : KI w9 (w9.setCell ⟨gy, 0, none⟩ (.slice va (numsR n (addV Y X).1).length vc)) := KI.set hG9 (by decide) _
                  have hk11 : KI (w9.setCell ⟨gy, 0, none⟩ (.slice va (numsR n (addV Y X).1).length vc)) ((w9.setCell ⟨gy, 0, none⟩ (.slice va (numsR n (addV Y X).1).length vc)).setCell ⟨gy, 1, none⟩ (.string (bs (addV Y X).2))) := KI.set hG10 (by decide) _
                  have hO9n := own_below2 (unhide HO7) b9
                  have hnb : (Value.slice na N.length nc).ownBlock ≠ some gy := fun e => by
                    have := unhide HNGY gy e
                    omega
                  have HOz : Hid (((w9.setCell ⟨gy, 0, none⟩ (.slice va (numsR n (addV Y X).1).length vc)).setCell ⟨gy, 1, none⟩ (.string (bs (addV Y X).2))).ownsRow w3.heap.size 78 2 (.slice na N.length nc) N.length Cs) := ownsRow_setCell_other (ownsRow_setCell_other hO9n hnb _) hnb _
                  have HSCz := hide ((((unhide HSC7).ki (KI.of_below b9)).ki hk10).ki hk11)
                  have HBz := hide ((((unhide HB7).trans (b9.mono (unhide HB7).size)).setCell (p := ⟨gy, 0, none⟩) hgyl (.slice va (numsR n (addV Y X).1).length vc)).setCell (p := ⟨gy, 1, none⟩) hgyl (.string (bs (addV Y X).2)))
                  have HIZ : Hid (IRow w ((w9.setCell ⟨gy, 0, none⟩ (.slice va (numsR n (addV Y X).1).length vc)).setCell ⟨gy, 1, none⟩ (.string (bs (addV Y X).2))) va (numsR n (addV Y X).1)) := (IRow.ki (.inr ⟨vc, own_mono hO9 (by have := (unhide HB7).size; have := (unhide HR).bel.size; omega)⟩) hk10).ki hk11
                  have HGZ : Hid (((w9.setCell ⟨gy, 0, none⟩ (.slice va (numsR n (addV Y X).1).length vc)).setCell ⟨gy, 1, none⟩ (.string (bs (addV Y X).2))).heap[gy]? = some (.cells #[.slice va (numsR n (addV Y X).1).length vc, .string (bs (addV Y X).2)] 78 (0, 0))) := hG11
                  clear hO9 b9 hG9 hG10 hG11 hk10 hk11 hO9n hnb y07 y17 x19 x29
                  go_wp2_with fail
                  generalize hwz : ((w9.setCell ⟨gy, 0, none⟩ (.slice va (numsR n (addV Y X).1).length vc)).setCell ⟨gy, 1, none⟩ (.string (bs (addV Y X).2))) = wz at *
                  have y0 := cell0_two (unhide HGZ)
                  have y1 := cell1_two (unhide HGZ)
                  clear hwz z0 z1 f0 f1
                  generalize hZe : addV Y X = Z at *
                  clear hZe
                  have hiZ := (unhide HIZ).ints ((unhide HR).bel.trans ((unhide HBz).mono (unhide HR).bel.size))
                  have hfz : Hid (∀ z : Gb wz, Calls Tryd.prog 48 #[.int .i64 n, .agg #[.slice va (numsR n Z.1).length vc, .string (bs Z.2)]] z.w fun e w' => e = .returned (.int .i64 (fb Z.1 : Int)) ∧ Below z.w.heap.size z.w w') := fun z => by
                    have := dfirst_any n Z hn hZb va vc z.w (hiZ.below z.ok)
                    have e : fstI n Z.1 = (fb Z.1 : Int) := by unfold fstI; rw [if_neg hZn]
                    rwa [e] at this
                  have hfx8 : Hid (∀ z : Gb wz, Calls Tryd.prog 48 #[.int .i64 n, .agg #[.slice bx lX cx, .string bX]] z.w fun e w' => e = .returned (.int .i64 (fb X.1 : Int)) ∧ Below z.w.heap.size z.w w') := fun z => unhide hfx z.w ((unhide HBz).trans (z.ok.mono (unhide HBz).size))
                  have gx1 := cell_below x1 (unhide HBz)
                  have gx2 := cell_below x2 (unhide HBz)
                  have HIXz := hide ((unhide HIX).ki (KI.of_below (unhide HBz)))
                  have hmap : Hid ((s.1.take (i + 1)).map (addIf X) = (s.1.take i).map (addIf X) ++ [Z]) := by
                    show _ = _
                    rw [List.take_succ_eq_append_getElem his, List.map_append, ← unhide HZ, ← (show gt s.1 i = s.1[i] by simp [gt, List.getD, his]), unhide HYe]
                    rfl
                  have hNl : N.length ≤ 500 := by
                    have h1 := hin.len
                    rw [List.length_map, List.length_take] at h1
                    omega
                  have HNLq : Hid (N.length ≤ 500) := hNl
                  have HNLr : Hid (N.length ≤ 500) := hNl
                  have HNLu : Hid ((N ++ [X]).length ≤ 501) := by show _ ≤ _; rw [List.length_append]; simp; omega
                  clear hiZ hNl
                  cases p with
                  | true =>
                    have HIN := hide (hin.put (y := Z))
                    rw [← unhide hmap] at HIN
                    clear hin
                    refine wp_region_gr (fun x => Below wz.heap.size wz x) (by kernel_rfl) (by kernel_rfl) (gb_start wz) ?_
                    have hne := gb_ne wz
                    have X1 : ∀ z : Gb wz, z.w.cell? ⟨gx, 0, none⟩ = _ := fun z => gb_cell gx1 z
                    have X2 : ∀ z : Gb wz, z.w.cell? ⟨gx, 1, none⟩ = _ := fun z => gb_cell gx2 z
                    have X4 : ∀ z : Gb wz, z.w.cell? ⟨gy, 0, none⟩ = _ := fun z => gb_cell y0 z
                    have X5 : ∀ z : Gb wz, z.w.cell? ⟨gy, 1, none⟩ = _ := fun z => gb_cell y1 z
                    repeat (go_big_quiet_step (fail))
                    refine wpQuiet_nil ?_
                    rintro w8 ⟨⟨w8, b8⟩, rfl⟩
                    have HO8 := hide (own_below2 (unhide HOz) b8)
                    have HSC8 := hide ((unhide HSCz).ki (KI.of_below b8))
                    have HB8 := hide ((unhide HBz).trans (b8.mono (unhide HBz).size))
                    have HIZ8 := hide ((unhide HIZ).ki (KI.of_below b8))
                    have HIX8 := hide ((unhide HIXz).ki (KI.of_below b8))
                    have y08 := cell_below y0 b8
                    have y18 := cell_below y1 b8
                    have gx18 := cell_below gx1 b8
                    have gx28 := cell_below gx2 b8
                    have HG8 := hide ((b8.block gy (lt_of_block (unhide HGZ))).trans (unhide HGZ))
                    clear X1 X2 X4 X5 hne b8 y0 y1 gx1 gx2
                    have hclq : Cs.length = N.length * 2 := by have := (unhide HO8).1; omega
                    have hnlq : N.length ≤ 1000 := by have := unhide HNLq; omega
                    have hbsq := (unhide HB8).size
                    go_wp2_with (at_builtin; refine wpList_append_own _ rfl _ _ 72 rfl w3.heap.size 78 i0 _ 2 40 Tryd.undSd hi0 hz0 hz1 hz2 rfl (by decide) _ _ _ rfl ((unhide HO8).alloc _) ⟨w8.heap.size, 0, none⟩ 1 1 [.slice va (numsR n Z.1).length vc, .string (bs Z.2)] rfl rfl (news_lit _ [_, _] _) ?d5_2 ?d5_3 ?d5_4 ?d5_5 ?_)
                    case d5_2 => first | rfl | exact ⟨rfl, rfl⟩ | (intro u hu; simp at hu; rcases hu with rfl | rfl <;> rfl)
                    case d5_3 => unfold maxLen; omega
                    case d5_4 => omega
                    case d5_5 => first | omega | (simp; omega)
                    all_goals try rfl
                    intro v' w9 hown' hgrow' _
                    obtain ⟨naq, ncq, rfl⟩ := own_shape4 hown'
                    have hkiq : KI w8 w9 := (KI.of_below ((Below.refl _ _).alloc (Nat.le_refl _) _)).trans (KI.grown ((unhide HO8).alloc _) (by decide) hgrow' hgrow'.size)
                    have hbq : Below w3.heap.size w8 w9 := ((Below.refl w3.heap.size _).alloc (by omega) _).grown hgrow' (by first | omega | (simp; omega)) (fun q hq => ((unhide HO8).lt q hq).1)
                    have HSCq : Hid (SideC n w w9 (N ++ [Z]) (Cs ++ [.slice va (numsR n Z.1).length vc, .string (bs Z.2)])) := by
                      have := ((unhide HSC8).ki hkiq).snoc hclq (x := Z) (c := vc) ((unhide HIZ8).ki hkiq)
                      exact this
                    have HOq : Hid (w9.ownsRow w3.heap.size 78 2 (.slice naq (N.length + 1) ncq) (N ++ [Z]).length (Cs ++ [.slice va (numsR n Z.1).length vc, .string (bs Z.2)])) := by
                      show World.ownsRow _ _ _ _ _ _ _
                      rw [List.length_append]
                      exact hown'
                    have HBq := hide ((unhide HB8).trans hbq)
                    have HKq := hide hkiq
                    have HGKq : Hid (∀ (g : Nat) (X : Obj), w8.heap[g]? = some X → (Value.slice na N.length nc).ownBlock ≠ some g → w9.heap[g]? = some X) := fun g X hX hne => by
                      rw [hgrow'.block g (by have := lt_of_block hX; first | omega | (simp; omega)) (fun e => hne e.symm), Below.heap_alloc _ _ _ (lt_of_block hX)]
                      exact hX
                    clear hown' hgrow' hkiq hbq hclq
                    go_wp2
                    go_roundw
                    case rel => exact ⟨i + 1, _, true, _, by omega, by go_num, rfl, unhide HIN, unhide HOq, unhide HSCq, unhide HBq⟩
                    case measure => simp [intOf]; omega
                  | false =>
                    by_cases hlz : fb X.1 < fb Z.1
                    · have HIN := hide (hin.now (y := Z) hlz)
                      rw [← unhide hmap] at HIN
                      have v1 : (fb X.1 : Int) < (fb Z.1 : Int) := by omega
                      have v2 : decide ((fb X.1 : Int) < (fb Z.1 : Int)) = true := decide_eq_true v1
                      have v3 : decide (fb X.1 < fb Z.1) = true := decide_eq_true hlz
                      clear hin
                      refine wp_region_gr (fun x => Below wz.heap.size wz x) (by kernel_rfl) (by kernel_rfl) (gb_start wz) ?_
                      have hne := gb_ne wz
                      have X1 : ∀ z : Gb wz, z.w.cell? ⟨gx, 0, none⟩ = _ := fun z => gb_cell gx1 z
                      have X2 : ∀ z : Gb wz, z.w.cell? ⟨gx, 1, none⟩ = _ := fun z => gb_cell gx2 z
                      have X4 : ∀ z : Gb wz, z.w.cell? ⟨gy, 0, none⟩ = _ := fun z => gb_cell y0 z
                      have X5 : ∀ z : Gb wz, z.w.cell? ⟨gy, 1, none⟩ = _ := fun z => gb_cell y1 z
                      iterate 6 (go_big_quiet_step ((go_at_call 48; exact gb_call (unhide hfx8 _))))
                      repeat (go_big_quiet_step ((go_at_call 48; exact gb_call (unhide hfz _))))
                      refine wpQuiet_nil ?_
                      rintro w8 ⟨⟨w8, b8⟩, rfl⟩
                      have HO8 := hide (own_below2 (unhide HOz) b8)
                      have HSC8 := hide ((unhide HSCz).ki (KI.of_below b8))
                      have HB8 := hide ((unhide HBz).trans (b8.mono (unhide HBz).size))
                      have HIZ8 := hide ((unhide HIZ).ki (KI.of_below b8))
                      have HIX8 := hide ((unhide HIXz).ki (KI.of_below b8))
                      have y08 := cell_below y0 b8
                      have y18 := cell_below y1 b8
                      have gx18 := cell_below gx1 b8
                      have gx28 := cell_below gx2 b8
                      have HG8 := hide ((b8.block gy (lt_of_block (unhide HGZ))).trans (unhide HGZ))
                      clear X1 X2 X4 X5 hne b8 y0 y1 gx1 gx2
                      have hclr : Cs.length = N.length * 2 := by have := (unhide HO8).1; omega
                      have hnlr : N.length ≤ 1000 := by have := unhide HNLr; omega
                      have hbsr := (unhide HB8).size
                      go_wp2_with (at_builtin; refine wpList_append_own _ rfl _ _ 72 rfl w3.heap.size 78 i0 _ 2 40 Tryd.undSd hi0 hz0 hz1 hz2 rfl (by decide) _ _ _ rfl ((unhide HO8).alloc _) ⟨w8.heap.size, 0, none⟩ 1 1 [.slice bx lX cx, .string bX] rfl rfl (news_lit _ [_, _] _) ?d6_2 ?d6_3 ?d6_4 ?d6_5 ?_)
                      case d6_2 => first | rfl | exact ⟨rfl, rfl⟩ | (intro u hu; simp at hu; rcases hu with rfl | rfl <;> rfl)
                      case d6_3 => unfold maxLen; omega
                      case d6_4 => omega
                      case d6_5 => first | omega | (simp; omega)
                      all_goals try rfl
                      intro v' w9 hown' hgrow' _
                      obtain ⟨nar, ncr, rfl⟩ := own_shape4 hown'
                      have hkir : KI w8 w9 := (KI.of_below ((Below.refl _ _).alloc (Nat.le_refl _) _)).trans (KI.grown ((unhide HO8).alloc _) (by decide) hgrow' hgrow'.size)
                      have hbr : Below w3.heap.size w8 w9 := ((Below.refl w3.heap.size _).alloc (by omega) _).grown hgrow' (by first | omega | (simp; omega)) (fun q hq => ((unhide HO8).lt q hq).1)
                      have HSCr : Hid (SideC n w w9 (N ++ [X]) (Cs ++ [.slice bx lX cx, .string bX])) := by
                        have := ((unhide HSC8).ki hkir).snoc hclr (x := X) (c := cx) ((unhide HIX8).ki hkir)
                        rw [unhide HLX, unhide HBX] at this
                        exact this
                      have HOr : Hid (w9.ownsRow w3.heap.size 78 2 (.slice nar (N.length + 1) ncr) (N ++ [X]).length (Cs ++ [.slice bx lX cx, .string bX])) := by
                        show World.ownsRow _ _ _ _ _ _ _
                        rw [List.length_append]
                        exact hown'
                      have HBr := hide ((unhide HB8).trans hbr)
                      have HKr := hide hkir
                      have HGKr : Hid (∀ (g : Nat) (X : Obj), w8.heap[g]? = some X → (Value.slice na N.length nc).ownBlock ≠ some g → w9.heap[g]? = some X) := fun g X hX hne => by
                        rw [hgrow'.block g (by have := lt_of_block hX; first | omega | (simp; omega)) (fun e => hne e.symm), Below.heap_alloc _ _ _ (lt_of_block hX)]
                        exact hX
                      clear hown' hgrow' hkir hbr hclr
                      have HIZ9 := hide ((unhide HIZ8).ki (unhide HKr))
                      have hG9y := unhide HGKr gy _ (unhide HG8) (fun e => by have := unhide HNGY gy e; omega)
                      have y09 := cell0_two hG9y
                      have y19 := cell1_two hG9y
                      clear y08 y18 gx18 gx28 hG9y
                      have hclu : (Cs ++ [Value.slice bx lX cx, Value.string bX]).length = (N ++ [X]).length * 2 := by have := (unhide HOr).1; omega
                      have hnlu : (N ++ [X]).length ≤ 1000 := by have := unhide HNLu; omega
                      have hbsu := (unhide HBr).size
                      go_wp2_with (at_builtin; refine wpList_append_own _ rfl _ _ 72 rfl w3.heap.size 78 i0 _ 2 40 Tryd.undSd hi0 hz0 hz1 hz2 rfl (by decide) _ _ _ rfl ((unhide HOr).alloc _) ⟨w9.heap.size, 0, none⟩ 1 1 [.slice va (numsR n Z.1).length vc, .string (bs Z.2)] rfl rfl (news_lit _ [_, _] _) ?d7_2 ?d7_3 ?d7_4 ?d7_5 ?_)
                      case d7_2 => first | rfl | exact ⟨rfl, rfl⟩ | (intro u hu; simp at hu; rcases hu with rfl | rfl <;> rfl)
                      case d7_3 => unfold maxLen; omega
                      case d7_4 => omega
                      case d7_5 => first | omega | (simp; omega)
                      all_goals try rfl
                      intro v' w10 hown' hgrow' _
                      obtain ⟨nau, ncu, rfl⟩ := own_shape4 hown'
                      have hkiu : KI w9 w10 := (KI.of_below ((Below.refl _ _).alloc (Nat.le_refl _) _)).trans (KI.grown ((unhide HOr).alloc _) (by decide) hgrow' hgrow'.size)
                      have hbu : Below w3.heap.size w9 w10 := ((Below.refl w3.heap.size _).alloc (by omega) _).grown hgrow' (by first | omega | (simp; omega)) (fun q hq => ((unhide HOr).lt q hq).1)
                      have HSCu : Hid (SideC n w w10 ((N ++ [X]) ++ [Z]) ((Cs ++ [Value.slice bx lX cx, Value.string bX]) ++ [.slice va (numsR n Z.1).length vc, .string (bs Z.2)])) := by
                        have := ((unhide HSCr).ki hkiu).snoc hclu (x := Z) (c := vc) ((unhide HIZ9).ki hkiu)
                        exact this
                      have HOu : Hid (w10.ownsRow w3.heap.size 78 2 (.slice nau (N.length + 1 + 1) ncu) ((N ++ [X]) ++ [Z]).length ((Cs ++ [Value.slice bx lX cx, Value.string bX]) ++ [.slice va (numsR n Z.1).length vc, .string (bs Z.2)])) := by
                        show World.ownsRow _ _ _ _ _ _ _
                        rw [show (N ++ [X] ++ [Z]).length = N.length + 1 + 1 by simp, List.append_assoc]
                        exact hown'
                      have HBu := hide ((unhide HBr).trans hbu)
                      have HKu := hide hkiu
                      have HGKu : Hid (∀ (g : Nat) (X : Obj), w9.heap[g]? = some X → (Value.slice nar (N.length + 1) ncr).ownBlock ≠ some g → w10.heap[g]? = some X) := fun g X hX hne => by
                        rw [hgrow'.block g (by have := lt_of_block hX; first | omega | (simp; omega)) (fun e => hne e.symm), Below.heap_alloc _ _ _ (lt_of_block hX)]
                        exact hX
                      clear hown' hgrow' hkiu hbu hclu
                      go_wp2
                      go_roundw
                      case rel => exact ⟨i + 1, _, true, _, by omega, by go_num, rfl, unhide HIN, unhide HOu, unhide HSCu, unhide HBu⟩
                      case measure => simp [intOf]; omega
                    · have HIN := hide (hin.not (y := Z) hlz)
                      rw [← unhide hmap] at HIN
                      have v1 : ¬ (fb X.1 : Int) < (fb Z.1 : Int) := by omega
                      have v2 : decide ((fb X.1 : Int) < (fb Z.1 : Int)) = false := decide_eq_false v1
                      have v3 : decide (fb X.1 < fb Z.1) = false := decide_eq_false hlz
                      clear hin
                      refine wp_region_gr (fun x => Below wz.heap.size wz x) (by kernel_rfl) (by kernel_rfl) (gb_start wz) ?_
                      have hne := gb_ne wz
                      have X1 : ∀ z : Gb wz, z.w.cell? ⟨gx, 0, none⟩ = _ := fun z => gb_cell gx1 z
                      have X2 : ∀ z : Gb wz, z.w.cell? ⟨gx, 1, none⟩ = _ := fun z => gb_cell gx2 z
                      have X4 : ∀ z : Gb wz, z.w.cell? ⟨gy, 0, none⟩ = _ := fun z => gb_cell y0 z
                      have X5 : ∀ z : Gb wz, z.w.cell? ⟨gy, 1, none⟩ = _ := fun z => gb_cell y1 z
                      iterate 6 (go_big_quiet_step ((go_at_call 48; exact gb_call (unhide hfx8 _))))
                      repeat (go_big_quiet_step ((go_at_call 48; exact gb_call (unhide hfz _))))
                      refine wpQuiet_nil ?_
                      rintro w8 ⟨⟨w8, b8⟩, rfl⟩
                      have HO8 := hide (own_below2 (unhide HOz) b8)
                      have HSC8 := hide ((unhide HSCz).ki (KI.of_below b8))
                      have HB8 := hide ((unhide HBz).trans (b8.mono (unhide HBz).size))
                      have HIZ8 := hide ((unhide HIZ).ki (KI.of_below b8))
                      have HIX8 := hide ((unhide HIXz).ki (KI.of_below b8))
                      have y08 := cell_below y0 b8
                      have y18 := cell_below y1 b8
                      have gx18 := cell_below gx1 b8
                      have gx28 := cell_below gx2 b8
                      have HG8 := hide ((b8.block gy (lt_of_block (unhide HGZ))).trans (unhide HGZ))
                      clear X1 X2 X4 X5 hne b8 y0 y1 gx1 gx2
                      have hclq : Cs.length = N.length * 2 := by have := (unhide HO8).1; omega
                      have hnlq : N.length ≤ 1000 := by have := unhide HNLq; omega
                      have hbsq := (unhide HB8).size
                      go_wp2_with (at_builtin; refine wpList_append_own _ rfl _ _ 72 rfl w3.heap.size 78 i0 _ 2 40 Tryd.undSd hi0 hz0 hz1 hz2 rfl (by decide) _ _ _ rfl ((unhide HO8).alloc _) ⟨w8.heap.size, 0, none⟩ 1 1 [.slice va (numsR n Z.1).length vc, .string (bs Z.2)] rfl rfl (news_lit _ [_, _] _) ?d8_2 ?d8_3 ?d8_4 ?d8_5 ?_)
                      case d8_2 => first | rfl | exact ⟨rfl, rfl⟩ | (intro u hu; simp at hu; rcases hu with rfl | rfl <;> rfl)
                      case d8_3 => unfold maxLen; omega
                      case d8_4 => omega
                      case d8_5 => first | omega | (simp; omega)
                      all_goals try rfl
                      intro v' w9 hown' hgrow' _
                      obtain ⟨naq, ncq, rfl⟩ := own_shape4 hown'
                      have hkiq : KI w8 w9 := (KI.of_below ((Below.refl _ _).alloc (Nat.le_refl _) _)).trans (KI.grown ((unhide HO8).alloc _) (by decide) hgrow' hgrow'.size)
                      have hbq : Below w3.heap.size w8 w9 := ((Below.refl w3.heap.size _).alloc (by omega) _).grown hgrow' (by first | omega | (simp; omega)) (fun q hq => ((unhide HO8).lt q hq).1)
                      have HSCq : Hid (SideC n w w9 (N ++ [Z]) (Cs ++ [.slice va (numsR n Z.1).length vc, .string (bs Z.2)])) := by
                        have := ((unhide HSC8).ki hkiq).snoc hclq (x := Z) (c := vc) ((unhide HIZ8).ki hkiq)
                        exact this
                      have HOq : Hid (w9.ownsRow w3.heap.size 78 2 (.slice naq (N.length + 1) ncq) (N ++ [Z]).length (Cs ++ [.slice va (numsR n Z.1).length vc, .string (bs Z.2)])) := by
                        show World.ownsRow _ _ _ _ _ _ _
                        rw [List.length_append]
                        exact hown'
                      have HBq := hide ((unhide HB8).trans hbq)
                      have HKq := hide hkiq
                      have HGKq : Hid (∀ (g : Nat) (X : Obj), w8.heap[g]? = some X → (Value.slice na N.length nc).ownBlock ≠ some g → w9.heap[g]? = some X) := fun g X hX hne => by
                        rw [hgrow'.block g (by have := lt_of_block hX; first | omega | (simp; omega)) (fun e => hne e.symm), Below.heap_alloc _ _ _ (lt_of_block hX)]
                        exact hX
                      clear hown' hgrow' hkiq hbq hclq
                      go_wp2
                      go_roundw
                      case rel => exact ⟨i + 1, _, false, _, by omega, by go_num, rfl, unhide HIN, unhide HOq, unhide HSCq, unhide HBq⟩
                      case measure => simp [intOf]; omega
              · have hil' : i = j := by omega
                subst hil'
                have q20 : ¬ (i : Int) < i := by omega
                have htk2 : s.1.take i = s.1 := List.take_of_length_le (by rw [unhide HLS]; exact Nat.le_refl _)
                rw [htk2] at hin
                have hfin2 := hin.fin
                have hNl : N.length ≤ 500 := by
                  have h1 := hin.len
                  rw [List.length_map, unhide HLS] at h1
                  omega
                have HNLq : Hid (N.length ≤ 500) := hNl
                have HO8 := hide hO
                have HSC8 := hide hSC
                have HB8 := hide hB
                have gx18 := cell_below x1 hB
                have gx28 := cell_below x2 hB
                have b17 := cell_below b1 hB
                have HIX8 := hide ((unhide HIX).ki (KI.of_below hB))
                clear hin hO hSC hB htk2 hNl hbs
                cases p with
                | true =>
                  have HE : Hid (docN (L.take (k + 1)) = (N, s.2)) := by
                    show _ = _
                    rw [unhide HS2, hfin2]
                    rfl
                  have hRz := (unhide HR).below (unhide HB8)
                  have HRZ := hide (hRz.setL (own_mono (unhide HO8) hws) (unhide HSC8))
                  have f50 := free_two (j := 0) hRz.box
                  have c50 := cell0_two hRz.box
                  rw [← unhide HE] at HRZ
                  clear hRz hfin2 gx18 gx28
                  go_wp2
                  go_roundw
                  case rel => exact ⟨k + 1, _, _, by omega, by go_num, unhide HRZ⟩
                  case measure => simp [intOf]; omega
                | false =>
                  have HE : Hid (docN (L.take (k + 1)) = (N ++ [X], s.2)) := by
                    show _ = _
                    rw [unhide HS2, hfin2]
                    rfl
                  clear hfin2
                  have hclq : Cs.length = N.length * 2 := by have := (unhide HO8).1; omega
                  have hnlq : N.length ≤ 1000 := by have := unhide HNLq; omega
                  have hbsq := (unhide HB8).size
                  go_wp2_with (at_builtin; refine wpList_append_own _ rfl _ _ 72 rfl w3.heap.size 78 i0 _ 2 40 Tryd.undSd hi0 hz0 hz1 hz2 rfl (by decide) _ _ _ rfl ((unhide HO8).alloc _) ⟨wr.heap.size, 0, none⟩ 1 1 [.slice bx lX cx, .string bX] rfl rfl (news_lit _ [_, _] _) ?d9_2 ?d9_3 ?d9_4 ?d9_5 ?_)
                  case d9_2 => first | rfl | exact ⟨rfl, rfl⟩ | (intro u hu; simp at hu; rcases hu with rfl | rfl <;> rfl)
                  case d9_3 => unfold maxLen; omega
                  case d9_4 => omega
                  case d9_5 => first | omega | (simp; omega)
                  all_goals try rfl
                  intro v' w9 hown' hgrow' _
                  obtain ⟨naq, ncq, rfl⟩ := own_shape4 hown'
                  have hkiq : KI wr w9 := (KI.of_below ((Below.refl _ _).alloc (Nat.le_refl _) _)).trans (KI.grown ((unhide HO8).alloc _) (by decide) hgrow' hgrow'.size)
                  have hbq : Below w3.heap.size wr w9 := ((Below.refl w3.heap.size _).alloc (by omega) _).grown hgrow' (by first | omega | (simp; omega)) (fun q hq => ((unhide HO8).lt q hq).1)
                  have HSCq : Hid (SideC n w w9 (N ++ [X]) (Cs ++ [.slice bx lX cx, .string bX])) := by
                    have := ((unhide HSC8).ki hkiq).snoc hclq (x := X) (c := cx) ((unhide HIX8).ki hkiq)
                    rw [unhide HLX, unhide HBX] at this
                    exact this
                  have HOq : Hid (w9.ownsRow w3.heap.size 78 2 (.slice naq (N.length + 1) ncq) (N ++ [X]).length (Cs ++ [.slice bx lX cx, .string bX])) := by
                    show World.ownsRow _ _ _ _ _ _ _
                    rw [List.length_append]
                    exact hown'
                  have HBq := hide ((unhide HB8).trans hbq)
                  have HKq := hide hkiq
                  have HGKq : Hid (∀ (g : Nat) (X : Obj), wr.heap[g]? = some X → (Value.slice na N.length nc).ownBlock ≠ some g → w9.heap[g]? = some X) := fun g X hX hne => by
                    rw [hgrow'.block g (by have := lt_of_block hX; first | omega | (simp; omega)) (fun e => hne e.symm), Below.heap_alloc _ _ _ (lt_of_block hX)]
                    exact hX
                  clear hown' hgrow' hkiq hbq hclq
                  have hRz := (unhide HR).below (unhide HBq)
                  have HRZ := hide (hRz.setL (own_mono (unhide HOq) hws) (unhide HSCq))
                  have f50 := free_two (j := 0) hRz.box
                  have c50 := cell0_two hRz.box
                  clear hRz gx18 gx28
                  rw [← unhide HE] at HRZ
                  go_wp2
                  go_roundw
                  case rel => exact ⟨k + 1, _, _, by omega, by go_num, unhide HRZ⟩
                  case measure => simp [intOf]; omega
    · have hkM : k = M := by omega
      subst hkM
      have q1 : ¬ (k : Int) < k := by omega
      have hfin := unhide HFIN
      rw [hfin] at hR hli0 hl1 hdi
      obtain ⟨Cs, hL1, hL2⟩ := hR.li
      have f0 := free_two (j := 0) hR.res
      have f1 := free_two (j := 1) hR.res
      have e0 := cell0_two hR.res
      have e1 := cell1_two hR.res
      have d0 := cell0_two hR.box
      have d1 := cell1_two hR.box
      have hr1 := heap_setCell_same _ _ 0 _ _ (.slice la (docN L).1.length lc) hR.res
      have hr2 := heap_setCell_same _ _ 1 _ _ (.slice ea (docN L).2.length ec) hr1
      have hk1 : KI wr (wr.setCell ⟨w.heap.size, 0, none⟩ (.slice la (docN L).1.length lc)) := KI.set hR.res (by decide) _
      have hk2 : KI (wr.setCell ⟨w.heap.size, 0, none⟩ (.slice la (docN L).1.length lc)) ((wr.setCell ⟨w.heap.size, 0, none⟩ (.slice la (docN L).1.length lc)).setCell ⟨w.heap.size, 1, none⟩ (.slice ea (docN L).2.length ec)) := KI.set hr1 (by decide) _
      have HX : Hid ((∃ Cs, ((wr.setCell ⟨w.heap.size, 0, none⟩ (.slice la (docN L).1.length lc)).setCell ⟨w.heap.size, 1, none⟩ (.slice ea (docN L).2.length ec)).ownsRow w.heap.size 78 2 (.slice la (docN L).1.length lc) (docN L).1.length Cs ∧ SideC n w ((wr.setCell ⟨w.heap.size, 0, none⟩ (.slice la (docN L).1.length lc)).setCell ⟨w.heap.size, 1, none⟩ (.slice ea (docN L).2.length ec)) (docN L).1 Cs) ∧ ((wr.setCell ⟨w.heap.size, 0, none⟩ (.slice la (docN L).1.length lc)).setCell ⟨w.heap.size, 1, none⟩ (.slice ea (docN L).2.length ec)).ownsRow w.heap.size 9 1 (.slice ea (docN L).2.length ec) (docN L).2.length (sc (docN L).2) ∧ Below w.heap.size w ((wr.setCell ⟨w.heap.size, 0, none⟩ (.slice la (docN L).1.length lc)).setCell ⟨w.heap.size, 1, none⟩ (.slice ea (docN L).2.length ec))) :=
        ⟨⟨Cs, own_mono (ownsRow_setCell_below (ownsRow_setCell_below hL1 (by simp) _) (by simp) _) (by omega), (hL2.ki hk1).ki hk2⟩, own_mono (ownsRow_setCell_below (ownsRow_setCell_below hR.em (by simp) _) (by simp) _) (by omega), (hR.bel.setCell (p := ⟨w.heap.size, 0, none⟩) (Nat.le_refl _) _).setCell (p := ⟨w.heap.size, 1, none⟩) (Nat.le_refl _) _⟩
      have HRS := hide hr2
      clear hR hli0 hl1 hdi hL1 hL2 hr1 hr2 hk1 hk2 hfin
      go_wp2
      refine ret_cell rfl w.heap.size 74 #[.slice la (docN L).1.length lc, .slice ea (docN L).2.length ec] (0, 0) _ rfl (unhide HRS) rfl Tryd.underlying74 (by kernel_rfl) ⟨_, _, rfl, unhide HX⟩
end Go.Proofs.YtpcndjnhpjhjkaaDoor

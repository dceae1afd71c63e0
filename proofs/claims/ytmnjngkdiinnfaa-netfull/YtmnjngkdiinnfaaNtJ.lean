/- NetFull: the walk. -/
import Derived.Test.YtmnjngkdiinnfaaNtI
namespace Go.Proofs.Ytmnjngkdiinnfaa
open Go.RowKit
set_option linter.unusedVariables false
attribute [local go_sem] Oper.semAt_some

set_option maxRecDepth 100000 in
set_option maxHeartbeats 4000000 in
theorem netFull_any (room which : Int) (hr : -9223372036854775808 ≤ room ∧ room ≤ 9223372036854775807) (hw : -9223372036854775808 ≤ which ∧ which ≤ 9223372036854775807) (w : World) :
    Calls Try.prog 5 #[.int .i64 room, .int .i64 which] w fun e w' => e = .returned (.bool true) ∧ Below w.heap.size w w' := by
  obtain ⟨u, hu⟩ : ∃ u, room.tmod 600 = u := ⟨_, rfl⟩
  have hu1 : -600 < u ∧ u < 600 := by rw [← hu]; exact ⟨by have := Int.lt_tmod_of_pos room (b := 600) (by omega); omega, by have := Int.tmod_lt_of_pos room (b := 600) (by omega); omega⟩
  obtain ⟨v, hv⟩ : ∃ v, (u + 600).tmod 600 = v := ⟨_, rfl⟩
  have hv1 : 0 ≤ v ∧ v < 600 := by rw [← hv]; exact ⟨Int.tmod_nonneg _ (by omega), Int.tmod_lt_of_pos _ (by omega)⟩
  obtain ⟨R, hR⟩ : ∃ R : Nat, 1 + v = (R : Int) := ⟨(1 + v).toNat, by omega⟩
  have hR1 : 1 ≤ R ∧ R ≤ 600 := by omega
  obtain ⟨p, hp⟩ : ∃ p, which.tmod R = p := ⟨_, rfl⟩
  have hp1 : -(R : Int) < p ∧ p < R := by rw [← hp]; exact ⟨Int.lt_tmod_of_pos which (b := (R : Int)) (by omega), Int.tmod_lt_of_pos which (b := (R : Int)) (by omega)⟩
  obtain ⟨q, hq⟩ : ∃ q : Nat, (p + R).tmod R = (q : Int) := ⟨((p + R).tmod R).toNat, by have := Int.tmod_nonneg (R : Int) (a := p + R) (by omega); omega⟩
  have hq1 : q < R := by have := Int.tmod_lt_of_pos (p + R) (b := (R : Int)) (by omega); omega
  have r0 : ((R : Int) == 0) = false := by simp; omega
  have r1 : (R == 0) = false := by simp; omega
  have r2 : ¬ (R : Int) = 0 := by omega
  have h1 := hide (nnew R w (by omega))
  have HU := hide hu1
  go_enter Try.func5, Try.ntmps5
  go_wp2_with fail
  refine (unhide h1).mono ?_
  rintro e w1 ⟨⟨b, rfl, n1⟩, b1⟩
  have N1 := hide n1
  have B1 := hide b1
  clear n1 b1 h1
  go_wp2_with fail
  refine (nawake_any _).mono ?_
  rintro e w2 ⟨rfl, b2⟩
  have N2 := hide ((unhide N1).kept b2)
  have B2 := hide ((unhide B1).trans (b2.mono (unhide B1).size))
  clear b2 N1 B1 hu hv hp hq hr hw hv1 hp1
  go_wp2_with fail
  go_loopw [6] (fun iv wr => ∃ (i : Nat), i ≤ R ∧ iv = .int .i64 i ∧ Nt wr w.heap.size b R i (gL i) ∧ Below w.heap.size w wr) (fun iv _ => R - (intOf iv).toNat)
  case atStart => exact ⟨0, by omega, rfl, unhide N2, unhide B2⟩
  case round =>
    clear N2 B2
    obtain ⟨i, hi, rfl, hn, hb⟩ := hrel
    have N := hide hn
    have HB := hide hb
    clear hn hb
    by_cases hlt : i < R
    · have q1 : (i : Int) < R := by omega
      obtain ⟨s1, s2, s3, s4⟩ := gsend R i hlt
      have hs := hide (fun w' (h : Nt w' w.heap.size b R i (gL i)) => nsend w.heap.size b R i (gL i) (gmI i) w' h (show (1 : Nat) ≤ maxLen by decide) (by omega))
      rw [s1, s2, s3, s4] at hs
      clear s1 s2 s3 s4
      go_wp2_with fail
      refine (gram_any i (by omega) (by omega) wr).mono ?_
      rintro e w3 ⟨rfl, b3⟩
      have N3 := hide ((unhide N).kept b3)
      have B3 := hide ((unhide HB).trans (b3.mono (unhide HB).size))
      clear b3 N HB
      go_wp2_with fail
      refine (unhide hs w3 (unhide N3)).mono ?_
      rintro e w4 ⟨rfl, n4, k4⟩
      have N4 := hide n4
      have B4 := hide ((unhide B3).trans (k4.below (unhide B3).size))
      clear n4 k4 hs N3 B3
      go_wp2
      go_roundw
      case rel => exact ⟨i + 1, by omega, by go_num, by have := unhide N4; rw [show ((i + 1 : Nat) : Int) = (i : Int) + 1 by omega]; exact this, unhide B4⟩
      case measure => simp [intOf]; omega
    · obtain rfl : i = R := by omega
      have q1 : ¬ (i : Int) < i := by omega
      obtain ⟨s1, s2, s3, s4⟩ := gfull i i (gL i) (gL_len i)
      have hs := hide (fun w' (h : Nt w' w.heap.size b i i (gL i)) => nsend w.heap.size b i i (gL i) (gmI 0) w' h (by decide) (by omega))
      rw [s1, s2, s3, s4] at hs
      have hf1 : (fM (gL i) 1).isSome = true := by have := gL_find i 0 (by omega); rw [show ((0 : Nat) : Int) + 1 = 1 by rfl] at this; rw [this]; rfl
      obtain ⟨t1, t2, t3, t4⟩ := tw_full (room := i) (last := i) (gL_good i) hf1 (by rw [gL_len])
      have ht := hide (fun w' (h : Nt w' w.heap.size b i i (gL i)) => ntwice w.heap.size b i i (gL i) 1 (by decide) (by omega) w' h)
      rw [t1, t2, t3, t4] at ht
      have hn := hide (fun w' (h : Nt w' w.heap.size b i i (gL i)) => nnth w.heap.size b i i (gL i) q (by omega) w' h)
      rw [gL_nth i q hq1] at hn
      have hk := hide (fun w' (h : Nt w' w.heap.size b i i (gL i)) => ntake w.heap.size b i i (gL i) ((q : Int) + 1) (WalkArith.wf_i64 (by omega)) w' h)
      have hg1 : tkG (gL i) ((q : Int) + 1) = { gmI q with id := (q : Int) + 1 } := by unfold tkG; rw [gL_find i q hq1]; rfl
      have hg2 : tkE (gL i) ((q : Int) + 1) = 0 := by unfold tkE; rw [gL_find i q hq1]; rfl
      rw [hg1, hg2] at hk
      have hless := gL_less i q hq1
      obtain ⟨rs, hrs⟩ : ∃ rs, rs = tkL (gL i) ((q : Int) + 1) := ⟨_, rfl⟩
      rw [← hrs] at hk hless
      have hgood : ∀ r ∈ rs, mayG r.fr r.to r.tx.size = true := by
        intro r hr
        rw [hrs] at hr
        exact gL_good i r (List.mem_filter.1 hr).1
      clear s1 s2 s3 s4 t1 t2 t3 t4 hf1 hg1 hg2
      have HGO := hide hgood
      have HLE := hide hless
      clear hgood hless hrs
      go_wp2_with fail
      refine (gram_any 0 (by omega) (by omega) wr).mono ?_
      rintro e w3 ⟨rfl, b3⟩
      have N3 := hide ((unhide N).kept b3)
      have B3 := hide ((unhide HB).trans (b3.mono (unhide HB).size))
      clear b3 N HB
      go_wp2_with fail
      refine (unhide hs w3 (unhide N3)).mono ?_
      rintro e w4 ⟨rfl, n4, k4⟩
      have N4 := hide n4
      have B4 := hide ((unhide B3).trans (k4.below (unhide B3).size))
      clear n4 k4 hs N3 B3
      go_wp2_with fail
      refine (unhide ht w4 (unhide N4)).mono ?_
      rintro e w5 ⟨rfl, n5, k5⟩
      have N5 := hide n5
      have B5 := hide ((unhide B4).trans (k5.below (unhide B4).size))
      clear n5 k5 ht N4 B4
      go_wp2_with fail
      refine (unhide hn w5 (unhide N5)).mono ?_
      rintro e w6 ⟨rfl, b6⟩
      have N6 := hide ((unhide N5).kept b6)
      have B6 := hide ((unhide B5).trans (b6.mono (unhide B5).size))
      clear b6 hn N5 B5
      go_wp2_with fail
      refine (unhide hk w6 (unhide N6)).mono ?_
      rintro e w7 ⟨rfl, n7, k7⟩
      have N7 := hide n7
      have B7 := hide ((unhide B6).trans (k7.below (unhide B6).size))
      clear n7 k7 hk N6 B6
      have HZ := hide (heap_alloc_new w7 (.cells (gmC zM) 30))
      have HG := hide (newGm w7 zM { gmI q with id := (q : Int) + 1 })
      have HI := hide (gm_info { gmI q with id := (q : Int) + 1 })
      have HA := hide (gm_all { gmI q with id := (q : Int) + 1 })
      go_wp2_with (refine wpList_store_row_to rfl 30 (.tmp 13) (.tmp 74) rfl w7.heap.size (gmC { gmI q with id := (q : Int) + 1 }) rfl rfl 30 (gmC zM) (unhide HZ) (unhide HI) rfl (unhide HA) (NewGm w7 { gmI q with id := (q : Int) + 1 }) (unhide HG) ?_)
      intro w8 h8
      have N8 := hide ((unhide N7).kept h8.be)
      have B8 := hide ((unhide B7).trans (h8.be.mono (unhide B7).size))
      have X8 := hide h8.blk
      clear h8 HZ HG HI HA N7 B7
      have hn0 := hide (fun w' (h : Nt w' w.heap.size b i i rs) => nnth w.heap.size b i i rs 0 (by omega) w' h)
      by_cases hi1 : i = 1
      · subst hi1
        obtain rfl : rs = [] := List.length_eq_zero_iff.1 (by have := unhide HLE; omega)
        rw [show nthI [] 0 = 0 by rfl] at hn0
        have ht := hide (fun w' (h : Nt w' w.heap.size b 1 1 []) => ntwice w.heap.size b 1 1 [] 0 (by decide) (by omega) w' h)
        rw [show twI 1 1 [] 0 = 0 by rfl, show twE 1 [] 0 = 4 by rfl, show twT 1 1 [] 0 = 1 by rfl, show twL 1 1 [] 0 = [] by rfl] at ht
        have hs := hide (fun w' (h : Nt w' w.heap.size b 1 1 []) => nsend w.heap.size b 1 1 [] (gmI 0) w' h (show (1 : Nat) ≤ maxLen by decide) (by omega))
        rw [show sndI 1 1 [] (gmI 0) = 2 by decide, show sndE 1 [] (gmI 0) = 0 by decide, show sndT 1 1 [] (gmI 0) = 2 by decide] at hs
        have HLN : Hid ((sndL 1 1 [] (gmI 0)).length = 1) := by show _ = _; rfl
        generalize sndL 1 1 [] (gmI 0) = sl at *
        go_wp2_with fail
        refine (unhide hn0 w8 (unhide N8)).mono ?_
        rintro e w9 ⟨rfl, b9⟩
        have N9 := hide ((unhide N8).kept b9)
        have B9 := hide ((unhide B8).trans (b9.mono (unhide B8).size))
        have X9 := hide ((b9.block _ (lt_of_block (unhide X8))).trans (unhide X8))
        clear b9 hn0 N8 B8 X8
        go_wp2_with fail
        refine (unhide ht w9 (unhide N9)).mono ?_
        rintro e w10 ⟨rfl, n10, k10⟩
        have N10 := hide n10
        have B10 := hide ((unhide B9).trans (k10.below (unhide B9).size))
        have X10 := hide ((k10.typ _ _ _ _ (unhide X9) (by decide) (by decide)).trans (unhide X9))
        clear n10 k10 ht N9 B9 X9
        go_wp2_with fail
        refine (gram_any 0 (by omega) (by omega) w10).mono ?_
        rintro e w11 ⟨rfl, b11⟩
        have N11 := hide ((unhide N10).kept b11)
        have B11 := hide ((unhide B10).trans (b11.mono (unhide B10).size))
        have X11 := hide ((b11.block _ (lt_of_block (unhide X10))).trans (unhide X10))
        clear b11 N10 B10 X10
        go_wp2_with fail
        refine (unhide hs w11 (unhide N11)).mono ?_
        rintro e w12 ⟨rfl, n12, k12⟩
        have NF := hide n12
        have BF := hide ((unhide B11).trans (k12.below (unhide B11).size))
        have XF := hide ((k12.typ _ _ _ _ (unhide X11) (by decide) (by decide)).trans (unhide X11))
        clear n12 k12 hs N11 B11 X11
        have hlen := hide (fun (x : Gb w12) => nlen w.heap.size b 1 2 sl x.w ((unhide NF).kept x.ok))
        rw [unhide HLN] at hlen
        have hx := unhide XF
        unfold gmC gmI at hx
        dsimp only at hx
        have hgr := hide (fun (x : World) => gram_any q (by omega) (by omega) x)
        unfold gmI at hgr
        have hneX := gb_ne w12
        have z0 : ∀ y : Gb w12, y.w.cell? ⟨w7.heap.size, 0, none⟩ = some (.int .i64 (1 + (q : Int) % 15)) := fun y => gb_cell (cells3 hx).1 y
        have z1 : ∀ y : Gb w12, y.w.cell? ⟨w7.heap.size, 1, none⟩ = some (.int .i64 (1 + ((q : Int) + 1) % 15)) := fun y => gb_cell (cells3 hx).2.1 y
        have z2 : ∀ y : Gb w12, y.w.cell? ⟨w7.heap.size, 2, none⟩ = some (.string ⟨#[120]⟩) := fun y => gb_cell (cells3 hx).2.2.1 y
        clear hx
        go_wp2_with fail
        refine wp_region_grB (by kernel_rfl) (by kernel_rfl) ?_
        repeat (go_big_quiet_step (first | (go_at_call 27; exact gb_call (unhide hgr _)) | (go_at_call 22; exact gb_same (unhide hlen _))))
        refine wpQuiet_nil ?_
        rintro wz ⟨xz, rfl⟩
        have BZ := hide ((unhide BF).trans (xz.ok.mono (unhide BF).size))
        clear z0 z1 z2 hneX
        generalize xz.w = wz at *
        go_wp2
        go_ret
        exact ⟨rfl, unhide BZ⟩
      · have hne : rs ≠ [] := by
          intro e
          have := unhide HLE
          rw [e] at this
          simp at this
          omega
        obtain ⟨t1, t2, t3, t4⟩ := tw_some (room := i) (last := i) (unhide HGO) (nth0_some hne) (by have := unhide HLE; omega)
        obtain ⟨k0, hk0⟩ : ∃ k0, k0 = nthI rs 0 := ⟨_, rfl⟩
        rw [← hk0] at hn0 t1 t2 t3 t4
        have ht := hide (fun w' (h : Nt w' w.heap.size b i i rs) (hk : (Lit.int .i64 k0).wf = true) => ntwice w.heap.size b i i rs k0 hk (by omega) w' h)
        rw [t1, t2, t3] at ht
        have HLN : Hid ((twL i i rs k0).length = i) := by show _ = _; rw [t4]; exact unhide HLE
        have hwf : (Lit.int .i64 k0).wf = true := by
          obtain ⟨x, hx⟩ := Option.isSome_iff_exists.1 (nth0_some hne)
          obtain ⟨hx1, hx2⟩ := fM_some hx
          obtain ⟨mb, iv, hN⟩ := unhide N8
          have := hN.ids x hx1
          rw [hx2, ← hk0] at this
          exact WalkArith.wf_i64 (by omega)
        have HWF := hide hwf
        generalize twL i i rs k0 = sl at *
        have q3 : ((i : Int) == 1) = false := by simp; omega
        have q4 : (i == 1) = false := by simp; omega
        clear t1 t2 t3 t4 hk0 hwf hne
        go_wp2_with fail
        refine (unhide hn0 w8 (unhide N8)).mono ?_
        rintro e w9 ⟨rfl, b9⟩
        have N9 := hide ((unhide N8).kept b9)
        have B9 := hide ((unhide B8).trans (b9.mono (unhide B8).size))
        have X9 := hide ((b9.block _ (lt_of_block (unhide X8))).trans (unhide X8))
        clear b9 hn0 N8 B8 X8
        go_wp2_with fail
        refine (unhide ht w9 (unhide N9) (unhide HWF)).mono ?_
        rintro e w10 ⟨rfl, n10, k10⟩
        have NF := hide n10
        have BF := hide ((unhide B9).trans (k10.below (unhide B9).size))
        have XF := hide ((k10.typ _ _ _ _ (unhide X9) (by decide) (by decide)).trans (unhide X9))
        clear n10 k10 ht N9 B9 X9
        have hlen := hide (fun (x : Gb w10) => nlen w.heap.size b i (i + 1) sl x.w ((unhide NF).kept x.ok))
        rw [unhide HLN] at hlen
        have hx := unhide XF
        unfold gmC gmI at hx
        dsimp only at hx
        have hgr := hide (fun (x : World) => gram_any q (by omega) (by omega) x)
        unfold gmI at hgr
        have hneX := gb_ne w10
        have z0 : ∀ y : Gb w10, y.w.cell? ⟨w7.heap.size, 0, none⟩ = some (.int .i64 (1 + (q : Int) % 15)) := fun y => gb_cell (cells3 hx).1 y
        have z1 : ∀ y : Gb w10, y.w.cell? ⟨w7.heap.size, 1, none⟩ = some (.int .i64 (1 + ((q : Int) + 1) % 15)) := fun y => gb_cell (cells3 hx).2.1 y
        have z2 : ∀ y : Gb w10, y.w.cell? ⟨w7.heap.size, 2, none⟩ = some (.string ⟨#[120]⟩) := fun y => gb_cell (cells3 hx).2.2.1 y
        clear hx
        go_wp2_with fail
        refine wp_region_grB (by kernel_rfl) (by kernel_rfl) ?_
        repeat (go_big_quiet_step (first | (go_at_call 27; exact gb_call (unhide hgr _)) | (go_at_call 22; exact gb_same (unhide hlen _))))
        refine wpQuiet_nil ?_
        rintro wz ⟨xz, rfl⟩
        have BZ := hide ((unhide BF).trans (xz.ok.mono (unhide BF).size))
        clear z0 z1 z2 hneX
        generalize xz.w = wz at *
        go_wp2
        go_ret
        exact ⟨rfl, unhide BZ⟩
end Go.Proofs.Ytmnjngkdiinnfaa

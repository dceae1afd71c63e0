/- peers: the document's table: Set, one kind. peers: the document's table: Set, one kind. peers: the document's table: Set, one kind. peers: the document's table: Set, one kind. peers: the document's table: Set, one kind. peers: the document's table: Set, one kind. -/
import Derived.Test.YtbfakbooenmhoaaQdG
namespace Go.Proofs.Ytbfakbooenmhoaa
open Go.RowKit
set_option linter.unusedVariables false
attribute [local go_sem] Oper.semAt_some

set_option maxRecDepth 100000 in
set_option maxHeartbeats 4000000 in
theorem dset0_any (B : Nat) (room tmo node n : Int) (s : ByteArray) (vL vB : Value) (L : List Pr) (Bs : List Int) (w : World) (h : Dt B w vL vB L Bs) (hB : B ≤ w.heap.size) (hS : ∀ c ∈ L, Bd c) :
    Calls Try.prog 56 #[tabV room tmo vL vB, .int .i64 node, .int .i64 0, .int .i64 n, .string s] w fun e w' => ∃ v vb, e = .returned (.tuple #[tabV room tmo v vb, .int .i64 (seE (sB0 n s) (fnd L node))]) ∧ Dt B w' v vb (seL (sB0 n s) (sX0 n s) L node) Bs ∧ Below w.heap.size w w' := by
  have HBW := hide hB
  have HS := hide hS
  have hC := hide (fun x (hx : Dt B x vL vB L Bs) => dfind_any B room tmo node vL vB L Bs x hx)
  have hW := hide (fun (X : Pr) x (hx : Dt B x vL vB L Bs) (hb : B ≤ x.heap.size) => dwith_any B room tmo X vL vB L Bs x hx hb)
  have hP := hide (fun w => dTick_any n w)
  clear hB hS
  cases ht : isTm n with
  | false =>
    rw [show sB0 n s = true by unfold sB0; rw [ht]; rfl]
    rw [ht] at hP
    rw [show seE true (fnd L node) = 1 from rfl, show seL true (sX0 n s) L node = L from rfl]
    clear ht
    obtain ⟨a0, c0, rfl, hp, hlt⟩ := own_des h.oL
    obtain ⟨a1, c1, rfl⟩ := ownI_shape h.oB
    have hn16 := h.nL
    have HH := hide h
    have HP := hide hp
    have HLT := hide (fun a ha => (hlt a ha).2)
    obtain ⟨i0, hi0, hz0, hz1, hz2⟩ := info_parts Try.infoDe
    have HPL : Hid ((Try.prog.info? 43).map (·.size) = some 10) := by
      show _ = _
      kernel_rfl
    generalize hm : L.length = m at *
    have HM := hide hm
    clear h hp hlt hm
    go_enter Try.func56, Try.ntmps56
    go_wp2_with fail
    obtain ⟨w1, hw1⟩ : ∃ w1, w1 = (w.alloc (.cells #[.int .i64 room, .int .i64 tmo, .slice a0 m c0, .slice a1 Bs.length c1] 29)).alloc (.cells #[.int .i64 0, .int .i64 0, .slice none 0 0, .slice none 0 0] 29) := ⟨_, rfl⟩
    obtain ⟨t1, t2, t3⟩ := two_boxes w #[.int .i64 room, .int .i64 tmo, .slice a0 m c0, .slice a1 Bs.length c1] #[.int .i64 0, .int .i64 0, .slice none 0 0, .slice none 0 0] 29 29
    rw [← hw1] at t1 t2 t3
    have HW : Hid (w1 = _) := hw1
    obtain ⟨gR, hgR⟩ : ∃ gR, gR = w.heap.size + 1 := ⟨_, rfl⟩
    rw [← hgR] at t2
    have HT := hide t1
    have HR := hide t2
    have HB := hide t3
    have HG : Hid (w.heap.size ≤ w.heap.size ∧ w.heap.size ≤ gR ∧ w.heap.size ≠ gR) := by
      rw [hgR]
      exact ⟨by omega, by omega, by omega⟩
    have HGR := hide hgR
    clear t1 t2 t3 hw1 hgR
    rw [← unhide HW]
    generalize hx : w.heap.size + 1 = gx at *
    have hgx : gR = gx := unhide HGR
    clear hx
    subst hgx
    refine (unhide hP w1).mono ?_
    rintro e w2 ⟨rfl, rfl⟩
    have HBX := HB
    have HDT := hide ((unhide HH).up (unhide HB))
    have HT2 := HT
    have HR2 := HR
    clear hP hC hW
    have HF := hide (fin_put (room := room) (tmo := tmo) (unhide HDT) (unhide HBX) (unhide HR2) (unhide HG).2.1)
    go_wp2_with (first
      | (refine wpList_load_row rfl 29 (.tmp 5) rfl w.heap.size rfl 29 #[.int .i64 room, .int .i64 tmo, .slice a0 m c0, .slice a1 Bs.length c1] (0, 0) _ (unhide HT2) Try.underlying29 rfl (by kernel_rfl) ?_)
      | (refine wpList_store_row_to rfl 29 (.tmp 10) (.tmp 42) rfl gR #[.int .i64 room, .int .i64 tmo, .slice a0 m c0, .slice a1 Bs.length c1] rfl rfl 29 zT (unhide HR2) (by kernel_rfl) (by rfl) (by simp [Value.oneCell']) (fun w' => Fin B w gR room tmo (.slice a0 m c0) (.slice a1 Bs.length c1) (L) (Bs) w') (unhide HF) ?_))
    intro w5 h5
    have H5 := hide h5
    clear h5
    go_wp2
    exact ret_row2 (p := 10) (q := 11) (ty := 29) (by kernel_rfl) gR 29 _ (0, 0) (.int .i64 1) _ rfl rfl (unhide H5).blk rfl Try.underlying29 (by kernel_rfl) ⟨_, _, rfl, (unhide H5).dt, (unhide H5).be⟩
  | true =>
    rw [show sB0 n s = false by unfold sB0; rw [ht]; rfl]
    rw [ht] at hP
    clear ht
    rcases fnd_inv (L := L) (n := node) with hfn | ⟨i, c, hfi, hc, hcn⟩
    · rw [seL_no hfn]
      rw [hfn] at hC ⊢
      rw [show seE false (-1) = 4 from rfl]
      clear hfn
      obtain ⟨a0, c0, rfl, hp, hlt⟩ := own_des h.oL
      obtain ⟨a1, c1, rfl⟩ := ownI_shape h.oB
      have hn16 := h.nL
      have HH := hide h
      have HP := hide hp
      have HLT := hide (fun a ha => (hlt a ha).2)
      obtain ⟨i0, hi0, hz0, hz1, hz2⟩ := info_parts Try.infoDe
      have HPL : Hid ((Try.prog.info? 43).map (·.size) = some 10) := by
        show _ = _
        kernel_rfl
      generalize hm : L.length = m at *
      have HM := hide hm
      clear h hp hlt hm
      go_enter Try.func56, Try.ntmps56
      go_wp2_with fail
      obtain ⟨w1, hw1⟩ : ∃ w1, w1 = (w.alloc (.cells #[.int .i64 room, .int .i64 tmo, .slice a0 m c0, .slice a1 Bs.length c1] 29)).alloc (.cells #[.int .i64 0, .int .i64 0, .slice none 0 0, .slice none 0 0] 29) := ⟨_, rfl⟩
      obtain ⟨t1, t2, t3⟩ := two_boxes w #[.int .i64 room, .int .i64 tmo, .slice a0 m c0, .slice a1 Bs.length c1] #[.int .i64 0, .int .i64 0, .slice none 0 0, .slice none 0 0] 29 29
      rw [← hw1] at t1 t2 t3
      have HW : Hid (w1 = _) := hw1
      obtain ⟨gR, hgR⟩ : ∃ gR, gR = w.heap.size + 1 := ⟨_, rfl⟩
      rw [← hgR] at t2
      have HT := hide t1
      have HR := hide t2
      have HB := hide t3
      have HG : Hid (w.heap.size ≤ w.heap.size ∧ w.heap.size ≤ gR ∧ w.heap.size ≠ gR) := by
        rw [hgR]
        exact ⟨by omega, by omega, by omega⟩
      have HGR := hide hgR
      clear t1 t2 t3 hw1 hgR
      rw [← unhide HW]
      generalize hx : w.heap.size + 1 = gx at *
      have hgx : gR = gx := unhide HGR
      clear hx
      subst hgx
      refine (unhide hP w1).mono ?_
      rintro e w2 ⟨rfl, rfl⟩
      obtain ⟨b0, b1, b2, b3⟩ := four_cells (unhide HT)
      go_wp2_with fail
      clear b0 b1 b2 b3
      refine (unhide hC w1 ((unhide HH).up (unhide HB))).mono ?_
      rintro e w2 ⟨rfl, b2⟩
      have HBX := hide ((unhide HB).trans (b2.mono (unhide HB).size))
      have HDT := hide ((unhide HH).up (unhide HBX))
      have HT2 := hide ((b2.block _ (lt_of_block (unhide HT))).trans (unhide HT))
      have HR2 := hide ((b2.block _ (lt_of_block (unhide HR))).trans (unhide HR))
      clear b2 hC hP
      clear hW
      have HF := hide (fin_put (room := room) (tmo := tmo) (unhide HDT) (unhide HBX) (unhide HR2) (unhide HG).2.1)
      go_wp2_with (first
        | (refine wpList_load_row rfl 29 (.tmp 5) rfl w.heap.size rfl 29 #[.int .i64 room, .int .i64 tmo, .slice a0 m c0, .slice a1 Bs.length c1] (0, 0) _ (unhide HT2) Try.underlying29 rfl (by kernel_rfl) ?_)
        | (refine wpList_store_row_to rfl 29 (.tmp 10) (.tmp 48) rfl gR #[.int .i64 room, .int .i64 tmo, .slice a0 m c0, .slice a1 Bs.length c1] rfl rfl 29 zT (unhide HR2) (by kernel_rfl) (by rfl) (by simp [Value.oneCell']) (fun w' => Fin B w gR room tmo (.slice a0 m c0) (.slice a1 Bs.length c1) (L) (Bs) w') (unhide HF) ?_))
      intro w5 h5
      have H5 := hide h5
      clear h5
      go_wp2
      exact ret_row2 (p := 10) (q := 11) (ty := 29) (by kernel_rfl) gR 29 _ (0, 0) (.int .i64 4) _ rfl rfl (unhide H5).blk rfl Try.underlying29 (by kernel_rfl) ⟨_, _, rfl, (unhide H5).dt, (unhide H5).be⟩
    · rw [hfi] at hC ⊢
      rw [show seE false (i : Int) = 0 by unfold seE; rw [if_neg (by decide), if_neg (by omega)]]
      clear hcn
      obtain ⟨l2, hl2⟩ : ∃ l2, l2 = seL false (sX0 n s) L node := ⟨_, rfl⟩
      rw [← hl2]
      have hL2 : l2 = wiL L (sX0 n s c) := hl2.trans (seL_at hfi hc)
      have hi16 := (List.getElem?_eq_some_iff.1 hc).1
      clear hl2 hfi
      obtain ⟨a0, c0, rfl, hp, hlt⟩ := own_des h.oL
      obtain ⟨a1, c1, rfl⟩ := ownI_shape h.oB
      have hn16 := h.nL
      have HH := hide h
      have HP := hide hp
      have HLT := hide (fun a ha => (hlt a ha).2)
      obtain ⟨i0, hi0, hz0, hz1, hz2⟩ := info_parts Try.infoDe
      have HPL : Hid ((Try.prog.info? 43).map (·.size) = some 10) := by
        show _ = _
        kernel_rfl
      generalize hm : L.length = m at *
      have HM := hide hm
      clear h hp hlt hm
      obtain ⟨nd, px, py, hv, wa, op, os, se, nw, ra, he⟩ : ∃ nd px py hv wa op os se nw ra, c = (⟨nd, px, py, hv, wa, op, os, se, nw, ra⟩ : Pr) := ⟨_, _, _, _, _, _, _, _, _, _, rfl⟩
      obtain ⟨X2, hX2⟩ : ∃ X2, X2 = sX0 n s c := ⟨_, rfl⟩
      rw [← hX2] at hL2
      have HL2 := hide hL2
      have hbd := unhide HS c (List.mem_of_getElem? hc)
      rw [he] at hX2 hbd
      have hb7 := hbd.se
      dsimp only at hb7
      by_cases hq : se < n
      · have HXC : Hid (X2.cl.toArray = #[.int .i64 nd, .int .i64 px, .int .i64 py, .string hv, .bool wa, .bool op, .bool os, .int .i64 n, .int .i64 nw, .int .i64 ra]) := by
          show _ = _
          rw [hX2]
          show (Pr.cl _).toArray = _
          unfold sX0 Pr.cl
          simp only
          rw [if_pos hq]
        clear hbd
        go_enter Try.func56, Try.ntmps56
        go_wp2_with fail
        obtain ⟨w1, hw1⟩ : ∃ w1, w1 = (w.alloc (.cells #[.int .i64 room, .int .i64 tmo, .slice a0 m c0, .slice a1 Bs.length c1] 29)).alloc (.cells #[.int .i64 0, .int .i64 0, .slice none 0 0, .slice none 0 0] 29) := ⟨_, rfl⟩
        obtain ⟨t1, t2, t3⟩ := two_boxes w #[.int .i64 room, .int .i64 tmo, .slice a0 m c0, .slice a1 Bs.length c1] #[.int .i64 0, .int .i64 0, .slice none 0 0, .slice none 0 0] 29 29
        rw [← hw1] at t1 t2 t3
        have HW : Hid (w1 = _) := hw1
        obtain ⟨gR, hgR⟩ : ∃ gR, gR = w.heap.size + 1 := ⟨_, rfl⟩
        rw [← hgR] at t2
        have HT := hide t1
        have HR := hide t2
        have HB := hide t3
        have HG : Hid (w.heap.size ≤ w.heap.size ∧ w.heap.size ≤ gR ∧ w.heap.size ≠ gR) := by
          rw [hgR]
          exact ⟨by omega, by omega, by omega⟩
        have HGR := hide hgR
        clear t1 t2 t3 hw1 hgR
        rw [← unhide HW]
        generalize hx : w.heap.size + 1 = gx at *
        have hgx : gR = gx := unhide HGR
        clear hx
        subst hgx
        refine (unhide hP w1).mono ?_
        rintro e w2 ⟨rfl, rfl⟩
        obtain ⟨b0, b1, b2, b3⟩ := four_cells (unhide HT)
        go_wp2_with fail
        clear b0 b1 b2 b3
        refine (unhide hC w1 ((unhide HH).up (unhide HB))).mono ?_
        rintro e w2 ⟨rfl, b2⟩
        have HBX := hide ((unhide HB).trans (b2.mono (unhide HB).size))
        have HDT := hide ((unhide HH).up (unhide HBX))
        have HT2 := hide ((b2.block _ (lt_of_block (unhide HT))).trans (unhide HT))
        have HR2 := hide ((b2.block _ (lt_of_block (unhide HR))).trans (unhide HR))
        clear b2 hC hP
        obtain ⟨g, rfl, hra⟩ := (unhide HP).up (unhide HLT) (unhide HBX) i c hc
        rw [he] at hra
        have HRA : Hid (w2.rangeAt g (i * 10) [.int .i64 nd, .int .i64 px, .int .i64 py, .string hv, .bool wa, .bool op, .bool os, .int .i64 se, .int .i64 nw, .int .i64 ra]) := hra
        clear hra he hX2 hL2 hc
        have HMX : Hid (Mid B w w.heap.size gR room tmo (.slice (some ⟨g, 0, none⟩) m c0) (.slice a1 Bs.length c1) (.slice a1 Bs.length c1) L Bs w2) := ⟨unhide HT2, unhide HR2, unhide HDT, unhide HBX⟩
        have d2 := (four_cells (unhide HT2)).2.2.1
        have HRX := hide (rx_new (unhide HMX) #[.int .i64 nd, .int .i64 px, .int .i64 py, .string hv, .bool wa, .bool op, .bool os, .int .i64 se, .int .i64 nw, .int .i64 ra] #[.int .i64 0, .int .i64 0, .int .i64 0, .string ⟨#[]⟩, .bool false, .bool false, .bool false, .int .i64 0, .int .i64 0, .int .i64 0])
        go_wp2_with (first
          | (refine wpList_load_mid rfl 43 (.tmp 52) rfl g (i * 10) rfl [.int .i64 nd, .int .i64 px, .int .i64 py, .string hv, .bool wa, .bool op, .bool os, .int .i64 se, .int .i64 nw, .int .i64 ra] _ (unhide HRA) Try.underlying43 rfl (unhide HPL) ?_)
          | (refine wpList_store_row_to rfl 43 (.tmp 13) (.tmp 53) rfl w2.heap.size #[.int .i64 nd, .int .i64 px, .int .i64 py, .string hv, .bool wa, .bool op, .bool os, .int .i64 se, .int .i64 nw, .int .i64 ra] rfl rfl 43 #[.int .i64 0, .int .i64 0, .int .i64 0, .string ⟨#[]⟩, .bool false, .bool false, .bool false, .int .i64 0, .int .i64 0, .int .i64 0] (heap_alloc_new w2 _) (by kernel_rfl) (by rfl) (by simp [Value.oneCell']) (fun w' => RX B w gR room tmo (.slice (some ⟨g, 0, none⟩) m c0) (.slice a1 Bs.length c1) L Bs w2.heap.size #[.int .i64 nd, .int .i64 px, .int .i64 py, .string hv, .bool wa, .bool op, .bool os, .int .i64 se, .int .i64 nw, .int .i64 ra] w') (unhide HRX) ?_))
        intro w5 h5
        have H5 := hide h5
        clear h5 HRX
        clear d2
        have c7 := (unhide H5).cell 7 _ rfl
        have f7 := (unhide H5).free 7
        have H6 := hide ((unhide H5).set 7 (.int .i64 n))
        have HT6 := hide (unhide H6).mid.box
        have HP6 := hide (unhide H6).pb
        have HD6 := hide (unhide H6).mid.dt
        have HB6 := hide (unhide H6).mid.be
        have HA6 := hide (unhide H6).mid.ans
        generalize hgn : w2.heap.size = gN at *
        clear H5 H6 HMX HRA hgn HT2 HR2 HDT HBX
        have hW2 := hide (unhide hW X2 _ (unhide HD6) (Nat.le_trans (unhide HBW) (unhide HB6).size))
        rw [unhide HXC, ← unhide HL2] at hW2
        clear hW HXC
        go_wp2_with (first
          | (refine wpList_load_row rfl 29 (.tmp 5) rfl w.heap.size rfl 29 #[.int .i64 room, .int .i64 tmo, .slice (some ⟨g, 0, none⟩) m c0, .slice a1 Bs.length c1] (0, 0) _ (unhide HT6) Try.underlying29 rfl (by kernel_rfl) ?_)
          | (refine wpList_load_row rfl 43 (.tmp 13) rfl gN rfl 43 #[.int .i64 nd, .int .i64 px, .int .i64 py, .string hv, .bool wa, .bool op, .bool os, .int .i64 n, .int .i64 nw, .int .i64 ra] (0, 0) _ (unhide HP6) Try.underlying43 rfl (by kernel_rfl) ?_))
        refine (unhide hW2).mono ?_
        rintro e w9 ⟨v, rfl, hd9, b9⟩
        have HR9 := hide ((b9.block _ (lt_of_block (unhide HA6))).trans (unhide HA6))
        have HF := hide (fin_put (room := room) (tmo := tmo) hd9 ((unhide HB6).trans (b9.mono (unhide HB6).size)) (unhide HR9) (unhide HG).2.1)
        have HOC : Hid ((#[.int .i64 room, .int .i64 tmo, v, .slice a1 Bs.length c1] : Array Value).all (·.oneCell') = true) := by
          obtain ⟨av, cv, rfl⟩ := ownDe_shape hd9.oL
          show _ = _
          simp [Value.oneCell']
        clear hd9 b9 hW2 HT6 HP6 HD6 HB6 HA6
        go_wp2_with (refine wpList_store_row_to rfl 29 (.tmp 10) (.tmp 96) rfl gR #[.int .i64 room, .int .i64 tmo, v, .slice a1 Bs.length c1] rfl rfl 29 zT (unhide HR9) (by kernel_rfl) (by rfl) (unhide HOC) (fun w' => Fin B w gR room tmo v (.slice a1 Bs.length c1) l2 Bs w') (unhide HF) ?_)
        intro w5 h5
        have H5 := hide h5
        clear h5
        go_wp2
        exact ret_row2 (p := 10) (q := 11) (ty := 29) (by kernel_rfl) gR 29 _ (0, 0) (.int .i64 0) _ rfl rfl (unhide H5).blk rfl Try.underlying29 (by kernel_rfl) ⟨_, _, rfl, (unhide H5).dt, (unhide H5).be⟩
      · have HXC : Hid (X2.cl.toArray = #[.int .i64 nd, .int .i64 px, .int .i64 py, .string hv, .bool wa, .bool op, .bool os, .int .i64 se, .int .i64 nw, .int .i64 ra]) := by
          show _ = _
          rw [hX2]
          show (Pr.cl _).toArray = _
          unfold sX0 Pr.cl
          simp only
          rw [if_neg hq]
        clear hbd
        go_enter Try.func56, Try.ntmps56
        go_wp2_with fail
        obtain ⟨w1, hw1⟩ : ∃ w1, w1 = (w.alloc (.cells #[.int .i64 room, .int .i64 tmo, .slice a0 m c0, .slice a1 Bs.length c1] 29)).alloc (.cells #[.int .i64 0, .int .i64 0, .slice none 0 0, .slice none 0 0] 29) := ⟨_, rfl⟩
        obtain ⟨t1, t2, t3⟩ := two_boxes w #[.int .i64 room, .int .i64 tmo, .slice a0 m c0, .slice a1 Bs.length c1] #[.int .i64 0, .int .i64 0, .slice none 0 0, .slice none 0 0] 29 29
        rw [← hw1] at t1 t2 t3
        have HW : Hid (w1 = _) := hw1
        obtain ⟨gR, hgR⟩ : ∃ gR, gR = w.heap.size + 1 := ⟨_, rfl⟩
        rw [← hgR] at t2
        have HT := hide t1
        have HR := hide t2
        have HB := hide t3
        have HG : Hid (w.heap.size ≤ w.heap.size ∧ w.heap.size ≤ gR ∧ w.heap.size ≠ gR) := by
          rw [hgR]
          exact ⟨by omega, by omega, by omega⟩
        have HGR := hide hgR
        clear t1 t2 t3 hw1 hgR
        rw [← unhide HW]
        generalize hx : w.heap.size + 1 = gx at *
        have hgx : gR = gx := unhide HGR
        clear hx
        subst hgx
        refine (unhide hP w1).mono ?_
        rintro e w2 ⟨rfl, rfl⟩
        obtain ⟨b0, b1, b2, b3⟩ := four_cells (unhide HT)
        go_wp2_with fail
        clear b0 b1 b2 b3
        refine (unhide hC w1 ((unhide HH).up (unhide HB))).mono ?_
        rintro e w2 ⟨rfl, b2⟩
        have HBX := hide ((unhide HB).trans (b2.mono (unhide HB).size))
        have HDT := hide ((unhide HH).up (unhide HBX))
        have HT2 := hide ((b2.block _ (lt_of_block (unhide HT))).trans (unhide HT))
        have HR2 := hide ((b2.block _ (lt_of_block (unhide HR))).trans (unhide HR))
        clear b2 hC hP
        obtain ⟨g, rfl, hra⟩ := (unhide HP).up (unhide HLT) (unhide HBX) i c hc
        rw [he] at hra
        have HRA : Hid (w2.rangeAt g (i * 10) [.int .i64 nd, .int .i64 px, .int .i64 py, .string hv, .bool wa, .bool op, .bool os, .int .i64 se, .int .i64 nw, .int .i64 ra]) := hra
        clear hra he hX2 hL2 hc
        have HMX : Hid (Mid B w w.heap.size gR room tmo (.slice (some ⟨g, 0, none⟩) m c0) (.slice a1 Bs.length c1) (.slice a1 Bs.length c1) L Bs w2) := ⟨unhide HT2, unhide HR2, unhide HDT, unhide HBX⟩
        have d2 := (four_cells (unhide HT2)).2.2.1
        have HRX := hide (rx_new (unhide HMX) #[.int .i64 nd, .int .i64 px, .int .i64 py, .string hv, .bool wa, .bool op, .bool os, .int .i64 se, .int .i64 nw, .int .i64 ra] #[.int .i64 0, .int .i64 0, .int .i64 0, .string ⟨#[]⟩, .bool false, .bool false, .bool false, .int .i64 0, .int .i64 0, .int .i64 0])
        go_wp2_with (first
          | (refine wpList_load_mid rfl 43 (.tmp 52) rfl g (i * 10) rfl [.int .i64 nd, .int .i64 px, .int .i64 py, .string hv, .bool wa, .bool op, .bool os, .int .i64 se, .int .i64 nw, .int .i64 ra] _ (unhide HRA) Try.underlying43 rfl (unhide HPL) ?_)
          | (refine wpList_store_row_to rfl 43 (.tmp 13) (.tmp 53) rfl w2.heap.size #[.int .i64 nd, .int .i64 px, .int .i64 py, .string hv, .bool wa, .bool op, .bool os, .int .i64 se, .int .i64 nw, .int .i64 ra] rfl rfl 43 #[.int .i64 0, .int .i64 0, .int .i64 0, .string ⟨#[]⟩, .bool false, .bool false, .bool false, .int .i64 0, .int .i64 0, .int .i64 0] (heap_alloc_new w2 _) (by kernel_rfl) (by rfl) (by simp [Value.oneCell']) (fun w' => RX B w gR room tmo (.slice (some ⟨g, 0, none⟩) m c0) (.slice a1 Bs.length c1) L Bs w2.heap.size #[.int .i64 nd, .int .i64 px, .int .i64 py, .string hv, .bool wa, .bool op, .bool os, .int .i64 se, .int .i64 nw, .int .i64 ra] w') (unhide HRX) ?_))
        intro w5 h5
        have H5 := hide h5
        clear h5 HRX
        clear d2
        have c7 := (unhide H5).cell 7 _ rfl
        have f7 := (unhide H5).free 7
        have H6 := hide (unhide H5)
        have HT6 := hide (unhide H6).mid.box
        have HP6 := hide (unhide H6).pb
        have HD6 := hide (unhide H6).mid.dt
        have HB6 := hide (unhide H6).mid.be
        have HA6 := hide (unhide H6).mid.ans
        generalize hgn : w2.heap.size = gN at *
        clear H5 H6 HMX HRA hgn HT2 HR2 HDT HBX
        have hW2 := hide (unhide hW X2 _ (unhide HD6) (Nat.le_trans (unhide HBW) (unhide HB6).size))
        rw [unhide HXC, ← unhide HL2] at hW2
        clear hW HXC
        go_wp2_with (first
          | (refine wpList_load_row rfl 29 (.tmp 5) rfl w.heap.size rfl 29 #[.int .i64 room, .int .i64 tmo, .slice (some ⟨g, 0, none⟩) m c0, .slice a1 Bs.length c1] (0, 0) _ (unhide HT6) Try.underlying29 rfl (by kernel_rfl) ?_)
          | (refine wpList_load_row rfl 43 (.tmp 13) rfl gN rfl 43 #[.int .i64 nd, .int .i64 px, .int .i64 py, .string hv, .bool wa, .bool op, .bool os, .int .i64 se, .int .i64 nw, .int .i64 ra] (0, 0) _ (unhide HP6) Try.underlying43 rfl (by kernel_rfl) ?_))
        refine (unhide hW2).mono ?_
        rintro e w9 ⟨v, rfl, hd9, b9⟩
        have HR9 := hide ((b9.block _ (lt_of_block (unhide HA6))).trans (unhide HA6))
        have HF := hide (fin_put (room := room) (tmo := tmo) hd9 ((unhide HB6).trans (b9.mono (unhide HB6).size)) (unhide HR9) (unhide HG).2.1)
        have HOC : Hid ((#[.int .i64 room, .int .i64 tmo, v, .slice a1 Bs.length c1] : Array Value).all (·.oneCell') = true) := by
          obtain ⟨av, cv, rfl⟩ := ownDe_shape hd9.oL
          show _ = _
          simp [Value.oneCell']
        clear hd9 b9 hW2 HT6 HP6 HD6 HB6 HA6
        go_wp2_with (refine wpList_store_row_to rfl 29 (.tmp 10) (.tmp 96) rfl gR #[.int .i64 room, .int .i64 tmo, v, .slice a1 Bs.length c1] rfl rfl 29 zT (unhide HR9) (by kernel_rfl) (by rfl) (unhide HOC) (fun w' => Fin B w gR room tmo v (.slice a1 Bs.length c1) l2 Bs w') (unhide HF) ?_)
        intro w5 h5
        have H5 := hide h5
        clear h5
        go_wp2
        exact ret_row2 (p := 10) (q := 11) (ty := 29) (by kernel_rfl) gR 29 _ (0, 0) (.int .i64 0) _ rfl rfl (unhide H5).blk rfl Try.underlying29 (by kernel_rfl) ⟨_, _, rfl, (unhide H5).dt, (unhide H5).be⟩
end Go.Proofs.Ytbfakbooenmhoaa
namespace Go.Proofs.Ytbfakbooenmhoaa
open Go.RowKit
set_option linter.unusedVariables false
attribute [local go_sem] Oper.semAt_some

set_option maxRecDepth 100000 in
set_option maxHeartbeats 4000000 in
theorem dset1_any (B : Nat) (room tmo node n : Int) (s : ByteArray) (vL vB : Value) (L : List Pr) (Bs : List Int) (w : World) (h : Dt B w vL vB L Bs) (hB : B ≤ w.heap.size) (hS : ∀ c ∈ L, Bd c) :
    Calls Try.prog 56 #[tabV room tmo vL vB, .int .i64 node, .int .i64 1, .int .i64 n, .string s] w fun e w' => ∃ v vb, e = .returned (.tuple #[tabV room tmo v vb, .int .i64 (seE (sB1 n s) (fnd L node))]) ∧ Dt B w' v vb (seL (sB1 n s) (sX1 n s) L node) Bs ∧ Below w.heap.size w w' := by
  have HBW := hide hB
  have HS := hide hS
  have hC := hide (fun x (hx : Dt B x vL vB L Bs) => dfind_any B room tmo node vL vB L Bs x hx)
  have hW := hide (fun (X : Pr) x (hx : Dt B x vL vB L Bs) (hb : B ≤ x.heap.size) => dwith_any B room tmo X vL vB L Bs x hx hb)
  have hP := hide (fun w => dTick_any n w)
  clear hB hS
  by_cases ht : 20 < s.size
  · rw [show sB1 n s = true from decide_eq_true ht]
    rw [show seE true (fnd L node) = 1 from rfl, show seL true (sX1 n s) L node = L from rfl]
    have q9 : (20 : Int) < s.size := by omega
    obtain ⟨a0, c0, rfl, hp, hlt⟩ := own_des h.oL
    obtain ⟨a1, c1, rfl⟩ := ownI_shape h.oB
    have hn16 := h.nL
    have HH := hide h
    have HP := hide hp
    have HLT := hide (fun a ha => (hlt a ha).2)
    obtain ⟨i0, hi0, hz0, hz1, hz2⟩ := info_parts Try.infoDe
    have HPL : Hid ((Try.prog.info? 43).map (·.size) = some 10) := by
      show _ = _
      kernel_rfl
    generalize hm : L.length = m at *
    have HM := hide hm
    clear h hp hlt hm
    clear hP hC hW
    go_enter Try.func56, Try.ntmps56
    go_wp2_with fail
    obtain ⟨t1, t2, t3⟩ := two_boxes w #[.int .i64 room, .int .i64 tmo, .slice a0 m c0, .slice a1 Bs.length c1] #[.int .i64 room, .int .i64 tmo, .slice a0 m c0, .slice a1 Bs.length c1] 29 29
    exact ret_row2 (p := 10) (q := 11) (ty := 29) (by kernel_rfl) (w.heap.size + 1) 29 _ (0, 0) (.int .i64 1) _ rfl rfl t2 rfl Try.underlying29 (by kernel_rfl) ⟨_, _, rfl, (unhide HH).up t3, t3⟩
  · rw [show sB1 n s = false from decide_eq_false ht]
    have q9 : ¬ (20 : Int) < s.size := by omega
    rcases fnd_inv (L := L) (n := node) with hfn | ⟨i, c, hfi, hc, hcn⟩
    · rw [seL_no hfn]
      rw [hfn] at hC ⊢
      rw [show seE false (-1) = 4 from rfl]
      clear hfn
      obtain ⟨a0, c0, rfl, hp, hlt⟩ := own_des h.oL
      obtain ⟨a1, c1, rfl⟩ := ownI_shape h.oB
      have hn16 := h.nL
      have HH := hide h
      have HP := hide hp
      have HLT := hide (fun a ha => (hlt a ha).2)
      obtain ⟨i0, hi0, hz0, hz1, hz2⟩ := info_parts Try.infoDe
      have HPL : Hid ((Try.prog.info? 43).map (·.size) = some 10) := by
        show _ = _
        kernel_rfl
      generalize hm : L.length = m at *
      have HM := hide hm
      clear h hp hlt hm
      go_enter Try.func56, Try.ntmps56
      go_wp2_with fail
      obtain ⟨w1, hw1⟩ : ∃ w1, w1 = (w.alloc (.cells #[.int .i64 room, .int .i64 tmo, .slice a0 m c0, .slice a1 Bs.length c1] 29)).alloc (.cells #[.int .i64 0, .int .i64 0, .slice none 0 0, .slice none 0 0] 29) := ⟨_, rfl⟩
      obtain ⟨t1, t2, t3⟩ := two_boxes w #[.int .i64 room, .int .i64 tmo, .slice a0 m c0, .slice a1 Bs.length c1] #[.int .i64 0, .int .i64 0, .slice none 0 0, .slice none 0 0] 29 29
      rw [← hw1] at t1 t2 t3
      have HW : Hid (w1 = _) := hw1
      obtain ⟨gR, hgR⟩ : ∃ gR, gR = w.heap.size + 1 := ⟨_, rfl⟩
      rw [← hgR] at t2
      have HT := hide t1
      have HR := hide t2
      have HB := hide t3
      have HG : Hid (w.heap.size ≤ w.heap.size ∧ w.heap.size ≤ gR ∧ w.heap.size ≠ gR) := by
        rw [hgR]
        exact ⟨by omega, by omega, by omega⟩
      have HGR := hide hgR
      clear t1 t2 t3 hw1 hgR
      rw [← unhide HW]
      generalize hx : w.heap.size + 1 = gx at *
      have hgx : gR = gx := unhide HGR
      clear hx
      subst hgx
      refine (unhide hC w1 ((unhide HH).up (unhide HB))).mono ?_
      rintro e w2 ⟨rfl, b2⟩
      have HBX := hide ((unhide HB).trans (b2.mono (unhide HB).size))
      have HDT := hide ((unhide HH).up (unhide HBX))
      have HT2 := hide ((b2.block _ (lt_of_block (unhide HT))).trans (unhide HT))
      have HR2 := hide ((b2.block _ (lt_of_block (unhide HR))).trans (unhide HR))
      clear b2 hC hP
      clear hW
      have HF := hide (fin_put (room := room) (tmo := tmo) (unhide HDT) (unhide HBX) (unhide HR2) (unhide HG).2.1)
      go_wp2_with (first
        | (refine wpList_load_row rfl 29 (.tmp 5) rfl w.heap.size rfl 29 #[.int .i64 room, .int .i64 tmo, .slice a0 m c0, .slice a1 Bs.length c1] (0, 0) _ (unhide HT2) Try.underlying29 rfl (by kernel_rfl) ?_)
        | (refine wpList_store_row_to rfl 29 (.tmp 10) (.tmp 48) rfl gR #[.int .i64 room, .int .i64 tmo, .slice a0 m c0, .slice a1 Bs.length c1] rfl rfl 29 zT (unhide HR2) (by kernel_rfl) (by rfl) (by simp [Value.oneCell']) (fun w' => Fin B w gR room tmo (.slice a0 m c0) (.slice a1 Bs.length c1) (L) (Bs) w') (unhide HF) ?_))
      intro w5 h5
      have H5 := hide h5
      clear h5
      go_wp2
      exact ret_row2 (p := 10) (q := 11) (ty := 29) (by kernel_rfl) gR 29 _ (0, 0) (.int .i64 4) _ rfl rfl (unhide H5).blk rfl Try.underlying29 (by kernel_rfl) ⟨_, _, rfl, (unhide H5).dt, (unhide H5).be⟩
    · rw [hfi] at hC ⊢
      rw [show seE false (i : Int) = 0 by unfold seE; rw [if_neg (by decide), if_neg (by omega)]]
      clear hcn
      obtain ⟨l2, hl2⟩ : ∃ l2, l2 = seL false (sX1 n s) L node := ⟨_, rfl⟩
      rw [← hl2]
      have hL2 : l2 = wiL L (sX1 n s c) := hl2.trans (seL_at hfi hc)
      have hi16 := (List.getElem?_eq_some_iff.1 hc).1
      clear hl2 hfi
      obtain ⟨a0, c0, rfl, hp, hlt⟩ := own_des h.oL
      obtain ⟨a1, c1, rfl⟩ := ownI_shape h.oB
      have hn16 := h.nL
      have HH := hide h
      have HP := hide hp
      have HLT := hide (fun a ha => (hlt a ha).2)
      obtain ⟨i0, hi0, hz0, hz1, hz2⟩ := info_parts Try.infoDe
      have HPL : Hid ((Try.prog.info? 43).map (·.size) = some 10) := by
        show _ = _
        kernel_rfl
      generalize hm : L.length = m at *
      have HM := hide hm
      clear h hp hlt hm
      obtain ⟨nd, px, py, hv, wa, op, os, se, nw, ra, he⟩ : ∃ nd px py hv wa op os se nw ra, c = (⟨nd, px, py, hv, wa, op, os, se, nw, ra⟩ : Pr) := ⟨_, _, _, _, _, _, _, _, _, _, rfl⟩
      obtain ⟨X2, hX2⟩ : ∃ X2, X2 = sX1 n s c := ⟨_, rfl⟩
      rw [← hX2] at hL2
      have HL2 := hide hL2
      have hbd := unhide HS c (List.mem_of_getElem? hc)
      rw [he] at hX2 hbd
      have HXC : Hid (X2.cl.toArray = #[.int .i64 nd, .int .i64 px, .int .i64 py, .string s, .bool wa, .bool op, .bool os, .int .i64 se, .int .i64 nw, .int .i64 ra]) := by
        show _ = _
        rw [hX2]
        rfl
      clear hbd
      go_enter Try.func56, Try.ntmps56
      go_wp2_with fail
      obtain ⟨w1, hw1⟩ : ∃ w1, w1 = (w.alloc (.cells #[.int .i64 room, .int .i64 tmo, .slice a0 m c0, .slice a1 Bs.length c1] 29)).alloc (.cells #[.int .i64 0, .int .i64 0, .slice none 0 0, .slice none 0 0] 29) := ⟨_, rfl⟩
      obtain ⟨t1, t2, t3⟩ := two_boxes w #[.int .i64 room, .int .i64 tmo, .slice a0 m c0, .slice a1 Bs.length c1] #[.int .i64 0, .int .i64 0, .slice none 0 0, .slice none 0 0] 29 29
      rw [← hw1] at t1 t2 t3
      have HW : Hid (w1 = _) := hw1
      obtain ⟨gR, hgR⟩ : ∃ gR, gR = w.heap.size + 1 := ⟨_, rfl⟩
      rw [← hgR] at t2
      have HT := hide t1
      have HR := hide t2
      have HB := hide t3
      have HG : Hid (w.heap.size ≤ w.heap.size ∧ w.heap.size ≤ gR ∧ w.heap.size ≠ gR) := by
        rw [hgR]
        exact ⟨by omega, by omega, by omega⟩
      have HGR := hide hgR
      clear t1 t2 t3 hw1 hgR
      rw [← unhide HW]
      generalize hx : w.heap.size + 1 = gx at *
      have hgx : gR = gx := unhide HGR
      clear hx
      subst hgx
      refine (unhide hC w1 ((unhide HH).up (unhide HB))).mono ?_
      rintro e w2 ⟨rfl, b2⟩
      have HBX := hide ((unhide HB).trans (b2.mono (unhide HB).size))
      have HDT := hide ((unhide HH).up (unhide HBX))
      have HT2 := hide ((b2.block _ (lt_of_block (unhide HT))).trans (unhide HT))
      have HR2 := hide ((b2.block _ (lt_of_block (unhide HR))).trans (unhide HR))
      clear b2 hC hP
      obtain ⟨g, rfl, hra⟩ := (unhide HP).up (unhide HLT) (unhide HBX) i c hc
      rw [he] at hra
      have HRA : Hid (w2.rangeAt g (i * 10) [.int .i64 nd, .int .i64 px, .int .i64 py, .string hv, .bool wa, .bool op, .bool os, .int .i64 se, .int .i64 nw, .int .i64 ra]) := hra
      clear hra he hX2 hL2 hc
      have HMX : Hid (Mid B w w.heap.size gR room tmo (.slice (some ⟨g, 0, none⟩) m c0) (.slice a1 Bs.length c1) (.slice a1 Bs.length c1) L Bs w2) := ⟨unhide HT2, unhide HR2, unhide HDT, unhide HBX⟩
      have d2 := (four_cells (unhide HT2)).2.2.1
      have HRX := hide (rx_new (unhide HMX) #[.int .i64 nd, .int .i64 px, .int .i64 py, .string hv, .bool wa, .bool op, .bool os, .int .i64 se, .int .i64 nw, .int .i64 ra] #[.int .i64 0, .int .i64 0, .int .i64 0, .string ⟨#[]⟩, .bool false, .bool false, .bool false, .int .i64 0, .int .i64 0, .int .i64 0])
      go_wp2_with (first
        | (refine wpList_load_mid rfl 43 (.tmp 52) rfl g (i * 10) rfl [.int .i64 nd, .int .i64 px, .int .i64 py, .string hv, .bool wa, .bool op, .bool os, .int .i64 se, .int .i64 nw, .int .i64 ra] _ (unhide HRA) Try.underlying43 rfl (unhide HPL) ?_)
        | (refine wpList_store_row_to rfl 43 (.tmp 13) (.tmp 53) rfl w2.heap.size #[.int .i64 nd, .int .i64 px, .int .i64 py, .string hv, .bool wa, .bool op, .bool os, .int .i64 se, .int .i64 nw, .int .i64 ra] rfl rfl 43 #[.int .i64 0, .int .i64 0, .int .i64 0, .string ⟨#[]⟩, .bool false, .bool false, .bool false, .int .i64 0, .int .i64 0, .int .i64 0] (heap_alloc_new w2 _) (by kernel_rfl) (by rfl) (by simp [Value.oneCell']) (fun w' => RX B w gR room tmo (.slice (some ⟨g, 0, none⟩) m c0) (.slice a1 Bs.length c1) L Bs w2.heap.size #[.int .i64 nd, .int .i64 px, .int .i64 py, .string hv, .bool wa, .bool op, .bool os, .int .i64 se, .int .i64 nw, .int .i64 ra] w') (unhide HRX) ?_))
      intro w5 h5
      have H5 := hide h5
      clear h5 HRX
      clear d2
      have c3 := (unhide H5).cell 3 _ rfl
      have f3 := (unhide H5).free 3
      have H6 := hide ((unhide H5).set 3 (.string s))
      have HT6 := hide (unhide H6).mid.box
      have HP6 := hide (unhide H6).pb
      have HD6 := hide (unhide H6).mid.dt
      have HB6 := hide (unhide H6).mid.be
      have HA6 := hide (unhide H6).mid.ans
      generalize hgn : w2.heap.size = gN at *
      clear H5 H6 HMX HRA hgn HT2 HR2 HDT HBX
      have hW2 := hide (unhide hW X2 _ (unhide HD6) (Nat.le_trans (unhide HBW) (unhide HB6).size))
      rw [unhide HXC, ← unhide HL2] at hW2
      clear hW HXC
      go_wp2_with (first
        | (refine wpList_load_row rfl 29 (.tmp 5) rfl w.heap.size rfl 29 #[.int .i64 room, .int .i64 tmo, .slice (some ⟨g, 0, none⟩) m c0, .slice a1 Bs.length c1] (0, 0) _ (unhide HT6) Try.underlying29 rfl (by kernel_rfl) ?_)
        | (refine wpList_load_row rfl 43 (.tmp 13) rfl gN rfl 43 #[.int .i64 nd, .int .i64 px, .int .i64 py, .string s, .bool wa, .bool op, .bool os, .int .i64 se, .int .i64 nw, .int .i64 ra] (0, 0) _ (unhide HP6) Try.underlying43 rfl (by kernel_rfl) ?_))
      refine (unhide hW2).mono ?_
      rintro e w9 ⟨v, rfl, hd9, b9⟩
      have HR9 := hide ((b9.block _ (lt_of_block (unhide HA6))).trans (unhide HA6))
      have HF := hide (fin_put (room := room) (tmo := tmo) hd9 ((unhide HB6).trans (b9.mono (unhide HB6).size)) (unhide HR9) (unhide HG).2.1)
      have HOC : Hid ((#[.int .i64 room, .int .i64 tmo, v, .slice a1 Bs.length c1] : Array Value).all (·.oneCell') = true) := by
        obtain ⟨av, cv, rfl⟩ := ownDe_shape hd9.oL
        show _ = _
        simp [Value.oneCell']
      clear hd9 b9 hW2 HT6 HP6 HD6 HB6 HA6
      go_wp2_with (refine wpList_store_row_to rfl 29 (.tmp 10) (.tmp 96) rfl gR #[.int .i64 room, .int .i64 tmo, v, .slice a1 Bs.length c1] rfl rfl 29 zT (unhide HR9) (by kernel_rfl) (by rfl) (unhide HOC) (fun w' => Fin B w gR room tmo v (.slice a1 Bs.length c1) l2 Bs w') (unhide HF) ?_)
      intro w5 h5
      have H5 := hide h5
      clear h5
      go_wp2
      exact ret_row2 (p := 10) (q := 11) (ty := 29) (by kernel_rfl) gR 29 _ (0, 0) (.int .i64 0) _ rfl rfl (unhide H5).blk rfl Try.underlying29 (by kernel_rfl) ⟨_, _, rfl, (unhide H5).dt, (unhide H5).be⟩
end Go.Proofs.Ytbfakbooenmhoaa
namespace Go.Proofs.Ytbfakbooenmhoaa
open Go.RowKit
set_option linter.unusedVariables false
attribute [local go_sem] Oper.semAt_some

set_option maxRecDepth 100000 in
set_option maxHeartbeats 4000000 in
theorem dset2_any (B : Nat) (room tmo node n : Int) (s : ByteArray) (vL vB : Value) (L : List Pr) (Bs : List Int) (w : World) (h : Dt B w vL vB L Bs) (hB : B ≤ w.heap.size) (hS : ∀ c ∈ L, Bd c) :
    Calls Try.prog 56 #[tabV room tmo vL vB, .int .i64 node, .int .i64 2, .int .i64 n, .string s] w fun e w' => ∃ v vb, e = .returned (.tuple #[tabV room tmo v vb, .int .i64 (seE (sB2 n s) (fnd L node))]) ∧ Dt B w' v vb (seL (sB2 n s) (sX2 n s) L node) Bs ∧ Below w.heap.size w w' := by
  have HBW := hide hB
  have HS := hide hS
  have hC := hide (fun x (hx : Dt B x vL vB L Bs) => dfind_any B room tmo node vL vB L Bs x hx)
  have hW := hide (fun (X : Pr) x (hx : Dt B x vL vB L Bs) (hb : B ≤ x.heap.size) => dwith_any B room tmo X vL vB L Bs x hx hb)
  have hP := hide (fun w => dTick_any n w)
  clear hB hS
  have hb : sB2 n s = false := rfl
  rw [hb]
  clear hb
  rcases fnd_inv (L := L) (n := node) with hfn | ⟨i, c, hfi, hc, hcn⟩
  · rw [seL_no hfn]
    rw [hfn] at hC ⊢
    rw [show seE false (-1) = 4 from rfl]
    clear hfn
    obtain ⟨a0, c0, rfl, hp, hlt⟩ := own_des h.oL
    obtain ⟨a1, c1, rfl⟩ := ownI_shape h.oB
    have hn16 := h.nL
    have HH := hide h
    have HP := hide hp
    have HLT := hide (fun a ha => (hlt a ha).2)
    obtain ⟨i0, hi0, hz0, hz1, hz2⟩ := info_parts Try.infoDe
    have HPL : Hid ((Try.prog.info? 43).map (·.size) = some 10) := by
      show _ = _
      kernel_rfl
    generalize hm : L.length = m at *
    have HM := hide hm
    clear h hp hlt hm
    go_enter Try.func56, Try.ntmps56
    go_wp2_with fail
    obtain ⟨w1, hw1⟩ : ∃ w1, w1 = (w.alloc (.cells #[.int .i64 room, .int .i64 tmo, .slice a0 m c0, .slice a1 Bs.length c1] 29)).alloc (.cells #[.int .i64 0, .int .i64 0, .slice none 0 0, .slice none 0 0] 29) := ⟨_, rfl⟩
    obtain ⟨t1, t2, t3⟩ := two_boxes w #[.int .i64 room, .int .i64 tmo, .slice a0 m c0, .slice a1 Bs.length c1] #[.int .i64 0, .int .i64 0, .slice none 0 0, .slice none 0 0] 29 29
    rw [← hw1] at t1 t2 t3
    have HW : Hid (w1 = _) := hw1
    obtain ⟨gR, hgR⟩ : ∃ gR, gR = w.heap.size + 1 := ⟨_, rfl⟩
    rw [← hgR] at t2
    have HT := hide t1
    have HR := hide t2
    have HB := hide t3
    have HG : Hid (w.heap.size ≤ w.heap.size ∧ w.heap.size ≤ gR ∧ w.heap.size ≠ gR) := by
      rw [hgR]
      exact ⟨by omega, by omega, by omega⟩
    have HGR := hide hgR
    clear t1 t2 t3 hw1 hgR
    rw [← unhide HW]
    generalize hx : w.heap.size + 1 = gx at *
    have hgx : gR = gx := unhide HGR
    clear hx
    subst hgx
    refine (unhide hC w1 ((unhide HH).up (unhide HB))).mono ?_
    rintro e w2 ⟨rfl, b2⟩
    have HBX := hide ((unhide HB).trans (b2.mono (unhide HB).size))
    have HDT := hide ((unhide HH).up (unhide HBX))
    have HT2 := hide ((b2.block _ (lt_of_block (unhide HT))).trans (unhide HT))
    have HR2 := hide ((b2.block _ (lt_of_block (unhide HR))).trans (unhide HR))
    clear b2 hC hP
    clear hW
    have HF := hide (fin_put (room := room) (tmo := tmo) (unhide HDT) (unhide HBX) (unhide HR2) (unhide HG).2.1)
    go_wp2_with (first
      | (refine wpList_load_row rfl 29 (.tmp 5) rfl w.heap.size rfl 29 #[.int .i64 room, .int .i64 tmo, .slice a0 m c0, .slice a1 Bs.length c1] (0, 0) _ (unhide HT2) Try.underlying29 rfl (by kernel_rfl) ?_)
      | (refine wpList_store_row_to rfl 29 (.tmp 10) (.tmp 48) rfl gR #[.int .i64 room, .int .i64 tmo, .slice a0 m c0, .slice a1 Bs.length c1] rfl rfl 29 zT (unhide HR2) (by kernel_rfl) (by rfl) (by simp [Value.oneCell']) (fun w' => Fin B w gR room tmo (.slice a0 m c0) (.slice a1 Bs.length c1) (L) (Bs) w') (unhide HF) ?_))
    intro w5 h5
    have H5 := hide h5
    clear h5
    go_wp2
    exact ret_row2 (p := 10) (q := 11) (ty := 29) (by kernel_rfl) gR 29 _ (0, 0) (.int .i64 4) _ rfl rfl (unhide H5).blk rfl Try.underlying29 (by kernel_rfl) ⟨_, _, rfl, (unhide H5).dt, (unhide H5).be⟩
  · rw [hfi] at hC ⊢
    rw [show seE false (i : Int) = 0 by unfold seE; rw [if_neg (by decide), if_neg (by omega)]]
    clear hcn
    obtain ⟨l2, hl2⟩ : ∃ l2, l2 = seL false (sX2 n s) L node := ⟨_, rfl⟩
    rw [← hl2]
    have hL2 : l2 = wiL L (sX2 n s c) := hl2.trans (seL_at hfi hc)
    have hi16 := (List.getElem?_eq_some_iff.1 hc).1
    clear hl2 hfi
    obtain ⟨a0, c0, rfl, hp, hlt⟩ := own_des h.oL
    obtain ⟨a1, c1, rfl⟩ := ownI_shape h.oB
    have hn16 := h.nL
    have HH := hide h
    have HP := hide hp
    have HLT := hide (fun a ha => (hlt a ha).2)
    obtain ⟨i0, hi0, hz0, hz1, hz2⟩ := info_parts Try.infoDe
    have HPL : Hid ((Try.prog.info? 43).map (·.size) = some 10) := by
      show _ = _
      kernel_rfl
    generalize hm : L.length = m at *
    have HM := hide hm
    clear h hp hlt hm
    obtain ⟨nd, px, py, hv, wa, op, os, se, nw, ra, he⟩ : ∃ nd px py hv wa op os se nw ra, c = (⟨nd, px, py, hv, wa, op, os, se, nw, ra⟩ : Pr) := ⟨_, _, _, _, _, _, _, _, _, _, rfl⟩
    obtain ⟨X2, hX2⟩ : ∃ X2, X2 = sX2 n s c := ⟨_, rfl⟩
    rw [← hX2] at hL2
    have HL2 := hide hL2
    have hbd := unhide HS c (List.mem_of_getElem? hc)
    rw [he] at hX2 hbd
    by_cases hq : n = 1
    · have q8 : (n == 1) = true := by simpa using hq
      have HXC : Hid (X2.cl.toArray = #[.int .i64 nd, .int .i64 px, .int .i64 py, .string hv, .bool true, .bool op, .bool os, .int .i64 se, .int .i64 nw, .int .i64 ra]) := by
        show _ = _
        rw [hX2, hq]
        rfl
      clear hbd
      go_enter Try.func56, Try.ntmps56
      go_wp2_with fail
      obtain ⟨w1, hw1⟩ : ∃ w1, w1 = (w.alloc (.cells #[.int .i64 room, .int .i64 tmo, .slice a0 m c0, .slice a1 Bs.length c1] 29)).alloc (.cells #[.int .i64 0, .int .i64 0, .slice none 0 0, .slice none 0 0] 29) := ⟨_, rfl⟩
      obtain ⟨t1, t2, t3⟩ := two_boxes w #[.int .i64 room, .int .i64 tmo, .slice a0 m c0, .slice a1 Bs.length c1] #[.int .i64 0, .int .i64 0, .slice none 0 0, .slice none 0 0] 29 29
      rw [← hw1] at t1 t2 t3
      have HW : Hid (w1 = _) := hw1
      obtain ⟨gR, hgR⟩ : ∃ gR, gR = w.heap.size + 1 := ⟨_, rfl⟩
      rw [← hgR] at t2
      have HT := hide t1
      have HR := hide t2
      have HB := hide t3
      have HG : Hid (w.heap.size ≤ w.heap.size ∧ w.heap.size ≤ gR ∧ w.heap.size ≠ gR) := by
        rw [hgR]
        exact ⟨by omega, by omega, by omega⟩
      have HGR := hide hgR
      clear t1 t2 t3 hw1 hgR
      rw [← unhide HW]
      generalize hx : w.heap.size + 1 = gx at *
      have hgx : gR = gx := unhide HGR
      clear hx
      subst hgx
      refine (unhide hC w1 ((unhide HH).up (unhide HB))).mono ?_
      rintro e w2 ⟨rfl, b2⟩
      have HBX := hide ((unhide HB).trans (b2.mono (unhide HB).size))
      have HDT := hide ((unhide HH).up (unhide HBX))
      have HT2 := hide ((b2.block _ (lt_of_block (unhide HT))).trans (unhide HT))
      have HR2 := hide ((b2.block _ (lt_of_block (unhide HR))).trans (unhide HR))
      clear b2 hC hP
      obtain ⟨g, rfl, hra⟩ := (unhide HP).up (unhide HLT) (unhide HBX) i c hc
      rw [he] at hra
      have HRA : Hid (w2.rangeAt g (i * 10) [.int .i64 nd, .int .i64 px, .int .i64 py, .string hv, .bool wa, .bool op, .bool os, .int .i64 se, .int .i64 nw, .int .i64 ra]) := hra
      clear hra he hX2 hL2 hc
      have HMX : Hid (Mid B w w.heap.size gR room tmo (.slice (some ⟨g, 0, none⟩) m c0) (.slice a1 Bs.length c1) (.slice a1 Bs.length c1) L Bs w2) := ⟨unhide HT2, unhide HR2, unhide HDT, unhide HBX⟩
      have d2 := (four_cells (unhide HT2)).2.2.1
      have HRX := hide (rx_new (unhide HMX) #[.int .i64 nd, .int .i64 px, .int .i64 py, .string hv, .bool wa, .bool op, .bool os, .int .i64 se, .int .i64 nw, .int .i64 ra] #[.int .i64 0, .int .i64 0, .int .i64 0, .string ⟨#[]⟩, .bool false, .bool false, .bool false, .int .i64 0, .int .i64 0, .int .i64 0])
      go_wp2_with (first
        | (refine wpList_load_mid rfl 43 (.tmp 52) rfl g (i * 10) rfl [.int .i64 nd, .int .i64 px, .int .i64 py, .string hv, .bool wa, .bool op, .bool os, .int .i64 se, .int .i64 nw, .int .i64 ra] _ (unhide HRA) Try.underlying43 rfl (unhide HPL) ?_)
        | (refine wpList_store_row_to rfl 43 (.tmp 13) (.tmp 53) rfl w2.heap.size #[.int .i64 nd, .int .i64 px, .int .i64 py, .string hv, .bool wa, .bool op, .bool os, .int .i64 se, .int .i64 nw, .int .i64 ra] rfl rfl 43 #[.int .i64 0, .int .i64 0, .int .i64 0, .string ⟨#[]⟩, .bool false, .bool false, .bool false, .int .i64 0, .int .i64 0, .int .i64 0] (heap_alloc_new w2 _) (by kernel_rfl) (by rfl) (by simp [Value.oneCell']) (fun w' => RX B w gR room tmo (.slice (some ⟨g, 0, none⟩) m c0) (.slice a1 Bs.length c1) L Bs w2.heap.size #[.int .i64 nd, .int .i64 px, .int .i64 py, .string hv, .bool wa, .bool op, .bool os, .int .i64 se, .int .i64 nw, .int .i64 ra] w') (unhide HRX) ?_))
      intro w5 h5
      have H5 := hide h5
      clear h5 HRX
      clear d2
      have c4 := (unhide H5).cell 4 _ rfl
      have f4 := (unhide H5).free 4
      have H6 := hide ((unhide H5).set 4 (.bool true))
      have HT6 := hide (unhide H6).mid.box
      have HP6 := hide (unhide H6).pb
      have HD6 := hide (unhide H6).mid.dt
      have HB6 := hide (unhide H6).mid.be
      have HA6 := hide (unhide H6).mid.ans
      generalize hgn : w2.heap.size = gN at *
      clear H5 H6 HMX HRA hgn HT2 HR2 HDT HBX
      have hW2 := hide (unhide hW X2 _ (unhide HD6) (Nat.le_trans (unhide HBW) (unhide HB6).size))
      rw [unhide HXC, ← unhide HL2] at hW2
      clear hW HXC
      go_wp2_with (first
        | (refine wpList_load_row rfl 29 (.tmp 5) rfl w.heap.size rfl 29 #[.int .i64 room, .int .i64 tmo, .slice (some ⟨g, 0, none⟩) m c0, .slice a1 Bs.length c1] (0, 0) _ (unhide HT6) Try.underlying29 rfl (by kernel_rfl) ?_)
        | (refine wpList_load_row rfl 43 (.tmp 13) rfl gN rfl 43 #[.int .i64 nd, .int .i64 px, .int .i64 py, .string hv, .bool true, .bool op, .bool os, .int .i64 se, .int .i64 nw, .int .i64 ra] (0, 0) _ (unhide HP6) Try.underlying43 rfl (by kernel_rfl) ?_))
      refine (unhide hW2).mono ?_
      rintro e w9 ⟨v, rfl, hd9, b9⟩
      have HR9 := hide ((b9.block _ (lt_of_block (unhide HA6))).trans (unhide HA6))
      have HF := hide (fin_put (room := room) (tmo := tmo) hd9 ((unhide HB6).trans (b9.mono (unhide HB6).size)) (unhide HR9) (unhide HG).2.1)
      have HOC : Hid ((#[.int .i64 room, .int .i64 tmo, v, .slice a1 Bs.length c1] : Array Value).all (·.oneCell') = true) := by
        obtain ⟨av, cv, rfl⟩ := ownDe_shape hd9.oL
        show _ = _
        simp [Value.oneCell']
      clear hd9 b9 hW2 HT6 HP6 HD6 HB6 HA6
      go_wp2_with (refine wpList_store_row_to rfl 29 (.tmp 10) (.tmp 96) rfl gR #[.int .i64 room, .int .i64 tmo, v, .slice a1 Bs.length c1] rfl rfl 29 zT (unhide HR9) (by kernel_rfl) (by rfl) (unhide HOC) (fun w' => Fin B w gR room tmo v (.slice a1 Bs.length c1) l2 Bs w') (unhide HF) ?_)
      intro w5 h5
      have H5 := hide h5
      clear h5
      go_wp2
      exact ret_row2 (p := 10) (q := 11) (ty := 29) (by kernel_rfl) gR 29 _ (0, 0) (.int .i64 0) _ rfl rfl (unhide H5).blk rfl Try.underlying29 (by kernel_rfl) ⟨_, _, rfl, (unhide H5).dt, (unhide H5).be⟩
    · have q8 : (n == 1) = false := by simpa using hq
      have HXC : Hid (X2.cl.toArray = #[.int .i64 nd, .int .i64 px, .int .i64 py, .string hv, .bool false, .bool op, .bool os, .int .i64 se, .int .i64 nw, .int .i64 ra]) := by
        show _ = _
        rw [hX2]
        show (Pr.cl _).toArray = _
        unfold sX2 Pr.cl
        simp only
        rw [decide_eq_false hq]
      clear hbd
      go_enter Try.func56, Try.ntmps56
      go_wp2_with fail
      obtain ⟨w1, hw1⟩ : ∃ w1, w1 = (w.alloc (.cells #[.int .i64 room, .int .i64 tmo, .slice a0 m c0, .slice a1 Bs.length c1] 29)).alloc (.cells #[.int .i64 0, .int .i64 0, .slice none 0 0, .slice none 0 0] 29) := ⟨_, rfl⟩
      obtain ⟨t1, t2, t3⟩ := two_boxes w #[.int .i64 room, .int .i64 tmo, .slice a0 m c0, .slice a1 Bs.length c1] #[.int .i64 0, .int .i64 0, .slice none 0 0, .slice none 0 0] 29 29
      rw [← hw1] at t1 t2 t3
      have HW : Hid (w1 = _) := hw1
      obtain ⟨gR, hgR⟩ : ∃ gR, gR = w.heap.size + 1 := ⟨_, rfl⟩
      rw [← hgR] at t2
      have HT := hide t1
      have HR := hide t2
      have HB := hide t3
      have HG : Hid (w.heap.size ≤ w.heap.size ∧ w.heap.size ≤ gR ∧ w.heap.size ≠ gR) := by
        rw [hgR]
        exact ⟨by omega, by omega, by omega⟩
      have HGR := hide hgR
      clear t1 t2 t3 hw1 hgR
      rw [← unhide HW]
      generalize hx : w.heap.size + 1 = gx at *
      have hgx : gR = gx := unhide HGR
      clear hx
      subst hgx
      refine (unhide hC w1 ((unhide HH).up (unhide HB))).mono ?_
      rintro e w2 ⟨rfl, b2⟩
      have HBX := hide ((unhide HB).trans (b2.mono (unhide HB).size))
      have HDT := hide ((unhide HH).up (unhide HBX))
      have HT2 := hide ((b2.block _ (lt_of_block (unhide HT))).trans (unhide HT))
      have HR2 := hide ((b2.block _ (lt_of_block (unhide HR))).trans (unhide HR))
      clear b2 hC hP
      obtain ⟨g, rfl, hra⟩ := (unhide HP).up (unhide HLT) (unhide HBX) i c hc
      rw [he] at hra
      have HRA : Hid (w2.rangeAt g (i * 10) [.int .i64 nd, .int .i64 px, .int .i64 py, .string hv, .bool wa, .bool op, .bool os, .int .i64 se, .int .i64 nw, .int .i64 ra]) := hra
      clear hra he hX2 hL2 hc
      have HMX : Hid (Mid B w w.heap.size gR room tmo (.slice (some ⟨g, 0, none⟩) m c0) (.slice a1 Bs.length c1) (.slice a1 Bs.length c1) L Bs w2) := ⟨unhide HT2, unhide HR2, unhide HDT, unhide HBX⟩
      have d2 := (four_cells (unhide HT2)).2.2.1
      have HRX := hide (rx_new (unhide HMX) #[.int .i64 nd, .int .i64 px, .int .i64 py, .string hv, .bool wa, .bool op, .bool os, .int .i64 se, .int .i64 nw, .int .i64 ra] #[.int .i64 0, .int .i64 0, .int .i64 0, .string ⟨#[]⟩, .bool false, .bool false, .bool false, .int .i64 0, .int .i64 0, .int .i64 0])
      go_wp2_with (first
        | (refine wpList_load_mid rfl 43 (.tmp 52) rfl g (i * 10) rfl [.int .i64 nd, .int .i64 px, .int .i64 py, .string hv, .bool wa, .bool op, .bool os, .int .i64 se, .int .i64 nw, .int .i64 ra] _ (unhide HRA) Try.underlying43 rfl (unhide HPL) ?_)
        | (refine wpList_store_row_to rfl 43 (.tmp 13) (.tmp 53) rfl w2.heap.size #[.int .i64 nd, .int .i64 px, .int .i64 py, .string hv, .bool wa, .bool op, .bool os, .int .i64 se, .int .i64 nw, .int .i64 ra] rfl rfl 43 #[.int .i64 0, .int .i64 0, .int .i64 0, .string ⟨#[]⟩, .bool false, .bool false, .bool false, .int .i64 0, .int .i64 0, .int .i64 0] (heap_alloc_new w2 _) (by kernel_rfl) (by rfl) (by simp [Value.oneCell']) (fun w' => RX B w gR room tmo (.slice (some ⟨g, 0, none⟩) m c0) (.slice a1 Bs.length c1) L Bs w2.heap.size #[.int .i64 nd, .int .i64 px, .int .i64 py, .string hv, .bool wa, .bool op, .bool os, .int .i64 se, .int .i64 nw, .int .i64 ra] w') (unhide HRX) ?_))
      intro w5 h5
      have H5 := hide h5
      clear h5 HRX
      clear d2
      have c4 := (unhide H5).cell 4 _ rfl
      have f4 := (unhide H5).free 4
      have H6 := hide ((unhide H5).set 4 (.bool false))
      have HT6 := hide (unhide H6).mid.box
      have HP6 := hide (unhide H6).pb
      have HD6 := hide (unhide H6).mid.dt
      have HB6 := hide (unhide H6).mid.be
      have HA6 := hide (unhide H6).mid.ans
      generalize hgn : w2.heap.size = gN at *
      clear H5 H6 HMX HRA hgn HT2 HR2 HDT HBX
      have hW2 := hide (unhide hW X2 _ (unhide HD6) (Nat.le_trans (unhide HBW) (unhide HB6).size))
      rw [unhide HXC, ← unhide HL2] at hW2
      clear hW HXC
      go_wp2_with (first
        | (refine wpList_load_row rfl 29 (.tmp 5) rfl w.heap.size rfl 29 #[.int .i64 room, .int .i64 tmo, .slice (some ⟨g, 0, none⟩) m c0, .slice a1 Bs.length c1] (0, 0) _ (unhide HT6) Try.underlying29 rfl (by kernel_rfl) ?_)
        | (refine wpList_load_row rfl 43 (.tmp 13) rfl gN rfl 43 #[.int .i64 nd, .int .i64 px, .int .i64 py, .string hv, .bool false, .bool op, .bool os, .int .i64 se, .int .i64 nw, .int .i64 ra] (0, 0) _ (unhide HP6) Try.underlying43 rfl (by kernel_rfl) ?_))
      refine (unhide hW2).mono ?_
      rintro e w9 ⟨v, rfl, hd9, b9⟩
      have HR9 := hide ((b9.block _ (lt_of_block (unhide HA6))).trans (unhide HA6))
      have HF := hide (fin_put (room := room) (tmo := tmo) hd9 ((unhide HB6).trans (b9.mono (unhide HB6).size)) (unhide HR9) (unhide HG).2.1)
      have HOC : Hid ((#[.int .i64 room, .int .i64 tmo, v, .slice a1 Bs.length c1] : Array Value).all (·.oneCell') = true) := by
        obtain ⟨av, cv, rfl⟩ := ownDe_shape hd9.oL
        show _ = _
        simp [Value.oneCell']
      clear hd9 b9 hW2 HT6 HP6 HD6 HB6 HA6
      go_wp2_with (refine wpList_store_row_to rfl 29 (.tmp 10) (.tmp 96) rfl gR #[.int .i64 room, .int .i64 tmo, v, .slice a1 Bs.length c1] rfl rfl 29 zT (unhide HR9) (by kernel_rfl) (by rfl) (unhide HOC) (fun w' => Fin B w gR room tmo v (.slice a1 Bs.length c1) l2 Bs w') (unhide HF) ?_)
      intro w5 h5
      have H5 := hide h5
      clear h5
      go_wp2
      exact ret_row2 (p := 10) (q := 11) (ty := 29) (by kernel_rfl) gR 29 _ (0, 0) (.int .i64 0) _ rfl rfl (unhide H5).blk rfl Try.underlying29 (by kernel_rfl) ⟨_, _, rfl, (unhide H5).dt, (unhide H5).be⟩
end Go.Proofs.Ytbfakbooenmhoaa
namespace Go.Proofs.Ytbfakbooenmhoaa
open Go.RowKit
set_option linter.unusedVariables false
attribute [local go_sem] Oper.semAt_some

set_option maxRecDepth 100000 in
set_option maxHeartbeats 4000000 in
theorem dset3_any (B : Nat) (room tmo node n : Int) (s : ByteArray) (vL vB : Value) (L : List Pr) (Bs : List Int) (w : World) (h : Dt B w vL vB L Bs) (hB : B ≤ w.heap.size) (hS : ∀ c ∈ L, Bd c) :
    Calls Try.prog 56 #[tabV room tmo vL vB, .int .i64 node, .int .i64 3, .int .i64 n, .string s] w fun e w' => ∃ v vb, e = .returned (.tuple #[tabV room tmo v vb, .int .i64 (seE (sB3 n s) (fnd L node))]) ∧ Dt B w' v vb (seL (sB3 n s) (sX3 n s) L node) Bs ∧ Below w.heap.size w w' := by
  have HBW := hide hB
  have HS := hide hS
  have hC := hide (fun x (hx : Dt B x vL vB L Bs) => dfind_any B room tmo node vL vB L Bs x hx)
  have hW := hide (fun (X : Pr) x (hx : Dt B x vL vB L Bs) (hb : B ≤ x.heap.size) => dwith_any B room tmo X vL vB L Bs x hx hb)
  have hP := hide (fun w => dTick_any n w)
  clear hB hS
  have hb : sB3 n s = false := rfl
  rw [hb]
  clear hb
  rcases fnd_inv (L := L) (n := node) with hfn | ⟨i, c, hfi, hc, hcn⟩
  · rw [seL_no hfn]
    rw [hfn] at hC ⊢
    rw [show seE false (-1) = 4 from rfl]
    clear hfn
    obtain ⟨a0, c0, rfl, hp, hlt⟩ := own_des h.oL
    obtain ⟨a1, c1, rfl⟩ := ownI_shape h.oB
    have hn16 := h.nL
    have HH := hide h
    have HP := hide hp
    have HLT := hide (fun a ha => (hlt a ha).2)
    obtain ⟨i0, hi0, hz0, hz1, hz2⟩ := info_parts Try.infoDe
    have HPL : Hid ((Try.prog.info? 43).map (·.size) = some 10) := by
      show _ = _
      kernel_rfl
    generalize hm : L.length = m at *
    have HM := hide hm
    clear h hp hlt hm
    go_enter Try.func56, Try.ntmps56
    go_wp2_with fail
    obtain ⟨w1, hw1⟩ : ∃ w1, w1 = (w.alloc (.cells #[.int .i64 room, .int .i64 tmo, .slice a0 m c0, .slice a1 Bs.length c1] 29)).alloc (.cells #[.int .i64 0, .int .i64 0, .slice none 0 0, .slice none 0 0] 29) := ⟨_, rfl⟩
    obtain ⟨t1, t2, t3⟩ := two_boxes w #[.int .i64 room, .int .i64 tmo, .slice a0 m c0, .slice a1 Bs.length c1] #[.int .i64 0, .int .i64 0, .slice none 0 0, .slice none 0 0] 29 29
    rw [← hw1] at t1 t2 t3
    have HW : Hid (w1 = _) := hw1
    obtain ⟨gR, hgR⟩ : ∃ gR, gR = w.heap.size + 1 := ⟨_, rfl⟩
    rw [← hgR] at t2
    have HT := hide t1
    have HR := hide t2
    have HB := hide t3
    have HG : Hid (w.heap.size ≤ w.heap.size ∧ w.heap.size ≤ gR ∧ w.heap.size ≠ gR) := by
      rw [hgR]
      exact ⟨by omega, by omega, by omega⟩
    have HGR := hide hgR
    clear t1 t2 t3 hw1 hgR
    rw [← unhide HW]
    generalize hx : w.heap.size + 1 = gx at *
    have hgx : gR = gx := unhide HGR
    clear hx
    subst hgx
    refine (unhide hC w1 ((unhide HH).up (unhide HB))).mono ?_
    rintro e w2 ⟨rfl, b2⟩
    have HBX := hide ((unhide HB).trans (b2.mono (unhide HB).size))
    have HDT := hide ((unhide HH).up (unhide HBX))
    have HT2 := hide ((b2.block _ (lt_of_block (unhide HT))).trans (unhide HT))
    have HR2 := hide ((b2.block _ (lt_of_block (unhide HR))).trans (unhide HR))
    clear b2 hC hP
    clear hW
    have HF := hide (fin_put (room := room) (tmo := tmo) (unhide HDT) (unhide HBX) (unhide HR2) (unhide HG).2.1)
    go_wp2_with (first
      | (refine wpList_load_row rfl 29 (.tmp 5) rfl w.heap.size rfl 29 #[.int .i64 room, .int .i64 tmo, .slice a0 m c0, .slice a1 Bs.length c1] (0, 0) _ (unhide HT2) Try.underlying29 rfl (by kernel_rfl) ?_)
      | (refine wpList_store_row_to rfl 29 (.tmp 10) (.tmp 48) rfl gR #[.int .i64 room, .int .i64 tmo, .slice a0 m c0, .slice a1 Bs.length c1] rfl rfl 29 zT (unhide HR2) (by kernel_rfl) (by rfl) (by simp [Value.oneCell']) (fun w' => Fin B w gR room tmo (.slice a0 m c0) (.slice a1 Bs.length c1) (L) (Bs) w') (unhide HF) ?_))
    intro w5 h5
    have H5 := hide h5
    clear h5
    go_wp2
    exact ret_row2 (p := 10) (q := 11) (ty := 29) (by kernel_rfl) gR 29 _ (0, 0) (.int .i64 4) _ rfl rfl (unhide H5).blk rfl Try.underlying29 (by kernel_rfl) ⟨_, _, rfl, (unhide H5).dt, (unhide H5).be⟩
  · rw [hfi] at hC ⊢
    rw [show seE false (i : Int) = 0 by unfold seE; rw [if_neg (by decide), if_neg (by omega)]]
    clear hcn
    obtain ⟨l2, hl2⟩ : ∃ l2, l2 = seL false (sX3 n s) L node := ⟨_, rfl⟩
    rw [← hl2]
    have hL2 : l2 = wiL L (sX3 n s c) := hl2.trans (seL_at hfi hc)
    have hi16 := (List.getElem?_eq_some_iff.1 hc).1
    clear hl2 hfi
    obtain ⟨a0, c0, rfl, hp, hlt⟩ := own_des h.oL
    obtain ⟨a1, c1, rfl⟩ := ownI_shape h.oB
    have hn16 := h.nL
    have HH := hide h
    have HP := hide hp
    have HLT := hide (fun a ha => (hlt a ha).2)
    obtain ⟨i0, hi0, hz0, hz1, hz2⟩ := info_parts Try.infoDe
    have HPL : Hid ((Try.prog.info? 43).map (·.size) = some 10) := by
      show _ = _
      kernel_rfl
    generalize hm : L.length = m at *
    have HM := hide hm
    clear h hp hlt hm
    obtain ⟨nd, px, py, hv, wa, op, os, se, nw, ra, he⟩ : ∃ nd px py hv wa op os se nw ra, c = (⟨nd, px, py, hv, wa, op, os, se, nw, ra⟩ : Pr) := ⟨_, _, _, _, _, _, _, _, _, _, rfl⟩
    obtain ⟨X2, hX2⟩ : ∃ X2, X2 = sX3 n s c := ⟨_, rfl⟩
    rw [← hX2] at hL2
    have HL2 := hide hL2
    have hbd := unhide HS c (List.mem_of_getElem? hc)
    rw [he] at hX2 hbd
    by_cases hq : n = 1
    · have q8 : (n == 1) = true := by simpa using hq
      have HXC : Hid (X2.cl.toArray = #[.int .i64 nd, .int .i64 px, .int .i64 py, .string hv, .bool wa, .bool true, .bool os, .int .i64 se, .int .i64 nw, .int .i64 ra]) := by
        show _ = _
        rw [hX2, hq]
        rfl
      clear hbd
      go_enter Try.func56, Try.ntmps56
      go_wp2_with fail
      obtain ⟨w1, hw1⟩ : ∃ w1, w1 = (w.alloc (.cells #[.int .i64 room, .int .i64 tmo, .slice a0 m c0, .slice a1 Bs.length c1] 29)).alloc (.cells #[.int .i64 0, .int .i64 0, .slice none 0 0, .slice none 0 0] 29) := ⟨_, rfl⟩
      obtain ⟨t1, t2, t3⟩ := two_boxes w #[.int .i64 room, .int .i64 tmo, .slice a0 m c0, .slice a1 Bs.length c1] #[.int .i64 0, .int .i64 0, .slice none 0 0, .slice none 0 0] 29 29
      rw [← hw1] at t1 t2 t3
      have HW : Hid (w1 = _) := hw1
      obtain ⟨gR, hgR⟩ : ∃ gR, gR = w.heap.size + 1 := ⟨_, rfl⟩
      rw [← hgR] at t2
      have HT := hide t1
      have HR := hide t2
      have HB := hide t3
      have HG : Hid (w.heap.size ≤ w.heap.size ∧ w.heap.size ≤ gR ∧ w.heap.size ≠ gR) := by
        rw [hgR]
        exact ⟨by omega, by omega, by omega⟩
      have HGR := hide hgR
      clear t1 t2 t3 hw1 hgR
      rw [← unhide HW]
      generalize hx : w.heap.size + 1 = gx at *
      have hgx : gR = gx := unhide HGR
      clear hx
      subst hgx
      refine (unhide hC w1 ((unhide HH).up (unhide HB))).mono ?_
      rintro e w2 ⟨rfl, b2⟩
      have HBX := hide ((unhide HB).trans (b2.mono (unhide HB).size))
      have HDT := hide ((unhide HH).up (unhide HBX))
      have HT2 := hide ((b2.block _ (lt_of_block (unhide HT))).trans (unhide HT))
      have HR2 := hide ((b2.block _ (lt_of_block (unhide HR))).trans (unhide HR))
      clear b2 hC hP
      obtain ⟨g, rfl, hra⟩ := (unhide HP).up (unhide HLT) (unhide HBX) i c hc
      rw [he] at hra
      have HRA : Hid (w2.rangeAt g (i * 10) [.int .i64 nd, .int .i64 px, .int .i64 py, .string hv, .bool wa, .bool op, .bool os, .int .i64 se, .int .i64 nw, .int .i64 ra]) := hra
      clear hra he hX2 hL2 hc
      have HMX : Hid (Mid B w w.heap.size gR room tmo (.slice (some ⟨g, 0, none⟩) m c0) (.slice a1 Bs.length c1) (.slice a1 Bs.length c1) L Bs w2) := ⟨unhide HT2, unhide HR2, unhide HDT, unhide HBX⟩
      have d2 := (four_cells (unhide HT2)).2.2.1
      have HRX := hide (rx_new (unhide HMX) #[.int .i64 nd, .int .i64 px, .int .i64 py, .string hv, .bool wa, .bool op, .bool os, .int .i64 se, .int .i64 nw, .int .i64 ra] #[.int .i64 0, .int .i64 0, .int .i64 0, .string ⟨#[]⟩, .bool false, .bool false, .bool false, .int .i64 0, .int .i64 0, .int .i64 0])
      go_wp2_with (first
        | (refine wpList_load_mid rfl 43 (.tmp 52) rfl g (i * 10) rfl [.int .i64 nd, .int .i64 px, .int .i64 py, .string hv, .bool wa, .bool op, .bool os, .int .i64 se, .int .i64 nw, .int .i64 ra] _ (unhide HRA) Try.underlying43 rfl (unhide HPL) ?_)
        | (refine wpList_store_row_to rfl 43 (.tmp 13) (.tmp 53) rfl w2.heap.size #[.int .i64 nd, .int .i64 px, .int .i64 py, .string hv, .bool wa, .bool op, .bool os, .int .i64 se, .int .i64 nw, .int .i64 ra] rfl rfl 43 #[.int .i64 0, .int .i64 0, .int .i64 0, .string ⟨#[]⟩, .bool false, .bool false, .bool false, .int .i64 0, .int .i64 0, .int .i64 0] (heap_alloc_new w2 _) (by kernel_rfl) (by rfl) (by simp [Value.oneCell']) (fun w' => RX B w gR room tmo (.slice (some ⟨g, 0, none⟩) m c0) (.slice a1 Bs.length c1) L Bs w2.heap.size #[.int .i64 nd, .int .i64 px, .int .i64 py, .string hv, .bool wa, .bool op, .bool os, .int .i64 se, .int .i64 nw, .int .i64 ra] w') (unhide HRX) ?_))
      intro w5 h5
      have H5 := hide h5
      clear h5 HRX
      clear d2
      have c5 := (unhide H5).cell 5 _ rfl
      have f5 := (unhide H5).free 5
      have H6 := hide ((unhide H5).set 5 (.bool true))
      have HT6 := hide (unhide H6).mid.box
      have HP6 := hide (unhide H6).pb
      have HD6 := hide (unhide H6).mid.dt
      have HB6 := hide (unhide H6).mid.be
      have HA6 := hide (unhide H6).mid.ans
      generalize hgn : w2.heap.size = gN at *
      clear H5 H6 HMX HRA hgn HT2 HR2 HDT HBX
      have hW2 := hide (unhide hW X2 _ (unhide HD6) (Nat.le_trans (unhide HBW) (unhide HB6).size))
      rw [unhide HXC, ← unhide HL2] at hW2
      clear hW HXC
      go_wp2_with (first
        | (refine wpList_load_row rfl 29 (.tmp 5) rfl w.heap.size rfl 29 #[.int .i64 room, .int .i64 tmo, .slice (some ⟨g, 0, none⟩) m c0, .slice a1 Bs.length c1] (0, 0) _ (unhide HT6) Try.underlying29 rfl (by kernel_rfl) ?_)
        | (refine wpList_load_row rfl 43 (.tmp 13) rfl gN rfl 43 #[.int .i64 nd, .int .i64 px, .int .i64 py, .string hv, .bool wa, .bool true, .bool os, .int .i64 se, .int .i64 nw, .int .i64 ra] (0, 0) _ (unhide HP6) Try.underlying43 rfl (by kernel_rfl) ?_))
      refine (unhide hW2).mono ?_
      rintro e w9 ⟨v, rfl, hd9, b9⟩
      have HR9 := hide ((b9.block _ (lt_of_block (unhide HA6))).trans (unhide HA6))
      have HF := hide (fin_put (room := room) (tmo := tmo) hd9 ((unhide HB6).trans (b9.mono (unhide HB6).size)) (unhide HR9) (unhide HG).2.1)
      have HOC : Hid ((#[.int .i64 room, .int .i64 tmo, v, .slice a1 Bs.length c1] : Array Value).all (·.oneCell') = true) := by
        obtain ⟨av, cv, rfl⟩ := ownDe_shape hd9.oL
        show _ = _
        simp [Value.oneCell']
      clear hd9 b9 hW2 HT6 HP6 HD6 HB6 HA6
      go_wp2_with (refine wpList_store_row_to rfl 29 (.tmp 10) (.tmp 96) rfl gR #[.int .i64 room, .int .i64 tmo, v, .slice a1 Bs.length c1] rfl rfl 29 zT (unhide HR9) (by kernel_rfl) (by rfl) (unhide HOC) (fun w' => Fin B w gR room tmo v (.slice a1 Bs.length c1) l2 Bs w') (unhide HF) ?_)
      intro w5 h5
      have H5 := hide h5
      clear h5
      go_wp2
      exact ret_row2 (p := 10) (q := 11) (ty := 29) (by kernel_rfl) gR 29 _ (0, 0) (.int .i64 0) _ rfl rfl (unhide H5).blk rfl Try.underlying29 (by kernel_rfl) ⟨_, _, rfl, (unhide H5).dt, (unhide H5).be⟩
    · have q8 : (n == 1) = false := by simpa using hq
      have HXC : Hid (X2.cl.toArray = #[.int .i64 nd, .int .i64 px, .int .i64 py, .string hv, .bool wa, .bool false, .bool os, .int .i64 se, .int .i64 nw, .int .i64 ra]) := by
        show _ = _
        rw [hX2]
        show (Pr.cl _).toArray = _
        unfold sX3 Pr.cl
        simp only
        rw [decide_eq_false hq]
      clear hbd
      go_enter Try.func56, Try.ntmps56
      go_wp2_with fail
      obtain ⟨w1, hw1⟩ : ∃ w1, w1 = (w.alloc (.cells #[.int .i64 room, .int .i64 tmo, .slice a0 m c0, .slice a1 Bs.length c1] 29)).alloc (.cells #[.int .i64 0, .int .i64 0, .slice none 0 0, .slice none 0 0] 29) := ⟨_, rfl⟩
      obtain ⟨t1, t2, t3⟩ := two_boxes w #[.int .i64 room, .int .i64 tmo, .slice a0 m c0, .slice a1 Bs.length c1] #[.int .i64 0, .int .i64 0, .slice none 0 0, .slice none 0 0] 29 29
      rw [← hw1] at t1 t2 t3
      have HW : Hid (w1 = _) := hw1
      obtain ⟨gR, hgR⟩ : ∃ gR, gR = w.heap.size + 1 := ⟨_, rfl⟩
      rw [← hgR] at t2
      have HT := hide t1
      have HR := hide t2
      have HB := hide t3
      have HG : Hid (w.heap.size ≤ w.heap.size ∧ w.heap.size ≤ gR ∧ w.heap.size ≠ gR) := by
        rw [hgR]
        exact ⟨by omega, by omega, by omega⟩
      have HGR := hide hgR
      clear t1 t2 t3 hw1 hgR
      rw [← unhide HW]
      generalize hx : w.heap.size + 1 = gx at *
      have hgx : gR = gx := unhide HGR
      clear hx
      subst hgx
      refine (unhide hC w1 ((unhide HH).up (unhide HB))).mono ?_
      rintro e w2 ⟨rfl, b2⟩
      have HBX := hide ((unhide HB).trans (b2.mono (unhide HB).size))
      have HDT := hide ((unhide HH).up (unhide HBX))
      have HT2 := hide ((b2.block _ (lt_of_block (unhide HT))).trans (unhide HT))
      have HR2 := hide ((b2.block _ (lt_of_block (unhide HR))).trans (unhide HR))
      clear b2 hC hP
      obtain ⟨g, rfl, hra⟩ := (unhide HP).up (unhide HLT) (unhide HBX) i c hc
      rw [he] at hra
      have HRA : Hid (w2.rangeAt g (i * 10) [.int .i64 nd, .int .i64 px, .int .i64 py, .string hv, .bool wa, .bool op, .bool os, .int .i64 se, .int .i64 nw, .int .i64 ra]) := hra
      clear hra he hX2 hL2 hc
      have HMX : Hid (Mid B w w.heap.size gR room tmo (.slice (some ⟨g, 0, none⟩) m c0) (.slice a1 Bs.length c1) (.slice a1 Bs.length c1) L Bs w2) := ⟨unhide HT2, unhide HR2, unhide HDT, unhide HBX⟩
      have d2 := (four_cells (unhide HT2)).2.2.1
      have HRX := hide (rx_new (unhide HMX) #[.int .i64 nd, .int .i64 px, .int .i64 py, .string hv, .bool wa, .bool op, .bool os, .int .i64 se, .int .i64 nw, .int .i64 ra] #[.int .i64 0, .int .i64 0, .int .i64 0, .string ⟨#[]⟩, .bool false, .bool false, .bool false, .int .i64 0, .int .i64 0, .int .i64 0])
      go_wp2_with (first
        | (refine wpList_load_mid rfl 43 (.tmp 52) rfl g (i * 10) rfl [.int .i64 nd, .int .i64 px, .int .i64 py, .string hv, .bool wa, .bool op, .bool os, .int .i64 se, .int .i64 nw, .int .i64 ra] _ (unhide HRA) Try.underlying43 rfl (unhide HPL) ?_)
        | (refine wpList_store_row_to rfl 43 (.tmp 13) (.tmp 53) rfl w2.heap.size #[.int .i64 nd, .int .i64 px, .int .i64 py, .string hv, .bool wa, .bool op, .bool os, .int .i64 se, .int .i64 nw, .int .i64 ra] rfl rfl 43 #[.int .i64 0, .int .i64 0, .int .i64 0, .string ⟨#[]⟩, .bool false, .bool false, .bool false, .int .i64 0, .int .i64 0, .int .i64 0] (heap_alloc_new w2 _) (by kernel_rfl) (by rfl) (by simp [Value.oneCell']) (fun w' => RX B w gR room tmo (.slice (some ⟨g, 0, none⟩) m c0) (.slice a1 Bs.length c1) L Bs w2.heap.size #[.int .i64 nd, .int .i64 px, .int .i64 py, .string hv, .bool wa, .bool op, .bool os, .int .i64 se, .int .i64 nw, .int .i64 ra] w') (unhide HRX) ?_))
      intro w5 h5
      have H5 := hide h5
      clear h5 HRX
      clear d2
      have c5 := (unhide H5).cell 5 _ rfl
      have f5 := (unhide H5).free 5
      have H6 := hide ((unhide H5).set 5 (.bool false))
      have HT6 := hide (unhide H6).mid.box
      have HP6 := hide (unhide H6).pb
      have HD6 := hide (unhide H6).mid.dt
      have HB6 := hide (unhide H6).mid.be
      have HA6 := hide (unhide H6).mid.ans
      generalize hgn : w2.heap.size = gN at *
      clear H5 H6 HMX HRA hgn HT2 HR2 HDT HBX
      have hW2 := hide (unhide hW X2 _ (unhide HD6) (Nat.le_trans (unhide HBW) (unhide HB6).size))
      rw [unhide HXC, ← unhide HL2] at hW2
      clear hW HXC
      go_wp2_with (first
        | (refine wpList_load_row rfl 29 (.tmp 5) rfl w.heap.size rfl 29 #[.int .i64 room, .int .i64 tmo, .slice (some ⟨g, 0, none⟩) m c0, .slice a1 Bs.length c1] (0, 0) _ (unhide HT6) Try.underlying29 rfl (by kernel_rfl) ?_)
        | (refine wpList_load_row rfl 43 (.tmp 13) rfl gN rfl 43 #[.int .i64 nd, .int .i64 px, .int .i64 py, .string hv, .bool wa, .bool false, .bool os, .int .i64 se, .int .i64 nw, .int .i64 ra] (0, 0) _ (unhide HP6) Try.underlying43 rfl (by kernel_rfl) ?_))
      refine (unhide hW2).mono ?_
      rintro e w9 ⟨v, rfl, hd9, b9⟩
      have HR9 := hide ((b9.block _ (lt_of_block (unhide HA6))).trans (unhide HA6))
      have HF := hide (fin_put (room := room) (tmo := tmo) hd9 ((unhide HB6).trans (b9.mono (unhide HB6).size)) (unhide HR9) (unhide HG).2.1)
      have HOC : Hid ((#[.int .i64 room, .int .i64 tmo, v, .slice a1 Bs.length c1] : Array Value).all (·.oneCell') = true) := by
        obtain ⟨av, cv, rfl⟩ := ownDe_shape hd9.oL
        show _ = _
        simp [Value.oneCell']
      clear hd9 b9 hW2 HT6 HP6 HD6 HB6 HA6
      go_wp2_with (refine wpList_store_row_to rfl 29 (.tmp 10) (.tmp 96) rfl gR #[.int .i64 room, .int .i64 tmo, v, .slice a1 Bs.length c1] rfl rfl 29 zT (unhide HR9) (by kernel_rfl) (by rfl) (unhide HOC) (fun w' => Fin B w gR room tmo v (.slice a1 Bs.length c1) l2 Bs w') (unhide HF) ?_)
      intro w5 h5
      have H5 := hide h5
      clear h5
      go_wp2
      exact ret_row2 (p := 10) (q := 11) (ty := 29) (by kernel_rfl) gR 29 _ (0, 0) (.int .i64 0) _ rfl rfl (unhide H5).blk rfl Try.underlying29 (by kernel_rfl) ⟨_, _, rfl, (unhide H5).dt, (unhide H5).be⟩
end Go.Proofs.Ytbfakbooenmhoaa
namespace Go.Proofs.Ytbfakbooenmhoaa
open Go.RowKit
set_option linter.unusedVariables false
attribute [local go_sem] Oper.semAt_some

set_option maxRecDepth 100000 in
set_option maxHeartbeats 4000000 in
theorem dset4_any (B : Nat) (room tmo node n : Int) (s : ByteArray) (vL vB : Value) (L : List Pr) (Bs : List Int) (w : World) (h : Dt B w vL vB L Bs) (hB : B ≤ w.heap.size) (hS : ∀ c ∈ L, Bd c) :
    Calls Try.prog 56 #[tabV room tmo vL vB, .int .i64 node, .int .i64 4, .int .i64 n, .string s] w fun e w' => ∃ v vb, e = .returned (.tuple #[tabV room tmo v vb, .int .i64 (seE (sB4 n s) (fnd L node))]) ∧ Dt B w' v vb (seL (sB4 n s) (sX4 n s) L node) Bs ∧ Below w.heap.size w w' := by
  have HBW := hide hB
  have HS := hide hS
  have hC := hide (fun x (hx : Dt B x vL vB L Bs) => dfind_any B room tmo node vL vB L Bs x hx)
  have hW := hide (fun (X : Pr) x (hx : Dt B x vL vB L Bs) (hb : B ≤ x.heap.size) => dwith_any B room tmo X vL vB L Bs x hx hb)
  have hP := hide (fun w => dTick_any n w)
  clear hB hS
  have hb : sB4 n s = false := rfl
  rw [hb]
  clear hb
  rcases fnd_inv (L := L) (n := node) with hfn | ⟨i, c, hfi, hc, hcn⟩
  · rw [seL_no hfn]
    rw [hfn] at hC ⊢
    rw [show seE false (-1) = 4 from rfl]
    clear hfn
    obtain ⟨a0, c0, rfl, hp, hlt⟩ := own_des h.oL
    obtain ⟨a1, c1, rfl⟩ := ownI_shape h.oB
    have hn16 := h.nL
    have HH := hide h
    have HP := hide hp
    have HLT := hide (fun a ha => (hlt a ha).2)
    obtain ⟨i0, hi0, hz0, hz1, hz2⟩ := info_parts Try.infoDe
    have HPL : Hid ((Try.prog.info? 43).map (·.size) = some 10) := by
      show _ = _
      kernel_rfl
    generalize hm : L.length = m at *
    have HM := hide hm
    clear h hp hlt hm
    go_enter Try.func56, Try.ntmps56
    go_wp2_with fail
    obtain ⟨w1, hw1⟩ : ∃ w1, w1 = (w.alloc (.cells #[.int .i64 room, .int .i64 tmo, .slice a0 m c0, .slice a1 Bs.length c1] 29)).alloc (.cells #[.int .i64 0, .int .i64 0, .slice none 0 0, .slice none 0 0] 29) := ⟨_, rfl⟩
    obtain ⟨t1, t2, t3⟩ := two_boxes w #[.int .i64 room, .int .i64 tmo, .slice a0 m c0, .slice a1 Bs.length c1] #[.int .i64 0, .int .i64 0, .slice none 0 0, .slice none 0 0] 29 29
    rw [← hw1] at t1 t2 t3
    have HW : Hid (w1 = _) := hw1
    obtain ⟨gR, hgR⟩ : ∃ gR, gR = w.heap.size + 1 := ⟨_, rfl⟩
    rw [← hgR] at t2
    have HT := hide t1
    have HR := hide t2
    have HB := hide t3
    have HG : Hid (w.heap.size ≤ w.heap.size ∧ w.heap.size ≤ gR ∧ w.heap.size ≠ gR) := by
      rw [hgR]
      exact ⟨by omega, by omega, by omega⟩
    have HGR := hide hgR
    clear t1 t2 t3 hw1 hgR
    rw [← unhide HW]
    generalize hx : w.heap.size + 1 = gx at *
    have hgx : gR = gx := unhide HGR
    clear hx
    subst hgx
    refine (unhide hC w1 ((unhide HH).up (unhide HB))).mono ?_
    rintro e w2 ⟨rfl, b2⟩
    have HBX := hide ((unhide HB).trans (b2.mono (unhide HB).size))
    have HDT := hide ((unhide HH).up (unhide HBX))
    have HT2 := hide ((b2.block _ (lt_of_block (unhide HT))).trans (unhide HT))
    have HR2 := hide ((b2.block _ (lt_of_block (unhide HR))).trans (unhide HR))
    clear b2 hC hP
    clear hW
    have HF := hide (fin_put (room := room) (tmo := tmo) (unhide HDT) (unhide HBX) (unhide HR2) (unhide HG).2.1)
    go_wp2_with (first
      | (refine wpList_load_row rfl 29 (.tmp 5) rfl w.heap.size rfl 29 #[.int .i64 room, .int .i64 tmo, .slice a0 m c0, .slice a1 Bs.length c1] (0, 0) _ (unhide HT2) Try.underlying29 rfl (by kernel_rfl) ?_)
      | (refine wpList_store_row_to rfl 29 (.tmp 10) (.tmp 48) rfl gR #[.int .i64 room, .int .i64 tmo, .slice a0 m c0, .slice a1 Bs.length c1] rfl rfl 29 zT (unhide HR2) (by kernel_rfl) (by rfl) (by simp [Value.oneCell']) (fun w' => Fin B w gR room tmo (.slice a0 m c0) (.slice a1 Bs.length c1) (L) (Bs) w') (unhide HF) ?_))
    intro w5 h5
    have H5 := hide h5
    clear h5
    go_wp2
    exact ret_row2 (p := 10) (q := 11) (ty := 29) (by kernel_rfl) gR 29 _ (0, 0) (.int .i64 4) _ rfl rfl (unhide H5).blk rfl Try.underlying29 (by kernel_rfl) ⟨_, _, rfl, (unhide H5).dt, (unhide H5).be⟩
  · rw [hfi] at hC ⊢
    rw [show seE false (i : Int) = 0 by unfold seE; rw [if_neg (by decide), if_neg (by omega)]]
    clear hcn
    obtain ⟨l2, hl2⟩ : ∃ l2, l2 = seL false (sX4 n s) L node := ⟨_, rfl⟩
    rw [← hl2]
    have hL2 : l2 = wiL L (sX4 n s c) := hl2.trans (seL_at hfi hc)
    have hi16 := (List.getElem?_eq_some_iff.1 hc).1
    clear hl2 hfi
    obtain ⟨a0, c0, rfl, hp, hlt⟩ := own_des h.oL
    obtain ⟨a1, c1, rfl⟩ := ownI_shape h.oB
    have hn16 := h.nL
    have HH := hide h
    have HP := hide hp
    have HLT := hide (fun a ha => (hlt a ha).2)
    obtain ⟨i0, hi0, hz0, hz1, hz2⟩ := info_parts Try.infoDe
    have HPL : Hid ((Try.prog.info? 43).map (·.size) = some 10) := by
      show _ = _
      kernel_rfl
    generalize hm : L.length = m at *
    have HM := hide hm
    clear h hp hlt hm
    obtain ⟨nd, px, py, hv, wa, op, os, se, nw, ra, he⟩ : ∃ nd px py hv wa op os se nw ra, c = (⟨nd, px, py, hv, wa, op, os, se, nw, ra⟩ : Pr) := ⟨_, _, _, _, _, _, _, _, _, _, rfl⟩
    obtain ⟨X2, hX2⟩ : ∃ X2, X2 = sX4 n s c := ⟨_, rfl⟩
    rw [← hX2] at hL2
    have HL2 := hide hL2
    have hbd := unhide HS c (List.mem_of_getElem? hc)
    rw [he] at hX2 hbd
    by_cases hq : n = 1
    · have q8 : (n == 1) = true := by simpa using hq
      have HXC : Hid (X2.cl.toArray = #[.int .i64 nd, .int .i64 px, .int .i64 py, .string hv, .bool wa, .bool op, .bool true, .int .i64 se, .int .i64 nw, .int .i64 ra]) := by
        show _ = _
        rw [hX2, hq]
        rfl
      clear hbd
      go_enter Try.func56, Try.ntmps56
      go_wp2_with fail
      obtain ⟨w1, hw1⟩ : ∃ w1, w1 = (w.alloc (.cells #[.int .i64 room, .int .i64 tmo, .slice a0 m c0, .slice a1 Bs.length c1] 29)).alloc (.cells #[.int .i64 0, .int .i64 0, .slice none 0 0, .slice none 0 0] 29) := ⟨_, rfl⟩
      obtain ⟨t1, t2, t3⟩ := two_boxes w #[.int .i64 room, .int .i64 tmo, .slice a0 m c0, .slice a1 Bs.length c1] #[.int .i64 0, .int .i64 0, .slice none 0 0, .slice none 0 0] 29 29
      rw [← hw1] at t1 t2 t3
      have HW : Hid (w1 = _) := hw1
      obtain ⟨gR, hgR⟩ : ∃ gR, gR = w.heap.size + 1 := ⟨_, rfl⟩
      rw [← hgR] at t2
      have HT := hide t1
      have HR := hide t2
      have HB := hide t3
      have HG : Hid (w.heap.size ≤ w.heap.size ∧ w.heap.size ≤ gR ∧ w.heap.size ≠ gR) := by
        rw [hgR]
        exact ⟨by omega, by omega, by omega⟩
      have HGR := hide hgR
      clear t1 t2 t3 hw1 hgR
      rw [← unhide HW]
      generalize hx : w.heap.size + 1 = gx at *
      have hgx : gR = gx := unhide HGR
      clear hx
      subst hgx
      refine (unhide hC w1 ((unhide HH).up (unhide HB))).mono ?_
      rintro e w2 ⟨rfl, b2⟩
      have HBX := hide ((unhide HB).trans (b2.mono (unhide HB).size))
      have HDT := hide ((unhide HH).up (unhide HBX))
      have HT2 := hide ((b2.block _ (lt_of_block (unhide HT))).trans (unhide HT))
      have HR2 := hide ((b2.block _ (lt_of_block (unhide HR))).trans (unhide HR))
      clear b2 hC hP
      obtain ⟨g, rfl, hra⟩ := (unhide HP).up (unhide HLT) (unhide HBX) i c hc
      rw [he] at hra
      have HRA : Hid (w2.rangeAt g (i * 10) [.int .i64 nd, .int .i64 px, .int .i64 py, .string hv, .bool wa, .bool op, .bool os, .int .i64 se, .int .i64 nw, .int .i64 ra]) := hra
      clear hra he hX2 hL2 hc
      have HMX : Hid (Mid B w w.heap.size gR room tmo (.slice (some ⟨g, 0, none⟩) m c0) (.slice a1 Bs.length c1) (.slice a1 Bs.length c1) L Bs w2) := ⟨unhide HT2, unhide HR2, unhide HDT, unhide HBX⟩
      have d2 := (four_cells (unhide HT2)).2.2.1
      have HRX := hide (rx_new (unhide HMX) #[.int .i64 nd, .int .i64 px, .int .i64 py, .string hv, .bool wa, .bool op, .bool os, .int .i64 se, .int .i64 nw, .int .i64 ra] #[.int .i64 0, .int .i64 0, .int .i64 0, .string ⟨#[]⟩, .bool false, .bool false, .bool false, .int .i64 0, .int .i64 0, .int .i64 0])
      go_wp2_with (first
        | (refine wpList_load_mid rfl 43 (.tmp 52) rfl g (i * 10) rfl [.int .i64 nd, .int .i64 px, .int .i64 py, .string hv, .bool wa, .bool op, .bool os, .int .i64 se, .int .i64 nw, .int .i64 ra] _ (unhide HRA) Try.underlying43 rfl (unhide HPL) ?_)
        | (refine wpList_store_row_to rfl 43 (.tmp 13) (.tmp 53) rfl w2.heap.size #[.int .i64 nd, .int .i64 px, .int .i64 py, .string hv, .bool wa, .bool op, .bool os, .int .i64 se, .int .i64 nw, .int .i64 ra] rfl rfl 43 #[.int .i64 0, .int .i64 0, .int .i64 0, .string ⟨#[]⟩, .bool false, .bool false, .bool false, .int .i64 0, .int .i64 0, .int .i64 0] (heap_alloc_new w2 _) (by kernel_rfl) (by rfl) (by simp [Value.oneCell']) (fun w' => RX B w gR room tmo (.slice (some ⟨g, 0, none⟩) m c0) (.slice a1 Bs.length c1) L Bs w2.heap.size #[.int .i64 nd, .int .i64 px, .int .i64 py, .string hv, .bool wa, .bool op, .bool os, .int .i64 se, .int .i64 nw, .int .i64 ra] w') (unhide HRX) ?_))
      intro w5 h5
      have H5 := hide h5
      clear h5 HRX
      clear d2
      have c6 := (unhide H5).cell 6 _ rfl
      have f6 := (unhide H5).free 6
      have H6 := hide ((unhide H5).set 6 (.bool true))
      have HT6 := hide (unhide H6).mid.box
      have HP6 := hide (unhide H6).pb
      have HD6 := hide (unhide H6).mid.dt
      have HB6 := hide (unhide H6).mid.be
      have HA6 := hide (unhide H6).mid.ans
      generalize hgn : w2.heap.size = gN at *
      clear H5 H6 HMX HRA hgn HT2 HR2 HDT HBX
      have hW2 := hide (unhide hW X2 _ (unhide HD6) (Nat.le_trans (unhide HBW) (unhide HB6).size))
      rw [unhide HXC, ← unhide HL2] at hW2
      clear hW HXC
      go_wp2_with (first
        | (refine wpList_load_row rfl 29 (.tmp 5) rfl w.heap.size rfl 29 #[.int .i64 room, .int .i64 tmo, .slice (some ⟨g, 0, none⟩) m c0, .slice a1 Bs.length c1] (0, 0) _ (unhide HT6) Try.underlying29 rfl (by kernel_rfl) ?_)
        | (refine wpList_load_row rfl 43 (.tmp 13) rfl gN rfl 43 #[.int .i64 nd, .int .i64 px, .int .i64 py, .string hv, .bool wa, .bool op, .bool true, .int .i64 se, .int .i64 nw, .int .i64 ra] (0, 0) _ (unhide HP6) Try.underlying43 rfl (by kernel_rfl) ?_))
      refine (unhide hW2).mono ?_
      rintro e w9 ⟨v, rfl, hd9, b9⟩
      have HR9 := hide ((b9.block _ (lt_of_block (unhide HA6))).trans (unhide HA6))
      have HF := hide (fin_put (room := room) (tmo := tmo) hd9 ((unhide HB6).trans (b9.mono (unhide HB6).size)) (unhide HR9) (unhide HG).2.1)
      have HOC : Hid ((#[.int .i64 room, .int .i64 tmo, v, .slice a1 Bs.length c1] : Array Value).all (·.oneCell') = true) := by
        obtain ⟨av, cv, rfl⟩ := ownDe_shape hd9.oL
        show _ = _
        simp [Value.oneCell']
      clear hd9 b9 hW2 HT6 HP6 HD6 HB6 HA6
      go_wp2_with (refine wpList_store_row_to rfl 29 (.tmp 10) (.tmp 96) rfl gR #[.int .i64 room, .int .i64 tmo, v, .slice a1 Bs.length c1] rfl rfl 29 zT (unhide HR9) (by kernel_rfl) (by rfl) (unhide HOC) (fun w' => Fin B w gR room tmo v (.slice a1 Bs.length c1) l2 Bs w') (unhide HF) ?_)
      intro w5 h5
      have H5 := hide h5
      clear h5
      go_wp2
      exact ret_row2 (p := 10) (q := 11) (ty := 29) (by kernel_rfl) gR 29 _ (0, 0) (.int .i64 0) _ rfl rfl (unhide H5).blk rfl Try.underlying29 (by kernel_rfl) ⟨_, _, rfl, (unhide H5).dt, (unhide H5).be⟩
    · have q8 : (n == 1) = false := by simpa using hq
      have HXC : Hid (X2.cl.toArray = #[.int .i64 nd, .int .i64 px, .int .i64 py, .string hv, .bool wa, .bool op, .bool false, .int .i64 se, .int .i64 nw, .int .i64 ra]) := by
        show _ = _
        rw [hX2]
        show (Pr.cl _).toArray = _
        unfold sX4 Pr.cl
        simp only
        rw [decide_eq_false hq]
      clear hbd
      go_enter Try.func56, Try.ntmps56
      go_wp2_with fail
      obtain ⟨w1, hw1⟩ : ∃ w1, w1 = (w.alloc (.cells #[.int .i64 room, .int .i64 tmo, .slice a0 m c0, .slice a1 Bs.length c1] 29)).alloc (.cells #[.int .i64 0, .int .i64 0, .slice none 0 0, .slice none 0 0] 29) := ⟨_, rfl⟩
      obtain ⟨t1, t2, t3⟩ := two_boxes w #[.int .i64 room, .int .i64 tmo, .slice a0 m c0, .slice a1 Bs.length c1] #[.int .i64 0, .int .i64 0, .slice none 0 0, .slice none 0 0] 29 29
      rw [← hw1] at t1 t2 t3
      have HW : Hid (w1 = _) := hw1
      obtain ⟨gR, hgR⟩ : ∃ gR, gR = w.heap.size + 1 := ⟨_, rfl⟩
      rw [← hgR] at t2
      have HT := hide t1
      have HR := hide t2
      have HB := hide t3
      have HG : Hid (w.heap.size ≤ w.heap.size ∧ w.heap.size ≤ gR ∧ w.heap.size ≠ gR) := by
        rw [hgR]
        exact ⟨by omega, by omega, by omega⟩
      have HGR := hide hgR
      clear t1 t2 t3 hw1 hgR
      rw [← unhide HW]
      generalize hx : w.heap.size + 1 = gx at *
      have hgx : gR = gx := unhide HGR
      clear hx
      subst hgx
      refine (unhide hC w1 ((unhide HH).up (unhide HB))).mono ?_
      rintro e w2 ⟨rfl, b2⟩
      have HBX := hide ((unhide HB).trans (b2.mono (unhide HB).size))
      have HDT := hide ((unhide HH).up (unhide HBX))
      have HT2 := hide ((b2.block _ (lt_of_block (unhide HT))).trans (unhide HT))
      have HR2 := hide ((b2.block _ (lt_of_block (unhide HR))).trans (unhide HR))
      clear b2 hC hP
      obtain ⟨g, rfl, hra⟩ := (unhide HP).up (unhide HLT) (unhide HBX) i c hc
      rw [he] at hra
      have HRA : Hid (w2.rangeAt g (i * 10) [.int .i64 nd, .int .i64 px, .int .i64 py, .string hv, .bool wa, .bool op, .bool os, .int .i64 se, .int .i64 nw, .int .i64 ra]) := hra
      clear hra he hX2 hL2 hc
      have HMX : Hid (Mid B w w.heap.size gR room tmo (.slice (some ⟨g, 0, none⟩) m c0) (.slice a1 Bs.length c1) (.slice a1 Bs.length c1) L Bs w2) := ⟨unhide HT2, unhide HR2, unhide HDT, unhide HBX⟩
      have d2 := (four_cells (unhide HT2)).2.2.1
      have HRX := hide (rx_new (unhide HMX) #[.int .i64 nd, .int .i64 px, .int .i64 py, .string hv, .bool wa, .bool op, .bool os, .int .i64 se, .int .i64 nw, .int .i64 ra] #[.int .i64 0, .int .i64 0, .int .i64 0, .string ⟨#[]⟩, .bool false, .bool false, .bool false, .int .i64 0, .int .i64 0, .int .i64 0])
      go_wp2_with (first
        | (refine wpList_load_mid rfl 43 (.tmp 52) rfl g (i * 10) rfl [.int .i64 nd, .int .i64 px, .int .i64 py, .string hv, .bool wa, .bool op, .bool os, .int .i64 se, .int .i64 nw, .int .i64 ra] _ (unhide HRA) Try.underlying43 rfl (unhide HPL) ?_)
        | (refine wpList_store_row_to rfl 43 (.tmp 13) (.tmp 53) rfl w2.heap.size #[.int .i64 nd, .int .i64 px, .int .i64 py, .string hv, .bool wa, .bool op, .bool os, .int .i64 se, .int .i64 nw, .int .i64 ra] rfl rfl 43 #[.int .i64 0, .int .i64 0, .int .i64 0, .string ⟨#[]⟩, .bool false, .bool false, .bool false, .int .i64 0, .int .i64 0, .int .i64 0] (heap_alloc_new w2 _) (by kernel_rfl) (by rfl) (by simp [Value.oneCell']) (fun w' => RX B w gR room tmo (.slice (some ⟨g, 0, none⟩) m c0) (.slice a1 Bs.length c1) L Bs w2.heap.size #[.int .i64 nd, .int .i64 px, .int .i64 py, .string hv, .bool wa, .bool op, .bool os, .int .i64 se, .int .i64 nw, .int .i64 ra] w') (unhide HRX) ?_))
      intro w5 h5
      have H5 := hide h5
      clear h5 HRX
      clear d2
      have c6 := (unhide H5).cell 6 _ rfl
      have f6 := (unhide H5).free 6
      have H6 := hide ((unhide H5).set 6 (.bool false))
      have HT6 := hide (unhide H6).mid.box
      have HP6 := hide (unhide H6).pb
      have HD6 := hide (unhide H6).mid.dt
      have HB6 := hide (unhide H6).mid.be
      have HA6 := hide (unhide H6).mid.ans
      generalize hgn : w2.heap.size = gN at *
      clear H5 H6 HMX HRA hgn HT2 HR2 HDT HBX
      have hW2 := hide (unhide hW X2 _ (unhide HD6) (Nat.le_trans (unhide HBW) (unhide HB6).size))
      rw [unhide HXC, ← unhide HL2] at hW2
      clear hW HXC
      go_wp2_with (first
        | (refine wpList_load_row rfl 29 (.tmp 5) rfl w.heap.size rfl 29 #[.int .i64 room, .int .i64 tmo, .slice (some ⟨g, 0, none⟩) m c0, .slice a1 Bs.length c1] (0, 0) _ (unhide HT6) Try.underlying29 rfl (by kernel_rfl) ?_)
        | (refine wpList_load_row rfl 43 (.tmp 13) rfl gN rfl 43 #[.int .i64 nd, .int .i64 px, .int .i64 py, .string hv, .bool wa, .bool op, .bool false, .int .i64 se, .int .i64 nw, .int .i64 ra] (0, 0) _ (unhide HP6) Try.underlying43 rfl (by kernel_rfl) ?_))
      refine (unhide hW2).mono ?_
      rintro e w9 ⟨v, rfl, hd9, b9⟩
      have HR9 := hide ((b9.block _ (lt_of_block (unhide HA6))).trans (unhide HA6))
      have HF := hide (fin_put (room := room) (tmo := tmo) hd9 ((unhide HB6).trans (b9.mono (unhide HB6).size)) (unhide HR9) (unhide HG).2.1)
      have HOC : Hid ((#[.int .i64 room, .int .i64 tmo, v, .slice a1 Bs.length c1] : Array Value).all (·.oneCell') = true) := by
        obtain ⟨av, cv, rfl⟩ := ownDe_shape hd9.oL
        show _ = _
        simp [Value.oneCell']
      clear hd9 b9 hW2 HT6 HP6 HD6 HB6 HA6
      go_wp2_with (refine wpList_store_row_to rfl 29 (.tmp 10) (.tmp 96) rfl gR #[.int .i64 room, .int .i64 tmo, v, .slice a1 Bs.length c1] rfl rfl 29 zT (unhide HR9) (by kernel_rfl) (by rfl) (unhide HOC) (fun w' => Fin B w gR room tmo v (.slice a1 Bs.length c1) l2 Bs w') (unhide HF) ?_)
      intro w5 h5
      have H5 := hide h5
      clear h5
      go_wp2
      exact ret_row2 (p := 10) (q := 11) (ty := 29) (by kernel_rfl) gR 29 _ (0, 0) (.int .i64 0) _ rfl rfl (unhide H5).blk rfl Try.underlying29 (by kernel_rfl) ⟨_, _, rfl, (unhide H5).dt, (unhide H5).be⟩
end Go.Proofs.Ytbfakbooenmhoaa
namespace Go.Proofs.Ytbfakbooenmhoaa
open Go.RowKit
set_option linter.unusedVariables false
attribute [local go_sem] Oper.semAt_some

set_option maxRecDepth 100000 in
set_option maxHeartbeats 4000000 in
theorem dset5_any (B : Nat) (room tmo node n : Int) (s : ByteArray) (vL vB : Value) (L : List Pr) (Bs : List Int) (w : World) (h : Dt B w vL vB L Bs) (hB : B ≤ w.heap.size) (hS : ∀ c ∈ L, Bd c) :
    Calls Try.prog 56 #[tabV room tmo vL vB, .int .i64 node, .int .i64 5, .int .i64 n, .string s] w fun e w' => ∃ v vb, e = .returned (.tuple #[tabV room tmo v vb, .int .i64 (seE (sB5 n s) (fnd L node))]) ∧ Dt B w' v vb (seL (sB5 n s) (sX5 n s) L node) Bs ∧ Below w.heap.size w w' := by
  have HBW := hide hB
  have HS := hide hS
  have hC := hide (fun x (hx : Dt B x vL vB L Bs) => dfind_any B room tmo node vL vB L Bs x hx)
  have hW := hide (fun (X : Pr) x (hx : Dt B x vL vB L Bs) (hb : B ≤ x.heap.size) => dwith_any B room tmo X vL vB L Bs x hx hb)
  have hP := hide (fun w => dTick_any n w)
  clear hB hS
  by_cases ht : n < 0 ∨ 1099511627776 < n
  · rw [show sB5 n s = true from decide_eq_true ht]
    rw [show seE true (fnd L node) = 1 from rfl, show seL true (sX5 n s) L node = L from rfl]
    by_cases ht1 : n < 0
    · clear ht
      obtain ⟨a0, c0, rfl, hp, hlt⟩ := own_des h.oL
      obtain ⟨a1, c1, rfl⟩ := ownI_shape h.oB
      have hn16 := h.nL
      have HH := hide h
      have HP := hide hp
      have HLT := hide (fun a ha => (hlt a ha).2)
      obtain ⟨i0, hi0, hz0, hz1, hz2⟩ := info_parts Try.infoDe
      have HPL : Hid ((Try.prog.info? 43).map (·.size) = some 10) := by
        show _ = _
        kernel_rfl
      generalize hm : L.length = m at *
      have HM := hide hm
      clear h hp hlt hm
      clear hP hC hW
      go_enter Try.func56, Try.ntmps56
      go_wp2_with fail
      obtain ⟨t1, t2, t3⟩ := two_boxes w #[.int .i64 room, .int .i64 tmo, .slice a0 m c0, .slice a1 Bs.length c1] #[.int .i64 room, .int .i64 tmo, .slice a0 m c0, .slice a1 Bs.length c1] 29 29
      exact ret_row2 (p := 10) (q := 11) (ty := 29) (by kernel_rfl) (w.heap.size + 1) 29 _ (0, 0) (.int .i64 1) _ rfl rfl t2 rfl Try.underlying29 (by kernel_rfl) ⟨_, _, rfl, (unhide HH).up t3, t3⟩
    · have ht2 : 1099511627776 < n := by omega
      clear ht
      obtain ⟨a0, c0, rfl, hp, hlt⟩ := own_des h.oL
      obtain ⟨a1, c1, rfl⟩ := ownI_shape h.oB
      have hn16 := h.nL
      have HH := hide h
      have HP := hide hp
      have HLT := hide (fun a ha => (hlt a ha).2)
      obtain ⟨i0, hi0, hz0, hz1, hz2⟩ := info_parts Try.infoDe
      have HPL : Hid ((Try.prog.info? 43).map (·.size) = some 10) := by
        show _ = _
        kernel_rfl
      generalize hm : L.length = m at *
      have HM := hide hm
      clear h hp hlt hm
      clear hP hC hW
      go_enter Try.func56, Try.ntmps56
      go_wp2_with fail
      obtain ⟨t1, t2, t3⟩ := two_boxes w #[.int .i64 room, .int .i64 tmo, .slice a0 m c0, .slice a1 Bs.length c1] #[.int .i64 room, .int .i64 tmo, .slice a0 m c0, .slice a1 Bs.length c1] 29 29
      exact ret_row2 (p := 10) (q := 11) (ty := 29) (by kernel_rfl) (w.heap.size + 1) 29 _ (0, 0) (.int .i64 1) _ rfl rfl t2 rfl Try.underlying29 (by kernel_rfl) ⟨_, _, rfl, (unhide HH).up t3, t3⟩
  · rw [show sB5 n s = false from decide_eq_false ht]
    have q8 : ¬ n < 0 := by omega
    have q9 : ¬ 1099511627776 < n := by omega
    clear ht
    rcases fnd_inv (L := L) (n := node) with hfn | ⟨i, c, hfi, hc, hcn⟩
    · rw [seL_no hfn]
      rw [hfn] at hC ⊢
      rw [show seE false (-1) = 4 from rfl]
      clear hfn
      obtain ⟨a0, c0, rfl, hp, hlt⟩ := own_des h.oL
      obtain ⟨a1, c1, rfl⟩ := ownI_shape h.oB
      have hn16 := h.nL
      have HH := hide h
      have HP := hide hp
      have HLT := hide (fun a ha => (hlt a ha).2)
      obtain ⟨i0, hi0, hz0, hz1, hz2⟩ := info_parts Try.infoDe
      have HPL : Hid ((Try.prog.info? 43).map (·.size) = some 10) := by
        show _ = _
        kernel_rfl
      generalize hm : L.length = m at *
      have HM := hide hm
      clear h hp hlt hm
      go_enter Try.func56, Try.ntmps56
      go_wp2_with fail
      obtain ⟨w1, hw1⟩ : ∃ w1, w1 = (w.alloc (.cells #[.int .i64 room, .int .i64 tmo, .slice a0 m c0, .slice a1 Bs.length c1] 29)).alloc (.cells #[.int .i64 0, .int .i64 0, .slice none 0 0, .slice none 0 0] 29) := ⟨_, rfl⟩
      obtain ⟨t1, t2, t3⟩ := two_boxes w #[.int .i64 room, .int .i64 tmo, .slice a0 m c0, .slice a1 Bs.length c1] #[.int .i64 0, .int .i64 0, .slice none 0 0, .slice none 0 0] 29 29
      rw [← hw1] at t1 t2 t3
      have HW : Hid (w1 = _) := hw1
      obtain ⟨gR, hgR⟩ : ∃ gR, gR = w.heap.size + 1 := ⟨_, rfl⟩
      rw [← hgR] at t2
      have HT := hide t1
      have HR := hide t2
      have HB := hide t3
      have HG : Hid (w.heap.size ≤ w.heap.size ∧ w.heap.size ≤ gR ∧ w.heap.size ≠ gR) := by
        rw [hgR]
        exact ⟨by omega, by omega, by omega⟩
      have HGR := hide hgR
      clear t1 t2 t3 hw1 hgR
      rw [← unhide HW]
      generalize hx : w.heap.size + 1 = gx at *
      have hgx : gR = gx := unhide HGR
      clear hx
      subst hgx
      refine (unhide hC w1 ((unhide HH).up (unhide HB))).mono ?_
      rintro e w2 ⟨rfl, b2⟩
      have HBX := hide ((unhide HB).trans (b2.mono (unhide HB).size))
      have HDT := hide ((unhide HH).up (unhide HBX))
      have HT2 := hide ((b2.block _ (lt_of_block (unhide HT))).trans (unhide HT))
      have HR2 := hide ((b2.block _ (lt_of_block (unhide HR))).trans (unhide HR))
      clear b2 hC hP
      clear hW
      have HF := hide (fin_put (room := room) (tmo := tmo) (unhide HDT) (unhide HBX) (unhide HR2) (unhide HG).2.1)
      go_wp2_with (first
        | (refine wpList_load_row rfl 29 (.tmp 5) rfl w.heap.size rfl 29 #[.int .i64 room, .int .i64 tmo, .slice a0 m c0, .slice a1 Bs.length c1] (0, 0) _ (unhide HT2) Try.underlying29 rfl (by kernel_rfl) ?_)
        | (refine wpList_store_row_to rfl 29 (.tmp 10) (.tmp 48) rfl gR #[.int .i64 room, .int .i64 tmo, .slice a0 m c0, .slice a1 Bs.length c1] rfl rfl 29 zT (unhide HR2) (by kernel_rfl) (by rfl) (by simp [Value.oneCell']) (fun w' => Fin B w gR room tmo (.slice a0 m c0) (.slice a1 Bs.length c1) (L) (Bs) w') (unhide HF) ?_))
      intro w5 h5
      have H5 := hide h5
      clear h5
      go_wp2
      exact ret_row2 (p := 10) (q := 11) (ty := 29) (by kernel_rfl) gR 29 _ (0, 0) (.int .i64 4) _ rfl rfl (unhide H5).blk rfl Try.underlying29 (by kernel_rfl) ⟨_, _, rfl, (unhide H5).dt, (unhide H5).be⟩
    · rw [hfi] at hC ⊢
      rw [show seE false (i : Int) = 0 by unfold seE; rw [if_neg (by decide), if_neg (by omega)]]
      clear hcn
      obtain ⟨l2, hl2⟩ : ∃ l2, l2 = seL false (sX5 n s) L node := ⟨_, rfl⟩
      rw [← hl2]
      have hL2 : l2 = wiL L (sX5 n s c) := hl2.trans (seL_at hfi hc)
      have hi16 := (List.getElem?_eq_some_iff.1 hc).1
      clear hl2 hfi
      obtain ⟨a0, c0, rfl, hp, hlt⟩ := own_des h.oL
      obtain ⟨a1, c1, rfl⟩ := ownI_shape h.oB
      have hn16 := h.nL
      have HH := hide h
      have HP := hide hp
      have HLT := hide (fun a ha => (hlt a ha).2)
      obtain ⟨i0, hi0, hz0, hz1, hz2⟩ := info_parts Try.infoDe
      have HPL : Hid ((Try.prog.info? 43).map (·.size) = some 10) := by
        show _ = _
        kernel_rfl
      generalize hm : L.length = m at *
      have HM := hide hm
      clear h hp hlt hm
      obtain ⟨nd, px, py, hv, wa, op, os, se, nw, ra, he⟩ : ∃ nd px py hv wa op os se nw ra, c = (⟨nd, px, py, hv, wa, op, os, se, nw, ra⟩ : Pr) := ⟨_, _, _, _, _, _, _, _, _, _, rfl⟩
      obtain ⟨X2, hX2⟩ : ∃ X2, X2 = sX5 n s c := ⟨_, rfl⟩
      rw [← hX2] at hL2
      have HL2 := hide hL2
      have hbd := unhide HS c (List.mem_of_getElem? hc)
      rw [he] at hX2 hbd
      have hb8 := hbd.nw
      dsimp only at hb8
      by_cases hq : 1099511627776 < nw + n
      · have HXC : Hid (X2.cl.toArray = #[.int .i64 nd, .int .i64 px, .int .i64 py, .string hv, .bool wa, .bool op, .bool os, .int .i64 se, .int .i64 1099511627776, .int .i64 ra]) := by
          show _ = _
          rw [hX2]
          show (Pr.cl _).toArray = _
          unfold sX5 Pr.cl
          simp only
          rw [if_pos hq]
        clear hbd
        go_enter Try.func56, Try.ntmps56
        go_wp2_with fail
        obtain ⟨w1, hw1⟩ : ∃ w1, w1 = (w.alloc (.cells #[.int .i64 room, .int .i64 tmo, .slice a0 m c0, .slice a1 Bs.length c1] 29)).alloc (.cells #[.int .i64 0, .int .i64 0, .slice none 0 0, .slice none 0 0] 29) := ⟨_, rfl⟩
        obtain ⟨t1, t2, t3⟩ := two_boxes w #[.int .i64 room, .int .i64 tmo, .slice a0 m c0, .slice a1 Bs.length c1] #[.int .i64 0, .int .i64 0, .slice none 0 0, .slice none 0 0] 29 29
        rw [← hw1] at t1 t2 t3
        have HW : Hid (w1 = _) := hw1
        obtain ⟨gR, hgR⟩ : ∃ gR, gR = w.heap.size + 1 := ⟨_, rfl⟩
        rw [← hgR] at t2
        have HT := hide t1
        have HR := hide t2
        have HB := hide t3
        have HG : Hid (w.heap.size ≤ w.heap.size ∧ w.heap.size ≤ gR ∧ w.heap.size ≠ gR) := by
          rw [hgR]
          exact ⟨by omega, by omega, by omega⟩
        have HGR := hide hgR
        clear t1 t2 t3 hw1 hgR
        rw [← unhide HW]
        generalize hx : w.heap.size + 1 = gx at *
        have hgx : gR = gx := unhide HGR
        clear hx
        subst hgx
        refine (unhide hC w1 ((unhide HH).up (unhide HB))).mono ?_
        rintro e w2 ⟨rfl, b2⟩
        have HBX := hide ((unhide HB).trans (b2.mono (unhide HB).size))
        have HDT := hide ((unhide HH).up (unhide HBX))
        have HT2 := hide ((b2.block _ (lt_of_block (unhide HT))).trans (unhide HT))
        have HR2 := hide ((b2.block _ (lt_of_block (unhide HR))).trans (unhide HR))
        clear b2 hC hP
        obtain ⟨g, rfl, hra⟩ := (unhide HP).up (unhide HLT) (unhide HBX) i c hc
        rw [he] at hra
        have HRA : Hid (w2.rangeAt g (i * 10) [.int .i64 nd, .int .i64 px, .int .i64 py, .string hv, .bool wa, .bool op, .bool os, .int .i64 se, .int .i64 nw, .int .i64 ra]) := hra
        clear hra he hX2 hL2 hc
        have HMX : Hid (Mid B w w.heap.size gR room tmo (.slice (some ⟨g, 0, none⟩) m c0) (.slice a1 Bs.length c1) (.slice a1 Bs.length c1) L Bs w2) := ⟨unhide HT2, unhide HR2, unhide HDT, unhide HBX⟩
        have d2 := (four_cells (unhide HT2)).2.2.1
        have HRX := hide (rx_new (unhide HMX) #[.int .i64 nd, .int .i64 px, .int .i64 py, .string hv, .bool wa, .bool op, .bool os, .int .i64 se, .int .i64 nw, .int .i64 ra] #[.int .i64 0, .int .i64 0, .int .i64 0, .string ⟨#[]⟩, .bool false, .bool false, .bool false, .int .i64 0, .int .i64 0, .int .i64 0])
        go_wp2_with (first
          | (refine wpList_load_mid rfl 43 (.tmp 52) rfl g (i * 10) rfl [.int .i64 nd, .int .i64 px, .int .i64 py, .string hv, .bool wa, .bool op, .bool os, .int .i64 se, .int .i64 nw, .int .i64 ra] _ (unhide HRA) Try.underlying43 rfl (unhide HPL) ?_)
          | (refine wpList_store_row_to rfl 43 (.tmp 13) (.tmp 53) rfl w2.heap.size #[.int .i64 nd, .int .i64 px, .int .i64 py, .string hv, .bool wa, .bool op, .bool os, .int .i64 se, .int .i64 nw, .int .i64 ra] rfl rfl 43 #[.int .i64 0, .int .i64 0, .int .i64 0, .string ⟨#[]⟩, .bool false, .bool false, .bool false, .int .i64 0, .int .i64 0, .int .i64 0] (heap_alloc_new w2 _) (by kernel_rfl) (by rfl) (by simp [Value.oneCell']) (fun w' => RX B w gR room tmo (.slice (some ⟨g, 0, none⟩) m c0) (.slice a1 Bs.length c1) L Bs w2.heap.size #[.int .i64 nd, .int .i64 px, .int .i64 py, .string hv, .bool wa, .bool op, .bool os, .int .i64 se, .int .i64 nw, .int .i64 ra] w') (unhide HRX) ?_))
        intro w5 h5
        have H5 := hide h5
        clear h5 HRX
        clear d2
        have c8 := (unhide H5).cell 8 _ rfl
        have f8 := (unhide H5).free 8
        have H6 := hide (((unhide H5).set 8 (.int .i64 (nw + n))).set 8 (.int .i64 1099511627776))
        have HT6 := hide (unhide H6).mid.box
        have HP6 := hide (unhide H6).pb
        have HD6 := hide (unhide H6).mid.dt
        have HB6 := hide (unhide H6).mid.be
        have HA6 := hide (unhide H6).mid.ans
        generalize hgn : w2.heap.size = gN at *
        clear H5 H6 HMX HRA hgn HT2 HR2 HDT HBX
        have hW2 := hide (unhide hW X2 _ (unhide HD6) (Nat.le_trans (unhide HBW) (unhide HB6).size))
        rw [unhide HXC, ← unhide HL2] at hW2
        clear hW HXC
        go_wp2_with (first
          | (refine wpList_load_row rfl 29 (.tmp 5) rfl w.heap.size rfl 29 #[.int .i64 room, .int .i64 tmo, .slice (some ⟨g, 0, none⟩) m c0, .slice a1 Bs.length c1] (0, 0) _ (unhide HT6) Try.underlying29 rfl (by kernel_rfl) ?_)
          | (refine wpList_load_row rfl 43 (.tmp 13) rfl gN rfl 43 #[.int .i64 nd, .int .i64 px, .int .i64 py, .string hv, .bool wa, .bool op, .bool os, .int .i64 se, .int .i64 1099511627776, .int .i64 ra] (0, 0) _ (unhide HP6) Try.underlying43 rfl (by kernel_rfl) ?_))
        refine (unhide hW2).mono ?_
        rintro e w9 ⟨v, rfl, hd9, b9⟩
        have HR9 := hide ((b9.block _ (lt_of_block (unhide HA6))).trans (unhide HA6))
        have HF := hide (fin_put (room := room) (tmo := tmo) hd9 ((unhide HB6).trans (b9.mono (unhide HB6).size)) (unhide HR9) (unhide HG).2.1)
        have HOC : Hid ((#[.int .i64 room, .int .i64 tmo, v, .slice a1 Bs.length c1] : Array Value).all (·.oneCell') = true) := by
          obtain ⟨av, cv, rfl⟩ := ownDe_shape hd9.oL
          show _ = _
          simp [Value.oneCell']
        clear hd9 b9 hW2 HT6 HP6 HD6 HB6 HA6
        go_wp2_with (refine wpList_store_row_to rfl 29 (.tmp 10) (.tmp 96) rfl gR #[.int .i64 room, .int .i64 tmo, v, .slice a1 Bs.length c1] rfl rfl 29 zT (unhide HR9) (by kernel_rfl) (by rfl) (unhide HOC) (fun w' => Fin B w gR room tmo v (.slice a1 Bs.length c1) l2 Bs w') (unhide HF) ?_)
        intro w5 h5
        have H5 := hide h5
        clear h5
        go_wp2
        exact ret_row2 (p := 10) (q := 11) (ty := 29) (by kernel_rfl) gR 29 _ (0, 0) (.int .i64 0) _ rfl rfl (unhide H5).blk rfl Try.underlying29 (by kernel_rfl) ⟨_, _, rfl, (unhide H5).dt, (unhide H5).be⟩
      · have HXC : Hid (X2.cl.toArray = #[.int .i64 nd, .int .i64 px, .int .i64 py, .string hv, .bool wa, .bool op, .bool os, .int .i64 se, .int .i64 (nw + n), .int .i64 ra]) := by
          show _ = _
          rw [hX2]
          show (Pr.cl _).toArray = _
          unfold sX5 Pr.cl
          simp only
          rw [if_neg hq]
        clear hbd
        go_enter Try.func56, Try.ntmps56
        go_wp2_with fail
        obtain ⟨w1, hw1⟩ : ∃ w1, w1 = (w.alloc (.cells #[.int .i64 room, .int .i64 tmo, .slice a0 m c0, .slice a1 Bs.length c1] 29)).alloc (.cells #[.int .i64 0, .int .i64 0, .slice none 0 0, .slice none 0 0] 29) := ⟨_, rfl⟩
        obtain ⟨t1, t2, t3⟩ := two_boxes w #[.int .i64 room, .int .i64 tmo, .slice a0 m c0, .slice a1 Bs.length c1] #[.int .i64 0, .int .i64 0, .slice none 0 0, .slice none 0 0] 29 29
        rw [← hw1] at t1 t2 t3
        have HW : Hid (w1 = _) := hw1
        obtain ⟨gR, hgR⟩ : ∃ gR, gR = w.heap.size + 1 := ⟨_, rfl⟩
        rw [← hgR] at t2
        have HT := hide t1
        have HR := hide t2
        have HB := hide t3
        have HG : Hid (w.heap.size ≤ w.heap.size ∧ w.heap.size ≤ gR ∧ w.heap.size ≠ gR) := by
          rw [hgR]
          exact ⟨by omega, by omega, by omega⟩
        have HGR := hide hgR
        clear t1 t2 t3 hw1 hgR
        rw [← unhide HW]
        generalize hx : w.heap.size + 1 = gx at *
        have hgx : gR = gx := unhide HGR
        clear hx
        subst hgx
        refine (unhide hC w1 ((unhide HH).up (unhide HB))).mono ?_
        rintro e w2 ⟨rfl, b2⟩
        have HBX := hide ((unhide HB).trans (b2.mono (unhide HB).size))
        have HDT := hide ((unhide HH).up (unhide HBX))
        have HT2 := hide ((b2.block _ (lt_of_block (unhide HT))).trans (unhide HT))
        have HR2 := hide ((b2.block _ (lt_of_block (unhide HR))).trans (unhide HR))
        clear b2 hC hP
        obtain ⟨g, rfl, hra⟩ := (unhide HP).up (unhide HLT) (unhide HBX) i c hc
        rw [he] at hra
        have HRA : Hid (w2.rangeAt g (i * 10) [.int .i64 nd, .int .i64 px, .int .i64 py, .string hv, .bool wa, .bool op, .bool os, .int .i64 se, .int .i64 nw, .int .i64 ra]) := hra
        clear hra he hX2 hL2 hc
        have HMX : Hid (Mid B w w.heap.size gR room tmo (.slice (some ⟨g, 0, none⟩) m c0) (.slice a1 Bs.length c1) (.slice a1 Bs.length c1) L Bs w2) := ⟨unhide HT2, unhide HR2, unhide HDT, unhide HBX⟩
        have d2 := (four_cells (unhide HT2)).2.2.1
        have HRX := hide (rx_new (unhide HMX) #[.int .i64 nd, .int .i64 px, .int .i64 py, .string hv, .bool wa, .bool op, .bool os, .int .i64 se, .int .i64 nw, .int .i64 ra] #[.int .i64 0, .int .i64 0, .int .i64 0, .string ⟨#[]⟩, .bool false, .bool false, .bool false, .int .i64 0, .int .i64 0, .int .i64 0])
        go_wp2_with (first
          | (refine wpList_load_mid rfl 43 (.tmp 52) rfl g (i * 10) rfl [.int .i64 nd, .int .i64 px, .int .i64 py, .string hv, .bool wa, .bool op, .bool os, .int .i64 se, .int .i64 nw, .int .i64 ra] _ (unhide HRA) Try.underlying43 rfl (unhide HPL) ?_)
          | (refine wpList_store_row_to rfl 43 (.tmp 13) (.tmp 53) rfl w2.heap.size #[.int .i64 nd, .int .i64 px, .int .i64 py, .string hv, .bool wa, .bool op, .bool os, .int .i64 se, .int .i64 nw, .int .i64 ra] rfl rfl 43 #[.int .i64 0, .int .i64 0, .int .i64 0, .string ⟨#[]⟩, .bool false, .bool false, .bool false, .int .i64 0, .int .i64 0, .int .i64 0] (heap_alloc_new w2 _) (by kernel_rfl) (by rfl) (by simp [Value.oneCell']) (fun w' => RX B w gR room tmo (.slice (some ⟨g, 0, none⟩) m c0) (.slice a1 Bs.length c1) L Bs w2.heap.size #[.int .i64 nd, .int .i64 px, .int .i64 py, .string hv, .bool wa, .bool op, .bool os, .int .i64 se, .int .i64 nw, .int .i64 ra] w') (unhide HRX) ?_))
        intro w5 h5
        have H5 := hide h5
        clear h5 HRX
        clear d2
        have c8 := (unhide H5).cell 8 _ rfl
        have f8 := (unhide H5).free 8
        have H6 := hide ((unhide H5).set 8 (.int .i64 (nw + n)))
        have HT6 := hide (unhide H6).mid.box
        have HP6 := hide (unhide H6).pb
        have HD6 := hide (unhide H6).mid.dt
        have HB6 := hide (unhide H6).mid.be
        have HA6 := hide (unhide H6).mid.ans
        generalize hgn : w2.heap.size = gN at *
        clear H5 H6 HMX HRA hgn HT2 HR2 HDT HBX
        have hW2 := hide (unhide hW X2 _ (unhide HD6) (Nat.le_trans (unhide HBW) (unhide HB6).size))
        rw [unhide HXC, ← unhide HL2] at hW2
        clear hW HXC
        go_wp2_with (first
          | (refine wpList_load_row rfl 29 (.tmp 5) rfl w.heap.size rfl 29 #[.int .i64 room, .int .i64 tmo, .slice (some ⟨g, 0, none⟩) m c0, .slice a1 Bs.length c1] (0, 0) _ (unhide HT6) Try.underlying29 rfl (by kernel_rfl) ?_)
          | (refine wpList_load_row rfl 43 (.tmp 13) rfl gN rfl 43 #[.int .i64 nd, .int .i64 px, .int .i64 py, .string hv, .bool wa, .bool op, .bool os, .int .i64 se, .int .i64 (nw + n), .int .i64 ra] (0, 0) _ (unhide HP6) Try.underlying43 rfl (by kernel_rfl) ?_))
        refine (unhide hW2).mono ?_
        rintro e w9 ⟨v, rfl, hd9, b9⟩
        have HR9 := hide ((b9.block _ (lt_of_block (unhide HA6))).trans (unhide HA6))
        have HF := hide (fin_put (room := room) (tmo := tmo) hd9 ((unhide HB6).trans (b9.mono (unhide HB6).size)) (unhide HR9) (unhide HG).2.1)
        have HOC : Hid ((#[.int .i64 room, .int .i64 tmo, v, .slice a1 Bs.length c1] : Array Value).all (·.oneCell') = true) := by
          obtain ⟨av, cv, rfl⟩ := ownDe_shape hd9.oL
          show _ = _
          simp [Value.oneCell']
        clear hd9 b9 hW2 HT6 HP6 HD6 HB6 HA6
        go_wp2_with (refine wpList_store_row_to rfl 29 (.tmp 10) (.tmp 96) rfl gR #[.int .i64 room, .int .i64 tmo, v, .slice a1 Bs.length c1] rfl rfl 29 zT (unhide HR9) (by kernel_rfl) (by rfl) (unhide HOC) (fun w' => Fin B w gR room tmo v (.slice a1 Bs.length c1) l2 Bs w') (unhide HF) ?_)
        intro w5 h5
        have H5 := hide h5
        clear h5
        go_wp2
        exact ret_row2 (p := 10) (q := 11) (ty := 29) (by kernel_rfl) gR 29 _ (0, 0) (.int .i64 0) _ rfl rfl (unhide H5).blk rfl Try.underlying29 (by kernel_rfl) ⟨_, _, rfl, (unhide H5).dt, (unhide H5).be⟩
end Go.Proofs.Ytbfakbooenmhoaa

/- peers: the document's table: Meet, its ways. -/
import Derived.Test.YtbfakbooenmhoaaQdI
namespace Go.Proofs.Ytbfakbooenmhoaa
open Go.RowKit
set_option linter.unusedVariables false
attribute [local go_sem] Oper.semAt_some

set_option maxRecDepth 100000 in
set_option maxHeartbeats 8000000 in
theorem dmeet_ok (B : Nat) (room tmo n x y t : Int) (vL vB : Value) (L : List Pr) (Bs : List Int) (w : World) (h : Dt B w vL vB L Bs) (hB : B ≤ w.heap.size) (h1 : isPr n = true) (h2 : isPl x y = true) (h3 : isTm t = true) (hs : hasI Bs n = false) (hfi : fnd L n = -1) (hr : ¬ room ≤ (L.length : Int)) (hrm : room ≤ 15) :
    Calls Try.prog 30 #[tabV room tmo vL vB, .int .i64 n, .agg #[.int .i64 x, .int .i64 y], .int .i64 t] w fun e w' => ∃ v vb, e = .returned (.tuple #[tabV room tmo v vb, .int .i64 0]) ∧ Dt B w' v vb (insL L (newP n x y t)) Bs ∧ Below w.heap.size w w' := by
  have HBW := hide hB
  have hP1 := hide (fun w => dIsPeer_any n w)
  have hP2 := hide (fun w => dCheck_any x y w)
  have hP3 := hide (fun w => dTick_any t w)
  have hC := hide (fun x (hx : Dt B x vL vB L Bs) => dfind_any B room tmo n vL vB L Bs x hx)
  clear hB
  obtain ⟨l2, hl2⟩ : ∃ l2, l2 = insL L (newP n x y t) := ⟨_, rfl⟩
  rw [← hl2]
  have HL2 := hide hl2
  clear hl2
  rw [h1] at hP1
  rw [h2] at hP2
  rw [h3] at hP3
  clear h1 h2 h3
  have HHS := hide hs
  clear hs
  rw [hfi] at hC
  clear hfi
  obtain ⟨a0, c0, rfl, hp, hlt⟩ := own_des h.oL
  obtain ⟨a1, c1, rfl⟩ := ownI_shape h.oB
  have hn16 := h.nL
  have HH := hide h
  have HP := hide hp
  have HLT := hide (fun a ha => (hlt a ha).2)
  obtain ⟨i0, hi0, hz0, hz1, hz2⟩ := info_parts Try.infoDe
  have HPL : Hid ((Try.prog.info? 43).map (·.size) = some 10) := by
    show _ = _
    kernel_rfl
  generalize hm : L.length = m at *
  have HM := hide hm
  clear h hp hlt hm
  obtain ⟨nb, hnb⟩ : ∃ nb, nb = Bs.length := ⟨_, rfl⟩
  have hIB := hide (fun x (hx : Below w.heap.size w x) => (ownI_up (unhide HH).oB hx).ints)
  rw [← hnb] at HH hIB hC ⊢
  have HNB := hide hnb
  clear hnb
  go_enter Try.func30, Try.ntmps30
  go_wp2_with fail
  obtain ⟨w1, hw1⟩ : ∃ w1, w1 = ((w.alloc (.cells #[.int .i64 room, .int .i64 tmo, .slice a0 m c0, .slice a1 nb c1] 29)).alloc (.cells #[.int .i64 x, .int .i64 y] 41)).alloc (.cells #[.int .i64 0, .int .i64 0, .slice none 0 0, .slice none 0 0] 29) := ⟨_, rfl⟩
  obtain ⟨t1, tx, t2, t3⟩ := three_boxes w #[.int .i64 room, .int .i64 tmo, .slice a0 m c0, .slice a1 nb c1] #[.int .i64 x, .int .i64 y] #[.int .i64 0, .int .i64 0, .slice none 0 0, .slice none 0 0] 29 41 29
  rw [← hw1] at t1 tx t2 t3
  have HW : Hid (w1 = _) := hw1
  obtain ⟨gR, hgR⟩ : ∃ gR, gR = w.heap.size + 1 + 1 := ⟨_, rfl⟩
  obtain ⟨gP, hgP⟩ : ∃ gP, gP = w.heap.size + 1 := ⟨_, rfl⟩
  rw [← hgR] at t2
  rw [← hgP] at tx
  have HT := hide t1
  have HR := hide t2
  have HPB := hide tx
  have HB := hide t3
  have HG : Hid (w.heap.size ≤ w.heap.size ∧ w.heap.size ≤ gR ∧ w.heap.size ≠ gR) := by
    rw [hgR]
    exact ⟨by omega, by omega, by omega⟩
  have HGR := hide hgR
  have HGP := hide hgP
  clear t1 t2 t3 tx hw1 hgR hgP
  rw [← unhide HW]
  generalize hy : w.heap.size + 1 + 1 = gy at *
  generalize hx : w.heap.size + 1 = gx at *
  have hgx : gP = gx := unhide HGP
  have hgy : gR = gy := unhide HGR
  clear hx hy
  subst hgx hgy
  refine (unhide hP1 w1).mono ?_
  rintro e w2 ⟨rfl, rfl⟩
  obtain ⟨p0, p1⟩ : w1.cell? ⟨gP, 0, none⟩ = some (.int .i64 x) ∧ w1.cell? ⟨gP, 1, none⟩ = some (.int .i64 y) := by simp [World.cell?, unhide HPB]
  go_wp2_with fail
  refine (unhide hP2 w1).mono ?_
  rintro e w2 ⟨rfl, b2⟩
  have p0' := (World.cell?_of_block (b2.block _ (lt_of_block (unhide HPB)))).trans p0
  have p1' := (World.cell?_of_block (b2.block _ (lt_of_block (unhide HPB)))).trans p1
  have HBB := hide ((unhide HB).trans (b2.mono (unhide HB).size))
  have HTT := hide ((b2.block _ (lt_of_block (unhide HT))).trans (unhide HT))
  have HRR := hide ((b2.block _ (lt_of_block (unhide HR))).trans (unhide HR))
  have HSZ12 := hide b2.size
  clear b2 p0 p1
  go_wp2_with fail
  refine (unhide hP3 w2).mono ?_
  rintro e w3 ⟨rfl, rfl⟩
  obtain ⟨b0, b1, b2, b3⟩ := four_cells (unhide HTT)
  go_wp2_with fail
  obtain ⟨ia, ic', ie1, ie2, ie3, ie4⟩ := unhide hIB w2 (unhide HBB)
  cases ie1
  have hHAS := rhas_any a1 Bs c1 n w2 ie2 (Nat.le_trans (unhide HH).nB (by unfold maxLen; omega))
  rw [← unhide HNB] at hHAS
  rw [unhide HHS] at hHAS
  refine hHAS.mono ?_
  rintro e w3 ⟨rfl, rfl⟩
  clear ie2 ie3 ie4
  go_wp2_with fail
  refine (unhide hC w2 ((unhide HH).up (unhide HBB))).mono ?_
  rintro e w4 ⟨rfl, b4⟩
  have HBL : Hid (gP < w2.heap.size) := by
    have h1 := lt_of_block (unhide HPB)
    exact Nat.lt_of_lt_of_le h1 (unhide HSZ12)
  have HBB := hide ((unhide HBB).trans (b4.mono (unhide HBB).size))
  have HTT := hide ((b4.block _ (lt_of_block (unhide HTT))).trans (unhide HTT))
  have HRR := hide ((b4.block _ (lt_of_block (unhide HRR))).trans (unhide HRR))
  clear b0 b1 b2 b3
  obtain ⟨b0, b1, b2, b3⟩ := four_cells (unhide HTT)
  have p0'' := (World.cell?_of_block (b4.block gP (unhide HBL))).trans p0'
  have p1'' := (World.cell?_of_block (b4.block gP (unhide HBL))).trans p1'
  clear hP1 hP2 hP3 hC b4 p0' p1'
  obtain ⟨w2, hw2⟩ : ∃ x, x = w4 := ⟨_, rfl⟩
  subst hw2
  have HNX9 := hide (nx_new (unhide HBB) (unhide HTT) (unhide HRR) #[.int .i64 0, .int .i64 0, .int .i64 0, .string ⟨#[]⟩, .bool false, .bool false, .bool false, .int .i64 0, .int .i64 0, .int .i64 0] #[.int .i64 n, .int .i64 x, .int .i64 y, .string ⟨#[]⟩, .bool false, .bool false, .bool false, .int .i64 t, .int .i64 0, .int .i64 0])
  obtain ⟨gX, hgX⟩ : ∃ gX, gX = w2.heap.size := ⟨_, rfl⟩
  go_wp2_with (refine wpList_store_row_to rfl 43 (.tmp 10) (.tmp 48) rfl w2.heap.size #[.int .i64 n, .int .i64 x, .int .i64 y, .string ⟨#[]⟩, .bool false, .bool false, .bool false, .int .i64 t, .int .i64 0, .int .i64 0] rfl rfl 43 #[.int .i64 0, .int .i64 0, .int .i64 0, .string ⟨#[]⟩, .bool false, .bool false, .bool false, .int .i64 0, .int .i64 0, .int .i64 0] (heap_alloc_new w2 _) (by kernel_rfl) (by rfl) (by simp [Value.oneCell']) (fun w' => NX w gR w2.heap.size room tmo (.slice a0 m c0) (.slice a1 nb c1) #[.int .i64 n, .int .i64 x, .int .i64 y, .string ⟨#[]⟩, .bool false, .bool false, .bool false, .int .i64 t, .int .i64 0, .int .i64 0] w') (unhide HNX9) ?_)
  intro w9 h9
  rw [← hgX] at h9
  have HN9 := hide h9
  clear h9 HNX9 hIB
  generalize w2.heap.size = gy at *
  subst hgX
  have HD0 : Hid (DL w9 (.slice none 0 0) (insS (L.take 0) (newP n x y t)).1 w9) := DL.start w9
  go_wp2_with fail
  go_loopw [11, 12, 13] (fun lv pv iv wr => ∃ (i k : Nat) (a : Option Addr) (c : Nat) (b : Bool), i ≤ m ∧ iv = .int .i64 i ∧ lv = .slice a k c ∧ pv = .bool b ∧ k = (insS (L.take i) (newP n x y t)).1.length ∧ b = (insS (L.take i) (newP n x y t)).2 ∧ DL w9 lv (insS (L.take i) (newP n x y t)).1 wr) (fun _ _ iv _ => m - (intOf iv).toNat)
  case atStart => exact ⟨0, 0, none, 0, false, by omega, rfl, rfl, rfl, rfl, rfl, unhide HD0⟩
  case round =>
    obtain ⟨i, k, a, c, b, hi, rfl, rfl, rfl, hk, hb, hd⟩ := hrel
    have HK := hide hk
    have HBB2 := hide hb
    have HD := hide hd
    have HBR := hide ((unhide HN9).be.trans (hd.be.mono (unhide HN9).be.size))
    have HX9 := hide ((hd.be.block _ (lt_of_block (unhide HN9).pb)).trans (unhide HN9).pb)
    obtain ⟨b0, b1, b2, b3⟩ := four_cells ((hd.be.block _ (lt_of_block (unhide HN9).box)).trans (unhide HN9).box)
    have hk17 : k ≤ 17 := by
      have := insS_len (L.take i) (newP n x y t)
      rw [hk, this, List.length_take]
      have := Bool.toNat_le (insS (L.take i) (newP n x y t)).2
      omega
    clear hk hb hd HD0
    by_cases hlt : i < m
    · have q1 : (i : Int) < m := by omega
      obtain ⟨e, he⟩ : ∃ e, L[i]? = some e := ⟨_, List.getElem?_eq_getElem (by rw [unhide HM]; exact hlt)⟩
      obtain ⟨g, rfl, hra⟩ := (unhide HP).up (unhide HLT) (unhide HBR) i e he
      have e0 := hra 0 (.int .i64 e.nd) rfl
      rw [Nat.add_zero] at e0
      have heL := (List.getElem?_eq_some_iff.1 he)
      have HTK : Hid (L.take (i + 1) = L.take i ++ [e]) := by
        show _ = _
        rw [List.take_add_one, he]
        rfl
      obtain ⟨nd, px, py, hv, wa, op, os, se, nw, ra⟩ := e
      have HRA : Hid (wr.rangeAt g (i * 10) [.int .i64 nd, .int .i64 px, .int .i64 py, .string hv, .bool wa, .bool op, .bool os, .int .i64 se, .int .i64 nw, .int .i64 ra]) := hra
      have HE := hide he
      dsimp only at e0
      clear hra he heL
      have HSN : Hid (insS (L.take (i + 1)) (newP n x y t) = insF (newP n x y t) (insS (L.take i) (newP n x y t)) ⟨nd, px, py, hv, wa, op, os, se, nw, ra⟩) := by
        show _ = _
        rw [unhide HTK, insS_snoc]
      have HNX : (newP n x y t).nd = n := rfl
      clear b0 b1 b3
      cases b with
      | true =>
        have HSS : Hid (insS (L.take (i + 1)) (newP n x y t) = ((insS (L.take i) (newP n x y t)).1 ++ [⟨nd, px, py, hv, wa, op, os, se, nw, ra⟩], true)) := by
          show _ = _
          rw [unhide HSN]
          unfold insF
          rw [← unhide HBB2, if_neg (fun h => by cases h.1)]
        clear HNX
        have HO : Hid (wr.ownsRow w9.heap.size 43 10 (.slice a k c) (k) (peC ((insS (L.take i) (newP n x y t)).1))) := by
          have := (unhide HD).own
          unfold OwnDe at this
          rw [← unhide HK] at this
          exact this
        have hwx := (unhide HD).be.size
        go_wp2_with (first
          | (refine wpList_load_mid rfl 43 (.tmp 76) rfl g (i * 10) rfl [.int .i64 nd, .int .i64 px, .int .i64 py, .string hv, .bool wa, .bool op, .bool os, .int .i64 se, .int .i64 nw, .int .i64 ra] _ (unhide HRA) Try.underlying43 rfl (unhide HPL) ?_)
          | (refine wpList_append_lies _ rfl (.tmp 72) (.tmp 78) 26 rfl w9.heap.size 43 i0 (.agg #[.int .i64 0, .int .i64 0, .int .i64 0, .string ⟨#[]⟩, .bool false, .bool false, .bool false, .int .i64 0, .int .i64 0, .int .i64 0]) 10 72 Try.undDe hi0 hz0 hz1 hz2 rfl (by decide) (.slice a k c) (k) _ (by rfl) ((unhide HO).alloc _) ⟨wr.heap.size, 0, none⟩ 1 1 [.int .i64 nd, .int .i64 px, .int .i64 py, .string hv, .bool wa, .bool op, .bool os, .int .i64 se, .int .i64 nw, .int .i64 ra] (by rfl) (by rfl) (World.news_of_block (heap_alloc_new wr _)) (Pr.cl_one ⟨nd, px, py, hv, wa, op, os, se, nw, ra⟩) (by decide) (by unfold maxLen; omega) (by omega) (by simp; omega) _ rfl ?_))
        intro g4 cap4 w4 hown hgrow hat hlt2
        have HD4 : Hid (DL w9 (.slice (some ⟨g4, 0, none⟩) (k + 1) cap4) ((insS (L.take i) (newP n x y t)).1 ++ [⟨nd, px, py, hv, wa, op, os, se, nw, ra⟩]) w4) := by
          refine ⟨?_, ((unhide HD).be.alloc (unhide HD).be.size (.cells #[.int .i64 nd, .int .i64 px, .int .i64 py, .string hv, .bool wa, .bool op, .bool os, .int .i64 se, .int .i64 nw, .int .i64 ra] 43)).grown hgrow (by simp; omega) (fun z hz => ((unhide HO).lt z hz).1)⟩
          unfold OwnDe
          rw [peC_append, List.length_append, ← unhide HK]
          exact hown
        have HK4 : Hid (k + 1 = ((insS (L.take i) (newP n x y t)).1 ++ [(⟨nd, px, py, hv, wa, op, os, se, nw, ra⟩ : Pr)]).length) := by
          show _ = _
          rw [List.length_append, ← unhide HK]
          rfl
        clear hown hgrow hat hlt2 HO
        clear HD
        go_wp2
        go_roundw
        case rel => exact ⟨i + 1, k + 1, _, _, true, by omega, by go_num, rfl, rfl, by rw [unhide HSS]; exact unhide HK4, by rw [unhide HSS], by rw [unhide HSS]; exact unhide HD4⟩
        case measure => simp [intOf]; omega
      | false =>
        by_cases hq : n < nd
        · have HSS : Hid (insS (L.take (i + 1)) (newP n x y t) = ((insS (L.take i) (newP n x y t)).1 ++ [⟨n, x, y, ⟨#[]⟩, false, false, false, t, 0, 0⟩] ++ [⟨nd, px, py, hv, wa, op, os, se, nw, ra⟩], true)) := by
            show _ = _
            rw [unhide HSN]
            unfold insF
            rw [← unhide HBB2, if_pos ⟨rfl, hq⟩]
            rfl
          clear HNX
          have HO : Hid (wr.ownsRow w9.heap.size 43 10 (.slice a k c) (k) (peC ((insS (L.take i) (newP n x y t)).1))) := by
            have := (unhide HD).own
            unfold OwnDe at this
            rw [← unhide HK] at this
            exact this
          have hwx := (unhide HD).be.size
          go_wp2_with (first
            | (refine wpList_load_row rfl 43 (.tmp 10) rfl gX rfl 43 #[.int .i64 n, .int .i64 x, .int .i64 y, .string ⟨#[]⟩, .bool false, .bool false, .bool false, .int .i64 t, .int .i64 0, .int .i64 0] (0, 0) _ (unhide HX9) Try.underlying43 rfl (by kernel_rfl) ?_)
            | (refine wpList_append_lies _ rfl (.tmp 68) (.tmp 70) 26 rfl w9.heap.size 43 i0 (.agg #[.int .i64 0, .int .i64 0, .int .i64 0, .string ⟨#[]⟩, .bool false, .bool false, .bool false, .int .i64 0, .int .i64 0, .int .i64 0]) 10 72 Try.undDe hi0 hz0 hz1 hz2 rfl (by decide) (.slice a k c) (k) _ (by rfl) ((unhide HO).alloc _) ⟨wr.heap.size, 0, none⟩ 1 1 [.int .i64 n, .int .i64 x, .int .i64 y, .string ⟨#[]⟩, .bool false, .bool false, .bool false, .int .i64 t, .int .i64 0, .int .i64 0] (by rfl) (by rfl) (World.news_of_block (heap_alloc_new wr _)) (Pr.cl_one ⟨n, x, y, ⟨#[]⟩, false, false, false, t, 0, 0⟩) (by decide) (by unfold maxLen; omega) (by omega) (by simp; omega) _ rfl ?_))
          intro g4 cap4 w4 hown hgrow hat hlt2
          have HD4 : Hid (DL w9 (.slice (some ⟨g4, 0, none⟩) (k + 1) cap4) ((insS (L.take i) (newP n x y t)).1 ++ [⟨n, x, y, ⟨#[]⟩, false, false, false, t, 0, 0⟩]) w4) := by
            refine ⟨?_, ((unhide HD).be.alloc (unhide HD).be.size (.cells #[.int .i64 n, .int .i64 x, .int .i64 y, .string ⟨#[]⟩, .bool false, .bool false, .bool false, .int .i64 t, .int .i64 0, .int .i64 0] 43)).grown hgrow (by simp; omega) (fun z hz => ((unhide HO).lt z hz).1)⟩
            unfold OwnDe
            rw [peC_append, List.length_append, ← unhide HK]
            exact hown
          have HK4 : Hid (k + 1 = ((insS (L.take i) (newP n x y t)).1 ++ [(⟨n, x, y, ⟨#[]⟩, false, false, false, t, 0, 0⟩ : Pr)]).length) := by
            show _ = _
            rw [List.length_append, ← unhide HK]
            rfl
          clear hown hgrow hat hlt2 HO
          have b2' := (World.cell?_of_block ((unhide HD4).be.block _ (lt_of_block (unhide HN9).box))).trans (four_cells (unhide HN9).box).2.2.1
          have HBR4 := hide ((unhide HN9).be.trans ((unhide HD4).be.mono (unhide HN9).be.size))
          have HRA4 : Hid (w4.rangeAt g (i * 10) [.int .i64 nd, .int .i64 px, .int .i64 py, .string hv, .bool wa, .bool op, .bool os, .int .i64 se, .int .i64 nw, .int .i64 ra]) := by
            obtain ⟨g', hg', hr'⟩ := (unhide HP).up (unhide HLT) (unhide HBR4) i _ (unhide HE)
            cases hg'
            exact hr'
          clear HD HRA b2
          have HO : Hid (w4.ownsRow w9.heap.size 43 10 (.slice (some ⟨g4, 0, none⟩) (k + 1) cap4) ((k + 1)) (peC (((insS (L.take i) (newP n x y t)).1 ++ [(⟨n, x, y, ⟨#[]⟩, false, false, false, t, 0, 0⟩ : Pr)])))) := by
            have := (unhide HD4).own
            unfold OwnDe at this
            rw [← unhide HK4] at this
            exact this
          have hwx := (unhide HD4).be.size
          go_wp2_with (first
            | (refine wpList_load_mid rfl 43 (.tmp 76) rfl g (i * 10) rfl [.int .i64 nd, .int .i64 px, .int .i64 py, .string hv, .bool wa, .bool op, .bool os, .int .i64 se, .int .i64 nw, .int .i64 ra] _ (unhide HRA4) Try.underlying43 rfl (unhide HPL) ?_)
            | (refine wpList_append_lies _ rfl (.tmp 72) (.tmp 78) 26 rfl w9.heap.size 43 i0 (.agg #[.int .i64 0, .int .i64 0, .int .i64 0, .string ⟨#[]⟩, .bool false, .bool false, .bool false, .int .i64 0, .int .i64 0, .int .i64 0]) 10 72 Try.undDe hi0 hz0 hz1 hz2 rfl (by decide) (.slice (some ⟨g4, 0, none⟩) (k + 1) cap4) ((k + 1)) _ (by rfl) ((unhide HO).alloc _) ⟨w4.heap.size, 0, none⟩ 1 1 [.int .i64 nd, .int .i64 px, .int .i64 py, .string hv, .bool wa, .bool op, .bool os, .int .i64 se, .int .i64 nw, .int .i64 ra] (by rfl) (by rfl) (World.news_of_block (heap_alloc_new w4 _)) (Pr.cl_one ⟨nd, px, py, hv, wa, op, os, se, nw, ra⟩) (by decide) (by unfold maxLen; omega) (by omega) (by simp; omega) _ rfl ?_))
          intro g6 cap6 w6 hown hgrow hat hlt2
          have HD6 : Hid (DL w9 (.slice (some ⟨g6, 0, none⟩) ((k + 1) + 1) cap6) (((insS (L.take i) (newP n x y t)).1 ++ [(⟨n, x, y, ⟨#[]⟩, false, false, false, t, 0, 0⟩ : Pr)]) ++ [⟨nd, px, py, hv, wa, op, os, se, nw, ra⟩]) w6) := by
            refine ⟨?_, ((unhide HD4).be.alloc (unhide HD4).be.size (.cells #[.int .i64 nd, .int .i64 px, .int .i64 py, .string hv, .bool wa, .bool op, .bool os, .int .i64 se, .int .i64 nw, .int .i64 ra] 43)).grown hgrow (by simp; omega) (fun z hz => ((unhide HO).lt z hz).1)⟩
            unfold OwnDe
            rw [peC_append, List.length_append, ← unhide HK4]
            exact hown
          have HK6 : Hid ((k + 1) + 1 = (((insS (L.take i) (newP n x y t)).1 ++ [(⟨n, x, y, ⟨#[]⟩, false, false, false, t, 0, 0⟩ : Pr)]) ++ [(⟨nd, px, py, hv, wa, op, os, se, nw, ra⟩ : Pr)]).length) := by
            show _ = _
            rw [List.length_append, ← unhide HK4]
            rfl
          clear hown hgrow hat hlt2 HO
          clear HD4
          go_wp2
          go_roundw
          case rel => exact ⟨i + 1, k + 1 + 1, _, _, true, by omega, by go_num, rfl, rfl, by rw [unhide HSS]; exact unhide HK6, by rw [unhide HSS], by rw [unhide HSS]; exact unhide HD6⟩
          case measure => simp [intOf]; omega
        · have HSS : Hid (insS (L.take (i + 1)) (newP n x y t) = ((insS (L.take i) (newP n x y t)).1 ++ [⟨nd, px, py, hv, wa, op, os, se, nw, ra⟩], false)) := by
            show _ = _
            rw [unhide HSN]
            unfold insF
            rw [if_neg (fun h => hq h.2), ← unhide HBB2]
          clear HNX
          have HO : Hid (wr.ownsRow w9.heap.size 43 10 (.slice a k c) (k) (peC ((insS (L.take i) (newP n x y t)).1))) := by
            have := (unhide HD).own
            unfold OwnDe at this
            rw [← unhide HK] at this
            exact this
          have hwx := (unhide HD).be.size
          go_wp2_with (first
            | (refine wpList_load_mid rfl 43 (.tmp 76) rfl g (i * 10) rfl [.int .i64 nd, .int .i64 px, .int .i64 py, .string hv, .bool wa, .bool op, .bool os, .int .i64 se, .int .i64 nw, .int .i64 ra] _ (unhide HRA) Try.underlying43 rfl (unhide HPL) ?_)
            | (refine wpList_append_lies _ rfl (.tmp 72) (.tmp 78) 26 rfl w9.heap.size 43 i0 (.agg #[.int .i64 0, .int .i64 0, .int .i64 0, .string ⟨#[]⟩, .bool false, .bool false, .bool false, .int .i64 0, .int .i64 0, .int .i64 0]) 10 72 Try.undDe hi0 hz0 hz1 hz2 rfl (by decide) (.slice a k c) (k) _ (by rfl) ((unhide HO).alloc _) ⟨wr.heap.size, 0, none⟩ 1 1 [.int .i64 nd, .int .i64 px, .int .i64 py, .string hv, .bool wa, .bool op, .bool os, .int .i64 se, .int .i64 nw, .int .i64 ra] (by rfl) (by rfl) (World.news_of_block (heap_alloc_new wr _)) (Pr.cl_one ⟨nd, px, py, hv, wa, op, os, se, nw, ra⟩) (by decide) (by unfold maxLen; omega) (by omega) (by simp; omega) _ rfl ?_))
          intro g4 cap4 w4 hown hgrow hat hlt2
          have HD4 : Hid (DL w9 (.slice (some ⟨g4, 0, none⟩) (k + 1) cap4) ((insS (L.take i) (newP n x y t)).1 ++ [⟨nd, px, py, hv, wa, op, os, se, nw, ra⟩]) w4) := by
            refine ⟨?_, ((unhide HD).be.alloc (unhide HD).be.size (.cells #[.int .i64 nd, .int .i64 px, .int .i64 py, .string hv, .bool wa, .bool op, .bool os, .int .i64 se, .int .i64 nw, .int .i64 ra] 43)).grown hgrow (by simp; omega) (fun z hz => ((unhide HO).lt z hz).1)⟩
            unfold OwnDe
            rw [peC_append, List.length_append, ← unhide HK]
            exact hown
          have HK4 : Hid (k + 1 = ((insS (L.take i) (newP n x y t)).1 ++ [(⟨nd, px, py, hv, wa, op, os, se, nw, ra⟩ : Pr)]).length) := by
            show _ = _
            rw [List.length_append, ← unhide HK]
            rfl
          clear hown hgrow hat hlt2 HO
          clear HD
          go_wp2
          go_roundw
          case rel => exact ⟨i + 1, k + 1, _, _, false, by omega, by go_num, rfl, rfl, by rw [unhide HSS]; exact unhide HK4, by rw [unhide HSS], by rw [unhide HSS]; exact unhide HD4⟩
          case measure => simp [intOf]; omega
    · have q1 : ¬ (i : Int) < m := by omega
      have htk : L.take i = L := List.take_of_length_le (by rw [unhide HM]; omega)
      rw [htk] at HD HK HBB2
      clear htk b0 b1 b3
      cases b with
      | true =>
        have HLX : Hid (l2 = (insS L (newP n x y t)).1) := by
          show _ = _
          rw [unhide HL2]
          unfold insL
          rw [if_pos (unhide HBB2).symm]
        have HDX : Hid (DL w9 (.slice a k c) l2 wr) := by rw [unhide HLX]; exact unhide HD
        clear HD b2
        obtain ⟨d2, f2, u1, u2, u3⟩ := dt_out (unhide HBW) (unhide HN9).be (unhide HN9).box (unhide HN9).ans (unhide HG) (unhide HDX) (unhide HH) (by rw [unhide HL2, insL_len, unhide HM]; omega)
        have HT2 := hide u1
        have HR2 := hide u2
        have HF := hide u3
        clear u1 u2 u3 HDX
        go_wp2_with (first
          | (refine wpList_load_row rfl 29 (.tmp 4) rfl w.heap.size rfl 29 #[.int .i64 room, .int .i64 tmo, .slice a k c, .slice a1 nb c1] (0, 0) _ (unhide HT2) Try.underlying29 rfl (by kernel_rfl) ?_)
          | (refine wpList_store_row_to rfl 29 (.tmp 8) (.tmp 88) rfl gR #[.int .i64 room, .int .i64 tmo, .slice a k c, .slice a1 nb c1] rfl rfl 29 zT (unhide HR2) (by kernel_rfl) (by rfl) (by simp [Value.oneCell']) (fun w' => Fin B w gR room tmo (.slice a k c) (.slice a1 nb c1) l2 Bs w') (unhide HF) ?_))
        intro w5 h5
        have H5 := hide h5
        clear h5
        go_wp2
        exact ret_row2 (p := 8) (q := 9) (ty := 29) (by kernel_rfl) gR 29 _ (0, 0) (.int .i64 0) _ rfl rfl (unhide H5).blk rfl Try.underlying29 (by kernel_rfl) ⟨_, _, rfl, (unhide H5).dt, (unhide H5).be⟩
      | false =>
        have HLX : Hid (l2 = (insS L (newP n x y t)).1 ++ [⟨n, x, y, ⟨#[]⟩, false, false, false, t, 0, 0⟩]) := by
          show _ = _
          rw [unhide HL2]
          unfold insL
          rw [if_neg (by rw [← unhide HBB2]; decide)]
          rfl
        have HO : Hid (wr.ownsRow w9.heap.size 43 10 (.slice a k c) (k) (peC ((insS L (newP n x y t)).1))) := by
          have := (unhide HD).own
          unfold OwnDe at this
          rw [← unhide HK] at this
          exact this
        have hwx := (unhide HD).be.size
        go_wp2_with (first
          | (refine wpList_load_row rfl 43 (.tmp 10) rfl gX rfl 43 #[.int .i64 n, .int .i64 x, .int .i64 y, .string ⟨#[]⟩, .bool false, .bool false, .bool false, .int .i64 t, .int .i64 0, .int .i64 0] (0, 0) _ (unhide HX9) Try.underlying43 rfl (by kernel_rfl) ?_)
          | (refine wpList_append_lies _ rfl (.tmp 82) (.tmp 84) 26 rfl w9.heap.size 43 i0 (.agg #[.int .i64 0, .int .i64 0, .int .i64 0, .string ⟨#[]⟩, .bool false, .bool false, .bool false, .int .i64 0, .int .i64 0, .int .i64 0]) 10 72 Try.undDe hi0 hz0 hz1 hz2 rfl (by decide) (.slice a k c) (k) _ (by rfl) ((unhide HO).alloc _) ⟨wr.heap.size, 0, none⟩ 1 1 [.int .i64 n, .int .i64 x, .int .i64 y, .string ⟨#[]⟩, .bool false, .bool false, .bool false, .int .i64 t, .int .i64 0, .int .i64 0] (by rfl) (by rfl) (World.news_of_block (heap_alloc_new wr _)) (Pr.cl_one ⟨n, x, y, ⟨#[]⟩, false, false, false, t, 0, 0⟩) (by decide) (by unfold maxLen; omega) (by omega) (by simp; omega) _ rfl ?_))
        intro g4 cap4 w4 hown hgrow hat hlt2
        have HD4 : Hid (DL w9 (.slice (some ⟨g4, 0, none⟩) (k + 1) cap4) ((insS L (newP n x y t)).1 ++ [⟨n, x, y, ⟨#[]⟩, false, false, false, t, 0, 0⟩]) w4) := by
          refine ⟨?_, ((unhide HD).be.alloc (unhide HD).be.size (.cells #[.int .i64 n, .int .i64 x, .int .i64 y, .string ⟨#[]⟩, .bool false, .bool false, .bool false, .int .i64 t, .int .i64 0, .int .i64 0] 43)).grown hgrow (by simp; omega) (fun z hz => ((unhide HO).lt z hz).1)⟩
          unfold OwnDe
          rw [peC_append, List.length_append, ← unhide HK]
          exact hown
        have HK4 : Hid (k + 1 = ((insS L (newP n x y t)).1 ++ [(⟨n, x, y, ⟨#[]⟩, false, false, false, t, 0, 0⟩ : Pr)]).length) := by
          show _ = _
          rw [List.length_append, ← unhide HK]
          rfl
        clear hown hgrow hat hlt2 HO
        have HDX : Hid (DL w9 (.slice (some ⟨g4, 0, none⟩) (k + 1) cap4) l2 w4) := by rw [unhide HLX]; exact unhide HD4
        clear HD HD4 b2
        obtain ⟨d2, f2, u1, u2, u3⟩ := dt_out (unhide HBW) (unhide HN9).be (unhide HN9).box (unhide HN9).ans (unhide HG) (unhide HDX) (unhide HH) (by rw [unhide HL2, insL_len, unhide HM]; omega)
        have HT2 := hide u1
        have HR2 := hide u2
        have HF := hide u3
        clear u1 u2 u3 HDX
        go_wp2_with (first
          | (refine wpList_load_row rfl 29 (.tmp 4) rfl w.heap.size rfl 29 #[.int .i64 room, .int .i64 tmo, .slice (some ⟨g4, 0, none⟩) (k + 1) cap4, .slice a1 nb c1] (0, 0) _ (unhide HT2) Try.underlying29 rfl (by kernel_rfl) ?_)
          | (refine wpList_store_row_to rfl 29 (.tmp 8) (.tmp 88) rfl gR #[.int .i64 room, .int .i64 tmo, .slice (some ⟨g4, 0, none⟩) (k + 1) cap4, .slice a1 nb c1] rfl rfl 29 zT (unhide HR2) (by kernel_rfl) (by rfl) (by simp [Value.oneCell']) (fun w' => Fin B w gR room tmo (.slice (some ⟨g4, 0, none⟩) (k + 1) cap4) (.slice a1 nb c1) l2 Bs w') (unhide HF) ?_))
        intro w5 h5
        have H5 := hide h5
        clear h5
        go_wp2
        exact ret_row2 (p := 8) (q := 9) (ty := 29) (by kernel_rfl) gR 29 _ (0, 0) (.int .i64 0) _ rfl rfl (unhide H5).blk rfl Try.underlying29 (by kernel_rfl) ⟨_, _, rfl, (unhide H5).dt, (unhide H5).be⟩
end Go.Proofs.Ytbfakbooenmhoaa

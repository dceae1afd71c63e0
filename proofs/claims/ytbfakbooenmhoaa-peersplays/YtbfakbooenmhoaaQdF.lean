/- peers: the document's table: Late, Expire, Roll. -/
import Derived.Test.YtbfakbooenmhoaaQdE
namespace Go.Proofs.Ytbfakbooenmhoaa
open Go.RowKit
set_option linter.unusedVariables false
attribute [local go_sem] Oper.semAt_some

/-- who was not heard for long -/
def laL (L : List Pr) (tmo now : Int) : List Int := if isTm now = true then (L.filter fun c => decide (tmo < now - c.se)).map (·.nd) else []
theorem laL_len (L : List Pr) (tmo now : Int) : (laL L tmo now).length ≤ L.length := by
  unfold laL
  split
  · rw [List.length_map]
    exact List.length_filter_le _ _
  · simp
theorem laL_snoc (L : List Pr) (e : Pr) (tmo now : Int) : laL (L ++ [e]) tmo now = if isTm now = true ∧ tmo < now - e.se then laL L tmo now ++ [e.nd] else laL L tmo now := by
  unfold laL
  by_cases h : isTm now = true
  · rw [if_pos h, if_pos h, List.filter_append, List.map_append]
    by_cases h2 : tmo < now - e.se
    · rw [if_pos ⟨h, h2⟩]
      simp [h2]
    · rw [if_neg (fun x => h2 x.2)]
      simp [h2]
  · rw [if_neg h, if_neg h, if_neg (fun x => h x.1)]
/-- without these numbers -/
def wosL (L : List Pr) (G : List Int) : List Pr := G.foldl woL L
theorem wosL_snoc (L : List Pr) (G : List Int) (n : Int) : wosL L (G ++ [n]) = woL (wosL L G) n := by
  unfold wosL
  rw [List.foldl_append]
  rfl
theorem wosL_len (L : List Pr) (G : List Int) : (wosL L G).length ≤ L.length := by
  induction G generalizing L with
  | nil => exact Nat.le_refl _
  | cons n G ih => exact Nat.le_trans (ih (woL L n)) (woL_len L n)
/-- rolled up to k -/
def rollK (L : List Pr) (k : Nat) : List Pr := (L.take k).map rolled ++ L.drop k
theorem rollK_len (L : List Pr) (k : Nat) : (rollK L k).length = L.length := by
  unfold rollK
  rw [List.length_append, List.length_map, ← List.length_append, List.take_append_drop]
theorem rollK_at {L : List Pr} {k : Nat} {c : Pr} (h : L[k]? = some c) : (rollK L k)[k]? = some c := by
  have hk := (List.getElem?_eq_some_iff.1 h).1
  unfold rollK
  rw [List.getElem?_append_right (by rw [List.length_map, List.length_take]; omega), List.length_map, List.length_take, List.getElem?_drop, show k + (k - min k L.length) = k by omega]
  exact h
theorem rollK_step {L : List Pr} (hn : L.Pairwise fun a b => a.nd ≠ b.nd) {k : Nat} {c : Pr} (h : L[k]? = some c) : wiL (rollK L k) (rolled c) = rollK L (k + 1) := by
  obtain ⟨hk, he⟩ := List.getElem?_eq_some_iff.1 h
  have hp := List.pairwise_iff_getElem.1 hn
  unfold wiL rollK
  have hd : L.drop k = c :: L.drop (k + 1) := by rw [List.drop_eq_getElem_cons hk, he]
  have ht : L.take (k + 1) = L.take k ++ [c] := by rw [List.take_add_one, h]; rfl
  rw [List.map_append, hd, ht, List.map_append, List.map_cons, List.append_assoc]
  have e1 : ((L.take k).map rolled).map (fun d => if d.nd = (rolled c).nd then rolled c else d) = (L.take k).map rolled := by
    rw [List.map_map]
    refine List.map_congr_left fun d hd => ?_
    obtain ⟨j, hj, hj2⟩ := List.mem_take_iff_getElem.1 hd
    have := hp j k (by omega) hk (by omega)
    rw [hj2, he] at this
    exact if_neg this
  have e2 : (L.drop (k + 1)).map (fun d => if d.nd = (rolled c).nd then rolled c else d) = L.drop (k + 1) := by
    have : (L.drop (k + 1)).map (fun d => if d.nd = (rolled c).nd then rolled c else d) = (L.drop (k + 1)).map id := List.map_congr_left fun d hd => by
      obtain ⟨j, hj, hj2⟩ := List.mem_iff_getElem.1 hd
      rw [List.getElem_drop] at hj2
      have := hp k (k + 1 + j) hk (by rw [List.length_drop] at hj; omega) (by omega)
      rw [hj2, he] at this
      exact if_neg (fun e => this e.symm)
    rw [this, List.map_id]
  rw [e1, e2, if_pos (show c.nd = (rolled c).nd from rfl)]
  rfl
set_option maxRecDepth 100000 in
set_option maxHeartbeats 4000000 in
theorem dlate_any (B : Nat) (room tmo now : Int) (vL vB : Value) (L : List Pr) (Bs : List Int) (w : World) (h : Dt B w vL vB L Bs) (hB : B ≤ w.heap.size) (hS : ∀ c ∈ L, Bd c) :
    Calls Try.prog 36 #[tabV room tmo vL vB, .int .i64 now] w fun e w' => ∃ v, e = .returned v ∧ OwnI w' w.heap.size v (laL L tmo now) ∧ Below w.heap.size w w' := by
  have HBW := hide hB
  have HS := hide hS
  clear hB hS
  obtain ⟨f, hf⟩ : ∃ f, f = isTm now := ⟨_, rfl⟩
  have hP := hide (fun w => dTick_any now w)
  rw [← hf] at hP
  have hnow : f = true → 0 ≤ now ∧ now ≤ 1099511627776 := fun e => by
    rw [hf] at e
    exact of_decide_eq_true e
  have HF := hide hf
  clear hf
  obtain ⟨ll, hll⟩ : ∃ ll, ll = laL L tmo now := ⟨_, rfl⟩
  rw [← hll]
  have HLL := hide hll
  clear hll
  obtain ⟨j0, hj0, hy0, hy1, hy2⟩ := info_parts Try.infoI
  obtain ⟨a0, c0, rfl, hp, hlt⟩ := own_des h.oL
  obtain ⟨a1, c1, rfl⟩ := ownI_shape h.oB
  have hn16 := h.nL
  have HH := hide h
  have HP := hide hp
  have HLT := hide (fun a ha => (hlt a ha).2)
  obtain ⟨i0, hi0, hz0, hz1, hz2⟩ := info_parts Try.infoDe
  have HPL : Hid ((Try.prog.info? 43).map (·.size) = some 10) := by
    show _ = _
    kernel_rfl
  generalize hm : L.length = m at *
  have HM := hide hm
  clear h hp hlt hm
  go_enter Try.func36, Try.ntmps36
  go_wp2_with fail
  obtain ⟨w1, hw1⟩ : ∃ w1, w1 = w.alloc (.cells #[.int .i64 room, .int .i64 tmo, .slice a0 m c0, .slice a1 Bs.length c1] 29) := ⟨_, rfl⟩
  have hh := heap_alloc_new w (.cells #[.int .i64 room, .int .i64 tmo, .slice a0 m c0, .slice a1 Bs.length c1] 29)
  have hb := (Below.refl w.heap.size w).alloc (Nat.le_refl _) (.cells #[.int .i64 room, .int .i64 tmo, .slice a0 m c0, .slice a1 Bs.length c1] 29)
  rw [← hw1] at hh hb ⊢
  have HT := hide hh
  have HB := hide hb
  clear hh hb hw1
  have HD0 : Hid (DI w1 (.slice none 0 0) (laL (L.take 0) tmo now) w1) := ⟨by
    have : laL (L.take 0) tmo now = [] := by
      unfold laL
      split <;> rfl
    rw [this]
    exact World.ownsRow_nil _ _ _ _, Below.refl _ _⟩
  go_loopw [5, 6] (fun lv iv wr => ∃ (i k : Nat) (a : Option Addr) (c : Nat), i ≤ m ∧ k ≤ i ∧ iv = .int .i64 i ∧ lv = .slice a k c ∧ k = (laL (L.take i) tmo now).length ∧ DI w1 lv (laL (L.take i) tmo now) wr) (fun _ iv _ => m - (intOf iv).toNat)
  case atStart => exact ⟨0, 0, none, 0, by omega, by omega, rfl, rfl, by
    have : laL (L.take 0) tmo now = [] := by
      unfold laL
      split <;> rfl
    rw [this]
    rfl, unhide HD0⟩
  case round =>
    obtain ⟨i, k, a, c, hi, hki, rfl, rfl, hk, hd⟩ := hrel
    have HK := hide hk
    have HD := hide hd
    have HBR := hide ((unhide HB).trans (hd.be.mono (unhide HB).size))
    obtain ⟨b0, b1, b2, b3⟩ := four_cells ((hd.be.block _ (lt_of_block (unhide HT))).trans (unhide HT))
    clear hk hd HD0
    by_cases hlt : i < m
    · have q1 : (i : Int) < m := by omega
      obtain ⟨e, he⟩ : ∃ e, L[i]? = some e := ⟨_, List.getElem?_eq_getElem (by rw [unhide HM]; exact hlt)⟩
      obtain ⟨g, rfl, hra⟩ := (unhide HP).up (unhide HLT) (unhide HBR) i e he
      have e0 := hra 0 (.int .i64 e.nd) rfl
      rw [Nat.add_zero] at e0
      have heL := (List.getElem?_eq_some_iff.1 he)
      have HTK : Hid (L.take (i + 1) = L.take i ++ [e]) := by
        show _ = _
        rw [List.take_add_one, he]
        rfl
      obtain ⟨nd, px, py, hv, wa, op, os, se, nw, ra⟩ := e
      have HRA : Hid (wr.rangeAt g (i * 10) [.int .i64 nd, .int .i64 px, .int .i64 py, .string hv, .bool wa, .bool op, .bool os, .int .i64 se, .int .i64 nw, .int .i64 ra]) := hra
      have HE := hide he
      dsimp only at e0
      clear hra he heL
      have e7 : wr.cell? ⟨g, i * 10 + 7, none⟩ = some (.int .i64 se) := unhide HRA 7 _ rfl
      have hbd : 0 ≤ se ∧ se ≤ 1099511627776 := (unhide HS _ (List.mem_of_getElem? (unhide HE))).se
      have HSN : Hid (laL (L.take (i + 1)) tmo now = if isTm now = true ∧ tmo < now - se then laL (L.take i) tmo now ++ [nd] else laL (L.take i) tmo now) := by
        show _ = _
        rw [unhide HTK, laL_snoc]
      cases f with
      | false =>
        have HSS : Hid (laL (L.take (i + 1)) tmo now = laL (L.take i) tmo now) := by
          show _ = _
          rw [unhide HSN, if_neg (fun e => by have := e.1; rw [← unhide HF] at this; cases this)]
        have hneZ : Nonempty (Gb wr) := gb_ne wr
        have y0 : ∀ y : Gb wr, y.w.cell? ⟨w.heap.size, 2, none⟩ = some (.slice (some ⟨g, 0, none⟩) m c0) := fun y => gb_cell b2 y
        have y1 : ∀ y : Gb wr, y.w.cell? ⟨w.heap.size, 1, none⟩ = some (.int .i64 tmo) := fun y => gb_cell b1 y
        have y2 : ∀ y : Gb wr, y.w.cell? ⟨g, i * 10 + 7, none⟩ = some (.int .i64 se) := fun y => gb_cell e7 y
        clear b0 b3
        go_wp2_with fail
        refine wp_region_grB (by kernel_rfl) (by kernel_rfl) ?_
        repeat (go_big_quiet_step ((go_at_call 54; exact gb_same (unhide hP _))))
        refine wpQuiet_nil ?_
        rintro wz ⟨xz, rfl⟩
        have HD := hide ((unhide HD).up xz.ok)
        have b2' := gb_cell b2 xz
        have e0' := gb_cell e0 xz
        clear y0 y1 y2 b1 b2 e0 e7 hneZ HRA
        generalize xz.w = wz at *
        go_wp2
        go_roundw
        case rel => exact ⟨i + 1, k, a, c, by omega, by omega, by go_num, rfl, by rw [unhide HSS]; exact unhide HK, by rw [unhide HSS]; exact unhide HD⟩
        case measure => simp [intOf]; omega
      | true =>
        have hnw := hnow rfl
        by_cases hq : tmo < now - se
        · have HSS : Hid (laL (L.take (i + 1)) tmo now = laL (L.take i) tmo now ++ [nd]) := by
            show _ = _
            rw [unhide HSN, if_pos ⟨by rw [← unhide HF], hq⟩]
          have hneZ : Nonempty (Gb wr) := gb_ne wr
          have y0 : ∀ y : Gb wr, y.w.cell? ⟨w.heap.size, 2, none⟩ = some (.slice (some ⟨g, 0, none⟩) m c0) := fun y => gb_cell b2 y
          have y1 : ∀ y : Gb wr, y.w.cell? ⟨w.heap.size, 1, none⟩ = some (.int .i64 tmo) := fun y => gb_cell b1 y
          have y2 : ∀ y : Gb wr, y.w.cell? ⟨g, i * 10 + 7, none⟩ = some (.int .i64 se) := fun y => gb_cell e7 y
          clear b0 b3
          go_wp2_with fail
          refine wp_region_grB (by kernel_rfl) (by kernel_rfl) ?_
          repeat (go_big_quiet_step ((go_at_call 54; exact gb_same (unhide hP _))))
          refine wpQuiet_nil ?_
          rintro wz ⟨xz, rfl⟩
          have HD := hide ((unhide HD).up xz.ok)
          have b2' := gb_cell b2 xz
          have e0' := gb_cell e0 xz
          clear y0 y1 y2 b1 b2 e0 e7 hneZ HRA
          generalize xz.w = wz at *
          have HO : Hid (wz.ownsRow w1.heap.size 3 1 (.slice a k c) k (ic (laL (L.take i) tmo now))) := by
            have := (unhide HD).own
            unfold OwnI at this
            rw [← unhide HK] at this
            exact this
          have hwx := (unhide HD).be.size
          go_wp2_with (refine wpList_append_lies _ rfl (.tmp 29) (.tmp 36) 27 rfl w1.heap.size 3 j0 (.int .i64 0) 1 8 Try.undI hj0 hy0 hy1 hy2 rfl (by decide) (.slice a k c) k _ (by rfl) ((unhide HO).alloc _) ⟨wz.heap.size, 0, none⟩ 1 1 [.int .i64 nd] (by rfl) (by rfl) (World.news_of_block (heap_alloc_new wz _)) (ic_one [nd]) (by decide) (by unfold maxLen; omega) (by omega) (by simp; omega) _ rfl ?_)
          intro g2 cap2 w4 hown hgrow hat hlt2
          have HD2 : Hid (DI w1 (.slice (some ⟨g2, 0, none⟩) (k + 1) cap2) (laL (L.take i) tmo now ++ [nd]) w4) := by
            refine ⟨?_, ((unhide HD).be.alloc (unhide HD).be.size (.cells #[.int .i64 nd] 3)).grown hgrow (by simp; omega) (fun z hz => ((unhide HO).lt z hz).1)⟩
            unfold OwnI
            rw [ic_append, List.length_append, ← unhide HK]
            exact hown
          clear hown hgrow hat hlt2 HO HD
          go_wp2
          go_roundw
          case rel => exact ⟨i + 1, k + 1, _, _, by omega, by omega, by go_num, rfl, by rw [unhide HSS, List.length_append, ← unhide HK]; rfl, by rw [unhide HSS]; exact unhide HD2⟩
          case measure => simp [intOf]; omega
        · have HSS : Hid (laL (L.take (i + 1)) tmo now = laL (L.take i) tmo now) := by
            show _ = _
            rw [unhide HSN, if_neg (fun e => hq e.2)]
          have hneZ : Nonempty (Gb wr) := gb_ne wr
          have y0 : ∀ y : Gb wr, y.w.cell? ⟨w.heap.size, 2, none⟩ = some (.slice (some ⟨g, 0, none⟩) m c0) := fun y => gb_cell b2 y
          have y1 : ∀ y : Gb wr, y.w.cell? ⟨w.heap.size, 1, none⟩ = some (.int .i64 tmo) := fun y => gb_cell b1 y
          have y2 : ∀ y : Gb wr, y.w.cell? ⟨g, i * 10 + 7, none⟩ = some (.int .i64 se) := fun y => gb_cell e7 y
          clear b0 b3
          go_wp2_with fail
          refine wp_region_grB (by kernel_rfl) (by kernel_rfl) ?_
          repeat (go_big_quiet_step ((go_at_call 54; exact gb_same (unhide hP _))))
          refine wpQuiet_nil ?_
          rintro wz ⟨xz, rfl⟩
          have HD := hide ((unhide HD).up xz.ok)
          have b2' := gb_cell b2 xz
          have e0' := gb_cell e0 xz
          clear y0 y1 y2 b1 b2 e0 e7 hneZ HRA
          generalize xz.w = wz at *
          go_wp2
          go_roundw
          case rel => exact ⟨i + 1, k, a, c, by omega, by omega, by go_num, rfl, by rw [unhide HSS]; exact unhide HK, by rw [unhide HSS]; exact unhide HD⟩
          case measure => simp [intOf]; omega
    · have q1 : ¬ (i : Int) < m := by omega
      have him : i = m := by omega
      have htk : L.take i = L := List.take_of_length_le (by rw [unhide HM]; omega)
      rw [htk, ← unhide HLL] at HD
      have hown := hide (ownI_le (unhide HD).own (unhide HB).size)
      clear b0 b1 b3 htk HK HD
      go_wp2
      go_ret
      exact ⟨_, rfl, unhide hown, unhide HBR⟩
/-- a table's box and the answer, in a loop -/
structure EX (B : Nat) (w : World) (gR : Nat) (room tmo : Int) (vB : Value) (L : List Pr) (Bs : List Int) (vG : Value) (G : List Int) (vL : Value) (wr : World) : Prop where
  mid : Mid B w w.heap.size gR room tmo vL vB vB L Bs wr
  own : OwnI wr B vG G
set_option maxRecDepth 100000 in
set_option maxHeartbeats 4000000 in
theorem dexpire_any (B : Nat) (room tmo now : Int) (vL vB : Value) (L : List Pr) (Bs : List Int) (w : World) (h : Dt B w vL vB L Bs) (hB : B ≤ w.heap.size) (hS : ∀ c ∈ L, Bd c) :
    Calls Try.prog 34 #[tabV room tmo vL vB, .int .i64 now] w fun e w' => ∃ v, e = .returned (tabV room tmo v vB) ∧ Dt B w' v vB (wosL L (laL L tmo now)) Bs ∧ Below w.heap.size w w' := by
  have HBW := hide hB
  have hC := hide (fun x (hx : Dt B x vL vB L Bs) (hb : B ≤ x.heap.size) => dlate_any B room tmo now vL vB L Bs x hx hb hS)
  have hW := hide (fun (v : Value) (K : List Pr) (n : Int) x (hx : Dt B x v vB K Bs) (hb : B ≤ x.heap.size) => dwithout_any B room tmo n v vB K Bs x hx hb)
  have hg16 : (laL L tmo now).length ≤ 16 := Nat.le_trans (laL_len L tmo now) h.nL
  clear hB hS
  obtain ⟨G, hG⟩ : ∃ G, G = laL L tmo now := ⟨_, rfl⟩
  rw [← hG] at hC hg16 ⊢
  clear hG
  obtain ⟨a0, c0, rfl, hp, hlt⟩ := own_des h.oL
  obtain ⟨a1, c1, rfl⟩ := ownI_shape h.oB
  have hn16 := h.nL
  have HH := hide h
  have HP := hide hp
  have HLT := hide (fun a ha => (hlt a ha).2)
  obtain ⟨i0, hi0, hz0, hz1, hz2⟩ := info_parts Try.infoDe
  have HPL : Hid ((Try.prog.info? 43).map (·.size) = some 10) := by
    show _ = _
    kernel_rfl
  generalize hm : L.length = m at *
  have HM := hide hm
  clear h hp hlt hm
  go_enter Try.func34, Try.ntmps34
  go_wp2_with fail

  obtain ⟨w1, hw1⟩ : ∃ w1, w1 = (w.alloc (.cells #[.int .i64 room, .int .i64 tmo, .slice a0 m c0, .slice a1 Bs.length c1] 29)).alloc (.cells #[.int .i64 0, .int .i64 0, .slice none 0 0, .slice none 0 0] 29) := ⟨_, rfl⟩
  obtain ⟨t1, t2, t3⟩ := two_boxes w #[.int .i64 room, .int .i64 tmo, .slice a0 m c0, .slice a1 Bs.length c1] #[.int .i64 0, .int .i64 0, .slice none 0 0, .slice none 0 0] 29 29
  rw [← hw1] at t1 t2 t3
  have HW : Hid (w1 = _) := hw1
  obtain ⟨gR, hgR⟩ : ∃ gR, gR = w.heap.size + 1 := ⟨_, rfl⟩
  rw [← hgR] at t2
  have HT := hide t1
  have HR := hide t2
  have HB := hide t3
  have HG : Hid (w.heap.size ≤ w.heap.size ∧ w.heap.size ≤ gR ∧ w.heap.size ≠ gR) := by
    rw [hgR]
    exact ⟨by omega, by omega, by omega⟩
  have HGR := hide hgR
  clear t1 t2 t3 hw1 hgR
  rw [← unhide HW]
  generalize hx : w.heap.size + 1 = gx at *
  have hgx : gR = gx := unhide HGR
  clear hx
  subst hgx
  refine (unhide hC w1 ((unhide HH).up (unhide HB)) (Nat.le_trans (unhide HBW) (unhide HB).size)).mono ?_
  rintro e w2 ⟨v, rfl, hown, b2⟩
  have HE0 : Hid (EX B w gR room tmo (.slice a1 Bs.length c1) (wosL L (G.take 0)) Bs v G (.slice a0 m c0) w2) := by
    have hbx := (unhide HB).trans (b2.mono (unhide HB).size)
    exact ⟨⟨(b2.block _ (lt_of_block (unhide HT))).trans (unhide HT), (b2.block _ (lt_of_block (unhide HR))).trans (unhide HR), (unhide HH).up hbx, hbx⟩, ownI_le hown (Nat.le_trans (unhide HBW) (unhide HB).size)⟩
  obtain ⟨ga, gc, rfl⟩ := ownI_shape hown
  generalize hng : G.length = ng at *
  have HNG := hide hng
  clear hown b2 hC hng
  go_wp2_with fail
  go_loopw [6] (fun iv wr => ∃ (i : Nat) (vL : Value), i ≤ ng ∧ iv = .int .i64 i ∧ EX B w gR room tmo (.slice a1 Bs.length c1) (wosL L (G.take i)) Bs (.slice ga ng gc) G vL wr) (fun iv _ => ng - (intOf iv).toNat)
  case atStart => exact ⟨0, _, by omega, rfl, unhide HE0⟩
  case round =>
    obtain ⟨i, vX, hi, rfl, hex⟩ := hrel
    obtain ⟨ax, cx, rfl⟩ := ownDe_shape hex.mid.dt.oL
    have HEX := hide hex
    obtain ⟨b0, b1, b2, b3⟩ := four_cells hex.mid.box
    clear hex HE0
    generalize hlx : (wosL L (G.take i)).length = lx at *
    have HLX := hide hlx
    clear hlx
    by_cases hlt : i < ng
    · have q1 : (i : Int) < ng := by omega
      have hig : i < G.length := by rw [unhide HNG]; exact hlt
      obtain ⟨aa, cc, e1, e2, _⟩ := (unhide HEX).own.ints
      rw [unhide HNG] at e1
      cases e1
      obtain ⟨g, o, rfl, e0⟩ := e2 i hig
      have HTK : Hid (wosL L (G.take (i + 1)) = woL (wosL L (G.take i)) G[i]) := by
        show _ = _
        rw [List.take_succ_eq_append_getElem hig, wosL_snoc]
      generalize G[i] = n at *
      clear e2 hig
      go_wp2_with fail
      refine wp_region_late 5 ?A0 (by kernel_rfl) (by kernel_rfl) (by kernel_rfl) ?lex ?_
      case lex =>
        intro X
        have hneX := gb_ne X.w
        have hcX : ∀ y : Gb X.w, y.w.cell? ⟨g, o + i, none⟩ = some (.int .i64 n) := fun y => gb_cell (gb_cell e0 X) y
        have h0X : ∀ y : Gb X.w, y.w.cell? ⟨w.heap.size, 0, none⟩ = some (.int .i64 room) := fun y => gb_cell (gb_cell b0 X) y
        have h1X : ∀ y : Gb X.w, y.w.cell? ⟨w.heap.size, 1, none⟩ = some (.int .i64 tmo) := fun y => gb_cell (gb_cell b1 X) y
        have h2X : ∀ y : Gb X.w, y.w.cell? ⟨w.heap.size, 2, none⟩ = some (.slice ax lx cx) := fun y => gb_cell (gb_cell b2 X) y
        have h3X : ∀ y : Gb X.w, y.w.cell? ⟨w.heap.size, 3, none⟩ = some (.slice a1 Bs.length c1) := fun y => gb_cell (gb_cell b3 X) y
        dsimp only [List.take_succ_cons, List.take_zero]
        repeat (go_big_quiet_step (fail))
        refine wpQuiet_nil ?_
        exact rfl
      intro w8 b8
      try simp only [List.drop_succ_cons, List.drop_zero]
      have HM8 := hide ((unhide HEX).mid.up b8)
      have HO8 := hide (ownI_up (unhide HEX).own b8)
      have hW2 := hide (unhide hW _ _ n w8 (unhide HM8).dt (Nat.le_trans (unhide HBW) (unhide HM8).be.size))
      clear b8 b0 b1 b2 b3 e0 HEX
      go_wp2_with fail
      refine (unhide hW2).mono ?_
      rintro e w9 ⟨v, rfl, hd9, b9⟩
      rw [← unhide HTK] at hd9
      have HT9 := hide ((b9.block _ (lt_of_block (unhide HM8).box)).trans (unhide HM8).box)
      have HF := hide (mid_row (room := room) (tmo := tmo) (vb := .slice a1 Bs.length c1) hd9 ((unhide HM8).be.trans (b9.mono (unhide HM8).be.size)) (unhide HT9) ((b9.block _ (lt_of_block (unhide HM8).ans)).trans (unhide HM8).ans) (unhide HG))
      have HO9 : Hid (OwnI (w9.setRow w.heap.size #[.int .i64 room, .int .i64 tmo, v, .slice a1 Bs.length c1]) B (.slice (some ⟨g, o, none⟩) ng gc) G) := by
        have h9 := ownI_up (unhide HO8) b9
        exact ownI_keep h9 (fun k hk => setRow_other _ w.heap.size k _ (fun e => by subst e; exact ownI_ne h9 (unhide HT9) (by decide) hk))
      have HOC : Hid ((#[.int .i64 room, .int .i64 tmo, v, .slice a1 Bs.length c1] : Array Value).all (·.oneCell') = true) := by
        obtain ⟨av, cv, rfl⟩ := ownDe_shape hd9.oL
        show _ = _
        simp [Value.oneCell']
      clear hd9 b9 hW2 HM8 HO8
      go_wp2_with (refine wpList_store_row_to rfl 29 (.tmp 2) (.tmp 21) rfl w.heap.size #[.int .i64 room, .int .i64 tmo, v, .slice a1 Bs.length c1] rfl rfl 29 _ (unhide HT9) (by kernel_rfl) (by rfl) (unhide HOC) (fun w' => EX B w gR room tmo (.slice a1 Bs.length c1) (wosL L (G.take (i + 1))) Bs (.slice (some ⟨g, o, none⟩) ng gc) G v w') ⟨unhide HF, unhide HO9⟩ ?_)
      intro w5 h5
      have H5 := hide h5
      clear h5
      go_wp2_with fail
      refine onlyN ?_
      go_wp2
      go_roundw
      case rel => exact ⟨i + 1, v, by omega, by go_num, unhide H5⟩
      case measure => simp [intOf]; omega
    · have q1 : ¬ (i : Int) < ng := by omega
      have htk : G.take i = G := List.take_of_length_le (by rw [unhide HNG]; omega)
      have HT2 := hide (unhide HEX).mid.box
      have HR2 := hide (unhide HEX).mid.ans
      have HDT := hide (unhide HEX).mid.dt
      have HBX := hide (unhide HEX).mid.be
      rw [htk] at HDT HLX
      clear htk b0 b1 b2 b3 HEX
      have HF := hide (fin_put (room := room) (tmo := tmo) (unhide HDT) (unhide HBX) (unhide HR2) (unhide HG).2.1)
      go_wp2_with (first
        | (refine wpList_load_row rfl 29 (.tmp 2) rfl w.heap.size rfl 29 #[.int .i64 room, .int .i64 tmo, .slice ax lx cx, .slice a1 Bs.length c1] (0, 0) _ (unhide HT2) Try.underlying29 rfl (by kernel_rfl) ?_)
        | (refine wpList_store_row_to rfl 29 (.tmp 4) (.tmp 22) rfl gR #[.int .i64 room, .int .i64 tmo, .slice ax lx cx, .slice a1 Bs.length c1] rfl rfl 29 zT (unhide HR2) (by kernel_rfl) (by rfl) (by simp [Value.oneCell']) (fun w' => Fin B w gR room tmo (.slice ax lx cx) (.slice a1 Bs.length c1) (wosL L G) (Bs) w') (unhide HF) ?_))
      intro w5 h5
      have H5 := hide h5
      clear h5
      go_wp2
      exact ret_cell (p := 4) (ty := 29) (by kernel_rfl) gR 29 _ (0, 0) _ rfl (unhide H5).blk rfl Try.underlying29 (by kernel_rfl) ⟨_, rfl, (unhide H5).dt, (unhide H5).be⟩
end Go.Proofs.Ytbfakbooenmhoaa

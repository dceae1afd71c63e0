/- peers: the document's table: Leave, Ban, Late. -/
import Derived.Test.YtbfakbooenmhoaaZdA
namespace Go.Proofs.Ytbfakbooenmhoaa
open Go.RowKit
set_option linter.unusedVariables false
attribute [local go_sem] Oper.semAt_some

/-- without a number, if it is there -/
def lvL (L : List Pr) (n : Int) : List Pr := if fnd L n < 0 then L else woL L n
def lvE (L : List Pr) (n : Int) : Int := if fnd L n < 0 then 4 else 0
set_option maxRecDepth 100000 in
set_option maxHeartbeats 4000000 in
theorem dleave_any (B : Nat) (room tmo n : Int) (vL vB : Value) (L : List Pr) (Bs : List Int) (w : World) (h : Dt B w vL vB L Bs) (hB : B ≤ w.heap.size) :
    Calls Try.prog 32 #[tabV room tmo vL vB, .int .i64 n] w fun e w' => ∃ v vb, e = .returned (.tuple #[tabV room tmo v vb, .int .i64 (lvE L n)]) ∧ Dt B w' v vb (lvL L n) Bs ∧ Below w.heap.size w w' := by
  have HBW := hide hB
  clear hB
  obtain ⟨f, hf⟩ : ∃ f, f = fnd L n := ⟨_, rfl⟩
  obtain ⟨ll, hll⟩ : ∃ ll, ll = lvL L n := ⟨_, rfl⟩
  obtain ⟨ee, hee⟩ : ∃ ee, ee = lvE L n := ⟨_, rfl⟩
  rw [← hll, ← hee]
  unfold lvL at hll
  unfold lvE at hee
  rw [← hf] at hll hee
  have HLL := hide hll
  have HEE := hide hee
  have HFF := hide hf
  have hC := hide (fun x (hx : Dt B x vL vB L Bs) => dfind_any B room tmo n vL vB L Bs x hx)
  have hW := hide (fun x (hx : Dt B x vL vB L Bs) (hb : B ≤ x.heap.size) => dwithout_any B room tmo n vL vB L Bs x hx hb)
  rw [← hf] at hC
  clear hll hee hf
  obtain ⟨a0, c0, rfl, hp, hlt⟩ := own_des h.oL
  obtain ⟨a1, c1, rfl⟩ := ownI_shape h.oB
  have hn16 := h.nL
  have HH := hide h
  have HP := hide hp
  have HLT := hide (fun a ha => (hlt a ha).2)
  obtain ⟨i0, hi0, hz0, hz1, hz2⟩ := info_parts Try.infoDe
  have HPL : Hid ((Try.prog.info? 43).map (·.size) = some 10) := by
    show _ = _
    kernel_rfl
  generalize hm : L.length = m at *
  have HM := hide hm
  clear h hp hlt hm
  go_enter Try.func32, Try.ntmps32
  go_wp2_with fail

  obtain ⟨w1, hw1⟩ : ∃ w1, w1 = (w.alloc (.cells #[.int .i64 room, .int .i64 tmo, .slice a0 m c0, .slice a1 Bs.length c1] 29)).alloc (.cells #[.int .i64 0, .int .i64 0, .slice none 0 0, .slice none 0 0] 29) := ⟨_, rfl⟩
  obtain ⟨t1, t2, t3⟩ := two_boxes w #[.int .i64 room, .int .i64 tmo, .slice a0 m c0, .slice a1 Bs.length c1] #[.int .i64 0, .int .i64 0, .slice none 0 0, .slice none 0 0] 29 29
  rw [← hw1] at t1 t2 t3
  have HW : Hid (w1 = _) := hw1
  obtain ⟨gR, hgR⟩ : ∃ gR, gR = w.heap.size + 1 := ⟨_, rfl⟩
  rw [← hgR] at t2
  have HT := hide t1
  have HR := hide t2
  have HB := hide t3
  have HG : Hid (w.heap.size ≤ w.heap.size ∧ w.heap.size ≤ gR ∧ w.heap.size ≠ gR) := by
    rw [hgR]
    exact ⟨by omega, by omega, by omega⟩
  have HGR := hide hgR
  clear t1 t2 t3 hw1 hgR
  rw [← unhide HW]
  generalize hx : w.heap.size + 1 = gx at *
  have hgx : gR = gx := unhide HGR
  clear hx
  subst hgx
  refine (unhide hC w1 ((unhide HH).up (unhide HB))).mono ?_
  rintro e w2 ⟨rfl, b2⟩
  have HBX := hide ((unhide HB).trans (b2.mono (unhide HB).size))
  have HDT := hide ((unhide HH).up (unhide HBX))
  have HT2 := hide ((b2.block _ (lt_of_block (unhide HT))).trans (unhide HT))
  have HR2 := hide ((b2.block _ (lt_of_block (unhide HR))).trans (unhide HR))
  clear b2 hC
  by_cases hq : f < 0
  · have h1 := unhide HLL
    have h2 := unhide HEE
    rw [if_pos hq] at h1 h2
    subst h1 h2
    clear HFF HLL HEE
    rw [← unhide HM] at HT2 HDT
    rw [unhide HM] at HT2 HDT
    have HF := hide (fin_put (room := room) (tmo := tmo) (unhide HDT) (unhide HBX) (unhide HR2) (unhide HG).2.1)
    go_wp2_with (first
      | (refine wpList_load_row rfl 29 (.tmp 2) rfl w.heap.size rfl 29 #[.int .i64 room, .int .i64 tmo, .slice a0 m c0, .slice a1 Bs.length c1] (0, 0) _ (unhide HT2) Try.underlying29 rfl (by kernel_rfl) ?_)
      | (refine wpList_store_row_to rfl 29 (.tmp 4) (.tmp 10) rfl gR #[.int .i64 room, .int .i64 tmo, .slice a0 m c0, .slice a1 Bs.length c1] rfl rfl 29 zT (unhide HR2) (by kernel_rfl) (by rfl) (by simp [Value.oneCell']) (fun w' => Fin B w gR room tmo (.slice a0 m c0) (.slice a1 Bs.length c1) (ll) (Bs) w') (unhide HF) ?_))
    intro w5 h5
    have H5 := hide h5
    clear h5
    go_wp2
    exact ret_row2 (p := 4) (q := 5) (ty := 29) (by kernel_rfl) gR 29 _ (0, 0) (.int .i64 4) _ rfl rfl (unhide H5).blk rfl Try.underlying29 (by kernel_rfl) ⟨_, _, rfl, (unhide H5).dt, (unhide H5).be⟩
  · have h1 := unhide HLL
    have h2 := unhide HEE
    rw [if_neg hq] at h1 h2
    have HL1 := hide h1
    subst h2
    clear HFF HLL HEE h1
    have hW2 := hide (unhide hW w2 (unhide HDT) (Nat.le_trans (unhide HBW) (unhide HBX).size))
    clear hW
    go_wp2_with (refine wpList_load_row rfl 29 (.tmp 2) rfl w.heap.size rfl 29 #[.int .i64 room, .int .i64 tmo, .slice a0 m c0, .slice a1 Bs.length c1] (0, 0) _ (unhide HT2) Try.underlying29 rfl (by kernel_rfl) ?_)
    refine (unhide hW2).mono ?_
    rintro e w3 ⟨v, rfl, hd3, b3⟩
    rw [← unhide HL1] at hd3
    have HBX3 := hide ((unhide HBX).trans (b3.mono (unhide HBX).size))
    have HR3 := hide ((b3.block _ (lt_of_block (unhide HR2))).trans (unhide HR2))
    have HF := hide (fin_put (room := room) (tmo := tmo) hd3 (unhide HBX3) (unhide HR3) (unhide HG).2.1)
    clear hd3 b3 hW2
    go_wp2_with (refine wpList_store_row_to rfl 29 (.tmp 4) (.tmp 13) rfl gR #[.int .i64 room, .int .i64 tmo, v, .slice a1 Bs.length c1] rfl rfl 29 zT (unhide HR3) (by kernel_rfl) (by rfl) (by obtain ⟨av, cv, rfl⟩ := ownDe_shape (unhide HF).dt.oL; simp [Value.oneCell']) (fun w' => Fin B w gR room tmo v (.slice a1 Bs.length c1) ll Bs w') (unhide HF) ?_)
    intro w5 h5
    have H5 := hide h5
    clear h5
    go_wp2
    exact ret_row2 (p := 4) (q := 5) (ty := 29) (by kernel_rfl) gR 29 _ (0, 0) (.int .i64 0) _ rfl rfl (unhide H5).blk rfl Try.underlying29 (by kernel_rfl) ⟨_, _, rfl, (unhide H5).dt, (unhide H5).be⟩
/-- a table in its box, ahead of the answer: the box may not hold the banned's row yet -/
structure Mid (B : Nat) (w : World) (gT gR : Nat) (room tmo : Int) (vL vb vB : Value) (L : List Pr) (Bs : List Int) (wx : World) : Prop where
  box : wx.heap[gT]? = some (.cells #[.int .i64 room, .int .i64 tmo, vL, vb] 29 (0, 0))
  ans : wx.heap[gR]? = some (.cells zT 29 (0, 0))
  dt : Dt B wx vL vB L Bs
  be : Below w.heap.size w wx
theorem Mid.up {B : Nat} {w : World} {gT gR : Nat} {room tmo : Int} {vL vb vB : Value} {L : List Pr} {Bs : List Int} {x y : World} (h : Mid B w gT gR room tmo vL vb vB L Bs x) (hb : Below x.heap.size x y) : Mid B w gT gR room tmo vL vb vB L Bs y :=
  ⟨(hb.block _ (lt_of_block h.box)).trans h.box, (hb.block _ (lt_of_block h.ans)).trans h.ans, h.dt.up hb, h.be.trans (hb.mono h.be.size)⟩
theorem dt_setRow {B : Nat} {wx : World} {v vn : Value} {L : List Pr} {Bs : List Int} {gT : Nat} {old : Array Value} (hd : Dt B wx v vn L Bs) (hT : wx.heap[gT]? = some (.cells old 29 (0, 0))) (cs : Array Value) : Dt B (wx.setRow gT cs) v vn L Bs :=
  ⟨ownDe_keep hd.oL (fun k hk => setRow_other _ gT k _ (fun e => by subst e; exact ownDe_ne hd.oL hT (by decide) hk)), ownI_keep hd.oB (fun k hk => setRow_other _ gT k _ (fun e => by subst e; exact ownI_ne hd.oB hT (by decide) hk)), hd.nL, hd.nB⟩
theorem dt_setCell {B : Nat} {wx : World} {v vn : Value} {L : List Pr} {Bs : List Int} {gT : Nat} {old : Array Value} (hd : Dt B wx v vn L Bs) (hT : wx.heap[gT]? = some (.cells old 29 (0, 0))) (j : Nat) (u : Value) : Dt B (wx.setCell ⟨gT, j, none⟩ u) v vn L Bs :=
  ⟨ownDe_keep hd.oL (fun k hk => Below.heap_setCell _ _ _ _ (fun e => by
    have e' : k = gT := e
    subst e'
    exact ownDe_ne hd.oL hT (by decide) hk)), ownI_keep hd.oB (fun k hk => Below.heap_setCell _ _ _ _ (fun e => by
    have e' : k = gT := e
    subst e'
    exact ownI_ne hd.oB hT (by decide) hk)), hd.nL, hd.nB⟩
theorem mid_row {B : Nat} {w wx : World} {gT gR : Nat} {room tmo : Int} {v vb vn : Value} {L : List Pr} {Bs : List Int} {old : Array Value} (hd : Dt B wx v vn L Bs) (hb : Below w.heap.size w wx) (hT : wx.heap[gT]? = some (.cells old 29 (0, 0))) (hR : wx.heap[gR]? = some (.cells zT 29 (0, 0))) (gw : w.heap.size ≤ gT ∧ w.heap.size ≤ gR ∧ gT ≠ gR) :
    Mid B w gT gR room tmo v vb vn L Bs (wx.setRow gT #[.int .i64 room, .int .i64 tmo, v, vb]) :=
  ⟨setRow_heap _ gT _ _ _ _ hT, (setRow_other _ gT gR _ (fun e => gw.2.2 e.symm)).trans hR, dt_setRow hd hT _, below_setRow hb gw.1 _⟩
theorem Mid.set3 {B : Nat} {w wx : World} {gT gR : Nat} {room tmo : Int} {v vb vn : Value} {L : List Pr} {Bs : List Int} (h : Mid B w gT gR room tmo v vb vn L Bs wx) (gw : w.heap.size ≤ gT ∧ w.heap.size ≤ gR ∧ gT ≠ gR) :
    Mid B w gT gR room tmo v vn vn L Bs (wx.setCell ⟨gT, 3, none⟩ vn) :=
  ⟨heap_setCell_same wx gT 3 _ 29 vn h.box, (Below.heap_setCell _ _ _ _ (fun e => gw.2.2 e.symm)).trans h.ans, dt_setCell h.dt h.box _ _, h.be.setCell (p := ⟨gT, 3, none⟩) gw.1 _⟩
theorem Mid.set2 {B : Nat} {w wx : World} {gT gR : Nat} {room tmo : Int} {v v' vB : Value} {L L' : List Pr} {Bs : List Int} (h : Mid B w gT gR room tmo v vB vB L Bs wx) (h' : Dt B wx v' vB L' Bs) (gw : w.heap.size ≤ gT ∧ w.heap.size ≤ gR ∧ gT ≠ gR) :
    Mid B w gT gR room tmo v' vB vB L' Bs (wx.setCell ⟨gT, 2, none⟩ v') :=
  ⟨heap_setCell_same wx gT 2 _ 29 v' h.box, (Below.heap_setCell _ _ _ _ (fun e => gw.2.2 e.symm)).trans h.ans, dt_setCell h' h.box _ _, h.be.setCell (p := ⟨gT, 2, none⟩) gw.1 _⟩
/-- a row of integers that grows in a loop -/
structure DI (w1 : World) (v : Value) (l : List Int) (wr : World) : Prop where
  own : OwnI wr w1.heap.size v l
  be : Below w1.heap.size w1 wr
theorem DI.up {w1 : World} {v : Value} {l : List Int} {x y : World} (h : DI w1 v l x) (hb : Below x.heap.size x y) : DI w1 v l y := ⟨ownI_up h.own hb, h.be.trans (hb.mono h.be.size)⟩
theorem ownI_le {w : World} {B B' : Nat} {v : Value} {l : List Int} (h : OwnI w B v l) (hb : B' ≤ B) : OwnI w B' v l := h.le hb
/-- a number is banned -/
def baL (L : List Pr) (n : Int) : List Pr := if isPr n = true then woL L n else L
def baB (Bs : List Int) (n : Int) : List Int := if isPr n = true then Bs ++ [n] else Bs
def baE (n : Int) : Int := if isPr n = true then 0 else 1
set_option maxRecDepth 100000 in
set_option maxHeartbeats 4000000 in
theorem dban_any (B : Nat) (room tmo n : Int) (vL vB : Value) (L : List Pr) (Bs : List Int) (w : World) (h : Dt B w vL vB L Bs) (hB : B ≤ w.heap.size) (hbn : Bs.length < 100) :
    Calls Try.prog 33 #[tabV room tmo vL vB, .int .i64 n] w fun e w' => ∃ v vb, e = .returned (.tuple #[tabV room tmo v vb, .int .i64 (baE n)]) ∧ Dt B w' v vb (baL L n) (baB Bs n) ∧ Below w.heap.size w w' := by
  have HBW := hide hB
  clear hB
  obtain ⟨f, hf⟩ : ∃ f, f = isPr n := ⟨_, rfl⟩
  unfold baL baB baE
  rw [← hf]
  have hP := hide (fun w => dIsPeer_any n w)
  rw [← hf] at hP
  clear hf
  obtain ⟨l2, hl2⟩ : ∃ l2, l2 = woL L n := ⟨_, rfl⟩
  obtain ⟨b2', hb2'⟩ : ∃ b2, b2 = Bs ++ [n] := ⟨_, rfl⟩
  rw [← hl2, ← hb2']
  have HL2 := hide hl2
  have HB2 := hide hb2'
  clear hl2 hb2'
  have hIB := hide (h.oB.ints)
  obtain ⟨j0, hj0, hy0, hy1, hy2⟩ := info_parts Try.infoI
  have hW := hide (fun x (hx : Dt B x vL vB L Bs) (hb : B ≤ x.heap.size) => dwithout_any B room tmo n vL vB L Bs x hx hb)
  obtain ⟨a0, c0, rfl, hp, hlt⟩ := own_des h.oL
  obtain ⟨a1, c1, rfl⟩ := ownI_shape h.oB
  have hn16 := h.nL
  have HH := hide h
  have HP := hide hp
  have HLT := hide (fun a ha => (hlt a ha).2)
  obtain ⟨i0, hi0, hz0, hz1, hz2⟩ := info_parts Try.infoDe
  have HPL : Hid ((Try.prog.info? 43).map (·.size) = some 10) := by
    show _ = _
    kernel_rfl
  generalize hm : L.length = m at *
  have HM := hide hm
  clear h hp hlt hm
  obtain ⟨nb, hnb⟩ : ∃ nb, nb = Bs.length := ⟨_, rfl⟩
  rw [← hnb] at hbn hIB hW HH ⊢
  have HNB := hide hnb
  clear hnb
  cases f with
  | false =>
    rw [if_neg (by decide), if_neg (by decide), if_neg (by decide)]
    go_enter Try.func33, Try.ntmps33
    go_wp2_with fail
    obtain ⟨w1, hw1⟩ : ∃ w1, w1 = (w.alloc (.cells #[.int .i64 room, .int .i64 tmo, .slice a0 m c0, .slice a1 nb c1] 29)).alloc (.cells #[.int .i64 0, .int .i64 0, .slice none 0 0, .slice none 0 0] 29) := ⟨_, rfl⟩
    obtain ⟨t1, t2, t3⟩ := two_boxes w #[.int .i64 room, .int .i64 tmo, .slice a0 m c0, .slice a1 nb c1] #[.int .i64 0, .int .i64 0, .slice none 0 0, .slice none 0 0] 29 29
    rw [← hw1] at t1 t2 t3
    have HW : Hid (w1 = _) := hw1
    obtain ⟨gR, hgR⟩ : ∃ gR, gR = w.heap.size + 1 := ⟨_, rfl⟩
    rw [← hgR] at t2
    have HT := hide t1
    have HR := hide t2
    have HB := hide t3
    have HG : Hid (w.heap.size ≤ w.heap.size ∧ w.heap.size ≤ gR ∧ w.heap.size ≠ gR) := by
      rw [hgR]
      exact ⟨by omega, by omega, by omega⟩
    have HGR := hide hgR
    clear t1 t2 t3 hw1 hgR
    rw [← unhide HW]
    generalize hx : w.heap.size + 1 = gx at *
    have hgx : gR = gx := unhide HGR
    clear hx
    subst hgx
    refine (unhide hP w1).mono ?_
    rintro e w2 ⟨rfl, rfl⟩
    have HBX := HB
    have HDT := hide ((unhide HH).up (unhide HB))
    have HT2 := HT
    have HR2 := HR
    clear hP
    have HF := hide (fin_put (room := room) (tmo := tmo) (unhide HDT) (unhide HBX) (unhide HR2) (unhide HG).2.1)
    go_wp2_with (first
      | (refine wpList_load_row rfl 29 (.tmp 2) rfl w.heap.size rfl 29 #[.int .i64 room, .int .i64 tmo, .slice a0 m c0, .slice a1 nb c1] (0, 0) _ (unhide HT2) Try.underlying29 rfl (by kernel_rfl) ?_)
      | (refine wpList_store_row_to rfl 29 (.tmp 4) (.tmp 11) rfl gR #[.int .i64 room, .int .i64 tmo, .slice a0 m c0, .slice a1 nb c1] rfl rfl 29 zT (unhide HR2) (by kernel_rfl) (by rfl) (by simp [Value.oneCell']) (fun w' => Fin B w gR room tmo (.slice a0 m c0) (.slice a1 nb c1) (L) (Bs) w') (unhide HF) ?_))
    intro w5 h5
    have H5 := hide h5
    clear h5
    go_wp2
    exact ret_row2 (p := 4) (q := 5) (ty := 29) (by kernel_rfl) gR 29 _ (0, 0) (.int .i64 1) _ rfl rfl (unhide H5).blk rfl Try.underlying29 (by kernel_rfl) ⟨_, _, rfl, (unhide H5).dt, (unhide H5).be⟩
  | true =>
    rw [if_pos rfl, if_pos rfl, if_pos rfl]
    go_enter Try.func33, Try.ntmps33
    go_wp2_with fail
    obtain ⟨w1, hw1⟩ : ∃ w1, w1 = (w.alloc (.cells #[.int .i64 room, .int .i64 tmo, .slice a0 m c0, .slice a1 nb c1] 29)).alloc (.cells #[.int .i64 0, .int .i64 0, .slice none 0 0, .slice none 0 0] 29) := ⟨_, rfl⟩
    obtain ⟨t1, t2, t3⟩ := two_boxes w #[.int .i64 room, .int .i64 tmo, .slice a0 m c0, .slice a1 nb c1] #[.int .i64 0, .int .i64 0, .slice none 0 0, .slice none 0 0] 29 29
    rw [← hw1] at t1 t2 t3
    have HW : Hid (w1 = _) := hw1
    obtain ⟨gR, hgR⟩ : ∃ gR, gR = w.heap.size + 1 := ⟨_, rfl⟩
    rw [← hgR] at t2
    have HT := hide t1
    have HR := hide t2
    have HB := hide t3
    have HG : Hid (w.heap.size ≤ w.heap.size ∧ w.heap.size ≤ gR ∧ w.heap.size ≠ gR) := by
      rw [hgR]
      exact ⟨by omega, by omega, by omega⟩
    have HGR := hide hgR
    clear t1 t2 t3 hw1 hgR
    rw [← unhide HW]
    generalize hx : w.heap.size + 1 = gx at *
    have hgx : gR = gx := unhide HGR
    clear hx
    subst hgx
    refine (unhide hP w1).mono ?_
    rintro e w2 ⟨rfl, rfl⟩
    have HBX := HB
    have HDT := hide ((unhide HH).up (unhide HB))
    have HT2 := HT
    have HR2 := HR
    clear hP
    have HI : Hid (∀ x, Below w.heap.size w x → Ints x a1 Bs) := by
      intro x hx
      obtain ⟨a, c, e1, e2, _⟩ := (ownI_up (unhide HH).oB hx).ints
      cases e1
      exact e2
    have HD0 : Hid (DI w1 (.slice none 0 0) (Bs.take 0) w1) := ⟨World.ownsRow_nil _ _ _ _, Below.refl _ _⟩
    go_wp2_with fail
    go_loopw [6, 7] (fun lv iv wr => ∃ (i : Nat) (a : Option Addr) (c : Nat), i ≤ nb ∧ iv = .int .i64 i ∧ lv = .slice a i c ∧ DI w1 lv (Bs.take i) wr) (fun _ iv _ => nb - (intOf iv).toNat)
    case atStart => exact ⟨0, none, 0, by omega, rfl, rfl, unhide HD0⟩
    case round =>
      obtain ⟨i, a, c, hi, rfl, rfl, hd⟩ := hrel
      have HBR := hide ((unhide HB).trans (hd.be.mono (unhide HB).size))
      have HTR := hide ((hd.be.block _ (lt_of_block (unhide HT))).trans (unhide HT))
      have HRR := hide ((hd.be.block _ (lt_of_block (unhide HR))).trans (unhide HR))
      obtain ⟨b0, b1, b2, b3⟩ := four_cells (unhide HTR)
      have HD := hide hd
      have HK : Hid (i = (Bs.take i).length) := by
        show _ = _
        rw [List.length_take, ← unhide HNB]
        omega
      clear hd HD0
      by_cases hlt : i < nb
      · have q1 : (i : Int) < nb := by omega
        have hib : i < Bs.length := by rw [← unhide HNB]; exact hlt
        obtain ⟨g, o, rfl, e0⟩ := unhide HI wr (unhide HBR) i hib
        have HTK : Hid (Bs.take (i + 1) = Bs.take i ++ [Bs[i]]) := List.take_succ_eq_append_getElem hib
        generalize Bs[i] = x at *
        clear b0 b1 b2 hib
        have HO : Hid (wr.ownsRow w1.heap.size 3 1 (.slice a i c) i (ic (Bs.take i))) := by
          have := (unhide HD).own
          unfold OwnI at this
          rw [← unhide HK] at this
          exact this
        have hwx := (unhide HD).be.size
        go_wp2_with (refine wpList_append_lies _ rfl (.tmp 19) (.tmp 25) 27 rfl w1.heap.size 3 j0 (.int .i64 0) 1 8 Try.undI hj0 hy0 hy1 hy2 rfl (by decide) (.slice a i c) i _ (by rfl) ((unhide HO).alloc _) ⟨wr.heap.size, 0, none⟩ 1 1 [.int .i64 x] (by rfl) (by rfl) (World.news_of_block (heap_alloc_new wr _)) (ic_one [x]) (by decide) (by unfold maxLen; omega) (by omega) (by simp; omega) _ rfl ?_)
        intro g2 cap2 w4 hown hgrow hat hlt2
        have HD2 : Hid (DI w1 (.slice (some ⟨g2, 0, none⟩) (i + 1) cap2) (Bs.take i ++ [x]) w4) := by
          refine ⟨?_, ((unhide HD).be.alloc (unhide HD).be.size (.cells #[.int .i64 x] 3)).grown hgrow (by simp; omega) (fun z hz => ((unhide HO).lt z hz).1)⟩
          unfold OwnI
          rw [ic_append, List.length_append, ← unhide HK]
          exact hown
        clear hown hgrow hat hlt2 HO HD
        go_wp2
        go_roundw
        case rel => exact ⟨i + 1, _, _, by omega, by go_num, rfl, by rw [unhide HTK]; exact unhide HD2⟩
        case measure => simp [intOf]; omega
      · have q1 : ¬ (i : Int) < nb := by omega
        have htk : Bs.take i = Bs := List.take_of_length_le (by rw [← unhide HNB]; omega)
        rw [htk] at HD HK
        clear b0 b1 b2 htk
        have HO : Hid (wr.ownsRow w1.heap.size 3 1 (.slice a i c) i (ic (Bs))) := by
          have := (unhide HD).own
          unfold OwnI at this
          rw [← unhide HK] at this
          exact this
        have hwx := (unhide HD).be.size
        go_wp2_with (refine wpList_append_lies _ rfl (.tmp 27) (.tmp 29) 27 rfl w1.heap.size 3 j0 (.int .i64 0) 1 8 Try.undI hj0 hy0 hy1 hy2 rfl (by decide) (.slice a i c) i _ (by rfl) ((unhide HO).alloc _) ⟨wr.heap.size, 0, none⟩ 1 1 [.int .i64 n] (by rfl) (by rfl) (World.news_of_block (heap_alloc_new wr _)) (ic_one [n]) (by decide) (by unfold maxLen; omega) (by omega) (by simp; omega) _ rfl ?_)
        intro g2 cap2 w4 hown hgrow hat hlt2
        have HD2 : Hid (DI w1 (.slice (some ⟨g2, 0, none⟩) (i + 1) cap2) (Bs ++ [n]) w4) := by
          refine ⟨?_, ((unhide HD).be.alloc (unhide HD).be.size (.cells #[.int .i64 n] 3)).grown hgrow (by simp; omega) (fun z hz => ((unhide HO).lt z hz).1)⟩
          unfold OwnI
          rw [ic_append, List.length_append, ← unhide HK]
          exact hown
        clear hown hgrow hat hlt2 HO HD
        have HBR4 := hide ((unhide HB).trans ((unhide HD2).be.mono (unhide HB).size))
        have HT4 := hide (((unhide HD2).be.block _ (lt_of_block (unhide HT))).trans (unhide HT))
        have HR4 := hide (((unhide HD2).be.block _ (lt_of_block (unhide HR))).trans (unhide HR))
        have hW2 := hide (unhide hW w4 ((unhide HH).up (unhide HBR4)) (Nat.le_trans (unhide HBW) (unhide HBR4).size))
        clear hW b3
        go_wp2_with (refine wpList_load_row rfl 29 (.tmp 2) rfl w.heap.size rfl 29 #[.int .i64 room, .int .i64 tmo, .slice a0 m c0, .slice a1 nb c1] (0, 0) _ (unhide HT4) Try.underlying29 rfl (by kernel_rfl) ?_)
        refine (unhide hW2).mono ?_
        rintro e w5 ⟨v, rfl, hd5, b5⟩
        have hd6 : Dt B w5 v (.slice (some ⟨g2, 0, none⟩) (i + 1) cap2) l2 b2' := by
          rw [unhide HL2, unhide HB2]
          refine ⟨hd5.oL, ownI_le (ownI_up (unhide HD2).own b5) (Nat.le_trans (unhide HBW) (unhide HB).size), hd5.nL, ?_⟩
          rw [List.length_append, ← unhide HNB]
          show nb + 1 ≤ 100
          omega
        have HT5 := hide ((b5.block _ (lt_of_block (unhide HT4))).trans (unhide HT4))
        have HM5 := hide (mid_row (room := room) (tmo := tmo) (vb := .slice a1 nb c1) hd6 ((unhide HBR4).trans (b5.mono (unhide HBR4).size)) (unhide HT5) ((b5.block _ (lt_of_block (unhide HR4))).trans (unhide HR4)) (unhide HG))
        have HOC : Hid ((#[.int .i64 room, .int .i64 tmo, v, .slice a1 nb c1] : Array Value).all (·.oneCell') = true) := by
          obtain ⟨av, cv, rfl⟩ := ownDe_shape hd6.oL
          show _ = _
          simp [Value.oneCell']
        have HOC2 : Hid ((#[.int .i64 room, .int .i64 tmo, v, .slice (some ⟨g2, 0, none⟩) (i + 1) cap2] : Array Value).all (·.oneCell') = true) := by
          obtain ⟨av, cv, rfl⟩ := ownDe_shape hd6.oL
          show _ = _
          simp [Value.oneCell']
        clear hd5 hd6 b5 hW2 HT4 HR4 HBR4
        go_wp2_with (refine wpList_store_row_to rfl 29 (.tmp 2) (.tmp 33) rfl w.heap.size #[.int .i64 room, .int .i64 tmo, v, .slice a1 nb c1] rfl rfl 29 #[.int .i64 room, .int .i64 tmo, .slice a0 m c0, .slice a1 nb c1] (unhide HT5) (by kernel_rfl) (by rfl) (unhide HOC) (fun w' => Mid B w w.heap.size gR room tmo v (.slice a1 nb c1) (.slice (some ⟨g2, 0, none⟩) (i + 1) cap2) l2 b2' w') (unhide HM5) ?_)
        intro w8 h8
        have H8 := hide h8
        have HF := hide (h8.set3 (unhide HG))
        clear h8 HM5 HT5
        have c3 := (four_cells (unhide H8).box).2.2.2
        have f3 : w8.frozen? ⟨w.heap.size, 3, none⟩ = false := by simp [World.frozen?, (unhide H8).box]
        have HFF := hide (fin_put (room := room) (tmo := tmo) (unhide HF).dt (unhide HF).be (unhide HF).ans (unhide HG).2.1)
        have HT9 := hide (unhide HF).box
        have HR9 := hide (unhide HF).ans
        clear HF
        go_wp2_with (first
          | (refine wpList_load_row rfl 29 (.tmp 2) rfl w.heap.size rfl 29 #[.int .i64 room, .int .i64 tmo, v, .slice (some ⟨g2, 0, none⟩) (i + 1) cap2] (0, 0) _ (unhide HT9) Try.underlying29 rfl (by kernel_rfl) ?_)
          | (refine wpList_store_row_to rfl 29 (.tmp 4) (.tmp 36) rfl gR #[.int .i64 room, .int .i64 tmo, v, .slice (some ⟨g2, 0, none⟩) (i + 1) cap2] rfl rfl 29 zT (unhide HR9) (by kernel_rfl) (by rfl) (unhide HOC2) (fun w' => Fin B w gR room tmo v (.slice (some ⟨g2, 0, none⟩) (i + 1) cap2) l2 b2' w') (unhide HFF) ?_))
        intro w5 h5
        have H5 := hide h5
        clear h5
        go_wp2
        exact ret_row2 (p := 4) (q := 5) (ty := 29) (by kernel_rfl) gR 29 _ (0, 0) (.int .i64 0) _ rfl rfl (unhide H5).blk rfl Try.underlying29 (by kernel_rfl) ⟨_, _, rfl, (unhide H5).dt, (unhide H5).be⟩
end Go.Proofs.Ytbfakbooenmhoaa

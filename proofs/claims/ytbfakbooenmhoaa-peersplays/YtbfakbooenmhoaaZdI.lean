/- peers: the document's table: Meet, its ways. peers: the document's table: Meet, its ways. peers: the document's table: Meet, its ways. peers: the document's table: Meet, its ways. -/
import Derived.Test.YtbfakbooenmhoaaQdI
namespace Go.Proofs.Ytbfakbooenmhoaa
open Go.RowKit
set_option linter.unusedVariables false
attribute [local go_sem] Oper.semAt_some

set_option maxRecDepth 100000 in
set_option maxHeartbeats 8000000 in
theorem dmeet_b1 (B : Nat) (room tmo n x y t : Int) (vL vB : Value) (L : List Pr) (Bs : List Int) (w : World) (h : Dt B w vL vB L Bs) (hB : B ≤ w.heap.size) (h1 : isPr n = false) :
    Calls Try.prog 30 #[tabV room tmo vL vB, .int .i64 n, .agg #[.int .i64 x, .int .i64 y], .int .i64 t] w fun e w' => ∃ v vb, e = .returned (.tuple #[tabV room tmo v vb, .int .i64 1]) ∧ Dt B w' v vb (L) Bs ∧ Below w.heap.size w w' := by
  have HBW := hide hB
  have hP1 := hide (fun w => dIsPeer_any n w)
  have hP2 := hide (fun w => dCheck_any x y w)
  have hP3 := hide (fun w => dTick_any t w)
  have hC := hide (fun x (hx : Dt B x vL vB L Bs) => dfind_any B room tmo n vL vB L Bs x hx)
  clear hB
  rw [h1] at hP1
  clear h1
  obtain ⟨a0, c0, rfl, hp, hlt⟩ := own_des h.oL
  obtain ⟨a1, c1, rfl⟩ := ownI_shape h.oB
  have hn16 := h.nL
  have HH := hide h
  have HP := hide hp
  have HLT := hide (fun a ha => (hlt a ha).2)
  obtain ⟨i0, hi0, hz0, hz1, hz2⟩ := info_parts Try.infoDe
  have HPL : Hid ((Try.prog.info? 43).map (·.size) = some 10) := by
    show _ = _
    kernel_rfl
  generalize hm : L.length = m at *
  have HM := hide hm
  clear h hp hlt hm
  obtain ⟨nb, hnb⟩ : ∃ nb, nb = Bs.length := ⟨_, rfl⟩
  have hIB := hide (fun x (hx : Below w.heap.size w x) => (ownI_up (unhide HH).oB hx).ints)
  rw [← hnb] at HH hIB hC ⊢
  have HNB := hide hnb
  clear hnb
  go_enter Try.func30, Try.ntmps30
  go_wp2_with fail
  obtain ⟨w1, hw1⟩ : ∃ w1, w1 = ((w.alloc (.cells #[.int .i64 room, .int .i64 tmo, .slice a0 m c0, .slice a1 nb c1] 29)).alloc (.cells #[.int .i64 x, .int .i64 y] 41)).alloc (.cells #[.int .i64 0, .int .i64 0, .slice none 0 0, .slice none 0 0] 29) := ⟨_, rfl⟩
  obtain ⟨t1, tx, t2, t3⟩ := three_boxes w #[.int .i64 room, .int .i64 tmo, .slice a0 m c0, .slice a1 nb c1] #[.int .i64 x, .int .i64 y] #[.int .i64 0, .int .i64 0, .slice none 0 0, .slice none 0 0] 29 41 29
  rw [← hw1] at t1 tx t2 t3
  have HW : Hid (w1 = _) := hw1
  obtain ⟨gR, hgR⟩ : ∃ gR, gR = w.heap.size + 1 + 1 := ⟨_, rfl⟩
  obtain ⟨gP, hgP⟩ : ∃ gP, gP = w.heap.size + 1 := ⟨_, rfl⟩
  rw [← hgR] at t2
  rw [← hgP] at tx
  have HT := hide t1
  have HR := hide t2
  have HPB := hide tx
  have HB := hide t3
  have HG : Hid (w.heap.size ≤ w.heap.size ∧ w.heap.size ≤ gR ∧ w.heap.size ≠ gR) := by
    rw [hgR]
    exact ⟨by omega, by omega, by omega⟩
  have HGR := hide hgR
  have HGP := hide hgP
  clear t1 t2 t3 tx hw1 hgR hgP
  rw [← unhide HW]
  generalize hy : w.heap.size + 1 + 1 = gy at *
  generalize hx : w.heap.size + 1 = gx at *
  have hgx : gP = gx := unhide HGP
  have hgy : gR = gy := unhide HGR
  clear hx hy
  subst hgx hgy
  refine (unhide hP1 w1).mono ?_
  rintro e w2 ⟨rfl, rfl⟩
  have HBB := HB
  have HTT := HT
  have HRR := HR
  clear hP1 hP2 hP3 hC
  have HBX := HBB
  have HDT := hide ((unhide HH).up (unhide HBB))
  have HT2 := HTT
  have HR2 := HRR
  have HF := hide (fin_put (room := room) (tmo := tmo) (unhide HDT) (unhide HBX) (unhide HR2) (unhide HG).2.1)
  go_wp2_with (first
    | (refine wpList_load_row rfl 29 (.tmp 4) rfl w.heap.size rfl 29 #[.int .i64 room, .int .i64 tmo, .slice a0 m c0, .slice a1 nb c1] (0, 0) _ (unhide HT2) Try.underlying29 rfl (by kernel_rfl) ?_)
    | (refine wpList_store_row_to rfl 29 (.tmp 8) (.tmp 27) rfl gR #[.int .i64 room, .int .i64 tmo, .slice a0 m c0, .slice a1 nb c1] rfl rfl 29 zT (unhide HR2) (by kernel_rfl) (by rfl) (by simp [Value.oneCell']) (fun w' => Fin B w gR room tmo (.slice a0 m c0) (.slice a1 nb c1) (L) (Bs) w') (unhide HF) ?_))
  intro w5 h5
  have H5 := hide h5
  clear h5
  go_wp2
  exact ret_row2 (p := 8) (q := 9) (ty := 29) (by kernel_rfl) gR 29 _ (0, 0) (.int .i64 1) _ rfl rfl (unhide H5).blk rfl Try.underlying29 (by kernel_rfl) ⟨_, _, rfl, (unhide H5).dt, (unhide H5).be⟩
set_option maxRecDepth 100000 in
set_option maxHeartbeats 8000000 in
theorem dmeet_b2 (B : Nat) (room tmo n x y t : Int) (vL vB : Value) (L : List Pr) (Bs : List Int) (w : World) (h : Dt B w vL vB L Bs) (hB : B ≤ w.heap.size) (h1 : isPr n = true) (h2 : isPl x y = false) :
    Calls Try.prog 30 #[tabV room tmo vL vB, .int .i64 n, .agg #[.int .i64 x, .int .i64 y], .int .i64 t] w fun e w' => ∃ v vb, e = .returned (.tuple #[tabV room tmo v vb, .int .i64 1]) ∧ Dt B w' v vb (L) Bs ∧ Below w.heap.size w w' := by
  have HBW := hide hB
  have hP1 := hide (fun w => dIsPeer_any n w)
  have hP2 := hide (fun w => dCheck_any x y w)
  have hP3 := hide (fun w => dTick_any t w)
  have hC := hide (fun x (hx : Dt B x vL vB L Bs) => dfind_any B room tmo n vL vB L Bs x hx)
  clear hB
  rw [h1] at hP1
  rw [h2] at hP2
  clear h1 h2
  obtain ⟨a0, c0, rfl, hp, hlt⟩ := own_des h.oL
  obtain ⟨a1, c1, rfl⟩ := ownI_shape h.oB
  have hn16 := h.nL
  have HH := hide h
  have HP := hide hp
  have HLT := hide (fun a ha => (hlt a ha).2)
  obtain ⟨i0, hi0, hz0, hz1, hz2⟩ := info_parts Try.infoDe
  have HPL : Hid ((Try.prog.info? 43).map (·.size) = some 10) := by
    show _ = _
    kernel_rfl
  generalize hm : L.length = m at *
  have HM := hide hm
  clear h hp hlt hm
  obtain ⟨nb, hnb⟩ : ∃ nb, nb = Bs.length := ⟨_, rfl⟩
  have hIB := hide (fun x (hx : Below w.heap.size w x) => (ownI_up (unhide HH).oB hx).ints)
  rw [← hnb] at HH hIB hC ⊢
  have HNB := hide hnb
  clear hnb
  go_enter Try.func30, Try.ntmps30
  go_wp2_with fail
  obtain ⟨w1, hw1⟩ : ∃ w1, w1 = ((w.alloc (.cells #[.int .i64 room, .int .i64 tmo, .slice a0 m c0, .slice a1 nb c1] 29)).alloc (.cells #[.int .i64 x, .int .i64 y] 41)).alloc (.cells #[.int .i64 0, .int .i64 0, .slice none 0 0, .slice none 0 0] 29) := ⟨_, rfl⟩
  obtain ⟨t1, tx, t2, t3⟩ := three_boxes w #[.int .i64 room, .int .i64 tmo, .slice a0 m c0, .slice a1 nb c1] #[.int .i64 x, .int .i64 y] #[.int .i64 0, .int .i64 0, .slice none 0 0, .slice none 0 0] 29 41 29
  rw [← hw1] at t1 tx t2 t3
  have HW : Hid (w1 = _) := hw1
  obtain ⟨gR, hgR⟩ : ∃ gR, gR = w.heap.size + 1 + 1 := ⟨_, rfl⟩
  obtain ⟨gP, hgP⟩ : ∃ gP, gP = w.heap.size + 1 := ⟨_, rfl⟩
  rw [← hgR] at t2
  rw [← hgP] at tx
  have HT := hide t1
  have HR := hide t2
  have HPB := hide tx
  have HB := hide t3
  have HG : Hid (w.heap.size ≤ w.heap.size ∧ w.heap.size ≤ gR ∧ w.heap.size ≠ gR) := by
    rw [hgR]
    exact ⟨by omega, by omega, by omega⟩
  have HGR := hide hgR
  have HGP := hide hgP
  clear t1 t2 t3 tx hw1 hgR hgP
  rw [← unhide HW]
  generalize hy : w.heap.size + 1 + 1 = gy at *
  generalize hx : w.heap.size + 1 = gx at *
  have hgx : gP = gx := unhide HGP
  have hgy : gR = gy := unhide HGR
  clear hx hy
  subst hgx hgy
  refine (unhide hP1 w1).mono ?_
  rintro e w2 ⟨rfl, rfl⟩
  obtain ⟨p0, p1⟩ : w1.cell? ⟨gP, 0, none⟩ = some (.int .i64 x) ∧ w1.cell? ⟨gP, 1, none⟩ = some (.int .i64 y) := by simp [World.cell?, unhide HPB]
  go_wp2_with fail
  refine (unhide hP2 w1).mono ?_
  rintro e w2 ⟨rfl, b2⟩
  have p0' := (World.cell?_of_block (b2.block _ (lt_of_block (unhide HPB)))).trans p0
  have p1' := (World.cell?_of_block (b2.block _ (lt_of_block (unhide HPB)))).trans p1
  have HBB := hide ((unhide HB).trans (b2.mono (unhide HB).size))
  have HTT := hide ((b2.block _ (lt_of_block (unhide HT))).trans (unhide HT))
  have HRR := hide ((b2.block _ (lt_of_block (unhide HR))).trans (unhide HR))
  have HSZ12 := hide b2.size
  clear b2 p0 p1
  clear hP1 hP2 hP3 hC
  have HBX := HBB
  have HDT := hide ((unhide HH).up (unhide HBB))
  have HT2 := HTT
  have HR2 := HRR
  have HF := hide (fin_put (room := room) (tmo := tmo) (unhide HDT) (unhide HBX) (unhide HR2) (unhide HG).2.1)
  go_wp2_with (first
    | (refine wpList_load_row rfl 29 (.tmp 4) rfl w.heap.size rfl 29 #[.int .i64 room, .int .i64 tmo, .slice a0 m c0, .slice a1 nb c1] (0, 0) _ (unhide HT2) Try.underlying29 rfl (by kernel_rfl) ?_)
    | (refine wpList_store_row_to rfl 29 (.tmp 8) (.tmp 27) rfl gR #[.int .i64 room, .int .i64 tmo, .slice a0 m c0, .slice a1 nb c1] rfl rfl 29 zT (unhide HR2) (by kernel_rfl) (by rfl) (by simp [Value.oneCell']) (fun w' => Fin B w gR room tmo (.slice a0 m c0) (.slice a1 nb c1) (L) (Bs) w') (unhide HF) ?_))
  intro w5 h5
  have H5 := hide h5
  clear h5
  go_wp2
  exact ret_row2 (p := 8) (q := 9) (ty := 29) (by kernel_rfl) gR 29 _ (0, 0) (.int .i64 1) _ rfl rfl (unhide H5).blk rfl Try.underlying29 (by kernel_rfl) ⟨_, _, rfl, (unhide H5).dt, (unhide H5).be⟩
set_option maxRecDepth 100000 in
set_option maxHeartbeats 8000000 in
theorem dmeet_b3 (B : Nat) (room tmo n x y t : Int) (vL vB : Value) (L : List Pr) (Bs : List Int) (w : World) (h : Dt B w vL vB L Bs) (hB : B ≤ w.heap.size) (h1 : isPr n = true) (h2 : isPl x y = true) (h3 : isTm t = false) :
    Calls Try.prog 30 #[tabV room tmo vL vB, .int .i64 n, .agg #[.int .i64 x, .int .i64 y], .int .i64 t] w fun e w' => ∃ v vb, e = .returned (.tuple #[tabV room tmo v vb, .int .i64 1]) ∧ Dt B w' v vb (L) Bs ∧ Below w.heap.size w w' := by
  have HBW := hide hB
  have hP1 := hide (fun w => dIsPeer_any n w)
  have hP2 := hide (fun w => dCheck_any x y w)
  have hP3 := hide (fun w => dTick_any t w)
  have hC := hide (fun x (hx : Dt B x vL vB L Bs) => dfind_any B room tmo n vL vB L Bs x hx)
  clear hB
  rw [h1] at hP1
  rw [h2] at hP2
  rw [h3] at hP3
  clear h1 h2 h3
  obtain ⟨a0, c0, rfl, hp, hlt⟩ := own_des h.oL
  obtain ⟨a1, c1, rfl⟩ := ownI_shape h.oB
  have hn16 := h.nL
  have HH := hide h
  have HP := hide hp
  have HLT := hide (fun a ha => (hlt a ha).2)
  obtain ⟨i0, hi0, hz0, hz1, hz2⟩ := info_parts Try.infoDe
  have HPL : Hid ((Try.prog.info? 43).map (·.size) = some 10) := by
    show _ = _
    kernel_rfl
  generalize hm : L.length = m at *
  have HM := hide hm
  clear h hp hlt hm
  obtain ⟨nb, hnb⟩ : ∃ nb, nb = Bs.length := ⟨_, rfl⟩
  have hIB := hide (fun x (hx : Below w.heap.size w x) => (ownI_up (unhide HH).oB hx).ints)
  rw [← hnb] at HH hIB hC ⊢
  have HNB := hide hnb
  clear hnb
  go_enter Try.func30, Try.ntmps30
  go_wp2_with fail
  obtain ⟨w1, hw1⟩ : ∃ w1, w1 = ((w.alloc (.cells #[.int .i64 room, .int .i64 tmo, .slice a0 m c0, .slice a1 nb c1] 29)).alloc (.cells #[.int .i64 x, .int .i64 y] 41)).alloc (.cells #[.int .i64 0, .int .i64 0, .slice none 0 0, .slice none 0 0] 29) := ⟨_, rfl⟩
  obtain ⟨t1, tx, t2, t3⟩ := three_boxes w #[.int .i64 room, .int .i64 tmo, .slice a0 m c0, .slice a1 nb c1] #[.int .i64 x, .int .i64 y] #[.int .i64 0, .int .i64 0, .slice none 0 0, .slice none 0 0] 29 41 29
  rw [← hw1] at t1 tx t2 t3
  have HW : Hid (w1 = _) := hw1
  obtain ⟨gR, hgR⟩ : ∃ gR, gR = w.heap.size + 1 + 1 := ⟨_, rfl⟩
  obtain ⟨gP, hgP⟩ : ∃ gP, gP = w.heap.size + 1 := ⟨_, rfl⟩
  rw [← hgR] at t2
  rw [← hgP] at tx
  have HT := hide t1
  have HR := hide t2
  have HPB := hide tx
  have HB := hide t3
  have HG : Hid (w.heap.size ≤ w.heap.size ∧ w.heap.size ≤ gR ∧ w.heap.size ≠ gR) := by
    rw [hgR]
    exact ⟨by omega, by omega, by omega⟩
  have HGR := hide hgR
  have HGP := hide hgP
  clear t1 t2 t3 tx hw1 hgR hgP
  rw [← unhide HW]
  generalize hy : w.heap.size + 1 + 1 = gy at *
  generalize hx : w.heap.size + 1 = gx at *
  have hgx : gP = gx := unhide HGP
  have hgy : gR = gy := unhide HGR
  clear hx hy
  subst hgx hgy
  refine (unhide hP1 w1).mono ?_
  rintro e w2 ⟨rfl, rfl⟩
  obtain ⟨p0, p1⟩ : w1.cell? ⟨gP, 0, none⟩ = some (.int .i64 x) ∧ w1.cell? ⟨gP, 1, none⟩ = some (.int .i64 y) := by simp [World.cell?, unhide HPB]
  go_wp2_with fail
  refine (unhide hP2 w1).mono ?_
  rintro e w2 ⟨rfl, b2⟩
  have p0' := (World.cell?_of_block (b2.block _ (lt_of_block (unhide HPB)))).trans p0
  have p1' := (World.cell?_of_block (b2.block _ (lt_of_block (unhide HPB)))).trans p1
  have HBB := hide ((unhide HB).trans (b2.mono (unhide HB).size))
  have HTT := hide ((b2.block _ (lt_of_block (unhide HT))).trans (unhide HT))
  have HRR := hide ((b2.block _ (lt_of_block (unhide HR))).trans (unhide HR))
  have HSZ12 := hide b2.size
  clear b2 p0 p1
  go_wp2_with fail
  refine (unhide hP3 w2).mono ?_
  rintro e w3 ⟨rfl, rfl⟩
  clear hP1 hP2 hP3 hC
  have HBX := HBB
  have HDT := hide ((unhide HH).up (unhide HBB))
  have HT2 := HTT
  have HR2 := HRR
  have HF := hide (fin_put (room := room) (tmo := tmo) (unhide HDT) (unhide HBX) (unhide HR2) (unhide HG).2.1)
  go_wp2_with (first
    | (refine wpList_load_row rfl 29 (.tmp 4) rfl w.heap.size rfl 29 #[.int .i64 room, .int .i64 tmo, .slice a0 m c0, .slice a1 nb c1] (0, 0) _ (unhide HT2) Try.underlying29 rfl (by kernel_rfl) ?_)
    | (refine wpList_store_row_to rfl 29 (.tmp 8) (.tmp 27) rfl gR #[.int .i64 room, .int .i64 tmo, .slice a0 m c0, .slice a1 nb c1] rfl rfl 29 zT (unhide HR2) (by kernel_rfl) (by rfl) (by simp [Value.oneCell']) (fun w' => Fin B w gR room tmo (.slice a0 m c0) (.slice a1 nb c1) (L) (Bs) w') (unhide HF) ?_))
  intro w5 h5
  have H5 := hide h5
  clear h5
  go_wp2
  exact ret_row2 (p := 8) (q := 9) (ty := 29) (by kernel_rfl) gR 29 _ (0, 0) (.int .i64 1) _ rfl rfl (unhide H5).blk rfl Try.underlying29 (by kernel_rfl) ⟨_, _, rfl, (unhide H5).dt, (unhide H5).be⟩
end Go.Proofs.Ytbfakbooenmhoaa
namespace Go.Proofs.Ytbfakbooenmhoaa
open Go.RowKit
set_option linter.unusedVariables false
attribute [local go_sem] Oper.semAt_some

set_option maxRecDepth 100000 in
set_option maxHeartbeats 8000000 in
theorem dmeet_ban (B : Nat) (room tmo n x y t : Int) (vL vB : Value) (L : List Pr) (Bs : List Int) (w : World) (h : Dt B w vL vB L Bs) (hB : B ≤ w.heap.size) (h1 : isPr n = true) (h2 : isPl x y = true) (h3 : isTm t = true) (hs : hasI Bs n = true) :
    Calls Try.prog 30 #[tabV room tmo vL vB, .int .i64 n, .agg #[.int .i64 x, .int .i64 y], .int .i64 t] w fun e w' => ∃ v vb, e = .returned (.tuple #[tabV room tmo v vb, .int .i64 10]) ∧ Dt B w' v vb (L) Bs ∧ Below w.heap.size w w' := by
  have HBW := hide hB
  have hP1 := hide (fun w => dIsPeer_any n w)
  have hP2 := hide (fun w => dCheck_any x y w)
  have hP3 := hide (fun w => dTick_any t w)
  have hC := hide (fun x (hx : Dt B x vL vB L Bs) => dfind_any B room tmo n vL vB L Bs x hx)
  clear hB
  rw [h1] at hP1
  rw [h2] at hP2
  rw [h3] at hP3
  clear h1 h2 h3
  have HHS := hide hs
  clear hs
  obtain ⟨a0, c0, rfl, hp, hlt⟩ := own_des h.oL
  obtain ⟨a1, c1, rfl⟩ := ownI_shape h.oB
  have hn16 := h.nL
  have HH := hide h
  have HP := hide hp
  have HLT := hide (fun a ha => (hlt a ha).2)
  obtain ⟨i0, hi0, hz0, hz1, hz2⟩ := info_parts Try.infoDe
  have HPL : Hid ((Try.prog.info? 43).map (·.size) = some 10) := by
    show _ = _
    kernel_rfl
  generalize hm : L.length = m at *
  have HM := hide hm
  clear h hp hlt hm
  obtain ⟨nb, hnb⟩ : ∃ nb, nb = Bs.length := ⟨_, rfl⟩
  have hIB := hide (fun x (hx : Below w.heap.size w x) => (ownI_up (unhide HH).oB hx).ints)
  rw [← hnb] at HH hIB hC ⊢
  have HNB := hide hnb
  clear hnb
  go_enter Try.func30, Try.ntmps30
  go_wp2_with fail
  obtain ⟨w1, hw1⟩ : ∃ w1, w1 = ((w.alloc (.cells #[.int .i64 room, .int .i64 tmo, .slice a0 m c0, .slice a1 nb c1] 29)).alloc (.cells #[.int .i64 x, .int .i64 y] 41)).alloc (.cells #[.int .i64 0, .int .i64 0, .slice none 0 0, .slice none 0 0] 29) := ⟨_, rfl⟩
  obtain ⟨t1, tx, t2, t3⟩ := three_boxes w #[.int .i64 room, .int .i64 tmo, .slice a0 m c0, .slice a1 nb c1] #[.int .i64 x, .int .i64 y] #[.int .i64 0, .int .i64 0, .slice none 0 0, .slice none 0 0] 29 41 29
  rw [← hw1] at t1 tx t2 t3
  have HW : Hid (w1 = _) := hw1
  obtain ⟨gR, hgR⟩ : ∃ gR, gR = w.heap.size + 1 + 1 := ⟨_, rfl⟩
  obtain ⟨gP, hgP⟩ : ∃ gP, gP = w.heap.size + 1 := ⟨_, rfl⟩
  rw [← hgR] at t2
  rw [← hgP] at tx
  have HT := hide t1
  have HR := hide t2
  have HPB := hide tx
  have HB := hide t3
  have HG : Hid (w.heap.size ≤ w.heap.size ∧ w.heap.size ≤ gR ∧ w.heap.size ≠ gR) := by
    rw [hgR]
    exact ⟨by omega, by omega, by omega⟩
  have HGR := hide hgR
  have HGP := hide hgP
  clear t1 t2 t3 tx hw1 hgR hgP
  rw [← unhide HW]
  generalize hy : w.heap.size + 1 + 1 = gy at *
  generalize hx : w.heap.size + 1 = gx at *
  have hgx : gP = gx := unhide HGP
  have hgy : gR = gy := unhide HGR
  clear hx hy
  subst hgx hgy
  refine (unhide hP1 w1).mono ?_
  rintro e w2 ⟨rfl, rfl⟩
  obtain ⟨p0, p1⟩ : w1.cell? ⟨gP, 0, none⟩ = some (.int .i64 x) ∧ w1.cell? ⟨gP, 1, none⟩ = some (.int .i64 y) := by simp [World.cell?, unhide HPB]
  go_wp2_with fail
  refine (unhide hP2 w1).mono ?_
  rintro e w2 ⟨rfl, b2⟩
  have p0' := (World.cell?_of_block (b2.block _ (lt_of_block (unhide HPB)))).trans p0
  have p1' := (World.cell?_of_block (b2.block _ (lt_of_block (unhide HPB)))).trans p1
  have HBB := hide ((unhide HB).trans (b2.mono (unhide HB).size))
  have HTT := hide ((b2.block _ (lt_of_block (unhide HT))).trans (unhide HT))
  have HRR := hide ((b2.block _ (lt_of_block (unhide HR))).trans (unhide HR))
  have HSZ12 := hide b2.size
  clear b2 p0 p1
  go_wp2_with fail
  refine (unhide hP3 w2).mono ?_
  rintro e w3 ⟨rfl, rfl⟩
  obtain ⟨b0, b1, b2, b3⟩ := four_cells (unhide HTT)
  go_wp2_with fail
  obtain ⟨ia, ic', ie1, ie2, ie3, ie4⟩ := unhide hIB w2 (unhide HBB)
  cases ie1
  have hHAS := rhas_any a1 Bs c1 n w2 ie2 (Nat.le_trans (unhide HH).nB (by unfold maxLen; omega))
  rw [← unhide HNB] at hHAS
  rw [unhide HHS] at hHAS
  refine hHAS.mono ?_
  rintro e w3 ⟨rfl, rfl⟩
  clear ie2 ie3 ie4
  clear hP1 hP2 hP3 hC b0 b1 b2 b3
  have HBX := HBB
  have HDT := hide ((unhide HH).up (unhide HBB))
  have HT2 := HTT
  have HR2 := HRR
  have HF := hide (fin_put (room := room) (tmo := tmo) (unhide HDT) (unhide HBX) (unhide HR2) (unhide HG).2.1)
  go_wp2_with (first
    | (refine wpList_load_row rfl 29 (.tmp 4) rfl w.heap.size rfl 29 #[.int .i64 room, .int .i64 tmo, .slice a0 m c0, .slice a1 nb c1] (0, 0) _ (unhide HT2) Try.underlying29 rfl (by kernel_rfl) ?_)
    | (refine wpList_store_row_to rfl 29 (.tmp 8) (.tmp 32) rfl gR #[.int .i64 room, .int .i64 tmo, .slice a0 m c0, .slice a1 nb c1] rfl rfl 29 zT (unhide HR2) (by kernel_rfl) (by rfl) (by simp [Value.oneCell']) (fun w' => Fin B w gR room tmo (.slice a0 m c0) (.slice a1 nb c1) (L) (Bs) w') (unhide HF) ?_))
  intro w5 h5
  have H5 := hide h5
  clear h5
  go_wp2
  exact ret_row2 (p := 8) (q := 9) (ty := 29) (by kernel_rfl) gR 29 _ (0, 0) (.int .i64 10) _ rfl rfl (unhide H5).blk rfl Try.underlying29 (by kernel_rfl) ⟨_, _, rfl, (unhide H5).dt, (unhide H5).be⟩
end Go.Proofs.Ytbfakbooenmhoaa
namespace Go.Proofs.Ytbfakbooenmhoaa
open Go.RowKit
set_option linter.unusedVariables false
attribute [local go_sem] Oper.semAt_some

set_option maxRecDepth 100000 in
set_option maxHeartbeats 8000000 in
theorem dmeet_there (B : Nat) (room tmo n x y t : Int) (vL vB : Value) (L : List Pr) (Bs : List Int) (w : World) (h : Dt B w vL vB L Bs) (hB : B ≤ w.heap.size) (h1 : isPr n = true) (h2 : isPl x y = true) (h3 : isTm t = true) (hs : hasI Bs n = false) (i : Nat) (hfi : fnd L n = i) :
    Calls Try.prog 30 #[tabV room tmo vL vB, .int .i64 n, .agg #[.int .i64 x, .int .i64 y], .int .i64 t] w fun e w' => ∃ v vb, e = .returned (.tuple #[tabV room tmo v vb, .int .i64 5]) ∧ Dt B w' v vb (L) Bs ∧ Below w.heap.size w w' := by
  have HBW := hide hB
  have hP1 := hide (fun w => dIsPeer_any n w)
  have hP2 := hide (fun w => dCheck_any x y w)
  have hP3 := hide (fun w => dTick_any t w)
  have hC := hide (fun x (hx : Dt B x vL vB L Bs) => dfind_any B room tmo n vL vB L Bs x hx)
  clear hB
  rw [h1] at hP1
  rw [h2] at hP2
  rw [h3] at hP3
  clear h1 h2 h3
  have HHS := hide hs
  clear hs
  rw [hfi] at hC
  clear hfi
  obtain ⟨a0, c0, rfl, hp, hlt⟩ := own_des h.oL
  obtain ⟨a1, c1, rfl⟩ := ownI_shape h.oB
  have hn16 := h.nL
  have HH := hide h
  have HP := hide hp
  have HLT := hide (fun a ha => (hlt a ha).2)
  obtain ⟨i0, hi0, hz0, hz1, hz2⟩ := info_parts Try.infoDe
  have HPL : Hid ((Try.prog.info? 43).map (·.size) = some 10) := by
    show _ = _
    kernel_rfl
  generalize hm : L.length = m at *
  have HM := hide hm
  clear h hp hlt hm
  obtain ⟨nb, hnb⟩ : ∃ nb, nb = Bs.length := ⟨_, rfl⟩
  have hIB := hide (fun x (hx : Below w.heap.size w x) => (ownI_up (unhide HH).oB hx).ints)
  rw [← hnb] at HH hIB hC ⊢
  have HNB := hide hnb
  clear hnb
  go_enter Try.func30, Try.ntmps30
  go_wp2_with fail
  obtain ⟨w1, hw1⟩ : ∃ w1, w1 = ((w.alloc (.cells #[.int .i64 room, .int .i64 tmo, .slice a0 m c0, .slice a1 nb c1] 29)).alloc (.cells #[.int .i64 x, .int .i64 y] 41)).alloc (.cells #[.int .i64 0, .int .i64 0, .slice none 0 0, .slice none 0 0] 29) := ⟨_, rfl⟩
  obtain ⟨t1, tx, t2, t3⟩ := three_boxes w #[.int .i64 room, .int .i64 tmo, .slice a0 m c0, .slice a1 nb c1] #[.int .i64 x, .int .i64 y] #[.int .i64 0, .int .i64 0, .slice none 0 0, .slice none 0 0] 29 41 29
  rw [← hw1] at t1 tx t2 t3
  have HW : Hid (w1 = _) := hw1
  obtain ⟨gR, hgR⟩ : ∃ gR, gR = w.heap.size + 1 + 1 := ⟨_, rfl⟩
  obtain ⟨gP, hgP⟩ : ∃ gP, gP = w.heap.size + 1 := ⟨_, rfl⟩
  rw [← hgR] at t2
  rw [← hgP] at tx
  have HT := hide t1
  have HR := hide t2
  have HPB := hide tx
  have HB := hide t3
  have HG : Hid (w.heap.size ≤ w.heap.size ∧ w.heap.size ≤ gR ∧ w.heap.size ≠ gR) := by
    rw [hgR]
    exact ⟨by omega, by omega, by omega⟩
  have HGR := hide hgR
  have HGP := hide hgP
  clear t1 t2 t3 tx hw1 hgR hgP
  rw [← unhide HW]
  generalize hy : w.heap.size + 1 + 1 = gy at *
  generalize hx : w.heap.size + 1 = gx at *
  have hgx : gP = gx := unhide HGP
  have hgy : gR = gy := unhide HGR
  clear hx hy
  subst hgx hgy
  refine (unhide hP1 w1).mono ?_
  rintro e w2 ⟨rfl, rfl⟩
  obtain ⟨p0, p1⟩ : w1.cell? ⟨gP, 0, none⟩ = some (.int .i64 x) ∧ w1.cell? ⟨gP, 1, none⟩ = some (.int .i64 y) := by simp [World.cell?, unhide HPB]
  go_wp2_with fail
  refine (unhide hP2 w1).mono ?_
  rintro e w2 ⟨rfl, b2⟩
  have p0' := (World.cell?_of_block (b2.block _ (lt_of_block (unhide HPB)))).trans p0
  have p1' := (World.cell?_of_block (b2.block _ (lt_of_block (unhide HPB)))).trans p1
  have HBB := hide ((unhide HB).trans (b2.mono (unhide HB).size))
  have HTT := hide ((b2.block _ (lt_of_block (unhide HT))).trans (unhide HT))
  have HRR := hide ((b2.block _ (lt_of_block (unhide HR))).trans (unhide HR))
  have HSZ12 := hide b2.size
  clear b2 p0 p1
  go_wp2_with fail
  refine (unhide hP3 w2).mono ?_
  rintro e w3 ⟨rfl, rfl⟩
  obtain ⟨b0, b1, b2, b3⟩ := four_cells (unhide HTT)
  go_wp2_with fail
  obtain ⟨ia, ic', ie1, ie2, ie3, ie4⟩ := unhide hIB w2 (unhide HBB)
  cases ie1
  have hHAS := rhas_any a1 Bs c1 n w2 ie2 (Nat.le_trans (unhide HH).nB (by unfold maxLen; omega))
  rw [← unhide HNB] at hHAS
  rw [unhide HHS] at hHAS
  refine hHAS.mono ?_
  rintro e w3 ⟨rfl, rfl⟩
  clear ie2 ie3 ie4
  go_wp2_with fail
  refine (unhide hC w2 ((unhide HH).up (unhide HBB))).mono ?_
  rintro e w4 ⟨rfl, b4⟩
  have HBL : Hid (gP < w2.heap.size) := by
    have h1 := lt_of_block (unhide HPB)
    exact Nat.lt_of_lt_of_le h1 (unhide HSZ12)
  have HBB := hide ((unhide HBB).trans (b4.mono (unhide HBB).size))
  have HTT := hide ((b4.block _ (lt_of_block (unhide HTT))).trans (unhide HTT))
  have HRR := hide ((b4.block _ (lt_of_block (unhide HRR))).trans (unhide HRR))
  clear b0 b1 b2 b3
  obtain ⟨b0, b1, b2, b3⟩ := four_cells (unhide HTT)
  have p0'' := (World.cell?_of_block (b4.block gP (unhide HBL))).trans p0'
  have p1'' := (World.cell?_of_block (b4.block gP (unhide HBL))).trans p1'
  clear hP1 hP2 hP3 hC b4 p0' p1'
  obtain ⟨w2, hw2⟩ : ∃ x, x = w4 := ⟨_, rfl⟩
  subst hw2
  have hi0 : (0 : Int) ≤ i := by omega
  have HBX := HBB
  have HDT := hide ((unhide HH).up (unhide HBB))
  have HT2 := HTT
  have HR2 := HRR
  have HF := hide (fin_put (room := room) (tmo := tmo) (unhide HDT) (unhide HBX) (unhide HR2) (unhide HG).2.1)
  go_wp2_with (first
    | (refine wpList_load_row rfl 29 (.tmp 4) rfl w.heap.size rfl 29 #[.int .i64 room, .int .i64 tmo, .slice a0 m c0, .slice a1 nb c1] (0, 0) _ (unhide HT2) Try.underlying29 rfl (by kernel_rfl) ?_)
    | (refine wpList_store_row_to rfl 29 (.tmp 8) (.tmp 37) rfl gR #[.int .i64 room, .int .i64 tmo, .slice a0 m c0, .slice a1 nb c1] rfl rfl 29 zT (unhide HR2) (by kernel_rfl) (by rfl) (by simp [Value.oneCell']) (fun w' => Fin B w gR room tmo (.slice a0 m c0) (.slice a1 nb c1) (L) (Bs) w') (unhide HF) ?_))
  intro w5 h5
  have H5 := hide h5
  clear h5
  go_wp2
  exact ret_row2 (p := 8) (q := 9) (ty := 29) (by kernel_rfl) gR 29 _ (0, 0) (.int .i64 5) _ rfl rfl (unhide H5).blk rfl Try.underlying29 (by kernel_rfl) ⟨_, _, rfl, (unhide H5).dt, (unhide H5).be⟩
end Go.Proofs.Ytbfakbooenmhoaa
namespace Go.Proofs.Ytbfakbooenmhoaa
open Go.RowKit
set_option linter.unusedVariables false
attribute [local go_sem] Oper.semAt_some

set_option maxRecDepth 100000 in
set_option maxHeartbeats 8000000 in
theorem dmeet_full (B : Nat) (room tmo n x y t : Int) (vL vB : Value) (L : List Pr) (Bs : List Int) (w : World) (h : Dt B w vL vB L Bs) (hB : B ≤ w.heap.size) (h1 : isPr n = true) (h2 : isPl x y = true) (h3 : isTm t = true) (hs : hasI Bs n = false) (hfi : fnd L n = -1) (hr : room ≤ (L.length : Int)) :
    Calls Try.prog 30 #[tabV room tmo vL vB, .int .i64 n, .agg #[.int .i64 x, .int .i64 y], .int .i64 t] w fun e w' => ∃ v vb, e = .returned (.tuple #[tabV room tmo v vb, .int .i64 6]) ∧ Dt B w' v vb (L) Bs ∧ Below w.heap.size w w' := by
  have HBW := hide hB
  have hP1 := hide (fun w => dIsPeer_any n w)
  have hP2 := hide (fun w => dCheck_any x y w)
  have hP3 := hide (fun w => dTick_any t w)
  have hC := hide (fun x (hx : Dt B x vL vB L Bs) => dfind_any B room tmo n vL vB L Bs x hx)
  clear hB
  rw [h1] at hP1
  rw [h2] at hP2
  rw [h3] at hP3
  clear h1 h2 h3
  have HHS := hide hs
  clear hs
  rw [hfi] at hC
  clear hfi
  obtain ⟨a0, c0, rfl, hp, hlt⟩ := own_des h.oL
  obtain ⟨a1, c1, rfl⟩ := ownI_shape h.oB
  have hn16 := h.nL
  have HH := hide h
  have HP := hide hp
  have HLT := hide (fun a ha => (hlt a ha).2)
  obtain ⟨i0, hi0, hz0, hz1, hz2⟩ := info_parts Try.infoDe
  have HPL : Hid ((Try.prog.info? 43).map (·.size) = some 10) := by
    show _ = _
    kernel_rfl
  generalize hm : L.length = m at *
  have HM := hide hm
  clear h hp hlt hm
  obtain ⟨nb, hnb⟩ : ∃ nb, nb = Bs.length := ⟨_, rfl⟩
  have hIB := hide (fun x (hx : Below w.heap.size w x) => (ownI_up (unhide HH).oB hx).ints)
  rw [← hnb] at HH hIB hC ⊢
  have HNB := hide hnb
  clear hnb
  go_enter Try.func30, Try.ntmps30
  go_wp2_with fail
  obtain ⟨w1, hw1⟩ : ∃ w1, w1 = ((w.alloc (.cells #[.int .i64 room, .int .i64 tmo, .slice a0 m c0, .slice a1 nb c1] 29)).alloc (.cells #[.int .i64 x, .int .i64 y] 41)).alloc (.cells #[.int .i64 0, .int .i64 0, .slice none 0 0, .slice none 0 0] 29) := ⟨_, rfl⟩
  obtain ⟨t1, tx, t2, t3⟩ := three_boxes w #[.int .i64 room, .int .i64 tmo, .slice a0 m c0, .slice a1 nb c1] #[.int .i64 x, .int .i64 y] #[.int .i64 0, .int .i64 0, .slice none 0 0, .slice none 0 0] 29 41 29
  rw [← hw1] at t1 tx t2 t3
  have HW : Hid (w1 = _) := hw1
  obtain ⟨gR, hgR⟩ : ∃ gR, gR = w.heap.size + 1 + 1 := ⟨_, rfl⟩
  obtain ⟨gP, hgP⟩ : ∃ gP, gP = w.heap.size + 1 := ⟨_, rfl⟩
  rw [← hgR] at t2
  rw [← hgP] at tx
  have HT := hide t1
  have HR := hide t2
  have HPB := hide tx
  have HB := hide t3
  have HG : Hid (w.heap.size ≤ w.heap.size ∧ w.heap.size ≤ gR ∧ w.heap.size ≠ gR) := by
    rw [hgR]
    exact ⟨by omega, by omega, by omega⟩
  have HGR := hide hgR
  have HGP := hide hgP
  clear t1 t2 t3 tx hw1 hgR hgP
  rw [← unhide HW]
  generalize hy : w.heap.size + 1 + 1 = gy at *
  generalize hx : w.heap.size + 1 = gx at *
  have hgx : gP = gx := unhide HGP
  have hgy : gR = gy := unhide HGR
  clear hx hy
  subst hgx hgy
  refine (unhide hP1 w1).mono ?_
  rintro e w2 ⟨rfl, rfl⟩
  obtain ⟨p0, p1⟩ : w1.cell? ⟨gP, 0, none⟩ = some (.int .i64 x) ∧ w1.cell? ⟨gP, 1, none⟩ = some (.int .i64 y) := by simp [World.cell?, unhide HPB]
  go_wp2_with fail
  refine (unhide hP2 w1).mono ?_
  rintro e w2 ⟨rfl, b2⟩
  have p0' := (World.cell?_of_block (b2.block _ (lt_of_block (unhide HPB)))).trans p0
  have p1' := (World.cell?_of_block (b2.block _ (lt_of_block (unhide HPB)))).trans p1
  have HBB := hide ((unhide HB).trans (b2.mono (unhide HB).size))
  have HTT := hide ((b2.block _ (lt_of_block (unhide HT))).trans (unhide HT))
  have HRR := hide ((b2.block _ (lt_of_block (unhide HR))).trans (unhide HR))
  have HSZ12 := hide b2.size
  clear b2 p0 p1
  go_wp2_with fail
  refine (unhide hP3 w2).mono ?_
  rintro e w3 ⟨rfl, rfl⟩
  obtain ⟨b0, b1, b2, b3⟩ := four_cells (unhide HTT)
  go_wp2_with fail
  obtain ⟨ia, ic', ie1, ie2, ie3, ie4⟩ := unhide hIB w2 (unhide HBB)
  cases ie1
  have hHAS := rhas_any a1 Bs c1 n w2 ie2 (Nat.le_trans (unhide HH).nB (by unfold maxLen; omega))
  rw [← unhide HNB] at hHAS
  rw [unhide HHS] at hHAS
  refine hHAS.mono ?_
  rintro e w3 ⟨rfl, rfl⟩
  clear ie2 ie3 ie4
  go_wp2_with fail
  refine (unhide hC w2 ((unhide HH).up (unhide HBB))).mono ?_
  rintro e w4 ⟨rfl, b4⟩
  have HBL : Hid (gP < w2.heap.size) := by
    have h1 := lt_of_block (unhide HPB)
    exact Nat.lt_of_lt_of_le h1 (unhide HSZ12)
  have HBB := hide ((unhide HBB).trans (b4.mono (unhide HBB).size))
  have HTT := hide ((b4.block _ (lt_of_block (unhide HTT))).trans (unhide HTT))
  have HRR := hide ((b4.block _ (lt_of_block (unhide HRR))).trans (unhide HRR))
  clear b0 b1 b2 b3
  obtain ⟨b0, b1, b2, b3⟩ := four_cells (unhide HTT)
  have p0'' := (World.cell?_of_block (b4.block gP (unhide HBL))).trans p0'
  have p1'' := (World.cell?_of_block (b4.block gP (unhide HBL))).trans p1'
  clear hP1 hP2 hP3 hC b4 p0' p1'
  obtain ⟨w2, hw2⟩ : ∃ x, x = w4 := ⟨_, rfl⟩
  subst hw2
  have HBX := HBB
  have HDT := hide ((unhide HH).up (unhide HBB))
  have HT2 := HTT
  have HR2 := HRR
  have HF := hide (fin_put (room := room) (tmo := tmo) (unhide HDT) (unhide HBX) (unhide HR2) (unhide HG).2.1)
  go_wp2_with (first
    | (refine wpList_load_row rfl 29 (.tmp 4) rfl w.heap.size rfl 29 #[.int .i64 room, .int .i64 tmo, .slice a0 m c0, .slice a1 nb c1] (0, 0) _ (unhide HT2) Try.underlying29 rfl (by kernel_rfl) ?_)
    | (refine wpList_store_row_to rfl 29 (.tmp 8) (.tmp 44) rfl gR #[.int .i64 room, .int .i64 tmo, .slice a0 m c0, .slice a1 nb c1] rfl rfl 29 zT (unhide HR2) (by kernel_rfl) (by rfl) (by simp [Value.oneCell']) (fun w' => Fin B w gR room tmo (.slice a0 m c0) (.slice a1 nb c1) (L) (Bs) w') (unhide HF) ?_))
  intro w5 h5
  have H5 := hide h5
  clear h5
  go_wp2
  exact ret_row2 (p := 8) (q := 9) (ty := 29) (by kernel_rfl) gR 29 _ (0, 0) (.int .i64 6) _ rfl rfl (unhide H5).blk rfl Try.underlying29 (by kernel_rfl) ⟨_, _, rfl, (unhide H5).dt, (unhide H5).be⟩
end Go.Proofs.Ytbfakbooenmhoaa

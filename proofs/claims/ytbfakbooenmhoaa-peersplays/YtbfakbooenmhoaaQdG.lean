/- peers: the document's table: Roll, Set. -/
import Derived.Test.YtbfakbooenmhoaaQdF
namespace Go.Proofs.Ytbfakbooenmhoaa
open Go.RowKit
set_option linter.unusedVariables false
attribute [local go_sem] Oper.semAt_some

/-- a table in its box, a peer in a box of its own -/
structure RX (B : Nat) (w : World) (gR : Nat) (room tmo : Int) (vL vB : Value) (L : List Pr) (Bs : List Int) (gN : Nat) (cs : Array Value) (wx : World) : Prop where
  mid : Mid B w w.heap.size gR room tmo vL vB vB L Bs wx
  pb : wx.heap[gN]? = some (.cells cs 43 (0, 0))
  fr : vL.ownBlock ≠ some gN
  lo : w.heap.size ≤ gN
theorem Mid.other {B : Nat} {w : World} {gT gR : Nat} {room tmo : Int} {vL vB : Value} {L : List Pr} {Bs : List Int} {x y : World} {gN : Nat} {cs : Array Value} (h : Mid B w gT gR room tmo vL vB vB L Bs x) (hp : x.heap[gN]? = some (.cells cs 43 (0, 0))) (hf : vL.ownBlock ≠ some gN) (hk : ∀ k, k ≠ gN → y.heap[k]? = x.heap[k]?) (hb : Below w.heap.size w y) : Mid B w gT gR room tmo vL vB vB L Bs y := by
  have ne : ∀ {g : Nat} {cs' : Array Value} {T : TypeId}, x.heap[g]? = some (.cells cs' T (0, 0)) → T ≠ 43 → g ≠ gN := fun h1 h2 e => by
    subst e
    rw [hp] at h1
    simp only [Option.some.injEq, Obj.cells.injEq] at h1
    exact h2 h1.2.1.symm
  refine ⟨(hk _ (ne h.box (by decide))).trans h.box, (hk _ (ne h.ans (by decide))).trans h.ans, ⟨ownDe_keep h.dt.oL (fun k e => hk k (fun e2 => hf (by rw [e, e2]))), ownI_keep h.dt.oB (fun k e => hk k (fun e2 => ?_)), h.dt.nL, h.dt.nB⟩, hb⟩
  subst e2
  exact ownI_ne h.dt.oB hp (by decide) e
theorem rx_new {B : Nat} {w wr : World} {gR : Nat} {room tmo : Int} {vL vB : Value} {L : List Pr} {Bs : List Int} (h : Mid B w w.heap.size gR room tmo vL vB vB L Bs wr) (cs zs : Array Value) :
    RX B w gR room tmo vL vB L Bs wr.heap.size cs ((wr.alloc (.cells zs 43)).setRow wr.heap.size cs) := by
  have hb : Below wr.heap.size wr (wr.alloc (.cells zs 43)) := (Below.refl _ _).alloc (Nat.le_refl _) _
  have m2 := h.up hb
  have hn := heap_alloc_new wr (.cells zs 43)
  have hf : vL.ownBlock ≠ some wr.heap.size := fun e => by
    have := (ownDe_lt h.dt.oL _ e).2
    omega
  exact ⟨m2.other hn hf (fun k hk => setRow_other _ _ k _ hk) (below_setRow m2.be h.be.size _), setRow_heap _ _ _ _ _ _ hn, hf, h.be.size⟩
theorem RX.set {B : Nat} {w wx : World} {gR : Nat} {room tmo : Int} {vL vB : Value} {L : List Pr} {Bs : List Int} {gN : Nat} {cs : Array Value} (h : RX B w gR room tmo vL vB L Bs gN cs wx) (j : Nat) (u : Value) :
    RX B w gR room tmo vL vB L Bs gN (cs.setIfInBounds j u) (wx.setCell ⟨gN, j, none⟩ u) :=
  ⟨h.mid.other h.pb h.fr (fun k hk => Below.heap_setCell _ _ _ _ hk) (h.mid.be.setCell (p := ⟨gN, j, none⟩) h.lo _), heap_setCell_same wx gN j _ 43 u h.pb, h.fr, h.lo⟩
theorem RX.free {B : Nat} {w wx : World} {gR : Nat} {room tmo : Int} {vL vB : Value} {L : List Pr} {Bs : List Int} {gN : Nat} {cs : Array Value} (h : RX B w gR room tmo vL vB L Bs gN cs wx) (j : Nat) : wx.frozen? ⟨gN, j, none⟩ = false := by simp [World.frozen?, h.pb]
theorem RX.cell {B : Nat} {w wx : World} {gR : Nat} {room tmo : Int} {vL vB : Value} {L : List Pr} {Bs : List Int} {gN : Nat} {cs : Array Value} (h : RX B w gR room tmo vL vB L Bs gN cs wx) (j : Nat) (v : Value) (hv : cs[j]? = some v) : wx.cell? ⟨gN, j, none⟩ = some v := by simpa [World.cell?, h.pb] using hv
set_option maxRecDepth 100000 in
set_option maxHeartbeats 4000000 in
theorem droll_any (B : Nat) (room tmo : Int) (vL vB : Value) (L : List Pr) (Bs : List Int) (w : World) (h : Dt B w vL vB L Bs) (hB : B ≤ w.heap.size) (hN : L.Pairwise fun a b => a.nd ≠ b.nd) :
    Calls Try.prog 38 #[tabV room tmo vL vB] w fun e w' => ∃ v, e = .returned (tabV room tmo v vB) ∧ Dt B w' v vB (rollK L L.length) Bs ∧ Below w.heap.size w w' := by
  have HBW := hide hB
  have HN := hide hN
  have hW := hide (fun (v : Value) (K : List Pr) (X : Pr) x (hx : Dt B x v vB K Bs) (hb : B ≤ x.heap.size) => dwith_any B room tmo X v vB K Bs x hx hb)
  clear hB hN
  obtain ⟨lz, hlz⟩ : ∃ lz, lz = rollK L L.length := ⟨_, rfl⟩
  rw [← hlz]
  have HLZ := hide hlz
  clear hlz
  obtain ⟨a0, c0, rfl, hp, hlt⟩ := own_des h.oL
  obtain ⟨a1, c1, rfl⟩ := ownI_shape h.oB
  have hn16 := h.nL
  have HH := hide h
  have HP := hide hp
  have HLT := hide (fun a ha => (hlt a ha).2)
  obtain ⟨i0, hi0, hz0, hz1, hz2⟩ := info_parts Try.infoDe
  have HPL : Hid ((Try.prog.info? 43).map (·.size) = some 10) := by
    show _ = _
    kernel_rfl
  generalize hm : L.length = m at *
  have HM := hide hm
  clear h hp hlt hm
  go_enter Try.func38, Try.ntmps38
  go_wp2_with fail

  obtain ⟨w1, hw1⟩ : ∃ w1, w1 = (w.alloc (.cells #[.int .i64 room, .int .i64 tmo, .slice a0 m c0, .slice a1 Bs.length c1] 29)).alloc (.cells #[.int .i64 0, .int .i64 0, .slice none 0 0, .slice none 0 0] 29) := ⟨_, rfl⟩
  obtain ⟨t1, t2, t3⟩ := two_boxes w #[.int .i64 room, .int .i64 tmo, .slice a0 m c0, .slice a1 Bs.length c1] #[.int .i64 0, .int .i64 0, .slice none 0 0, .slice none 0 0] 29 29
  rw [← hw1] at t1 t2 t3
  have HW : Hid (w1 = _) := hw1
  obtain ⟨gR, hgR⟩ : ∃ gR, gR = w.heap.size + 1 := ⟨_, rfl⟩
  rw [← hgR] at t2
  have HT := hide t1
  have HR := hide t2
  have HB := hide t3
  have HG : Hid (w.heap.size ≤ w.heap.size ∧ w.heap.size ≤ gR ∧ w.heap.size ≠ gR) := by
    rw [hgR]
    exact ⟨by omega, by omega, by omega⟩
  have HGR := hide hgR
  clear t1 t2 t3 hw1 hgR
  rw [← unhide HW]
  generalize hx : w.heap.size + 1 = gx at *
  have hgx : gR = gx := unhide HGR
  clear hx
  subst hgx
  have HE0 : Hid (Mid B w w.heap.size gR room tmo (.slice a0 m c0) (.slice a1 Bs.length c1) (.slice a1 Bs.length c1) (rollK L 0) Bs w1) := ⟨unhide HT, unhide HR, by
    have : rollK L 0 = L := by simp [rollK]
    rw [this]
    exact (unhide HH).up (unhide HB), unhide HB⟩
  go_loopw [3] (fun iv wr => ∃ (i : Nat) (vL : Value), i ≤ m ∧ iv = .int .i64 i ∧ Mid B w w.heap.size gR room tmo vL (.slice a1 Bs.length c1) (.slice a1 Bs.length c1) (rollK L i) Bs wr) (fun iv _ => m - (intOf iv).toNat)
  case atStart => exact ⟨0, _, by omega, rfl, unhide HE0⟩
  case round =>
    obtain ⟨i, vX, hi, rfl, hex⟩ := hrel
    obtain ⟨ax, cx, rfl, hpx, hltx⟩ := own_des hex.dt.oL
    rw [rollK_len, unhide HM] at hex
    have HMX := hide hex
    have HPX := hide hpx
    obtain ⟨b0, b1, b2, b3⟩ := four_cells hex.box
    clear hex HE0 hpx hltx
    by_cases hlt : i < m
    · have q1 : (i : Int) < m := by omega
      obtain ⟨e, he⟩ : ∃ e, L[i]? = some e := ⟨_, List.getElem?_eq_getElem (by rw [unhide HM]; exact hlt)⟩
      obtain ⟨g, rfl, hra⟩ := (unhide HPX) i e (rollK_at he)
      have HSTEP := hide (rollK_step (unhide HN) he)
      obtain ⟨nd, px, py, hv, wa, op, os, se, nw, ra⟩ := e
      have HRA : Hid (wr.rangeAt g (i * 10) [.int .i64 nd, .int .i64 px, .int .i64 py, .string hv, .bool wa, .bool op, .bool os, .int .i64 se, .int .i64 nw, .int .i64 ra]) := hra
      clear hra he b0 b1 b3
      have HRX := hide (rx_new (unhide HMX) #[.int .i64 nd, .int .i64 px, .int .i64 py, .string hv, .bool wa, .bool op, .bool os, .int .i64 se, .int .i64 nw, .int .i64 ra] #[.int .i64 0, .int .i64 0, .int .i64 0, .string ⟨#[]⟩, .bool false, .bool false, .bool false, .int .i64 0, .int .i64 0, .int .i64 0])
      go_wp2_with (first
        | (refine wpList_load_mid rfl 43 (.tmp 15) rfl g (i * 10) rfl [.int .i64 nd, .int .i64 px, .int .i64 py, .string hv, .bool wa, .bool op, .bool os, .int .i64 se, .int .i64 nw, .int .i64 ra] _ (unhide HRA) Try.underlying43 rfl (unhide HPL) ?_)
        | (refine wpList_store_row_to rfl 43 (.tmp 4) (.tmp 16) rfl wr.heap.size #[.int .i64 nd, .int .i64 px, .int .i64 py, .string hv, .bool wa, .bool op, .bool os, .int .i64 se, .int .i64 nw, .int .i64 ra] rfl rfl 43 #[.int .i64 0, .int .i64 0, .int .i64 0, .string ⟨#[]⟩, .bool false, .bool false, .bool false, .int .i64 0, .int .i64 0, .int .i64 0] (heap_alloc_new wr _) (by kernel_rfl) (by rfl) (by simp [Value.oneCell']) (fun w' => RX B w gR room tmo (.slice (some ⟨g, 0, none⟩) m cx) (.slice a1 Bs.length c1) (rollK L i) Bs wr.heap.size #[.int .i64 nd, .int .i64 px, .int .i64 py, .string hv, .bool wa, .bool op, .bool os, .int .i64 se, .int .i64 nw, .int .i64 ra] w') (unhide HRX) ?_))
      intro w5 h5
      have H5 := hide h5
      clear h5 HRX
      have c8 := (unhide H5).cell 8 _ rfl
      have c9 := (unhide H5).cell 9 _ rfl
      have f8 := (unhide H5).free 8
      have f9 := (unhide H5).free 9
      have H6 := hide (((unhide H5).set 9 (.int .i64 nw)).set 8 (.int .i64 0))
      have HT6 := hide (unhide H6).mid.box
      have HP6 := hide (unhide H6).pb
      have HD6 := hide (unhide H6).mid.dt
      have HB6 := hide (unhide H6).mid.be
      have HA6 := hide (unhide H6).mid.ans
      generalize hgn : wr.heap.size = gN at *
      clear H5 H6 HMX HPX HRA hgn
      have hW2 := hide (unhide hW _ _ (rolled ⟨nd, px, py, hv, wa, op, os, se, nw, ra⟩) _ (unhide HD6) (Nat.le_trans (unhide HBW) (unhide HB6).size))
      have hcl : (rolled ⟨nd, px, py, hv, wa, op, os, se, nw, ra⟩).cl.toArray = #[.int .i64 nd, .int .i64 px, .int .i64 py, .string hv, .bool wa, .bool op, .bool os, .int .i64 se, .int .i64 0, .int .i64 nw] := rfl
      rw [hcl, unhide HSTEP] at hW2
      clear hcl
      go_wp2_with (first
        | (refine wpList_load_row rfl 29 (.tmp 1) rfl w.heap.size rfl 29 #[.int .i64 room, .int .i64 tmo, .slice (some ⟨g, 0, none⟩) m cx, .slice a1 Bs.length c1] (0, 0) _ (unhide HT6) Try.underlying29 rfl (by kernel_rfl) ?_)
        | (refine wpList_load_row rfl 43 (.tmp 4) rfl gN rfl 43 #[.int .i64 nd, .int .i64 px, .int .i64 py, .string hv, .bool wa, .bool op, .bool os, .int .i64 se, .int .i64 0, .int .i64 nw] (0, 0) _ (unhide HP6) Try.underlying43 rfl (by kernel_rfl) ?_))
      refine (unhide hW2).mono ?_
      rintro e w9 ⟨v, rfl, hd9, b9⟩
      have HT9 := hide ((b9.block _ (lt_of_block (unhide HT6))).trans (unhide HT6))
      have HF := hide (mid_row (room := room) (tmo := tmo) (vb := .slice a1 Bs.length c1) hd9 ((unhide HB6).trans (b9.mono (unhide HB6).size)) (unhide HT9) ((b9.block _ (lt_of_block (unhide HA6))).trans (unhide HA6)) (unhide HG))
      have HOC : Hid ((#[.int .i64 room, .int .i64 tmo, v, .slice a1 Bs.length c1] : Array Value).all (·.oneCell') = true) := by
        obtain ⟨av, cv, rfl⟩ := ownDe_shape hd9.oL
        show _ = _
        simp [Value.oneCell']
      clear hd9 b9 hW2 HT6 HP6 HD6 HB6 HA6
      go_wp2_with (refine wpList_store_row_to rfl 29 (.tmp 1) (.tmp 23) rfl w.heap.size #[.int .i64 room, .int .i64 tmo, v, .slice a1 Bs.length c1] rfl rfl 29 _ (unhide HT9) (by kernel_rfl) (by rfl) (unhide HOC) (fun w' => Mid B w w.heap.size gR room tmo v (.slice a1 Bs.length c1) (.slice a1 Bs.length c1) (rollK L (i + 1)) Bs w') (unhide HF) ?_)
      intro w5 h5
      have H5 := hide h5
      clear h5
      go_wp2
      go_roundw
      case rel => exact ⟨i + 1, v, by omega, by go_num, unhide H5⟩
      case measure => simp [intOf]; omega
    · have q1 : ¬ (i : Int) < m := by omega
      have him : i = m := by omega
      have HT2 := hide (unhide HMX).box
      have HR2 := hide (unhide HMX).ans
      have HDT := hide (unhide HMX).dt
      have HBX := hide (unhide HMX).be
      rw [him, ← unhide HLZ] at HDT
      clear him b0 b1 b3 HMX HPX
      have HF := hide (fin_put (room := room) (tmo := tmo) (unhide HDT) (unhide HBX) (unhide HR2) (unhide HG).2.1)
      go_wp2_with (first
        | (refine wpList_load_row rfl 29 (.tmp 1) rfl w.heap.size rfl 29 #[.int .i64 room, .int .i64 tmo, .slice ax m cx, .slice a1 Bs.length c1] (0, 0) _ (unhide HT2) Try.underlying29 rfl (by kernel_rfl) ?_)
        | (refine wpList_store_row_to rfl 29 (.tmp 2) (.tmp 24) rfl gR #[.int .i64 room, .int .i64 tmo, .slice ax m cx, .slice a1 Bs.length c1] rfl rfl 29 zT (unhide HR2) (by kernel_rfl) (by rfl) (by simp [Value.oneCell']) (fun w' => Fin B w gR room tmo (.slice ax m cx) (.slice a1 Bs.length c1) (lz) (Bs) w') (unhide HF) ?_))
      intro w5 h5
      have H5 := hide h5
      clear h5
      go_wp2
      exact ret_cell (p := 2) (ty := 29) (by kernel_rfl) gR 29 _ (0, 0) _ rfl (unhide H5).blk rfl Try.underlying29 (by kernel_rfl) ⟨_, rfl, (unhide H5).dt, (unhide H5).be⟩
/-- what Set answers -/
def seE (bad : Bool) (f : Int) : Int := if bad = true then 1 else if f < 0 then 4 else 0
/-- what Set leaves -/
def seL (bad : Bool) (X : Pr → Pr) (L : List Pr) (n : Int) : List Pr := if bad = true then L else if fnd L n < 0 then L else match L[(fnd L n).toNat]? with
  | some c => wiL L (X c)
  | none => L
theorem seL_at {X : Pr → Pr} {L : List Pr} {n : Int} {i : Nat} {c : Pr} (hf : fnd L n = i) (hc : L[i]? = some c) : seL false X L n = wiL L (X c) := by
  unfold seL
  rw [if_neg (by decide), hf, if_neg (by omega), Int.toNat_natCast, hc]
theorem seL_no {X : Pr → Pr} {L : List Pr} {n : Int} (hf : fnd L n = -1) : seL false X L n = L := by
  unfold seL
  rw [if_neg (by decide), hf, if_pos (by decide)]
/-- kinds of Set: what is refused, what is set -/
def sB0 (n : Int) (s : ByteArray) : Bool := !isTm n
def sB1 (n : Int) (s : ByteArray) : Bool := decide (20 < s.size)
def sB2 (n : Int) (s : ByteArray) : Bool := false
def sB3 (n : Int) (s : ByteArray) : Bool := false
def sB4 (n : Int) (s : ByteArray) : Bool := false
def sB5 (n : Int) (s : ByteArray) : Bool := decide (n < 0 ∨ 1099511627776 < n)
def sX0 (n : Int) (s : ByteArray) (c : Pr) : Pr := { c with se := if c.se < n then n else c.se }
def sX1 (n : Int) (s : ByteArray) (c : Pr) : Pr := { c with hv := s }
def sX2 (n : Int) (s : ByteArray) (c : Pr) : Pr := { c with wa := decide (n = 1) }
def sX3 (n : Int) (s : ByteArray) (c : Pr) : Pr := { c with op := decide (n = 1) }
def sX4 (n : Int) (s : ByteArray) (c : Pr) : Pr := { c with os := decide (n = 1) }
def sX5 (n : Int) (s : ByteArray) (c : Pr) : Pr := { c with nw := if 1099511627776 < c.nw + n then 1099511627776 else c.nw + n }
end Go.Proofs.Ytbfakbooenmhoaa

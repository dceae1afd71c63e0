/- peers: an act on both tables: kind S. -/
import Derived.Test.YtbfakbooenmhoaaQeA
namespace Go.Proofs.Ytbfakbooenmhoaa
open Go.RowKit
set_option linter.unusedVariables false
attribute [local go_sem] Oper.semAt_some

/-- an answer in its own block -/
theorem PRes.row {B b : Nat} {room tmo : Int} {P : Nat → Option Nat} {R : (Nat → Option Nat) → (Nat → Pr) → (Nat → Bool) → Prop} {w x : World} (h : PRes B b room tmo P R w x) {gR : Nat} {old : Array Value} (hR : x.heap[gR]? = some (.cells old 29 (0, 0))) (hl : w.heap.size ≤ gR) (cs : Array Value) : PRes B b room tmo P R w (x.setRow gR cs) := by
  have ne : ∀ {g : Nat} {cs : Array Value} {T : TypeId}, x.heap[g]? = some (.cells cs T (0, 0)) → T ≠ 29 → g ≠ gR := fun h1 h2 e => by
    subst e
    rw [hR] at h1
    simp only [Option.some.injEq, Obj.cells.injEq] at h1
    exact h2 h1.2.1.symm
  obtain ⟨P', C', Bn', h1, h2⟩ := h.ex
  refine ⟨⟨P', C', Bn', h1, h2.keep ?_ ?_⟩, ?_⟩
  · obtain ⟨cs, hc⟩ := h2.tb.blk
    exact setRow_other _ gR b _ (ne hc (by decide))
  · intro p g hp hg
    exact setRow_other _ gR g _ (ne (h2.tb.pe p g hp hg) (by decide))
  · have k := h.kt
    exact ⟨k.os, k.tape, k.output, by simpa [World.setRow] using k.size, fun z hz hb hq => (setRow_other _ gR z _ (by omega)).trans (k.block z hz hb hq)⟩
/-- what is stored for an answer -/
structure AFin (B b : Nat) (room tmo : Int) (P : Nat → Option Nat) (R : (Nat → Option Nat) → (Nat → Pr) → (Nat → Bool) → Prop) (w : World) (gR : Nat) (v vb : Value) (L : List Pr) (Bs : List Int) (x : World) : Prop where
  blk : x.heap[gR]? = some (.cells #[.int .i64 room, .int .i64 tmo, v, vb] 29 (0, 0))
  dt : Dt B x v vb L Bs
  pr : PRes B b room tmo P R w x
theorem afin {B b : Nat} {room tmo : Int} {P : Nat → Option Nat} {R : (Nat → Option Nat) → (Nat → Pr) → (Nat → Bool) → Prop} {w x : World} {gR : Nat} {v vb : Value} {L : List Pr} {Bs : List Int} {old : Array Value} (h : PRes B b room tmo P R w x) (hd : Dt B x v vb L Bs) (hR : x.heap[gR]? = some (.cells old 29 (0, 0))) (hl : w.heap.size ≤ gR) : AFin B b room tmo P R w gR v vb L Bs (x.setRow gR #[.int .i64 room, .int .i64 tmo, v, vb]) :=
  ⟨setRow_heap _ gR _ _ _ _ hR, dt_setRow hd hR _, h.row hR hl _⟩
set_option maxRecDepth 100000 in
set_option maxHeartbeats 4000000 in
theorem ado1_any (B b : Nat) (room tmo nd n qx qy : Int) (s : ByteArray) (on : Bool) (P : Nat → Option Nat) (R : (Nat → Option Nat) → (Nat → Pr) → (Nat → Bool) → Prop) (eq : Prop) (vL vB : Value) (L L2 : List Pr) (Bs : List Int) (w : World)
    (h : Dt B w vL vB L Bs) (hB : B ≤ w.heap.size)
    (hP : ∀ x, Below w.heap.size w x → Calls Try.prog 37 #[.pointer (some ⟨b, 0, none⟩), tabV room tmo vL vB, .agg #[.int .i64 1, .int .i64 nd, .int .i64 n, .int .i64 qx, .int .i64 qy, .string s, .bool on]] x fun e w' => ARes B b room tmo P R x eq L2 Bs e w')
    (hTb : ∃ C Bn, Tb B w b room tmo P C Bn) :
    Calls Try.prog 10 #[.pointer (some ⟨b, 0, none⟩), tabV room tmo vL vB, .agg #[.int .i64 1, .int .i64 nd, .int .i64 n, .int .i64 qx, .int .i64 qy, .string s, .bool on]] w fun e w' => ARes B b room tmo P R w eq L2 Bs e w' := by
  have hPP := hide hP
  obtain ⟨C, Bn, hTb⟩ := hTb
  have HTB := hide hTb
  clear hB hP hTb
  have hD := True.intro
  obtain ⟨a0, c0, rfl⟩ := ownDe_shape h.oL
  obtain ⟨a1, c1, rfl⟩ := ownI_shape h.oB
  have HH := hide h
  clear h
  obtain ⟨nb, hnb⟩ : ∃ nb, nb = Bs.length := ⟨_, rfl⟩
  obtain ⟨m, hm⟩ : ∃ m, m = L.length := ⟨_, rfl⟩
  rw [← hnb, ← hm] at HH hPP ⊢
  clear hnb hm
  go_enter Try.func10, Try.ntmps10
  go_wp2_with fail
  obtain ⟨w1, hw1⟩ : ∃ w1, w1 = ((w.alloc (.cells #[.int .i64 room, .int .i64 tmo, .slice a0 m c0, .slice a1 nb c1] 29)).alloc (.cells #[.int .i64 1, .int .i64 nd, .int .i64 n, .int .i64 qx, .int .i64 qy, .string s, .bool on] 33)).alloc (.cells #[.int .i64 0, .int .i64 0, .slice none 0 0, .slice none 0 0] 29) := ⟨_, rfl⟩
  obtain ⟨t1, tx, t2, t3⟩ := three_boxes w #[.int .i64 room, .int .i64 tmo, .slice a0 m c0, .slice a1 nb c1] #[.int .i64 1, .int .i64 nd, .int .i64 n, .int .i64 qx, .int .i64 qy, .string s, .bool on] #[.int .i64 0, .int .i64 0, .slice none 0 0, .slice none 0 0] 29 33 29
  rw [← hw1] at t1 tx t2 t3
  have HW : Hid (w1 = _) := hw1
  obtain ⟨gR, hgR⟩ : ∃ gR, gR = w.heap.size + 1 + 1 := ⟨_, rfl⟩
  obtain ⟨gA, hgA⟩ : ∃ gA, gA = w.heap.size + 1 := ⟨_, rfl⟩
  rw [← hgR] at t2
  rw [← hgA] at tx
  have HT := hide t1
  have HR := hide t2
  have HA := hide tx
  have HB := hide t3
  have HG : Hid (w.heap.size ≤ gR) := by
    rw [hgR]
    show _ ≤ _
    omega
  have HGR := hide hgR
  have HGA := hide hgA
  clear t1 t2 t3 tx hw1 hgR hgA
  rw [← unhide HW]
  generalize hy : w.heap.size + 1 + 1 = gy at *
  generalize hx : w.heap.size + 1 = gx at *
  have hgx : gA = gx := unhide HGA
  have hgy : gR = gy := unhide HGR
  clear hx hy
  subst hgx hgy
  refine (unhide hPP w1 (unhide HB)).mono ?_
  rintro e w2 ⟨⟨v, vb, r, rfl, heq, hd2⟩, hpr⟩
  have hR2 := kt_keep ((unhide HTB).up (unhide HB)) hpr.kt (unhide HR) (by decide) (by decide)
  have hpr2 : PRes B b room tmo P R w w2 := ⟨hpr.ex, (KT.of_below (unhide HB)).trans' hpr.kt⟩
  have HF := hide (afin hpr2 hd2 hR2 (unhide HG))
  have HR2 := hide hR2
  have HEQ := hide heq
  have HOC : Hid ((#[.int .i64 room, .int .i64 tmo, v, vb] : Array Value).all (·.oneCell') = true) := by
    obtain ⟨av, cv, rfl⟩ := ownDe_shape hd2.oL
    obtain ⟨ab, cb, rfl⟩ := ownI_shape hd2.oB
    show _ = _
    simp [Value.oneCell']
  clear hpr hpr2 hd2 hR2 heq hPP HB HT HR HA HTB HH
  go_wp2_with (refine wpList_store_row_to rfl 29 (.tmp 6) (.tmp 99) rfl gR #[.int .i64 room, .int .i64 tmo, v, vb] rfl rfl 29 _ (unhide HR2) (by kernel_rfl) (by rfl) (unhide HOC) (fun w' => AFin B b room tmo P R w gR v vb L2 Bs w') (unhide HF) ?_)
  intro w6 h6
  have H6 := hide h6
  clear h6
  go_wp2
  exact ret_row2 (p := 6) (q := 7) (ty := 29) (by kernel_rfl) gR 29 _ (0, 0) _ _ rfl rfl (unhide H6).blk rfl Try.underlying29 (by kernel_rfl) ⟨⟨v, vb, r, rfl, unhide HEQ, (unhide H6).dt⟩, (unhide H6).pr⟩
set_option maxRecDepth 100000 in
set_option maxHeartbeats 4000000 in
theorem ado5_any (B b : Nat) (room tmo nd n qx qy : Int) (s : ByteArray) (on : Bool) (P : Nat → Option Nat) (R : (Nat → Option Nat) → (Nat → Pr) → (Nat → Bool) → Prop) (eq : Prop) (vL vB : Value) (L L2 : List Pr) (Bs : List Int) (w : World)
    (h : Dt B w vL vB L Bs) (hB : B ≤ w.heap.size)
    (hP : ∀ x, Below w.heap.size w x → Calls Try.prog 37 #[.pointer (some ⟨b, 0, none⟩), tabV room tmo vL vB, .agg #[.int .i64 5, .int .i64 nd, .int .i64 n, .int .i64 qx, .int .i64 qy, .string s, .bool on]] x fun e w' => ARes B b room tmo P R x eq L2 Bs e w')
    (hTb : ∃ C Bn, Tb B w b room tmo P C Bn) :
    Calls Try.prog 10 #[.pointer (some ⟨b, 0, none⟩), tabV room tmo vL vB, .agg #[.int .i64 5, .int .i64 nd, .int .i64 n, .int .i64 qx, .int .i64 qy, .string s, .bool on]] w fun e w' => ARes B b room tmo P R w eq L2 Bs e w' := by
  have hPP := hide hP
  obtain ⟨C, Bn, hTb⟩ := hTb
  have HTB := hide hTb
  clear hB hP hTb
  have hD := True.intro
  obtain ⟨a0, c0, rfl⟩ := ownDe_shape h.oL
  obtain ⟨a1, c1, rfl⟩ := ownI_shape h.oB
  have HH := hide h
  clear h
  obtain ⟨nb, hnb⟩ : ∃ nb, nb = Bs.length := ⟨_, rfl⟩
  obtain ⟨m, hm⟩ : ∃ m, m = L.length := ⟨_, rfl⟩
  rw [← hnb, ← hm] at HH hPP ⊢
  clear hnb hm
  go_enter Try.func10, Try.ntmps10
  go_wp2_with fail
  obtain ⟨w1, hw1⟩ : ∃ w1, w1 = ((w.alloc (.cells #[.int .i64 room, .int .i64 tmo, .slice a0 m c0, .slice a1 nb c1] 29)).alloc (.cells #[.int .i64 5, .int .i64 nd, .int .i64 n, .int .i64 qx, .int .i64 qy, .string s, .bool on] 33)).alloc (.cells #[.int .i64 0, .int .i64 0, .slice none 0 0, .slice none 0 0] 29) := ⟨_, rfl⟩
  obtain ⟨t1, tx, t2, t3⟩ := three_boxes w #[.int .i64 room, .int .i64 tmo, .slice a0 m c0, .slice a1 nb c1] #[.int .i64 5, .int .i64 nd, .int .i64 n, .int .i64 qx, .int .i64 qy, .string s, .bool on] #[.int .i64 0, .int .i64 0, .slice none 0 0, .slice none 0 0] 29 33 29
  rw [← hw1] at t1 tx t2 t3
  have HW : Hid (w1 = _) := hw1
  obtain ⟨gR, hgR⟩ : ∃ gR, gR = w.heap.size + 1 + 1 := ⟨_, rfl⟩
  obtain ⟨gA, hgA⟩ : ∃ gA, gA = w.heap.size + 1 := ⟨_, rfl⟩
  rw [← hgR] at t2
  rw [← hgA] at tx
  have HT := hide t1
  have HR := hide t2
  have HA := hide tx
  have HB := hide t3
  have HG : Hid (w.heap.size ≤ gR) := by
    rw [hgR]
    show _ ≤ _
    omega
  have HGR := hide hgR
  have HGA := hide hgA
  clear t1 t2 t3 tx hw1 hgR hgA
  rw [← unhide HW]
  generalize hy : w.heap.size + 1 + 1 = gy at *
  generalize hx : w.heap.size + 1 = gx at *
  have hgx : gA = gx := unhide HGA
  have hgy : gR = gy := unhide HGR
  clear hx hy
  subst hgx hgy
  refine (unhide hPP w1 (unhide HB)).mono ?_
  rintro e w2 ⟨⟨v, vb, r, rfl, heq, hd2⟩, hpr⟩
  have hR2 := kt_keep ((unhide HTB).up (unhide HB)) hpr.kt (unhide HR) (by decide) (by decide)
  have hpr2 : PRes B b room tmo P R w w2 := ⟨hpr.ex, (KT.of_below (unhide HB)).trans' hpr.kt⟩
  have HF := hide (afin hpr2 hd2 hR2 (unhide HG))
  have HR2 := hide hR2
  have HEQ := hide heq
  have HOC : Hid ((#[.int .i64 room, .int .i64 tmo, v, vb] : Array Value).all (·.oneCell') = true) := by
    obtain ⟨av, cv, rfl⟩ := ownDe_shape hd2.oL
    obtain ⟨ab, cb, rfl⟩ := ownI_shape hd2.oB
    show _ = _
    simp [Value.oneCell']
  clear hpr hpr2 hd2 hR2 heq hPP HB HT HR HA HTB HH
  go_wp2_with (refine wpList_store_row_to rfl 29 (.tmp 6) (.tmp 99) rfl gR #[.int .i64 room, .int .i64 tmo, v, vb] rfl rfl 29 _ (unhide HR2) (by kernel_rfl) (by rfl) (unhide HOC) (fun w' => AFin B b room tmo P R w gR v vb L2 Bs w') (unhide HF) ?_)
  intro w6 h6
  have H6 := hide h6
  clear h6
  go_wp2
  exact ret_row2 (p := 6) (q := 7) (ty := 29) (by kernel_rfl) gR 29 _ (0, 0) _ _ rfl rfl (unhide H6).blk rfl Try.underlying29 (by kernel_rfl) ⟨⟨v, vb, r, rfl, unhide HEQ, (unhide H6).dt⟩, (unhide H6).pr⟩
set_option maxRecDepth 100000 in
set_option maxHeartbeats 4000000 in
theorem ado6_any (B b : Nat) (room tmo nd n qx qy : Int) (s : ByteArray) (on : Bool) (P : Nat → Option Nat) (R : (Nat → Option Nat) → (Nat → Pr) → (Nat → Bool) → Prop) (eq : Prop) (vL vB : Value) (L L2 : List Pr) (Bs : List Int) (w : World)
    (h : Dt B w vL vB L Bs) (hB : B ≤ w.heap.size)
    (hP : ∀ x, Below w.heap.size w x → Calls Try.prog 37 #[.pointer (some ⟨b, 0, none⟩), tabV room tmo vL vB, .agg #[.int .i64 6, .int .i64 nd, .int .i64 n, .int .i64 qx, .int .i64 qy, .string s, .bool on]] x fun e w' => ARes B b room tmo P R x eq L2 Bs e w')
    (hTb : ∃ C Bn, Tb B w b room tmo P C Bn) :
    Calls Try.prog 10 #[.pointer (some ⟨b, 0, none⟩), tabV room tmo vL vB, .agg #[.int .i64 6, .int .i64 nd, .int .i64 n, .int .i64 qx, .int .i64 qy, .string s, .bool on]] w fun e w' => ARes B b room tmo P R w eq L2 Bs e w' := by
  have hPP := hide hP
  obtain ⟨C, Bn, hTb⟩ := hTb
  have HTB := hide hTb
  clear hB hP hTb
  have hD := True.intro
  obtain ⟨a0, c0, rfl⟩ := ownDe_shape h.oL
  obtain ⟨a1, c1, rfl⟩ := ownI_shape h.oB
  have HH := hide h
  clear h
  obtain ⟨nb, hnb⟩ : ∃ nb, nb = Bs.length := ⟨_, rfl⟩
  obtain ⟨m, hm⟩ : ∃ m, m = L.length := ⟨_, rfl⟩
  rw [← hnb, ← hm] at HH hPP ⊢
  clear hnb hm
  go_enter Try.func10, Try.ntmps10
  go_wp2_with fail
  obtain ⟨w1, hw1⟩ : ∃ w1, w1 = ((w.alloc (.cells #[.int .i64 room, .int .i64 tmo, .slice a0 m c0, .slice a1 nb c1] 29)).alloc (.cells #[.int .i64 6, .int .i64 nd, .int .i64 n, .int .i64 qx, .int .i64 qy, .string s, .bool on] 33)).alloc (.cells #[.int .i64 0, .int .i64 0, .slice none 0 0, .slice none 0 0] 29) := ⟨_, rfl⟩
  obtain ⟨t1, tx, t2, t3⟩ := three_boxes w #[.int .i64 room, .int .i64 tmo, .slice a0 m c0, .slice a1 nb c1] #[.int .i64 6, .int .i64 nd, .int .i64 n, .int .i64 qx, .int .i64 qy, .string s, .bool on] #[.int .i64 0, .int .i64 0, .slice none 0 0, .slice none 0 0] 29 33 29
  rw [← hw1] at t1 tx t2 t3
  have HW : Hid (w1 = _) := hw1
  obtain ⟨gR, hgR⟩ : ∃ gR, gR = w.heap.size + 1 + 1 := ⟨_, rfl⟩
  obtain ⟨gA, hgA⟩ : ∃ gA, gA = w.heap.size + 1 := ⟨_, rfl⟩
  rw [← hgR] at t2
  rw [← hgA] at tx
  have HT := hide t1
  have HR := hide t2
  have HA := hide tx
  have HB := hide t3
  have HG : Hid (w.heap.size ≤ gR) := by
    rw [hgR]
    show _ ≤ _
    omega
  have HGR := hide hgR
  have HGA := hide hgA
  clear t1 t2 t3 tx hw1 hgR hgA
  rw [← unhide HW]
  generalize hy : w.heap.size + 1 + 1 = gy at *
  generalize hx : w.heap.size + 1 = gx at *
  have hgx : gA = gx := unhide HGA
  have hgy : gR = gy := unhide HGR
  clear hx hy
  subst hgx hgy
  refine (unhide hPP w1 (unhide HB)).mono ?_
  rintro e w2 ⟨⟨v, vb, r, rfl, heq, hd2⟩, hpr⟩
  have hR2 := kt_keep ((unhide HTB).up (unhide HB)) hpr.kt (unhide HR) (by decide) (by decide)
  have hpr2 : PRes B b room tmo P R w w2 := ⟨hpr.ex, (KT.of_below (unhide HB)).trans' hpr.kt⟩
  have HF := hide (afin hpr2 hd2 hR2 (unhide HG))
  have HR2 := hide hR2
  have HEQ := hide heq
  have HOC : Hid ((#[.int .i64 room, .int .i64 tmo, v, vb] : Array Value).all (·.oneCell') = true) := by
    obtain ⟨av, cv, rfl⟩ := ownDe_shape hd2.oL
    obtain ⟨ab, cb, rfl⟩ := ownI_shape hd2.oB
    show _ = _
    simp [Value.oneCell']
  clear hpr hpr2 hd2 hR2 heq hPP HB HT HR HA HTB HH
  go_wp2_with (refine wpList_store_row_to rfl 29 (.tmp 6) (.tmp 99) rfl gR #[.int .i64 room, .int .i64 tmo, v, vb] rfl rfl 29 _ (unhide HR2) (by kernel_rfl) (by rfl) (unhide HOC) (fun w' => AFin B b room tmo P R w gR v vb L2 Bs w') (unhide HF) ?_)
  intro w6 h6
  have H6 := hide h6
  clear h6
  go_wp2
  exact ret_row2 (p := 6) (q := 7) (ty := 29) (by kernel_rfl) gR 29 _ (0, 0) _ _ rfl rfl (unhide H6).blk rfl Try.underlying29 (by kernel_rfl) ⟨⟨v, vb, r, rfl, unhide HEQ, (unhide H6).dt⟩, (unhide H6).pr⟩
set_option maxRecDepth 100000 in
set_option maxHeartbeats 4000000 in
theorem ado7_any (B b : Nat) (room tmo nd n qx qy : Int) (s : ByteArray) (on : Bool) (P : Nat → Option Nat) (R : (Nat → Option Nat) → (Nat → Pr) → (Nat → Bool) → Prop) (eq : Prop) (vL vB : Value) (L L2 : List Pr) (Bs : List Int) (w : World)
    (h : Dt B w vL vB L Bs) (hB : B ≤ w.heap.size)
    (hP : ∀ x, Below w.heap.size w x → Calls Try.prog 37 #[.pointer (some ⟨b, 0, none⟩), tabV room tmo vL vB, .agg #[.int .i64 7, .int .i64 nd, .int .i64 n, .int .i64 qx, .int .i64 qy, .string s, .bool on]] x fun e w' => ARes B b room tmo P R x eq L2 Bs e w')
    (hTb : ∃ C Bn, Tb B w b room tmo P C Bn) :
    Calls Try.prog 10 #[.pointer (some ⟨b, 0, none⟩), tabV room tmo vL vB, .agg #[.int .i64 7, .int .i64 nd, .int .i64 n, .int .i64 qx, .int .i64 qy, .string s, .bool on]] w fun e w' => ARes B b room tmo P R w eq L2 Bs e w' := by
  have hPP := hide hP
  obtain ⟨C, Bn, hTb⟩ := hTb
  have HTB := hide hTb
  clear hB hP hTb
  have hD := True.intro
  obtain ⟨a0, c0, rfl⟩ := ownDe_shape h.oL
  obtain ⟨a1, c1, rfl⟩ := ownI_shape h.oB
  have HH := hide h
  clear h
  obtain ⟨nb, hnb⟩ : ∃ nb, nb = Bs.length := ⟨_, rfl⟩
  obtain ⟨m, hm⟩ : ∃ m, m = L.length := ⟨_, rfl⟩
  rw [← hnb, ← hm] at HH hPP ⊢
  clear hnb hm
  go_enter Try.func10, Try.ntmps10
  go_wp2_with fail
  obtain ⟨w1, hw1⟩ : ∃ w1, w1 = ((w.alloc (.cells #[.int .i64 room, .int .i64 tmo, .slice a0 m c0, .slice a1 nb c1] 29)).alloc (.cells #[.int .i64 7, .int .i64 nd, .int .i64 n, .int .i64 qx, .int .i64 qy, .string s, .bool on] 33)).alloc (.cells #[.int .i64 0, .int .i64 0, .slice none 0 0, .slice none 0 0] 29) := ⟨_, rfl⟩
  obtain ⟨t1, tx, t2, t3⟩ := three_boxes w #[.int .i64 room, .int .i64 tmo, .slice a0 m c0, .slice a1 nb c1] #[.int .i64 7, .int .i64 nd, .int .i64 n, .int .i64 qx, .int .i64 qy, .string s, .bool on] #[.int .i64 0, .int .i64 0, .slice none 0 0, .slice none 0 0] 29 33 29
  rw [← hw1] at t1 tx t2 t3
  have HW : Hid (w1 = _) := hw1
  obtain ⟨gR, hgR⟩ : ∃ gR, gR = w.heap.size + 1 + 1 := ⟨_, rfl⟩
  obtain ⟨gA, hgA⟩ : ∃ gA, gA = w.heap.size + 1 := ⟨_, rfl⟩
  rw [← hgR] at t2
  rw [← hgA] at tx
  have HT := hide t1
  have HR := hide t2
  have HA := hide tx
  have HB := hide t3
  have HG : Hid (w.heap.size ≤ gR) := by
    rw [hgR]
    show _ ≤ _
    omega
  have HGR := hide hgR
  have HGA := hide hgA
  clear t1 t2 t3 tx hw1 hgR hgA
  rw [← unhide HW]
  generalize hy : w.heap.size + 1 + 1 = gy at *
  generalize hx : w.heap.size + 1 = gx at *
  have hgx : gA = gx := unhide HGA
  have hgy : gR = gy := unhide HGR
  clear hx hy
  subst hgx hgy
  refine (unhide hPP w1 (unhide HB)).mono ?_
  rintro e w2 ⟨⟨v, vb, r, rfl, heq, hd2⟩, hpr⟩
  have hR2 := kt_keep ((unhide HTB).up (unhide HB)) hpr.kt (unhide HR) (by decide) (by decide)
  have hpr2 : PRes B b room tmo P R w w2 := ⟨hpr.ex, (KT.of_below (unhide HB)).trans' hpr.kt⟩
  have HF := hide (afin hpr2 hd2 hR2 (unhide HG))
  have HR2 := hide hR2
  have HEQ := hide heq
  have HOC : Hid ((#[.int .i64 room, .int .i64 tmo, v, vb] : Array Value).all (·.oneCell') = true) := by
    obtain ⟨av, cv, rfl⟩ := ownDe_shape hd2.oL
    obtain ⟨ab, cb, rfl⟩ := ownI_shape hd2.oB
    show _ = _
    simp [Value.oneCell']
  clear hpr hpr2 hd2 hR2 heq hPP HB HT HR HA HTB HH
  go_wp2_with (refine wpList_store_row_to rfl 29 (.tmp 6) (.tmp 99) rfl gR #[.int .i64 room, .int .i64 tmo, v, vb] rfl rfl 29 _ (unhide HR2) (by kernel_rfl) (by rfl) (unhide HOC) (fun w' => AFin B b room tmo P R w gR v vb L2 Bs w') (unhide HF) ?_)
  intro w6 h6
  have H6 := hide h6
  clear h6
  go_wp2
  exact ret_row2 (p := 6) (q := 7) (ty := 29) (by kernel_rfl) gR 29 _ (0, 0) _ _ rfl rfl (unhide H6).blk rfl Try.underlying29 (by kernel_rfl) ⟨⟨v, vb, r, rfl, unhide HEQ, (unhide H6).dt⟩, (unhide H6).pr⟩
set_option maxRecDepth 100000 in
set_option maxHeartbeats 4000000 in
theorem ado8_any (B b : Nat) (room tmo nd n qx qy : Int) (s : ByteArray) (on : Bool) (P : Nat → Option Nat) (R : (Nat → Option Nat) → (Nat → Pr) → (Nat → Bool) → Prop) (eq : Prop) (vL vB : Value) (L L2 : List Pr) (Bs : List Int) (w : World)
    (h : Dt B w vL vB L Bs) (hB : B ≤ w.heap.size)
    (hP : ∀ x, Below w.heap.size w x → Calls Try.prog 37 #[.pointer (some ⟨b, 0, none⟩), tabV room tmo vL vB, .agg #[.int .i64 8, .int .i64 nd, .int .i64 n, .int .i64 qx, .int .i64 qy, .string s, .bool on]] x fun e w' => ARes B b room tmo P R x eq L2 Bs e w')
    (hTb : ∃ C Bn, Tb B w b room tmo P C Bn) :
    Calls Try.prog 10 #[.pointer (some ⟨b, 0, none⟩), tabV room tmo vL vB, .agg #[.int .i64 8, .int .i64 nd, .int .i64 n, .int .i64 qx, .int .i64 qy, .string s, .bool on]] w fun e w' => ARes B b room tmo P R w eq L2 Bs e w' := by
  have hPP := hide hP
  obtain ⟨C, Bn, hTb⟩ := hTb
  have HTB := hide hTb
  clear hB hP hTb
  have hD := True.intro
  obtain ⟨a0, c0, rfl⟩ := ownDe_shape h.oL
  obtain ⟨a1, c1, rfl⟩ := ownI_shape h.oB
  have HH := hide h
  clear h
  obtain ⟨nb, hnb⟩ : ∃ nb, nb = Bs.length := ⟨_, rfl⟩
  obtain ⟨m, hm⟩ : ∃ m, m = L.length := ⟨_, rfl⟩
  rw [← hnb, ← hm] at HH hPP ⊢
  clear hnb hm
  go_enter Try.func10, Try.ntmps10
  go_wp2_with fail
  obtain ⟨w1, hw1⟩ : ∃ w1, w1 = ((w.alloc (.cells #[.int .i64 room, .int .i64 tmo, .slice a0 m c0, .slice a1 nb c1] 29)).alloc (.cells #[.int .i64 8, .int .i64 nd, .int .i64 n, .int .i64 qx, .int .i64 qy, .string s, .bool on] 33)).alloc (.cells #[.int .i64 0, .int .i64 0, .slice none 0 0, .slice none 0 0] 29) := ⟨_, rfl⟩
  obtain ⟨t1, tx, t2, t3⟩ := three_boxes w #[.int .i64 room, .int .i64 tmo, .slice a0 m c0, .slice a1 nb c1] #[.int .i64 8, .int .i64 nd, .int .i64 n, .int .i64 qx, .int .i64 qy, .string s, .bool on] #[.int .i64 0, .int .i64 0, .slice none 0 0, .slice none 0 0] 29 33 29
  rw [← hw1] at t1 tx t2 t3
  have HW : Hid (w1 = _) := hw1
  obtain ⟨gR, hgR⟩ : ∃ gR, gR = w.heap.size + 1 + 1 := ⟨_, rfl⟩
  obtain ⟨gA, hgA⟩ : ∃ gA, gA = w.heap.size + 1 := ⟨_, rfl⟩
  rw [← hgR] at t2
  rw [← hgA] at tx
  have HT := hide t1
  have HR := hide t2
  have HA := hide tx
  have HB := hide t3
  have HG : Hid (w.heap.size ≤ gR) := by
    rw [hgR]
    show _ ≤ _
    omega
  have HGR := hide hgR
  have HGA := hide hgA
  clear t1 t2 t3 tx hw1 hgR hgA
  rw [← unhide HW]
  generalize hy : w.heap.size + 1 + 1 = gy at *
  generalize hx : w.heap.size + 1 = gx at *
  have hgx : gA = gx := unhide HGA
  have hgy : gR = gy := unhide HGR
  clear hx hy
  subst hgx hgy
  refine (unhide hPP w1 (unhide HB)).mono ?_
  rintro e w2 ⟨⟨v, vb, r, rfl, heq, hd2⟩, hpr⟩
  have hR2 := kt_keep ((unhide HTB).up (unhide HB)) hpr.kt (unhide HR) (by decide) (by decide)
  have hpr2 : PRes B b room tmo P R w w2 := ⟨hpr.ex, (KT.of_below (unhide HB)).trans' hpr.kt⟩
  have HF := hide (afin hpr2 hd2 hR2 (unhide HG))
  have HR2 := hide hR2
  have HEQ := hide heq
  have HOC : Hid ((#[.int .i64 room, .int .i64 tmo, v, vb] : Array Value).all (·.oneCell') = true) := by
    obtain ⟨av, cv, rfl⟩ := ownDe_shape hd2.oL
    obtain ⟨ab, cb, rfl⟩ := ownI_shape hd2.oB
    show _ = _
    simp [Value.oneCell']
  clear hpr hpr2 hd2 hR2 heq hPP HB HT HR HA HTB HH
  go_wp2_with (refine wpList_store_row_to rfl 29 (.tmp 6) (.tmp 99) rfl gR #[.int .i64 room, .int .i64 tmo, v, vb] rfl rfl 29 _ (unhide HR2) (by kernel_rfl) (by rfl) (unhide HOC) (fun w' => AFin B b room tmo P R w gR v vb L2 Bs w') (unhide HF) ?_)
  intro w6 h6
  have H6 := hide h6
  clear h6
  go_wp2
  exact ret_row2 (p := 6) (q := 7) (ty := 29) (by kernel_rfl) gR 29 _ (0, 0) _ _ rfl rfl (unhide H6).blk rfl Try.underlying29 (by kernel_rfl) ⟨⟨v, vb, r, rfl, unhide HEQ, (unhide H6).dt⟩, (unhide H6).pr⟩
set_option maxRecDepth 100000 in
set_option maxHeartbeats 4000000 in
theorem ado9_any (B b : Nat) (room tmo nd n qx qy : Int) (s : ByteArray) (on : Bool) (P : Nat → Option Nat) (R : (Nat → Option Nat) → (Nat → Pr) → (Nat → Bool) → Prop) (eq : Prop) (vL vB : Value) (L L2 : List Pr) (Bs : List Int) (w : World)
    (h : Dt B w vL vB L Bs) (hB : B ≤ w.heap.size)
    (hP : ∀ x, Below w.heap.size w x → Calls Try.prog 37 #[.pointer (some ⟨b, 0, none⟩), tabV room tmo vL vB, .agg #[.int .i64 9, .int .i64 nd, .int .i64 n, .int .i64 qx, .int .i64 qy, .string s, .bool on]] x fun e w' => ARes B b room tmo P R x eq L2 Bs e w')
    (hTb : ∃ C Bn, Tb B w b room tmo P C Bn) :
    Calls Try.prog 10 #[.pointer (some ⟨b, 0, none⟩), tabV room tmo vL vB, .agg #[.int .i64 9, .int .i64 nd, .int .i64 n, .int .i64 qx, .int .i64 qy, .string s, .bool on]] w fun e w' => ARes B b room tmo P R w eq L2 Bs e w' := by
  have hPP := hide hP
  obtain ⟨C, Bn, hTb⟩ := hTb
  have HTB := hide hTb
  clear hB hP hTb
  have hD := True.intro
  obtain ⟨a0, c0, rfl⟩ := ownDe_shape h.oL
  obtain ⟨a1, c1, rfl⟩ := ownI_shape h.oB
  have HH := hide h
  clear h
  obtain ⟨nb, hnb⟩ : ∃ nb, nb = Bs.length := ⟨_, rfl⟩
  obtain ⟨m, hm⟩ : ∃ m, m = L.length := ⟨_, rfl⟩
  rw [← hnb, ← hm] at HH hPP ⊢
  clear hnb hm
  go_enter Try.func10, Try.ntmps10
  go_wp2_with fail
  obtain ⟨w1, hw1⟩ : ∃ w1, w1 = ((w.alloc (.cells #[.int .i64 room, .int .i64 tmo, .slice a0 m c0, .slice a1 nb c1] 29)).alloc (.cells #[.int .i64 9, .int .i64 nd, .int .i64 n, .int .i64 qx, .int .i64 qy, .string s, .bool on] 33)).alloc (.cells #[.int .i64 0, .int .i64 0, .slice none 0 0, .slice none 0 0] 29) := ⟨_, rfl⟩
  obtain ⟨t1, tx, t2, t3⟩ := three_boxes w #[.int .i64 room, .int .i64 tmo, .slice a0 m c0, .slice a1 nb c1] #[.int .i64 9, .int .i64 nd, .int .i64 n, .int .i64 qx, .int .i64 qy, .string s, .bool on] #[.int .i64 0, .int .i64 0, .slice none 0 0, .slice none 0 0] 29 33 29
  rw [← hw1] at t1 tx t2 t3
  have HW : Hid (w1 = _) := hw1
  obtain ⟨gR, hgR⟩ : ∃ gR, gR = w.heap.size + 1 + 1 := ⟨_, rfl⟩
  obtain ⟨gA, hgA⟩ : ∃ gA, gA = w.heap.size + 1 := ⟨_, rfl⟩
  rw [← hgR] at t2
  rw [← hgA] at tx
  have HT := hide t1
  have HR := hide t2
  have HA := hide tx
  have HB := hide t3
  have HG : Hid (w.heap.size ≤ gR) := by
    rw [hgR]
    show _ ≤ _
    omega
  have HGR := hide hgR
  have HGA := hide hgA
  clear t1 t2 t3 tx hw1 hgR hgA
  rw [← unhide HW]
  generalize hy : w.heap.size + 1 + 1 = gy at *
  generalize hx : w.heap.size + 1 = gx at *
  have hgx : gA = gx := unhide HGA
  have hgy : gR = gy := unhide HGR
  clear hx hy
  subst hgx hgy
  refine (unhide hPP w1 (unhide HB)).mono ?_
  rintro e w2 ⟨⟨v, vb, r, rfl, heq, hd2⟩, hpr⟩
  have hR2 := kt_keep ((unhide HTB).up (unhide HB)) hpr.kt (unhide HR) (by decide) (by decide)
  have hpr2 : PRes B b room tmo P R w w2 := ⟨hpr.ex, (KT.of_below (unhide HB)).trans' hpr.kt⟩
  have HF := hide (afin hpr2 hd2 hR2 (unhide HG))
  have HR2 := hide hR2
  have HEQ := hide heq
  have HOC : Hid ((#[.int .i64 room, .int .i64 tmo, v, vb] : Array Value).all (·.oneCell') = true) := by
    obtain ⟨av, cv, rfl⟩ := ownDe_shape hd2.oL
    obtain ⟨ab, cb, rfl⟩ := ownI_shape hd2.oB
    show _ = _
    simp [Value.oneCell']
  clear hpr hpr2 hd2 hR2 heq hPP HB HT HR HA HTB HH
  go_wp2_with (refine wpList_store_row_to rfl 29 (.tmp 6) (.tmp 99) rfl gR #[.int .i64 room, .int .i64 tmo, v, vb] rfl rfl 29 _ (unhide HR2) (by kernel_rfl) (by rfl) (unhide HOC) (fun w' => AFin B b room tmo P R w gR v vb L2 Bs w') (unhide HF) ?_)
  intro w6 h6
  have H6 := hide h6
  clear h6
  go_wp2
  exact ret_row2 (p := 6) (q := 7) (ty := 29) (by kernel_rfl) gR 29 _ (0, 0) _ _ rfl rfl (unhide H6).blk rfl Try.underlying29 (by kernel_rfl) ⟨⟨v, vb, r, rfl, unhide HEQ, (unhide H6).dt⟩, (unhide H6).pr⟩
end Go.Proofs.Ytbfakbooenmhoaa

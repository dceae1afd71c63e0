/- peers: an act on both tables: kind 0. peers: an act on both tables: kind 2. peers: an act on both tables: kind 3. peers: an act on both tables: kind R. -/
import Derived.Test.YtbfakbooenmhoaaQeA
import Derived.Test.YtbfakbooenmhoaaZdI
import Derived.Test.YtbfakbooenmhoaaQdIE
import Derived.Test.YtbfakbooenmhoaaQeCS
namespace Go.Proofs.Ytbfakbooenmhoaa
open Go.RowKit
set_option linter.unusedVariables false
attribute [local go_sem] Oper.semAt_some

/-- classes of the operations of Meet's region -/
def clsB (i : Nat) : Nat := if i = 8 ∨ i = 9 then 0 else if i = 10 then 1 else if i = 11 ∨ i = 14 then 2 else 3
theorem ref17_any (x y : Int) (w : World) : Calls Try.prog 31 #[.agg #[.int .i64 x, .int .i64 y]] w fun e w' => e = .returned (.agg #[.int .i64 x, .int .i64 y]) ∧ Below w.heap.size w w' := by
  go_enter Try.func31, Try.ntmps31
  go_wp2
  obtain ⟨_, h2, h3⟩ := two_boxes w #[.int .i64 x, .int .i64 y] #[.int .i64 x, .int .i64 y] 31 41
  exact ret_cell (p := 2) (ty := 41) (by kernel_rfl) (w.heap.size + 1) 41 _ (0, 0) _ rfl h2 rfl Try.underlying41 (by kernel_rfl) ⟨rfl, h3⟩
theorem dmeet_any (B : Nat) (room tmo n x y t : Int) (vL vB : Value) (L : List Pr) (Bs : List Int) (w : World) (h : Dt B w vL vB L Bs) (hB : B ≤ w.heap.size) (hrm : room ≤ 15) :
    Calls Try.prog 30 #[tabV room tmo vL vB, .int .i64 n, .agg #[.int .i64 x, .int .i64 y], .int .i64 t] w fun e w' => ∃ v vb, e = .returned (.tuple #[tabV room tmo v vb, .int .i64 (meE n x y t room L Bs)]) ∧ Dt B w' v vb (meL n x y t room L Bs) Bs ∧ Below w.heap.size w w' := by
  unfold meL
  by_cases hA : isPr n = true ∧ isPl x y = true ∧ isTm t = true
  · obtain ⟨h1, h2, h3⟩ := hA
    have hE : meE n x y t room L Bs = if hasI Bs n = true then 10 else if 0 ≤ fnd L n then 5 else if room ≤ L.length then 6 else 0 := if_neg (fun h => h ⟨h1, h2, h3⟩)
    cases hs : hasI Bs n with
    | true =>
      rw [hs, if_pos rfl] at hE
      rw [hE, if_neg (by decide)]
      exact dmeet_ban B room tmo n x y t vL vB L Bs w h hB h1 h2 h3 hs
    | false =>
      rw [hs, if_neg (by decide)] at hE
      rcases fnd_inv (L := L) (n := n) with hf | ⟨i, c, hf, _, _⟩
      · rw [hf, if_neg (by decide)] at hE
        by_cases hr : room ≤ (L.length : Int)
        · rw [if_pos hr] at hE
          rw [hE, if_neg (by decide)]
          exact dmeet_full B room tmo n x y t vL vB L Bs w h hB h1 h2 h3 hs hf hr
        · rw [if_neg hr] at hE
          rw [hE, if_pos rfl]
          exact dmeet_ok B room tmo n x y t vL vB L Bs w h hB h1 h2 h3 hs hf hr hrm
      · rw [hf, if_pos (by omega)] at hE
        rw [hE, if_neg (by decide)]
        exact dmeet_there B room tmo n x y t vL vB L Bs w h hB h1 h2 h3 hs i hf
  · have hE : meE n x y t room L Bs = 1 := if_pos hA
    rw [hE, if_neg (by decide)]
    cases h1 : isPr n with
    | false => exact dmeet_b1 B room tmo n x y t vL vB L Bs w h hB h1
    | true =>
      cases h2 : isPl x y with
      | false => exact dmeet_b2 B room tmo n x y t vL vB L Bs w h hB h1 h2
      | true =>
        cases h3 : isTm t with
        | false => exact dmeet_b3 B room tmo n x y t vL vB L Bs w h hB h1 h2 h3
        | true => exact absurd ⟨h1, h2, h3⟩ hA
set_option maxRecDepth 100000 in
set_option maxHeartbeats 8000000 in
theorem ado0_any (B b : Nat) (room tmo nd n qx qy : Int) (s : ByteArray) (on : Bool) (eP : Int) (P : Nat → Option Nat) (C : Nat → Pr) (Bn : Nat → Bool) (R : (Nat → Option Nat) → (Nat → Pr) → (Nat → Bool) → Prop) (vL vB : Value) (L : List Pr) (Bs : List Int) (w : World)
    (hTb : Tb B w b room tmo P C Bn) (h : Dt B w vL vB L Bs) (hB : B ≤ w.heap.size) (hrm : room ≤ 15)
    (hP : ∀ x, Tb B x b room tmo P C Bn → Calls Try.prog 18 #[.pointer (some ⟨b, 0, none⟩), .int .i64 nd, .agg #[.int .i64 qx, .int .i64 qy], .int .i64 n] x fun e x' => e = .returned (.int .i64 eP) ∧ PRes B b room tmo P R x x') :
    Calls Try.prog 10 #[.pointer (some ⟨b, 0, none⟩), tabV room tmo vL vB, .agg #[.int .i64 0, .int .i64 nd, .int .i64 n, .int .i64 qx, .int .i64 qy, .string s, .bool on]] w fun e w' => ARes B b room tmo P R w (eP = meE nd qx qy n room L Bs) (meL nd qx qy n room L Bs) Bs e w' := by
  have HBW := hide hB
  have HTB := hide hTb
  have hPP := hide hP
  have hD := hide (fun x hx hb => dmeet_any B room tmo nd qx qy n vL vB L Bs x hx hb hrm)
  clear hB hTb hP
  obtain ⟨a0, c0, rfl⟩ := ownDe_shape h.oL
  obtain ⟨a1, c1, rfl⟩ := ownI_shape h.oB
  have HH := hide h
  clear h
  obtain ⟨nb, hnb⟩ : ∃ nb, nb = Bs.length := ⟨_, rfl⟩
  obtain ⟨m, hm⟩ : ∃ m, m = L.length := ⟨_, rfl⟩
  rw [← hnb, ← hm] at HH hD ⊢
  clear hnb hm
  obtain ⟨ll, hll⟩ : ∃ ll, ll = meL nd qx qy n room L Bs := ⟨_, rfl⟩
  obtain ⟨eD, heD⟩ : ∃ eD, eD = meE nd qx qy n room L Bs := ⟨_, rfl⟩
  rw [← hll, ← heD] at hD ⊢
  clear hll heD
  go_enter Try.func10, Try.ntmps10
  go_wp2_with fail
  obtain ⟨w1, hw1⟩ : ∃ w1, w1 = ((w.alloc (.cells #[.int .i64 room, .int .i64 tmo, .slice a0 m c0, .slice a1 nb c1] 29)).alloc (.cells #[.int .i64 0, .int .i64 nd, .int .i64 n, .int .i64 qx, .int .i64 qy, .string s, .bool on] 33)).alloc (.cells #[.int .i64 0, .int .i64 0, .slice none 0 0, .slice none 0 0] 29) := ⟨_, rfl⟩
  obtain ⟨t1, tx, t2, t3⟩ := three_boxes w #[.int .i64 room, .int .i64 tmo, .slice a0 m c0, .slice a1 nb c1] #[.int .i64 0, .int .i64 nd, .int .i64 n, .int .i64 qx, .int .i64 qy, .string s, .bool on] #[.int .i64 0, .int .i64 0, .slice none 0 0, .slice none 0 0] 29 33 29
  rw [← hw1] at t1 tx t2 t3
  have HW : Hid (w1 = _) := hw1
  obtain ⟨gR, hgR⟩ : ∃ gR, gR = w.heap.size + 1 + 1 := ⟨_, rfl⟩
  obtain ⟨gA, hgA⟩ : ∃ gA, gA = w.heap.size + 1 := ⟨_, rfl⟩
  rw [← hgR] at t2
  rw [← hgA] at tx
  have HT := hide t1
  have HR := hide t2
  have HA := hide tx
  have HB := hide t3
  have HG : Hid (w.heap.size ≤ gR) := by
    rw [hgR]
    show _ ≤ _
    omega
  have HGR := hide hgR
  have HGA := hide hgA
  clear t1 t2 t3 tx hw1 hgR hgA
  rw [← unhide HW]
  generalize hy : w.heap.size + 1 + 1 = gy at *
  generalize hx : w.heap.size + 1 = gx at *
  have hgx : gA = gx := unhide HGA
  have hgy : gR = gy := unhide HGR
  clear hx hy
  subst hgx hgy
  have hNU := hide (fun x => ref17_any qx qy x)
  obtain ⟨b0, b1, b2, b3⟩ := four_cells (unhide HT)
  have hxA := unhide HA
  have a1' : w1.cell? ⟨gA, 1, none⟩ = some (.int .i64 nd) := by simp [World.cell?, hxA]
  have a2' : w1.cell? ⟨gA, 2, none⟩ = some (.int .i64 n) := by simp [World.cell?, hxA]
  have a3' : w1.cell? ⟨gA, 3, none⟩ = some (.int .i64 qx) := by simp [World.cell?, hxA]
  have a4' : w1.cell? ⟨gA, 4, none⟩ = some (.int .i64 qy) := by simp [World.cell?, hxA]
  clear hxA
  refine wp_region_rst [false, false, false, false, false, false, false, false, true, true, true, true, true, true, true] [] [] [27, 18, 28, 29, 8, 9] _ ?A9 (Fz B room tmo ll Bs w1.heap.size) (fun i v x => RA B room tmo eD ll Bs w1.heap.size (clsB i) v x) (fun i b x => i = 13 → TA B room tmo ll Bs w1.heap.size 8 b x) (by kernel_rfl) (by kernel_rfl) (fun x y z h1 h2 => h1.trans h2) (fun x y h => Fz.of_below h) (fun j v x y h hf => h.stay hf) ?hT1 ?hT2 (Off.refl _ _) (by simp) ?lex (by simp) ?st ?fin
  case hT1 =>
    intro j bq x y h hf e
    obtain ⟨g, h1, h2, h3⟩ := h e
    exact ⟨g, h1, h2, h3.stay hf⟩
  case hT2 =>
    intro j o ho bq bq' x hop h e
    subst e
    simp only [List.getElem?_cons_succ, List.getElem?_cons_zero, Option.some.injEq] at ho
    subst ho
    obtain ⟨g, h1, h2⟩ := h rfl
    exact ⟨g, (hop 8 (by simp [Op.operands])).trans h1, h2⟩
  case lex =>
    intro z hz
    have hneX := gb_ne z
    have hlo := hz.low (Nat.le_refl _)
    have e0 : ∀ y : Gb z, y.w.cell? ⟨w.heap.size, 0, none⟩ = some (.int .i64 room) := fun y => gb_cell (cell_below b0 hlo) y
    have e1 : ∀ y : Gb z, y.w.cell? ⟨w.heap.size, 1, none⟩ = some (.int .i64 tmo) := fun y => gb_cell (cell_below b1 hlo) y
    have e2 : ∀ y : Gb z, y.w.cell? ⟨w.heap.size, 2, none⟩ = some (.slice a0 m c0) := fun y => gb_cell (cell_below b2 hlo) y
    have e3 : ∀ y : Gb z, y.w.cell? ⟨w.heap.size, 3, none⟩ = some (.slice a1 nb c1) := fun y => gb_cell (cell_below b3 hlo) y
    have e4 : ∀ y : Gb z, y.w.cell? ⟨gA, 1, none⟩ = some (.int .i64 nd) := fun y => gb_cell (cell_below a1' hlo) y
    have e5 : ∀ y : Gb z, y.w.cell? ⟨gA, 2, none⟩ = some (.int .i64 n) := fun y => gb_cell (cell_below a2' hlo) y
    have e6 : ∀ y : Gb z, y.w.cell? ⟨gA, 3, none⟩ = some (.int .i64 qx) := fun y => gb_cell (cell_below a3' hlo) y
    have e7 : ∀ y : Gb z, y.w.cell? ⟨gA, 4, none⟩ = some (.int .i64 qy) := fun y => gb_cell (cell_below a4' hlo) y
    clear hlo
    dsimp only [restM]
    repeat (go_big_quiet_step ((go_at_call 31; exact gb_call (unhide hNU _))))
    refine wpQuiet_nil ?_
    exact rfl
  case st =>
    intro j o ho hmj z bq hz hop
    have hj : j ∈ [8, 9, 10, 11, 12, 13, 14] := mask_in hmj
    simp only [List.mem_cons, List.not_mem_nil, or_false] at hj
    rcases hj with rfl | rfl | rfl | rfl | rfl | rfl | rfl
    all_goals
      simp only [List.getElem?_cons_succ, List.getElem?_cons_zero, Option.some.injEq] at ho
      subst ho
    · have y0 : bq.eval (.tmp 19) = .agg #[.int .i64 room, .int .i64 tmo, .slice a0 m c0, .slice a1 nb c1] := hop 19 (by simp [Op.operands, Call.operands])
      have y1 : bq.eval (.tmp 21) = .int .i64 nd := hop 21 (by simp [Op.operands, Call.operands])
      have y2 : bq.eval (.tmp 24) = .agg #[.int .i64 qx, .int .i64 qy] := hop 24 (by simp [Op.operands, Call.operands])
      have y3 : bq.eval (.tmp 26) = .int .i64 n := hop 26 (by simp [Op.operands, Call.operands])
      refine wp_call 30 #[.tmp 19, .tmp 21, .tmp 24, .tmp 26] _ rfl Try.call30 #[.agg #[.int .i64 room, .int .i64 tmo, .slice a0 m c0, .slice a1 nb c1], .int .i64 nd, .agg #[.int .i64 qx, .int .i64 qy], .int .i64 n] (by simp [y0, y1, y2, y3]) (unhide hD z (hz.dt ((unhide HH).up (unhide HB))) (Nat.le_trans (unhide HBW) (Nat.le_trans (unhide HB).size hz.size))) ?_
      rintro e w7 ⟨v, vb, rfl, hd7, b7⟩
      exact ⟨_, rfl, _, rfl, fun _ => ⟨v, vb, rfl, hd7⟩, fun h => (by cases h), Fz.of_below b7⟩
    · obtain ⟨v1, vb, y0, hd⟩ : ∃ v1 vb, bq.eval (.tmp 27) = .tuple #[tabV room tmo v1 vb, .int .i64 eD] ∧ Dt B z v1 vb ll Bs := hop 27 (by simp [Op.operands])
      refine Oper.wp_mono ?_ (?_ : Oper.wp _ _ _ _ (fun b' w' => b' = bq.put (some 18) (.tuple #[tabV room tmo v1 vb, .int .i64 eD]) ∧ w' = z) _)
      · rintro b' w' ⟨rfl, rfl⟩
        exact ⟨_, rfl, fun _ => ⟨v1, vb, rfl, hd⟩, fun h => (by cases h), Fz.of_below (Below.refl _ _)⟩
      · have y0' : bq.tmps[27]?.getD undef = .tuple #[tabV room tmo v1 vb, .int .i64 eD] := by simpa [Act.eval] using y0
        go_simp
    · obtain ⟨v1, vb, y0, hd⟩ : ∃ v1 vb, bq.eval (.tmp 18) = .tuple #[tabV room tmo v1 vb, .int .i64 eD] ∧ Dt B z v1 vb ll Bs := hop 18 (by simp [Op.operands])
      refine Oper.wp_mono ?_ (?_ : Oper.wp _ _ _ _ (fun b' w' => b' = bq.put (some 28) (tabV room tmo v1 vb) ∧ w' = z) _)
      · rintro b' w' ⟨rfl, rfl⟩
        exact ⟨_, rfl, fun _ => ⟨v1, vb, rfl, hd⟩, fun h => (by cases h), Fz.of_below (Below.refl _ _)⟩
      · have y0' : bq.tmps[18]?.getD undef = .tuple #[tabV room tmo v1 vb, .int .i64 eD] := by simpa [Act.eval] using y0
        go_simp
    · obtain ⟨v1, vb, y0, hd⟩ : ∃ v1 vb, bq.eval (.tmp 18) = .tuple #[tabV room tmo v1 vb, .int .i64 eD] ∧ Dt B z v1 vb ll Bs := hop 18 (by simp [Op.operands])
      refine Oper.wp_mono ?_ (?_ : Oper.wp _ _ _ _ (fun b' w' => b' = bq.put (some 29) (.int .i64 eD) ∧ w' = z) _)
      · rintro b' w' ⟨rfl, rfl⟩
        exact ⟨_, rfl, fun _ => rfl, fun h => (by cases h), Fz.of_below (Below.refl _ _)⟩
      · have y0' : bq.tmps[18]?.getD undef = .tuple #[tabV room tmo v1 vb, .int .i64 eD] := by simpa [Act.eval] using y0
        go_simp
    · refine Oper.wp_mono ?_ (?_ : Oper.wp _ _ _ _ (fun b' w' => b' = bq.put (some 8) (.pointer (some ⟨z.heap.size, 0, none⟩)) ∧ w' = z.alloc (.cells zT 29)) _)
      · rintro b' w' ⟨rfl, rfl⟩
        exact ⟨_, rfl, fun _ => ⟨_, rfl, hz.size, _, heap_alloc_new z _, rfl⟩, fun h => (by cases h), fz_alloc _⟩
      · go_simp
    · obtain ⟨g, y0, hm, hzb⟩ : ∃ g, bq.eval (.tmp 8) = .pointer (some ⟨g, 0, none⟩) ∧ w1.heap.size ≤ g ∧ Zb z g := hop 8 (by simp [Op.operands])
      obtain ⟨v1, vb, y1, hd⟩ : ∃ v1 vb, bq.eval (.tmp 28) = tabV room tmo v1 vb ∧ Dt B z v1 vb ll Bs := hop 28 (by simp [Op.operands])
      obtain ⟨cs, hc, hcs⟩ := hzb
      have hst := fz_store (room := room) (tmo := tmo) hm ⟨cs, hc, hcs⟩ hd
      have hoc : (#[.int .i64 room, .int .i64 tmo, v1, vb] : Array Value).all (·.oneCell') = true := by
        obtain ⟨av, cv, rfl⟩ := ownDe_shape hd.oL
        obtain ⟨ab, cb, rfl⟩ := ownI_shape hd.oB
        simp [Value.oneCell']
      refine wp_store_row 29 (.tmp 8) (.tmp 28) rfl g #[.int .i64 room, .int .i64 tmo, v1, vb] y0 y1 29 cs hc (by kernel_rfl) hcs hoc ?_
      exact ⟨undef, rfl, fun h => absurd rfl h, fun _ _ => ⟨g, y0, hm, hst.2⟩, hst.1⟩
    · have y0 : bq.eval (.tmp 29) = .int .i64 eD := hop 29 (by simp [Op.operands])
      refine Oper.wp_mono ?_ (?_ : Oper.wp _ _ _ _ (fun b' w' => b' = bq.put (some 9) (.int .i64 eD) ∧ w' = z) _)
      · rintro b' w' ⟨rfl, rfl⟩
        exact ⟨_, rfl, fun _ => rfl, fun h => (by cases h), Fz.of_below (Below.refl _ _)⟩
      · have y0' : bq.tmps[29]?.getD undef = .int .i64 eD := by simpa [Act.eval] using y0
        go_simp
  case fin =>
    intro bq z hz hoff hrel hT
    obtain ⟨g8, yg, hm8, hgd⟩ := hT 13 _ rfl rfl rfl rfl
    obtain ⟨v, vb, hc8, hd8⟩ := hgd.ex
    have y9 : bq.eval (.tmp 9) = .int .i64 eD := hrel 14 _ 9 rfl rfl rfl
    have hall := Off.all _ _ hoff
    simp only [List.foldl_cons, List.foldl_nil] at hall
    rw [yg, y9] at hall
    generalize bq.eval (.tmp 27) = v71 at hall
    generalize bq.eval (.tmp 18) = v64 at hall
    generalize bq.eval (.tmp 28) = v72 at hall
    generalize bq.eval (.tmp 29) = v73 at hall
    rw [hall]
    have hlo := hz.low (Nat.le_refl _)
    have hbW := (unhide HB).trans (hlo.mono (unhide HB).size)
    have hN8 : g8 ≠ gR := by
      have := lt_of_block (unhide HR)
      omega
    have HN8 := hide hN8
    have HOC : Hid ((#[.int .i64 room, .int .i64 tmo, v, vb] : Array Value).all (·.oneCell') = true) := by
      obtain ⟨av, cv, rfl⟩ := ownDe_shape hd8.oL
      obtain ⟨ab, cb, rfl⟩ := ownI_shape hd8.oB
      show _ = _
      simp [Value.oneCell']
    have HS0 : Hid (SB B b room tmo P C Bn R w gA gR g8 #[.int .i64 0, .int .i64 nd, .int .i64 n, .int .i64 qx, .int .i64 qy, .string s, .bool on] v vb ll Bs 0 z) :=
      ⟨(hlo.block _ (lt_of_block (unhide HA))).trans (unhide HA), hc8, by rw [if_neg (by decide)]; exact (hlo.block _ (lt_of_block (unhide HR))).trans (unhide HR), hd8, ⟨⟨P, C, Bn, by rw [if_pos rfl]; exact ⟨rfl, rfl, rfl⟩, (unhide HTB).up hbW⟩, KT.of_below hbW⟩, unhide HG⟩
    obtain ⟨av, cv, rfl⟩ := ownDe_shape hd8.oL
    obtain ⟨ab, cb, rfl⟩ := ownI_shape hd8.oB
    generalize ll.length = nl at *
    generalize Bs.length = nbb at *
    clear hN8 hbW hlo hall y9 hd8 hc8 hgd hm8 yg hT hrel hoff hz hD HB HT HR HA HTB HH b0 b1 b2 b3 a1' a2' a3' a4' hNU
    simp only [Act.put, List.setIfInBounds_toArray, List.set_cons_succ, List.set_cons_zero]
    go_wp2_with fail
    refine wp_region_do [false, false, false, false, false, false, false, false, true, false, false, true, false] [] [38] _ ?A0 (SB B b room tmo P C Bn R w gA gR g8 #[.int .i64 0, .int .i64 nd, .int .i64 n, .int .i64 qx, .int .i64 qy, .string s, .bool on] (.slice av nl cv) (.slice ab nbb cb) ll Bs) 2 (by kernel_rfl) (by kernel_rfl) (by kernel_rfl) rfl ?S00 (fun j x y h hb => h.up hb) ((Off.refl _ _).put 38 (.int .i64 eP) (by simp)) ?lex0 (by simp) ?do0 ?_
    case S00 =>
      intro x hx
      exact (unhide HS0).up hx
    case lex0 =>
      intro j x hS
      have hx8 := hS.g8b
      have hxA := hS.act
      have hneX := gb_ne x
      have u0 : ∀ y : Gb x, y.w.cell? ⟨g8, 0, none⟩ = some (.int .i64 room) := fun y => gb_cell (four_cells hx8).1 y
      have u1 : ∀ y : Gb x, y.w.cell? ⟨g8, 1, none⟩ = some (.int .i64 tmo) := fun y => gb_cell (four_cells hx8).2.1 y
      have u2 : ∀ y : Gb x, y.w.cell? ⟨g8, 2, none⟩ = some (.slice av nl cv) := fun y => gb_cell (four_cells hx8).2.2.1 y
      have u3 : ∀ y : Gb x, y.w.cell? ⟨g8, 3, none⟩ = some (.slice ab nbb cb) := fun y => gb_cell (four_cells hx8).2.2.2 y
      have q1 : ∀ y : Gb x, y.w.cell? ⟨gA, 1, none⟩ = some (.int .i64 nd) := fun y => gb_cell (by simp [World.cell?, hxA]) y
      have q2 : ∀ y : Gb x, y.w.cell? ⟨gA, 2, none⟩ = some (.int .i64 n) := fun y => gb_cell (by simp [World.cell?, hxA]) y
      have q3 : ∀ y : Gb x, y.w.cell? ⟨gA, 3, none⟩ = some (.int .i64 qx) := fun y => gb_cell (by simp [World.cell?, hxA]) y
      have q4 : ∀ y : Gb x, y.w.cell? ⟨gA, 4, none⟩ = some (.int .i64 qy) := fun y => gb_cell (by simp [World.cell?, hxA]) y
      clear hS hx8 hxA
      simp only [Act.put, List.setIfInBounds_toArray, List.set_cons_succ, List.set_cons_zero]
      dsimp only [restM]
      repeat (go_big_quiet_step (fail))
      refine wpQuiet_nil ?_
      exact rfl
    case do0 =>
      dsimp only [effM]
      refine ⟨?_, ?_, trivial⟩
      · intro x hS
        have HSx := hide hS
        clear hS
        go_wp2_with fail
        refine ((unhide HSx).call (unhide hPP)).mono ?_
        rintro e w5 ⟨rfl, hs⟩
        have HSS := hide hs
        clear HSx hs
        go_wp2_with fail
        exact onlyN ⟨rfl, unhide HSS⟩
      · intro x hS
        have HSx := hide (hS.store (unhide HN8))
        have hxR := hS.ans
        rw [if_neg (by decide)] at hxR
        have HXR := hide hxR
        clear hS hxR
        go_wp2_with (refine wpList_store_row_to rfl 29 (.tmp 6) (.tmp 30) rfl gR #[.int .i64 room, .int .i64 tmo, .slice av nl cv, .slice ab nbb cb] rfl rfl 29 zT (unhide HXR) (by kernel_rfl) (by rfl) (unhide HOC) (fun w' => SB B b room tmo P C Bn R w gA gR g8 #[.int .i64 0, .int .i64 nd, .int .i64 n, .int .i64 qx, .int .i64 qy, .string s, .bool on] (.slice av nl cv) (.slice ab nbb cb) ll Bs 2 w') (unhide HSx) ?_)
        intro w6 h6
        have H6 := hide h6
        clear h6
        go_wp2_with fail
        exact onlyN ⟨rfl, unhide H6⟩
    intro x hS
    have HSx := hide hS
    clear hS
    go_wp2
    have hans := (unhide HSx).ans
    rw [if_pos rfl] at hans
    have hpr := (unhide HSx).pr
    rw [if_neg (by decide)] at hpr
    exact ret_row2 (p := 6) (q := 7) (ty := 29) (by kernel_rfl) gR 29 _ (0, 0) _ _ rfl rfl hans rfl Try.underlying29 (by kernel_rfl) ⟨⟨_, _, _, rfl, by simp, (unhide HSx).dt⟩, hpr⟩
end Go.Proofs.Ytbfakbooenmhoaa
namespace Go.Proofs.Ytbfakbooenmhoaa
open Go.RowKit
set_option linter.unusedVariables false
attribute [local go_sem] Oper.semAt_some

set_option maxRecDepth 100000 in
set_option maxHeartbeats 8000000 in
theorem ado2_any (B b : Nat) (room tmo nd n qx qy : Int) (s : ByteArray) (on : Bool) (eP : Int) (P : Nat → Option Nat) (C : Nat → Pr) (Bn : Nat → Bool) (R : (Nat → Option Nat) → (Nat → Pr) → (Nat → Bool) → Prop) (vL vB : Value) (L : List Pr) (Bs : List Int) (w : World)
    (hTb : Tb B w b room tmo P C Bn) (h : Dt B w vL vB L Bs) (hB : B ≤ w.heap.size) 
    (hP : ∀ x, Tb B x b room tmo P C Bn → Calls Try.prog 23 #[.pointer (some ⟨b, 0, none⟩), .int .i64 nd] x fun e x' => e = .returned (.int .i64 eP) ∧ PRes B b room tmo P R x x') :
    Calls Try.prog 10 #[.pointer (some ⟨b, 0, none⟩), tabV room tmo vL vB, .agg #[.int .i64 2, .int .i64 nd, .int .i64 n, .int .i64 qx, .int .i64 qy, .string s, .bool on]] w fun e w' => ARes B b room tmo P R w (eP = lvE L nd) (lvL L nd) (Bs) e w' := by
  have HBW := hide hB
  have HTB := hide hTb
  have hPP := hide hP
  have hD := hide (fun x hx hb => dleave_any B room tmo nd vL vB L Bs x hx hb)
  clear hB hTb hP
  obtain ⟨a0, c0, rfl⟩ := ownDe_shape h.oL
  obtain ⟨a1, c1, rfl⟩ := ownI_shape h.oB
  have HH := hide h
  clear h
  obtain ⟨nb, hnb⟩ : ∃ nb, nb = Bs.length := ⟨_, rfl⟩
  obtain ⟨m, hm⟩ : ∃ m, m = L.length := ⟨_, rfl⟩
  rw [← hnb, ← hm] at HH hD ⊢
  clear hnb hm
  obtain ⟨ll, hll⟩ : ∃ ll, ll = lvL L nd := ⟨_, rfl⟩
  obtain ⟨eD, heD⟩ : ∃ eD, eD = lvE L nd := ⟨_, rfl⟩
  rw [← hll, ← heD] at hD ⊢
  clear hll heD
  go_enter Try.func10, Try.ntmps10
  go_wp2_with fail
  obtain ⟨w1, hw1⟩ : ∃ w1, w1 = ((w.alloc (.cells #[.int .i64 room, .int .i64 tmo, .slice a0 m c0, .slice a1 nb c1] 29)).alloc (.cells #[.int .i64 2, .int .i64 nd, .int .i64 n, .int .i64 qx, .int .i64 qy, .string s, .bool on] 33)).alloc (.cells #[.int .i64 0, .int .i64 0, .slice none 0 0, .slice none 0 0] 29) := ⟨_, rfl⟩
  obtain ⟨t1, tx, t2, t3⟩ := three_boxes w #[.int .i64 room, .int .i64 tmo, .slice a0 m c0, .slice a1 nb c1] #[.int .i64 2, .int .i64 nd, .int .i64 n, .int .i64 qx, .int .i64 qy, .string s, .bool on] #[.int .i64 0, .int .i64 0, .slice none 0 0, .slice none 0 0] 29 33 29
  rw [← hw1] at t1 tx t2 t3
  have HW : Hid (w1 = _) := hw1
  obtain ⟨gR, hgR⟩ : ∃ gR, gR = w.heap.size + 1 + 1 := ⟨_, rfl⟩
  obtain ⟨gA, hgA⟩ : ∃ gA, gA = w.heap.size + 1 := ⟨_, rfl⟩
  rw [← hgR] at t2
  rw [← hgA] at tx
  have HT := hide t1
  have HR := hide t2
  have HA := hide tx
  have HB := hide t3
  have HG : Hid (w.heap.size ≤ gR) := by
    rw [hgR]
    show _ ≤ _
    omega
  have HGR := hide hgR
  have HGA := hide hgA
  clear t1 t2 t3 tx hw1 hgR hgA
  rw [← unhide HW]
  generalize hy : w.heap.size + 1 + 1 = gy at *
  generalize hx : w.heap.size + 1 = gx at *
  have hgx : gA = gx := unhide HGA
  have hgy : gR = gy := unhide HGR
  clear hx hy
  subst hgx hgy
  refine (unhide hD w1 ((unhide HH).up (unhide HB)) (Nat.le_trans (unhide HBW) (unhide HB).size)).mono ?_
  rintro e w2 ⟨v, vb, rfl, hd2, b2⟩
  obtain ⟨W3, hW3⟩ : ∃ W3, W3 = w2.alloc (.cells #[.int .i64 room, .int .i64 tmo, v, vb] 29) := ⟨_, rfl⟩
  have HOC : Hid ((#[.int .i64 room, .int .i64 tmo, v, vb] : Array Value).all (·.oneCell') = true) := by
    obtain ⟨av, cv, rfl⟩ := ownDe_shape hd2.oL
    obtain ⟨ab, cb, rfl⟩ := ownI_shape hd2.oB
    show _ = _
    simp [Value.oneCell']
  have HS0 : Hid (SB B b room tmo P C Bn R w gA gR w2.heap.size #[.int .i64 2, .int .i64 nd, .int .i64 n, .int .i64 qx, .int .i64 qy, .string s, .bool on] v vb ll Bs 0 W3) := by
    have hb3 : Below w2.heap.size w2 W3 := by rw [hW3]; exact (Below.refl _ _).alloc (Nat.le_refl _) _
    have hbw := (unhide HB).trans (b2.mono (unhide HB).size)
    have hbW := hbw.trans (hb3.mono hbw.size)
    have hA2 := (b2.block _ (lt_of_block (unhide HA))).trans (unhide HA)
    have hR2 := (b2.block _ (lt_of_block (unhide HR))).trans (unhide HR)
    refine ⟨(hb3.block _ (lt_of_block hA2)).trans hA2, by rw [hW3]; exact heap_alloc_new w2 _, by rw [if_neg (by decide)]; exact (hb3.block _ (lt_of_block hR2)).trans hR2, hd2.up hb3, ⟨⟨P, C, Bn, by rw [if_pos rfl]; exact ⟨rfl, rfl, rfl⟩, (unhide HTB).up hbW⟩, KT.of_below hbW⟩, unhide HG⟩
  have HN8 : Hid (w2.heap.size ≠ gR) := by
    have hR2 := lt_of_block ((b2.block _ (lt_of_block (unhide HR))).trans (unhide HR))
    show _ ≠ _
    omega
  have HW3 := hide hW3
  obtain ⟨av, cv, rfl⟩ := ownDe_shape hd2.oL
  obtain ⟨ab, cb, rfl⟩ := ownI_shape hd2.oB
  generalize ll.length = nl at *
  generalize Bs.length = nbb at *
  clear hW3 hd2 b2 hD HB HT HR HA HTB HH
  go_wp2_with fail
  rw [← unhide HW3]
  generalize w2.heap.size = g8 at *
  clear HW3
  refine wp_region_do [false, false, false, false, true, false, false, true, false] [] [54] _ ?A0 (SB B b room tmo P C Bn R w gA gR g8 #[.int .i64 2, .int .i64 nd, .int .i64 n, .int .i64 qx, .int .i64 qy, .string s, .bool on] (.slice av nl cv) (.slice ab nbb cb) ll Bs) 2 (by kernel_rfl) (by kernel_rfl) (by kernel_rfl) rfl ?S00 (fun j x y h hb => h.up hb) ((Off.refl _ _).put 54 (.int .i64 eP) (by simp)) ?lex0 (by simp) ?do0 ?_
  case S00 =>
    intro x hx
    exact (unhide HS0).up hx
  case lex0 =>
    intro j x hS
    have hx8 := hS.g8b
    have hxA := hS.act
    have hneX := gb_ne x
    have u0 : ∀ y : Gb x, y.w.cell? ⟨g8, 0, none⟩ = some (.int .i64 room) := fun y => gb_cell (four_cells hx8).1 y
    have u1 : ∀ y : Gb x, y.w.cell? ⟨g8, 1, none⟩ = some (.int .i64 tmo) := fun y => gb_cell (four_cells hx8).2.1 y
    have u2 : ∀ y : Gb x, y.w.cell? ⟨g8, 2, none⟩ = some (.slice av nl cv) := fun y => gb_cell (four_cells hx8).2.2.1 y
    have u3 : ∀ y : Gb x, y.w.cell? ⟨g8, 3, none⟩ = some (.slice ab nbb cb) := fun y => gb_cell (four_cells hx8).2.2.2 y
    have q1 : ∀ y : Gb x, y.w.cell? ⟨gA, 1, none⟩ = some (.int .i64 nd) := fun y => gb_cell (by simp [World.cell?, hxA]) y
    clear hS hx8 hxA
    simp only [Act.put, List.setIfInBounds_toArray, List.set_cons_succ, List.set_cons_zero]
    dsimp only [restM]
    repeat (go_big_quiet_step (fail))
    refine wpQuiet_nil ?_
    exact rfl
  case do0 =>
    dsimp only [effM]
    refine ⟨?_, ?_, trivial⟩
    · intro x hS
      have HSx := hide hS
      clear hS
      go_wp2_with fail
      refine ((unhide HSx).call (unhide hPP)).mono ?_
      rintro e w5 ⟨rfl, hs⟩
      have HSS := hide hs
      clear HSx hs
      go_wp2_with fail
      exact onlyN ⟨rfl, unhide HSS⟩
    · intro x hS
      have HSx := hide (hS.store (unhide HN8))
      have hxR := hS.ans
      rw [if_neg (by decide)] at hxR
      have HXR := hide hxR
      clear hS hxR
      go_wp2_with (refine wpList_store_row_to rfl 29 (.tmp 6) (.tmp 50) rfl gR #[.int .i64 room, .int .i64 tmo, .slice av nl cv, .slice ab nbb cb] rfl rfl 29 zT (unhide HXR) (by kernel_rfl) (by rfl) (unhide HOC) (fun w' => SB B b room tmo P C Bn R w gA gR g8 #[.int .i64 2, .int .i64 nd, .int .i64 n, .int .i64 qx, .int .i64 qy, .string s, .bool on] (.slice av nl cv) (.slice ab nbb cb) ll Bs 2 w') (unhide HSx) ?_)
      intro w6 h6
      have H6 := hide h6
      clear h6
      go_wp2_with fail
      exact onlyN ⟨rfl, unhide H6⟩
  intro x hS
  have HSx := hide hS
  clear hS
  go_wp2
  have hans := (unhide HSx).ans
  rw [if_pos rfl] at hans
  have hpr := (unhide HSx).pr
  rw [if_neg (by decide)] at hpr
  exact ret_row2 (p := 6) (q := 7) (ty := 29) (by kernel_rfl) gR 29 _ (0, 0) _ _ rfl rfl hans rfl Try.underlying29 (by kernel_rfl) ⟨⟨_, _, _, rfl, by simp, (unhide HSx).dt⟩, hpr⟩
end Go.Proofs.Ytbfakbooenmhoaa
namespace Go.Proofs.Ytbfakbooenmhoaa
open Go.RowKit
set_option linter.unusedVariables false
attribute [local go_sem] Oper.semAt_some

set_option maxRecDepth 100000 in
set_option maxHeartbeats 8000000 in
theorem ado3_any (B b : Nat) (room tmo nd n qx qy : Int) (s : ByteArray) (on : Bool) (eP : Int) (P : Nat → Option Nat) (C : Nat → Pr) (Bn : Nat → Bool) (R : (Nat → Option Nat) → (Nat → Pr) → (Nat → Bool) → Prop) (vL vB : Value) (L : List Pr) (Bs : List Int) (w : World)
    (hTb : Tb B w b room tmo P C Bn) (h : Dt B w vL vB L Bs) (hB : B ≤ w.heap.size) (hbn : Bs.length < 100)
    (hP : ∀ x, Tb B x b room tmo P C Bn → Calls Try.prog 24 #[.pointer (some ⟨b, 0, none⟩), .int .i64 nd] x fun e x' => e = .returned (.int .i64 eP) ∧ PRes B b room tmo P R x x') :
    Calls Try.prog 10 #[.pointer (some ⟨b, 0, none⟩), tabV room tmo vL vB, .agg #[.int .i64 3, .int .i64 nd, .int .i64 n, .int .i64 qx, .int .i64 qy, .string s, .bool on]] w fun e w' => ARes B b room tmo P R w (eP = baE nd) (baL L nd) (baB Bs nd) e w' := by
  have HBW := hide hB
  have HTB := hide hTb
  have hPP := hide hP
  have hD := hide (fun x hx hb => dban_any B room tmo nd vL vB L Bs x hx hb hbn)
  clear hB hTb hP
  obtain ⟨a0, c0, rfl⟩ := ownDe_shape h.oL
  obtain ⟨a1, c1, rfl⟩ := ownI_shape h.oB
  have HH := hide h
  clear h
  obtain ⟨nb, hnb⟩ : ∃ nb, nb = Bs.length := ⟨_, rfl⟩
  obtain ⟨m, hm⟩ : ∃ m, m = L.length := ⟨_, rfl⟩
  rw [← hnb, ← hm] at HH hD ⊢
  clear hnb hm
  obtain ⟨ll, hll⟩ : ∃ ll, ll = baL L nd := ⟨_, rfl⟩
  obtain ⟨bb, hbb⟩ : ∃ bb, bb = baB Bs nd := ⟨_, rfl⟩
  obtain ⟨eD, heD⟩ : ∃ eD, eD = baE nd := ⟨_, rfl⟩
  rw [← hll, ← heD, ← hbb] at hD ⊢
  clear hll heD hbb
  go_enter Try.func10, Try.ntmps10
  go_wp2_with fail
  obtain ⟨w1, hw1⟩ : ∃ w1, w1 = ((w.alloc (.cells #[.int .i64 room, .int .i64 tmo, .slice a0 m c0, .slice a1 nb c1] 29)).alloc (.cells #[.int .i64 3, .int .i64 nd, .int .i64 n, .int .i64 qx, .int .i64 qy, .string s, .bool on] 33)).alloc (.cells #[.int .i64 0, .int .i64 0, .slice none 0 0, .slice none 0 0] 29) := ⟨_, rfl⟩
  obtain ⟨t1, tx, t2, t3⟩ := three_boxes w #[.int .i64 room, .int .i64 tmo, .slice a0 m c0, .slice a1 nb c1] #[.int .i64 3, .int .i64 nd, .int .i64 n, .int .i64 qx, .int .i64 qy, .string s, .bool on] #[.int .i64 0, .int .i64 0, .slice none 0 0, .slice none 0 0] 29 33 29
  rw [← hw1] at t1 tx t2 t3
  have HW : Hid (w1 = _) := hw1
  obtain ⟨gR, hgR⟩ : ∃ gR, gR = w.heap.size + 1 + 1 := ⟨_, rfl⟩
  obtain ⟨gA, hgA⟩ : ∃ gA, gA = w.heap.size + 1 := ⟨_, rfl⟩
  rw [← hgR] at t2
  rw [← hgA] at tx
  have HT := hide t1
  have HR := hide t2
  have HA := hide tx
  have HB := hide t3
  have HG : Hid (w.heap.size ≤ gR) := by
    rw [hgR]
    show _ ≤ _
    omega
  have HGR := hide hgR
  have HGA := hide hgA
  clear t1 t2 t3 tx hw1 hgR hgA
  rw [← unhide HW]
  generalize hy : w.heap.size + 1 + 1 = gy at *
  generalize hx : w.heap.size + 1 = gx at *
  have hgx : gA = gx := unhide HGA
  have hgy : gR = gy := unhide HGR
  clear hx hy
  subst hgx hgy
  refine (unhide hD w1 ((unhide HH).up (unhide HB)) (Nat.le_trans (unhide HBW) (unhide HB).size)).mono ?_
  rintro e w2 ⟨v, vb, rfl, hd2, b2⟩
  obtain ⟨W3, hW3⟩ : ∃ W3, W3 = w2.alloc (.cells #[.int .i64 room, .int .i64 tmo, v, vb] 29) := ⟨_, rfl⟩
  have HOC : Hid ((#[.int .i64 room, .int .i64 tmo, v, vb] : Array Value).all (·.oneCell') = true) := by
    obtain ⟨av, cv, rfl⟩ := ownDe_shape hd2.oL
    obtain ⟨ab, cb, rfl⟩ := ownI_shape hd2.oB
    show _ = _
    simp [Value.oneCell']
  have HS0 : Hid (SB B b room tmo P C Bn R w gA gR w2.heap.size #[.int .i64 3, .int .i64 nd, .int .i64 n, .int .i64 qx, .int .i64 qy, .string s, .bool on] v vb ll bb 0 W3) := by
    have hb3 : Below w2.heap.size w2 W3 := by rw [hW3]; exact (Below.refl _ _).alloc (Nat.le_refl _) _
    have hbw := (unhide HB).trans (b2.mono (unhide HB).size)
    have hbW := hbw.trans (hb3.mono hbw.size)
    have hA2 := (b2.block _ (lt_of_block (unhide HA))).trans (unhide HA)
    have hR2 := (b2.block _ (lt_of_block (unhide HR))).trans (unhide HR)
    refine ⟨(hb3.block _ (lt_of_block hA2)).trans hA2, by rw [hW3]; exact heap_alloc_new w2 _, by rw [if_neg (by decide)]; exact (hb3.block _ (lt_of_block hR2)).trans hR2, hd2.up hb3, ⟨⟨P, C, Bn, by rw [if_pos rfl]; exact ⟨rfl, rfl, rfl⟩, (unhide HTB).up hbW⟩, KT.of_below hbW⟩, unhide HG⟩
  have HN8 : Hid (w2.heap.size ≠ gR) := by
    have hR2 := lt_of_block ((b2.block _ (lt_of_block (unhide HR))).trans (unhide HR))
    show _ ≠ _
    omega
  have HW3 := hide hW3
  obtain ⟨av, cv, rfl⟩ := ownDe_shape hd2.oL
  obtain ⟨ab, cb, rfl⟩ := ownI_shape hd2.oB
  generalize ll.length = nl at *
  generalize bb.length = nbb at *
  clear hW3 hd2 b2 hD HB HT HR HA HTB HH
  go_wp2_with fail
  rw [← unhide HW3]
  generalize w2.heap.size = g8 at *
  clear HW3
  refine wp_region_do [false, false, false, false, true, false, false, true, false] [] [70] _ ?A0 (SB B b room tmo P C Bn R w gA gR g8 #[.int .i64 3, .int .i64 nd, .int .i64 n, .int .i64 qx, .int .i64 qy, .string s, .bool on] (.slice av nl cv) (.slice ab nbb cb) ll bb) 2 (by kernel_rfl) (by kernel_rfl) (by kernel_rfl) rfl ?S00 (fun j x y h hb => h.up hb) ((Off.refl _ _).put 70 (.int .i64 eP) (by simp)) ?lex0 (by simp) ?do0 ?_
  case S00 =>
    intro x hx
    exact (unhide HS0).up hx
  case lex0 =>
    intro j x hS
    have hx8 := hS.g8b
    have hxA := hS.act
    have hneX := gb_ne x
    have u0 : ∀ y : Gb x, y.w.cell? ⟨g8, 0, none⟩ = some (.int .i64 room) := fun y => gb_cell (four_cells hx8).1 y
    have u1 : ∀ y : Gb x, y.w.cell? ⟨g8, 1, none⟩ = some (.int .i64 tmo) := fun y => gb_cell (four_cells hx8).2.1 y
    have u2 : ∀ y : Gb x, y.w.cell? ⟨g8, 2, none⟩ = some (.slice av nl cv) := fun y => gb_cell (four_cells hx8).2.2.1 y
    have u3 : ∀ y : Gb x, y.w.cell? ⟨g8, 3, none⟩ = some (.slice ab nbb cb) := fun y => gb_cell (four_cells hx8).2.2.2 y
    have q1 : ∀ y : Gb x, y.w.cell? ⟨gA, 1, none⟩ = some (.int .i64 nd) := fun y => gb_cell (by simp [World.cell?, hxA]) y
    clear hS hx8 hxA
    simp only [Act.put, List.setIfInBounds_toArray, List.set_cons_succ, List.set_cons_zero]
    dsimp only [restM]
    repeat (go_big_quiet_step (fail))
    refine wpQuiet_nil ?_
    exact rfl
  case do0 =>
    dsimp only [effM]
    refine ⟨?_, ?_, trivial⟩
    · intro x hS
      have HSx := hide hS
      clear hS
      go_wp2_with fail
      refine ((unhide HSx).call (unhide hPP)).mono ?_
      rintro e w5 ⟨rfl, hs⟩
      have HSS := hide hs
      clear HSx hs
      go_wp2_with fail
      exact onlyN ⟨rfl, unhide HSS⟩
    · intro x hS
      have HSx := hide (hS.store (unhide HN8))
      have hxR := hS.ans
      rw [if_neg (by decide)] at hxR
      have HXR := hide hxR
      clear hS hxR
      go_wp2_with (refine wpList_store_row_to rfl 29 (.tmp 6) (.tmp 66) rfl gR #[.int .i64 room, .int .i64 tmo, .slice av nl cv, .slice ab nbb cb] rfl rfl 29 zT (unhide HXR) (by kernel_rfl) (by rfl) (unhide HOC) (fun w' => SB B b room tmo P C Bn R w gA gR g8 #[.int .i64 3, .int .i64 nd, .int .i64 n, .int .i64 qx, .int .i64 qy, .string s, .bool on] (.slice av nl cv) (.slice ab nbb cb) ll bb 2 w') (unhide HSx) ?_)
      intro w6 h6
      have H6 := hide h6
      clear h6
      go_wp2_with fail
      exact onlyN ⟨rfl, unhide H6⟩
  intro x hS
  have HSx := hide hS
  clear hS
  go_wp2
  have hans := (unhide HSx).ans
  rw [if_pos rfl] at hans
  have hpr := (unhide HSx).pr
  rw [if_neg (by decide)] at hpr
  exact ret_row2 (p := 6) (q := 7) (ty := 29) (by kernel_rfl) gR 29 _ (0, 0) _ _ rfl rfl hans rfl Try.underlying29 (by kernel_rfl) ⟨⟨_, _, _, rfl, by simp, (unhide HSx).dt⟩, hpr⟩
end Go.Proofs.Ytbfakbooenmhoaa
namespace Go.Proofs.Ytbfakbooenmhoaa
open Go.RowKit
set_option linter.unusedVariables false
attribute [local go_sem] Oper.semAt_some

set_option maxRecDepth 100000 in
set_option maxHeartbeats 4000000 in
theorem ado10_any (B b : Nat) (room tmo nd n qx qy : Int) (s : ByteArray) (on : Bool) (P : Nat → Option Nat) (C : Nat → Pr) (Bn : Nat → Bool) (vL vB : Value) (L : List Pr) (Bs : List Int) (w : World)
    (hTb : Tb B w b room tmo P C Bn) (h : Dt B w vL vB L Bs) (hB : B ≤ w.heap.size) (hN : L.Pairwise fun a b => a.nd ≠ b.nd) :
    Calls Try.prog 10 #[.pointer (some ⟨b, 0, none⟩), tabV room tmo vL vB, .agg #[.int .i64 10, .int .i64 nd, .int .i64 n, .int .i64 qx, .int .i64 qy, .string s, .bool on]] w fun e w' => ARes B b room tmo P (REq P (fun p => rolled (C p)) Bn) w True (rollK L L.length) Bs e w' := by
  have HBW := hide hB
  have HTB := hide hTb
  have hPP := hide (fun x (hx : Tb B x b room tmo P C Bn) => roll_any B b room tmo P C Bn x hx)
  have hD := hide (fun x hx hb => droll_any B room tmo vL vB L Bs x hx hb hN)
  clear hB hTb hN
  obtain ⟨ll, hll⟩ : ∃ ll, ll = rollK L L.length := ⟨_, rfl⟩
  rw [← hll] at hD ⊢
  clear hll
  obtain ⟨a0, c0, rfl⟩ := ownDe_shape h.oL
  obtain ⟨a1, c1, rfl⟩ := ownI_shape h.oB
  have HH := hide h
  clear h
  obtain ⟨nb, hnb⟩ : ∃ nb, nb = Bs.length := ⟨_, rfl⟩
  obtain ⟨m, hm⟩ : ∃ m, m = L.length := ⟨_, rfl⟩
  rw [← hnb, ← hm] at HH hD ⊢
  clear hnb hm
  go_enter Try.func10, Try.ntmps10
  go_wp2_with fail
  obtain ⟨w1, hw1⟩ : ∃ w1, w1 = ((w.alloc (.cells #[.int .i64 room, .int .i64 tmo, .slice a0 m c0, .slice a1 nb c1] 29)).alloc (.cells #[.int .i64 10, .int .i64 nd, .int .i64 n, .int .i64 qx, .int .i64 qy, .string s, .bool on] 33)).alloc (.cells #[.int .i64 0, .int .i64 0, .slice none 0 0, .slice none 0 0] 29) := ⟨_, rfl⟩
  obtain ⟨t1, tx, t2, t3⟩ := three_boxes w #[.int .i64 room, .int .i64 tmo, .slice a0 m c0, .slice a1 nb c1] #[.int .i64 10, .int .i64 nd, .int .i64 n, .int .i64 qx, .int .i64 qy, .string s, .bool on] #[.int .i64 0, .int .i64 0, .slice none 0 0, .slice none 0 0] 29 33 29
  rw [← hw1] at t1 tx t2 t3
  have HW : Hid (w1 = _) := hw1
  obtain ⟨gR, hgR⟩ : ∃ gR, gR = w.heap.size + 1 + 1 := ⟨_, rfl⟩
  obtain ⟨gA, hgA⟩ : ∃ gA, gA = w.heap.size + 1 := ⟨_, rfl⟩
  rw [← hgR] at t2
  rw [← hgA] at tx
  have HT := hide t1
  have HR := hide t2
  have HA := hide tx
  have HB := hide t3
  have HG : Hid (w.heap.size ≤ gR) := by
    rw [hgR]
    show _ ≤ _
    omega
  have HGR := hide hgR
  have HGA := hide hgA
  clear t1 t2 t3 tx hw1 hgR hgA
  rw [← unhide HW]
  generalize hy : w.heap.size + 1 + 1 = gy at *
  generalize hx : w.heap.size + 1 = gx at *
  have hgx : gA = gx := unhide HGA
  have hgy : gR = gy := unhide HGR
  clear hx hy
  subst hgx hgy
  refine (unhide hPP w1 ((unhide HTB).up (unhide HB))).mono ?_
  rintro e w2 ⟨rfl, ht2, hk2⟩
  have hTB1 := (unhide HTB).up (unhide HB)
  have hT2 := kt_keep hTB1 hk2 (unhide HT) (by decide) (by decide)
  have hR2 := kt_keep hTB1 hk2 (unhide HR) (by decide) (by decide)
  have hd2 := kt_dt hTB1 hk2 ((unhide HH).up (unhide HB))
  have hpr : PRes B b room tmo P (REq P (fun p => rolled (C p)) Bn) w w2 := ⟨⟨P, _, Bn, ⟨rfl, rfl, rfl⟩, ht2⟩, (KT.of_below (unhide HB)).trans' hk2⟩
  have HT2 := hide hT2
  have HR2 := hide hR2
  have HPR := hide hpr
  have hDD := hide (unhide hD w2 hd2 (Nat.le_trans (unhide HBW) (Nat.le_trans (unhide HB).size hk2.size)))
  clear hTB1 hT2 hR2 hd2 hpr ht2 hk2 hPP hD HB HT HR HA HTB HH
  go_wp2_with (refine wpList_load_row rfl 29 (.tmp 4) rfl w.heap.size rfl 29 #[.int .i64 room, .int .i64 tmo, .slice a0 m c0, .slice a1 nb c1] (0, 0) _ (unhide HT2) Try.underlying29 rfl (by kernel_rfl) ?_)
  refine (unhide hDD).mono ?_
  rintro e w3 ⟨v, rfl, hd3, b3⟩
  have hR3 := (b3.block _ (lt_of_block (unhide HR2))).trans (unhide HR2)
  have HF := hide (afin ((unhide HPR).up b3) hd3 hR3 (unhide HG))
  have HR3 := hide hR3
  have HOC : Hid ((#[.int .i64 room, .int .i64 tmo, v, .slice a1 nb c1] : Array Value).all (·.oneCell') = true) := by
    obtain ⟨av, cv, rfl⟩ := ownDe_shape hd3.oL
    show _ = _
    simp [Value.oneCell']
  clear hR3 hd3 b3 hDD HT2 HR2 HPR
  go_wp2_with (refine wpList_store_row_to rfl 29 (.tmp 6) (.tmp 106) rfl gR #[.int .i64 room, .int .i64 tmo, v, .slice a1 nb c1] rfl rfl 29 _ (unhide HR3) (by kernel_rfl) (by rfl) (unhide HOC) (fun w' => AFin B b room tmo P (REq P (fun p => rolled (C p)) Bn) w gR v (.slice a1 nb c1) ll Bs w') (unhide HF) ?_)
  intro w6 h6
  have H6 := hide h6
  clear h6
  go_wp2
  exact ret_row2 (p := 6) (q := 7) (ty := 29) (by kernel_rfl) gR 29 _ (0, 0) _ _ rfl rfl (unhide H6).blk rfl Try.underlying29 (by kernel_rfl) ⟨⟨_, _, true, rfl, by simp, (unhide H6).dt⟩, (unhide H6).pr⟩
set_option maxRecDepth 100000 in
set_option maxHeartbeats 4000000 in
theorem adoE_any (B b : Nat) (kd room tmo nd n qx qy : Int) (s : ByteArray) (on : Bool) (P : Nat → Option Nat) (C : Nat → Pr) (Bn : Nat → Bool) (vL vB : Value) (L : List Pr) (Bs : List Int) (w : World)
    (hTb : Tb B w b room tmo P C Bn) (h : Dt B w vL vB L Bs) (hk : ∀ i : Nat, i ≤ 10 → kd ≠ i) :
    Calls Try.prog 10 #[.pointer (some ⟨b, 0, none⟩), tabV room tmo vL vB, .agg #[.int .i64 kd, .int .i64 nd, .int .i64 n, .int .i64 qx, .int .i64 qy, .string s, .bool on]] w fun e w' => ARes B b room tmo P (REq P C Bn) w True L Bs e w' := by
  have HTB := hide hTb
  clear hTb
  have hD := True.intro
  obtain ⟨a0, c0, rfl⟩ := ownDe_shape h.oL
  obtain ⟨a1, c1, rfl⟩ := ownI_shape h.oB
  have HH := hide h
  clear h
  obtain ⟨nb, hnb⟩ : ∃ nb, nb = Bs.length := ⟨_, rfl⟩
  obtain ⟨m, hm⟩ : ∃ m, m = L.length := ⟨_, rfl⟩
  rw [← hnb, ← hm] at HH ⊢
  clear hnb hm
  have k0 : (kd == 0) = false := by have := hk 0 (by omega); simpa using this
  have k1 : (kd == 1) = false := by have := hk 1 (by omega); simpa using this
  have k2 : (kd == 2) = false := by have := hk 2 (by omega); simpa using this
  have k3 : (kd == 3) = false := by have := hk 3 (by omega); simpa using this
  have k4 : (kd == 4) = false := by have := hk 4 (by omega); simpa using this
  have k5 : (kd == 5) = false := by have := hk 5 (by omega); simpa using this
  have k6 : (kd == 6) = false := by have := hk 6 (by omega); simpa using this
  have k7 : (kd == 7) = false := by have := hk 7 (by omega); simpa using this
  have k8 : (kd == 8) = false := by have := hk 8 (by omega); simpa using this
  have k9 : (kd == 9) = false := by have := hk 9 (by omega); simpa using this
  have k10 : (kd == 10) = false := by have := hk 10 (by omega); simpa using this
  clear hk
  go_enter Try.func10, Try.ntmps10
  go_wp2_with fail
  obtain ⟨t1, tx, t2, t3⟩ := three_boxes w #[.int .i64 room, .int .i64 tmo, .slice a0 m c0, .slice a1 nb c1] #[.int .i64 kd, .int .i64 nd, .int .i64 n, .int .i64 qx, .int .i64 qy, .string s, .bool on] #[.int .i64 room, .int .i64 tmo, .slice a0 m c0, .slice a1 nb c1] 29 33 29
  exact ret_row2 (p := 6) (q := 7) (ty := 29) (by kernel_rfl) (w.heap.size + 1 + 1) 29 _ (0, 0) _ _ rfl rfl t2 rfl Try.underlying29 (by kernel_rfl) ⟨⟨_, _, true, rfl, by simp, (unhide HH).up t3⟩, ⟨P, C, Bn, ⟨rfl, rfl, rfl⟩, (unhide HTB).up t3⟩, KT.of_below t3⟩
end Go.Proofs.Ytbfakbooenmhoaa

/- peers: an act that sets something, on both tables: kind 8. -/
import Derived.Test.YtbfakbooenmhoaaQeA
import Derived.Test.YtbfakbooenmhoaaZdH
namespace Go.Proofs.Ytbfakbooenmhoaa
open Go.RowKit
set_option linter.unusedVariables false
attribute [local go_sem] Oper.semAt_some

set_option maxRecDepth 100000 in
set_option maxHeartbeats 8000000 in
theorem aset8_any (B b : Nat) (room tmo nd n qx qy : Int) (s : ByteArray) (on : Bool) (eP : Int) (P : Nat → Option Nat) (C : Nat → Pr) (Bn : Nat → Bool) (R : (Nat → Option Nat) → (Nat → Pr) → (Nat → Bool) → Prop) (vL vB : Value) (L : List Pr) (Bs : List Int) (w : World)
    (hTb : Tb B w b room tmo P C Bn) (h : Dt B w vL vB L Bs) (hB : B ≤ w.heap.size) (hS : ∀ c ∈ L, Bd c)
    (hP : ∀ x, Tb B x b room tmo P C Bn → Calls Try.prog 28 #[.pointer (some ⟨b, 0, none⟩), .int .i64 nd, .bool on] x fun e x' => e = .returned (.int .i64 eP) ∧ PRes B b room tmo P R x x') :
    Calls Try.prog 37 #[.pointer (some ⟨b, 0, none⟩), tabV room tmo vL vB, .agg #[.int .i64 8, .int .i64 nd, .int .i64 n, .int .i64 qx, .int .i64 qy, .string s, .bool on]] w fun e w' => ARes B b room tmo P R w (eP = (seE (sB4 (numB on) ⟨#[]⟩) (fnd L nd))) (seL (sB4 (numB on) ⟨#[]⟩) (sX4 (numB on) ⟨#[]⟩) L nd) Bs e w' := by
  have HBW := hide hB
  have HTB := hide hTb
  have hPP := hide hP
  have hD := hide (fun x hx hb => dset4_any B room tmo nd (numB on) ⟨#[]⟩ vL vB L Bs x hx hb hS)
  clear hB hTb hP hS
  obtain ⟨a0, c0, rfl⟩ := ownDe_shape h.oL
  obtain ⟨a1, c1, rfl⟩ := ownI_shape h.oB
  have HH := hide h
  clear h
  obtain ⟨nb, hnb⟩ : ∃ nb, nb = Bs.length := ⟨_, rfl⟩
  obtain ⟨m, hm⟩ : ∃ m, m = L.length := ⟨_, rfl⟩
  rw [← hnb, ← hm] at HH hD ⊢
  clear hnb hm
  obtain ⟨ll, hll⟩ : ∃ ll, ll = (seL (sB4 (numB on) ⟨#[]⟩) (sX4 (numB on) ⟨#[]⟩) L nd) := ⟨_, rfl⟩
  obtain ⟨eD, heD⟩ : ∃ eD, eD = (seE (sB4 (numB on) ⟨#[]⟩) (fnd L nd)) := ⟨_, rfl⟩
  rw [← hll, ← heD] at hD ⊢
  clear hll heD
  go_enter Try.func37, Try.ntmps37
  go_wp2_with fail
  obtain ⟨w1, hw1⟩ : ∃ w1, w1 = ((w.alloc (.cells #[.int .i64 room, .int .i64 tmo, .slice a0 m c0, .slice a1 nb c1] 29)).alloc (.cells #[.int .i64 8, .int .i64 nd, .int .i64 n, .int .i64 qx, .int .i64 qy, .string s, .bool on] 33)).alloc (.cells #[.int .i64 0, .int .i64 0, .slice none 0 0, .slice none 0 0] 29) := ⟨_, rfl⟩
  obtain ⟨t1, tx, t2, t3⟩ := three_boxes w #[.int .i64 room, .int .i64 tmo, .slice a0 m c0, .slice a1 nb c1] #[.int .i64 8, .int .i64 nd, .int .i64 n, .int .i64 qx, .int .i64 qy, .string s, .bool on] #[.int .i64 0, .int .i64 0, .slice none 0 0, .slice none 0 0] 29 33 29
  rw [← hw1] at t1 tx t2 t3
  have HW : Hid (w1 = _) := hw1
  obtain ⟨gR, hgR⟩ : ∃ gR, gR = w.heap.size + 1 + 1 := ⟨_, rfl⟩
  obtain ⟨gA, hgA⟩ : ∃ gA, gA = w.heap.size + 1 := ⟨_, rfl⟩
  rw [← hgR] at t2
  rw [← hgA] at tx
  have HT := hide t1
  have HR := hide t2
  have HA := hide tx
  have HB := hide t3
  have HG : Hid (w.heap.size ≤ gR) := by
    rw [hgR]
    show _ ≤ _
    omega
  have HGR := hide hgR
  have HGA := hide hgA
  clear t1 t2 t3 tx hw1 hgR hgA
  rw [← unhide HW]
  generalize hy : w.heap.size + 1 + 1 = gy at *
  generalize hx : w.heap.size + 1 = gx at *
  have hgx : gA = gx := unhide HGA
  have hgy : gR = gy := unhide HGR
  clear hx hy
  subst hgx hgy
  have hNU := hide (fun x => num_any on x)
  obtain ⟨b0, b1, b2, b3⟩ := four_cells (unhide HT)
  have hxA := unhide HA
  have a1' : w1.cell? ⟨gA, 1, none⟩ = some (.int .i64 nd) := by simp [World.cell?, hxA]
  have a2' : w1.cell? ⟨gA, 6, none⟩ = some (.bool on) := by simp [World.cell?, hxA]
  clear hxA
  generalize numB on = no at *
  refine wp_region_rst [false, false, false, false, false, false, true, true, true, true, true, true, true] [] [] [113, 106, 114, 115, 16, 17] _ ?A9 (Fz B room tmo ll Bs w1.heap.size) (fun i v x => RA B room tmo eD ll Bs w1.heap.size (clsA i) v x) (fun i b x => i = 11 → TA B room tmo ll Bs w1.heap.size 16 b x) (by kernel_rfl) (by kernel_rfl) (fun x y z h1 h2 => h1.trans h2) (fun x y h => Fz.of_below h) (fun j v x y h hf => h.stay hf) ?hT1 ?hT2 (Off.refl _ _) (by simp) ?lex (by simp) ?st ?fin
  case hT1 =>
    intro j bq x y h hf e
    obtain ⟨g, h1, h2, h3⟩ := h e
    exact ⟨g, h1, h2, h3.stay hf⟩
  case hT2 =>
    intro j o ho bq bq' x hop h e
    subst e
    simp only [List.getElem?_cons_succ, List.getElem?_cons_zero, Option.some.injEq] at ho
    subst ho
    obtain ⟨g, h1, h2⟩ := h rfl
    exact ⟨g, (hop 16 (by simp [Op.operands])).trans h1, h2⟩
  case lex =>
    intro z hz
    have hneX := gb_ne z
    have hlo := hz.low (Nat.le_refl _)
    have e0 : ∀ y : Gb z, y.w.cell? ⟨w.heap.size, 0, none⟩ = some (.int .i64 room) := fun y => gb_cell (cell_below b0 hlo) y
    have e1 : ∀ y : Gb z, y.w.cell? ⟨w.heap.size, 1, none⟩ = some (.int .i64 tmo) := fun y => gb_cell (cell_below b1 hlo) y
    have e2 : ∀ y : Gb z, y.w.cell? ⟨w.heap.size, 2, none⟩ = some (.slice a0 m c0) := fun y => gb_cell (cell_below b2 hlo) y
    have e3 : ∀ y : Gb z, y.w.cell? ⟨w.heap.size, 3, none⟩ = some (.slice a1 nb c1) := fun y => gb_cell (cell_below b3 hlo) y
    have e4 : ∀ y : Gb z, y.w.cell? ⟨gA, 1, none⟩ = some (.int .i64 nd) := fun y => gb_cell (cell_below a1' hlo) y
    have e5 : ∀ y : Gb z, y.w.cell? ⟨gA, 6, none⟩ = some (.bool on) := fun y => gb_cell (cell_below a2' hlo) y
    clear hlo
    dsimp only [restM]
    repeat (go_big_quiet_step ((go_at_call 57; exact gb_same (unhide hNU _))))
    refine wpQuiet_nil ?_
    exact rfl
  case st =>
    intro j o ho hmj z bq hz hop
    have hj : j ∈ [6, 7, 8, 9, 10, 11, 12] := mask_in hmj
    simp only [List.mem_cons, List.not_mem_nil, or_false] at hj
    rcases hj with rfl | rfl | rfl | rfl | rfl | rfl | rfl
    all_goals
      simp only [List.getElem?_cons_succ, List.getElem?_cons_zero, Option.some.injEq] at ho
      subst ho
    · have y0 : bq.eval (.tmp 107) = .agg #[.int .i64 room, .int .i64 tmo, .slice a0 m c0, .slice a1 nb c1] := hop 107 (by simp [Op.operands, Call.operands])
      have y1 : bq.eval (.tmp 109) = .int .i64 nd := hop 109 (by simp [Op.operands, Call.operands])
      have y2 : bq.eval (.tmp 112) = .int .i64 no := hop 112 (by simp [Op.operands, Call.operands])
      refine wp_call 56 #[.tmp 107, .tmp 109, .const (.int .i64 4), .tmp 112, .const (.string ⟨#[]⟩)] _ rfl Try.call56 #[.agg #[.int .i64 room, .int .i64 tmo, .slice a0 m c0, .slice a1 nb c1], .int .i64 nd, .int .i64 4, .int .i64 no, .string ⟨#[]⟩] (by simp [y0, y1, y2]; exact ⟨rfl, rfl⟩) (unhide hD z (hz.dt ((unhide HH).up (unhide HB))) (Nat.le_trans (unhide HBW) (Nat.le_trans (unhide HB).size hz.size))) ?_
      rintro e w7 ⟨v, vb, rfl, hd7, b7⟩
      exact ⟨_, rfl, _, rfl, fun _ => ⟨v, vb, rfl, hd7⟩, fun h => (by cases h), Fz.of_below b7⟩
    · obtain ⟨v1, vb, y0, hd⟩ : ∃ v1 vb, bq.eval (.tmp 113) = .tuple #[tabV room tmo v1 vb, .int .i64 eD] ∧ Dt B z v1 vb ll Bs := hop 113 (by simp [Op.operands])
      refine Oper.wp_mono ?_ (?_ : Oper.wp _ _ _ _ (fun b' w' => b' = bq.put (some 106) (.tuple #[tabV room tmo v1 vb, .int .i64 eD]) ∧ w' = z) _)
      · rintro b' w' ⟨rfl, rfl⟩
        exact ⟨_, rfl, fun _ => ⟨v1, vb, rfl, hd⟩, fun h => (by cases h), Fz.of_below (Below.refl _ _)⟩
      · have y0' : bq.tmps[113]?.getD undef = .tuple #[tabV room tmo v1 vb, .int .i64 eD] := by simpa [Act.eval] using y0
        go_simp
    · obtain ⟨v1, vb, y0, hd⟩ : ∃ v1 vb, bq.eval (.tmp 106) = .tuple #[tabV room tmo v1 vb, .int .i64 eD] ∧ Dt B z v1 vb ll Bs := hop 106 (by simp [Op.operands])
      refine Oper.wp_mono ?_ (?_ : Oper.wp _ _ _ _ (fun b' w' => b' = bq.put (some 114) (tabV room tmo v1 vb) ∧ w' = z) _)
      · rintro b' w' ⟨rfl, rfl⟩
        exact ⟨_, rfl, fun _ => ⟨v1, vb, rfl, hd⟩, fun h => (by cases h), Fz.of_below (Below.refl _ _)⟩
      · have y0' : bq.tmps[106]?.getD undef = .tuple #[tabV room tmo v1 vb, .int .i64 eD] := by simpa [Act.eval] using y0
        go_simp
    · obtain ⟨v1, vb, y0, hd⟩ : ∃ v1 vb, bq.eval (.tmp 106) = .tuple #[tabV room tmo v1 vb, .int .i64 eD] ∧ Dt B z v1 vb ll Bs := hop 106 (by simp [Op.operands])
      refine Oper.wp_mono ?_ (?_ : Oper.wp _ _ _ _ (fun b' w' => b' = bq.put (some 115) (.int .i64 eD) ∧ w' = z) _)
      · rintro b' w' ⟨rfl, rfl⟩
        exact ⟨_, rfl, fun _ => rfl, fun h => (by cases h), Fz.of_below (Below.refl _ _)⟩
      · have y0' : bq.tmps[106]?.getD undef = .tuple #[tabV room tmo v1 vb, .int .i64 eD] := by simpa [Act.eval] using y0
        go_simp
    · refine Oper.wp_mono ?_ (?_ : Oper.wp _ _ _ _ (fun b' w' => b' = bq.put (some 16) (.pointer (some ⟨z.heap.size, 0, none⟩)) ∧ w' = z.alloc (.cells zT 29)) _)
      · rintro b' w' ⟨rfl, rfl⟩
        exact ⟨_, rfl, fun _ => ⟨_, rfl, hz.size, _, heap_alloc_new z _, rfl⟩, fun h => (by cases h), fz_alloc _⟩
      · go_simp
    · obtain ⟨g, y0, hm, hzb⟩ : ∃ g, bq.eval (.tmp 16) = .pointer (some ⟨g, 0, none⟩) ∧ w1.heap.size ≤ g ∧ Zb z g := hop 16 (by simp [Op.operands])
      obtain ⟨v1, vb, y1, hd⟩ : ∃ v1 vb, bq.eval (.tmp 114) = tabV room tmo v1 vb ∧ Dt B z v1 vb ll Bs := hop 114 (by simp [Op.operands])
      obtain ⟨cs, hc, hcs⟩ := hzb
      have hst := fz_store (room := room) (tmo := tmo) hm ⟨cs, hc, hcs⟩ hd
      have hoc : (#[.int .i64 room, .int .i64 tmo, v1, vb] : Array Value).all (·.oneCell') = true := by
        obtain ⟨av, cv, rfl⟩ := ownDe_shape hd.oL
        obtain ⟨ab, cb, rfl⟩ := ownI_shape hd.oB
        simp [Value.oneCell']
      refine wp_store_row 29 (.tmp 16) (.tmp 114) rfl g #[.int .i64 room, .int .i64 tmo, v1, vb] y0 y1 29 cs hc (by kernel_rfl) hcs hoc ?_
      exact ⟨undef, rfl, fun h => absurd rfl h, fun _ _ => ⟨g, y0, hm, hst.2⟩, hst.1⟩
    · have y0 : bq.eval (.tmp 115) = .int .i64 eD := hop 115 (by simp [Op.operands])
      refine Oper.wp_mono ?_ (?_ : Oper.wp _ _ _ _ (fun b' w' => b' = bq.put (some 17) (.int .i64 eD) ∧ w' = z) _)
      · rintro b' w' ⟨rfl, rfl⟩
        exact ⟨_, rfl, fun _ => rfl, fun h => (by cases h), Fz.of_below (Below.refl _ _)⟩
      · have y0' : bq.tmps[115]?.getD undef = .int .i64 eD := by simpa [Act.eval] using y0
        go_simp
  case fin =>
    intro bq z hz hoff hrel hT
    obtain ⟨g8, yg, hm8, hgd⟩ := hT 11 _ rfl rfl rfl rfl
    obtain ⟨v, vb, hc8, hd8⟩ := hgd.ex
    have y9 : bq.eval (.tmp 17) = .int .i64 eD := hrel 12 _ 17 rfl rfl rfl
    have hall := Off.all _ _ hoff
    simp only [List.foldl_cons, List.foldl_nil] at hall
    rw [yg, y9] at hall
    generalize bq.eval (.tmp 113) = v71 at hall
    generalize bq.eval (.tmp 106) = v64 at hall
    generalize bq.eval (.tmp 114) = v72 at hall
    generalize bq.eval (.tmp 115) = v73 at hall
    rw [hall]
    have hlo := hz.low (Nat.le_refl _)
    have hbW := (unhide HB).trans (hlo.mono (unhide HB).size)
    have hN8 : g8 ≠ gR := by
      have := lt_of_block (unhide HR)
      omega
    have HN8 := hide hN8
    have HOC : Hid ((#[.int .i64 room, .int .i64 tmo, v, vb] : Array Value).all (·.oneCell') = true) := by
      obtain ⟨av, cv, rfl⟩ := ownDe_shape hd8.oL
      obtain ⟨ab, cb, rfl⟩ := ownI_shape hd8.oB
      show _ = _
      simp [Value.oneCell']
    have HS0 : Hid (SB B b room tmo P C Bn R w gA gR g8 #[.int .i64 8, .int .i64 nd, .int .i64 n, .int .i64 qx, .int .i64 qy, .string s, .bool on] v vb ll Bs 0 z) :=
      ⟨(hlo.block _ (lt_of_block (unhide HA))).trans (unhide HA), hc8, by rw [if_neg (by decide)]; exact (hlo.block _ (lt_of_block (unhide HR))).trans (unhide HR), hd8, ⟨⟨P, C, Bn, by rw [if_pos rfl]; exact ⟨rfl, rfl, rfl⟩, (unhide HTB).up hbW⟩, KT.of_below hbW⟩, unhide HG⟩
    obtain ⟨av, cv, rfl⟩ := ownDe_shape hd8.oL
    obtain ⟨ab, cb, rfl⟩ := ownI_shape hd8.oB
    generalize ll.length = nl at *
    generalize Bs.length = nbb at *
    clear hN8 hbW hlo hall y9 hd8 hc8 hgd hm8 yg hT hrel hoff hz hD HB HT HR HA HTB HH b0 b1 b2 b3 a1' a2' hNU
    simp only [Act.put, List.setIfInBounds_toArray, List.set_cons_succ, List.set_cons_zero]
    go_wp2_with fail
    refine wp_region_do [false, false, false, false, false, false, true, false, false, true, false] [] [122] _ ?A0 (SB B b room tmo P C Bn R w gA gR g8 #[.int .i64 8, .int .i64 nd, .int .i64 n, .int .i64 qx, .int .i64 qy, .string s, .bool on] (.slice av nl cv) (.slice ab nbb cb) ll Bs) 2 (by kernel_rfl) (by kernel_rfl) (by kernel_rfl) rfl ?S00 (fun j x y h hb => h.up hb) ((Off.refl _ _).put 122 (.int .i64 eP) (by simp)) ?lex0 (by simp) ?do0 ?_
    case S00 =>
      intro x hx
      exact (unhide HS0).up hx
    case lex0 =>
      intro j x hS
      have hx8 := hS.g8b
      have hxA := hS.act
      have hneX := gb_ne x
      have u0 : ∀ y : Gb x, y.w.cell? ⟨g8, 0, none⟩ = some (.int .i64 room) := fun y => gb_cell (four_cells hx8).1 y
      have u1 : ∀ y : Gb x, y.w.cell? ⟨g8, 1, none⟩ = some (.int .i64 tmo) := fun y => gb_cell (four_cells hx8).2.1 y
      have u2 : ∀ y : Gb x, y.w.cell? ⟨g8, 2, none⟩ = some (.slice av nl cv) := fun y => gb_cell (four_cells hx8).2.2.1 y
      have u3 : ∀ y : Gb x, y.w.cell? ⟨g8, 3, none⟩ = some (.slice ab nbb cb) := fun y => gb_cell (four_cells hx8).2.2.2 y
      have q1 : ∀ y : Gb x, y.w.cell? ⟨gA, 1, none⟩ = some (.int .i64 nd) := fun y => gb_cell (by simp [World.cell?, hxA]) y
      have q2 : ∀ y : Gb x, y.w.cell? ⟨gA, 6, none⟩ = some (.bool on) := fun y => gb_cell (by simp [World.cell?, hxA]) y
      clear hS hx8 hxA
      simp only [Act.put, List.setIfInBounds_toArray, List.set_cons_succ, List.set_cons_zero]
      dsimp only [restM]
      repeat (go_big_quiet_step (fail))
      refine wpQuiet_nil ?_
      exact rfl
    case do0 =>
      dsimp only [effM]
      refine ⟨?_, ?_, trivial⟩
      · intro x hS
        have HSx := hide hS
        clear hS
        go_wp2_with fail
        refine ((unhide HSx).call (unhide hPP)).mono ?_
        rintro e w5 ⟨rfl, hs⟩
        have HSS := hide hs
        clear HSx hs
        go_wp2_with fail
        exact onlyN ⟨rfl, unhide HSS⟩
      · intro x hS
        have HSx := hide (hS.store (unhide HN8))
        have hxR := hS.ans
        rw [if_neg (by decide)] at hxR
        have HXR := hide hxR
        clear hS hxR
        go_wp2_with (refine wpList_store_row_to rfl 29 (.tmp 6) (.tmp 116) rfl gR #[.int .i64 room, .int .i64 tmo, .slice av nl cv, .slice ab nbb cb] rfl rfl 29 zT (unhide HXR) (by kernel_rfl) (by rfl) (unhide HOC) (fun w' => SB B b room tmo P C Bn R w gA gR g8 #[.int .i64 8, .int .i64 nd, .int .i64 n, .int .i64 qx, .int .i64 qy, .string s, .bool on] (.slice av nl cv) (.slice ab nbb cb) ll Bs 2 w') (unhide HSx) ?_)
        intro w6 h6
        have H6 := hide h6
        clear h6
        go_wp2_with fail
        exact onlyN ⟨rfl, unhide H6⟩
    intro x hS
    have HSx := hide hS
    clear hS
    go_wp2
    have hans := (unhide HSx).ans
    rw [if_pos rfl] at hans
    have hpr := (unhide HSx).pr
    rw [if_neg (by decide)] at hpr
    exact ret_row2 (p := 6) (q := 7) (ty := 29) (by kernel_rfl) gR 29 _ (0, 0) _ _ rfl rfl hans rfl Try.underlying29 (by kernel_rfl) ⟨⟨_, _, _, rfl, by simp, (unhide HSx).dt⟩, hpr⟩
end Go.Proofs.Ytbfakbooenmhoaa

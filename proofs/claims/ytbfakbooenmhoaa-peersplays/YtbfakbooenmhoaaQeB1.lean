/- peers: an act that sets something, on both tables: kind 1. -/
import Derived.Test.YtbfakbooenmhoaaQeA
import Derived.Test.YtbfakbooenmhoaaZdH
namespace Go.Proofs.Ytbfakbooenmhoaa
open Go.RowKit
set_option linter.unusedVariables false
attribute [local go_sem] Oper.semAt_some

set_option maxRecDepth 100000 in
set_option maxHeartbeats 8000000 in
theorem aset1_any (B b : Nat) (room tmo nd n qx qy : Int) (s : ByteArray) (on : Bool) (eP : Int) (P : Nat → Option Nat) (C : Nat → Pr) (Bn : Nat → Bool) (R : (Nat → Option Nat) → (Nat → Pr) → (Nat → Bool) → Prop) (vL vB : Value) (L : List Pr) (Bs : List Int) (w : World)
    (hTb : Tb B w b room tmo P C Bn) (h : Dt B w vL vB L Bs) (hB : B ≤ w.heap.size) (hS : ∀ c ∈ L, Bd c)
    (hP : ∀ x, Tb B x b room tmo P C Bn → Calls Try.prog 20 #[.pointer (some ⟨b, 0, none⟩), .int .i64 nd, .int .i64 n] x fun e x' => e = .returned (.int .i64 eP) ∧ PRes B b room tmo P R x x') :
    Calls Try.prog 37 #[.pointer (some ⟨b, 0, none⟩), tabV room tmo vL vB, .agg #[.int .i64 1, .int .i64 nd, .int .i64 n, .int .i64 qx, .int .i64 qy, .string s, .bool on]] w fun e w' => ARes B b room tmo P R w (eP = (seE (sB0 n ⟨#[]⟩) (fnd L nd))) (seL (sB0 n ⟨#[]⟩) (sX0 n ⟨#[]⟩) L nd) Bs e w' := by
  have HBW := hide hB
  have HTB := hide hTb
  have hPP := hide hP
  have hD := hide (fun x hx hb => dset0_any B room tmo nd n ⟨#[]⟩ vL vB L Bs x hx hb hS)
  clear hB hTb hP hS
  obtain ⟨a0, c0, rfl⟩ := ownDe_shape h.oL
  obtain ⟨a1, c1, rfl⟩ := ownI_shape h.oB
  have HH := hide h
  clear h
  obtain ⟨nb, hnb⟩ : ∃ nb, nb = Bs.length := ⟨_, rfl⟩
  obtain ⟨m, hm⟩ : ∃ m, m = L.length := ⟨_, rfl⟩
  rw [← hnb, ← hm] at HH hD ⊢
  clear hnb hm
  obtain ⟨ll, hll⟩ : ∃ ll, ll = (seL (sB0 n ⟨#[]⟩) (sX0 n ⟨#[]⟩) L nd) := ⟨_, rfl⟩
  obtain ⟨eD, heD⟩ : ∃ eD, eD = (seE (sB0 n ⟨#[]⟩) (fnd L nd)) := ⟨_, rfl⟩
  rw [← hll, ← heD] at hD ⊢
  clear hll heD
  go_enter Try.func37, Try.ntmps37
  go_wp2_with fail
  obtain ⟨w1, hw1⟩ : ∃ w1, w1 = ((w.alloc (.cells #[.int .i64 room, .int .i64 tmo, .slice a0 m c0, .slice a1 nb c1] 29)).alloc (.cells #[.int .i64 1, .int .i64 nd, .int .i64 n, .int .i64 qx, .int .i64 qy, .string s, .bool on] 33)).alloc (.cells #[.int .i64 0, .int .i64 0, .slice none 0 0, .slice none 0 0] 29) := ⟨_, rfl⟩
  obtain ⟨t1, tx, t2, t3⟩ := three_boxes w #[.int .i64 room, .int .i64 tmo, .slice a0 m c0, .slice a1 nb c1] #[.int .i64 1, .int .i64 nd, .int .i64 n, .int .i64 qx, .int .i64 qy, .string s, .bool on] #[.int .i64 0, .int .i64 0, .slice none 0 0, .slice none 0 0] 29 33 29
  rw [← hw1] at t1 tx t2 t3
  have HW : Hid (w1 = _) := hw1
  obtain ⟨gR, hgR⟩ : ∃ gR, gR = w.heap.size + 1 + 1 := ⟨_, rfl⟩
  obtain ⟨gA, hgA⟩ : ∃ gA, gA = w.heap.size + 1 := ⟨_, rfl⟩
  rw [← hgR] at t2
  rw [← hgA] at tx
  have HT := hide t1
  have HR := hide t2
  have HA := hide tx
  have HB := hide t3
  have HG : Hid (w.heap.size ≤ gR) := by
    rw [hgR]
    show _ ≤ _
    omega
  have HGR := hide hgR
  have HGA := hide hgA
  clear t1 t2 t3 tx hw1 hgR hgA
  rw [← unhide HW]
  generalize hy : w.heap.size + 1 + 1 = gy at *
  generalize hx : w.heap.size + 1 = gx at *
  have hgx : gA = gx := unhide HGA
  have hgy : gR = gy := unhide HGR
  clear hx hy
  subst hgx hgy
  refine (unhide hD w1 ((unhide HH).up (unhide HB)) (Nat.le_trans (unhide HBW) (unhide HB).size)).mono ?_
  rintro e w2 ⟨v, vb, rfl, hd2, b2⟩
  obtain ⟨W3, hW3⟩ : ∃ W3, W3 = w2.alloc (.cells #[.int .i64 room, .int .i64 tmo, v, vb] 29) := ⟨_, rfl⟩
  have HOC : Hid ((#[.int .i64 room, .int .i64 tmo, v, vb] : Array Value).all (·.oneCell') = true) := by
    obtain ⟨av, cv, rfl⟩ := ownDe_shape hd2.oL
    obtain ⟨ab, cb, rfl⟩ := ownI_shape hd2.oB
    show _ = _
    simp [Value.oneCell']
  have HS0 : Hid (SB B b room tmo P C Bn R w gA gR w2.heap.size #[.int .i64 1, .int .i64 nd, .int .i64 n, .int .i64 qx, .int .i64 qy, .string s, .bool on] v vb ll Bs 0 W3) := by
    have hb3 : Below w2.heap.size w2 W3 := by rw [hW3]; exact (Below.refl _ _).alloc (Nat.le_refl _) _
    have hbw := (unhide HB).trans (b2.mono (unhide HB).size)
    have hbW := hbw.trans (hb3.mono hbw.size)
    have hA2 := (b2.block _ (lt_of_block (unhide HA))).trans (unhide HA)
    have hR2 := (b2.block _ (lt_of_block (unhide HR))).trans (unhide HR)
    refine ⟨(hb3.block _ (lt_of_block hA2)).trans hA2, by rw [hW3]; exact heap_alloc_new w2 _, by rw [if_neg (by decide)]; exact (hb3.block _ (lt_of_block hR2)).trans hR2, hd2.up hb3, ⟨⟨P, C, Bn, by rw [if_pos rfl]; exact ⟨rfl, rfl, rfl⟩, (unhide HTB).up hbW⟩, KT.of_below hbW⟩, unhide HG⟩
  have HN8 : Hid (w2.heap.size ≠ gR) := by
    have hR2 := lt_of_block ((b2.block _ (lt_of_block (unhide HR))).trans (unhide HR))
    show _ ≠ _
    omega
  have HW3 := hide hW3
  obtain ⟨av, cv, rfl⟩ := ownDe_shape hd2.oL
  obtain ⟨ab, cb, rfl⟩ := ownI_shape hd2.oB
  generalize ll.length = nl at *
  generalize Bs.length = nbb at *
  clear hW3 hd2 b2 hD HB HT HR HA HTB HH
  go_wp2_with fail
  rw [← unhide HW3]
  generalize w2.heap.size = g8 at *
  clear HW3
  refine wp_region_do [false, false, false, false, false, false, true, false, false, true, false] [] [39] _ ?A0 (SB B b room tmo P C Bn R w gA gR g8 #[.int .i64 1, .int .i64 nd, .int .i64 n, .int .i64 qx, .int .i64 qy, .string s, .bool on] (.slice av nl cv) (.slice ab nbb cb) ll Bs) 2 (by kernel_rfl) (by kernel_rfl) (by kernel_rfl) rfl ?S00 (fun j x y h hb => h.up hb) ((Off.refl _ _).put 39 (.int .i64 eP) (by simp)) ?lex0 (by simp) ?do0 ?_
  case S00 =>
    intro x hx
    exact (unhide HS0).up hx
  case lex0 =>
    intro j x hS
    have hx8 := hS.g8b
    have hxA := hS.act
    have hneX := gb_ne x
    have u0 : ∀ y : Gb x, y.w.cell? ⟨g8, 0, none⟩ = some (.int .i64 room) := fun y => gb_cell (four_cells hx8).1 y
    have u1 : ∀ y : Gb x, y.w.cell? ⟨g8, 1, none⟩ = some (.int .i64 tmo) := fun y => gb_cell (four_cells hx8).2.1 y
    have u2 : ∀ y : Gb x, y.w.cell? ⟨g8, 2, none⟩ = some (.slice av nl cv) := fun y => gb_cell (four_cells hx8).2.2.1 y
    have u3 : ∀ y : Gb x, y.w.cell? ⟨g8, 3, none⟩ = some (.slice ab nbb cb) := fun y => gb_cell (four_cells hx8).2.2.2 y
    have q1 : ∀ y : Gb x, y.w.cell? ⟨gA, 1, none⟩ = some (.int .i64 nd) := fun y => gb_cell (by simp [World.cell?, hxA]) y
    have q2 : ∀ y : Gb x, y.w.cell? ⟨gA, 2, none⟩ = some (.int .i64 n) := fun y => gb_cell (by simp [World.cell?, hxA]) y
    clear hS hx8 hxA
    simp only [Act.put, List.setIfInBounds_toArray, List.set_cons_succ, List.set_cons_zero]
    dsimp only [restM]
    repeat (go_big_quiet_step (fail))
    refine wpQuiet_nil ?_
    exact rfl
  case do0 =>
    dsimp only [effM]
    refine ⟨?_, ?_, trivial⟩
    · intro x hS
      have HSx := hide hS
      clear hS
      go_wp2_with fail
      refine ((unhide HSx).call (unhide hPP)).mono ?_
      rintro e w5 ⟨rfl, hs⟩
      have HSS := hide hs
      clear HSx hs
      go_wp2_with fail
      exact onlyN ⟨rfl, unhide HSS⟩
    · intro x hS
      have HSx := hide (hS.store (unhide HN8))
      have hxR := hS.ans
      rw [if_neg (by decide)] at hxR
      have HXR := hide hxR
      clear hS hxR
      go_wp2_with (refine wpList_store_row_to rfl 29 (.tmp 6) (.tmp 33) rfl gR #[.int .i64 room, .int .i64 tmo, .slice av nl cv, .slice ab nbb cb] rfl rfl 29 zT (unhide HXR) (by kernel_rfl) (by rfl) (unhide HOC) (fun w' => SB B b room tmo P C Bn R w gA gR g8 #[.int .i64 1, .int .i64 nd, .int .i64 n, .int .i64 qx, .int .i64 qy, .string s, .bool on] (.slice av nl cv) (.slice ab nbb cb) ll Bs 2 w') (unhide HSx) ?_)
      intro w6 h6
      have H6 := hide h6
      clear h6
      go_wp2_with fail
      exact onlyN ⟨rfl, unhide H6⟩
  intro x hS
  have HSx := hide hS
  clear hS
  go_wp2
  have hans := (unhide HSx).ans
  rw [if_pos rfl] at hans
  have hpr := (unhide HSx).pr
  rw [if_neg (by decide)] at hpr
  exact ret_row2 (p := 6) (q := 7) (ty := 29) (by kernel_rfl) gR 29 _ (0, 0) _ _ rfl rfl hans rfl Try.underlying29 (by kernel_rfl) ⟨⟨_, _, _, rfl, by simp, (unhide HSx).dt⟩, hpr⟩
end Go.Proofs.Ytbfakbooenmhoaa

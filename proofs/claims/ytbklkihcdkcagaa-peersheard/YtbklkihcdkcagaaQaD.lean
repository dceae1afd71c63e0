/- peers: Meet. -/
import Derived.Test.YtbklkihcdkcagaaQaC
namespace Go.Proofs.Ytbklkihcdkcagaa
open Go.RowKit
set_option linter.unusedVariables false
attribute [local go_sem] Oper.semAt_some

set_option maxRecDepth 100000 in
theorem part_yes (n : Int) (w : World) (h : -1048576 ≤ n ∧ n ≤ 1048576) : Calls Try.prog 59 #[.int .i64 n] w fun e w' => e = .returned (.bool true) ∧ w = w' := by
  obtain ⟨h1, h2⟩ := h
  go_enter Try.func59, Try.ntmps59
  go_wp2
  go_ret
  exact ⟨rfl, rfl⟩
set_option maxRecDepth 100000 in
theorem check_yes (x y : Int) (w : World) (hx : -1048576 ≤ x ∧ x ≤ 1048576) (hy : -1048576 ≤ y ∧ y ≤ 1048576) :
    Calls Try.prog 42 #[.agg #[.int .i64 x, .int .i64 y]] w fun e w' => e = .returned (.bool true) ∧ Below w.heap.size w w' := by
  have g1 := hide (fun w => part_yes x w hx)
  have g2 := hide (fun w => part_yes y w hy)
  have B := hide ((Below.refl w.heap.size w).alloc (Nat.le_refl _) (.cells #[.int .i64 x, .int .i64 y] 31))
  clear hx hy
  go_enter Try.func42, Try.ntmps42
  go_wp2_with fail
  refine (unhide g1 _).mono ?_
  rintro e w1 ⟨rfl, rfl⟩
  go_wp2_with fail
  refine (unhide g2 _).mono ?_
  rintro e w1 ⟨rfl, rfl⟩
  go_wp2
  go_ret
  exact ⟨rfl, unhide B⟩
/-- what Meet is asked with that may be -/
structure MeetOk (p : Nat) (x y t : Int) : Prop where
  p : 1 ≤ p ∧ p ≤ 15
  x : -1048576 ≤ x ∧ x ≤ 1048576
  y : -1048576 ≤ y ∧ y ≤ 1048576
  t : 0 ≤ t ∧ t ≤ 1099511627776
set_option maxRecDepth 100000 in
set_option maxHeartbeats 2000000 in
theorem meet_ban (p b : Nat) (x y t room tmo : Int) (P : Nat → Option Nat) (C : Nat → Pr) (Bn : Nat → Bool) (w : World) (hm : MeetOk p x y t) (h : TbAt w b room tmo P C Bn) (hb : Bn p = true) :
    Calls Try.prog 18 #[.pointer (some ⟨b, 0, none⟩), .int .i64 p, .agg #[.int .i64 x, .int .i64 y], .int .i64 t] w fun e w' => e = .returned (.int .i64 10) ∧ Below w.heap.size w w' := by
  have hp16 : p < 16 := by have := hm.p; omega
  have g1 := hide (fun w => isPeer_any p w)
  rw [show isPr p = true by unfold isPr; simp; have := hm.p; omega] at g1
  have g2 := hide (fun w => check_yes x y w hm.x hm.y)
  have g3 := hide (fun w => isTime_any t w)
  rw [show isTm t = true by unfold isTm; simp; exact hm.t] at g3
  have B0 := (Below.refl w.heap.size w).alloc (Nat.le_refl _) (.cells #[.int .i64 x, .int .i64 y] 31)
  have HT := hide (h.up B0)
  have HB := hide B0
  have q1 : (p : Int) < 16 := by omega
  have HBn := hide hb
  clear h hb hm B0
  go_enter Try.func18, Try.ntmps18
  go_wp2_with fail
  refine (unhide g1 _).mono ?_
  rintro e w1 ⟨rfl, rfl⟩
  go_wp2_with fail
  refine (unhide g2 _).mono ?_
  rintro e w1 ⟨rfl, b1⟩
  have HT1 := hide ((unhide HT).up b1)
  have HB1 := hide ((unhide HB).trans (b1.mono (unhide HB).size))
  have cb := (unhide HT1).bs p hp16
  rw [unhide HBn] at cb
  clear b1 HT HB
  go_wp2_with fail
  refine (unhide g3 _).mono ?_
  rintro e w2 ⟨rfl, rfl⟩
  go_wp2
  go_ret
  exact ⟨rfl, unhide HB1⟩
set_option maxRecDepth 100000 in
set_option maxHeartbeats 4000000 in
theorem meet_full (p b : Nat) (x y t room tmo : Int) (P : Nat → Option Nat) (C : Nat → Pr) (Bn : Nat → Bool) (w : World) (hm : MeetOk p x y t) (h : TbAt w b room tmo P C Bn) (hb : Bn p = false) (hP : P p = none) (hl : room ≤ (lst P C 16).length) :
    Calls Try.prog 18 #[.pointer (some ⟨b, 0, none⟩), .int .i64 p, .agg #[.int .i64 x, .int .i64 y], .int .i64 t] w fun e w' => e = .returned (.int .i64 6) ∧ Below w.heap.size w w' := by
  have hp16 : p < 16 := by have := hm.p; omega
  have g1 := hide (fun w => isPeer_any p w)
  rw [show isPr p = true by unfold isPr; simp; have := hm.p; omega] at g1
  have g2 := hide (fun w => check_yes x y w hm.x hm.y)
  have g3 := hide (fun w => isTime_any t w)
  rw [show isTm t = true by unfold isTm; simp; exact hm.t] at g3
  have g4 := hide (fun w h => len_any w b room tmo P C Bn h)
  have B0 := (Below.refl w.heap.size w).alloc (Nat.le_refl _) (.cells #[.int .i64 x, .int .i64 y] 31)
  have HT := hide (h.up B0)
  have HB := hide B0
  have q1 : (p : Int) < 16 := by omega
  have HBn := hide hb
  have HP := hide hP
  generalize (lst P C 16).length = n at *
  clear h hb hm B0 hP
  go_enter Try.func18, Try.ntmps18
  go_wp2_with fail
  refine (unhide g1 _).mono ?_
  rintro e w1 ⟨rfl, rfl⟩
  go_wp2_with fail
  refine (unhide g2 _).mono ?_
  rintro e w1 ⟨rfl, b1⟩
  have HT1 := hide ((unhide HT).up b1)
  have HB1 := hide ((unhide HB).trans (b1.mono (unhide HB).size))
  have cb := (unhide HT1).bs p hp16
  rw [unhide HBn] at cb
  have cp := (unhide HT1).ps p hp16
  rw [unhide HP] at cp
  have cp' : w1.cell? ⟨b, 2 + p, none⟩ = some (.pointer none) := cp
  clear b1 HT HB cp
  go_wp2_with fail
  refine (unhide g3 _).mono ?_
  rintro e w2 ⟨rfl, rfl⟩
  go_wp2_with fail
  refine wp_region_gr (fun x => Below w1.heap.size w1 x) (by kernel_rfl) (by kernel_rfl) (gb_start w1) ?_
  have hneZ : Nonempty (Gb w1) := gb_ne w1
  have p0 : ∀ y : Gb w1, y.w.cell? ⟨b, 0, none⟩ = some (.int .i64 room) := fun y => gb_cell (unhide HT1).c0 y
  repeat (go_big_quiet_step ((go_at_call 12; exact gb_call (unhide g4 _ ((unhide HT1).up (Gr.ok _))))))
  refine wpQuiet_nil ?_
  rintro w3 ⟨x3, rfl⟩
  have b3 := x3.ok
  have HB3 := hide ((unhide HB1).trans (b3.mono (unhide HB1).size))
  generalize x3.w = w3 at *
  clear b3 p0 cb cp'
  have q2 : room ≤ (n : Int) := by omega
  go_wp2
  go_ret
  exact ⟨rfl, unhide HB3⟩
set_option maxRecDepth 100000 in
set_option maxHeartbeats 4000000 in
theorem meet_ok (p b : Nat) (x y t room tmo : Int) (P : Nat → Option Nat) (C : Nat → Pr) (Bn : Nat → Bool) (w : World) (hm : MeetOk p x y t) (h : TbAt w b room tmo P C Bn) (hb : Bn p = false) (hP : P p = none) (hl : ¬ room ≤ (lst P C 16).length) :
    Calls Try.prog 18 #[.pointer (some ⟨b, 0, none⟩), .int .i64 p, .agg #[.int .i64 x, .int .i64 y], .int .i64 t] w fun e w' => e = .returned (.int .i64 0) ∧ ∃ g, TbAt w' b room tmo (tup P p (some g)) (tup C p ⟨p, x, y, ⟨#[]⟩, false, false, false, t, 0, 0⟩) Bn ∧ Kept w.heap.size b w w' ∧ w.heap.size ≤ g := by
  have hp16 : p < 16 := by have := hm.p; omega
  have g1 := hide (fun w => isPeer_any p w)
  rw [show isPr p = true by unfold isPr; simp; have := hm.p; omega] at g1
  have g2 := hide (fun w => check_yes x y w hm.x hm.y)
  have g3 := hide (fun w => isTime_any t w)
  rw [show isTm t = true by unfold isTm; simp; exact hm.t] at g3
  have g4 := hide (fun w h => len_any w b room tmo P C Bn h)
  have B0 := (Below.refl w.heap.size w).alloc (Nat.le_refl _) (.cells #[.int .i64 x, .int .i64 y] 31)
  have HT := hide (h.up B0)
  have HB := hide B0
  have HX : Hid (Two (w.alloc (.cells #[.int .i64 x, .int .i64 y] 31)) w.heap.size (.int .i64 x) (.int .i64 y) 31) := two_alloc w _ _ _
  have q1 : (p : Int) < 16 := by omega
  have HBn := hide hb
  have HP := hide hP
  generalize (lst P C 16).length = n at *
  clear h hb hm B0 hP
  go_enter Try.func18, Try.ntmps18
  go_wp2_with fail
  refine (unhide g1 _).mono ?_
  rintro e w1 ⟨rfl, rfl⟩
  go_wp2_with fail
  refine (unhide g2 _).mono ?_
  rintro e w1 ⟨rfl, b1⟩
  have HT1 := hide ((unhide HT).up b1)
  have HX1 := hide ((unhide HX).up b1)
  have HB1 := hide ((unhide HB).trans (b1.mono (unhide HB).size))
  have cb := (unhide HT1).bs p hp16
  rw [unhide HBn] at cb
  have cp := (unhide HT1).ps p hp16
  rw [unhide HP] at cp
  have cp' : w1.cell? ⟨b, 2 + p, none⟩ = some (.pointer none) := cp
  clear b1 HT HB cp HX
  go_wp2_with fail
  refine (unhide g3 _).mono ?_
  rintro e w2 ⟨rfl, rfl⟩
  go_wp2_with fail
  refine wp_region_gr (fun x => Below w1.heap.size w1 x) (by kernel_rfl) (by kernel_rfl) (gb_start w1) ?_
  have hneZ : Nonempty (Gb w1) := gb_ne w1
  have p0 : ∀ y : Gb w1, y.w.cell? ⟨b, 0, none⟩ = some (.int .i64 room) := fun y => gb_cell (unhide HT1).c0 y
  repeat (go_big_quiet_step ((go_at_call 12; exact gb_call (unhide g4 _ ((unhide HT1).up (Gr.ok _))))))
  refine wpQuiet_nil ?_
  rintro w3 ⟨x3, rfl⟩
  have b3 := x3.ok
  have HB3 := hide ((unhide HB1).trans (b3.mono (unhide HB1).size))
  have HT3 := hide ((unhide HT1).up b3)
  have HX3 := hide ((unhide HX1).up b3)
  have cp3 : x3.w.cell? ⟨b, 2 + p, none⟩ = some (.pointer none) := cell_below cp' b3
  have f3 := (unhide HT3).free (2 + p)
  have hbl := (unhide HT3).lt
  have hbn : ¬ b = x3.w.heap.size := by omega
  have k0 := (unhide HX3).c0
  have k1 := (unhide HX3).c1
  generalize x3.w = w3 at *
  clear b3 p0 cb cp' HT1 HX1 HB1 HX3
  have q2 : ¬ room ≤ (n : Int) := by omega
  have q3 : decide (room ≤ (n : Int)) = false := decide_eq_false q2
  have HF : Hid (TbAt ((w3.setCell ⟨b, 2 + p, none⟩ (.pointer (some ⟨w3.heap.size, 0, none⟩))).alloc (.cells #[.int .i64 p, .int .i64 x, .int .i64 y, .string ⟨#[]⟩, .bool false, .bool false, .bool false, .int .i64 t, .int .i64 0, .int .i64 0] 46)).drew b room tmo (tup P p (some w3.heap.size)) (tup C p ⟨p, x, y, ⟨#[]⟩, false, false, false, t, 0, 0⟩) Bn) := by
    have a1 := (unhide HT3).up ((Below.refl w3.heap.size w3).alloc (Nat.le_refl _) (.cells #[.int .i64 p, .int .i64 x, .int .i64 y, .string ⟨#[]⟩, .bool false, .bool false, .bool false, .int .i64 t, .int .i64 0, .int .i64 0] 46))
    have a2 := a1.setP p hp16 (some w3.heap.size) ⟨p, x, y, ⟨#[]⟩, false, false, false, t, 0, 0⟩ (fun g hg => by
      cases hg
      exact heap_alloc_new w3 _)
    have e1 : ((w3.alloc (.cells #[.int .i64 p, .int .i64 x, .int .i64 y, .string ⟨#[]⟩, .bool false, .bool false, .bool false, .int .i64 t, .int .i64 0, .int .i64 0] 46)).setCell ⟨b, 2 + p, none⟩ (pp (some w3.heap.size))) = (w3.setCell ⟨b, 2 + p, none⟩ (.pointer (some ⟨w3.heap.size, 0, none⟩))).alloc (.cells #[.int .i64 p, .int .i64 x, .int .i64 y, .string ⟨#[]⟩, .bool false, .bool false, .bool false, .int .i64 t, .int .i64 0, .int .i64 0] 46) := World.setCell_alloc_past _ _ _ _ hbl
    rw [e1] at a2
    exact ⟨a2.blk, a2.c0, a2.c1, a2.ps, a2.bs, a2.pe⟩
  have HKp : Hid (Kept w.heap.size b w ((w3.setCell ⟨b, 2 + p, none⟩ (.pointer (some ⟨w3.heap.size, 0, none⟩))).alloc (.cells #[.int .i64 p, .int .i64 x, .int .i64 y, .string ⟨#[]⟩, .bool false, .bool false, .bool false, .int .i64 t, .int .i64 0, .int .i64 0] 46)).drew) := by
    have k1 : Kept w.heap.size b w w3 := Kept.of_below (unhide HB3)
    have k2 := k1.trans (kept_set w.heap.size w3 b (2 + p) (.pointer (some ⟨w3.heap.size, 0, none⟩)))
    have k3 : Kept w.heap.size b (w3.setCell ⟨b, 2 + p, none⟩ (.pointer (some ⟨w3.heap.size, 0, none⟩))) ((w3.setCell ⟨b, 2 + p, none⟩ (.pointer (some ⟨w3.heap.size, 0, none⟩))).alloc (.cells #[.int .i64 p, .int .i64 x, .int .i64 y, .string ⟨#[]⟩, .bool false, .bool false, .bool false, .int .i64 t, .int .i64 0, .int .i64 0] 46)) :=
      Kept.of_below ((Below.refl _ _).alloc (by have := (unhide HB3).size; simpa using this) _)
    have k4 := k2.trans k3
    exact ⟨k4.os, k4.tape, k4.output, k4.size, k4.block⟩
  have HSZ := hide (unhide HB3).size
  clear HT3 HB3
  go_wp2
  go_region
  go_wp2
  go_ret
  exact ⟨rfl, _, unhide HF, unhide HKp, unhide HSZ⟩
end Go.Proofs.Ytbklkihcdkcagaa

/- peers: New, Ban, Meet, the example. peers: Meet. peers: the example, and PeersNil. peers: Get of a nil table, and PeersNil. peers: a table whose peers lie apart; with. -/
import Derived.Test.YtbfakbooenmhoaaQaB
import Derived.Test.YtbfakbooenmhoaaSame
namespace Go.Proofs.Ytbfakbooenmhoaa
open Go.RowKit
set_option linter.unusedVariables false
attribute [local go_sem] Oper.semAt_some

def newT (room tmo : Int) : Array Value := #[.int .i64 room, .int .i64 tmo, .pointer none, .pointer none, .pointer none, .pointer none, .pointer none, .pointer none, .pointer none, .pointer none, .pointer none, .pointer none, .pointer none, .pointer none, .pointer none, .pointer none, .pointer none, .pointer none, .bool false, .bool false, .bool false, .bool false, .bool false, .bool false, .bool false, .bool false, .bool false, .bool false, .bool false, .bool false, .bool false, .bool false, .bool false, .bool false]
set_option maxRecDepth 100000 in
set_option maxHeartbeats 1000000 in
theorem new_yes (room tmo : Int) (w : World) (h1 : 1 ≤ room ∧ room ≤ 15) (h2 : 1 ≤ tmo ∧ tmo ≤ 1099511627776) :
    Calls Try.prog 8 #[.int .i64 room, .int .i64 tmo] w fun e w' => e = .returned (.pointer (some ⟨w.heap.size, 0, none⟩)) ∧ w' = w.alloc (.cells (newT room tmo) 67) := by
  have g1 := hide (isFrom_any 1 room 15 w)
  have g2 := hide (isFrom_any 1 tmo 1099511627776 w)
  rw [decide_eq_true h1] at g1
  rw [decide_eq_true h2] at g2
  clear h1 h2
  go_enter Try.func8, Try.ntmps8
  go_wp2_with fail
  refine (unhide g1).mono ?_
  rintro e w1 ⟨rfl, rfl⟩
  go_wp2_with fail
  refine (unhide g2).mono ?_
  rintro e w1 ⟨rfl, rfl⟩
  go_wp2
  go_ret
  exact ⟨rfl, rfl⟩
def noP : Nat → Option Nat := fun _ => none
def noB : Nat → Bool := fun _ => false
theorem newT_cells (room tmo : Int) : ∀ p, p < 16 → (newT room tmo)[2 + p]? = some (pp none) ∧ (newT room tmo)[18 + p]? = some (.bool false) := by
  intro p hp
  unfold newT
  rcases (show p = 0 ∨ p = 1 ∨ p = 2 ∨ p = 3 ∨ p = 4 ∨ p = 5 ∨ p = 6 ∨ p = 7 ∨ p = 8 ∨ p = 9 ∨ p = 10 ∨ p = 11 ∨ p = 12 ∨ p = 13 ∨ p = 14 ∨ p = 15 by omega) with rfl | rfl | rfl | rfl | rfl | rfl | rfl | rfl | rfl | rfl | rfl | rfl | rfl | rfl | rfl | rfl <;> exact ⟨rfl, rfl⟩
theorem new_at (room tmo : Int) (C : Nat → Pr) (w : World) : TbAt (w.alloc (.cells (newT room tmo) 67)) w.heap.size room tmo noP C noB := by
  have hh := heap_alloc_new w (.cells (newT room tmo) 67)
  have hc : ∀ j, (w.alloc (.cells (newT room tmo) 67)).cell? ⟨w.heap.size, j, none⟩ = (newT room tmo)[j]? := fun j => cell_of_row _ _ _ _ _ _ hh
  exact ⟨⟨_, hh⟩, (hc 0).trans rfl, (hc 1).trans rfl, fun p hp => (hc _).trans (newT_cells room tmo p hp).1, fun p hp => (hc _).trans (newT_cells room tmo p hp).2, fun p g hp hg => by cases hg⟩
theorem cellT {w : World} {b i j : Nat} {x : Value} (h : i ≠ j) : (w.setCell ⟨b, i, none⟩ x).cell? ⟨b, j, none⟩ = w.cell? ⟨b, j, none⟩ := World.cell?_setCell_other _ _ _ _ (fun e => h (by cases e; rfl))
def tup {α : Type} (f : Nat → α) (p : Nat) (x : α) : Nat → α := fun k => if k = p then x else f k
theorem TbAt.notB {w : World} {b : Nat} {room tmo : Int} {P : Nat → Option Nat} {C : Nat → Pr} {Bn : Nat → Bool} (h : TbAt w b room tmo P C Bn) (p g : Nat) (hp : p < 16) (hg : P p = some g) : g ≠ b := by
  intro e
  obtain ⟨cs, hc⟩ := h.blk
  have := h.pe p g hp hg
  rw [e, hc] at this
  simp at this
theorem TbAt.setP {w : World} {b : Nat} {room tmo : Int} {P : Nat → Option Nat} {C : Nat → Pr} {Bn : Nat → Bool} (h : TbAt w b room tmo P C Bn) (p : Nat) (hp : p < 16) (x : Option Nat) (c : Pr) (hx : ∀ g, x = some g → w.heap[g]? = some (.cells c.cl.toArray 46 (0, 0))) :
    TbAt (w.setCell ⟨b, 2 + p, none⟩ (pp x)) b room tmo (tup P p x) (tup C p c) Bn where
  blk := by
    obtain ⟨cs, hc⟩ := h.blk
    exact ⟨_, heap_setCell_same w b _ cs _ _ hc⟩
  c0 := by rw [cellT (by omega)]; exact h.c0
  c1 := by rw [cellT (by omega)]; exact h.c1
  ps := fun k hk => by
    by_cases e : k = p
    · subst e
      unfold tup
      rw [if_pos rfl]
      exact World.cell?_setCell_same _ _ _ (h.ps k hk)
    · unfold tup
      rw [if_neg e, cellT (by omega)]
      exact h.ps k hk
  bs := fun k hk => by rw [cellT (by omega)]; exact h.bs k hk
  pe := fun k g hk hg => by
    have hnb : ∀ g, w.heap[g]? = some (.cells (tup C p c k).cl.toArray 46 (0, 0)) → g ≠ b := by
      intro g hg e
      obtain ⟨cs, hc⟩ := h.blk
      rw [e, hc] at hg
      simp at hg
    have hw : w.heap[g]? = some (.cells (tup C p c k).cl.toArray 46 (0, 0)) := by
      unfold tup at hg ⊢
      by_cases e : k = p
      · rw [if_pos e] at hg ⊢
        exact hx g hg
      · rw [if_neg e] at hg ⊢
        exact h.pe k g hk hg
    exact (Below.heap_setCell _ _ _ _ (hnb g hw)).trans hw
theorem TbAt.setB {w : World} {b : Nat} {room tmo : Int} {P : Nat → Option Nat} {C : Nat → Pr} {Bn : Nat → Bool} (h : TbAt w b room tmo P C Bn) (p : Nat) (hp : p < 16) (x : Bool) :
    TbAt (w.setCell ⟨b, 18 + p, none⟩ (.bool x)) b room tmo P C (tup Bn p x) where
  blk := by
    obtain ⟨cs, hc⟩ := h.blk
    exact ⟨_, heap_setCell_same w b _ cs _ _ hc⟩
  c0 := by rw [cellT (by omega)]; exact h.c0
  c1 := by rw [cellT (by omega)]; exact h.c1
  ps := fun k hk => by rw [cellT (by omega)]; exact h.ps k hk
  bs := fun k hk => by
    by_cases e : k = p
    · subst e
      unfold tup
      rw [if_pos rfl]
      exact World.cell?_setCell_same _ _ _ (h.bs k hk)
    · unfold tup
      rw [if_neg e, cellT (by omega)]
      exact h.bs k hk
  pe := fun k g hk hg => (Below.heap_setCell _ _ _ _ (h.notB k g hk hg)).trans (h.pe k g hk hg)
set_option maxRecDepth 100000 in
set_option maxHeartbeats 1000000 in
theorem ban_any (p b : Nat) (room tmo : Int) (P : Nat → Option Nat) (C : Nat → Pr) (Bn : Nat → Bool) (w : World) (hp : 1 ≤ p ∧ p ≤ 15) (h : TbAt w b room tmo P C Bn) :
    Calls Try.prog 24 #[.pointer (some ⟨b, 0, none⟩), .int .i64 p] w fun e w' => e = .returned (.int .i64 0) ∧ TbAt w' b room tmo (tup P p none) C (tup Bn p true) ∧ Kept w.heap.size b w w' := by
  have g1 := hide (isPeer_any p w)
  rw [show isPr p = true by unfold isPr; simp; omega] at g1
  have hp16 : p < 16 := by omega
  have s1 := h.setP p hp16 none (C p) (fun g hg => by cases hg)
  have s2 := s1.setB p hp16 true
  have e : tup C p (C p) = C := by
    funext k
    unfold tup
    split
    · rename_i h; rw [h]
    · rfl
  rw [e] at s2
  have S2 := hide s2
  have c1 := h.ps p hp16
  have c2 := h.bs p hp16
  have f1 := h.free (2 + p)
  have f2 := h.free (18 + p)
  have q1 : (p : Int) < 16 := by omega
  generalize pp (P p) = old at *
  generalize Bn p = ob at *
  clear h s1 s2 e
  go_enter Try.func24, Try.ntmps24
  go_wp2_with fail
  refine (unhide g1).mono ?_
  rintro e w1 ⟨rfl, rfl⟩
  go_wp2
  go_ret
  exact ⟨rfl, unhide S2, (kept_set _ _ _ _ _).trans ((kept_set _ _ _ _ _).mono (Nat.le_refl _))⟩
end Go.Proofs.Ytbfakbooenmhoaa
namespace Go.Proofs.Ytbfakbooenmhoaa
open Go.RowKit
set_option linter.unusedVariables false
attribute [local go_sem] Oper.semAt_some

set_option maxRecDepth 100000 in
theorem part_yes (n : Int) (w : World) (h : -1048576 ≤ n ∧ n ≤ 1048576) : Calls Try.prog 59 #[.int .i64 n] w fun e w' => e = .returned (.bool true) ∧ w = w' := by
  obtain ⟨h1, h2⟩ := h
  go_enter Try.func59, Try.ntmps59
  go_wp2
  go_ret
  exact ⟨rfl, rfl⟩
set_option maxRecDepth 100000 in
theorem check_yes (x y : Int) (w : World) (hx : -1048576 ≤ x ∧ x ≤ 1048576) (hy : -1048576 ≤ y ∧ y ≤ 1048576) :
    Calls Try.prog 42 #[.agg #[.int .i64 x, .int .i64 y]] w fun e w' => e = .returned (.bool true) ∧ Below w.heap.size w w' := by
  have g1 := hide (fun w => part_yes x w hx)
  have g2 := hide (fun w => part_yes y w hy)
  have B := hide ((Below.refl w.heap.size w).alloc (Nat.le_refl _) (.cells #[.int .i64 x, .int .i64 y] 31))
  clear hx hy
  go_enter Try.func42, Try.ntmps42
  go_wp2_with fail
  refine (unhide g1 _).mono ?_
  rintro e w1 ⟨rfl, rfl⟩
  go_wp2_with fail
  refine (unhide g2 _).mono ?_
  rintro e w1 ⟨rfl, rfl⟩
  go_wp2
  go_ret
  exact ⟨rfl, unhide B⟩
/-- what Meet is asked with that may be -/
structure MeetOk (p : Nat) (x y t : Int) : Prop where
  p : 1 ≤ p ∧ p ≤ 15
  x : -1048576 ≤ x ∧ x ≤ 1048576
  y : -1048576 ≤ y ∧ y ≤ 1048576
  t : 0 ≤ t ∧ t ≤ 1099511627776
set_option maxRecDepth 100000 in
set_option maxHeartbeats 2000000 in
theorem meet_ban (p b : Nat) (x y t room tmo : Int) (P : Nat → Option Nat) (C : Nat → Pr) (Bn : Nat → Bool) (w : World) (hm : MeetOk p x y t) (h : TbAt w b room tmo P C Bn) (hb : Bn p = true) :
    Calls Try.prog 18 #[.pointer (some ⟨b, 0, none⟩), .int .i64 p, .agg #[.int .i64 x, .int .i64 y], .int .i64 t] w fun e w' => e = .returned (.int .i64 10) ∧ Below w.heap.size w w' := by
  have hp16 : p < 16 := by have := hm.p; omega
  have g1 := hide (fun w => isPeer_any p w)
  rw [show isPr p = true by unfold isPr; simp; have := hm.p; omega] at g1
  have g2 := hide (fun w => check_yes x y w hm.x hm.y)
  have g3 := hide (fun w => isTime_any t w)
  rw [show isTm t = true by unfold isTm; simp; exact hm.t] at g3
  have B0 := (Below.refl w.heap.size w).alloc (Nat.le_refl _) (.cells #[.int .i64 x, .int .i64 y] 31)
  have HT := hide (h.up B0)
  have HB := hide B0
  have q1 : (p : Int) < 16 := by omega
  have HBn := hide hb
  clear h hb hm B0
  go_enter Try.func18, Try.ntmps18
  go_wp2_with fail
  refine (unhide g1 _).mono ?_
  rintro e w1 ⟨rfl, rfl⟩
  go_wp2_with fail
  refine (unhide g2 _).mono ?_
  rintro e w1 ⟨rfl, b1⟩
  have HT1 := hide ((unhide HT).up b1)
  have HB1 := hide ((unhide HB).trans (b1.mono (unhide HB).size))
  have cb := (unhide HT1).bs p hp16
  rw [unhide HBn] at cb
  clear b1 HT HB
  go_wp2_with fail
  refine (unhide g3 _).mono ?_
  rintro e w2 ⟨rfl, rfl⟩
  go_wp2
  go_ret
  exact ⟨rfl, unhide HB1⟩
set_option maxRecDepth 100000 in
set_option maxHeartbeats 4000000 in
theorem meet_full (p b : Nat) (x y t room tmo : Int) (P : Nat → Option Nat) (C : Nat → Pr) (Bn : Nat → Bool) (w : World) (hm : MeetOk p x y t) (h : TbAt w b room tmo P C Bn) (hb : Bn p = false) (hP : P p = none) (hl : room ≤ (lst P C 16).length) :
    Calls Try.prog 18 #[.pointer (some ⟨b, 0, none⟩), .int .i64 p, .agg #[.int .i64 x, .int .i64 y], .int .i64 t] w fun e w' => e = .returned (.int .i64 6) ∧ Below w.heap.size w w' := by
  have hp16 : p < 16 := by have := hm.p; omega
  have g1 := hide (fun w => isPeer_any p w)
  rw [show isPr p = true by unfold isPr; simp; have := hm.p; omega] at g1
  have g2 := hide (fun w => check_yes x y w hm.x hm.y)
  have g3 := hide (fun w => isTime_any t w)
  rw [show isTm t = true by unfold isTm; simp; exact hm.t] at g3
  have g4 := hide (fun w h => len_any w b room tmo P C Bn h)
  have B0 := (Below.refl w.heap.size w).alloc (Nat.le_refl _) (.cells #[.int .i64 x, .int .i64 y] 31)
  have HT := hide (h.up B0)
  have HB := hide B0
  have q1 : (p : Int) < 16 := by omega
  have HBn := hide hb
  have HP := hide hP
  generalize (lst P C 16).length = n at *
  clear h hb hm B0 hP
  go_enter Try.func18, Try.ntmps18
  go_wp2_with fail
  refine (unhide g1 _).mono ?_
  rintro e w1 ⟨rfl, rfl⟩
  go_wp2_with fail
  refine (unhide g2 _).mono ?_
  rintro e w1 ⟨rfl, b1⟩
  have HT1 := hide ((unhide HT).up b1)
  have HB1 := hide ((unhide HB).trans (b1.mono (unhide HB).size))
  have cb := (unhide HT1).bs p hp16
  rw [unhide HBn] at cb
  have cp := (unhide HT1).ps p hp16
  rw [unhide HP] at cp
  have cp' : w1.cell? ⟨b, 2 + p, none⟩ = some (.pointer none) := cp
  clear b1 HT HB cp
  go_wp2_with fail
  refine (unhide g3 _).mono ?_
  rintro e w2 ⟨rfl, rfl⟩
  go_wp2_with fail
  refine wp_region_gr (fun x => Below w1.heap.size w1 x) (by kernel_rfl) (by kernel_rfl) (gb_start w1) ?_
  have hneZ : Nonempty (Gb w1) := gb_ne w1
  have p0 : ∀ y : Gb w1, y.w.cell? ⟨b, 0, none⟩ = some (.int .i64 room) := fun y => gb_cell (unhide HT1).c0 y
  repeat (go_big_quiet_step ((go_at_call 12; exact gb_call (unhide g4 _ ((unhide HT1).up (Gr.ok _))))))
  refine wpQuiet_nil ?_
  rintro w3 ⟨x3, rfl⟩
  have b3 := x3.ok
  have HB3 := hide ((unhide HB1).trans (b3.mono (unhide HB1).size))
  generalize x3.w = w3 at *
  clear b3 p0 cb cp'
  have q2 : room ≤ (n : Int) := by omega
  go_wp2
  go_ret
  exact ⟨rfl, unhide HB3⟩
set_option maxRecDepth 100000 in
set_option maxHeartbeats 4000000 in
theorem meet_ok (p b : Nat) (x y t room tmo : Int) (P : Nat → Option Nat) (C : Nat → Pr) (Bn : Nat → Bool) (w : World) (hm : MeetOk p x y t) (h : TbAt w b room tmo P C Bn) (hb : Bn p = false) (hP : P p = none) (hl : ¬ room ≤ (lst P C 16).length) :
    Calls Try.prog 18 #[.pointer (some ⟨b, 0, none⟩), .int .i64 p, .agg #[.int .i64 x, .int .i64 y], .int .i64 t] w fun e w' => e = .returned (.int .i64 0) ∧ ∃ g, TbAt w' b room tmo (tup P p (some g)) (tup C p ⟨p, x, y, ⟨#[]⟩, false, false, false, t, 0, 0⟩) Bn ∧ Kept w.heap.size b w w' ∧ w.heap.size ≤ g := by
  have hp16 : p < 16 := by have := hm.p; omega
  have g1 := hide (fun w => isPeer_any p w)
  rw [show isPr p = true by unfold isPr; simp; have := hm.p; omega] at g1
  have g2 := hide (fun w => check_yes x y w hm.x hm.y)
  have g3 := hide (fun w => isTime_any t w)
  rw [show isTm t = true by unfold isTm; simp; exact hm.t] at g3
  have g4 := hide (fun w h => len_any w b room tmo P C Bn h)
  have B0 := (Below.refl w.heap.size w).alloc (Nat.le_refl _) (.cells #[.int .i64 x, .int .i64 y] 31)
  have HT := hide (h.up B0)
  have HB := hide B0
  have HX : Hid (Two (w.alloc (.cells #[.int .i64 x, .int .i64 y] 31)) w.heap.size (.int .i64 x) (.int .i64 y) 31) := two_alloc w _ _ _
  have q1 : (p : Int) < 16 := by omega
  have HBn := hide hb
  have HP := hide hP
  generalize (lst P C 16).length = n at *
  clear h hb hm B0 hP
  go_enter Try.func18, Try.ntmps18
  go_wp2_with fail
  refine (unhide g1 _).mono ?_
  rintro e w1 ⟨rfl, rfl⟩
  go_wp2_with fail
  refine (unhide g2 _).mono ?_
  rintro e w1 ⟨rfl, b1⟩
  have HT1 := hide ((unhide HT).up b1)
  have HX1 := hide ((unhide HX).up b1)
  have HB1 := hide ((unhide HB).trans (b1.mono (unhide HB).size))
  have cb := (unhide HT1).bs p hp16
  rw [unhide HBn] at cb
  have cp := (unhide HT1).ps p hp16
  rw [unhide HP] at cp
  have cp' : w1.cell? ⟨b, 2 + p, none⟩ = some (.pointer none) := cp
  clear b1 HT HB cp HX
  go_wp2_with fail
  refine (unhide g3 _).mono ?_
  rintro e w2 ⟨rfl, rfl⟩
  go_wp2_with fail
  refine wp_region_gr (fun x => Below w1.heap.size w1 x) (by kernel_rfl) (by kernel_rfl) (gb_start w1) ?_
  have hneZ : Nonempty (Gb w1) := gb_ne w1
  have p0 : ∀ y : Gb w1, y.w.cell? ⟨b, 0, none⟩ = some (.int .i64 room) := fun y => gb_cell (unhide HT1).c0 y
  repeat (go_big_quiet_step ((go_at_call 12; exact gb_call (unhide g4 _ ((unhide HT1).up (Gr.ok _))))))
  refine wpQuiet_nil ?_
  rintro w3 ⟨x3, rfl⟩
  have b3 := x3.ok
  have HB3 := hide ((unhide HB1).trans (b3.mono (unhide HB1).size))
  have HT3 := hide ((unhide HT1).up b3)
  have HX3 := hide ((unhide HX1).up b3)
  have cp3 : x3.w.cell? ⟨b, 2 + p, none⟩ = some (.pointer none) := cell_below cp' b3
  have f3 := (unhide HT3).free (2 + p)
  have hbl := (unhide HT3).lt
  have hbn : ¬ b = x3.w.heap.size := by omega
  have k0 := (unhide HX3).c0
  have k1 := (unhide HX3).c1
  generalize x3.w = w3 at *
  clear b3 p0 cb cp' HT1 HX1 HB1 HX3
  have q2 : ¬ room ≤ (n : Int) := by omega
  have q3 : decide (room ≤ (n : Int)) = false := decide_eq_false q2
  have HF : Hid (TbAt ((w3.setCell ⟨b, 2 + p, none⟩ (.pointer (some ⟨w3.heap.size, 0, none⟩))).alloc (.cells #[.int .i64 p, .int .i64 x, .int .i64 y, .string ⟨#[]⟩, .bool false, .bool false, .bool false, .int .i64 t, .int .i64 0, .int .i64 0] 46)).drew b room tmo (tup P p (some w3.heap.size)) (tup C p ⟨p, x, y, ⟨#[]⟩, false, false, false, t, 0, 0⟩) Bn) := by
    have a1 := (unhide HT3).up ((Below.refl w3.heap.size w3).alloc (Nat.le_refl _) (.cells #[.int .i64 p, .int .i64 x, .int .i64 y, .string ⟨#[]⟩, .bool false, .bool false, .bool false, .int .i64 t, .int .i64 0, .int .i64 0] 46))
    have a2 := a1.setP p hp16 (some w3.heap.size) ⟨p, x, y, ⟨#[]⟩, false, false, false, t, 0, 0⟩ (fun g hg => by
      cases hg
      exact heap_alloc_new w3 _)
    have e1 : ((w3.alloc (.cells #[.int .i64 p, .int .i64 x, .int .i64 y, .string ⟨#[]⟩, .bool false, .bool false, .bool false, .int .i64 t, .int .i64 0, .int .i64 0] 46)).setCell ⟨b, 2 + p, none⟩ (pp (some w3.heap.size))) = (w3.setCell ⟨b, 2 + p, none⟩ (.pointer (some ⟨w3.heap.size, 0, none⟩))).alloc (.cells #[.int .i64 p, .int .i64 x, .int .i64 y, .string ⟨#[]⟩, .bool false, .bool false, .bool false, .int .i64 t, .int .i64 0, .int .i64 0] 46) := World.setCell_alloc_past _ _ _ _ hbl
    rw [e1] at a2
    exact ⟨a2.blk, a2.c0, a2.c1, a2.ps, a2.bs, a2.pe⟩
  have HKp : Hid (Kept w.heap.size b w ((w3.setCell ⟨b, 2 + p, none⟩ (.pointer (some ⟨w3.heap.size, 0, none⟩))).alloc (.cells #[.int .i64 p, .int .i64 x, .int .i64 y, .string ⟨#[]⟩, .bool false, .bool false, .bool false, .int .i64 t, .int .i64 0, .int .i64 0] 46)).drew) := by
    have k1 : Kept w.heap.size b w w3 := Kept.of_below (unhide HB3)
    have k2 := k1.trans (kept_set w.heap.size w3 b (2 + p) (.pointer (some ⟨w3.heap.size, 0, none⟩)))
    have k3 : Kept w.heap.size b (w3.setCell ⟨b, 2 + p, none⟩ (.pointer (some ⟨w3.heap.size, 0, none⟩))) ((w3.setCell ⟨b, 2 + p, none⟩ (.pointer (some ⟨w3.heap.size, 0, none⟩))).alloc (.cells #[.int .i64 p, .int .i64 x, .int .i64 y, .string ⟨#[]⟩, .bool false, .bool false, .bool false, .int .i64 t, .int .i64 0, .int .i64 0] 46)) :=
      Kept.of_below ((Below.refl _ _).alloc (by have := (unhide HB3).size; simpa using this) _)
    have k4 := k2.trans k3
    exact ⟨k4.os, k4.tape, k4.output, k4.size, k4.block⟩
  have HSZ := hide (unhide HB3).size
  clear HT3 HB3
  go_wp2
  go_region
  go_wp2
  go_ret
  exact ⟨rfl, _, unhide HF, unhide HKp, unhide HSZ⟩
end Go.Proofs.Ytbfakbooenmhoaa
namespace Go.Proofs.Ytbfakbooenmhoaa
open Go.RowKit
set_option linter.unusedVariables false
attribute [local go_sem] Oper.semAt_some

theorem lst_none (C : Nat → Pr) : (lst noP C 16).length = 0 := rfl
theorem lst_one (C : Nat → Pr) (P : Nat → Option Nat) (p g : Nat) (hp : p = 3 ∨ p = 4) (h : ∀ k, P k = if k = p then some g else none) : (lst P C 16).length = 1 := by
  have e : P = fun k => if k = p then some g else none := funext h
  subst e
  rcases hp with rfl | rfl
  · rfl
  · rfl
theorem kept_below {w w' : World} {B b : Nat} (h : Kept w.heap.size b w w') (hb : B ≤ b) (hB : B ≤ w.heap.size) : Below B w w' := h.below B hB hb
set_option maxRecDepth 100000 in
set_option maxHeartbeats 2000000 in
theorem pawake_any (w : World) : Calls Try.prog 9 #[] w fun x w' => x = .returned (.bool true) ∧ Below w.heap.size w w' := by
  obtain ⟨c0, hc0⟩ : ∃ c : Nat → Pr, c = fun _ => ⟨0, 0, 0, ⟨#[]⟩, false, false, false, 0, 0, 0⟩ := ⟨_, rfl⟩
  have mo : ∀ p, (p = 3 ∨ p = 4) → MeetOk p 0 0 0 := fun p hp => ⟨by omega, by decide, by decide, by decide⟩
  have h1 := hide (new_yes 1 9 w (by decide) (by decide))
  have B1 := hide ((Below.refl w.heap.size w).alloc (Nat.le_refl _) (.cells (newT 1 9) 67))
  have T1 := hide (new_at 1 9 c0 w)
  have MO := hide mo
  clear mo hc0
  go_enter Try.func9, Try.ntmps9
  go_wp2_with fail
  refine (unhide h1).mono ?_
  rintro e w1 ⟨rfl, hw1⟩
  rw [← hw1] at T1 B1
  clear h1 hw1
  go_wp2_with fail
  refine (meet_ok 3 w.heap.size 0 0 0 1 9 noP c0 noB w1 (unhide MO 3 (.inl rfl)) (unhide T1) rfl rfl (by rw [lst_none]; decide)).mono ?_
  rintro e w2 ⟨rfl, g2, t2, k2, _⟩
  have T2 := hide t2
  have B2 := hide ((unhide B1).trans (kept_below k2 (Nat.le_refl _) (unhide B1).size))
  clear t2 k2 T1 B1
  go_wp2_with fail
  refine (meet_full 4 w.heap.size 0 0 0 1 9 _ _ noB w2 (unhide MO 4 (.inr rfl)) (unhide T2) rfl rfl (by rw [lst_one _ (tup noP 3 (some g2)) 3 g2 (.inl rfl) (fun k => rfl)]; decide)).mono ?_
  rintro e w3 ⟨rfl, b3⟩
  have T3 := hide ((unhide T2).up b3)
  have B3 := hide ((unhide B2).trans (b3.mono (unhide B2).size))
  clear b3 T2 B2
  go_wp2_with fail
  refine (ban_any 3 w.heap.size 1 9 _ _ noB w3 (by decide) (unhide T3)).mono ?_
  rintro e w4 ⟨rfl, t4, k4⟩
  have T4 := hide t4
  have B4 := hide ((unhide B3).trans (kept_below k4 (Nat.le_refl _) (unhide B3).size))
  clear t4 k4 T3 B3
  have hP4 : Hid (∀ k, tup (tup noP 3 (some g2)) 3 none k = none) := by
    intro k
    unfold tup noP
    by_cases e : k = 3
    · rw [if_pos e]
    · rw [if_neg e, if_neg e]
  have hP4' : tup (tup noP 3 (some g2)) 3 none = noP := funext (unhide hP4)
  rw [hP4'] at T4
  clear hP4 hP4'
  go_wp2_with fail
  refine (meet_ok 4 w.heap.size 0 0 0 1 9 noP _ _ w4 (unhide MO 4 (.inr rfl)) (unhide T4) rfl rfl (by rw [lst_none]; decide)).mono ?_
  rintro e w5 ⟨rfl, g5, t5, k5, _⟩
  have T5 := hide t5
  have B5 := hide ((unhide B4).trans (kept_below k5 (Nat.le_refl _) (unhide B4).size))
  clear t5 k5 T4 B4
  go_wp2_with fail
  refine (meet_ban 3 w.heap.size 0 0 0 1 9 _ _ _ w5 (unhide MO 3 (.inl rfl)) (unhide T5) rfl).mono ?_
  rintro e w6 ⟨rfl, b6⟩
  have T6 := hide ((unhide T5).up b6)
  have B6 := hide ((unhide B5).trans (b6.mono (unhide B5).size))
  clear b6 T5 B5
  have hlen := hide (len_any w6 w.heap.size 1 9 _ _ _ (unhide T6))
  rw [lst_one _ (tup noP 4 (some g5)) 4 g5 (.inr rfl) (fun k => rfl)] at hlen
  go_wp2_with fail
  refine (unhide hlen).mono ?_
  rintro e w7 ⟨rfl, b7⟩
  have B7 := hide ((unhide B6).trans (b7.mono (unhide B6).size))
  clear b7
  go_wp2
  go_ret
  exact ⟨rfl, unhide B7⟩
end Go.Proofs.Ytbfakbooenmhoaa
namespace Go.Proofs.Ytbfakbooenmhoaa
open Go.RowKit
set_option linter.unusedVariables false
attribute [local go_sem] Oper.semAt_some

abbrev zPr : Value := .agg #[.int .i64 0, .int .i64 0, .int .i64 0, .string ⟨#[]⟩, .bool false, .bool false, .bool false, .int .i64 0, .int .i64 0, .int .i64 0]
theorem results_row2 {P : Program} {fn : Func} {p q : Tmp} {ty : TypeId} (h : fn.results = #[.cell p ty, .tmp q]) (tmps : Array Value) (w : World) (g : Nat) (t : TypeId) (cs : Array Value) (fr : Nat × Nat) (fs : Array Field)
    (hp : tmps.getD p undef = .pointer (some ⟨g, 0, none⟩)) (hg : w.heap[g]? = some (.cells cs t fr)) (hu : P.underlying ty = some (.struct fs)) (hi : (P.info? ty).map (·.size) = some cs.size) :
    (results fn tmps).run P w = .ok (.tuple #[.agg cs, tmps.getD q undef]) w := by
  have hp' : tmps[p]?.getD undef = .pointer (some ⟨g, 0, none⟩) := by simpa using hp
  simp [results, h, hp', asAddr, run_loadVar_row w g t ty cs fr _ hg hu rfl hi]
theorem ret_row2 {fn : Func} {p q : Tmp} {ty : TypeId} {a : Act} {w : World} {R : Ending → World → Prop} (h : fn.results = #[.cell p ty, .tmp q]) (g : Nat) (t : TypeId) (cs : Array Value) (fr : Nat × Nat) (z : Value) (fs : Array Field)
    (hp : a.tmps.getD p undef = .pointer (some ⟨g, 0, none⟩)) (hz : a.tmps.getD q undef = z) (hg : w.heap[g]? = some (.cells cs t fr)) (hdf : a.defers = []) (hu : Try.prog.underlying ty = some (.struct fs)) (hi : (Try.prog.info? ty).map (·.size) = some cs.size)
    (hR : R (.returned (.tuple #[.agg cs, z])) w) : bodyPost Try.prog fn R .ret a w := by
  refine bodyPost_ret (results_row2 h _ w g t cs fr fs hp hg hu hi) hdf ?_
  rw [hz]
  exact hR
set_option maxRecDepth 100000 in
set_option maxHeartbeats 2000000 in
theorem get_nil (n : Int) (w : World) : Calls Try.prog 16 #[.pointer none, .int .i64 n] w fun e w' => e = .returned (.tuple #[zPr, .bool false]) ∧ Below w.heap.size w w' := by
  go_enter Try.func16, Try.ntmps16
  go_wp2_with fail
  refine (with_nil n _ _).mono ?_
  rintro e w1 ⟨rfl, rfl⟩
  go_wp2
  exact ret_row2 (p := 4) (q := 5) (ty := 46) (by kernel_rfl) w.heap.size 46 #[.int .i64 0, .int .i64 0, .int .i64 0, .string ⟨#[]⟩, .bool false, .bool false, .bool false, .int .i64 0, .int .i64 0, .int .i64 0] (0, 0) _ _ rfl rfl (by first | (rw [Below.heap_alloc _ _ _ (by simp)]; exact heap_alloc_new w _) | simp [heap_alloc_new]) rfl Try.underlying46 (by kernel_rfl) ⟨rfl, ((Below.refl _ _).alloc (Nat.le_refl _) _).alloc (by simp) _⟩
theorem seven_cells {w : World} {b : Nat} {c0 c1 c2 c3 c4 c5 c6 : Value} {t : TypeId} (h : w.heap[b]? = some (.cells #[c0, c1, c2, c3, c4, c5, c6] t (0, 0))) : w.cell? ⟨b, 0, none⟩ = some c0 ∧ w.cell? ⟨b, 1, none⟩ = some c1 ∧ w.cell? ⟨b, 2, none⟩ = some c2 ∧ w.cell? ⟨b, 3, none⟩ = some c3 ∧ w.cell? ⟨b, 4, none⟩ = some c4 ∧ w.cell? ⟨b, 5, none⟩ = some c5 ∧ w.cell? ⟨b, 6, none⟩ = some c6 := by simp [World.cell?, h]
set_option maxRecDepth 100000 in
set_option maxHeartbeats 8000000 in
theorem peersNil_any (kd nd n x y : Int) (s : ByteArray) (on : Bool) (w : World) :
    Calls Try.prog 7 #[.agg #[.int .i64 kd, .int .i64 nd, .int .i64 n, .int .i64 x, .int .i64 y, .string s, .bool on]] w fun e w' => e = .returned (.bool true) ∧ Below w.heap.size w w' := by
  have B0 := hide ((Below.refl w.heap.size w).alloc (Nat.le_refl _) (.cells #[.int .i64 kd, .int .i64 nd, .int .i64 n, .int .i64 x, .int .i64 y, .string s, .bool on] 33))
  have HC := hide (heap_alloc_new w (.cells #[.int .i64 kd, .int .i64 nd, .int .i64 n, .int .i64 x, .int .i64 y, .string s, .bool on] 33))
  by_cases hs : (100 : Int) < s.size
  · go_enter Try.func7, Try.ntmps7
    go_wp2_with fail
    refine (pawake_any _).mono ?_
    rintro e w1 ⟨rfl, b1⟩
    have B1 := hide ((unhide B0).trans (b1.mono (unhide B0).size))
    clear b1
    go_wp2
    go_ret
    exact ⟨rfl, unhide B1⟩
  · go_enter Try.func7, Try.ntmps7
    go_wp2_with fail
    refine (roll_nil _).mono ?_
    rintro e w1 ⟨rfl, rfl⟩
    generalize w.alloc (.cells #[.int .i64 kd, .int .i64 nd, .int .i64 n, .int .i64 x, .int .i64 y, .string s, .bool on] 33) = W at *
    obtain ⟨c0, c1, c2, c3, c4, c5, c6⟩ := seven_cells (unhide HC)
    go_wp2_with fail
    refine (get_nil nd W).mono ?_
    rintro e w1 ⟨rfl, b1⟩
    have HC1 := hide ((b1.block _ (lt_of_block (unhide HC))).trans (unhide HC))
    have B1 := hide ((unhide B0).trans (b1.mono (unhide B0).size))
    have hl1 := lt_of_block (unhide HC1)
    clear c0 c1 c2 c3 c4 c5 c6 b1 HC B0
    obtain ⟨c0, c1, c2, c3, c4, c5, c6⟩ := seven_cells (unhide HC1)
    go_wp2_with fail
    have HC2 := hide ((Below.heap_alloc w1 (.cells #[.int .i64 0, .int .i64 0, .int .i64 0, .string ⟨#[]⟩, .bool false, .bool false, .bool false, .int .i64 0, .int .i64 0, .int .i64 0] 46) _ hl1).trans (unhide HC1))
    have B2 := hide ((unhide B1).alloc (unhide B1).size (.cells #[.int .i64 0, .int .i64 0, .int .i64 0, .string ⟨#[]⟩, .bool false, .bool false, .bool false, .int .i64 0, .int .i64 0, .int .i64 0] 46))
    generalize w1.alloc (.cells #[.int .i64 0, .int .i64 0, .int .i64 0, .string ⟨#[]⟩, .bool false, .bool false, .bool false, .int .i64 0, .int .i64 0, .int .i64 0] 46) = w2 at *
    clear c0 c1 c2 c3 c4 c5 c6 HC1 B1 hl1
    refine (meet_nil nd x y n w2).mono ?_
    rintro e w3 ⟨rfl, b3⟩
    have HC3 := hide ((b3.block _ (lt_of_block (unhide HC2))).trans (unhide HC2))
    have B3 := hide ((unhide B2).trans (b3.mono (unhide B2).size))
    clear b3 HC2 B2
    obtain ⟨c0, c1, c2, c3, c4, c5, c6⟩ := seven_cells (unhide HC3)
    go_wp2_with fail
    refine (hear_nil nd n w3).mono ?_
    rintro e w4 ⟨rfl, b4⟩
    have HC4 := hide ((b4.block _ (lt_of_block (unhide HC3))).trans (unhide HC3))
    have B4 := hide ((unhide B3).trans (b4.mono (unhide B3).size))
    clear b4 HC3 B3 c0 c1 c2 c3 c4 c5 c6
    obtain ⟨c0, c1, c2, c3, c4, c5, c6⟩ := seven_cells (unhide HC4)
    go_wp2_with fail
    refine (leave_nil nd w4).mono ?_
    rintro e w5 ⟨rfl, b5⟩
    have HC5 := hide ((b5.block _ (lt_of_block (unhide HC4))).trans (unhide HC4))
    have B5 := hide ((unhide B4).trans (b5.mono (unhide B4).size))
    clear b5 HC4 B4 c0 c1 c2 c3 c4 c5 c6
    obtain ⟨c0, c1, c2, c3, c4, c5, c6⟩ := seven_cells (unhide HC5)
    go_wp2_with fail
    refine (ban_nil nd w5).mono ?_
    rintro e wz ⟨rfl, rfl⟩
    go_wp2_with fail
    refine (setHave_nil nd s w5).mono ?_
    rintro e w6 ⟨rfl, b6⟩
    have HC6 := hide ((b6.block _ (lt_of_block (unhide HC5))).trans (unhide HC5))
    have B6 := hide ((unhide B5).trans (b6.mono (unhide B5).size))
    clear b6 HC5 B5 c0 c1 c2 c3 c4 c5 c6
    obtain ⟨c0, c1, c2, c3, c4, c5, c6⟩ := seven_cells (unhide HC6)
    go_wp2_with fail
    refine (setWants_nil nd on w6).mono ?_
    rintro e w7 ⟨rfl, b7⟩
    have HC7 := hide ((b7.block _ (lt_of_block (unhide HC6))).trans (unhide HC6))
    have B7 := hide ((unhide B6).trans (b7.mono (unhide B6).size))
    clear b7 HC6 B6 c0 c1 c2 c3 c4 c5 c6
    obtain ⟨c0, c1, c2, c3, c4, c5, c6⟩ := seven_cells (unhide HC7)
    go_wp2_with fail
    refine (setOpen_nil nd on w7).mono ?_
    rintro e w8 ⟨rfl, b8⟩
    have HC8 := hide ((b8.block _ (lt_of_block (unhide HC7))).trans (unhide HC7))
    have B8 := hide ((unhide B7).trans (b8.mono (unhide B7).size))
    clear b8 HC7 B7 c0 c1 c2 c3 c4 c5 c6
    obtain ⟨c0, c1, c2, c3, c4, c5, c6⟩ := seven_cells (unhide HC8)
    go_wp2_with fail
    refine (setOpens_nil nd on w8).mono ?_
    rintro e w9 ⟨rfl, b9⟩
    have HC9 := hide ((b9.block _ (lt_of_block (unhide HC8))).trans (unhide HC8))
    have B9 := hide ((unhide B8).trans (b9.mono (unhide B8).size))
    clear b9 HC8 B8 c0 c1 c2 c3 c4 c5 c6
    obtain ⟨c0, c1, c2, c3, c4, c5, c6⟩ := seven_cells (unhide HC9)
    go_wp2_with fail
    refine (count_nil nd n w9).mono ?_
    rintro e w10 ⟨rfl, b10⟩
    have HC10 := hide ((b10.block _ (lt_of_block (unhide HC9))).trans (unhide HC9))
    have B10 := hide ((unhide B9).trans (b10.mono (unhide B9).size))
    clear b10 HC9 B9 c0 c1 c2 c3 c4 c5 c6
    obtain ⟨c0, c1, c2, c3, c4, c5, c6⟩ := seven_cells (unhide HC10)
    go_wp2_with fail
    refine (pawake_any w10).mono ?_
    rintro e w11 ⟨rfl, b11⟩
    have HC11 := hide ((b11.block _ (lt_of_block (unhide HC10))).trans (unhide HC10))
    have B11 := hide ((unhide B10).trans (b11.mono (unhide B10).size))
    clear b11 HC10 B10 c0 c1 c2 c3 c4 c5 c6
    obtain ⟨c0, c1, c2, c3, c4, c5, c6⟩ := seven_cells (unhide HC11)
    go_wp2_with fail
    refine (expire_nil n w11).mono ?_
    rintro e wz ⟨rfl, rfl⟩
    go_wp2_with fail
    refine (list_nil w11).mono ?_
    rintro e wz ⟨rfl, rfl⟩
    go_wp2_with fail
    refine (len_nil w11).mono ?_
    rintro e wz ⟨rfl, rfl⟩
    go_wp2_with fail
    refine (banned_nil nd w11).mono ?_
    rintro e wz ⟨rfl, rfl⟩
    go_wp2
    go_ret
    exact ⟨rfl, unhide B11⟩
end Go.Proofs.Ytbfakbooenmhoaa
namespace Go.Proofs.Ytbfakbooenmhoaa
open Go.RowKit
set_option linter.unusedVariables false
attribute [local go_sem] Oper.semAt_some

/-- what is known of a peer stays within its bounds -/
structure Bd (c : Pr) : Prop where
  se : 0 ≤ c.se ∧ c.se ≤ 1099511627776
  nw : 0 ≤ c.nw ∧ c.nw ≤ 1099511627776
/-- a table of the caller's own, from block B on, whose peers lie apart -/
structure Tb (B : Nat) (w : World) (b : Nat) (room tmo : Int) (P : Nat → Option Nat) (C : Nat → Pr) (Bn : Nat → Bool) : Prop where
  tb : TbAt w b room tmo P C Bn
  inj : ∀ p q g, p < 16 → q < 16 → P p = some g → P q = some g → p = q
  nd : ∀ p g, p < 16 → P p = some g → (C p).nd = p
  p0 : P 0 = none
  bd : ∀ p, Bd (C p)
  own : B ≤ b
  ownp : ∀ p g, p < 16 → P p = some g → B ≤ g
/-- all blocks but the table's and its peers' stay -/
structure KT (b : Nat) (P : Nat → Option Nat) (w w' : World) : Prop where
  os : w'.os = w.os
  tape : w'.tape = w.tape
  output : w'.output = w.output
  size : w.heap.size ≤ w'.heap.size
  block : ∀ x, x < w.heap.size → x ≠ b → (∀ p, p < 16 → P p ≠ some x) → w'.heap[x]? = w.heap[x]?
theorem KT.of_below {b : Nat} {P : Nat → Option Nat} {w w' : World} (h : Below w.heap.size w w') : KT b P w w' := ⟨h.os, h.tape, h.output, h.size, fun x hx _ _ => h.block x hx⟩
theorem KT.of_kept {b : Nat} {P : Nat → Option Nat} {w w' : World} (h : Kept w.heap.size b w w') : KT b P w w' := ⟨h.os, h.tape, h.output, h.size, fun x hx hb _ => h.block x hx hb⟩
theorem KT.trans {b : Nat} {P P' : Nat → Option Nat} {x y z : World} (h : KT b P x y) (k : KT b P' y z) (hP : ∀ p g, p < 16 → P' p = some g → (∃ q, q < 16 ∧ P q = some g) ∨ x.heap.size ≤ g) : KT b P x z :=
  ⟨k.os.trans h.os, k.tape.trans h.tape, k.output.trans h.output, Nat.le_trans h.size k.size, fun i hi hb hn => (k.block i (Nat.lt_of_lt_of_le hi h.size) hb (fun p hp e => by
    rcases hP p i hp e with ⟨q, hq, e2⟩ | h2
    · exact hn q hq e2
    · omega)).trans (h.block i hi hb hn)⟩
theorem KT.trans' {b : Nat} {P : Nat → Option Nat} {x y z : World} (h : KT b P x y) (k : KT b P y z) : KT b P x z := h.trans k fun p g hp e => .inl ⟨p, hp, e⟩
theorem Tb.below {B : Nat} {w w' : World} {b : Nat} {room tmo : Int} {P : Nat → Option Nat} {C : Nat → Pr} {Bn : Nat → Bool} (h : Tb B w b room tmo P C Bn) (k : KT b P w w') : Below B w w' :=
  ⟨k.os, k.tape, k.output, k.size, fun i hi => by
    have hl := h.tb.lt
    have ho := h.own
    refine k.block i (by omega) (by omega) (fun p hp e => ?_)
    have := h.ownp p i hp e
    omega⟩
theorem Tb.up {B : Nat} {w w' : World} {b : Nat} {room tmo : Int} {P : Nat → Option Nat} {C : Nat → Pr} {Bn : Nat → Bool} (h : Tb B w b room tmo P C Bn) (hb : Below w.heap.size w w') : Tb B w' b room tmo P C Bn := ⟨h.tb.up hb, h.inj, h.nd, h.p0, h.bd, h.own, h.ownp⟩
/-- a peer's block holds another one, all else stays -/
structure CP (g : Nat) (c : Pr) (w w' : World) : Prop where
  blk : w'.heap[g]? = some (.cells c.cl.toArray 46 (0, 0))
  kept : Kept w.heap.size g w w'
theorem Tb.put {B : Nat} {w w1 w2 : World} {b : Nat} {room tmo : Int} {P : Nat → Option Nat} {C : Nat → Pr} {Bn : Nat → Bool} (h : Tb B w b room tmo P C Bn) (h1 : Below w.heap.size w w1) {p g : Nat} (hp : p < 16) (hg : P p = some g) {c : Pr} (hn : c.nd = p) (hb : Bd c) (k : CP g c w1 w2) :
    Tb B w2 b room tmo P (tup C p c) Bn ∧ KT b P w w2 := by
  have t1 := h.up h1
  have hgl : g < w1.heap.size := lt_of_block (t1.tb.pe p g hp hg)
  have hbg : b ≠ g := fun e => t1.tb.notB p g hp hg e.symm
  have kb := k.kept.block b t1.tb.lt hbg
  refine ⟨⟨⟨by rw [kb]; exact t1.tb.blk, (World.cell?_of_block kb).trans t1.tb.c0, (World.cell?_of_block kb).trans t1.tb.c1, fun q hq => (World.cell?_of_block kb).trans (t1.tb.ps q hq), fun q hq => (World.cell?_of_block kb).trans (t1.tb.bs q hq), fun q g2 hq hg2 => ?_⟩, h.inj, ?_, h.p0, ?_, h.own, h.ownp⟩, ?_⟩
  · by_cases e : q = p
    · subst e
      rw [hg] at hg2
      cases hg2
      unfold tup
      rw [if_pos rfl]
      exact k.blk
    · have hne : g2 ≠ g := fun e2 => e (h.inj q p g2 hq hp hg2 (by rw [e2]; exact hg))
      unfold tup
      rw [if_neg e]
      exact (k.kept.block g2 (lt_of_block (t1.tb.pe q g2 hq hg2)) hne).trans (t1.tb.pe q g2 hq hg2)
  · intro q g2 hq hg2
    unfold tup
    by_cases e : q = p
    · rw [if_pos e, e]; exact hn
    · rw [if_neg e]; exact h.nd q g2 hq hg2
  · intro q
    unfold tup
    by_cases e : q = p
    · rw [if_pos e]; exact hb
    · rw [if_neg e]; exact h.bd q
  · exact ⟨k.kept.os.trans h1.os, k.kept.tape.trans h1.tape, k.kept.output.trans h1.output, Nat.le_trans h1.size k.kept.size, fun x hx hxb hxp => (k.kept.block x (Nat.lt_of_lt_of_le hx h1.size) (fun e => hxp p hp (by rw [hg, e]))).trans (h1.block x hx)⟩
/-- nobody of that number is there -/
def NoP (P : Nat → Option Nat) (n : Int) : Prop := isPr n = false ∨ ∃ p : Nat, n = p ∧ 1 ≤ p ∧ p ≤ 15 ∧ P p = none
set_option maxRecDepth 100000 in
set_option maxHeartbeats 1000000 in
theorem with_no (n : Int) (f : Value) (b : Nat) (room tmo : Int) (P : Nat → Option Nat) (C : Nat → Pr) (Bn : Nat → Bool) (w : World) (h : TbAt w b room tmo P C Bn) (hn : NoP P n) :
    Calls Try.prog 40 #[.pointer (some ⟨b, 0, none⟩), .int .i64 n, f] w fun e w' => e = .returned (.int .i64 4) ∧ w = w' := by
  rcases hn with hn | ⟨p, rfl, h1, h15, hP⟩
  · have g1 := hide (isPeer_any n w)
    rw [hn] at g1
    clear h hn
    go_enter Try.func40, Try.ntmps40
    go_wp2_with fail
    refine (unhide g1).mono ?_
    rintro e w1 ⟨rfl, rfl⟩
    go_wp2
    go_ret
    exact ⟨rfl, rfl⟩
  · have g1 := hide (isPeer_any p w)
    rw [show isPr p = true by unfold isPr; simp; omega] at g1
    have cp := h.ps p (by omega)
    rw [hP] at cp
    have cp' : w.cell? ⟨b, 2 + p, none⟩ = some (.pointer none) := cp
    have q1 : (p : Int) < 16 := by omega
    clear h hP cp
    go_enter Try.func40, Try.ntmps40
    go_wp2_with fail
    refine (unhide g1).mono ?_
    rintro e w1 ⟨rfl, rfl⟩
    go_wp2
    go_ret
    exact ⟨rfl, rfl⟩
set_option maxRecDepth 100000 in
set_option maxHeartbeats 1000000 in
theorem with_yes (p g : Nat) (F : FuncId) (hcf : ∀ args w, (callFunc F args).run Try.prog w = .ok (.enter F args) w) (cap : Value) (R : World → Prop) (b : Nat) (room tmo : Int) (P : Nat → Option Nat) (C : Nat → Pr) (Bn : Nat → Bool) (w : World) (h : TbAt w b room tmo P C Bn) (hp : 1 ≤ p ∧ p ≤ 15) (hP : P p = some g)
    (hF : Calls Try.prog F #[.pointer (some ⟨g, 0, none⟩), cap] w fun e w' => e = .returned (.tuple #[]) ∧ R w') :
    Calls Try.prog 40 #[.pointer (some ⟨b, 0, none⟩), .int .i64 p, .func (.func F) #[] #[cap]] w fun e w' => e = .returned (.int .i64 0) ∧ R w' := by
  have g1 := hide (isPeer_any p w)
  rw [show isPr p = true by unfold isPr; simp; omega] at g1
  have cp := h.ps p (by omega)
  rw [hP] at cp
  have cp' : w.cell? ⟨b, 2 + p, none⟩ = some (.pointer (some ⟨g, 0, none⟩)) := cp
  have q1 : (p : Int) < 16 := by omega
  have HF := hide hF
  have HC := hide hcf
  clear h hP cp hF hcf
  go_enter Try.func40, Try.ntmps40
  go_wp2_with fail
  refine (unhide g1).mono ?_
  rintro e w1 ⟨rfl, rfl⟩
  go_wp2_with fail
  rw [unhide HC, Oper.upon_enter]
  refine (unhide HF).mono ?_
  rintro e w1 ⟨rfl, hR⟩
  have HR := hide hR
  clear hR
  go_wp2
  go_ret
  exact ⟨rfl, unhide HR⟩
theorem cf_of {F : FuncId} {fn : Func} (hf : Try.prog.funcs[F]? = some fn) (hn : (fn.name == "runtime.NumGoroutine") = false) (hb : fn.body.isNone = false) : ∀ args w, (callFunc F args).run Try.prog w = .ok (.enter F args) w := fun args w => by
  have h1 : ¬ fn.name = "runtime.NumGoroutine" := by simpa using hn
  have h2 : ¬ fn.body = none := by
    intro e
    rw [e] at hb
    cases hb
  simp [callFunc, hf, h1, h2, go_sem]
theorem hear_cf : ∀ args w, (callFunc 44 args).run Try.prog w = .ok (.enter 44 args) w := cf_of Try.func44 (by kernel_rfl) (by kernel_rfl)
end Go.Proofs.Ytbfakbooenmhoaa

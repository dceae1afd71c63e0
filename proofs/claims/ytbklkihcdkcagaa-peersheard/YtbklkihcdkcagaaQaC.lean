/- peers: New, Ban, Meet, the example. -/
import Derived.Test.YtbklkihcdkcagaaQaB
import Derived.Test.YtbklkihcdkcagaaSame
namespace Go.Proofs.Ytbklkihcdkcagaa
open Go.RowKit
set_option linter.unusedVariables false
attribute [local go_sem] Oper.semAt_some

def newT (room tmo : Int) : Array Value := #[.int .i64 room, .int .i64 tmo, .pointer none, .pointer none, .pointer none, .pointer none, .pointer none, .pointer none, .pointer none, .pointer none, .pointer none, .pointer none, .pointer none, .pointer none, .pointer none, .pointer none, .pointer none, .pointer none, .bool false, .bool false, .bool false, .bool false, .bool false, .bool false, .bool false, .bool false, .bool false, .bool false, .bool false, .bool false, .bool false, .bool false, .bool false, .bool false]
set_option maxRecDepth 100000 in
set_option maxHeartbeats 1000000 in
theorem new_yes (room tmo : Int) (w : World) (h1 : 1 ≤ room ∧ room ≤ 15) (h2 : 1 ≤ tmo ∧ tmo ≤ 1099511627776) :
    Calls Try.prog 8 #[.int .i64 room, .int .i64 tmo] w fun e w' => e = .returned (.pointer (some ⟨w.heap.size, 0, none⟩)) ∧ w' = w.alloc (.cells (newT room tmo) 67) := by
  have g1 := hide (isFrom_any 1 room 15 w)
  have g2 := hide (isFrom_any 1 tmo 1099511627776 w)
  rw [decide_eq_true h1] at g1
  rw [decide_eq_true h2] at g2
  clear h1 h2
  go_enter Try.func8, Try.ntmps8
  go_wp2_with fail
  refine (unhide g1).mono ?_
  rintro e w1 ⟨rfl, rfl⟩
  go_wp2_with fail
  refine (unhide g2).mono ?_
  rintro e w1 ⟨rfl, rfl⟩
  go_wp2
  go_ret
  exact ⟨rfl, rfl⟩
def noP : Nat → Option Nat := fun _ => none
def noB : Nat → Bool := fun _ => false
theorem newT_cells (room tmo : Int) : ∀ p, p < 16 → (newT room tmo)[2 + p]? = some (pp none) ∧ (newT room tmo)[18 + p]? = some (.bool false) := by
  intro p hp
  unfold newT
  rcases (show p = 0 ∨ p = 1 ∨ p = 2 ∨ p = 3 ∨ p = 4 ∨ p = 5 ∨ p = 6 ∨ p = 7 ∨ p = 8 ∨ p = 9 ∨ p = 10 ∨ p = 11 ∨ p = 12 ∨ p = 13 ∨ p = 14 ∨ p = 15 by omega) with rfl | rfl | rfl | rfl | rfl | rfl | rfl | rfl | rfl | rfl | rfl | rfl | rfl | rfl | rfl | rfl <;> exact ⟨rfl, rfl⟩
theorem new_at (room tmo : Int) (C : Nat → Pr) (w : World) : TbAt (w.alloc (.cells (newT room tmo) 67)) w.heap.size room tmo noP C noB := by
  have hh := heap_alloc_new w (.cells (newT room tmo) 67)
  have hc : ∀ j, (w.alloc (.cells (newT room tmo) 67)).cell? ⟨w.heap.size, j, none⟩ = (newT room tmo)[j]? := fun j => cell_of_row _ _ _ _ _ _ hh
  exact ⟨⟨_, hh⟩, (hc 0).trans rfl, (hc 1).trans rfl, fun p hp => (hc _).trans (newT_cells room tmo p hp).1, fun p hp => (hc _).trans (newT_cells room tmo p hp).2, fun p g hp hg => by cases hg⟩
theorem cellT {w : World} {b i j : Nat} {x : Value} (h : i ≠ j) : (w.setCell ⟨b, i, none⟩ x).cell? ⟨b, j, none⟩ = w.cell? ⟨b, j, none⟩ := World.cell?_setCell_other _ _ _ _ (fun e => h (by cases e; rfl))
def tup {α : Type} (f : Nat → α) (p : Nat) (x : α) : Nat → α := fun k => if k = p then x else f k
theorem TbAt.notB {w : World} {b : Nat} {room tmo : Int} {P : Nat → Option Nat} {C : Nat → Pr} {Bn : Nat → Bool} (h : TbAt w b room tmo P C Bn) (p g : Nat) (hp : p < 16) (hg : P p = some g) : g ≠ b := by
  intro e
  obtain ⟨cs, hc⟩ := h.blk
  have := h.pe p g hp hg
  rw [e, hc] at this
  simp at this
theorem TbAt.setP {w : World} {b : Nat} {room tmo : Int} {P : Nat → Option Nat} {C : Nat → Pr} {Bn : Nat → Bool} (h : TbAt w b room tmo P C Bn) (p : Nat) (hp : p < 16) (x : Option Nat) (c : Pr) (hx : ∀ g, x = some g → w.heap[g]? = some (.cells c.cl.toArray 46 (0, 0))) :
    TbAt (w.setCell ⟨b, 2 + p, none⟩ (pp x)) b room tmo (tup P p x) (tup C p c) Bn where
  blk := by
    obtain ⟨cs, hc⟩ := h.blk
    exact ⟨_, heap_setCell_same w b _ cs _ _ hc⟩
  c0 := by rw [cellT (by omega)]; exact h.c0
  c1 := by rw [cellT (by omega)]; exact h.c1
  ps := fun k hk => by
    by_cases e : k = p
    · subst e
      unfold tup
      rw [if_pos rfl]
      exact World.cell?_setCell_same _ _ _ (h.ps k hk)
    · unfold tup
      rw [if_neg e, cellT (by omega)]
      exact h.ps k hk
  bs := fun k hk => by rw [cellT (by omega)]; exact h.bs k hk
  pe := fun k g hk hg => by
    have hnb : ∀ g, w.heap[g]? = some (.cells (tup C p c k).cl.toArray 46 (0, 0)) → g ≠ b := by
      intro g hg e
      obtain ⟨cs, hc⟩ := h.blk
      rw [e, hc] at hg
      simp at hg
    have hw : w.heap[g]? = some (.cells (tup C p c k).cl.toArray 46 (0, 0)) := by
      unfold tup at hg ⊢
      by_cases e : k = p
      · rw [if_pos e] at hg ⊢
        exact hx g hg
      · rw [if_neg e] at hg ⊢
        exact h.pe k g hk hg
    exact (Below.heap_setCell _ _ _ _ (hnb g hw)).trans hw
theorem TbAt.setB {w : World} {b : Nat} {room tmo : Int} {P : Nat → Option Nat} {C : Nat → Pr} {Bn : Nat → Bool} (h : TbAt w b room tmo P C Bn) (p : Nat) (hp : p < 16) (x : Bool) :
    TbAt (w.setCell ⟨b, 18 + p, none⟩ (.bool x)) b room tmo P C (tup Bn p x) where
  blk := by
    obtain ⟨cs, hc⟩ := h.blk
    exact ⟨_, heap_setCell_same w b _ cs _ _ hc⟩
  c0 := by rw [cellT (by omega)]; exact h.c0
  c1 := by rw [cellT (by omega)]; exact h.c1
  ps := fun k hk => by rw [cellT (by omega)]; exact h.ps k hk
  bs := fun k hk => by
    by_cases e : k = p
    · subst e
      unfold tup
      rw [if_pos rfl]
      exact World.cell?_setCell_same _ _ _ (h.bs k hk)
    · unfold tup
      rw [if_neg e, cellT (by omega)]
      exact h.bs k hk
  pe := fun k g hk hg => (Below.heap_setCell _ _ _ _ (h.notB k g hk hg)).trans (h.pe k g hk hg)
set_option maxRecDepth 100000 in
set_option maxHeartbeats 1000000 in
theorem ban_any (p b : Nat) (room tmo : Int) (P : Nat → Option Nat) (C : Nat → Pr) (Bn : Nat → Bool) (w : World) (hp : 1 ≤ p ∧ p ≤ 15) (h : TbAt w b room tmo P C Bn) :
    Calls Try.prog 24 #[.pointer (some ⟨b, 0, none⟩), .int .i64 p] w fun e w' => e = .returned (.int .i64 0) ∧ TbAt w' b room tmo (tup P p none) C (tup Bn p true) ∧ Kept w.heap.size b w w' := by
  have g1 := hide (isPeer_any p w)
  rw [show isPr p = true by unfold isPr; simp; omega] at g1
  have hp16 : p < 16 := by omega
  have s1 := h.setP p hp16 none (C p) (fun g hg => by cases hg)
  have s2 := s1.setB p hp16 true
  have e : tup C p (C p) = C := by
    funext k
    unfold tup
    split
    · rename_i h; rw [h]
    · rfl
  rw [e] at s2
  have S2 := hide s2
  have c1 := h.ps p hp16
  have c2 := h.bs p hp16
  have f1 := h.free (2 + p)
  have f2 := h.free (18 + p)
  have q1 : (p : Int) < 16 := by omega
  generalize pp (P p) = old at *
  generalize Bn p = ob at *
  clear h s1 s2 e
  go_enter Try.func24, Try.ntmps24
  go_wp2_with fail
  refine (unhide g1).mono ?_
  rintro e w1 ⟨rfl, rfl⟩
  go_wp2
  go_ret
  exact ⟨rfl, unhide S2, (kept_set _ _ _ _ _).trans ((kept_set _ _ _ _ _).mono (Nat.le_refl _))⟩
end Go.Proofs.Ytbklkihcdkcagaa

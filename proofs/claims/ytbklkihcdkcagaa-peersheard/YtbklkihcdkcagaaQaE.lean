/- peers: the example, and PeersNil. -/
import Derived.Test.YtbklkihcdkcagaaQaD
namespace Go.Proofs.Ytbklkihcdkcagaa
open Go.RowKit
set_option linter.unusedVariables false
attribute [local go_sem] Oper.semAt_some

theorem lst_none (C : Nat → Pr) : (lst noP C 16).length = 0 := rfl
theorem lst_one (C : Nat → Pr) (P : Nat → Option Nat) (p g : Nat) (hp : p = 3 ∨ p = 4) (h : ∀ k, P k = if k = p then some g else none) : (lst P C 16).length = 1 := by
  have e : P = fun k => if k = p then some g else none := funext h
  subst e
  rcases hp with rfl | rfl
  · rfl
  · rfl
theorem kept_below {w w' : World} {B b : Nat} (h : Kept w.heap.size b w w') (hb : B ≤ b) (hB : B ≤ w.heap.size) : Below B w w' := h.below B hB hb
set_option maxRecDepth 100000 in
set_option maxHeartbeats 2000000 in
theorem pawake_any (w : World) : Calls Try.prog 9 #[] w fun x w' => x = .returned (.bool true) ∧ Below w.heap.size w w' := by
  obtain ⟨c0, hc0⟩ : ∃ c : Nat → Pr, c = fun _ => ⟨0, 0, 0, ⟨#[]⟩, false, false, false, 0, 0, 0⟩ := ⟨_, rfl⟩
  have mo : ∀ p, (p = 3 ∨ p = 4) → MeetOk p 0 0 0 := fun p hp => ⟨by omega, by decide, by decide, by decide⟩
  have h1 := hide (new_yes 1 9 w (by decide) (by decide))
  have B1 := hide ((Below.refl w.heap.size w).alloc (Nat.le_refl _) (.cells (newT 1 9) 67))
  have T1 := hide (new_at 1 9 c0 w)
  have MO := hide mo
  clear mo hc0
  go_enter Try.func9, Try.ntmps9
  go_wp2_with fail
  refine (unhide h1).mono ?_
  rintro e w1 ⟨rfl, hw1⟩
  rw [← hw1] at T1 B1
  clear h1 hw1
  go_wp2_with fail
  refine (meet_ok 3 w.heap.size 0 0 0 1 9 noP c0 noB w1 (unhide MO 3 (.inl rfl)) (unhide T1) rfl rfl (by rw [lst_none]; decide)).mono ?_
  rintro e w2 ⟨rfl, g2, t2, k2, _⟩
  have T2 := hide t2
  have B2 := hide ((unhide B1).trans (kept_below k2 (Nat.le_refl _) (unhide B1).size))
  clear t2 k2 T1 B1
  go_wp2_with fail
  refine (meet_full 4 w.heap.size 0 0 0 1 9 _ _ noB w2 (unhide MO 4 (.inr rfl)) (unhide T2) rfl rfl (by rw [lst_one _ (tup noP 3 (some g2)) 3 g2 (.inl rfl) (fun k => rfl)]; decide)).mono ?_
  rintro e w3 ⟨rfl, b3⟩
  have T3 := hide ((unhide T2).up b3)
  have B3 := hide ((unhide B2).trans (b3.mono (unhide B2).size))
  clear b3 T2 B2
  go_wp2_with fail
  refine (ban_any 3 w.heap.size 1 9 _ _ noB w3 (by decide) (unhide T3)).mono ?_
  rintro e w4 ⟨rfl, t4, k4⟩
  have T4 := hide t4
  have B4 := hide ((unhide B3).trans (kept_below k4 (Nat.le_refl _) (unhide B3).size))
  clear t4 k4 T3 B3
  have hP4 : Hid (∀ k, tup (tup noP 3 (some g2)) 3 none k = none) := by
    intro k
    unfold tup noP
    by_cases e : k = 3
    · rw [if_pos e]
    · rw [if_neg e, if_neg e]
  have hP4' : tup (tup noP 3 (some g2)) 3 none = noP := funext (unhide hP4)
  rw [hP4'] at T4
  clear hP4 hP4'
  go_wp2_with fail
  refine (meet_ok 4 w.heap.size 0 0 0 1 9 noP _ _ w4 (unhide MO 4 (.inr rfl)) (unhide T4) rfl rfl (by rw [lst_none]; decide)).mono ?_
  rintro e w5 ⟨rfl, g5, t5, k5, _⟩
  have T5 := hide t5
  have B5 := hide ((unhide B4).trans (kept_below k5 (Nat.le_refl _) (unhide B4).size))
  clear t5 k5 T4 B4
  go_wp2_with fail
  refine (meet_ban 3 w.heap.size 0 0 0 1 9 _ _ _ w5 (unhide MO 3 (.inl rfl)) (unhide T5) rfl).mono ?_
  rintro e w6 ⟨rfl, b6⟩
  have T6 := hide ((unhide T5).up b6)
  have B6 := hide ((unhide B5).trans (b6.mono (unhide B5).size))
  clear b6 T5 B5
  have hlen := hide (len_any w6 w.heap.size 1 9 _ _ _ (unhide T6))
  rw [lst_one _ (tup noP 4 (some g5)) 4 g5 (.inr rfl) (fun k => rfl)] at hlen
  go_wp2_with fail
  refine (unhide hlen).mono ?_
  rintro e w7 ⟨rfl, b7⟩
  have B7 := hide ((unhide B6).trans (b7.mono (unhide B6).size))
  clear b7
  go_wp2
  go_ret
  exact ⟨rfl, unhide B7⟩
end Go.Proofs.Ytbklkihcdkcagaa

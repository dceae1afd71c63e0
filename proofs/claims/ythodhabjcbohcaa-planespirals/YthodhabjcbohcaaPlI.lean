/- Contract of the document's Unspiral. -/
import Derived.Test.YthodhabjcbohcaaPlP
namespace Go.Proofs.Ythodhabjcbohcaa
open Go.RowKit
set_option linter.unusedVariables false

set_option maxRecDepth 100000 in
set_option maxHeartbeats 1000000 in
theorem dunspiral_no (x y : Int) (w : World) (h : okP x y = false) : Calls Try.prog 33 #[rv x y] w fun e w' => e = .returned (.int .i64 (-1)) ∧ Below w.heap.size w w' := by
  have h1 := hide (fun w => dcheck_any x y w)
  rw [h] at h1
  clear h
  have T0 := hide (two_alloc w (.int .i64 x) (.int .i64 y) 27)
  have BB : Hid (Below w.heap.size w (w.alloc (.cells #[.int .i64 x, .int .i64 y] 27))) := (Below.refl _ _).alloc (Nat.le_refl _) _
  have f0 := (unhide T0).c0
  have f1 := (unhide T0).c1
  unfold rv at *
  go_enter Try.func33, Try.ntmps33
  go_wp2_with fail
  refine (unhide h1 _).mono ?_
  rintro e w1 ⟨rfl, b1⟩
  have B1 := hide ((unhide BB).trans (b1.mono (unhide BB).size))
  clear b1 BB T0 f0 f1 h1
  go_wp2
  go_ret
  exact ⟨rfl, unhide B1⟩

set_option maxRecDepth 100000 in
set_option maxHeartbeats 2000000 in
theorem dunspiral_in (x y : Int) (w : World) (h : okP x y = true) : Calls Try.prog 33 #[rv x y] w fun e w' => e = .returned (.int .i64 (unD x y)) ∧ Below w.heap.size w w' := by
  have h1 := hide (fun w => dcheck_any x y w)
  rw [h] at h1
  obtain ⟨⟨a1, a2⟩, a3, a4⟩ := okP_t h
  clear h
  have T0 := hide (two_alloc w (.int .i64 x) (.int .i64 y) 27)
  have BB : Hid (Below w.heap.size w (w.alloc (.cells #[.int .i64 x, .int .i64 y] 27))) := (Below.refl _ _).alloc (Nat.le_refl _) _
  have f0 := (unhide T0).c0
  have f1 := (unhide T0).c1
  have HU : Hid (unD x y = if y = -((rk x y : Nat) : Int) then (2 * ((rk x y : Nat) : Int) + 1) * (2 * ((rk x y : Nat) : Int) + 1) - 1 - (((rk x y : Nat) : Int) - x) else if x = -((rk x y : Nat) : Int) then (2 * ((rk x y : Nat) : Int) + 1) * (2 * ((rk x y : Nat) : Int) + 1) - 1 - 2 * ((rk x y : Nat) : Int) - (y + ((rk x y : Nat) : Int)) else if y = ((rk x y : Nat) : Int) then (2 * ((rk x y : Nat) : Int) + 1) * (2 * ((rk x y : Nat) : Int) + 1) - 1 - 4 * ((rk x y : Nat) : Int) - (x + ((rk x y : Nat) : Int)) else (2 * ((rk x y : Nat) : Int) + 1) * (2 * ((rk x y : Nat) : Int) + 1) - 1 - 6 * ((rk x y : Nat) : Int) - (((rk x y : Nat) : Int) - y)) := rfl
  have hr : rk x y = max x.natAbs y.natAbs := rfl
  generalize unD x y = R at *
  generalize rk x y = K at *
  have hK : K ≤ 1048576 := by omega
  have Hr := hide hr
  clear hr
  unfold rv at *
  go_enter Try.func33, Try.ntmps33
  go_wp2_with fail
  refine (unhide h1 _).mono ?_
  rintro e w1 ⟨rfl, b1⟩
  have T1 := hide ((unhide T0).up b1)
  have B1 := hide ((unhide BB).trans (b1.mono (unhide BB).size))
  clear b1 BB T0 f0 f1 h1
  have f0 := (unhide T1).c0
  have f1 := (unhide T1).c1
  go_wp2_with fail
  go_loopw [3] (fun kv wr => w1 = wr ∧ ∃ k : Nat, kv = .int .i64 (k : Nat) ∧ k ≤ K) (fun kv _ => K - (intOf kv).toNat)
  case atStart => exact ⟨rfl, 0, rfl, by omega⟩
  case round =>
    obtain ⟨rfl, k, rfl, hk⟩ := hrel
    by_cases hlt : k < K
    · have hr := unhide Hr
      by_cases c1 : ((k : Nat) : Int) < x
      · clear hr
        go_wp2
        go_roundw
        case rel => exact ⟨trivial, k + 1, rfl, by omega⟩
        case measure => simp [intOf]; omega
      · by_cases c2 : x < -((k : Nat) : Int)
        · have d1 : decide (((k : Nat) : Int) < x) = false := decide_eq_false c1
          clear hr
          go_wp2
          go_roundw
          case rel => exact ⟨trivial, k + 1, rfl, by omega⟩
          case measure => simp [intOf]; omega
        · by_cases c3 : ((k : Nat) : Int) < y
          · have d1 : decide (((k : Nat) : Int) < x) = false := decide_eq_false c1
            have d2 : decide (x < -((k : Nat) : Int)) = false := decide_eq_false c2
            clear hr
            go_wp2
            go_roundw
            case rel => exact ⟨trivial, k + 1, rfl, by omega⟩
            case measure => simp [intOf]; omega
          · have c4 : y < -((k : Nat) : Int) := by omega
            have d1 : decide (((k : Nat) : Int) < x) = false := decide_eq_false c1
            have d2 : decide (x < -((k : Nat) : Int)) = false := decide_eq_false c2
            have d3 : decide (((k : Nat) : Int) < y) = false := decide_eq_false c3
            clear hr
            go_wp2
            go_roundw
            case rel => exact ⟨trivial, k + 1, rfl, by omega⟩
            case measure => simp [intOf]; omega
    · obtain rfl : k = K := by omega
      have hr := unhide Hr
      have c1 : ¬ ((k : Nat) : Int) < x := by omega
      have c2 : ¬ x < -((k : Nat) : Int) := by omega
      have c3 : ¬ ((k : Nat) : Int) < y := by omega
      have c4 : ¬ y < -((k : Nat) : Int) := by omega
      have d1 : decide (((k : Nat) : Int) < x) = false := decide_eq_false c1
      have d2 : decide (x < -((k : Nat) : Int)) = false := decide_eq_false c2
      have d3 : decide (((k : Nat) : Int) < y) = false := decide_eq_false c3
      have d4 : decide (y < -((k : Nat) : Int)) = false := decide_eq_false c4
      have hsq : 0 ≤ (2 * ((k : Nat) : Int) + 1) * (2 * ((k : Nat) : Int) + 1) ∧ (2 * ((k : Nat) : Int) + 1) * (2 * ((k : Nat) : Int) + 1) ≤ 4398050705409 := by
        have e : (2 * ((k : Nat) : Int) + 1) * (2 * ((k : Nat) : Int) + 1) = (((2 * k + 1) * (2 * k + 1) : Nat) : Int) := by simp
        have := Nat.mul_le_mul (show 2 * k + 1 ≤ 2097153 by omega) (show 2 * k + 1 ≤ 2097153 by omega)
        rw [e]; omega
      clear hr
      by_cases e1 : y = -((k : Nat) : Int)
      · have HR : Hid (R = _) := (unhide HU).trans (if_pos e1)
        have g1 : (y == -((k : Nat) : Int)) = true := by simpa using e1
        have g2 : decide (y = -((k : Nat) : Int)) = true := decide_eq_true e1
        clear HU e1
        go_wp2
        go_ret
        exact ⟨by rw [unhide HR]; rfl, unhide B1⟩
      · by_cases e2 : x = -((k : Nat) : Int)
        · have HR : Hid (R = _) := ((unhide HU).trans (if_neg e1)).trans (if_pos e2)
          have g1 : (y == -((k : Nat) : Int)) = false := by simpa using e1
          have g2 : decide (y = -((k : Nat) : Int)) = false := decide_eq_false e1
          have g3 : (x == -((k : Nat) : Int)) = true := by simpa using e2
          have g4 : decide (x = -((k : Nat) : Int)) = true := decide_eq_true e2
          clear HU e2
          go_wp2
          go_ret
          exact ⟨by rw [unhide HR]; rfl, unhide B1⟩
        · by_cases e3 : y = ((k : Nat) : Int)
          · have HR : Hid (R = _) := (((unhide HU).trans (if_neg e1)).trans (if_neg e2)).trans (if_pos e3)
            have g1 : (y == -((k : Nat) : Int)) = false := by simpa using e1
            have g2 : decide (y = -((k : Nat) : Int)) = false := decide_eq_false e1
            have g3 : (x == -((k : Nat) : Int)) = false := by simpa using e2
            have g4 : decide (x = -((k : Nat) : Int)) = false := decide_eq_false e2
            have g5 : (y == ((k : Nat) : Int)) = true := by simpa using e3
            have g6 : decide (y = ((k : Nat) : Int)) = true := decide_eq_true e3
            clear HU e3
            go_wp2
            go_ret
            exact ⟨by rw [unhide HR]; rfl, unhide B1⟩
          · have HR : Hid (R = _) := (((unhide HU).trans (if_neg e1)).trans (if_neg e2)).trans (if_neg e3)
            have g1 : (y == -((k : Nat) : Int)) = false := by simpa using e1
            have g2 : decide (y = -((k : Nat) : Int)) = false := decide_eq_false e1
            have g3 : (x == -((k : Nat) : Int)) = false := by simpa using e2
            have g4 : decide (x = -((k : Nat) : Int)) = false := decide_eq_false e2
            have g5 : (y == ((k : Nat) : Int)) = false := by simpa using e3
            have g6 : decide (y = ((k : Nat) : Int)) = false := decide_eq_false e3
            clear HU
            go_wp2
            go_ret
            exact ⟨by rw [unhide HR]; rfl, unhide B1⟩

theorem dunspiral_any (x y : Int) (w : World) : Calls Try.prog 33 #[rv x y] w fun e w' => e = .returned (.int .i64 (unA x y)) ∧ Below w.heap.size w w' := by
  unfold unA
  cases h : okP x y
  · exact dunspiral_no x y w h
  · rw [if_pos rfl, ← unD_unP]
    exact dunspiral_in x y w h

end Go.Proofs.Ythodhabjcbohcaa

/- Contracts of plane's Spiral, and of the law's awake. -/
import Derived.Test.YthodhabjcbohcaaPlE
namespace Go.Proofs.Ythodhabjcbohcaa
open Go.RowKit
set_option linter.unusedVariables false

/-- how many steps in its ring -/
def stps (n : Nat) : Nat := n - ((2 * ring n - 1) * (2 * ring n - 1) - 1)
/-- the place of a number -/
def spP (n : Nat) : Int × Int := if ring n = 0 then (0, 0) else quart (stps n / (2 * ring n) % 4) ((ring n : Nat), ((stps n % (2 * ring n) : Nat) : Int) - (ring n : Nat))
def spA (n : Int) : Int × Int × Int := if 0 ≤ n ∧ n ≤ 1099511627776 then ((spP n.toNat).1, (spP n.toNat).2, 0) else (0, 0, 1)

theorem ring_le {n : Nat} (hn : n ≤ 1099511627776) : ring n ≤ 524288 := by
  obtain ⟨s1, s2⟩ := isq_spec n
  have hb : isq n ≤ 1048576 := by
    refine Nat.le_of_not_lt fun hlt => ?_
    have := Nat.mul_le_mul (show 1048577 ≤ isq n from hlt) (show 1048577 ≤ isq n from hlt)
    omega
  unfold ring; omega

/-- the ring's first number is not above, its last one not below -/
theorem ring_spec (n : Nat) : (ring n ≠ 0 → (2 * ring n - 1) * (2 * ring n - 1) ≤ n) ∧ n < (2 * ring n + 1) * (2 * ring n + 1) := by
  obtain ⟨s1, s2⟩ := isq_spec n
  constructor
  · intro h
    exact Nat.le_trans (Nat.mul_le_mul (by unfold ring at *; omega) (by unfold ring at *; omega)) s1
  · exact Nat.lt_of_lt_of_le s2 (Nat.mul_le_mul (by unfold ring; omega) (by unfold ring; omega))

theorem spP_le {n : Nat} (hn : n ≤ 1099511627776) : (spP n).1.natAbs ≤ 524288 ∧ (spP n).2.natAbs ≤ 524288 := by
  have hr := ring_le hn
  unfold spP
  split
  · exact ⟨by decide, by decide⟩
  · have := Nat.mod_lt (stps n) (show 0 < 2 * ring n by omega)
    exact quart_abs _ _ _ (by show ((ring n : Nat) : Int).natAbs ≤ _; omega) (by show (((stps n % (2 * ring n) : Nat) : Int) - (ring n : Nat)).natAbs ≤ _; omega)

set_option maxRecDepth 100000 in
theorem spiral_any (n : Int) (w : World) : Calls Try.prog 30 #[.int .i64 n] w fun e w' => e = .returned (rvE (spA n)) ∧ Below w.heap.size w w' := by
  have T0 := hide (two_alloc w (.int .i64 0) (.int .i64 0) 23)
  have BB : Hid (Below w.heap.size w (w.alloc (.cells #[.int .i64 0, .int .i64 0] 23))) := (Below.refl _ _).alloc (Nat.le_refl _) _
  have x0 := (unhide T0).c0
  have x1 := (unhide T0).c1
  have x2 := (unhide T0).free 0
  have x3 := (unhide T0).free 1
  by_cases h0 : 0 ≤ n
  · by_cases h1 : n ≤ 1099511627776
    · obtain ⟨m, rfl⟩ := Int.eq_ofNat_of_zero_le h0
      have hm : m ≤ 1099511627776 := by omega
      have HA : Hid (spA ((m : Nat) : Int) = ((spP m).1, (spP m).2, 0)) := by
        show spA ((m : Nat) : Int) = _
        unfold spA; rw [if_pos ⟨h0, h1⟩]; rfl
      have hP : spP m = if ring m = 0 then (0, 0) else quart (stps m / (2 * ring m) % 4) ((ring m : Nat), ((stps m % (2 * ring m) : Nat) : Int) - (ring m : Nat)) := rfl
      have hr := ring_le hm
      have hrs := (ring_spec m).1
      have hst : stps m = m - ((2 * ring m - 1) * (2 * ring m - 1) - 1) := rfl
      have h2 := hide (fun w => ring_any m w hm)
      have h3 := hide (fun w => before_any (ring m) w)
      obtain ⟨hq1, hq2⟩ := spP_le hm
      generalize spA ((m : Nat) : Int) = R at *
      generalize ring m = k at *
      generalize stps m = s at *
      generalize spP m = p at *
      have d0 : ¬ ((m : Nat) : Int) < 0 := by omega
      by_cases hk : k = 0
      · subst hk
        rw [if_pos rfl] at hP
        have HP := hide hP
        clear hP hrs hst hr hq1 hq2
        go_enter Try.func30, Try.ntmps30
        go_wp2_with fail
        refine (unhide h2 _).mono ?_
        rintro e w1 ⟨rfl, rfl⟩
        go_wp2
        exact ret_two (p := 2) (q := 3) (ty := 23) (by kernel_rfl) (w.heap.size) 23 (.int .i64 0) (.int .i64 0) (.int .i64 0) _ rfl rfl (unhide T0) rfl Try.underlying23 (by kernel_rfl) ⟨by rw [unhide HA, unhide HP]; rfl, unhide BB⟩
      · rw [if_neg hk] at hP
        have hrs := hrs hk
        have h3 := hide (fun w => unhide h3 w (by omega) (by omega))
        have hb1 : 1 ≤ (2 * k - 1) * (2 * k - 1) := Nat.mul_pos (by omega) (by omega)
        have hk0 : ((k : Nat) : Int) ≠ 0 := by omega
        obtain ⟨v, hv⟩ : ∃ v, v = (2 * k - 1) * (2 * k - 1) - 1 := ⟨_, rfl⟩
        rw [← hv] at h3 hst
        have hsv : ((m : Nat) : Int) - ((v : Nat) : Int) = ((s : Nat) : Int) := by omega
        have hsm : s ≤ m := by omega
        clear hv hb1 hrs hst
        obtain ⟨d, hd⟩ : ∃ d, d = 2 * k := ⟨_, rfl⟩
        have hd2 : (2 : Int) * ((k : Nat) : Int) = ((d : Nat) : Int) := by omega
        rw [← hd] at hP
        have hmod : ((s : Nat) : Int).tmod ((d : Nat) : Int) = ((s % d : Nat) : Int) := rfl
        have hdiv : ((s : Nat) : Int).tdiv ((d : Nat) : Int) = ((s / d : Nat) : Int) := rfl
        have hml := Nat.mod_lt s (show 0 < d by omega)
        have hdl := Nat.div_le_self s d
        have hq4 : (((s / d : Nat) : Int) % 4).toNat = s / d % 4 := by omega
        have hd0 : ((d : Nat) : Int) ≠ 0 := by omega
        have hdb : d ≤ 1048576 := by omega
        have ht := hide (fun w => turned_any _ _ ((k : Nat) : Int) (((s % d : Nat) : Int) - ((k : Nat) : Int)) ((s / d : Nat) : Int) w (fl_of ((k : Nat) : Int) (by omega)) (fl_of (((s % d : Nat) : Int) - ((k : Nat) : Int)) (by omega)) (by omega) (by omega))
        rw [hq4, ← hP] at ht
        clear hq4 hP hd hk
        generalize s % d = sm at *
        generalize s / d = sq at *
        go_enter Try.func30, Try.ntmps30
        go_wp2_with fail
        refine (unhide h2 _).mono ?_
        rintro e w1 ⟨rfl, rfl⟩
        go_wp2_with fail
        refine (unhide h3 _).mono ?_
        rintro e w1 ⟨rfl, rfl⟩
        go_wp2_with fail
        refine (unhide ht _).mono ?_
        rintro e w2 ⟨rfl, r, i, rfl, fr, fi⟩
        have hp := hide (fun w => place_any r i p.1 p.2 w fr fi (by omega) (by omega))
        clear fr fi
        unfold rv at hp
        have HA2 := HA
        clear hq1 hq2
        go_wp2_with fail
        refine (unhide hp _).mono ?_
        rintro e w4 ⟨rfl, b4⟩
        have T4 := hide ((unhide T0).up b4)
        have B4 := hide ((unhide BB).trans (b4.mono (unhide BB).size))
        clear x0 x1 x2 x3
        have x0 := (unhide T4).c0
        have x1 := (unhide T4).c1
        have x2 := (unhide T4).free 0
        have x3 := (unhide T4).free 1
        clear b4 T0 BB hp
        go_wp2
        exact ret_two (p := 2) (q := 3) (ty := 23) (by kernel_rfl) (w.heap.size) 23 (.int .i64 p.1) (.int .i64 p.2) (.int .i64 0) _ rfl rfl (((unhide T4).set0 _).set1 _) rfl Try.underlying23 (by kernel_rfl) ⟨by rw [unhide HA2]; rfl, below_two (unhide B4) (by omega) _ _⟩
    · have HA : Hid (spA n = (0, 0, 1)) := by show spA n = _; unfold spA; rw [if_neg (by omega)]
      generalize spA n = R at *
      have d0 : ¬ n < 0 := by omega
      have d1 : (1099511627776 : Int) < n := by omega
      go_enter Try.func30, Try.ntmps30
      go_wp2
      exact ret_two (p := 2) (q := 3) (ty := 23) (by kernel_rfl) (w.heap.size) 23 (.int .i64 0) (.int .i64 0) (.int .i64 1) _ rfl rfl (unhide T0) rfl Try.underlying23 (by kernel_rfl) ⟨by rw [unhide HA]; rfl, unhide BB⟩
  · have HA : Hid (spA n = (0, 0, 1)) := by show spA n = _; unfold spA; rw [if_neg (by omega)]
    generalize spA n = R at *
    have d0 : n < 0 := by omega
    go_enter Try.func30, Try.ntmps30
    go_wp2
    exact ret_two (p := 2) (q := 3) (ty := 23) (by kernel_rfl) (w.heap.size) 23 (.int .i64 0) (.int .i64 0) (.int .i64 1) _ rfl rfl (unhide T0) rfl Try.underlying23 (by kernel_rfl) ⟨by rw [unhide HA]; rfl, unhide BB⟩

end Go.Proofs.Ythodhabjcbohcaa

/- The mathematics of the spiral: places and numbers undo each other; neighbours are one step apart. -/
import Derived.Test.YthodhabjcbohcaaPlU
namespace Go.Proofs.Ythodhabjcbohcaa
set_option linter.unusedVariables false

/-- the place of step s of ring k -/
def pos (k s : Int) : Int × Int := if s ≤ 2 * k then (k, s - k) else if s ≤ 4 * k then (k - (s - 2 * k), k) else if s ≤ 6 * k then (-k, k - (s - 4 * k)) else (-k + (s - 6 * k), -k)

theorem spP_pos (n : Nat) (h : ring n ≠ 0) : spP n = pos (ring n : Nat) (stps n : Nat) ∧ 1 ≤ stps n ∧ stps n ≤ 8 * ring n ∧ (n : Int) = (((2 * ring n - 1) * (2 * ring n - 1) - 1 : Nat) : Int) + (stps n : Nat) := by
  obtain ⟨h1, h2⟩ := ring_spec n
  have h1 := h1 h
  have e : (2 * ring n + 1) * (2 * ring n + 1) = (2 * ring n - 1) * (2 * ring n - 1) + 8 * ring n := by
    obtain ⟨m, hm⟩ : ∃ m, ring n = m + 1 := ⟨ring n - 1, by omega⟩
    rw [hm]
    have e1 : 2 * (m + 1) + 1 = (2 * (m + 1) - 1) + 2 := by omega
    rw [e1]
    generalize hq : 2 * (m + 1) - 1 = q
    rw [Nat.add_mul, Nat.mul_add]
    omega
  have hst : stps n = n - ((2 * ring n - 1) * (2 * ring n - 1) - 1) := rfl
  have hb : 1 ≤ (2 * ring n - 1) * (2 * ring n - 1) := Nat.mul_pos (by omega) (by omega)
  rw [e] at h2
  generalize (2 * ring n - 1) * (2 * ring n - 1) = V at *
  have hs1 : 1 ≤ stps n := by omega
  have hs2 : stps n ≤ 8 * ring n := by omega
  refine ⟨?_, hs1, hs2, by omega⟩
  unfold spP
  rw [if_neg h]
  clear e hst h1 h2 hb
  generalize stps n = s at *
  generalize ring n = k at *
  have hdm := Nat.div_add_mod s (2 * k)
  have hml := Nat.mod_lt s (show 0 < 2 * k by omega)
  generalize s % (2 * k) = b at *
  have ha : s / (2 * k) ≤ 4 := by
    have := Nat.div_le_div_right (c := 2 * k) hs2
    rw [show 8 * k = 4 * (2 * k) by omega, Nat.mul_div_cancel _ (by omega)] at this
    exact this
  generalize s / (2 * k) = a at *
  have hc : a = 0 ∨ a = 1 ∨ a = 2 ∨ a = 3 ∨ a = 4 := by omega
  unfold pos
  rcases hc with rfl | rfl | rfl | rfl | rfl
  · rw [if_pos (by omega)]; show quart 0 (_, _) = _; refine Prod.ext ?_ ?_ <;> simp only [quart] <;> omega
  · by_cases hb0 : b = 0
    · rw [if_pos (by omega)]; show quart 1 (_, _) = _; refine Prod.ext ?_ ?_ <;> simp only [quart] <;> omega
    · rw [if_neg (by omega), if_pos (by omega)]; show quart 1 (_, _) = _; refine Prod.ext ?_ ?_ <;> simp only [quart] <;> omega
  · by_cases hb0 : b = 0
    · rw [if_neg (by omega), if_pos (by omega)]; show quart 2 (_, _) = _; refine Prod.ext ?_ ?_ <;> simp only [quart] <;> omega
    · rw [if_neg (by omega), if_neg (by omega), if_pos (by omega)]; show quart 2 (_, _) = _; refine Prod.ext ?_ ?_ <;> simp only [quart] <;> omega
  · by_cases hb0 : b = 0
    · rw [if_neg (by omega), if_neg (by omega), if_pos (by omega)]; show quart 3 (_, _) = _; refine Prod.ext ?_ ?_ <;> simp only [quart] <;> omega
    · rw [if_neg (by omega), if_neg (by omega), if_neg (by omega)]; show quart 3 (_, _) = _; refine Prod.ext ?_ ?_ <;> simp only [quart] <;> omega
  · rw [if_neg (by omega), if_neg (by omega), if_neg (by omega)]; show quart 0 (_, _) = _; refine Prod.ext ?_ ?_ <;> simp only [quart] <;> omega

/-- the number of step s of ring k -/
theorem unP_pos (k s : Nat) (hk : 1 ≤ k) (h1 : 1 ≤ s) (h2 : s ≤ 8 * k) : unP (pos k s).1 (pos k s).2 = (((2 * k - 1) * (2 * k - 1) - 1 : Nat) : Int) + s := by
  have hr : rk (pos k s).1 (pos k s).2 = k := by
    unfold pos rk; split
    · simp only; omega
    · split
      · simp only; omega
      · split
        · simp only; omega
        · simp only; omega
  have hne : ¬ ((pos k s).1 = 0 ∧ (pos k s).2 = 0) := by
    intro h; unfold rk at hr; omega
  unfold unP
  rw [if_neg hne, hr]
  generalize (2 * k - 1) * (2 * k - 1) - 1 = V at *
  clear hne hr
  unfold pos
  split
  · have : sdJ (k : Int) ((s : Int) - k) k = 0 := by unfold sdJ; rw [if_pos (by omega)]
    simp only [this, bk]; omega
  · split
    · have : sdJ ((k : Int) - ((s : Int) - 2 * k)) (k : Int) k = 1 := by unfold sdJ; rw [if_neg (by omega), if_pos (by omega)]
      simp only [this, bk]; omega
    · split
      · have : sdJ (-(k : Int)) ((k : Int) - ((s : Int) - 4 * k)) k = 2 := by unfold sdJ; rw [if_neg (by omega), if_neg (by omega), if_pos (by omega)]
        simp only [this, bk]; omega
      · have : sdJ (-(k : Int) + ((s : Int) - 6 * k)) (-(k : Int)) k = 3 := by unfold sdJ; rw [if_neg (by omega), if_neg (by omega), if_neg (by omega)]
        simp only [this, bk]; omega

theorem ring_zero {n : Nat} (h : ring n = 0) : n = 0 := by
  have := (ring_spec n).2
  rw [h] at this
  omega

theorem un_sp (n : Nat) : unP (spP n).1 (spP n).2 = (n : Int) := by
  by_cases h : ring n = 0
  · have := ring_zero h
    subst this
    unfold spP
    rw [if_pos h]
    rfl
  · obtain ⟨h1, h2, h3, h4⟩ := spP_pos n h
    rw [h1, unP_pos (ring n) (stps n) (by omega) h2 h3, h4]

theorem sq_le {a b : Nat} (h : a * a < b * b) : a < b := by
  refine Nat.lt_of_not_le fun hle => ?_
  have := Nat.mul_le_mul hle hle
  omega

/-- the ring is told by its bounds -/
theorem ring_eq {n k : Nat} (h1 : k ≠ 0 → (2 * k - 1) * (2 * k - 1) ≤ n) (h2 : n < (2 * k + 1) * (2 * k + 1)) : ring n = k := by
  obtain ⟨r1, r2⟩ := ring_spec n
  by_cases hk : k = 0
  · subst hk
    refine Nat.eq_zero_of_not_pos fun hp => ?_
    have := r1 (by omega)
    have := Nat.mul_pos (show 0 < 2 * ring n - 1 by omega) (show 0 < 2 * ring n - 1 by omega)
    omega
  · have a1 := sq_le (Nat.lt_of_le_of_lt (h1 hk) r2)
    by_cases hr : ring n = 0
    · omega
    · have a2 := sq_le (Nat.lt_of_le_of_lt (r1 hr) h2)
      omega

/-- neighbours are one step apart -/
theorem sp_near (n : Nat) (h0 : 1 ≤ n) : ((spP n).1 - (spP (n - 1)).1) * ((spP n).1 - (spP (n - 1)).1) + ((spP n).2 - (spP (n - 1)).2) * ((spP n).2 - (spP (n - 1)).2) = 1 := by
  have fin : ∀ u v : Int, (u = 1 ∧ v = 0 ∨ u = -1 ∧ v = 0 ∨ u = 0 ∧ v = 1 ∨ u = 0 ∧ v = -1) → u * u + v * v = 1 := by
    rintro u v (⟨rfl, rfl⟩ | ⟨rfl, rfl⟩ | ⟨rfl, rfl⟩ | ⟨rfl, rfl⟩) <;> rfl
  have hr : ring n ≠ 0 := fun h => by have := ring_zero h; omega
  obtain ⟨h1, h2, h3, h4⟩ := spP_pos n hr
  obtain ⟨r1, r2⟩ := ring_spec n
  have r1 := r1 hr
  have hb : 1 ≤ (2 * ring n - 1) * (2 * ring n - 1) := Nat.mul_pos (by omega) (by omega)
  rw [h1]
  by_cases hs : stps n = 1
  · -- the last one of the ring ahead
    have hn : n = (2 * ring n - 1) * (2 * ring n - 1) := by omega
    obtain ⟨m, hm⟩ : ∃ m, ring n = m + 1 := ⟨ring n - 1, by omega⟩
    rw [hm] at hn
    have e1 : 2 * (m + 1) - 1 = 2 * m + 1 := by omega
    rw [e1] at hn
    have hr' : ring (n - 1) = m := by
      refine ring_eq (fun hm0 => ?_) (by omega)
      have := Nat.mul_lt_mul'' (show 2 * m - 1 < 2 * m + 1 by omega) (show 2 * m - 1 < 2 * m + 1 by omega)
      omega
    rw [hs, hm]
    by_cases hm0 : m = 0
    · subst hm0
      have e2 : spP (n - 1) = (0, 0) := by unfold spP; rw [if_pos hr']
      rw [e2]
      rfl
    · obtain ⟨k1, k2, k3, k4⟩ := spP_pos (n - 1) (by omega)
      rw [k1, hr'] at *
      have e3 : (2 * m + 1) * (2 * m + 1) = (2 * m - 1) * (2 * m - 1) + 8 * m := by
        have e1 : 2 * m + 1 = (2 * m - 1) + 2 := by omega
        rw [e1]
        generalize hq : 2 * m - 1 = q
        rw [Nat.add_mul, Nat.mul_add]
        omega
      have hV : 1 ≤ (2 * m - 1) * (2 * m - 1) := Nat.mul_pos (by omega) (by omega)
      have hs8 : stps (n - 1) = 8 * m := by
        generalize (2 * m - 1) * (2 * m - 1) = V at *
        generalize (2 * m + 1) * (2 * m + 1) = U at *
        omega
      rw [hs8]
      refine fin _ _ ?_
      unfold pos
      rw [if_pos (by omega), if_neg (by omega), if_neg (by omega), if_neg (by omega)]
      simp only
      omega
  · have hr' : ring (n - 1) = ring n := ring_eq (fun _ => by omega) (by omega)
    obtain ⟨k1, k2, k3, k4⟩ := spP_pos (n - 1) (by omega)
    rw [k1, hr']
    rw [hr'] at k4
    have hs' : stps (n - 1) = stps n - 1 := by
      generalize (2 * ring n - 1) * (2 * ring n - 1) = V at *
      omega
    rw [hs']
    refine fin _ _ ?_
    clear h1 k1 k2 k3 k4 r1 r2 h4 hb hr'
    generalize stps n = s at *
    generalize ring n = k at *
    unfold pos
    split
    · rw [if_pos (by omega)]; simp only; omega
    · split
      · split
        · simp only; omega
        · rw [if_pos (by omega)]; simp only; omega
      · split
        · rw [if_neg (by omega)]
          split
          · simp only; omega
          · rw [if_pos (by omega)]; simp only; omega
        · rw [if_neg (by omega), if_neg (by omega)]
          split
          · simp only; omega
          · simp only; omega

end Go.Proofs.Ythodhabjcbohcaa

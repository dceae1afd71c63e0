/- The spiral leg by leg, and ring by ring: the mathematics of the document's Spiral and Unspiral. -/
import Derived.Test.YthodhabjcbohcaaPlV
namespace Go.Proofs.Ythodhabjcbohcaa
set_option linter.unusedVariables false

/-- how many steps are ahead of leg j -/
def legS (j : Nat) : Nat := (j / 2 + 1) * ((j + 1) / 2)
theorem legS_succ (j : Nat) : legS (j + 1) = legS j + (j / 2 + 1) := by
  unfold legS
  rcases Nat.mod_two_eq_zero_or_one j with h | h
  · obtain ⟨i, rfl⟩ : ∃ i, j = 2 * i := ⟨j / 2, by omega⟩
    rw [show (2 * i + 1) / 2 = i by omega, show (2 * i + 1 + 1) / 2 = i + 1 by omega, show 2 * i / 2 = i by omega, Nat.mul_add, Nat.mul_one]
  · obtain ⟨i, rfl⟩ : ∃ i, j = 2 * i + 1 := ⟨j / 2, by omega⟩
    rw [show (2 * i + 1 + 1) / 2 = i + 1 by omega, show (2 * i + 1 + 1 + 1) / 2 = i + 1 by omega, show (2 * i + 1) / 2 = i by omega, Nat.add_mul (i + 1) 1, Nat.one_mul]

theorem spP_at (m s : Nat) (h1 : 1 ≤ s) (h2 : s ≤ 8 * (m + 1)) : spP ((2 * m + 1) * (2 * m + 1) - 1 + s) = pos ((m + 1 : Nat) : Int) (s : Int) := by
  have e : (2 * (m + 1) + 1) * (2 * (m + 1) + 1) = (2 * m + 1) * (2 * m + 1) + 8 * (m + 1) := by
    rw [show 2 * (m + 1) + 1 = (2 * m + 1) + 2 by omega]
    generalize hq : 2 * m + 1 = q
    rw [Nat.add_mul, Nat.mul_add]
    omega
  have hq : 1 ≤ (2 * m + 1) * (2 * m + 1) := Nat.mul_pos (by omega) (by omega)
  have hr : ring ((2 * m + 1) * (2 * m + 1) - 1 + s) = m + 1 := by
    refine ring_eq (fun _ => ?_) ?_
    · rw [show 2 * (m + 1) - 1 = 2 * m + 1 by omega]; omega
    · rw [e]; omega
  obtain ⟨k1, k2, k3, k4⟩ := spP_pos _ (show ring ((2 * m + 1) * (2 * m + 1) - 1 + s) ≠ 0 by omega)
  have hs : stps ((2 * m + 1) * (2 * m + 1) - 1 + s) = s := by
    unfold stps
    rw [hr, show 2 * (m + 1) - 1 = 2 * m + 1 by omega]
    omega
  rw [k1, hr, hs]

theorem quart_add4 (j : Nat) (p : Int × Int) : quart (j + 4) p = quart j p := by
  obtain ⟨x, y⟩ := p
  show (- -(quart j (x, y)).1, - -(quart j (x, y)).2) = _
  rw [Int.neg_neg, Int.neg_neg]
theorem quart_4m (m c : Nat) (p : Int × Int) : quart (4 * m + c) p = quart c p := by
  induction m with
  | zero => rw [Nat.mul_zero, Nat.zero_add]
  | succ m ih => rw [show 4 * (m + 1) + c = (4 * m + c) + 4 by omega, quart_add4, ih]

/-- along a leg the place goes on by its direction -/
theorem leg_adv (j t : Nat) (ht : t ≤ j / 2 + 1) : spP (legS j + t) = ((spP (legS j)).1 + (quart j (1, 0)).1 * t, (spP (legS j)).2 + (quart j (1, 0)).2 * t) := by
  by_cases hj : j = 0
  · subst hj
    have : t = 0 ∨ t = 1 := by omega
    rcases this with rfl | rfl <;> decide +kernel
  · obtain ⟨m, c, hc, rfl⟩ : ∃ m c, c < 4 ∧ j = 4 * m + (c + 1) := ⟨(j - 1) / 4, (j - 1) % 4, by omega, by omega⟩
    rw [quart_4m]
    have hcs : c = 0 ∨ c = 1 ∨ c = 2 ∨ c = 3 := by omega
    have hq : 1 ≤ (2 * m + 1) * (2 * m + 1) := Nat.mul_pos (by omega) (by omega)
    have key : ∀ s0 : Nat, legS (4 * m + (c + 1)) = (2 * m + 1) * (2 * m + 1) - 1 + s0 → 1 ≤ s0 → s0 ≤ 8 * (m + 1) → spP (legS (4 * m + (c + 1))) = pos ((m + 1 : Nat) : Int) (s0 : Int) ∧ (s0 + t ≤ 8 * (m + 1) → spP (legS (4 * m + (c + 1)) + t) = pos ((m + 1 : Nat) : Int) ((s0 + t : Nat) : Int)) := by
      intro s0 h1 h2 h3
      refine ⟨by rw [h1, spP_at m s0 h2 h3], fun h4 => ?_⟩
      rw [h1, Nat.add_assoc, spP_at m (s0 + t) (by omega) h4]
    rcases hcs with rfl | rfl | rfl | rfl
    · have hS : legS (4 * m + (0 + 1)) = (2 * m + 1) * (2 * m + 1) - 1 + 1 := by
        unfold legS; rw [show (4 * m + (0 + 1)) / 2 + 1 = 2 * m + 1 by omega, show (4 * m + (0 + 1) + 1) / 2 = 2 * m + 1 by omega]; omega
      obtain ⟨g1, g2⟩ := key 1 hS (by omega) (by omega)
      rw [g1, g2 (by omega)]
      unfold pos
      refine Prod.ext ?_ ?_ <;> simp only [quart] <;> (repeat' split) <;> first | omega | (dsimp only; omega)
    · have hS : legS (4 * m + (1 + 1)) = (2 * m + 1) * (2 * m + 1) - 1 + 2 * (m + 1) := by
        unfold legS; rw [show (4 * m + (1 + 1)) / 2 + 1 = (2 * m + 1) + 1 by omega, show (4 * m + (1 + 1) + 1) / 2 = 2 * m + 1 by omega, Nat.add_mul, Nat.one_mul]; omega
      obtain ⟨g1, g2⟩ := key _ hS (by omega) (by omega)
      rw [g1, g2 (by omega)]
      unfold pos
      refine Prod.ext ?_ ?_ <;> simp only [quart] <;> (repeat' split) <;> first | omega | (dsimp only; omega)
    · have hS : legS (4 * m + (2 + 1)) = (2 * m + 1) * (2 * m + 1) - 1 + 4 * (m + 1) := by
        unfold legS; rw [show (4 * m + (2 + 1)) / 2 + 1 = (2 * m + 1) + 1 by omega, show (4 * m + (2 + 1) + 1) / 2 = (2 * m + 1) + 1 by omega, Nat.add_mul, Nat.mul_add]; omega
      obtain ⟨g1, g2⟩ := key _ hS (by omega) (by omega)
      rw [g1, g2 (by omega)]
      unfold pos
      refine Prod.ext ?_ ?_ <;> simp only [quart] <;> (repeat' split) <;> first | omega | (dsimp only; omega)
    · have hS : legS (4 * m + (3 + 1)) = (2 * m + 1) * (2 * m + 1) - 1 + 6 * (m + 1) := by
        unfold legS; rw [show (4 * m + (3 + 1)) / 2 + 1 = (2 * m + 1) + 2 by omega, show (4 * m + (3 + 1) + 1) / 2 = (2 * m + 1) + 1 by omega, Nat.add_mul, Nat.mul_add]; omega
      obtain ⟨g1, g2⟩ := key _ hS (by omega) (by omega)
      by_cases hl : t = 2 * (m + 1) + 1
      · have e2 : legS (4 * m + (3 + 1)) + t = (2 * (m + 1) + 1) * (2 * (m + 1) + 1) - 1 + 1 := by
          rw [hS, hl]
          have e : (2 * (m + 1) + 1) * (2 * (m + 1) + 1) = (2 * m + 1) * (2 * m + 1) + 8 * (m + 1) := by
            rw [show 2 * (m + 1) + 1 = (2 * m + 1) + 2 by omega]
            generalize hq : 2 * m + 1 = q
            rw [Nat.add_mul, Nat.mul_add]
            omega
          rw [e]; omega
        rw [g1, e2, spP_at (m + 1) 1 (by omega) (by omega)]
        unfold pos
        refine Prod.ext ?_ ?_ <;> simp only [quart] <;> (repeat' split) <;> first | omega | (dsimp only; omega)
      · rw [g1, g2 (by omega)]
        unfold pos
        refine Prod.ext ?_ ?_ <;> simp only [quart] <;> (repeat' split) <;> first | omega | (dsimp only; omega)

theorem legS_big (j : Nat) (h : 300 ≤ j) : 20000 < legS j := by
  unfold legS
  have := Nat.mul_le_mul (show 151 ≤ j / 2 + 1 by omega) (show 150 ≤ (j + 1) / 2 by omega)
  omega

theorem sd_cases (x y : Int) (k : Nat) : (sdJ x y k = 0 ∧ x = k ∧ y ≠ -k) ∨ (sdJ x y k = 1 ∧ ¬ (x = k ∧ y ≠ -k) ∧ y = k ∧ x ≠ k) ∨ (sdJ x y k = 2 ∧ ¬ (x = k ∧ y ≠ -k) ∧ ¬ (y = k ∧ x ≠ k) ∧ x = -k ∧ y ≠ k) ∨ (sdJ x y k = 3 ∧ ¬ (x = k ∧ y ≠ -k) ∧ ¬ (y = k ∧ x ≠ k) ∧ ¬ (x = -k ∧ y ≠ k)) := by
  unfold sdJ
  split
  · exact Or.inl ⟨rfl, by assumption⟩
  · split
    · exact Or.inr (Or.inl ⟨rfl, by assumption, by assumption⟩)
    · split
      · exact Or.inr (Or.inr (Or.inl ⟨rfl, by assumption, by assumption, by assumption⟩))
      · exact Or.inr (Or.inr (Or.inr ⟨rfl, by assumption, by assumption, by assumption⟩))

/-- the document's number of a place, ring by ring -/
def unD (x y : Int) : Int := let k : Int := (rk x y : Nat); let last := (2 * k + 1) * (2 * k + 1) - 1; if y = -k then last - (k - x) else if x = -k then last - 2 * k - (y + k) else if y = k then last - 4 * k - (x + k) else last - 6 * k - (k - y)
theorem unD_unP (x y : Int) : unD x y = unP x y := by
  unfold unD unP
  by_cases hz : x = 0 ∧ y = 0
  · obtain ⟨rfl, rfl⟩ := hz
    decide +kernel
  · rw [if_neg hz]
    have hk1 : 1 ≤ rk x y := by unfold rk; omega
    have hd := sd_done x y (rk x y) rfl hk1
    have hr : rk x y = max x.natAbs y.natAbs := rfl
    generalize rk x y = k at *
    obtain ⟨m, rfl⟩ : ∃ m, k = m + 1 := ⟨k - 1, by omega⟩
    have e1 : (2 * ((m + 1 : Nat) : Int) + 1) * (2 * ((m + 1 : Nat) : Int) + 1) - 1 = (((2 * (m + 1) - 1) * (2 * (m + 1) - 1) - 1 : Nat) : Int) + 8 * ((m + 1 : Nat) : Int) := by
      rw [show 2 * (m + 1) - 1 = 2 * m + 1 by omega]
      have h1 : (2 * ((m + 1 : Nat) : Int) + 1) = ((2 * m + 1 + 2 : Nat) : Int) := by omega
      have hq : 1 ≤ (2 * m + 1) * (2 * m + 1) := Nat.mul_pos (by omega) (by omega)
      rw [h1, ← Int.natCast_mul]
      have h2 : (2 * m + 1 + 2) * (2 * m + 1 + 2) = (2 * m + 1) * (2 * m + 1) + 8 * (m + 1) := by
        generalize hq : 2 * m + 1 = q
        rw [Nat.add_mul, Nat.mul_add]
        omega
      rw [h2]; omega
    simp only [e1]
    generalize (((2 * (m + 1) - 1) * (2 * (m + 1) - 1) - 1 : Nat) : Int) = V at *
    generalize m + 1 = k at *
    have hsd := sd_cases x y k
    generalize sdJ x y k = J at *
    clear hd e1
    rcases hsd with ⟨rfl, h⟩ | ⟨rfl, h⟩ | ⟨rfl, h⟩ | ⟨rfl, h⟩ <;> simp only [bk] <;> (repeat' split) <;> omega

end Go.Proofs.Ythodhabjcbohcaa

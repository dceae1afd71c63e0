
/- Contracts of ratio's Sub, Compare, Floor, Ceil, Scale, and the document's. -/
import Derived.Test.YtmaeebgphblilabRtE
namespace Go.Proofs.Ytmaeebgphblilab
open Go.RowKit
set_option linter.unusedVariables false

theorem okR_neg (n d : Int) : okR (-n) d = okR n d := by
  unfold okR
  rw [Int.natAbs_neg]
  congr 1
  apply propext
  constructor <;> rintro ⟨h1, h2, h3⟩ <;> exact ⟨by omega, by omega, h3⟩

theorem div_floor (n d : Int) (hd : 0 < d) : (n.tmod d < 0 → n / d = n.tdiv d - 1) ∧ (¬ n.tmod d < 0 → n / d = n.tdiv d) := by
  have h1 := Int.mul_tdiv_add_tmod n d
  have h2 := Int.mul_ediv_add_emod n d
  have h3 := Int.emod_nonneg n (b := d) (by omega)
  have h4 := Int.emod_lt_of_pos n hd
  have h5 : n.tmod d < d := Int.tmod_lt_of_pos n hd
  have h6 : -d < n.tmod d := by have := Int.lt_tmod_of_pos n hd; omega
  generalize n.tmod d = r at *
  generalize n.tdiv d = q at *
  generalize n / d = Q at *
  generalize n % d = R at *
  constructor
  · intro hr
    have hm : d * (q - Q) = R - r := by rw [Int.mul_sub]; omega
    have hlo : 0 < q - Q := by
      rcases (show 0 < (q - Q) ∨ (q - Q) ≤ 0 by omega) with h | h
      · exact h
      · have := Int.mul_le_mul_of_nonneg_left h (Int.le_of_lt hd); rw [Int.mul_zero] at this; omega
    have hhi : q - Q < 2 := by
      rcases (show (q - Q) < 2 ∨ 2 ≤ (q - Q) by omega) with h | h
      · exact h
      · have := Int.mul_le_mul_of_nonneg_left h (Int.le_of_lt hd); omega
    omega
  · intro hr
    have hm : d * (q - Q) = R - r := by rw [Int.mul_sub]; omega
    have hlo : -1 < q - Q := by
      rcases (show (-1) < (q - Q) ∨ (q - Q) ≤ (-1) by omega) with h | h
      · exact h
      · have := Int.mul_le_mul_of_nonneg_left h (Int.le_of_lt hd); omega
    have hhi : q - Q < 1 := by
      rcases (show (q - Q) < 1 ∨ 1 ≤ (q - Q) by omega) with h | h
      · exact h
      · have := Int.mul_le_mul_of_nonneg_left h (Int.le_of_lt hd); omega
    omega

set_option maxRecDepth 100000 in
theorem notAbove_any (n d : Int) (w : World) (h0 : -9223372036854775807 ≤ n) (h1 : n ≤ 9223372036854775807) (h2 : 0 < d) (h3 : d ≤ 9223372036854775807) : Calls Try.prog 34 #[.int .i64 n, .int .i64 d] w fun e w' => e = .returned (.int .i64 (n / d)) ∧ w = w' := by
  obtain ⟨f1, f2⟩ := div_floor n d h2
  have hb : -9223372036854775807 ≤ n.tdiv d ∧ n.tdiv d ≤ 9223372036854775807 := by
    have := tdiv_bound n d.toNat (by omega) 9223372036854775807 h0 h1
    rwa [show ((d.toNat : Nat) : Int) = d by omega] at this
  obtain ⟨r, hr⟩ : ∃ r, n.tmod d = r := ⟨_, rfl⟩
  obtain ⟨q, hq⟩ : ∃ q, n.tdiv d = q := ⟨_, rfl⟩
  have hr5 : n.tmod d < d := Int.tmod_lt_of_pos n h2
  have hr6 : -d < n.tmod d := by have := Int.lt_tmod_of_pos n h2; omega
  rw [hr, hq] at f1 f2
  rw [hr] at hr5 hr6
  rw [hq] at hb
  have hz : ¬ d = 0 := by omega
  by_cases c : r < 0
  · rw [f1 c]
    clear f1 f2
    go_enter Try.func34, Try.ntmps34
    go_wp2
    go_ret
    exact ⟨rfl, rfl⟩
  · rw [f2 c]
    clear f1 f2
    go_enter Try.func34, Try.ntmps34
    go_wp2
    go_ret
    exact ⟨rfl, rfl⟩

def cmpV (x y : Int) : Int := if x < y then -1 else if y < x then 1 else 0
end Go.Proofs.Ytmaeebgphblilab

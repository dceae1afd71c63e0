/- Contracts of ratio's small functions: Gcd, isWithin, size, and the document's Gcd, abs. -/
import Derived.Test.YtmaeebgphblilabGr
import Derived.ScopeJumps
import Derived.WalkMore
namespace Go.Proofs.Ytmaeebgphblilab
open Go.RowKit
set_option linter.unusedVariables false

set_option maxRecDepth 100000 in
theorem within_any (n m : Int) (w : World) (h0 : 0 ≤ m) (h1 : m ≤ 4611686018427387904) : Calls Try.prog 37 #[.int .i64 n, .int .i64 m] w fun e w' => e = .returned (.bool (decide (-m ≤ n ∧ n ≤ m))) ∧ w = w' := by
  by_cases h2 : -m ≤ n
  · by_cases h3 : n ≤ m
    · have hd : decide (-m ≤ n ∧ n ≤ m) = true := by simp; omega
      rw [hd]
      go_enter Try.func37, Try.ntmps37
      go_wp2
      go_ret
      exact ⟨rfl, rfl⟩
    · have hd : decide (-m ≤ n ∧ n ≤ m) = false := by simp; omega
      rw [hd]
      go_enter Try.func37, Try.ntmps37
      go_wp2
      go_ret
      exact ⟨rfl, rfl⟩
  · have hd : decide (-m ≤ n ∧ n ≤ m) = false := by simp; omega
    rw [hd]
    go_enter Try.func37, Try.ntmps37
    go_wp2
    go_ret
    exact ⟨rfl, rfl⟩

set_option maxRecDepth 100000 in
theorem size_any (n : Int) (w : World) (h0 : -9223372036854775807 ≤ n) (h1 : n ≤ 9223372036854775807) : Calls Try.prog 41 #[.int .i64 n] w fun e w' => e = .returned (.int .i64 (n.natAbs : Nat)) ∧ w = w' := by
  by_cases h : n < -n
  · have hm : (n.natAbs : Int) = -n := by omega
    rw [hm]
    go_enter Try.func41, Try.ntmps41
    go_wp2
    go_ret
    exact ⟨rfl, rfl⟩
  · have hm : (n.natAbs : Int) = n := by omega
    rw [hm]
    go_enter Try.func41, Try.ntmps41
    go_wp2
    go_ret
    exact ⟨rfl, rfl⟩

set_option maxRecDepth 100000 in
theorem rabs_any (n : Int) (w : World) (h0 : -9223372036854775807 ≤ n) (h1 : n ≤ 9223372036854775807) : Calls Try.prog 36 #[.int .i64 n] w fun e w' => e = .returned (.int .i64 (n.natAbs : Nat)) ∧ w = w' := by
  by_cases h : n < 0
  · have hm : (n.natAbs : Int) = -n := by omega
    rw [hm]
    go_enter Try.func36, Try.ntmps36
    go_wp2
    go_ret
    exact ⟨rfl, rfl⟩
  · have hm : (n.natAbs : Int) = n := by omega
    rw [hm]
    go_enter Try.func36, Try.ntmps36
    go_wp2
    go_ret
    exact ⟨rfl, rfl⟩

set_option maxRecDepth 100000 in
theorem gcd_neg (a b : Int) (w : World) (h : a < 0 ∨ b < 0) : Calls Try.prog 40 #[.int .i64 a, .int .i64 b] w fun e w' => e = .returned (.int .i64 0) ∧ w = w' := by
  by_cases h1 : a < 0
  · clear h
    go_enter Try.func40, Try.ntmps40
    go_wp2
    go_step3
    go_wp2
    rw [Exit.noGoto_ret]
    go_ret
    exact ⟨rfl, rfl⟩
  · have h2 : b < 0 := by omega
    clear h
    go_enter Try.func40, Try.ntmps40
    go_wp2
    go_step3
    go_wp2
    rw [Exit.noGoto_ret]
    go_ret
    exact ⟨rfl, rfl⟩

theorem gcd_step (x y : Nat) : Nat.gcd y (x % y) = Nat.gcd x y := by
  rw [Nat.gcd_comm x y]
  exact (Nat.gcd_rec y x ▸ Nat.gcd_comm _ _)

set_option maxRecDepth 100000 in
theorem gcd_any (a b : Nat) (w : World) (ha : a ≤ 9223372036854775807) (hb : b ≤ 9223372036854775807) : Calls Try.prog 40 #[.int .i64 (a : Nat), .int .i64 (b : Nat)] w fun e w' => e = .returned (.int .i64 (Nat.gcd a b : Nat)) ∧ Below w.heap.size w w' := by
  have q1 : ¬ (a : Int) < 0 := by omega
  have q2 : ¬ (b : Int) < 0 := by omega
  go_enter Try.func40, Try.ntmps40
  go_wp2
  refine wp_scope_jumps 0 (fun a' w' => Below w.heap.size w w' ∧ ∃ (x y : Nat) (u5 u6 u7 u8 u9 u10 u11 u12 u13 u14 u15 u16 u17 : Value), a' = { tmps := #[.int .i64 (x : Nat), .int .i64 (y : Nat), undef, undef, .int .i64 0, u5, u6, u7, u8, u9, u10, u11, u12, u13, u14, u15, u16, u17], defers := [] } ∧ Nat.gcd x y = Nat.gcd a b ∧ x ≤ 9223372036854775807 ∧ y ≤ 9223372036854775807) (fun a' _ => (intOf (a'.tmps.getD 1 undef)).toNat) rfl ?_ ?_
  · by_cases hz : b = 0
    · subst hz
      go_wp2
      go_step3
      go_wp2
      simp only [Exit.jump]
      go_ret
      exact ⟨by rw [Nat.gcd_zero_right]; rfl, Below.refl _ _⟩
    · have hz' : ¬ (b : Int) = 0 := by omega
      have hr : (a : Int).tmod b = ((a % b : Nat) : Int) := rfl
      have hlt := Nat.mod_lt a (Nat.pos_of_ne_zero hz)
      have hg := gcd_step a b
      generalize a % b = r at *
      clear hz
      go_wp2
      go_step3
      go_wp2
      go_region
      go_wp2
      go_step3
      refine ⟨rfl, (Below.refl _ _).drew, b, r, _, _, _, _, _, _, _, _, _, _, _, _, _, rfl, hg, by omega, by omega⟩
  · rintro a' w' ⟨hB, x, y, u5, u6, u7, u8, u9, u10, u11, u12, u13, u14, u15, u16, u17, rfl, hg0, hx, hy⟩
    have HB := hide hB
    have HG := hide hg0
    clear hB hg0
    by_cases hz : y = 0
    · subst hz
      go_wp2
      simp only [Exit.jump]
      go_ret
      refine ⟨?_, unhide HB⟩
      have := unhide HG
      rw [← this, Nat.gcd_zero_right]
      rfl
    · have hz' : ¬ (y : Int) = 0 := by omega
      have hr : (x : Int).tmod y = ((x % y : Nat) : Int) := rfl
      have hlt := Nat.mod_lt x (Nat.pos_of_ne_zero hz)
      have hg := gcd_step x y
      generalize x % y = r at *
      clear hz
      go_wp2
      go_region
      go_wp2
      go_step3
      refine ⟨rfl, ⟨(unhide HB).drew, y, r, _, _, _, _, _, _, _, _, _, _, _, _, _, rfl, hg.trans (unhide HG), by omega, by omega⟩, ?_⟩
      simp [intOf]
      omega

end Go.Proofs.Ytmaeebgphblilab

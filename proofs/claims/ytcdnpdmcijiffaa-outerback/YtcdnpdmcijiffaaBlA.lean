
/- Contracts of block's small functions, and of the document's: sizes, counts, blocks of bytes 0. -/
import Derived.Test.YtcdnpdmcijiffaaTxtS
import Derived.Test.YtcdnpdmcijiffaaBrow
namespace Go.Proofs.Ytcdnpdmcijiffaa
open Go.RowKit
set_option linter.unusedVariables false

/-- may a size be? -/
def may (n : Int) : Bool := decide (1 ≤ n ∧ n ≤ 64)
theorem may_iff {n : Int} : may n = true ↔ 1 ≤ n ∧ n ≤ 64 := by unfold may; simp
theorem may_not {n : Int} : may n = false ↔ n < 1 ∨ 64 < n := by unfold may; simp; omega

theorem isSize_any (n : Int) (w : World) : Calls Try.prog 50 #[.int .i64 n] w fun e w' => e = .returned (.bool (may n)) ∧ w = w' := by
  cases h : may n with
  | true =>
    obtain ⟨h1, h2⟩ := may_iff.1 h
    clear h
    go_enter Try.func50, Try.ntmps50
    go_wp2
    go_ret
    exact ⟨rfl, rfl⟩
  | false =>
    rcases may_not.1 h with h1 | h1
    · have h2 : ¬ (1 : Int) ≤ n := by omega
      clear h
      go_enter Try.func50, Try.ntmps50
      go_wp2
      go_ret
      exact ⟨rfl, rfl⟩
    · have h2 : (1 : Int) ≤ n := by omega
      have h3 : ¬ n ≤ 64 := by omega
      clear h
      go_enter Try.func50, Try.ntmps50
      go_wp2
      go_ret
      exact ⟨rfl, rfl⟩
/-- a block of bytes 0 -/
def zeroL (n : Int) : By := if may n = true then List.replicate n.toNat 0 else []
theorem zero_any (n : Int) (w : World) : Calls Try.prog 39 #[.int .i64 n] w fun e w' => e = .returned (.string (bs (zeroL n))) ∧ Below w.heap.size w w' := by
  have hm := hide (isSize_any n)
  cases h : may n with
  | true =>
    rw [h] at hm
    obtain ⟨h1, h2⟩ := may_iff.1 h
    have hz : zeroL n = List.replicate n.toNat 0 := by unfold zeroL; rw [if_pos h]
    rw [hz]
    obtain ⟨m, rfl⟩ : ∃ m : Nat, n = m := ⟨n.toNat, by omega⟩
    rw [Int.toNat_natCast]
    clear h hz
    have hm1 : m ≤ 64 := by omega
    go_enter Try.func39, Try.ntmps39
    go_wp2_with fail
    refine (unhide hm _).mono ?_
    rintro e w1 ⟨rfl, rfl⟩
    obtain ⟨i0, hi, hz0, hz1, hz2⟩ := info_parts Try.infoUb
    go_wp2_with (at_make; refine wpList_make_full _ rfl _ _ 39 rfl w.heap.size 5 i0 (.int .u8 0) 1 Try.undBb hi hz0 hz1 .i64 .i64 _ _ m rfl rfl rfl rfl ?c2 ?c3 ?c4 ?_)
    case c2 => rw [hz2]; omega
    case c3 => unfold maxLen; omega
    case c4 => exact Nat.le_refl _
    intro w1 hown hgrow
    have hb1 : Below w.heap.size w w1 := (Below.refl _ _).grown hgrow (Nat.le_refl _) (by intro k hk; cases hk)
    rw [made_bytes] at hown
    have hcv := run_string_own (P := Try.prog) 39 9 Try.undBb (by kernel_rfl) (by kernel_rfl) hown
    clear hgrow hown
    have HB := hide hb1
    clear hb1
    generalize hD : (List.replicate m (0 : UInt8)).toArray = D at *
    have HD := hide hD
    clear hD
    go_wp2
    go_ret
    exact ⟨by rw [← unhide HD]; rfl, unhide HB⟩
  | false =>
    rw [h] at hm
    have hz : zeroL n = [] := by unfold zeroL; rw [if_neg (by rw [h]; simp)]
    rw [hz]
    clear h hz
    go_enter Try.func39, Try.ntmps39
    go_wp2_with fail
    refine (unhide hm _).mono ?_
    rintro e w1 ⟨rfl, rfl⟩
    go_wp2
    go_ret
    exact ⟨rfl, Below.refl _ _⟩

theorem zeroL_nat (m : Nat) (h1 : 1 ≤ m) (h2 : m ≤ 64) : zeroL m = List.replicate m 0 := by
  unfold zeroL
  rw [if_pos (may_iff.2 (by omega)), Int.toNat_natCast]
/-- how many blocks of a size there are -/
def countN (long size : Int) : Nat :=
  if (1 ≤ long ∧ long ≤ 4096) ∧ may size = true then (if ((long + size - 1) / size) ≤ 96 then ((long + size - 1) / size).toNat else 0) else 0
theorem countN_le (long size : Int) : countN long size ≤ 96 := by
  unfold countN
  split
  · split
    · omega
    · omega
  · omega
theorem countN_pos {long size : Int} (h : countN long size ≠ 0) : ∃ l s : Nat, long = l ∧ size = s ∧ 1 ≤ l ∧ l ≤ 4096 ∧ 1 ≤ s ∧ s ≤ 64 ∧ countN long size = (l + s - 1) / s := by
  unfold countN at h ⊢
  by_cases h1 : (1 ≤ long ∧ long ≤ 4096) ∧ may size = true
  · rw [if_pos h1] at h ⊢
    by_cases h2 : ((long + size - 1) / size) ≤ 96
    · rw [if_pos h2]
      obtain ⟨m1, m2⟩ := may_iff.1 h1.2
      obtain ⟨l, rfl⟩ : ∃ m : Nat, long = m := ⟨long.toNat, by omega⟩
      obtain ⟨s, rfl⟩ : ∃ m : Nat, size = m := ⟨size.toNat, by omega⟩
      refine ⟨l, s, rfl, rfl, by omega, by omega, by omega, by omega, ?_⟩
      have : ((l : Int) + s - 1) / s = (((l + s - 1) / s : Nat) : Int) := by
        rw [Int.natCast_ediv]
        congr 1
        omega
      rw [this]
      exact Int.toNat_natCast _
    · rw [if_neg h2] at h; exact absurd rfl h
  · rw [if_neg h1] at h; exact absurd rfl h
/-- the least number of blocks that hold all -/
theorem ceil_lt (l s k : Nat) (hs : 1 ≤ s) (hl : 1 ≤ l) : k * s < l ↔ k < (l + s - 1) / s := by
  rw [Nat.lt_div_iff_mul_lt (by omega)]
  constructor
  · intro h
    omega
  · intro h
    omega
end Go.Proofs.Ytcdnpdmcijiffaa

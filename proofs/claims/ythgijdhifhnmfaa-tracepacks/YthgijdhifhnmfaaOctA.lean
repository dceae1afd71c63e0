/- Contracts of oct's small functions. -/
import Derived.Test.YthgijdhifhnmfaaLib
import Derived.BigQuiet
namespace Go.Proofs.Ythgijdhifhnmfaa
open Go.RowKit
set_option linter.unusedVariables false

set_option maxRecDepth 100000 in
theorem isSize_yes (n : Int) (w : World) (h1 : 1 ≤ n) (h2 : n ≤ 7) :
    Calls Try.prog 46 #[.int .i64 n] w fun e w' => e = .returned (.bool true) ∧ w = w' := by
  go_enter Try.func46, Try.ntmps46
  go_wp2
  go_ret
  exact ⟨rfl, rfl⟩

set_option maxRecDepth 100000 in
theorem isSize_no (n : Int) (w : World) (h : n < 1 ∨ 7 < n) :
    Calls Try.prog 46 #[.int .i64 n] w fun e w' => e = .returned (.bool false) ∧ w = w' := by
  rcases h with h | h
  · have h' : ¬ 1 ≤ n := by omega
    go_enter Try.func46, Try.ntmps46
    go_wp2
    go_ret
    exact ⟨rfl, rfl⟩
  · have h1 : 1 ≤ n := by omega
    have h2 : ¬ n ≤ 7 := by omega
    go_enter Try.func46, Try.ntmps46
    go_wp2
    go_ret
    exact ⟨rfl, rfl⟩

set_option maxRecDepth 100000 in
theorem put_arg (n size : Int) (w : World) (h : size < 1 ∨ 7 < size) :
    Calls Try.prog 41 #[.int .i64 n, .int .i64 size] w fun e w' => e = .returned (.tuple #[.string ⟨#[]⟩, .int .i64 1]) ∧ w = w' := by
  go_enter Try.func41, Try.ntmps41
  go_wp2_with (go_at_call 46; refine (isSize_no _ _ h).mono ?_; rintro e w' ⟨rfl, rfl⟩)
  go_ret2
  exact ⟨rfl, rfl⟩

theorem Try.info5 : (Try.prog.info? 5).map (fun i => (i.zero, i.size, i.bytes)) = some (some (.int .u8 0), 1, 1) := by kernel_rfl
theorem Try.und27 : Try.prog.underlying 73 = some (.slice 5) := by kernel_rfl

set_option maxRecDepth 100000 in
theorem put_neg (n size : Int) (w : World) (h1 : 1 ≤ size) (h2 : size ≤ 7) (h : n < 0) :
    Calls Try.prog 41 #[.int .i64 n, .int .i64 size] w fun e w' => e = .returned (.tuple #[.string ⟨#[]⟩, .int .i64 8]) ∧ w = w' := by
  go_enter Try.func41, Try.ntmps41
  go_wp2_with (go_at_call 46; refine (isSize_yes _ _ h1 h2).mono ?_; rintro e w' ⟨rfl, rfl⟩)
  go_ret2
  exact ⟨rfl, rfl⟩


set_option maxRecDepth 100000 in
theorem put_over (n : Int) (size : Nat) (w : World) (h1 : 1 ≤ size) (h2 : size ≤ 7) (h : 0 ≤ n) (hn : (n / 2 ^ (8 * size) != 0) = true) :
    Calls Try.prog 41 #[.int .i64 n, .int .i64 size] w fun e w' => e = .returned (.tuple #[.string ⟨#[]⟩, .int .i64 8]) ∧ w = w' := by
  have hnn : decide (n < 0) = false := by simp; omega
  go_enter Try.func41, Try.ntmps41
  go_wp2_with (go_at_call 46; refine (isSize_yes _ _ (by omega) (by omega)).mono ?_; rintro e w' ⟨rfl, rfl⟩)
  go_ret2
  exact ⟨rfl, rfl⟩

set_option maxRecDepth 100000 in
theorem put_ok (n : Int) (size : Nat) (w : World) (h1 : 1 ≤ size) (h2 : size ≤ 7) (h : 0 ≤ n) (hn : (n / 2 ^ (8 * size) != 0) = false) :
    Calls Try.prog 41 #[.int .i64 n, .int .i64 size] w fun e w' => e = .returned (.tuple #[.string ⟨(putB n size).toArray⟩, .int .i64 0]) ∧ Below w.heap.size w w' := by
  have hnn : decide (n < 0) = false := by simp; omega
  obtain ⟨i0, hi, hz0, hz1, hz2⟩ := info_parts Try.info5
  go_enter Try.func41, Try.ntmps41
  go_wp2_with (first | (go_at_call 46; refine (isSize_yes _ _ (by omega) (by omega)).mono ?_; rintro e w' ⟨rfl, rfl⟩) | (at_make; refine wpList_make_full _ rfl _ _ 73 rfl w.heap.size 5 i0 (.int .u8 0) 1 Try.und27 hi hz0 hz1 .i64 .i64 _ _ size rfl rfl rfl rfl ?c2 ?c3 ?c4 ?_))
  case c2 => rw [hz2]; omega
  case c3 => unfold maxLen; omega
  case c4 => exact Nat.le_refl _
  intro w1 hown hgrow
  have hb1 : Below w.heap.size w w1 := (Below.refl _ _).grown hgrow (Nat.le_refl _) (by intro k hk; cases hk)
  rw [made_bytes] at hown
  clear hgrow
  go_wp2
  go_loopw [23] (fun i wr => ∃ k : Nat, k ≤ size ∧ i = .int .i64 k ∧ wr.ownsRow w.heap.size 5 1 (.slice (some ⟨w.heap.size, 0, none⟩) size size) size (bc (putL n size k)) ∧ Below w.heap.size w wr) (fun i _ => size - (intOf i).toNat)
  case atStart => exact ⟨0, Nat.zero_le _, rfl, by rw [putL_zero]; exact hown, hb1⟩
  case round =>
    clear hown hb1
    obtain ⟨k, hk, rfl, hown, hb⟩ := hrel
    by_cases hlt : k < size
    · have hfz := hown.frozenAt (size - 1 - k)
      have hce : ∃ u, wr.cell? ⟨w.heap.size, size - 1 - k, none⟩ = some u := ⟨_, (hown.cellAt (size - 1 - k) (by omega)).trans (bc_get _ _ (by rw [putL_length]; omega))⟩
      obtain ⟨u, hce⟩ := hce
      have hst := (hown.stored (size - 1 - k) (.int .u8 (n / 2 ^ (8 * k) % 256))).1
      have hb2 := hb.setCell (p := ⟨w.heap.size, size - 1 - k, none⟩) (Nat.le_refl _) (.int .u8 (n / 2 ^ (8 * k) % 256))
      rw [bc_set _ _ _ (by omega) (by omega), putL_step n size k hlt] at hst
      clear hown hb
      go_wp2
      go_roundw
      case rel => exact ⟨k + 1, by omega, by go_num, hst, hb2⟩
      case measure => simp [intOf]; omega
    · have hcv := run_string_own (P := Try.prog) 73 9 Try.und27 (by kernel_rfl) (by kernel_rfl) hown
      rw [show k = size by omega, putL_full] at hcv
      go_wp2
      go_ret2
      exact ⟨rfl, hb⟩

/-- what Put answers: the bytes, and the error -/
def putS (n size : Int) : List UInt8 × Int :=
  if size < 1 ∨ 7 < size then ([], 1) else if n < 0 ∨ n / 2 ^ (8 * size.toNat) ≠ 0 then ([], 8) else (putB n size.toNat, 0)

theorem put_any (n size : Int) (w : World) :
    Calls Try.prog 41 #[.int .i64 n, .int .i64 size] w fun e w' => e = .returned (.tuple #[.string ⟨(putS n size).1.toArray⟩, .int .i64 (putS n size).2]) ∧ Below w.heap.size w w' := by
  unfold putS
  by_cases hs : size < 1 ∨ 7 < size
  · rw [if_pos hs]
    refine (put_arg n size w hs).mono ?_
    rintro e w' ⟨rfl, rfl⟩
    exact ⟨rfl, Below.refl _ _⟩
  · rw [if_neg hs]
    obtain ⟨k, rfl⟩ := Int.eq_ofNat_of_zero_le (show 0 ≤ size by omega)
    rw [Int.toNat_natCast]
    by_cases hn : n < 0
    · rw [if_pos (.inl hn)]
      refine (put_neg n k w (by omega) (by omega) hn).mono ?_
      rintro e w' ⟨rfl, rfl⟩
      exact ⟨rfl, Below.refl _ _⟩
    · by_cases hd : n / 2 ^ (8 * k) = 0
      · rw [if_neg (by rintro (h | h) <;> omega)]
        exact put_ok n k w (by omega) (by omega) (by omega) (by simp [hd])
      · rw [if_pos (.inr hd)]
        refine (put_over n k w (by omega) (by omega) (by omega) (by simp [hd])).mono ?_
        rintro e w' ⟨rfl, rfl⟩
        exact ⟨rfl, Below.refl _ _⟩

theorem putS_length (n size : Int) : (putS n size).1.length ≤ 7 := by
  unfold putS
  by_cases hs : size < 1 ∨ 7 < size
  · rw [if_pos hs]; simp
  · rw [if_neg hs]
    split
    · simp
    · simp only [putB_length]; omega

end Go.Proofs.Ythgijdhifhnmfaa

/- Contracts of link's isPlain, and of the document's plain and digit. -/
import Derived.Test.YtgcfmgkhbenooaaLib
namespace Go.Proofs.Ytgcfmgkhbenooaa
open Go.RowKit
set_option linter.unusedVariables false

/-- whether a byte stands for itself -/
def plN (c : Nat) : Bool := decide (97 ≤ c ∧ c ≤ 122 ∨ 65 ≤ c ∧ c ≤ 90 ∨ 48 ≤ c ∧ c ≤ 57 ∨ c = 45 ∨ c = 46 ∨ c = 95 ∨ c = 126)
theorem plN_t {c : Nat} (h : 97 ≤ c ∧ c ≤ 122 ∨ 65 ≤ c ∧ c ≤ 90 ∨ 48 ≤ c ∧ c ≤ 57 ∨ c = 45 ∨ c = 46 ∨ c = 95 ∨ c = 126) : plN c = true := decide_eq_true h
theorem plN_f {c : Nat} (h : ¬ (97 ≤ c ∧ c ≤ 122 ∨ 65 ≤ c ∧ c ≤ 90 ∨ 48 ≤ c ∧ c ≤ 57 ∨ c = 45 ∨ c = 46 ∨ c = 95 ∨ c = 126)) : plN c = false := decide_eq_false h

set_option maxRecDepth 100000 in
theorem isplain_any (c : Nat) (hc : c < 256) (w : World) : Calls Try.prog 19 #[.int .u8 (c : Nat)] w fun e w' => e = .returned (.bool (plN c)) ∧ w = w' := by
  have hr : (c ≤ 44) ∨ (45 ≤ c ∧ c ≤ 45) ∨ (46 ≤ c ∧ c ≤ 46) ∨ (47 ≤ c ∧ c ≤ 47) ∨ (48 ≤ c ∧ c ≤ 57) ∨ (58 ≤ c ∧ c ≤ 64) ∨ (65 ≤ c ∧ c ≤ 90) ∨ (91 ≤ c ∧ c ≤ 94) ∨ (95 ≤ c ∧ c ≤ 95) ∨ (96 ≤ c ∧ c ≤ 96) ∨ (97 ≤ c ∧ c ≤ 122) ∨ (123 ≤ c ∧ c ≤ 125) ∨ (126 ≤ c ∧ c ≤ 126) ∨ (127 ≤ c) := by omega
  rcases hr with h | h | h | h | h | h | h | h | h | h | h | h | h | h
  · rw [plN_f (by omega)]
    have g1 : ((c : Nat) : Int) ≤ 44 := by omega
    have e45 : (((c : Nat) : Int) == 45) = false := by simp; omega
    have e46 : (((c : Nat) : Int) == 46) = false := by simp; omega
    have e95 : (((c : Nat) : Int) == 95) = false := by simp; omega
    have e126 : (((c : Nat) : Int) == 126) = false := by simp; omega
    have v97 : decide ((97 : Int) ≤ ((c : Nat) : Int)) = false := decide_eq_false (by omega)
    have v65 : decide ((65 : Int) ≤ ((c : Nat) : Int)) = false := decide_eq_false (by omega)
    have v48 : decide ((48 : Int) ≤ ((c : Nat) : Int)) = false := decide_eq_false (by omega)
    clear h
    go_enter Try.func19, Try.ntmps19
    go_wp2
    go_ret
    exact ⟨rfl, rfl⟩
  · rw [plN_t (by omega)]
    obtain rfl : c = 45 := by omega
    clear h hc
    go_enter Try.func19, Try.ntmps19
    go_wp2
    go_ret
    exact ⟨rfl, rfl⟩
  · rw [plN_t (by omega)]
    obtain rfl : c = 46 := by omega
    clear h hc
    go_enter Try.func19, Try.ntmps19
    go_wp2
    go_ret
    exact ⟨rfl, rfl⟩
  · rw [plN_f (by omega)]
    obtain rfl : c = 47 := by omega
    clear h hc
    go_enter Try.func19, Try.ntmps19
    go_wp2
    go_ret
    exact ⟨rfl, rfl⟩
  · rw [plN_t (by omega)]
    have g0 : (48 : Int) ≤ (c : Nat) := by omega
    have g1 : ((c : Nat) : Int) ≤ 57 := by omega
    have e45 : (((c : Nat) : Int) == 45) = false := by simp; omega
    have e46 : (((c : Nat) : Int) == 46) = false := by simp; omega
    have e95 : (((c : Nat) : Int) == 95) = false := by simp; omega
    have e126 : (((c : Nat) : Int) == 126) = false := by simp; omega
    have v97 : decide ((97 : Int) ≤ ((c : Nat) : Int)) = false := decide_eq_false (by omega)
    have v65 : decide ((65 : Int) ≤ ((c : Nat) : Int)) = false := decide_eq_false (by omega)
    clear h
    go_enter Try.func19, Try.ntmps19
    go_wp2
    go_ret
    exact ⟨rfl, rfl⟩
  · rw [plN_f (by omega)]
    have g0 : (58 : Int) ≤ (c : Nat) := by omega
    have g1 : ((c : Nat) : Int) ≤ 64 := by omega
    have e45 : (((c : Nat) : Int) == 45) = false := by simp; omega
    have e46 : (((c : Nat) : Int) == 46) = false := by simp; omega
    have e95 : (((c : Nat) : Int) == 95) = false := by simp; omega
    have e126 : (((c : Nat) : Int) == 126) = false := by simp; omega
    have u57 : decide (((c : Nat) : Int) ≤ 57) = false := decide_eq_false (by omega)
    have v97 : decide ((97 : Int) ≤ ((c : Nat) : Int)) = false := decide_eq_false (by omega)
    have v65 : decide ((65 : Int) ≤ ((c : Nat) : Int)) = false := decide_eq_false (by omega)
    clear h
    go_enter Try.func19, Try.ntmps19
    go_wp2
    go_ret
    exact ⟨rfl, rfl⟩
  · rw [plN_t (by omega)]
    have g0 : (65 : Int) ≤ (c : Nat) := by omega
    have g1 : ((c : Nat) : Int) ≤ 90 := by omega
    have e45 : (((c : Nat) : Int) == 45) = false := by simp; omega
    have e46 : (((c : Nat) : Int) == 46) = false := by simp; omega
    have e95 : (((c : Nat) : Int) == 95) = false := by simp; omega
    have e126 : (((c : Nat) : Int) == 126) = false := by simp; omega
    have u57 : decide (((c : Nat) : Int) ≤ 57) = false := decide_eq_false (by omega)
    have v97 : decide ((97 : Int) ≤ ((c : Nat) : Int)) = false := decide_eq_false (by omega)
    clear h
    go_enter Try.func19, Try.ntmps19
    go_wp2
    go_ret
    exact ⟨rfl, rfl⟩
  · rw [plN_f (by omega)]
    have g0 : (91 : Int) ≤ (c : Nat) := by omega
    have g1 : ((c : Nat) : Int) ≤ 94 := by omega
    have e45 : (((c : Nat) : Int) == 45) = false := by simp; omega
    have e46 : (((c : Nat) : Int) == 46) = false := by simp; omega
    have e95 : (((c : Nat) : Int) == 95) = false := by simp; omega
    have e126 : (((c : Nat) : Int) == 126) = false := by simp; omega
    have u57 : decide (((c : Nat) : Int) ≤ 57) = false := decide_eq_false (by omega)
    have u90 : decide (((c : Nat) : Int) ≤ 90) = false := decide_eq_false (by omega)
    have v97 : decide ((97 : Int) ≤ ((c : Nat) : Int)) = false := decide_eq_false (by omega)
    clear h
    go_enter Try.func19, Try.ntmps19
    go_wp2
    go_ret
    exact ⟨rfl, rfl⟩
  · rw [plN_t (by omega)]
    obtain rfl : c = 95 := by omega
    clear h hc
    go_enter Try.func19, Try.ntmps19
    go_wp2
    go_ret
    exact ⟨rfl, rfl⟩
  · rw [plN_f (by omega)]
    obtain rfl : c = 96 := by omega
    clear h hc
    go_enter Try.func19, Try.ntmps19
    go_wp2
    go_ret
    exact ⟨rfl, rfl⟩
  · rw [plN_t (by omega)]
    have g0 : (97 : Int) ≤ (c : Nat) := by omega
    have g1 : ((c : Nat) : Int) ≤ 122 := by omega
    have e45 : (((c : Nat) : Int) == 45) = false := by simp; omega
    have e46 : (((c : Nat) : Int) == 46) = false := by simp; omega
    have e95 : (((c : Nat) : Int) == 95) = false := by simp; omega
    have e126 : (((c : Nat) : Int) == 126) = false := by simp; omega
    have u57 : decide (((c : Nat) : Int) ≤ 57) = false := decide_eq_false (by omega)
    have u90 : decide (((c : Nat) : Int) ≤ 90) = false := decide_eq_false (by omega)
    clear h
    go_enter Try.func19, Try.ntmps19
    go_wp2
    go_ret
    exact ⟨rfl, rfl⟩
  · rw [plN_f (by omega)]
    have g0 : (123 : Int) ≤ (c : Nat) := by omega
    have g1 : ((c : Nat) : Int) ≤ 125 := by omega
    have e45 : (((c : Nat) : Int) == 45) = false := by simp; omega
    have e46 : (((c : Nat) : Int) == 46) = false := by simp; omega
    have e95 : (((c : Nat) : Int) == 95) = false := by simp; omega
    have e126 : (((c : Nat) : Int) == 126) = false := by simp; omega
    have u57 : decide (((c : Nat) : Int) ≤ 57) = false := decide_eq_false (by omega)
    have u90 : decide (((c : Nat) : Int) ≤ 90) = false := decide_eq_false (by omega)
    have u122 : decide (((c : Nat) : Int) ≤ 122) = false := decide_eq_false (by omega)
    clear h
    go_enter Try.func19, Try.ntmps19
    go_wp2
    go_ret
    exact ⟨rfl, rfl⟩
  · rw [plN_t (by omega)]
    obtain rfl : c = 126 := by omega
    clear h hc
    go_enter Try.func19, Try.ntmps19
    go_wp2
    go_ret
    exact ⟨rfl, rfl⟩
  · rw [plN_f (by omega)]
    have g0 : (127 : Int) ≤ (c : Nat) := by omega
    have e45 : (((c : Nat) : Int) == 45) = false := by simp; omega
    have e46 : (((c : Nat) : Int) == 46) = false := by simp; omega
    have e95 : (((c : Nat) : Int) == 95) = false := by simp; omega
    have e126 : (((c : Nat) : Int) == 126) = false := by simp; omega
    have u57 : decide (((c : Nat) : Int) ≤ 57) = false := decide_eq_false (by omega)
    have u90 : decide (((c : Nat) : Int) ≤ 90) = false := decide_eq_false (by omega)
    have u122 : decide (((c : Nat) : Int) ≤ 122) = false := decide_eq_false (by omega)
    clear h
    go_enter Try.func19, Try.ntmps19
    go_wp2
    go_ret
    exact ⟨rfl, rfl⟩

set_option maxRecDepth 100000 in
theorem dplain_any (c : Nat) (hc : c < 256) (w : World) : Calls Try.prog 22 #[.int .u8 (c : Nat)] w fun e w' => e = .returned (.bool (plN c)) ∧ w = w' := by
  have hr : (c ≤ 44) ∨ (45 ≤ c ∧ c ≤ 45) ∨ (46 ≤ c ∧ c ≤ 46) ∨ (47 ≤ c ∧ c ≤ 47) ∨ (48 ≤ c ∧ c ≤ 57) ∨ (58 ≤ c ∧ c ≤ 64) ∨ (65 ≤ c ∧ c ≤ 90) ∨ (91 ≤ c ∧ c ≤ 94) ∨ (95 ≤ c ∧ c ≤ 95) ∨ (96 ≤ c ∧ c ≤ 96) ∨ (97 ≤ c ∧ c ≤ 122) ∨ (123 ≤ c ∧ c ≤ 125) ∨ (126 ≤ c ∧ c ≤ 126) ∨ (127 ≤ c) := by omega
  rcases hr with h | h | h | h | h | h | h | h | h | h | h | h | h | h
  · rw [plN_f (by omega)]
    have g1 : ((c : Nat) : Int) ≤ 44 := by omega
    have e45 : (((c : Nat) : Int) == 45) = false := by simp; omega
    have e46 : (((c : Nat) : Int) == 46) = false := by simp; omega
    have e95 : (((c : Nat) : Int) == 95) = false := by simp; omega
    have e126 : (((c : Nat) : Int) == 126) = false := by simp; omega
    have v97 : decide ((97 : Int) ≤ ((c : Nat) : Int)) = false := decide_eq_false (by omega)
    have v65 : decide ((65 : Int) ≤ ((c : Nat) : Int)) = false := decide_eq_false (by omega)
    have v48 : decide ((48 : Int) ≤ ((c : Nat) : Int)) = false := decide_eq_false (by omega)
    clear h
    go_enter Try.func22, Try.ntmps22
    go_wp2
    go_ret
    exact ⟨rfl, rfl⟩
  · rw [plN_t (by omega)]
    obtain rfl : c = 45 := by omega
    clear h hc
    go_enter Try.func22, Try.ntmps22
    go_wp2
    go_ret
    exact ⟨rfl, rfl⟩
  · rw [plN_t (by omega)]
    obtain rfl : c = 46 := by omega
    clear h hc
    go_enter Try.func22, Try.ntmps22
    go_wp2
    go_ret
    exact ⟨rfl, rfl⟩
  · rw [plN_f (by omega)]
    obtain rfl : c = 47 := by omega
    clear h hc
    go_enter Try.func22, Try.ntmps22
    go_wp2
    go_ret
    exact ⟨rfl, rfl⟩
  · rw [plN_t (by omega)]
    have g0 : (48 : Int) ≤ (c : Nat) := by omega
    have g1 : ((c : Nat) : Int) ≤ 57 := by omega
    have e45 : (((c : Nat) : Int) == 45) = false := by simp; omega
    have e46 : (((c : Nat) : Int) == 46) = false := by simp; omega
    have e95 : (((c : Nat) : Int) == 95) = false := by simp; omega
    have e126 : (((c : Nat) : Int) == 126) = false := by simp; omega
    have v97 : decide ((97 : Int) ≤ ((c : Nat) : Int)) = false := decide_eq_false (by omega)
    have v65 : decide ((65 : Int) ≤ ((c : Nat) : Int)) = false := decide_eq_false (by omega)
    clear h
    go_enter Try.func22, Try.ntmps22
    go_wp2
    go_ret
    exact ⟨rfl, rfl⟩
  · rw [plN_f (by omega)]
    have g0 : (58 : Int) ≤ (c : Nat) := by omega
    have g1 : ((c : Nat) : Int) ≤ 64 := by omega
    have e45 : (((c : Nat) : Int) == 45) = false := by simp; omega
    have e46 : (((c : Nat) : Int) == 46) = false := by simp; omega
    have e95 : (((c : Nat) : Int) == 95) = false := by simp; omega
    have e126 : (((c : Nat) : Int) == 126) = false := by simp; omega
    have u57 : decide (((c : Nat) : Int) ≤ 57) = false := decide_eq_false (by omega)
    have v97 : decide ((97 : Int) ≤ ((c : Nat) : Int)) = false := decide_eq_false (by omega)
    have v65 : decide ((65 : Int) ≤ ((c : Nat) : Int)) = false := decide_eq_false (by omega)
    clear h
    go_enter Try.func22, Try.ntmps22
    go_wp2
    go_ret
    exact ⟨rfl, rfl⟩
  · rw [plN_t (by omega)]
    have g0 : (65 : Int) ≤ (c : Nat) := by omega
    have g1 : ((c : Nat) : Int) ≤ 90 := by omega
    have e45 : (((c : Nat) : Int) == 45) = false := by simp; omega
    have e46 : (((c : Nat) : Int) == 46) = false := by simp; omega
    have e95 : (((c : Nat) : Int) == 95) = false := by simp; omega
    have e126 : (((c : Nat) : Int) == 126) = false := by simp; omega
    have u57 : decide (((c : Nat) : Int) ≤ 57) = false := decide_eq_false (by omega)
    have v97 : decide ((97 : Int) ≤ ((c : Nat) : Int)) = false := decide_eq_false (by omega)
    clear h
    go_enter Try.func22, Try.ntmps22
    go_wp2
    go_ret
    exact ⟨rfl, rfl⟩
  · rw [plN_f (by omega)]
    have g0 : (91 : Int) ≤ (c : Nat) := by omega
    have g1 : ((c : Nat) : Int) ≤ 94 := by omega
    have e45 : (((c : Nat) : Int) == 45) = false := by simp; omega
    have e46 : (((c : Nat) : Int) == 46) = false := by simp; omega
    have e95 : (((c : Nat) : Int) == 95) = false := by simp; omega
    have e126 : (((c : Nat) : Int) == 126) = false := by simp; omega
    have u57 : decide (((c : Nat) : Int) ≤ 57) = false := decide_eq_false (by omega)
    have u90 : decide (((c : Nat) : Int) ≤ 90) = false := decide_eq_false (by omega)
    have v97 : decide ((97 : Int) ≤ ((c : Nat) : Int)) = false := decide_eq_false (by omega)
    clear h
    go_enter Try.func22, Try.ntmps22
    go_wp2
    go_ret
    exact ⟨rfl, rfl⟩
  · rw [plN_t (by omega)]
    obtain rfl : c = 95 := by omega
    clear h hc
    go_enter Try.func22, Try.ntmps22
    go_wp2
    go_ret
    exact ⟨rfl, rfl⟩
  · rw [plN_f (by omega)]
    obtain rfl : c = 96 := by omega
    clear h hc
    go_enter Try.func22, Try.ntmps22
    go_wp2
    go_ret
    exact ⟨rfl, rfl⟩
  · rw [plN_t (by omega)]
    have g0 : (97 : Int) ≤ (c : Nat) := by omega
    have g1 : ((c : Nat) : Int) ≤ 122 := by omega
    have e45 : (((c : Nat) : Int) == 45) = false := by simp; omega
    have e46 : (((c : Nat) : Int) == 46) = false := by simp; omega
    have e95 : (((c : Nat) : Int) == 95) = false := by simp; omega
    have e126 : (((c : Nat) : Int) == 126) = false := by simp; omega
    have u57 : decide (((c : Nat) : Int) ≤ 57) = false := decide_eq_false (by omega)
    have u90 : decide (((c : Nat) : Int) ≤ 90) = false := decide_eq_false (by omega)
    clear h
    go_enter Try.func22, Try.ntmps22
    go_wp2
    go_ret
    exact ⟨rfl, rfl⟩
  · rw [plN_f (by omega)]
    have g0 : (123 : Int) ≤ (c : Nat) := by omega
    have g1 : ((c : Nat) : Int) ≤ 125 := by omega
    have e45 : (((c : Nat) : Int) == 45) = false := by simp; omega
    have e46 : (((c : Nat) : Int) == 46) = false := by simp; omega
    have e95 : (((c : Nat) : Int) == 95) = false := by simp; omega
    have e126 : (((c : Nat) : Int) == 126) = false := by simp; omega
    have u57 : decide (((c : Nat) : Int) ≤ 57) = false := decide_eq_false (by omega)
    have u90 : decide (((c : Nat) : Int) ≤ 90) = false := decide_eq_false (by omega)
    have u122 : decide (((c : Nat) : Int) ≤ 122) = false := decide_eq_false (by omega)
    clear h
    go_enter Try.func22, Try.ntmps22
    go_wp2
    go_ret
    exact ⟨rfl, rfl⟩
  · rw [plN_t (by omega)]
    obtain rfl : c = 126 := by omega
    clear h hc
    go_enter Try.func22, Try.ntmps22
    go_wp2
    go_ret
    exact ⟨rfl, rfl⟩
  · rw [plN_f (by omega)]
    have g0 : (127 : Int) ≤ (c : Nat) := by omega
    have e45 : (((c : Nat) : Int) == 45) = false := by simp; omega
    have e46 : (((c : Nat) : Int) == 46) = false := by simp; omega
    have e95 : (((c : Nat) : Int) == 95) = false := by simp; omega
    have e126 : (((c : Nat) : Int) == 126) = false := by simp; omega
    have u57 : decide (((c : Nat) : Int) ≤ 57) = false := decide_eq_false (by omega)
    have u90 : decide (((c : Nat) : Int) ≤ 90) = false := decide_eq_false (by omega)
    have u122 : decide (((c : Nat) : Int) ≤ 122) = false := decide_eq_false (by omega)
    clear h
    go_enter Try.func22, Try.ntmps22
    go_wp2
    go_ret
    exact ⟨rfl, rfl⟩

end Go.Proofs.Ytgcfmgkhbenooaa

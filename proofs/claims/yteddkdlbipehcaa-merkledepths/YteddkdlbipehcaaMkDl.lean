/- The law MerkleDepths, walked. -/
import Derived.Test.YteddkdlbipehcaaMkD
namespace Go.Proofs.Yteddkdlbipehcaa
open Go.RowKit
set_option linter.unusedVariables false

set_option maxRecDepth 100000 in
set_option maxHeartbeats 1000000 in
/-- how long a path is, is what the document says; it is at most what doubles 1 to n or above -/
theorem merkleDepths_any (n i : Int) (w : World) :
    Calls Try.prog 5 #[.int .i64 n, .int .i64 i] w fun e w' => e = .returned (.bool true) ∧ Below w.heap.size w w' := by
  have haw := hide mawake_any
  by_cases hbad : n < 1 ∨ 256 < n ∨ i < 0 ∨ n ≤ i
  · have hd := hide (fun w => depth_bad n i w hbad)
    have hr := hide (fun w => rdepth_bad n i w hbad)
    have hk : Hid (∀ w', Calls Try.prog 10 #[] w' fun x w'' => x = .returned (.bool true) ∧ Below w'.heap.size w' w'') := mawake_any
    by_cases h1 : n < 1
    · clear hbad
      go_enter Try.func5, Try.ntmps5
      go_wp2_with fail
      refine (unhide hd _).mono ?_
      rintro e w1 ⟨rfl, rfl⟩
      go_wp2_with fail
      refine (unhide hr _).mono ?_
      rintro e w1 ⟨rfl, rfl⟩
      go_wp2_with fail
      refine (unhide haw _).mono ?_
      rintro e w1 ⟨rfl, b1⟩
      go_wp2
      go_ret
      exact ⟨rfl, b1⟩
    by_cases h2 : 256 < n
    · clear hbad
      go_enter Try.func5, Try.ntmps5
      go_wp2_with fail
      refine (unhide hd _).mono ?_
      rintro e w1 ⟨rfl, rfl⟩
      go_wp2_with fail
      refine (unhide hr _).mono ?_
      rintro e w1 ⟨rfl, rfl⟩
      go_wp2_with fail
      refine (unhide haw _).mono ?_
      rintro e w1 ⟨rfl, b1⟩
      go_wp2
      go_ret
      exact ⟨rfl, b1⟩
    by_cases h3 : i < 0
    · clear hbad
      go_enter Try.func5, Try.ntmps5
      go_wp2_with fail
      refine (unhide hd _).mono ?_
      rintro e w1 ⟨rfl, rfl⟩
      go_wp2_with fail
      refine (unhide hr _).mono ?_
      rintro e w1 ⟨rfl, rfl⟩
      go_wp2_with fail
      refine (unhide haw _).mono ?_
      rintro e w1 ⟨rfl, b1⟩
      go_wp2
      go_ret
      exact ⟨rfl, b1⟩
    have h4 : n ≤ i := by omega
    clear hbad
    go_enter Try.func5, Try.ntmps5
    go_wp2_with fail
    refine (unhide hd _).mono ?_
    rintro e w1 ⟨rfl, rfl⟩
    go_wp2_with fail
    refine (unhide hr _).mono ?_
    rintro e w1 ⟨rfl, rfl⟩
    go_wp2_with fail
    refine (unhide haw _).mono ?_
    rintro e w1 ⟨rfl, b1⟩
    go_wp2
    go_ret
    exact ⟨rfl, b1⟩
  obtain ⟨N, rfl⟩ : ∃ N : Nat, n = N := ⟨n.toNat, by omega⟩
  obtain ⟨I, rfl⟩ : ∃ I : Nat, i = I := ⟨i.toNat, by omega⟩
  have hd := hide (fun w => depth_any N I w (by omega) (by omega) (by omega))
  have hr := hide (fun w => rdepth_any N I w (by omega) (by omega) (by omega))
  have hl8 := plan_length N I 8 (by omega) (by omega)
  have hdb := hide (plan_double N I (by omega))
  have hN : N ≤ 256 := by omega
  generalize (plan N I).length = L at *
  clear hbad
  have q0 : ¬ (L : Int) < 0 := by omega
  go_enter Try.func5, Try.ntmps5
  go_wp2_with fail
  refine (unhide hd _).mono ?_
  rintro e w1 ⟨rfl, rfl⟩
  go_wp2_with fail
  refine (unhide hr _).mono ?_
  rintro e w1 ⟨rfl, rfl⟩
  go_wp2_with fail
  go_loopw [6, 7] (fun kv jv wr => w = wr ∧ ∃ t : Nat, kv = .int .i64 (2 ^ t : Nat) ∧ jv = .int .i64 t ∧ (t = 0 ∨ t ≤ L - 1)) (fun _ jv _ => 10 - (intOf jv).toNat)
  case atStart => exact ⟨rfl, 0, rfl, rfl, .inl rfl⟩
  case round =>
    obtain ⟨rfl, t, rfl, rfl, ht⟩ := hrel
    have hp : Hid (2 ^ (t + 1) = 2 ^ t * 2) := Nat.pow_succ 2 t
    have h0 : 2 ^ t ≤ 2 ^ 8 := Nat.pow_le_pow_right (by omega) (by omega)
    by_cases hlt : t + 1 < L
    · generalize 2 ^ t = k at *
      have q1 : (t : Int) < (L : Int) - 1 := by omega
      have q2 : (t : Int) < 10 := by omega
      go_wp2
      go_roundw
      case rel => exact ⟨trivial, t + 1, by rw [unhide hp]; go_num, by go_num, .inr (by omega)⟩
      case measure => simp [intOf]; omega
    · have q1 : ¬ (t : Int) < (L : Int) - 1 := by omega
      have q8 : (L : Int) ≤ 8 := by omega
      by_cases hL : L = 0
      · have q3 : (L : Int) = 0 := by omega
        generalize 2 ^ t = k at *
        subst hL
        go_wp2_with fail
        refine (unhide haw _).mono ?_
        rintro e w1 ⟨rfl, b1⟩
        go_wp2
        go_ret
        exact ⟨rfl, b1⟩
      · have q3 : ¬ (L : Int) = 0 := by omega
        have hk : 2 ^ t < N := by
          rcases unhide hdb with h | h
          · exact absurd h hL
          · have : t = L - 1 := by omega
            rw [this]; exact h
        generalize 2 ^ t = k at *
        have q4 : (k : Int) < N := by omega
        go_wp2_with fail
        refine (unhide haw _).mono ?_
        rintro e w1 ⟨rfl, b1⟩
        go_wp2
        go_ret
        exact ⟨rfl, b1⟩

end Go.Proofs.Yteddkdlbipehcaa

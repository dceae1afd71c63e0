/- Contracts of the law's own words and same. -/
import Derived.Test.YtahejlimdgniiaaRefMx
namespace Go.Proofs.Ytahejlimdgniiaa
open Go.RowKit
set_option linter.unusedVariables false

theorem words_any (s : S8) (w : World) :
    Calls Try.prog 15 #[.agg (uc s.list).toArray] w fun e w' => ∃ g, e = .returned (.slice (some ⟨g, 0, none⟩) 8 8) ∧ WordsAt w' g 26 s.list ∧ Below w.heap.size w w' := by
  have hUs : (uc s.list).toArray.size = 8 := by rw [List.size_toArray, uc_length, S8.len]
  obtain ⟨U, hU⟩ : ∃ U : Array Value, U = (uc s.list).toArray := ⟨_, rfl⟩
  rw [← hU] at hUs ⊢
  have HU := hide hU
  clear hU
  go_enter Try.func15, Try.ntmps15
  go_wp2
  go_ret
  refine ⟨w.heap.size, rfl, ?_, (Below.refl _ _).alloc (Nat.le_refl _) _⟩
  unfold WordsAt
  rw [← unhide HU]
  exact heap_alloc_new _ _

theorem same_any (s : S8) (g cap : Nat) (ty : TypeId) (w : World) (hW : WordsAt w g ty s.list) :
    Calls Try.prog 13 #[.agg (uc s.list).toArray, .slice (some ⟨g, 0, none⟩) 8 cap] w fun e w' => e = .returned (.bool true) ∧ Below w.heap.size w w' := by
  have h1 : WordsAt (w.alloc (.cells (uc s.list).toArray 26)) w.heap.size 26 s.list := heap_alloc_new _ _
  have h2 : WordsAt (w.alloc (.cells (uc s.list).toArray 26)) g ty s.list := hW.alloc _
  have hb : Below w.heap.size w (w.alloc (.cells (uc s.list).toArray 26)) := (Below.refl _ _).alloc (Nat.le_refl _) _
  have hUs : (uc s.list).toArray.size = 8 := by rw [List.size_toArray, uc_length, S8.len]
  obtain ⟨U, hU⟩ : ∃ U : Array Value, U = (uc s.list).toArray := ⟨_, rfl⟩
  rw [← hU] at hUs h1 h2 hb ⊢
  have H1 := hide h1
  have H2 := hide h2
  have HB := hide hb
  clear h1 h2 hb hU hW
  go_enter Try.func13, Try.ntmps13
  go_wp2
  obtain ⟨w1, hw1⟩ : ∃ w1, w1 = w.alloc (.cells U 26) := ⟨_, rfl⟩
  rw [← hw1] at H1 H2 HB ⊢
  clear hw1
  go_loopw [5] (fun i wr => ∃ k : Nat, k ≤ 8 ∧ i = .int .i64 k ∧ ∃ m, wr = w1.drewN m) (fun i _ => 8 - (intOf i).toNat)
  case atStart => exact ⟨0, Nat.zero_le _, rfl, 0, rfl⟩
  case round =>
    obtain ⟨k, hk, rfl, m, rfl⟩ := hrel
    by_cases hlt : k < 8
    · have c1 := (unhide H1).cell k (by rw [S8.len]; exact hlt)
      have c2 := (unhide H2).cell k (by rw [S8.len]; exact hlt)
      generalize n32 (s.list[k]'(by rw [S8.len]; exact hlt)) = v at *
      have k0 : (0 : Int) ≤ k := by omega
      have k8 : (k : Int) < 8 := by omega
      go_wp2
      go_big_quiet (fail)
      go_wp2
      go_roundw
      case rel => exact ⟨k + 1, by omega, by go_num, _, by first | rfl | exact World.drewN_drewN _ _ _⟩
      case measure => simp [intOf]; omega
    · have hk8 : k = 8 := by omega
      subst hk8
      go_wp2
      go_ret
      exact ⟨rfl, below_drewN (unhide HB) m⟩

end Go.Proofs.Ytahejlimdgniiaa

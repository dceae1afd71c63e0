/- What the law PrngChooses does, whatever the world: it answers true and changes nothing that was there. -/
import Derived.Test.YtlkbknjcjmpbfaaPrRc
import Derived.Test.YtlkbknjcjmpbfaaPrAw
import Derived.Test.YtlkbknjcjmpbfaaOpenI
namespace Go.Proofs.Ytlkbknjcjmpbfaa
open Go.RowKit
set_option linter.unusedVariables false

theorem wf_u32 {z : Int} (h : (Lit.int .u32 z).wf = true) : 0 ≤ z ∧ z < 4294967296 := by
  simp [Lit.wf, IntKind.min, IntKind.max, IntKind.signed, IntKind.bits] at h
  omega

set_option maxRecDepth 100000 in
set_option maxHeartbeats 1000000 in
theorem chooses_core (a0 : Option Addr) (len cap : Nat) (n v : Int) (u : Nat) (w : World) (hl : len ≤ 40) (hv0 : 0 ≤ v) (hvn : n < 1 ∨ v < n) (hv9 : v ≤ 4294967296) (hu8 : u ≤ 8) (hul : u ≤ len)
    (h1 : ∀ w', Below w.heap.size w w' → Calls Try.prog 16 #[.slice a0 len cap, .int .i64 n] w' fun e w'' => e = .returned (.tuple #[.int .i64 v, .int .i64 u]) ∧ Below w'.heap.size w' w'')
    (h2 : ∀ w', Below w.heap.size w w' → Calls Try.prog 17 #[.slice a0 len cap, .int .i64 n] w' fun e w'' => e = .returned (.agg #[.int .i64 v, .int .i64 u]) ∧ Below w'.heap.size w' w'') :
    Calls Try.prog 4 #[.slice a0 len cap, .int .i64 n] w fun e w' => e = .returned (.bool true) ∧ Below w.heap.size w w' := by
  have H1 := hide h1
  have H2 := hide h2
  have hl' : ¬ (40 : Int) < len := by omega
  have q1 : (u : Int) ≤ 8 := by omega
  have q2 : (u : Int) ≤ len := by omega
  clear h1 h2
  by_cases hn : n < 1
  all_goals
    have hvn2 : n < 1 ∨ v < n := hvn
    go_enter Try.func4, Try.ntmps4
    go_wp2_with fail
    refine (unhide H1 w (Below.refl _ _)).mono ?_
    rintro e w1 ⟨rfl, b1⟩
    have B1 := hide b1
    clear b1
    go_wp2_with fail
    refine (unhide H2 w1 (unhide B1)).mono ?_
    rintro e w2 ⟨rfl, b2⟩
    have B2 := hide ((unhide B1).trans (b2.mono (unhide B1).size))
    clear b2 B1
    go_wp2_with fail
    generalize hW : World.alloc _ _ = W
    have r0 : W.heap[w2.heap.size]? = some (.cells #[.int .i64 v, .int .i64 u] 39 (0, 0)) := by rw [← hW]; exact heap_alloc_new _ _
    have B3 := hide (show Below w.heap.size w W by rw [← hW]; exact (unhide B2).alloc (unhide B2).size _)
    have R0 := hide r0
    clear hW r0 B2
    refine (pawake_any W).mono ?_
    rintro e w3 ⟨rfl, b3⟩
    have r3 : w3.heap[w2.heap.size]? = some (.cells #[.int .i64 v, .int .i64 u] 39 (0, 0)) := (b3.block _ (lt_of_block (unhide R0))).trans (unhide R0)
    have c0 := cell0_of_two r3
    have c1 := cell1_of_two r3
    have B4 := hide ((unhide B3).trans (b3.mono (unhide B3).size))
    clear b3 r3 R0 B3 H1 H2
  · go_wp2
    go_ret
    exact ⟨rfl, unhide B4⟩
  · have hvn3 : v < n := by omega
    clear hvn hvn2
    go_wp2
    go_ret
    exact ⟨rfl, unhide B4⟩

theorem prngChooses_any (a0 : Option Addr) (len cap : Nat) (Z : Nat → Int) (n : Int) (w : World) (hZ : IntsArg .u32 w a0 len Z) (hc : len ≤ cap ∧ cap ≤ maxLen) :
    Calls Try.prog 4 #[.slice a0 len cap, .int .i64 n] w fun e w' => e = .returned (.bool true) ∧ Below w.heap.size w w' := by
  obtain ⟨hc1, hc2⟩ := hc
  by_cases hl : 40 < len
  · have hl' : (40 : Int) < len := by omega
    unfold maxLen at hc2
    clear hZ
    go_enter Try.func4, Try.ntmps4
    go_wp2_with fail
    refine (pawake_any w).mono ?_
    rintro e w1 ⟨rfl, b1⟩
    go_wp2
    go_ret
    exact ⟨rfl, b1⟩
  · by_cases hn : 1 ≤ n ∧ n ≤ 2147483647
    · by_cases h0 : len = 0
      · subst h0
        exact chooses_core a0 0 cap n 0 0 w (by omega) (by omega) (by omega) (by omega) (by omega) (by omega) (fun w' _ => choose_none w' a0 cap n) (fun w' _ => rchoose_bad w' a0 0 cap n (.inr rfl) (by unfold maxLen; omega))
      · obtain ⟨b, off, rfl, _, _, _⟩ := hZ 0 (by omega)
        have hW : WordsIn w b off len Z := fun i hi => by
          obtain ⟨b', off', he, _, h1, h2⟩ := hZ i hi
          simp only [Option.some.injEq, Addr.mk.injEq] at he
          obtain ⟨rfl, rfl, _⟩ := he
          exact ⟨h1, wf_u32 h2⟩
        have hb := chV_bounds Z n (min len 8) hn.1
        have hu := chUse_le Z (fairOf n) (min len 8) 0
        exact chooses_core (some ⟨b, off, none⟩) len cap n _ _ w (by omega) hb.1 (.inr hb.2) (by omega) (by omega) (by omega) (fun w' h => choose_any w' b off len cap n Z (by omega) hc1 hc2 hn.1 hn.2 (hW.below h)) (fun w' h => rchoose_any w' b off len cap n Z (by omega) (by omega) hn.1 hn.2 (hW.below h))
    · exact chooses_core a0 len cap n 0 0 w (by omega) (by omega) (by omega) (by omega) (by omega) (by omega) (fun w' _ => choose_bad w' a0 len cap n hn) (fun w' _ => rchoose_bad w' a0 len cap n (.inl hn) (by omega))

end Go.Proofs.Ytlkbknjcjmpbfaa

/- What the law DegreeAux does, whatever the world: it answers true and changes nothing that was there. -/
import Derived.Test.YtmaeebgphblilabDgG
import Derived.OpenShut
namespace Go.Proofs.Ytmaeebgphblilab
open Go.RowKit
set_option linter.unusedVariables false

set_option maxRecDepth 100000 in
set_option maxHeartbeats 4000000 in
theorem degreeAux_any (n d q f m : Int) (w : World) (wn : (Lit.int .i64 n).wf = true) (wd : (Lit.int .i64 d).wf = true) (wq : (Lit.int .i64 q).wf = true) (wf : (Lit.int .i64 f).wf = true) (wm : (Lit.int .i64 m).wf = true) :
    Calls Try.prog 6 #[cv n d q f, .int .i64 m] w fun e w' => e = .returned (.bool true) ∧ Below w.heap.size w w' := by
  obtain ⟨n0, n1⟩ := bounds_i64 wn
  obtain ⟨d0, d1⟩ := bounds_i64 wd
  obtain ⟨q0, q1⟩ := bounds_i64 wq
  obtain ⟨f0, f1⟩ := bounds_i64 wf
  obtain ⟨m0, m1⟩ := bounds_i64 wm
  have h1 := fun w => aux_any n d q f m w (by omega) (by omega) (by omega) (by omega) (by omega) (by omega) (by omega) (by omega)
  have h2 := fun w => raux_any n d q f m w (by omega) (by omega) (by omega) (by omega) (by omega) (by omega) (by omega) (by omega)
  have h3 := fun w => dref_any n d q f w
  have hR : auA n d q f m = (0, 1) ∨ ∃ k, auA n d q f m = (k, 0) ∧ 1 ≤ k ∧ k ≤ 64 := by
    unfold auA auOk
    cases hE : codeOk n d q f
    · exact .inl rfl
    · by_cases g : 1 ≤ m ∧ m ≤ 96
      · rw [decide_eq_true g]
        have := auC_pos hE g.1 g.2
        exact .inr ⟨_, rfl, by omega, by omega⟩
      · rw [decide_eq_false g]
        exact .inl rfl
  simp only [cv] at h1 h2 h3 ⊢
  rcases hR with hR | ⟨k, hR, k1, k2⟩
  · rw [hR] at h1 h2
    clear hR
    have h1 := hide h1
    have h2 := hide h2
    have h3 := hide h3
    clear wn n0 n1 wd d0 d1 wq q0 q1 wf f0 f1 wm m0 m1
    have T0 := hide (four_alloc w (.int .i64 n) (.int .i64 d) (.int .i64 q) (.int .i64 f) 25)
    have BB : Hid (Below w.heap.size w (w.alloc (.cells #[.int .i64 n, .int .i64 d, .int .i64 q, .int .i64 f] 25))) := (Below.refl _ _).alloc (Nat.le_refl _) _
    go_enter Try.func6, Try.ntmps6
    go_wp2_with fail
    refine (unhide h1 _).mono ?_
    rintro e w1 ⟨rfl, b1⟩
    have T0n := hide ((unhide T0).up b1)
    have BBn := hide ((unhide BB).trans (b1.mono (unhide BB).size))
    clear b1 BB T0
    have T0 := T0n
    have BB := BBn
    clear BBn T0n
    have fT00 := (unhide T0).c0
    have fT01 := (unhide T0).c1
    have fT02 := (unhide T0).c2
    have fT03 := (unhide T0).c3
    go_wp2_with fail
    clear fT00 fT01 fT02 fT03
    refine (unhide h3 _).mono ?_
    rintro e w2 ⟨rfl, b2⟩
    have T0n := hide ((unhide T0).up b2)
    have BBn := hide ((unhide BB).trans (b2.mono (unhide BB).size))
    clear b2 BB T0
    have T0 := T0n
    have BB := BBn
    clear BBn T0n
    go_wp2_with fail
    refine (unhide h2 _).mono ?_
    rintro e w3 ⟨rfl, b3⟩
    have T0n := hide ((unhide T0).up b3)
    have BBn := hide ((unhide BB).trans (b3.mono (unhide BB).size))
    clear b3 BB T0
    have T0 := T0n
    have BB := BBn
    clear BBn T0n
    go_wp2_with fail
    refine (dgawake_any _).mono ?_
    rintro e w4 ⟨rfl, b4⟩
    have T0n := hide ((unhide T0).up b4)
    have BBn := hide ((unhide BB).trans (b4.mono (unhide BB).size))
    clear b4 BB T0
    have T0 := T0n
    have BB := BBn
    clear BBn T0n
    go_wp2
    go_ret
    exact ⟨rfl, unhide BB⟩
  · rw [hR] at h1 h2
    clear hR
    have h1 := hide h1
    have h2 := hide h2
    have h3 := hide h3
    clear wn n0 n1 wd d0 d1 wq q0 q1 wf f0 f1 wm m0 m1
    have T0 := hide (four_alloc w (.int .i64 n) (.int .i64 d) (.int .i64 q) (.int .i64 f) 25)
    have BB : Hid (Below w.heap.size w (w.alloc (.cells #[.int .i64 n, .int .i64 d, .int .i64 q, .int .i64 f] 25))) := (Below.refl _ _).alloc (Nat.le_refl _) _
    go_enter Try.func6, Try.ntmps6
    go_wp2_with fail
    refine (unhide h1 _).mono ?_
    rintro e w1 ⟨rfl, b1⟩
    have T0n := hide ((unhide T0).up b1)
    have BBn := hide ((unhide BB).trans (b1.mono (unhide BB).size))
    clear b1 BB T0
    have T0 := T0n
    have BB := BBn
    clear BBn T0n
    have fT00 := (unhide T0).c0
    have fT01 := (unhide T0).c1
    have fT02 := (unhide T0).c2
    have fT03 := (unhide T0).c3
    go_wp2_with fail
    clear fT00 fT01 fT02 fT03
    refine (unhide h3 _).mono ?_
    rintro e w2 ⟨rfl, b2⟩
    have T0n := hide ((unhide T0).up b2)
    have BBn := hide ((unhide BB).trans (b2.mono (unhide BB).size))
    clear b2 BB T0
    have T0 := T0n
    have BB := BBn
    clear BBn T0n
    go_wp2_with fail
    refine (unhide h2 _).mono ?_
    rintro e w3 ⟨rfl, b3⟩
    have T0n := hide ((unhide T0).up b3)
    have BBn := hide ((unhide BB).trans (b3.mono (unhide BB).size))
    clear b3 BB T0
    have T0 := T0n
    have BB := BBn
    clear BBn T0n
    go_wp2_with fail
    refine (dgawake_any _).mono ?_
    rintro e w4 ⟨rfl, b4⟩
    have T0n := hide ((unhide T0).up b4)
    have BBn := hide ((unhide BB).trans (b4.mono (unhide BB).size))
    clear b4 BB T0
    have T0 := T0n
    have BB := BBn
    clear BBn T0n
    go_wp2
    go_ret
    exact ⟨rfl, unhide BB⟩

end Go.Proofs.Ytmaeebgphblilab

/- What the law DegreeChances does, whatever the world: it answers true and changes nothing that was there. -/
import Derived.Test.YtmaeebgphblilabDgG
import Derived.OpenShut
namespace Go.Proofs.Ytmaeebgphblilab
open Go.RowKit
set_option linter.unusedVariables false

set_option maxRecDepth 100000 in
set_option maxHeartbeats 4000000 in
theorem degreeChances_any (n d q f k : Int) (w : World) (wn : (Lit.int .i64 n).wf = true) (wd : (Lit.int .i64 d).wf = true) (wq : (Lit.int .i64 q).wf = true) (wf : (Lit.int .i64 f).wf = true) (wk : (Lit.int .i64 k).wf = true) :
    Calls Try.prog 4 #[cv n d q f, .int .i64 k] w fun e w' => e = .returned (.bool true) ∧ Below w.heap.size w w' := by
  obtain ⟨n0, n1⟩ := bounds_i64 wn
  obtain ⟨d0, d1⟩ := bounds_i64 wd
  obtain ⟨q0, q1⟩ := bounds_i64 wq
  obtain ⟨f0, f1⟩ := bounds_i64 wf
  obtain ⟨k0, k1⟩ := bounds_i64 wk
  have h1 := fun w => chance_any n d q f k w (by omega) (by omega) (by omega) (by omega) (by omega) (by omega) (by omega) (by omega)
  have h2 := fun w => rchance_any n d q f k w (by omega) (by omega) (by omega) (by omega) (by omega) (by omega) (by omega) (by omega)
  have h3 := fun w => dref_any n d q f w
  generalize chA n d q f k = R at *
  obtain ⟨x, y, z⟩ := R
  have h4 := fun w => lref_any x y w
  simp only [cv, rvE, rv] at h1 h2 h3 h4 ⊢
  have h1 := hide h1
  have h2 := hide h2
  have h3 := hide h3
  have h4 := hide h4
  clear wn n0 n1 wd d0 d1 wq q0 q1 wf f0 f1 wk k0 k1
  have T0 := hide (four_alloc w (.int .i64 n) (.int .i64 d) (.int .i64 q) (.int .i64 f) 25)
  have BB : Hid (Below w.heap.size w (w.alloc (.cells #[.int .i64 n, .int .i64 d, .int .i64 q, .int .i64 f] 25))) := (Below.refl _ _).alloc (Nat.le_refl _) _
  go_enter Try.func4, Try.ntmps4
  go_wp2_with fail
  refine (unhide h1 _).mono ?_
  rintro e w1 ⟨rfl, b1⟩
  have T0n := hide ((unhide T0).up b1)
  have BBn := hide ((unhide BB).trans (b1.mono (unhide BB).size))
  clear b1 BB T0
  have T0 := T0n
  have BB := BBn
  clear BBn T0n
  have T0n := hide ((unhide T0).alloc (.cells #[.int .i64 x, .int .i64 y] 23))
  have S1 := hide (two_alloc w1 (.int .i64 x) (.int .i64 y) 23)
  have BBn := hide ((unhide BB).alloc (unhide BB).size (.cells #[.int .i64 x, .int .i64 y] 23))
  clear T0 BB
  have T0 := T0n
  have BB := BBn
  clear T0n BBn
  have fT00 := (unhide T0).c0
  have fT01 := (unhide T0).c1
  have fT02 := (unhide T0).c2
  have fT03 := (unhide T0).c3
  go_wp2_with fail
  clear fT00 fT01 fT02 fT03
  refine (unhide h3 _).mono ?_
  rintro e w2 ⟨rfl, b2⟩
  have T0n := hide ((unhide T0).up b2)
  have S1n := hide ((unhide S1).up b2)
  have BBn := hide ((unhide BB).trans (b2.mono (unhide BB).size))
  clear b2 BB T0 S1
  have T0 := T0n
  have S1 := S1n
  have BB := BBn
  clear BBn T0n S1n
  go_wp2_with fail
  refine (unhide h2 _).mono ?_
  rintro e w3 ⟨rfl, b3⟩
  have T0n := hide ((unhide T0).up b3)
  have S1n := hide ((unhide S1).up b3)
  have BBn := hide ((unhide BB).trans (b3.mono (unhide BB).size))
  clear b3 BB T0 S1
  have T0 := T0n
  have S1 := S1n
  have BB := BBn
  clear BBn T0n S1n
  have S1n := hide ((unhide S1).alloc (.cells #[.int .i64 x, .int .i64 y] 32))
  have U1 := hide (two_alloc w3 (.int .i64 x) (.int .i64 y) 32)
  have BBn := hide ((unhide BB).alloc (unhide BB).size (.cells #[.int .i64 x, .int .i64 y] 32))
  clear BB S1 T0
  go_wp2_with fail
  generalize w3.alloc (.cells #[.int .i64 x, .int .i64 y] 32) = W at *
  generalize w1.heap.size = s1 at *
  generalize w3.heap.size = s3 at *
  obtain ⟨p0, p1⟩ := gb_two (unhide S1n)
  obtain ⟨q0, q1⟩ := gb_two (unhide U1)
  have hne := gb_ne W
  refine wp_region_gr (fun x => Below W.heap.size W x) (by kernel_rfl) (by kernel_rfl) (gb_start W) ?_
  repeat (go_big_quiet_step ((first | (go_at_call 12; exact gb_call (dgawake_any _)) | (go_at_call 18; exact gb_call (unhide h4 _)))))
  refine wpQuiet_nil ?_
  rintro w7 ⟨⟨_, b7⟩, rfl⟩
  have B7 := hide ((unhide BBn).trans (b7.mono (unhide BBn).size))
  clear b7 hne p0 p1 q0 q1
  go_wp2
  go_ret
  exact ⟨rfl, unhide B7⟩

end Go.Proofs.Ytmaeebgphblilab

/- What the law DegreeTables does, whatever the world: it answers true and changes nothing that was there. -/
import Derived.Test.YtmaeebgphblilabDgG
import Derived.OpenShut
namespace Go.Proofs.Ytmaeebgphblilab
open Go.RowKit
set_option linter.unusedVariables false

theorem zat_nil (w : World) (a0 : Option Addr) : ZAt w a0 [] := fun i z h => by simp at h

set_option maxRecDepth 100000 in
set_option maxHeartbeats 4000000 in
theorem degreeTables_any (n d q f : Int) (w : World) (wn : (Lit.int .i64 n).wf = true) (wd : (Lit.int .i64 d).wf = true) (wq : (Lit.int .i64 q).wf = true) (wf : (Lit.int .i64 f).wf = true) :
    Calls Try.prog 3 #[cv n d q f] w fun e w' => e = .returned (.bool true) ∧ Below w.heap.size w w' := by
  obtain ⟨n0, n1⟩ := bounds_i64 wn
  obtain ⟨d0, d1⟩ := bounds_i64 wd
  obtain ⟨q0, q1⟩ := bounds_i64 wq
  obtain ⟨f0, f1⟩ := bounds_i64 wf
  have h3 := fun w => dref_any n d q f w
  have h4 := fun w => dcheck_any n d q f w (by omega) (by omega) (by omega) (by omega) (by omega) (by omega) (by omega) (by omega)
  have h5 := fun w => rdcheck_any n d q f w (by omega) (by omega) (by omega) (by omega) (by omega) (by omega) (by omega) (by omega)
  have T0 := hide (four_alloc w (.int .i64 n) (.int .i64 d) (.int .i64 q) (.int .i64 f) 25)
  have BB : Hid (Below w.heap.size w (w.alloc (.cells #[.int .i64 n, .int .i64 d, .int .i64 q, .int .i64 f] 25))) := (Below.refl _ _).alloc (Nat.le_refl _) _
  cases hE : codeOk n d q f
  · have h1 := fun w => table_bad n d q f w (by omega) (by omega) (by omega) (by omega) (by omega) (by omega) (by omega) (by omega) hE
    have h2 := fun w => rtable_bad n d q f w (by omega) (by omega) (by omega) (by omega) (by omega) (by omega) (by omega) (by omega) hE
    rw [hE] at h4 h5
    clear hE
    simp only [cv] at h1 h2 h3 h4 h5 ⊢
    have h1 := hide h1
    have h2 := hide h2
    have h3 := hide h3
    have h4 := hide h4
    have h5 := hide h5
    clear wn n0 n1 wd d0 d1 wq q0 q1 wf f0 f1
    go_enter Try.func3, Try.ntmps3
    go_wp2_with fail
    refine (unhide h1 _).mono ?_
    rintro e w1 ⟨rfl, b1⟩
    have T0n := hide ((unhide T0).up b1)
    have BBn := hide ((unhide BB).trans (b1.mono (unhide BB).size))
    clear b1 BB T0
    have T0 := T0n
    have BB := BBn
    clear BBn T0n
    have fT00 := (unhide T0).c0
    have fT01 := (unhide T0).c1
    have fT02 := (unhide T0).c2
    have fT03 := (unhide T0).c3
    go_wp2_with fail
    clear fT00 fT01 fT02 fT03
    refine (unhide h3 _).mono ?_
    rintro e w2 ⟨rfl, b2⟩
    have T0n := hide ((unhide T0).up b2)
    have BBn := hide ((unhide BB).trans (b2.mono (unhide BB).size))
    clear b2 BB T0
    have T0 := T0n
    have BB := BBn
    clear BBn T0n
    go_wp2_with fail
    refine (unhide h2 _).mono ?_
    rintro e w3 ⟨rfl, b3⟩
    have T0n := hide ((unhide T0).up b3)
    have BBn := hide ((unhide BB).trans (b3.mono (unhide BB).size))
    clear b3 BB T0
    have T0 := T0n
    have BB := BBn
    clear BBn T0n
    have Z1 : Hid (ZAt w3 none []) := zat_nil _ _
    have Z2 : Hid (ZAt w3 none []) := zat_nil _ _
    go_wp2_with fail
    obtain ⟨p0, p1, p2, p3⟩ := gb_four (unhide T0)
    have hne := gb_ne w3
    have hsm : Hid (∀ x : Gb w3, Calls Try.prog 15 #[.slice none 0 0, .slice none 0 0] x.w fun e w' => e = .returned (.bool true) ∧ Below x.w.heap.size x.w w') := fun x => same_any x.w none none [] 0 0 0 rfl (by omega) ((unhide Z1).up x.ok) ((unhide Z2).up x.ok)
    refine wp_region_gr (fun x => Below w3.heap.size w3 x) (by kernel_rfl) (by kernel_rfl) (gb_start w3) ?_
    repeat (go_big_quiet_step ((first | (go_at_call 12; exact gb_call (dgawake_any _)) | (go_at_call 11; exact gb_call (unhide h3 _)) | (go_at_call 13; exact gb_call (unhide h4 _)) | (go_at_call 14; exact gb_call (unhide h5 _)) | (go_at_call 15; exact gb_call (unhide hsm _)))))
    refine wpQuiet_nil ?_
    rintro w7 ⟨⟨_, b7⟩, rfl⟩
    have B7 := hide ((unhide BB).trans (b7.mono (unhide BB).size))
    clear b7 hne p0 p1 p2 p3
    go_wp2
    go_ret
    exact ⟨rfl, unhide B7⟩
  · obtain ⟨F, hF⟩ : ∃ F : Nat, f = F := ⟨f.toNat, by have := codeOk_of hE; omega⟩
    subst hF
    have hF2 : F ≤ 64 := by have := codeOk_of hE; omega
    have h1 := fun w => table_any n d q F w (by omega) (by omega) (by omega) (by omega) (by omega) (by omega) (by omega) (by omega) hE
    have h2 := fun w => rtable_any n d q F w (by omega) (by omega) (by omega) (by omega) (by omega) (by omega) (by omega) (by omega) hE
    rw [hE] at h4 h5
    clear hE
    have hlen : Hid ((tabL n d F F).length = F) := tabL_length _ _ _ _
    generalize tabL n d F F = L at *
    simp only [cv] at h1 h2 h3 h4 h5 ⊢
    have h1 := hide h1
    have h2 := hide h2
    have h3 := hide h3
    have h4 := hide h4
    have h5 := hide h5
    clear wn n0 n1 wd d0 d1 wq q0 q1 wf f0 f1
    go_enter Try.func3, Try.ntmps3
    go_wp2_with fail
    refine (unhide h1 _).mono ?_
    rintro e w1 ⟨a0, c0, rfl, hZ1, b1⟩
    have Z1 := hide hZ1
    clear hZ1
    have T0n := hide ((unhide T0).up b1)
    have BBn := hide ((unhide BB).trans (b1.mono (unhide BB).size))
    clear b1 BB T0
    have T0 := T0n
    have BB := BBn
    clear BBn T0n
    have fT00 := (unhide T0).c0
    have fT01 := (unhide T0).c1
    have fT02 := (unhide T0).c2
    have fT03 := (unhide T0).c3
    go_wp2_with fail
    clear fT00 fT01 fT02 fT03
    refine (unhide h3 _).mono ?_
    rintro e w2 ⟨rfl, b2⟩
    have T0n := hide ((unhide T0).up b2)
    have Z1n := hide ((unhide Z1).up b2)
    have BBn := hide ((unhide BB).trans (b2.mono (unhide BB).size))
    clear b2 BB T0 Z1
    have T0 := T0n
    have Z1 := Z1n
    have BB := BBn
    clear BBn T0n Z1n
    go_wp2_with fail
    refine (unhide h2 _).mono ?_
    rintro e w3 ⟨b0, d0, rfl, hZ2, b3⟩
    have Z2 := hide hZ2
    clear hZ2
    have T0n := hide ((unhide T0).up b3)
    have Z1n := hide ((unhide Z1).up b3)
    have BBn := hide ((unhide BB).trans (b3.mono (unhide BB).size))
    clear b3 BB T0 Z1
    have T0 := T0n
    have Z1 := Z1n
    have BB := BBn
    clear BBn T0n Z1n
    go_wp2_with fail
    obtain ⟨p0, p1, p2, p3⟩ := gb_four (unhide T0)
    have hne := gb_ne w3
    have hsm : Hid (∀ x : Gb w3, Calls Try.prog 15 #[.slice a0 F c0, .slice b0 F d0] x.w fun e w' => e = .returned (.bool true) ∧ Below x.w.heap.size x.w w') := fun x => same_any x.w a0 b0 L F c0 d0 (unhide hlen) (by omega) ((unhide Z1).up x.ok) ((unhide Z2).up x.ok)
    refine wp_region_gr (fun x => Below w3.heap.size w3 x) (by kernel_rfl) (by kernel_rfl) (gb_start w3) ?_
    repeat (go_big_quiet_step ((first | (go_at_call 12; exact gb_call (dgawake_any _)) | (go_at_call 11; exact gb_call (unhide h3 _)) | (go_at_call 13; exact gb_call (unhide h4 _)) | (go_at_call 14; exact gb_call (unhide h5 _)) | (go_at_call 15; exact gb_call (unhide hsm _)))))
    refine wpQuiet_nil ?_
    rintro w7 ⟨⟨_, b7⟩, rfl⟩
    have B7 := hide ((unhide BB).trans (b7.mono (unhide BB).size))
    clear b7 hne p0 p1 p2 p3
    go_wp2
    go_ret
    exact ⟨rfl, unhide B7⟩

end Go.Proofs.Ytmaeebgphblilab

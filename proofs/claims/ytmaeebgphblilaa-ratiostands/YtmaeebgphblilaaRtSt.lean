/- What the law RatioStands does, whatever the world: it answers true and changes nothing that was there. -/
import Derived.Test.YtmaeebgphblilaaRtMk
import Derived.Test.YtmaeebgphblilaaRtP
namespace Go.Proofs.Ytmaeebgphblilaa
open Go.RowKit
set_option linter.unusedVariables false

set_option maxRecDepth 100000 in
set_option maxHeartbeats 4000000 in
theorem ratioStands_any (a b c d k : Int) (w : World) (wa : (Lit.int .i64 a).wf = true) (wb : (Lit.int .i64 b).wf = true) (wc : (Lit.int .i64 c).wf = true) (wd : (Lit.int .i64 d).wf = true) (wk : (Lit.int .i64 k).wf = true) :
    Calls Try.prog 5 #[rv a b, rv c d, .int .i64 k] w fun e w' => e = .returned (.bool true) ∧ Below w.heap.size w w' := by
  obtain ⟨a0, a1⟩ := bounds_i64 wa
  obtain ⟨b0, b1⟩ := bounds_i64 wb
  obtain ⟨c0, c1⟩ := bounds_i64 wc
  obtain ⟨d0, d1⟩ := bounds_i64 wd
  obtain ⟨k0, k1⟩ := bounds_i64 wk
  have h1 := fun w => scale_any a b k w (by omega) (by omega) (by omega) (by omega) (by omega) (by omega)
  have h2 := fun w => rscale_any a b k w (by omega) (by omega) (by omega) (by omega) (by omega) (by omega)
  have h3 := fun w => compare_any a b c d w (by omega) (by omega) (by omega) (by omega) (by omega) (by omega) (by omega) (by omega)
  have h4 := fun w => rcompare_any a b c d w (by omega) (by omega) (by omega) (by omega) (by omega) (by omega) (by omega) (by omega)
  have h5 := fun w => floor_any a b w (by omega) (by omega) (by omega) (by omega)
  have h6 := fun w => rfloor_any a b w (by omega) (by omega) (by omega) (by omega)
  have h7 := fun w => ceil_any a b w (by omega) (by omega) (by omega) (by omega)
  have h8 := fun w => rceil_any a b w (by omega) (by omega) (by omega) (by omega)
  have hx := fun w => lref_any a b w
  have hy := fun w => lref_any c d w
  generalize scA a b k = R at *
  obtain ⟨r, z⟩ := R
  generalize cmpA a b c d = C at *
  generalize floA a b = L at *
  generalize ceA a b = U at *
  simp only [rv] at h1 h2 h3 h4 h5 h6 h7 h8 hx hy ⊢
  have H1 := hide h1
  have H2 := hide h2
  have H3 := hide h3
  have H4 := hide h4
  have H5 := hide h5
  have H6 := hide h6
  have H7 := hide h7
  have H8 := hide h8
  have Hx := hide hx
  have Hy := hide hy
  clear h1 h2 h3 h4 h5 h6 h7 h8 hx hy wa a0 a1 wb b0 b1 wc c0 c1 wd d0 d1 wk k0 k1
  obtain ⟨t1, t2, b0⟩ := twice_new w (.int .i64 a) (.int .i64 b) (.int .i64 c) (.int .i64 d) 23
  have T1 := hide t1
  have T2 := hide t2
  have BB := hide b0
  clear t1 t2 b0
  go_enter Try.func5, Try.ntmps5
  go_wp2_with fail
  refine (unhide H1 _).mono ?_
  rintro e w1 ⟨rfl, b1⟩
  have T1n := hide ((unhide T1).up b1)
  have T2n := hide ((unhide T2).up b1)
  have BBn := hide ((unhide BB).trans (b1.mono (unhide BB).size))
  clear b1 BB T1 T2
  have T1 := T1n
  have T2 := T2n
  have BB := BBn
  clear BBn T1n T2n
  have fT10 := (unhide T1).c0
  have fT11 := (unhide T1).c1
  go_wp2_with fail
  refine (unhide Hx _).mono ?_
  rintro e w2 ⟨rfl, b2⟩
  clear fT10 fT11
  have T1n := hide ((unhide T1).up b2)
  have T2n := hide ((unhide T2).up b2)
  have BBn := hide ((unhide BB).trans (b2.mono (unhide BB).size))
  clear b2 BB T1 T2
  have T1 := T1n
  have T2 := T2n
  have BB := BBn
  clear BBn T1n T2n
  go_wp2_with fail
  refine (unhide H2 _).mono ?_
  rintro e w3 ⟨rfl, b3⟩
  have T1n := hide ((unhide T1).up b3)
  have T2n := hide ((unhide T2).up b3)
  have BBn := hide ((unhide BB).trans (b3.mono (unhide BB).size))
  clear b3 BB T1 T2
  have T1 := T1n
  have T2 := T2n
  have BB := BBn
  clear BBn T1n T2n
  go_wp2_with fail
  obtain ⟨p0, p1⟩ := gb_two (unhide T1)
  obtain ⟨q0, q1⟩ := gb_two (unhide T2)
  have hne := gb_ne w3
  refine wp_region_gr (fun x => Below w3.heap.size w3 x) (by kernel_rfl) (by kernel_rfl) (gb_start w3) ?_
  iterate 7 (go_big_quiet_step ((first | (go_at_call 11; exact gb_call (rtawake_any _)) | (go_at_call 26; exact gb_call (unhide H3 _)) | (go_at_call 12; exact gb_call (unhide Hx _)))))
  iterate 2 (go_big_quiet_step ((go_at_call 12; exact gb_call (unhide Hy _))))
  repeat (go_big_quiet_step ((first | (go_at_call 27; exact gb_call (unhide H4 _)) | (go_at_call 12; exact gb_call (unhide Hx _)) | (go_at_call 28; exact gb_call (unhide H5 _)) | (go_at_call 29; exact gb_call (unhide H6 _)) | (go_at_call 30; exact gb_call (unhide H7 _)) | (go_at_call 31; exact gb_call (unhide H8 _)))))
  refine wpQuiet_nil ?_
  rintro w7 ⟨⟨_, b7⟩, rfl⟩
  have B7 := hide ((unhide BB).trans (b7.mono (unhide BB).size))
  clear b7 hne p0 p1 q0 q1
  go_wp2
  go_ret
  exact ⟨rfl, unhide B7⟩

end Go.Proofs.Ytmaeebgphblilaa

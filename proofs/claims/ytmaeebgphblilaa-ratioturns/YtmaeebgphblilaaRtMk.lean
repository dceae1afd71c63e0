/- What the law RatioMakes does, whatever the world: it answers true and changes nothing that was there. -/
import Derived.Test.YtmaeebgphblilaaRtH
import Derived.Test.YtmaeebgphblilaaGrT
import Derived.OpenShut
namespace Go.Proofs.Ytmaeebgphblilaa
open Go.RowKit
set_option linter.unusedVariables false

def gcdA (a b : Int) : Int := if a < 0 ∨ b < 0 then 0 else (Nat.gcd a.toNat b.toNat : Nat)
theorem gcdi_any (a b : Int) (w : World) (ha : a ≤ 9223372036854775807) (hb : b ≤ 9223372036854775807) : Calls Try.prog 13 #[.int .i64 a, .int .i64 b] w fun e w' => e = .returned (.int .i64 (gcdA a b)) ∧ Below w.heap.size w w' := by
  unfold gcdA
  by_cases h : a < 0 ∨ b < 0
  · rw [if_pos h]
    exact (gcd_neg a b w h).mono fun e w' ⟨he, hw⟩ => ⟨he, hw ▸ Below.refl _ _⟩
  · rw [if_neg h]
    have := gcd_any a.toNat b.toNat w (by omega) (by omega)
    rwa [show ((a.toNat : Nat) : Int) = a by omega, show ((b.toNat : Nat) : Int) = b by omega] at this
theorem rgcdi_any (a b : Int) (w : World) (ha : a ≤ 9223372036854775807) (hb : b ≤ 9223372036854775807) : Calls Try.prog 14 #[.int .i64 a, .int .i64 b] w fun e w' => e = .returned (.int .i64 (gcdA a b)) ∧ w = w' := by
  unfold gcdA
  by_cases h : a < 0 ∨ b < 0
  · rw [if_pos h]
    exact rgcd_neg a b w h
  · rw [if_neg h]
    have := rgcd_any a.toNat b.toNat w (by omega) (by omega)
    rwa [show ((a.toNat : Nat) : Int) = a by omega, show ((b.toNat : Nat) : Int) = b by omega] at this

/-- cells of a block of two, in every world that has grown -/
theorem gb_two {w : World} {b : Nat} {x y : Value} {t : TypeId} (h : Two w b x y t) : (∀ g : Gb w, g.w.cell? ⟨b, 0, none⟩ = some x) ∧ (∀ g : Gb w, g.w.cell? ⟨b, 1, none⟩ = some y) := ⟨fun g => gb_cell h.c0 g, fun g => gb_cell h.c1 g⟩

set_option maxRecDepth 100000 in
set_option maxHeartbeats 2000000 in
theorem ratioMakes_any (n d a b : Int) (w : World) (wn : (Lit.int .i64 n).wf = true) (wd : (Lit.int .i64 d).wf = true) (wa : (Lit.int .i64 a).wf = true) (wb : (Lit.int .i64 b).wf = true) :
    Calls Try.prog 3 #[.int .i64 n, .int .i64 d, rv a b] w fun e w' => e = .returned (.bool true) ∧ Below w.heap.size w w' := by
  obtain ⟨n0, n1⟩ := bounds_i64 wn
  obtain ⟨d0, d1⟩ := bounds_i64 wd
  obtain ⟨a0, a1⟩ := bounds_i64 wa
  obtain ⟨b0, b1⟩ := bounds_i64 wb
  have h1 := fun w => of_any n d w (by omega) (by omega) (by omega) (by omega)
  have h2 := fun w => rof_any n d w
  have h3 := hide (fun w => gcdi_any n d w (by omega) (by omega))
  have h4 := hide (fun w => rgcdi_any n d w (by omega) (by omega))
  have h5 := fun w => check_any a b w (by omega) (by omega) (by omega) (by omega)
  have h6 := fun w => rcheck_any a b w (by omega) (by omega) (by omega) (by omega)
  have h7 := fun w => lref_any a b w
  generalize ofA n d = R at *
  obtain ⟨x, y, z⟩ := R
  have h8 := fun w => lref_any x y w
  generalize gcdA n d = G at *
  generalize okR a b = E at *
  simp only [rvE, rv] at h1 h2 h5 h6 h7 h8 ⊢
  have H1 := hide h1
  have H2 := hide h2
  have H5 := hide h5
  have H6 := hide h6
  have H7 := hide h7
  have H8 := hide h8
  clear h1 h2 h5 h6 h7 h8 wn wd wa wb n0 n1 d0 d1 a0 a1 b0 b1
  have T0 := hide (two_alloc w (.int .i64 a) (.int .i64 b) 23)
  have B0 : Hid (Below w.heap.size w (w.alloc (.cells #[.int .i64 a, .int .i64 b] 23))) := (Below.refl _ _).alloc (Nat.le_refl _) _
  go_enter Try.func3, Try.ntmps3
  go_wp2_with fail
  refine (unhide H1 _).mono ?_
  rintro e w1 ⟨rfl, b1⟩
  have T1 := hide (((unhide T0).up b1).alloc (.cells #[.int .i64 x, .int .i64 y] 23))
  have S1 := hide (two_alloc w1 (.int .i64 x) (.int .i64 y) 23)
  have B1 : Hid (Below w.heap.size w (w1.alloc (.cells #[.int .i64 x, .int .i64 y] 23))) := by
    have := (unhide B0).trans (b1.mono (unhide B0).size)
    exact this.alloc this.size _
  clear b1 T0 B0
  go_wp2_with fail
  refine (unhide H2 _).mono ?_
  rintro e w2 ⟨rfl, b2⟩
  have T2 := hide (((unhide T1).up b2).alloc (.cells #[.int .i64 x, .int .i64 y] 27))
  have S2 := hide (((unhide S1).up b2).alloc (.cells #[.int .i64 x, .int .i64 y] 27))
  have U2 := hide (two_alloc w2 (.int .i64 x) (.int .i64 y) 27)
  have B2 : Hid (Below w.heap.size w (w2.alloc (.cells #[.int .i64 x, .int .i64 y] 27))) := by
    have := (unhide B1).trans (b2.mono (unhide B1).size)
    exact this.alloc this.size _
  clear b2 T1 S1 B1
  go_wp2_with fail
  generalize w2.alloc (.cells #[.int .i64 x, .int .i64 y] 27) = W at *
  generalize w1.heap.size = s1 at *
  generalize w2.heap.size = s2 at *
  obtain ⟨p0, p1⟩ := gb_two (unhide T2)
  obtain ⟨q0, q1⟩ := gb_two (unhide S2)
  obtain ⟨r0, r1⟩ := gb_two (unhide U2)
  have hne := gb_ne W
  clear T2 S2 U2
  refine wp_region_gr (fun x => Below W.heap.size W x) (by kernel_rfl) (by kernel_rfl) (gb_start W) ?_
  iterate 12 (go_big_quiet_step ((first | (go_at_call 11; exact gb_call (rtawake_any _)) | (go_at_call 12; exact gb_call (unhide H8 _)))))
  repeat (go_big_quiet_step ((first | (go_at_call 12; exact gb_call (unhide H7 _)) | (go_at_call 13; exact gb_call (unhide h3 _)) | (go_at_call 14; exact gb_same (unhide h4 _)) | (go_at_call 15; exact gb_call (unhide H5 _)) | (go_at_call 16; exact gb_call (unhide H6 _)))))
  refine wpQuiet_nil ?_
  rintro w7 ⟨⟨_, b7⟩, rfl⟩
  have B7 := hide ((unhide B2).trans (b7.mono (unhide B2).size))
  clear b7 p0 p1 q0 q1 r0 r1 hne
  go_wp2
  go_ret
  exact ⟨rfl, unhide B7⟩

end Go.Proofs.Ytmaeebgphblilaa

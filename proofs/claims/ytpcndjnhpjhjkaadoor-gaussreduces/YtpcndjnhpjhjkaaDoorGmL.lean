/- The law GaussReduces, walked. -/
import Derived.Test.YtpcndjnhpjhjkaaDoorGdG
namespace Go.Proofs.YtpcndjnhpjhjkaaDoor
open Go.RowKit
set_option linter.unusedVariables false
attribute [local go_sem] Oper.semAt_some

set_option maxRecDepth 100000 in
set_option maxHeartbeats 2000000 in
theorem gaussReduces_core (n : Int) (m : Nat) (a0 : Option Addr) (c : Nat) (w : World) (er : Int) (ok : Bool) (Ds : List (List Int)) (FX : List Nat) (hD : Ds.length ≤ 1000) (hD2 : ∀ r ∈ Ds, r.length ≤ 1000) (hF : FX.length ≤ 1000) (hT : Tz w)
    (hf : Calls Tryd.prog 9 #[.int .i64 n, .slice a0 m c] w fun e w' => e = .returned (.bool true) ∧ w = w')
    (h1 : ∀ W, Below w.heap.size w W → Calls Tryd.prog 11 #[.int .i64 n, .slice a0 m c] W fun e w' => ∃ v, e = .returned (.tuple #[v, .int .i64 er]) ∧ RowsV w' v Ds ∧ Below W.heap.size W w')
    (h2 : ∀ W, Below w.heap.size w W → Calls Tryd.prog 12 #[.int .i64 n, .slice a0 m c] W fun e w' => ∃ v, e = .returned (.tuple #[v, .int .i64 er]) ∧ RowsV w' v Ds ∧ Below W.heap.size W w')
    (h3 : ∀ W, Below w.heap.size w W → Calls Tryd.prog 13 #[.int .i64 n, .slice a0 m c] W fun e w' => e = .returned (.tuple #[.int .i64 (Ds.length : Nat), .int .i64 er]) ∧ Below W.heap.size W w')
    (h4 : ∀ W, Below w.heap.size w W → Calls Tryd.prog 14 #[.int .i64 n, .slice a0 m c] W fun e w' => ∃ v, e = .returned (.tuple #[v, .int .i64 er]) ∧ w'.ownsRow W.heap.size 3 1 v FX.length (ic (zs FX)) ∧ Below W.heap.size W w')
    (h5 : ∀ W, Below w.heap.size w W → Calls Tryd.prog 15 #[.int .i64 n, .slice a0 m c] W fun e w' => ∃ v, e = .returned (.tuple #[v, .int .i64 er]) ∧ w'.ownsRow W.heap.size 3 1 v FX.length (ic (zs FX)) ∧ Below W.heap.size W w')
    (h6 : ∀ W, Below w.heap.size w W → Calls Tryd.prog 16 #[.int .i64 n, .slice a0 m c] W fun e w' => e = .returned (.bool ok) ∧ W = w')
    (h7 : ∀ W, Below w.heap.size w W → Calls Tryd.prog 17 #[.int .i64 n, .slice a0 m c] W fun e w' => e = .returned (.bool ok) ∧ W = w') :
    Calls Tryd.prog 3 #[.int .i64 n, .slice a0 m c] w fun e w' => e = .returned (.bool true) ∧ Below w.heap.size w w' := by
  have haw := hide (fun W (hb : Below w.heap.size w W) => gawake_any W (hT.below hb))
  have hf := hide hf
  have h1 := hide h1
  have h2 := hide h2
  have h3 := hide h3
  have h4 := hide h4
  have h5 := hide h5
  have h6 := hide h6
  have h7 := hide h7
  have HD2 := hide hD2
  have qe : ((er : Int) == er) = true := by simp
  have qo : (ok == ok) = true := by simp
  generalize hdl : Ds.length = dl at *
  have HDL := hide hdl
  have qd : ((dl : Int) == dl) = true := by simp
  generalize hfl : FX.length = fl at *
  have HFL := hide hfl
  clear hdl hfl hT hD2
  go_enter Tryd.func3, Tryd.ntmps3
  go_wp2_with fail
  refine (unhide hf).mono ?_
  rintro e w0 ⟨rfl, rfl⟩
  go_wp2_with fail
  refine (unhide h1 _ (Below.refl _ _)).mono ?_
  rintro e w1 ⟨v1, rfl, ⟨ra, rc, hve, hra⟩, b1⟩
  rw [unhide HDL] at hve
  subst hve
  have B1 := hide b1
  have HA1 := hide hra
  clear b1 hra
  go_wp2_with fail
  refine (unhide h2 _ (unhide B1)).mono ?_
  rintro e w2 ⟨v2, rfl, ⟨sa, sc', hve, hsa⟩, b2⟩
  rw [unhide HDL] at hve
  subst hve
  have B2 := hide ((unhide B1).trans (b2.mono (unhide B1).size))
  have HA2 := hide ((unhide HA1).below b2)
  have HS2 := hide hsa
  clear b2 hsa HA1
  go_wp2_with fail
  refine (unhide h3 _ (unhide B2)).mono ?_
  rintro e w3 ⟨rfl, b3⟩
  have B3 := hide ((unhide B2).trans (b3.mono (unhide B2).size))
  have HA3 := hide ((unhide HA2).below b3)
  have HS3 := hide ((unhide HS2).below b3)
  clear b3 HA2 HS2
  go_wp2_with fail
  refine (unhide h4 _ (unhide B3)).mono ?_
  rintro e w4 ⟨v4, rfl, hO4, b4⟩
  obtain ⟨fa, fc, rfl, hi4⟩ := ints_own (r := zs FX) (by rw [zs_length, unhide HFL]; exact hO4)
  rw [zs_length, unhide HFL]
  have B4 := hide ((unhide B3).trans (b4.mono (unhide B3).size))
  have HA4 := hide ((unhide HA3).below b4)
  have HS4 := hide ((unhide HS3).below b4)
  have HI4 := hide hi4
  clear b4 HA3 HS3 hO4 hi4
  go_wp2_with fail
  refine (unhide h5 _ (unhide B4)).mono ?_
  rintro e w5 ⟨v5, rfl, hO5, b5⟩
  obtain ⟨ga, gc, rfl, hi5⟩ := ints_own (r := zs FX) (by rw [zs_length, unhide HFL]; exact hO5)
  rw [zs_length, unhide HFL]
  have B5 := hide ((unhide B4).trans (b5.mono (unhide B4).size))
  have HA5 := hide ((unhide HA4).below b5)
  have HS5 := hide ((unhide HS4).below b5)
  have HI5 := hide ((unhide HI4).below b5)
  have HJ5 := hide hi5
  clear b5 HA4 HS4 HI4 hO5 hi5
  go_wp2_with fail
  refine (unhide haw _ (unhide B5)).mono ?_
  rintro e w6 ⟨rfl, b6⟩
  have B6 := hide ((unhide B5).trans (b6.mono (unhide B5).size))
  have HA6 := hide ((unhide HA5).below b6)
  have HS6 := hide ((unhide HS5).below b6)
  have HI6 := hide ((unhide HI5).below b6)
  have HJ6 := hide ((unhide HJ5).below b6)
  clear b6 HA5 HS5 HI5 HJ5
  go_wp2_with fail
  refine (unhide h6 _ (unhide B6)).mono ?_
  rintro e w7 ⟨rfl, rfl⟩
  go_wp2_with fail
  refine (unhide h7 _ (unhide B6)).mono ?_
  rintro e w7 ⟨rfl, rfl⟩
  have hsr := sameRows_any Ds ra sa rc sc' (by rw [unhide HDL]; omega) (fun r hr => by have := unhide HD2 r hr; omega) w6 (unhide HA6) (unhide HS6)
  rw [unhide HDL] at hsr
  have HSR := hide hsr
  clear hsr HA6 HS6
  go_wp2_with fail
  refine (unhide HSR).mono ?_
  rintro e w8 ⟨rfl, b8⟩
  have B8 := hide ((unhide B6).trans (b8.mono (unhide B6).size))
  have hsm := isame_any w8 (zs FX) fa ga fc gc (by rw [zs_length, unhide HFL]; omega) ((unhide HI6).below b8) ((unhide HJ6).below b8)
  rw [zs_length, unhide HFL] at hsm
  have HSM := hide hsm
  clear b8 hsm HI6 HJ6
  go_wp2_with fail
  refine (unhide HSM).mono ?_
  rintro e w9 ⟨rfl, b9⟩
  have B9 := hide ((unhide B8).trans (b9.mono (unhide B8).size))
  clear b9
  go_wp2
  go_ret
  exact ⟨rfl, unhide B9⟩
set_option maxRecDepth 100000 in
set_option maxHeartbeats 1000000 in
theorem gaussReduces_off (n : Int) (Rs : List (List Int)) (a0 : Option Addr) (c : Nat) (w : World) (hT : Tz w) (hk : Rs.length ≤ maxLen) (hk2 : ∀ r ∈ Rs, r.length ≤ maxLen) (hI : RowsA w a0 Rs) (hfe : fewB n Rs = false) :
    Calls Tryd.prog 3 #[.int .i64 n, .slice a0 Rs.length c] w fun e w' => e = .returned (.bool true) ∧ Below w.heap.size w w' := by
  have hf := hide (gfew_any n Rs a0 c hk hk2 w hI)
  rw [hfe] at hf
  have haw := hide (gawake_any w hT)
  generalize Rs.length = m at *
  clear hI hfe
  go_enter Tryd.func3, Tryd.ntmps3
  go_wp2_with fail
  refine (unhide hf).mono ?_
  rintro e w1 ⟨rfl, rfl⟩
  go_wp2_with fail
  refine (unhide haw).mono ?_
  rintro e w2 ⟨rfl, b2⟩
  have B2 := hide b2
  clear b2
  go_wp2
  go_ret
  exact ⟨rfl, unhide B2⟩
theorem gaussReduces_law (n : Int) (a0 : Option Addr) (Rs : List (List Int)) (c : Nat) (w : World) (hn : (Lit.int .i64 n).wf = true) (hI : RowsA w a0 Rs) (hO : RowsOk Rs a0 c) (hT : Tz w) :
    Calls Tryd.prog 3 #[.int .i64 n, .slice a0 Rs.length c] w fun e w' => e = .returned (.bool true) ∧ Below w.heap.size w w' := by
  have h1 : Rs.length ≤ maxLen := Nat.le_trans hO.1 hO.2.1
  have h2 := hO.2.2.1
  cases hfe : fewB n Rs with
  | false => exact gaussReduces_off n Rs a0 c w hT h1 h2 hI hfe
  | true =>
    have hf := gfew_any n Rs a0 c h1 h2 w hI
    rw [hfe] at hf
    have hm := fun W (hb : Below w.heap.size w W) => may_any n Rs a0 c (wf64 hn) h1 h2 W (hI.below hb)
    have hdm := fun W (hb : Below w.heap.size w W) => dmay_any n Rs a0 c (wf64 hn) h1 h2 W (hI.below hb)
    cases hme : mayB n Rs with
    | false =>
      rw [hme] at hm hdm
      have nilV : ∀ W : World, RowsV W (.slice none 0 0) [] := fun W => ⟨none, 0, rfl, fun i hi => absurd hi (by simp)⟩
      refine gaussReduces_core n Rs.length a0 c w 1 false [] [] (by simp) (by simp) (by simp) hT hf ?_ ?_ ?_ ?_ ?_ hm hdm
      · exact fun W hb => (reduce_no n Rs a0 c (wf64 hn) h1 h2 W (hI.below hb) hme).mono (fun e w' ⟨he, hw⟩ => ⟨_, he, nilV _, hw ▸ Below.refl _ _⟩)
      · exact fun W hb => (drows_no n Rs a0 c (wf64 hn) h1 h2 W (hI.below hb) hme).mono (fun e w' ⟨he, hb'⟩ => ⟨_, he, nilV _, hb'⟩)
      · exact fun W hb => (rank_no n Rs a0 c (wf64 hn) h1 h2 W (hI.below hb) hme).mono (fun e w' ⟨he, hw⟩ => ⟨he, hw ▸ Below.refl _ _⟩)
      · exact fun W hb => (fixed_no n Rs a0 c (wf64 hn) h1 h2 W (hI.below hb) hme).mono (fun e w' ⟨he, hw⟩ => ⟨_, he, World.ownsRow_nil _ _ _ _, hw ▸ Below.refl _ _⟩)
      · exact fun W hb => (dfixed_no n Rs a0 c (wf64 hn) h1 h2 W (hI.below hb) hme).mono (fun e w' ⟨he, hb'⟩ => ⟨_, he, World.ownsRow_nil _ _ _ _, hb'⟩)
    | true =>
      rw [hme] at hm hdm
      obtain ⟨k, R, rfl, hR⟩ := may_rws hme
      have h160 := hR.n160
      obtain ⟨_, _, hk3, _, _, hbd, hkn⟩ := kep_rd (n := k) (m := 0) (by omega) (gL_szd R) hR.bd
      have hkl : (kep (gL R) k).length ≤ 160 := by omega
      have hdl : ((redR k (kep (gL R) k)).map zs).length = (kep (gL R) k).length := by simp [redR]
      refine gaussReduces_core k Rs.length a0 c w 0 true ((redR k (kep (gL R) k)).map zs) (fixN (kep (gL R) k)) (by rw [hdl]; omega) (fun r hr => ?_) ?_ hT hf ?_ ?_ ?_ ?_ ?_ hm hdm
      · obtain ⟨x, hx, rfl⟩ := List.mem_map.1 hr
        unfold redR at hx
        obtain ⟨y, hy, rfl⟩ := List.mem_map.1 hx
        have := numsR_len k y.1
        rw [zs_length]
        omega
      · have := fixN_len (kep (gL R) k)
        omega
      · exact fun W hb => (reduce_yes k Rs R hR a0 c W (hT.below hb) (hI.below hb)).mono (fun e w' ⟨v, he, hr, hb'⟩ => ⟨v, he, hr.rows, hb'⟩)
      · exact fun W hb => drows_yes k Rs R hR a0 c W (hI.below hb)
      · intro W hb
        rw [hdl]
        exact rank_yes k Rs R hR a0 c W (hI.below hb)
      · exact fun W hb => fixed_yes k Rs R hR a0 c W (hI.below hb)
      · exact fun W hb => dfixed_yes k Rs R hR a0 c W (hI.below hb)
end Go.Proofs.YtpcndjnhpjhjkaaDoor

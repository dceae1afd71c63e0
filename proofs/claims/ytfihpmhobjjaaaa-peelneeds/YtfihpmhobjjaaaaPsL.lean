/- The law PeelSteps, walked. -/
import Derived.Test.YtfihpmhobjjaaaaPdE
import Derived.Deep.AppendLies
namespace Go.Proofs.Ytfihpmhobjjaaaa
open Go.RowKit
set_option linter.unusedVariables false
attribute [local go_sem] Oper.semAt_some

set_option maxRecDepth 100000 in
set_option maxHeartbeats 1000000 in
theorem peelSteps_off (n : Int) (Rs : List (List Int)) (Ks : List Int) (a0 k0 : Option Addr) (c kc : Nat) (hk : Rs.length ≤ maxLen) (hk2 : ∀ r ∈ Rs, r.length ≤ maxLen) (hk3 : Ks.length ≤ maxLen) (w : World) (hI : RowsA w a0 Rs) (hK : Ints w k0 Ks) (hno : (fewB n Rs && fewB n [Ks]) = false) :
    Calls Try.prog 3 #[.int .i64 n, .slice a0 Rs.length c, .slice k0 Ks.length kc] w fun e w' => e = .returned (.bool true) ∧ Below w.heap.size w w' := by
  have hf := hide (pfew_any n Rs Ks a0 k0 c kc hk hk2 hk3 w hI hK)
  have haw := hide (fun W => pawake_any W)
  rw [hno] at hf
  generalize Rs.length = m at *
  generalize Ks.length = l at *
  clear hI hK hno
  go_enter Try.func3, Try.ntmps3
  go_wp2_with fail
  refine (unhide hf).mono ?_
  rintro e w1 ⟨rfl, b1⟩
  have B1 := hide b1
  clear b1
  go_wp2_with fail
  refine (unhide haw _).mono ?_
  rintro e w2 ⟨rfl, b2⟩
  have B2 := hide ((unhide B1).trans (b2.mono (unhide B1).size))
  clear b2
  go_wp2
  go_ret
  exact ⟨rfl, unhide B2⟩
/-- a call that answers a row of the call's own and an error -/
def Tells (f : FuncId) (args : Array Value) (w : World) (t : TypeId) (size : Nat) (l : Nat) (xs : List Value) (er : Int) : Prop := ∀ W, Below w.heap.size w W → Calls Try.prog f args W fun e w' => ∃ v, e = .returned (.tuple #[v, .int .i64 er]) ∧ w'.ownsRow W.heap.size t size v l xs ∧ Below W.heap.size W w'
theorem stc_len (D : List (Nat × Nat)) : (stc D).length = D.length * 2 := by
  induction D with
  | nil => rfl
  | cons x D ih => simp [stc] at *; omega
theorem stc_at (D : List (Nat × Nat)) (i : Nat) (h : i < D.length) : (stc D)[i * 2]? = some (.int .i64 (D[i].1 : Int)) ∧ (stc D)[i * 2 + 1]? = some (.int .i64 (D[i].2 : Int)) := by
  induction D generalizing i with
  | nil => simp at h
  | cons x D ih =>
    cases i with
    | zero => exact ⟨rfl, rfl⟩
    | succ i =>
      have := ih i (by simpa using h)
      have e1 : (i + 1) * 2 = i * 2 + 2 := by omega
      have e2 : (i + 1) * 2 + 1 = i * 2 + 1 + 2 := by omega
      rw [e1, show i * 2 + 2 + 1 = i * 2 + 1 + 2 by omega]
      simpa [stc] using this
set_option maxRecDepth 100000 in
set_option maxHeartbeats 2000000 in
theorem peelSteps_core (n : Int) (m l : Nat) (a0 k0 : Option Addr) (c kc : Nat) (w : World) (er : Int) (D : List (Nat × Nat)) (KN RN : List Nat) (hD : D.length ≤ 1000) (hKN : KN.length ≤ 1000) (hRN : RN.length ≤ 1000)
    (hf : Calls Try.prog 8 #[.int .i64 n, .slice a0 m c, .slice k0 l kc] w fun e w' => e = .returned (.bool true) ∧ Below w.heap.size w w')
    (h1 : Tells 10 #[.int .i64 n, .slice a0 m c, .slice k0 l kc] w 34 2 D.length (stc D) er)
    (h2 : Tells 11 #[.int .i64 n, .slice a0 m c, .slice k0 l kc] w 35 2 D.length (stc D) er)
    (h3 : Tells 12 #[.int .i64 n, .slice a0 m c, .slice k0 l kc] w 3 1 KN.length (ic (zs KN)) er)
    (h4 : Tells 13 #[.int .i64 n, .slice a0 m c, .slice k0 l kc] w 3 1 KN.length (ic (zs KN)) er)
    (h5 : Tells 14 #[.int .i64 n, .slice a0 m c, .slice k0 l kc] w 3 1 RN.length (ic (zs RN)) er)
    (h6 : Tells 15 #[.int .i64 n, .slice a0 m c, .slice k0 l kc] w 3 1 RN.length (ic (zs RN)) er) :
    Calls Try.prog 3 #[.int .i64 n, .slice a0 m c, .slice k0 l kc] w fun e w' => e = .returned (.bool true) ∧ Below w.heap.size w w' := by
  have haw := hide (fun W => pawake_any W)
  have hf := hide hf
  have h1 := hide h1
  have h2 := hide h2
  have h3 := hide h3
  have h4 := hide h4
  have h5 := hide h5
  have h6 := hide h6
  have qe : ((er : Int) == er) = true := by simp
  generalize hdl : D.length = dl at *
  have HDL := hide hdl
  generalize hkl : KN.length = kl at *
  have HKL := hide hkl
  generalize hrl : RN.length = rl at *
  have HRL := hide hrl
  clear hdl hkl hrl
  go_enter Try.func3, Try.ntmps3
  go_wp2_with fail
  refine (unhide hf).mono ?_
  rintro e w1 ⟨rfl, b1⟩
  have B1 := hide b1
  clear b1
  go_wp2_with fail
  refine (unhide h1 _ (unhide B1)).mono ?_
  rintro e w2 ⟨v2, rfl, hO2, b2⟩
  obtain ⟨a2, c2, rfl⟩ := own_shape2 hO2
  have B2 := hide ((unhide B1).trans (b2.mono (unhide B1).size))
  have HO2 := hide hO2
  clear b2 hO2
  go_wp2_with fail
  refine (unhide h2 _ (unhide B2)).mono ?_
  rintro e w3 ⟨v3, rfl, hO3, b3⟩
  obtain ⟨a3, c3, rfl⟩ := own_shape2 hO3
  have B3 := hide ((unhide B2).trans (b3.mono (unhide B2).size))
  have HO2' := hide (own_below2 (unhide HO2) b3)
  have HO3 := hide hO3
  clear b3 hO3 HO2
  go_wp2_with fail
  go_loopw [11] (fun v wr => ∃ i : Nat, i ≤ dl ∧ v = .int .i64 i ∧ Below w3.heap.size w3 wr) (fun v _ => dl - (intOf v).toNat)
  case atStart => exact ⟨0, by omega, rfl, Below.refl _ _⟩
  case round =>
    obtain ⟨i, hi, rfl, hb⟩ := hrel
    by_cases hlt : i < dl
    · have hltD : i < D.length := by rw [unhide HDL]; exact hlt
      obtain ⟨s1, s2⟩ := stc_at D i hltD
      obtain ⟨g2, c2', e2, _⟩ := (unhide HO2').form (by omega)
      obtain ⟨g3, c3', e3, _⟩ := (unhide HO3).form (by omega)
      simp only [Value.slice.injEq, true_and] at e2 e3
      obtain ⟨rfl, rfl⟩ := e2
      obtain ⟨rfl, rfl⟩ := e3
      have x1 := cell_below (((unhide HO2').cellAt (i * 2) (by omega)).trans s1) hb
      have x2 := cell_below (((unhide HO2').cellAt (i * 2 + 1) (by omega)).trans s2) hb
      have y1 := cell_below (((unhide HO3).cellAt (i * 2) (by omega)).trans s1) hb
      have y2 := cell_below (((unhide HO3).cellAt (i * 2 + 1) (by omega)).trans s2) hb
      have q1 : (i : Int) < dl := by omega
      generalize D[i].1 = da at *
      generalize D[i].2 = db at *
      have HB := hide hb
      have qa : ((da : Int) == da) = true := by simp
      have qb : ((db : Int) == db) = true := by simp
      clear s1 s2 hltD hb
      go_wp2_with fail
      go_big_quiet (fail)
      go_wp2
      go_roundw
      case rel => exact ⟨i + 1, by omega, by go_num, below_drawn (unhide HB) _⟩
      case measure => simp [intOf]; omega
    · have q1 : ¬ (i : Int) < dl := by omega
      have B4 := hide ((unhide B3).trans (hb.mono (unhide B3).size))
      clear hb
      go_wp2_with fail
      refine (unhide h3 _ (unhide B4)).mono ?_
      rintro e w5 ⟨v5, rfl, hO5, b5⟩
      obtain ⟨a5, c5, rfl, hi5, _⟩ := OwnI.ints (l := zs KN) (by show World.ownsRow _ _ _ _ _ _ _; rw [zs_length, unhide HKL]; exact hO5)
      rw [zs_length, unhide HKL]
      have B5 := hide ((unhide B4).trans (b5.mono (unhide B4).size))
      have HI5 := hide hi5
      clear b5 hO5 hi5
      go_wp2_with fail
      refine (unhide h4 _ (unhide B5)).mono ?_
      rintro e w6 ⟨v6, rfl, hO6, b6⟩
      obtain ⟨a6, c6, rfl, hi6, _⟩ := OwnI.ints (l := zs KN) (by show World.ownsRow _ _ _ _ _ _ _; rw [zs_length, unhide HKL]; exact hO6)
      rw [zs_length, unhide HKL]
      have B6 := hide ((unhide B5).trans (b6.mono (unhide B5).size))
      have HI5a := hide ((unhide HI5).below b6)
      have HI6 := hide hi6
      clear b6 hO6 hi6 HI5
      go_wp2_with fail
      refine (unhide h5 _ (unhide B6)).mono ?_
      rintro e w7 ⟨v7, rfl, hO7, b7⟩
      obtain ⟨a7, c7, rfl, hi7, _⟩ := OwnI.ints (l := zs RN) (by show World.ownsRow _ _ _ _ _ _ _; rw [zs_length, unhide HRL]; exact hO7)
      rw [zs_length, unhide HRL]
      have B7 := hide ((unhide B6).trans (b7.mono (unhide B6).size))
      have HI5b := hide ((unhide HI5a).below b7)
      have HI6b := hide ((unhide HI6).below b7)
      have HI7 := hide hi7
      clear b7 hO7 hi7 HI5a HI6
      go_wp2_with fail
      refine (unhide h6 _ (unhide B7)).mono ?_
      rintro e w8 ⟨v8, rfl, hO8, b8⟩
      obtain ⟨a8, c8, rfl, hi8, _⟩ := OwnI.ints (l := zs RN) (by show World.ownsRow _ _ _ _ _ _ _; rw [zs_length, unhide HRL]; exact hO8)
      rw [zs_length, unhide HRL]
      have B8 := hide ((unhide B7).trans (b8.mono (unhide B7).size))
      have HI5c := hide ((unhide HI5b).below b8)
      have HI6c := hide ((unhide HI6b).below b8)
      have HI7c := hide ((unhide HI7).below b8)
      have HI8 := hide hi8
      clear b8 hO8 hi8 HI5b HI6b HI7
      go_wp2_with fail
      refine (unhide haw _).mono ?_
      rintro e w9 ⟨rfl, b9⟩
      have B9 := hide ((unhide B8).trans (b9.mono (unhide B8).size))
      have hs1 := isame_any w9 (zs KN) a5 a6 c5 c6 (by rw [zs_length, unhide HKL]; omega) ((unhide HI5c).below b9) ((unhide HI6c).below b9)
      rw [zs_length, unhide HKL] at hs1
      have HS1 := hide hs1
      have HI7d := hide ((unhide HI7c).below b9)
      have HI8d := hide ((unhide HI8).below b9)
      clear b9 hs1 HI5c HI6c HI7c HI8
      go_wp2_with fail
      refine (unhide HS1).mono ?_
      rintro e w10 ⟨rfl, b10⟩
      have B10 := hide ((unhide B9).trans (b10.mono (unhide B9).size))
      have hs2 := isame_any w10 (zs RN) a7 a8 c7 c8 (by rw [zs_length, unhide HRL]; omega) ((unhide HI7d).below b10) ((unhide HI8d).below b10)
      rw [zs_length, unhide HRL] at hs2
      have HS2 := hide hs2
      clear b10 hs2 HI7d HI8d
      go_wp2_with fail
      refine (unhide HS2).mono ?_
      rintro e w11 ⟨rfl, b11⟩
      have B11 := hide ((unhide B10).trans (b11.mono (unhide B10).size))
      clear b11
      go_wp2
      go_ret
      exact ⟨rfl, unhide B11⟩
theorem peelSteps_law (n : Int) (a0 : Option Addr) (Rs : List (List Int)) (c : Nat) (k0 : Option Addr) (Ks : List Int) (kc : Nat) (w : World) (hn : (Lit.int .i64 n).wf = true) (hI : RowsK w a0 Rs) (hO : RowsOk Rs a0 c) (hK : Ints w k0 Ks) (hKO : IntsOk Ks kc) :
    Calls Try.prog 3 #[.int .i64 n, .slice a0 Rs.length c, .slice k0 Ks.length kc] w fun e w' => e = .returned (.bool true) ∧ Below w.heap.size w w' := by
  have h1 : Rs.length ≤ maxLen := Nat.le_trans hO.1 hO.2.1
  have h2 : Ks.length ≤ maxLen := Nat.le_trans hKO.1 hKO.2.1
  have hf := pfew_any n Rs Ks a0 k0 c kc h1 hO.2.2.1 h2 w hI.rowsA hK
  cases hfe : (fewB n Rs && fewB n [Ks]) with
  | false => exact peelSteps_off n Rs Ks a0 k0 c kc h1 hO.2.2.1 h2 w hI.rowsA hK hfe
  | true =>
    rw [hfe] at hf
    cases hme : (mayB n Rs && mayB n [Ks]) with
    | false =>
      have hA : ∀ W, Below w.heap.size w W → RowsA W a0 Rs := fun W hb => hI.rowsA.below hb
      refine peelSteps_core n Rs.length Ks.length a0 k0 c kc w 1 [] [] [] (by simp) (by simp) (by simp) hf ?_ ?_ ?_ ?_ ?_ ?_
      · exact fun W hb => (steps_no n Rs Ks a0 k0 c kc (wf64 hn) h1 hO.2.2.1 h2 W (hA W hb) (hK.below hb) hme).mono (fun e w' ⟨he, hb'⟩ => ⟨_, he, World.ownsRow_nil _ _ _ _, hb'⟩)
      · exact fun W hb => (dsteps_no n Rs Ks a0 k0 c kc (wf64 hn) h1 hO.2.2.1 h2 W (hA W hb) (hK.below hb) hme).mono (fun e w' ⟨he, hb'⟩ => ⟨_, he, World.ownsRow_nil _ _ _ _, hb'⟩)
      · exact fun W hb => (known_no n Rs Ks a0 k0 c kc (wf64 hn) h1 hO.2.2.1 h2 W (hA W hb) (hK.below hb) hme).mono (fun e w' ⟨he, hb'⟩ => ⟨_, he, World.ownsRow_nil _ _ _ _, hb'⟩)
      · exact fun W hb => (dknown_no n Rs Ks a0 k0 c kc (wf64 hn) h1 hO.2.2.1 h2 W (hA W hb) (hK.below hb) hme).mono (fun e w' ⟨he, hb'⟩ => ⟨_, he, World.ownsRow_nil _ _ _ _, hb'⟩)
      · exact fun W hb => (ripe_no n Rs Ks a0 k0 c kc (wf64 hn) h1 hO.2.2.1 h2 W (hA W hb) (hK.below hb) hme).mono (fun e w' ⟨he, hb'⟩ => ⟨_, he, World.ownsRow_nil _ _ _ _, hb'⟩)
      · exact fun W hb => (dripe_no n Rs Ks a0 k0 c kc (wf64 hn) h1 hO.2.2.1 h2 W (hA W hb) (hK.below hb) hme).mono (fun e w' ⟨he, hb'⟩ => ⟨_, he, World.ownsRow_nil _ _ _ _, hb'⟩)
    | true =>
      rw [Bool.and_eq_true] at hme
      obtain ⟨k, R, K, rfl, rfl, rfl, hP⟩ := may_pl hme.1 hme.2
      rw [List.length_map, zs_length] at hf ⊢
      have hC : ∀ W, Below w.heap.size w W → RowsC W a0 R := fun W hb => hI.rowsC.below hb
      have n160 := hP.n160
      refine peelSteps_core k R.length K.length a0 k0 c kc w 0 (peelF k (inS K) R).1 (knN k R K) (rpN (inS K) R) ?_ ?_ ?_ hf ?_ ?_ ?_ ?_ ?_ ?_
      · have := steps_len hP.lt k (inS K)
        have := un_le k (inS K)
        omega
      · have := knN_len k R K
        omega
      · have h3 : (rpN (inS K) R).length ≤ R.length := by
          have := List.length_filter_le (fun j => rpB (inS K) R j) (List.range R.length)
          simpa [rpN] using this
        have := hP.m400
        omega
      · exact fun W hb => steps_yes k R K hP a0 k0 c kc W (hC W hb) (hK.below hb)
      · exact fun W hb => dsteps_yes k R K hP a0 k0 c kc W (hC W hb) (hK.below hb)
      · exact fun W hb => known_yes k R K hP a0 k0 c kc W (hC W hb) (hK.below hb)
      · exact fun W hb => dknown_yes k R K hP a0 k0 c kc W (hC W hb) (hK.below hb)
      · exact fun W hb => ripe_yes k R K hP a0 k0 c kc W (hC W hb) (hK.below hb)
      · exact fun W hb => dripe_yes k R K hP a0 k0 c kc W (hC W hb) (hK.below hb)
end Go.Proofs.Ytfihpmhobjjaaaa

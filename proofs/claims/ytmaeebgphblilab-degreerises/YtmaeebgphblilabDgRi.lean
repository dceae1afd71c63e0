/- What the law DegreeRises does, whatever the world: it answers true and changes nothing that was there. -/
import Derived.Test.YtmaeebgphblilabDgG
import Derived.OpenShut
namespace Go.Proofs.Ytmaeebgphblilab
open Go.RowKit
set_option linter.unusedVariables false

theorem tab_rises {n d q f k : Int} (h : codeOk n d q f = true) (h1 : 1 ≤ k) (h2 : k + 1 ≤ f) : tabV n d f k ≤ tabV n d f (k + 1) := by
  obtain ⟨_, m1, m2, m3, _, _, m4, m5, m6⟩ := codeOk_of h
  obtain ⟨p1, p2, p3, r1, r2, hle⟩ := denOk m1 m2 m3 m4 m5 m6 h1 (by omega)
  obtain ⟨_, _, p3', _, _, _⟩ := denOk m1 m2 m3 m4 m5 m6 (show 1 ≤ k + 1 by omega) h2
  unfold tabV
  refine scale_mono p3.1 p3'.1 ?_ (by omega)
  have e1 : den n d f (k + 1) = den n d f k + f * (d + n) * (f - 1) := by unfold den; rw [Int.mul_add, Int.mul_one]
  have e2 : (f + 1) * d * (f - (k + 1)) = (f + 1) * d * (f - k) - (f + 1) * d := by
    rw [show f - (k + 1) = (f - k) - 1 by omega, Int.mul_sub, Int.mul_one]
  unfold num
  rw [e1, e2]
  generalize den n d f k = u at *
  generalize (f + 1) * d * (f - k) = A at *
  generalize (f + 1) * d = R at *
  generalize f * (d + n) * (f - 1) = P at *
  have c1 : (u - A) * P ≤ u * P := Int.mul_le_mul_of_nonneg_right (by omega) (by omega)
  have c2 : 0 ≤ R * u := Int.mul_nonneg (by omega) (by omega)
  have c3 : (u + P - (A - R)) * u = (u - A) * u + P * u + R * u := by
    rw [show u + P - (A - R) = (u - A) + P + R by omega, Int.add_mul, Int.add_mul]
  rw [Int.mul_add, c3]
  have c4 : u * P = P * u := Int.mul_comm _ _
  omega

set_option maxRecDepth 100000 in
set_option maxHeartbeats 8000000 in
theorem degreeRises_any (n d q f : Int) (w : World) (wn : (Lit.int .i64 n).wf = true) (wd : (Lit.int .i64 d).wf = true) (wq : (Lit.int .i64 q).wf = true) (wf : (Lit.int .i64 f).wf = true) :
    Calls Try.prog 7 #[cv n d q f] w fun e w' => e = .returned (.bool true) ∧ Below w.heap.size w w' := by
  obtain ⟨n0, n1⟩ := bounds_i64 wn
  obtain ⟨d0, d1⟩ := bounds_i64 wd
  obtain ⟨q0, q1⟩ := bounds_i64 wq
  obtain ⟨f0, f1⟩ := bounds_i64 wf
  have h4 := fun w => dcheck_any n d q f w (by omega) (by omega) (by omega) (by omega) (by omega) (by omega) (by omega) (by omega)
  have T0 := hide (four_alloc w (.int .i64 n) (.int .i64 d) (.int .i64 q) (.int .i64 f) 25)
  have BB : Hid (Below w.heap.size w (w.alloc (.cells #[.int .i64 n, .int .i64 d, .int .i64 q, .int .i64 f] 25))) := (Below.refl _ _).alloc (Nat.le_refl _) _
  cases hE : codeOk n d q f
  · have h1 := fun w => table_bad n d q f w (by omega) (by omega) (by omega) (by omega) (by omega) (by omega) (by omega) (by omega) hE
    rw [hE] at h4
    clear hE
    simp only [cv] at h1 h4 ⊢
    have h1 := hide h1
    have h4 := hide h4
    clear wn n0 n1 wd d0 d1 wq q0 q1 wf f0 f1
    go_enter Try.func7, Try.ntmps7
    go_wp2_with fail
    refine (unhide h1 _).mono ?_
    rintro e w1 ⟨rfl, b1⟩
    have T0n := hide ((unhide T0).up b1)
    have BBn := hide ((unhide BB).trans (b1.mono (unhide BB).size))
    clear b1 BB T0
    have T0 := T0n
    have BB := BBn
    clear BBn T0n
    go_wp2_with fail
    refine (dgawake_any _).mono ?_
    rintro e w2 ⟨rfl, b2⟩
    have T0n := hide ((unhide T0).up b2)
    have BBn := hide ((unhide BB).trans (b2.mono (unhide BB).size))
    clear b2 BB T0
    have T0 := T0n
    have BB := BBn
    clear BBn T0n
    have fT00 := (unhide T0).c0
    have fT01 := (unhide T0).c1
    have fT02 := (unhide T0).c2
    have fT03 := (unhide T0).c3
    go_wp2_with fail
    clear fT00 fT01 fT02 fT03
    refine (unhide h4 _).mono ?_
    rintro e w3 ⟨rfl, b3⟩
    have T0n := hide ((unhide T0).up b3)
    have BBn := hide ((unhide BB).trans (b3.mono (unhide BB).size))
    clear b3 BB T0
    have T0 := T0n
    have BB := BBn
    clear BBn T0n
    go_wp2
    go_ret
    exact ⟨rfl, unhide BB⟩
  · obtain ⟨F, hF⟩ : ∃ F : Nat, f = F := ⟨f.toNat, by have := codeOk_of hE; omega⟩
    subst hF
    have hF2 : 2 ≤ F ∧ F ≤ 64 := by have := codeOk_of hE; omega
    have h1 := fun w => table_any n d q F w (by omega) (by omega) (by omega) (by omega) (by omega) (by omega) (by omega) (by omega) hE
    have hch : Hid (∀ j : Nat, j < F → ∃ x y, chA n d q F ((j : Nat) + 1) = (x, y, 0) ∧ okR x y = true ∧ x * 4294967296 / y = tabV n d F ((j : Nat) + 1)) := fun j hj => chance_ok hE (by omega) (by omega)
    have hvb0 : Hid (∀ j : Nat, j < F → 0 ≤ tabV n d F ((j : Nat) + 1) ∧ tabV n d F ((j : Nat) + 1) ≤ 4294967296) := fun j hj => tabV_bounds hE (by omega) (by omega)
    have hri : Hid (∀ m : Nat, m + 1 < F → tabV n d F ((m : Nat) + 1) ≤ tabV n d F ((m : Int) + 1 + 1)) := fun m hm => tab_rises hE (by omega) (by omega)
    have hla : Hid (tabV n d F F = 4294967296) := (tab_last hE).2
    have hc := hide (fun (k : Int) w => chance_any n d q F k w (by omega) (by omega) (by omega) (by omega) (by omega) (by omega) (by omega) (by omega))
    have hge : Hid (∀ i : Nat, i < F → (tabL n d F F)[i]? = some (tabV n d F ((i : Nat) + 1))) := fun i hi => tabL_get n d F F i hi
    clear hE h4
    simp only [cv] at h1 ⊢
    have h1 := hide h1
    clear wn n0 n1 wd d0 d1 wq q0 q1 wf f0 f1
    go_enter Try.func7, Try.ntmps7
    go_wp2_with fail
    refine (unhide h1 _).mono ?_
    rintro e w1 ⟨a0, c0, rfl, hZ1, b1⟩
    have Z1 := hide hZ1
    clear hZ1
    have T0n := hide ((unhide T0).up b1)
    have BBn := hide ((unhide BB).trans (b1.mono (unhide BB).size))
    clear b1 BB T0
    have T0 := T0n
    have BB := BBn
    clear BBn T0n
    have fT00 := (unhide T0).c0
    have fT01 := (unhide T0).c1
    have fT02 := (unhide T0).c2
    have fT03 := (unhide T0).c3
    obtain ⟨g, o, rfl, y1⟩ := unhide Z1 (F - 1) _ (unhide hge (F - 1) (by omega))
    rw [show (((F - 1 : Nat) : Int) + 1) = (F : Int) by omega, unhide hla] at y1
    obtain ⟨J, hJ⟩ : ∃ J : Nat, F - 1 = J := ⟨_, rfl⟩
    rw [hJ] at y1
    have hJI : (F : Int) - 1 = (J : Int) := by omega
    have hJl : (J : Int) < F := by omega
    clear hJ
    go_wp2_with fail
    clear fT00 fT01 fT02 fT03 y1 hJI hJl
    go_loopw [5] (fun v wr => ∃ i : Nat, i ≤ F ∧ v = .int .i64 i ∧ Four wr w.heap.size (.int .i64 n) (.int .i64 d) (.int .i64 q) (.int .i64 F) 25 ∧ ZAt wr (some ⟨g, o, none⟩) (tabL n d F F) ∧ Below w.heap.size w wr) (fun v _ => F - (intOf v).toNat)
    case atStart => exact ⟨0, by omega, rfl, unhide T0, unhide Z1, unhide BB⟩
    case round =>
      clear T0 Z1 BB
      obtain ⟨i, hi, rfl, t0, hz, hb⟩ := hrel
      have T0 := hide t0
      have Z1 := hide hz
      have BB := hide hb
      clear t0 hz hb
      by_cases hlt : i < F
      · have q1 : (i : Int) < F := by omega
        obtain ⟨g', o', eg, y1⟩ := unhide Z1 i _ (unhide hge i hlt)
        simp only [Option.some.injEq, Addr.mk.injEq, and_true] at eg
        obtain ⟨rfl, rfl⟩ := eg
        obtain ⟨x, y, e1, e2, e3⟩ := unhide hch i hlt
        have hcc := unhide hc ((i : Int) + 1)
        rw [e1] at hcc
        have hs := fun w => scale_any x y 4294967296 w (by have := okR_of e2; omega) (by have := okR_of e2; omega) (by have := okR_of e2; omega) (by have := okR_of e2; omega) (by omega) (by omega)
        rw [scA_good e2 (by omega) (by omega), e3] at hs
        have hvb := unhide hvb0 i hlt
        have hprev : Hid (∀ m : Nat, m + 1 = i → ∃ V', V' ≤ tabV n d F ((i : Nat) + 1) ∧ wr.cell? ⟨g, o + m, none⟩ = some (.int .i64 V')) := by
          intro m hm
          refine ⟨tabV n d F ((m : Nat) + 1), ?_, ?_⟩
          · have := unhide hri m (by omega)
            rwa [show ((m : Int) + 1 + 1) = ((i : Nat) : Int) + 1 by omega] at this
          · obtain ⟨g', o', eg, y2⟩ := unhide Z1 m _ (unhide hge m (by omega))
            simp only [Option.some.injEq, Addr.mk.injEq, and_true] at eg
            obtain ⟨rfl, rfl⟩ := eg
            exact y2
        obtain ⟨V, hVe⟩ : ∃ V, tabV n d F ((i : Nat) + 1) = V := ⟨_, rfl⟩
        have hVV := hide hVe
        rw [hVe] at y1 hs hvb hprev
        clear hVe
        simp only [rvE, rv, cv] at hcc hs
        have HC := hide hcc
        have HS := hide hs
        clear hcc hs e1 e2 e3
        have n1 : decide (V < 0) = false := decide_eq_false (by omega)
        rcases Nat.eq_zero_or_pos i with hi0 | hi0
        · have n2 : decide ((0 : Int) < (i : Int)) = false := decide_eq_false (by omega)
          have n2' : decide (0 < i) = false := decide_eq_false (by omega)
          clear hi0
          go_wp2
          go_quiet (fail)
          have fT00 := (unhide T0).c0
          have fT01 := (unhide T0).c1
          have fT02 := (unhide T0).c2
          have fT03 := (unhide T0).c3
          go_wp2_with fail
          clear fT00 fT01 fT02 fT03
          refine (unhide HC _).mono ?_
          rintro e w2 ⟨rfl, b2⟩
          have bd : Below wr.heap.size wr w2 := ⟨b2.os, b2.tape, b2.output, b2.size, b2.block⟩
          have T0n := hide (((unhide T0).up bd).alloc (.cells #[.int .i64 x, .int .i64 y] 23))
          have Z1n := hide (((unhide Z1).up bd).up ((Below.refl _ _).alloc (Nat.le_refl _) (.cells #[.int .i64 x, .int .i64 y] 23)))
          have BBn : Hid (Below w.heap.size w (w2.alloc (.cells #[.int .i64 x, .int .i64 y] 23))) := by
            have := (unhide BB).trans (bd.mono (unhide BB).size)
            exact this.alloc this.size _
          clear T0 Z1 BB b2 bd
          go_wp2_with fail
          refine (unhide HS _).mono ?_
          rintro e w3 ⟨rfl, b3⟩
          have T0 := hide ((unhide T0n).up b3)
          have Z1 := hide ((unhide Z1n).up b3)
          have BB := hide ((unhide BBn).trans (b3.mono (unhide BBn).size))
          clear T0n Z1n BBn b3
          obtain ⟨g', o', eg, y3⟩ := unhide Z1 i _ (unhide hge i hlt)
          simp only [Option.some.injEq, Addr.mk.injEq, and_true] at eg
          obtain ⟨rfl, rfl⟩ := eg
          rw [unhide hVV] at y3
          go_wp2
          go_roundw
          case rel => exact ⟨i + 1, by omega, by go_num, unhide T0, unhide Z1, unhide BB⟩
          case measure => simp [intOf]; omega
        · obtain ⟨m, hm⟩ : ∃ m, m + 1 = i := ⟨i - 1, by omega⟩
          obtain ⟨V', hV', y2⟩ := unhide hprev m hm
          have n2 : (0 : Int) < i := by omega
          have n3 : decide (V < V') = false := decide_eq_false (by omega)
          have hmI : (i : Int) - 1 = (m : Int) := by omega
          have hml : (m : Int) < F := by omega
          clear hm
          go_wp2
          go_quiet (fail)
          have fT00 := (unhide T0).c0
          have fT01 := (unhide T0).c1
          have fT02 := (unhide T0).c2
          have fT03 := (unhide T0).c3
          go_wp2_with fail
          clear fT00 fT01 fT02 fT03 y1 y2 hmI
          refine (unhide HC _).mono ?_
          rintro e w2 ⟨rfl, b2⟩
          have bd : Below wr.heap.size wr w2 := ⟨b2.os, b2.tape, b2.output, b2.size, b2.block⟩
          have T0n := hide (((unhide T0).up bd).alloc (.cells #[.int .i64 x, .int .i64 y] 23))
          have Z1n := hide (((unhide Z1).up bd).up ((Below.refl _ _).alloc (Nat.le_refl _) (.cells #[.int .i64 x, .int .i64 y] 23)))
          have BBn : Hid (Below w.heap.size w (w2.alloc (.cells #[.int .i64 x, .int .i64 y] 23))) := by
            have := (unhide BB).trans (bd.mono (unhide BB).size)
            exact this.alloc this.size _
          clear T0 Z1 BB b2 bd
          go_wp2_with fail
          refine (unhide HS _).mono ?_
          rintro e w3 ⟨rfl, b3⟩
          have T0 := hide ((unhide T0n).up b3)
          have Z1 := hide ((unhide Z1n).up b3)
          have BB := hide ((unhide BBn).trans (b3.mono (unhide BBn).size))
          clear T0n Z1n BBn b3
          obtain ⟨g', o', eg, y3⟩ := unhide Z1 i _ (unhide hge i hlt)
          simp only [Option.some.injEq, Addr.mk.injEq, and_true] at eg
          obtain ⟨rfl, rfl⟩ := eg
          rw [unhide hVV] at y3
          go_wp2
          go_roundw
          case rel => exact ⟨i + 1, by omega, by go_num, unhide T0, unhide Z1, unhide BB⟩
          case measure => simp [intOf]; omega
      · have hiF : i = F := by omega
        subst hiF
        have q1 : ¬ (i : Int) < i := by omega
        go_wp2_with fail
        refine (dgawake_any _).mono ?_
        rintro e w2 ⟨rfl, b2⟩
        have BBn := hide ((unhide BB).trans (b2.mono (unhide BB).size))
        clear b2
        go_wp2
        go_ret
        exact ⟨rfl, unhide BBn⟩

end Go.Proofs.Ytmaeebgphblilab

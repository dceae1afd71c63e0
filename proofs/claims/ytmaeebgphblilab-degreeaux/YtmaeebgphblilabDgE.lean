/- Contract of the document's Table. -/
import Derived.Test.YtmaeebgphblilabDgD
namespace Go.Proofs.Ytmaeebgphblilab
open Go.RowKit
set_option linter.unusedVariables false

theorem tab_last {n d q f : Int} (h : codeOk n d q f = true) : num n d f f = den n d f f ∧ tabV n d f f = 4294967296 := by
  obtain ⟨_, m1, m2, m3, _, _, m4, m5, m6⟩ := codeOk_of h
  obtain ⟨p1, p2, p3, r1, r2, hle⟩ := denOk m1 m2 m3 m4 m5 m6 (show 1 ≤ f by omega) (Int.le_refl f)
  have e : num n d f f = den n d f f := by unfold num; rw [Int.sub_self, Int.mul_zero]; omega
  refine ⟨e, ?_⟩
  unfold tabV
  rw [e, Int.mul_comm]
  exact Int.mul_ediv_cancel _ (by omega)
theorem num_lt {n d q f k : Int} (h : codeOk n d q f = true) (h1 : 1 ≤ k) (h2 : k < f) : 0 ≤ num n d f k ∧ num n d f k < den n d f k := by
  obtain ⟨_, m1, m2, m3, _, _, m4, m5, m6⟩ := codeOk_of h
  obtain ⟨p1, p2, p3, r1, r2, hle⟩ := denOk m1 m2 m3 m4 m5 m6 h1 (by omega)
  have : 0 < (f + 1) * d * (f - k) := Int.mul_pos r1.1 (by omega)
  unfold num
  omega
/-- one bit more -/
theorem bit_step {N D : Int} (hD : 0 < D) (b : Nat) : (2 * (N * 2 ^ b % D) < D → N * 2 ^ (b + 1) / D = 2 * (N * 2 ^ b / D) ∧ N * 2 ^ (b + 1) % D = 2 * (N * 2 ^ b % D)) ∧ (¬ 2 * (N * 2 ^ b % D) < D → N * 2 ^ (b + 1) / D = 2 * (N * 2 ^ b / D) + 1 ∧ N * 2 ^ (b + 1) % D = 2 * (N * 2 ^ b % D) - D) := by
  have e : N * 2 ^ (b + 1) = 2 * (N * 2 ^ b) := by rw [Int.pow_succ, Int.mul_comm (2 ^ b) 2, ← Int.mul_assoc, Int.mul_comm N 2, Int.mul_assoc]
  rw [e]
  generalize N * 2 ^ b = X
  have h1 := Int.mul_ediv_add_emod X D
  have h2 := Int.emod_nonneg X (b := D) (by omega)
  have h3 := Int.emod_lt_of_pos X hD
  generalize X / D = q at *
  generalize X % D = r at *
  constructor
  · intro h
    have hx : 2 * X = D * (2 * q) + 2 * r := by rw [← h1, Int.mul_left_comm, Int.mul_add]
    have hd : 2 * X / D = 2 * q := by rw [hx, Int.add_comm, Int.add_mul_ediv_left _ _ (by omega), Int.ediv_eq_zero_of_lt (by omega) h]; omega
    refine ⟨hd, ?_⟩
    have := Int.mul_ediv_add_emod (2 * X) D
    rw [hd] at this
    omega
  · intro h
    have hx : 2 * X = D * (2 * q + 1) + (2 * r - D) := by rw [← h1, Int.mul_add D (2 * q) 1, Int.mul_left_comm, Int.mul_add, Int.mul_one]; omega
    have hd : 2 * X / D = 2 * q + 1 := by rw [hx, Int.add_comm, Int.add_mul_ediv_left _ _ (by omega), Int.ediv_eq_zero_of_lt (by omega) (by omega)]; omega
    refine ⟨hd, ?_⟩
    have := Int.mul_ediv_add_emod (2 * X) D
    rw [hd] at this
    omega
theorem bit_bound {N D : Int} (h0 : 0 ≤ N) (h1 : N < D) (b : Nat) (hb : b ≤ 32) : 0 ≤ N * 2 ^ b / D ∧ N * 2 ^ b / D ≤ 4294967296 ∧ 0 ≤ N * 2 ^ b % D ∧ N * 2 ^ b % D < D := by
  have hp : (0 : Int) < 2 ^ b := Int.pow_pos (by omega)
  have hp2 : (2 : Int) ^ b ≤ 4294967296 := by
    have h1 : 2 ^ b ≤ 2 ^ 32 := Nat.pow_le_pow_right (by omega) hb
    have h2 : ((2 ^ b : Nat) : Int) ≤ ((2 ^ 32 : Nat) : Int) := Int.ofNat_le.2 h1
    rw [Int.natCast_pow, Int.natCast_pow] at h2
    exact h2
  refine ⟨Int.ediv_nonneg (Int.mul_nonneg h0 (by omega)) (by omega), ?_, Int.emod_nonneg _ (by omega), Int.emod_lt_of_pos _ (by omega)⟩
  refine Int.ediv_le_of_le_mul (by omega) ?_
  have a1 : N * 2 ^ b ≤ D * 2 ^ b := Int.mul_le_mul_of_nonneg_right (by omega) (by omega)
  have a2 : D * 2 ^ b ≤ D * 4294967296 := Int.mul_le_mul_of_nonneg_left hp2 (by omega)
  omega

set_option maxRecDepth 100000 in
set_option maxHeartbeats 1000000 in
theorem rtable_bad (n d q f : Int) (w : World) (hn0 : -9223372036854775808 ≤ n) (hn1 : n ≤ 9223372036854775807) (hd0 : -9223372036854775808 ≤ d) (hd1 : d ≤ 9223372036854775807) (hq0 : -9223372036854775808 ≤ q) (hq1 : q ≤ 9223372036854775807) (hf0 : -9223372036854775808 ≤ f) (hf1 : f ≤ 9223372036854775807) (hE : codeOk n d q f = false) : Calls Try.prog 10 #[cv n d q f] w fun e w' => e = .returned (.tuple #[.slice none 0 0, .int .i64 1]) ∧ Below w.heap.size w w' := by
  have B0 : Hid (Below w.heap.size w (w.alloc (.cells #[.int .i64 n, .int .i64 d, .int .i64 q, .int .i64 f] 34))) := (Below.refl _ _).alloc (Nat.le_refl _) _
  have h1 := hide (fun w => rdcheck_any n d q f w hn0 hn1 hd0 hd1 hq0 hq1 hf0 hf1)
  rw [hE] at h1
  clear hE
  unfold cv at *
  go_enter Try.func10, Try.ntmps10
  go_wp2_with fail
  refine (unhide h1 _).mono ?_
  rintro e w1 ⟨rfl, b1⟩
  have B1 := hide ((unhide B0).trans (b1.mono (unhide B0).size))
  clear b1
  go_wp2
  go_ret2
  exact ⟨rfl, unhide B1⟩

set_option maxRecDepth 100000 in
set_option maxHeartbeats 4000000 in
theorem rtable_any (n d q : Int) (F : Nat) (w : World) (hn0 : -9223372036854775808 ≤ n) (hn1 : n ≤ 9223372036854775807) (hd0 : -9223372036854775808 ≤ d) (hd1 : d ≤ 9223372036854775807) (hq0 : -9223372036854775808 ≤ q) (hq1 : q ≤ 9223372036854775807) (hf0 : -9223372036854775808 ≤ (F : Int)) (hf1 : (F : Int) ≤ 9223372036854775807) (hE : codeOk n d q F = true) : Calls Try.prog 10 #[cv n d q F] w fun e w' => ∃ a0 cap, e = .returned (.tuple #[.slice a0 F cap, .int .i64 0]) ∧ ZAt w' a0 (tabL n d F F) ∧ Below w.heap.size w w' := by
  obtain ⟨i0, hi0, hz0, hz1, hz2⟩ := info_parts Try.infoI
  obtain ⟨_, m1, m2, m3, _, _, m4, m5, m6⟩ := codeOk_of hE
  have h1 := fun w => rdcheck_any n d q F w hn0 hn1 hd0 hd1 hq0 hq1 hf0 hf1
  rw [hE] at h1
  have hnm : Hid (∀ j : Nat, j < F → ∀ w, Calls Try.prog 24 #[cv n d q F, .int .i64 ((j : Int) + 1)] w fun e w' => e = .returned (.int .i64 (num n d F ((j : Int) + 1))) ∧ Below w.heap.size w w') := fun j hj w => num_any n d q F _ w m1 m2 m3 m4 m5 (by omega) (by omega) (denOk m1 m2 m3 m4 m5 m6 (by omega) (by omega))
  have hdn : Hid (∀ j : Nat, j < F → ∀ w, Calls Try.prog 25 #[cv n d q F, .int .i64 ((j : Int) + 1)] w fun e w' => e = .returned (.int .i64 (den n d F ((j : Int) + 1))) ∧ Below w.heap.size w w') := fun j hj w => den_any n d q F _ w m1 m2 m3 m4 m5 (by omega) (by omega) (denOk m1 m2 m3 m4 m5 m6 (by omega) (by omega))
  have hbd : Hid (∀ j : Nat, j < F → 0 < den n d F ((j : Int) + 1) ∧ den n d F ((j : Int) + 1) ≤ 516096000) := fun j hj => (denOk m1 m2 m3 m4 m5 m6 (show 1 ≤ (j : Int) + 1 by omega) (by omega)).p3
  have hlast : Hid (∀ j : Nat, j + 1 = F → num n d F ((j : Int) + 1) = den n d F ((j : Int) + 1) ∧ tabV n d F ((j : Int) + 1) = 4294967296) := by
    intro j hj
    have := tab_last hE
    rwa [show ((F : Nat) : Int) = (j : Int) + 1 by omega] at this ⊢
  have hless : Hid (∀ j : Nat, j + 1 < F → 0 ≤ num n d F ((j : Int) + 1) ∧ num n d F ((j : Int) + 1) < den n d F ((j : Int) + 1)) := fun j hj => num_lt hE (by omega) (by omega)
  obtain ⟨W0, eW⟩ : ∃ W0, W0 = w.alloc (.cells #[.int .i64 n, .int .i64 d, .int .i64 q, .int .i64 F] 34) := ⟨_, rfl⟩
  have T00 : Hid (Four W0 w.heap.size (.int .i64 n) (.int .i64 d) (.int .i64 q) (.int .i64 F) 34) := by rw [eW]; exact four_alloc _ _ _ _ _ _
  have hW0 : Hid (w.heap.size < W0.heap.size) := (unhide T00).lt
  have BB0 : Hid (Below w.heap.size w W0) := by rw [eW]; exact (Below.refl _ _).alloc (Nat.le_refl _) _
  have EW := hide eW
  have H1 := hide h1
  have hF2 : 2 ≤ F ∧ F ≤ 64 := by omega
  clear hE m1 m2 m3 m4 m5 m6 h1 eW
  unfold cv at *
  go_enter Try.func10, Try.ntmps10
  go_wp2_with fail
  rw [← unhide EW]
  refine (unhide H1 _).mono ?_
  rintro e w1 ⟨rfl, b1⟩
  have T1 := hide ((unhide T00).up b1)
  have B1 := hide b1
  clear b1
  go_wp2_with fail
  go_loopw [4, 5] (fun lv kv wr => ∃ j : Nat, j ≤ F ∧ kv = .int .i64 ((j : Int) + 1) ∧ Four wr w.heap.size (.int .i64 n) (.int .i64 d) (.int .i64 q) (.int .i64 F) 34 ∧ wr.ownsRow W0.heap.size 3 1 lv j (zc (tabL n d F j)) ∧ Below W0.heap.size W0 wr) (fun _ kv _ => F + 1 - (intOf kv).toNat)
  case atStart => exact ⟨0, by omega, rfl, unhide T1, World.ownsRow_nil _ _ _ _, unhide B1⟩
  case round =>
    clear T1 B1
    obtain ⟨j, hj, rfl, t0, hown, hb⟩ := hrel
    obtain ⟨a4, c4, rfl⟩ := own_form hown
    have f0 := t0.c0
    have f1 := t0.c1
    have f2 := t0.c2
    have f3 := t0.c3
    have T0 := hide t0
    have HO := hide hown
    have HB := hide hb
    clear t0 hown hb
    by_cases hlt : j < F
    · have q1 : (j : Int) + 1 ≤ F := by omega
      have hN := hide (unhide hnm j hlt)
      have hD := hide (unhide hdn j hlt)
      have hDb := unhide hbd j hlt
      have hts : Hid (tabL n d F (j + 1) = tabL n d F j ++ [tabV n d F ((j : Int) + 1)]) := tabL_succ n d F j
      go_wp2_with fail
      clear f0 f1 f2 f3
      refine (unhide hN _).mono ?_
      rintro e w2 ⟨rfl, b2⟩
      have T0n := hide ((unhide T0).up b2)
      have HOn := hide (own_under (unhide HO) b2)
      have HBn := hide ((unhide HB).trans (b2.mono (unhide HB).size))
      clear T0 HO HB b2
      have T0 := T0n
      have HO := HOn
      have HB := HBn
      clear T0n HOn HBn
      have f0 := (unhide T0).c0
      have f1 := (unhide T0).c1
      have f2 := (unhide T0).c2
      have f3 := (unhide T0).c3
      go_wp2_with fail
      clear f0 f1 f2 f3
      refine (unhide hD _).mono ?_
      rintro e w3 ⟨rfl, b3⟩
      have T0n := hide ((unhide T0).up b3)
      have HOn := hide (own_under (unhide HO) b3)
      have HBn := hide ((unhide HB).trans (b3.mono (unhide HB).size))
      clear T0 HO HB b3
      have T0 := T0n
      have HO := HOn
      have HB := HBn
      clear T0n HOn HBn
      have hz3 := (unhide HB).size
      by_cases hl : j + 1 = F
      · obtain ⟨g1, g2⟩ := unhide hlast j hl
        rw [g2] at hts
        rw [g1]
        generalize den n d F ((j : Int) + 1) = D at *
        clear g1 g2 hN hD hl
        go_wp2_with (at_builtin; refine wpList_append_own _ rfl _ _ 26 rfl W0.heap.size 3 i0 (.int .i64 0) 1 8 Try.undI hi0 hz0 hz1 hz2 rfl (by decide) _ _ _ rfl ((unhide HO).alloc _) ⟨w3.heap.size, 0, none⟩ 1 1 [.int .i64 4294967296] rfl rfl ?cp1 ?cp2 ?cp3 ?cp4 ?cp5 ?_)
        case cp1 => exact cell_one_new _ _ _
        case cp2 => first | rfl | (intro u hu; simp at hu; subst hu; rfl)
        case cp3 => unfold maxLen; omega
        case cp4 => omega
        case cp5 => first | omega | (simp; omega)
        intro v' w6 hown' hgrow _
        have HB6 := hide (((unhide HB).alloc hz3 _).grown hgrow (by simp; omega) (fun k hk => ((unhide HO).lt k hk).1))
        have HO6 : Hid (w6.ownsRow W0.heap.size 3 1 v' (j + 1) (zc (tabL n d F (j + 1)))) := by
          show World.ownsRow _ _ _ _ _ _ _
          rw [unhide hts, zc_append]
          exact hown'
        obtain ⟨ao', cp', rfl⟩ := own_form hown'
        have T6 : Hid (Four w6 w.heap.size (.int .i64 n) (.int .i64 d) (.int .i64 q) (.int .i64 F) 34) := ((unhide HB6).block _ (unhide hW0)).trans (unhide T00)
        clear hown' hgrow T0 HO HB hts hz3
        obtain ⟨J, hJ⟩ : ∃ J, J = j + 1 := ⟨_, rfl⟩
        rw [← hJ] at HO6 ⊢
        have hJI : (j : Int) + 1 + 1 = (J : Int) + 1 := by omega
        have HJ := hide hJ
        clear hJ
        go_wp2
        go_roundw
        case rel => exact ⟨J, by have := unhide HJ; omega, by first | rfl | (rw [hJI]) | go_num, unhide T6, unhide HO6, unhide HB6⟩
        case measure => have := unhide HJ; simp [intOf]; omega
      · obtain ⟨g1, g2⟩ := unhide hless j (by omega)
        have hV : tabV n d F ((j : Int) + 1) = num n d F ((j : Int) + 1) * 2 ^ 32 / den n d F ((j : Int) + 1) := rfl
        rw [hV] at hts
        clear hV hN hD
        generalize den n d F ((j : Int) + 1) = D at *
        generalize num n d F ((j : Int) + 1) = N at *
        have g3 : ¬ N = D := by omega
        go_wp2_with fail
        clear g3
        go_loopw [6, 7, 9] (fun tv rv bv wi => w3 = wi ∧ ∃ b : Nat, b ≤ 32 ∧ tv = .int .i64 (N * 2 ^ b / D) ∧ rv = .int .i64 (N * 2 ^ b % D) ∧ bv = .int .i64 b) (fun _ _ bv _ => 32 - (intOf bv).toNat)
        case atStart => exact ⟨rfl, 0, by omega, by rw [Int.pow_zero, Int.mul_one, Int.ediv_eq_zero_of_lt g1 g2], by rw [Int.pow_zero, Int.mul_one, Int.emod_eq_of_lt g1 g2], rfl⟩
        case round =>
          obtain ⟨rfl, b, hb32, rfl, rfl, rfl⟩ := hrel
          obtain ⟨s1, s2, s3, s4⟩ := bit_bound g1 g2 b hb32
          by_cases hbl : b < 32
          · obtain ⟨x1, x2⟩ := bit_step (N := N) (D := D) (by omega) b
            have S1 := hide x1
            have S2 := hide x2
            clear x1 x2
            generalize N * 2 ^ b / D = tq at *
            generalize N * 2 ^ b % D = tr at *
            have q3 : (b : Int) < 32 := by omega
            by_cases hge : 2 * tr < D
            · have hge' : ¬ D ≤ 2 * tr := by omega
              go_wp2
              go_roundw
              case rel => exact ⟨trivial, b + 1, by omega, by rw [(unhide S1 hge).1], by rw [(unhide S1 hge).2], by go_num⟩
              case measure => simp [intOf]; omega
            · have hge' : D ≤ 2 * tr := by omega
              go_wp2
              go_roundw
              case rel => exact ⟨trivial, b + 1, by omega, by rw [(unhide S2 hge).1], by rw [(unhide S2 hge).2], by go_num⟩
              case measure => simp [intOf]; omega
          · have hb' : b = 32 := by omega
            subst hb'
            generalize N * 2 ^ 32 / D = V at *
            generalize N * 2 ^ 32 % D = tr at *
            have q3 : ¬ ((32 : Nat) : Int) < 32 := by omega
            go_wp2_with (at_builtin; refine wpList_append_own _ rfl _ _ 26 rfl W0.heap.size 3 i0 (.int .i64 0) 1 8 Try.undI hi0 hz0 hz1 hz2 rfl (by decide) _ _ _ rfl ((unhide HO).alloc _) ⟨w3.heap.size, 0, none⟩ 1 1 [.int .i64 V] rfl rfl ?cq1 ?cq2 ?cq3 ?cq4 ?cq5 ?_)
            case cq2 => first | rfl | (intro u hu; simp at hu; subst hu; rfl)
            case cq3 => unfold maxLen; omega
            case cq4 => omega
            case cq5 => first | omega | (simp; omega)
            intro v' w6 hown' hgrow _
            have HB6 := hide (((unhide HB).alloc hz3 _).grown hgrow (by simp; omega) (fun k hk => ((unhide HO).lt k hk).1))
            have HO6 : Hid (w6.ownsRow W0.heap.size 3 1 v' (j + 1) (zc (tabL n d F (j + 1)))) := by
              show World.ownsRow _ _ _ _ _ _ _
              rw [unhide hts, zc_append]
              exact hown'
            obtain ⟨ao', cp', rfl⟩ := own_form hown'
            have T6 : Hid (Four w6 w.heap.size (.int .i64 n) (.int .i64 d) (.int .i64 q) (.int .i64 F) 34) := ((unhide HB6).block _ (unhide hW0)).trans (unhide T00)
            clear hown' hgrow T0 HO HB hts hz3
            obtain ⟨J, hJ⟩ : ∃ J, J = j + 1 := ⟨_, rfl⟩
            rw [← hJ] at HO6 ⊢
            have hJI : (j : Int) + 1 + 1 = (J : Int) + 1 := by omega
            have HJ := hide hJ
            clear hJ
            go_wp2
            go_roundw
            case rel => exact ⟨J, by have := unhide HJ; omega, by first | rfl | (rw [hJI]) | go_num, unhide T6, unhide HO6, unhide HB6⟩
            case measure => have := unhide HJ; simp [intOf]; omega
    · have hjF : j = F := by omega
      subst hjF
      have q1 : ¬ (j : Int) + 1 ≤ j := by omega
      go_wp2
      go_ret2
      exact ⟨a4, ⟨c4, rfl⟩, own_z (unhide HO), (unhide BB0).trans ((unhide HB).mono (unhide BB0).size)⟩

end Go.Proofs.Ytmaeebgphblilab

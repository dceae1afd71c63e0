/- A code's table: its mathematics, and the contract of degree's Table. -/
import Derived.Test.YtmaeebgphblilabDgC
import Derived.ScopeJumps
import Derived.WalkMore
import Derived.OwnWalk
namespace Go.Proofs.Ytmaeebgphblilab
open Go.RowKit
set_option linter.unusedVariables false

theorem scA_good {a b k : Int} (h : okR a b = true) (h0 : 0 ≤ k) (h1 : k ≤ 4294967296) : scA a b k = (a * k / b, 0) := by
  unfold scA scOk
  rw [h, decide_eq_true ⟨h0, h1⟩]
  rfl
/-- the table's number for at most k -/
def tabV (n d f k : Int) : Int := num n d f k * 4294967296 / den n d f k
theorem lo_coprime (n d : Int) (hd : d ≠ 0) : Nat.gcd (loQ n d).natAbs (loR n d).natAbs = 1 := by
  unfold loQ loR
  rw [Int.natAbs_tdiv, Int.natAbs_tdiv, Int.natAbs_natCast]
  exact Nat.gcd_div_gcd_div_gcd_of_pos_right (by omega)
theorem loA_small {n d : Int} (h0 : 0 ≤ n) (h1 : n ≤ d) (h2 : 0 < d) (h3 : d ≤ 2147483647) : ∃ x y, loA n d = (x, y, 0) := by
  have hg := gcd_pos_of (n := n) (d := d) (by omega)
  have b1 := tdiv_bound n _ hg 2147483647 (by omega) (by omega)
  have b2 := tdiv_bound d _ hg 2147483647 (by omega) (by omega)
  have hN : loN n d = loQ n d := by unfold loN; rw [if_neg (by omega)]
  have hD : loD n d = loR n d := by unfold loD; rw [if_neg (by omega)]
  have hok : okR (loN n d) (loD n d) = true := by
    rw [hN, hD]
    exact okR_mk ⟨b1.1, b1.2, loR_pos n d h2, b2.2, lo_coprime n d (by omega)⟩
  refine ⟨loN n d, loD n d, ?_⟩
  unfold loA
  rw [if_pos hok]
theorem same_floor {x y n d K : Int} (hy : 0 < y) (hd : 0 < d) (h : x * d = n * y) : x * K / y = n * K / d := by
  have e1 : x * K * d / (y * d) = x * K / y := Int.mul_ediv_mul_of_pos_left _ _ hd
  have e2 : n * K * y / (d * y) = n * K / d := Int.mul_ediv_mul_of_pos_left _ _ hy
  rw [← e1, ← e2, Int.mul_comm y d]
  congr 1
  rw [Int.mul_assoc, Int.mul_comm K d, ← Int.mul_assoc, h, Int.mul_assoc, Int.mul_comm y K, ← Int.mul_assoc]
/-- what a code's chances are -/
theorem chance_ok {n d q f k : Int} (h : codeOk n d q f = true) (h1 : 1 ≤ k) (h2 : k ≤ f) : ∃ x y, chA n d q f k = (x, y, 0) ∧ okR x y = true ∧ x * 4294967296 / y = tabV n d f k := by
  obtain ⟨_, m1, m2, m3, _, _, m4, m5, m6⟩ := codeOk_of h
  obtain ⟨p1, p2, p3, r1, r2, hle⟩ := denOk m1 m2 m3 m4 m5 m6 h1 h2
  have hn0 : 0 ≤ num n d f k ∧ num n d f k ≤ den n d f k := by unfold num; omega
  obtain ⟨x, y, hxy⟩ := loA_small hn0.1 hn0.2 p3.1 (by omega)
  obtain ⟨hok, hcr⟩ := loA_ok (by omega) hxy
  refine ⟨x, y, ?_, hok, ?_⟩
  · rw [chA_good h ⟨h1, h2⟩]
    unfold ofA
    rw [if_neg (by omega), hxy]
  · exact same_floor (okR_of hok).2.2.1 p3.1 hcr
theorem tabV_bounds {n d q f k : Int} (h : codeOk n d q f = true) (h1 : 1 ≤ k) (h2 : k ≤ f) : 0 ≤ tabV n d f k ∧ tabV n d f k ≤ 4294967296 := by
  obtain ⟨_, m1, m2, m3, _, _, m4, m5, m6⟩ := codeOk_of h
  obtain ⟨p1, p2, p3, r1, r2, hle⟩ := denOk m1 m2 m3 m4 m5 m6 h1 h2
  have hn0 : 0 ≤ num n d f k ∧ num n d f k ≤ den n d f k := by unfold num; omega
  unfold tabV
  refine ⟨Int.ediv_nonneg (Int.mul_nonneg hn0.1 (by omega)) (by omega), ?_⟩
  have : num n d f k * 4294967296 ≤ 4294967296 * den n d f k := by omega
  exact Int.ediv_le_of_le_mul p3.1 this

/-- numbers as cells -/
def zc (l : List Int) : List Value := l.map fun z => Value.int .i64 z
theorem zc_append (l m : List Int) : zc (l ++ m) = zc l ++ zc m := by simp [zc]
theorem zc_length (l : List Int) : (zc l).length = l.length := by simp [zc]
/-- the first j of the table -/
def tabL (n d f : Int) (j : Nat) : List Int := (List.range j).map fun (i : Nat) => tabV n d f ((i : Int) + 1)
theorem tabL_succ (n d f : Int) (j : Nat) : tabL n d f (j + 1) = tabL n d f j ++ [tabV n d f ((j : Int) + 1)] := by simp [tabL, List.range_succ]
theorem tabL_length (n d f : Int) (j : Nat) : (tabL n d f j).length = j := by simp [tabL]
theorem tabL_get (n d f : Int) (j i : Nat) (h : i < j) : (tabL n d f j)[i]? = some (tabV n d f ((i : Int) + 1)) := by simp [tabL, h]

theorem own_form {w : World} {base n : Nat} {e : TypeId} {v : Value} {xs : List Value} (hown : w.ownsRow base e 1 v n xs) : ∃ ao cap, v = .slice ao n cap := by
  rcases hown.2 with ⟨rfl, h0⟩ | ⟨g, cap, cur, rfl, _⟩
  · exact ⟨none, 0, by rw [h0]⟩
  · exact ⟨_, cap, rfl⟩
theorem own_under {w w' : World} {base n : Nat} {e : TypeId} {v : Value} {xs : List Value} (h : w.ownsRow base e 1 v n xs) (hb : Below w.heap.size w w') : w'.ownsRow base e 1 v n xs := by
  refine ⟨h.1, ?_⟩
  rcases h.2 with h2 | ⟨g, cap, cur, hv, hg, hh, r⟩
  · exact .inl h2
  · exact .inr ⟨g, cap, cur, hv, hg, (hb.block g (at_lt hh)).trans hh, r⟩
/-- numbers in a row -/
def ZAt (w : World) (a0 : Option Addr) (l : List Int) : Prop := ∀ (i : Nat) (z : Int), l[i]? = some z → ∃ g o, a0 = some ⟨g, o, none⟩ ∧ w.cell? ⟨g, o + i, none⟩ = some (.int .i64 z)
theorem ZAt.up {w w' : World} {a0 : Option Addr} {l : List Int} (h : ZAt w a0 l) (hb : Below w.heap.size w w') : ZAt w' a0 l := by
  intro i z hi
  obtain ⟨g, o, e, hc⟩ := h i z hi
  refine ⟨g, o, e, ?_⟩
  have := gb_cell hc ⟨w', hb⟩
  exact this
theorem own_z {w : World} {base n cap : Nat} {e : TypeId} {a0 : Option Addr} {l : List Int} (h : w.ownsRow base e 1 (.slice a0 n cap) n (zc l)) : ZAt w a0 l := by
  intro i z hi
  have hl := h.1
  rw [zc_length] at hl
  have hil : i < l.length := (List.getElem?_eq_some_iff.1 hi).1
  rcases h.2 with ⟨hv, h0⟩ | ⟨g, cap', cur, hv, _⟩
  · omega
  · simp only [Value.slice.injEq] at hv
    obtain ⟨rfl, _, rfl⟩ := hv
    refine ⟨g, 0, rfl, ?_⟩
    have := h.cells rfl i (.int .i64 z) (by simp [zc, hi])
    rw [Addr.add_mid] at this
    exact this
theorem Try.infoI : (Try.prog.info? 3).map (fun i => (i.zero, i.size, i.bytes)) = some (some (.int .i64 0), 1, 8) := by kernel_rfl
theorem Try.undI : Try.prog.underlying 26 = some (.slice 3) := by kernel_rfl
def lenV : Value → Nat
  | .slice _ n _ => n
  | _ => 0

set_option maxRecDepth 100000 in
set_option maxHeartbeats 1000000 in
theorem table_bad (n d q f : Int) (w : World) (hn0 : -9223372036854775808 ≤ n) (hn1 : n ≤ 9223372036854775807) (hd0 : -9223372036854775808 ≤ d) (hd1 : d ≤ 9223372036854775807) (hq0 : -9223372036854775808 ≤ q) (hq1 : q ≤ 9223372036854775807) (hf0 : -9223372036854775808 ≤ f) (hf1 : f ≤ 9223372036854775807) (hE : codeOk n d q f = false) : Calls Try.prog 9 #[cv n d q f] w fun e w' => e = .returned (.tuple #[.slice none 0 0, .int .i64 1]) ∧ Below w.heap.size w w' := by
  have B0 : Hid (Below w.heap.size w (w.alloc (.cells #[.int .i64 n, .int .i64 d, .int .i64 q, .int .i64 f] 25))) := (Below.refl _ _).alloc (Nat.le_refl _) _
  have h1 := hide (fun w => dcheck_any n d q f w hn0 hn1 hd0 hd1 hq0 hq1 hf0 hf1)
  rw [hE] at h1
  clear hE
  unfold cv at *
  go_enter Try.func9, Try.ntmps9
  go_wp2
  go_step3
  go_wp2_with fail
  refine (unhide h1 _).mono ?_
  rintro e w1 ⟨rfl, b1⟩
  have B1 := hide ((unhide B0).trans (b1.mono (unhide B0).size))
  clear b1
  go_wp2
  rw [Exit.noGoto_ret]
  go_ret2
  exact ⟨rfl, unhide B1⟩

set_option maxRecDepth 100000 in
set_option maxHeartbeats 4000000 in
theorem table_any (n d q : Int) (F : Nat) (w : World) (hn0 : -9223372036854775808 ≤ n) (hn1 : n ≤ 9223372036854775807) (hd0 : -9223372036854775808 ≤ d) (hd1 : d ≤ 9223372036854775807) (hq0 : -9223372036854775808 ≤ q) (hq1 : q ≤ 9223372036854775807) (hf0 : -9223372036854775808 ≤ (F : Int)) (hf1 : (F : Int) ≤ 9223372036854775807) (hE : codeOk n d q F = true) : Calls Try.prog 9 #[cv n d q F] w fun e w' => ∃ a0 cap, e = .returned (.tuple #[.slice a0 F cap, .int .i64 0]) ∧ ZAt w' a0 (tabL n d F F) ∧ Below w.heap.size w w' := by
  obtain ⟨i0, hi0, hz0, hz1, hz2⟩ := info_parts Try.infoI
  obtain ⟨_, m1, m2, m3, _, _, m4, m5, m6⟩ := codeOk_of hE
  have h1 := fun w => dcheck_any n d q F w hn0 hn1 hd0 hd1 hq0 hq1 hf0 hf1
  rw [hE] at h1
  have hch : Hid (∀ j : Nat, j < F → ∃ x y, chA n d q F ((j : Nat) + 1) = (x, y, 0) ∧ okR x y = true ∧ x * 4294967296 / y = tabV n d F ((j : Nat) + 1)) := fun j hj => chance_ok hE (by omega) (by omega)
  have hvb0 : Hid (∀ j : Nat, j < F → 0 ≤ tabV n d F ((j : Nat) + 1) ∧ tabV n d F ((j : Nat) + 1) ≤ 4294967296) := fun j hj => tabV_bounds hE (by omega) (by omega)
  obtain ⟨W0, eW⟩ : ∃ W0, W0 = w.alloc (.cells #[.int .i64 n, .int .i64 d, .int .i64 q, .int .i64 F] 25) := ⟨_, rfl⟩
  have T00 : Hid (Four W0 w.heap.size (.int .i64 n) (.int .i64 d) (.int .i64 q) (.int .i64 F) 25) := by rw [eW]; exact four_alloc _ _ _ _ _ _
  have hW0 : Hid (w.heap.size < W0.heap.size) := (unhide T00).lt
  have BB0 : Hid (Below w.heap.size w W0) := by rw [eW]; exact (Below.refl _ _).alloc (Nat.le_refl _) _
  have EW := hide eW
  have H1 := hide h1
  clear hE m1 m2 m3 m6 h1 eW
  have hF2 : 2 ≤ F ∧ F ≤ 64 := by omega
  clear m4 m5
  unfold cv at *
  go_enter Try.func9, Try.ntmps9
  go_wp2
  refine wp_scope_jumps 0 (fun a' w' => ∃ (j : Nat) (a4 : Option Addr) (c4 : Nat) (u5 u6 u7 u8 u9 u10 u11 u12 u13 u14 u15 u16 u17 u18 u19 u20 u21 u22 u23 u24 u25 u26 u27 u28 u29 u30 u31 u32 u33 u34 : Value), a' = { tmps := #[.agg #[.int .i64 n, .int .i64 d, .int .i64 q, .int .i64 F], .pointer (some ⟨w.heap.size, 0, none⟩), .slice none 0 0, .int .i64 0, .slice a4 j c4, u5, u6, u7, u8, u9, u10, u11, u12, u13, u14, u15, u16, u17, u18, u19, u20, u21, u22, u23, u24, u25, u26, u27, u28, u29, u30, u31, u32, u33, u34], defers := [] } ∧ 1 ≤ j ∧ j < F ∧ Four w' w.heap.size (.int .i64 n) (.int .i64 d) (.int .i64 q) (.int .i64 F) 25 ∧ w'.ownsRow W0.heap.size 3 1 (.slice a4 j c4) j (zc (tabL n d F j)) ∧ Below W0.heap.size W0 w') (fun a' _ => F - lenV (a'.tmps.getD 4 undef)) rfl ?_ ?_
  · go_wp2_with fail
    rw [← unhide EW]
    refine (unhide H1 _).mono ?_
    rintro e w1 ⟨rfl, b1⟩
    have T0 := hide ((unhide T00).up b1)
    have HO : Hid (w1.ownsRow W0.heap.size 3 1 (.slice none 0 0) 0 (zc (tabL n d F 0))) := by show World.ownsRow _ _ _ _ _ _ _; exact World.ownsRow_nil _ _ _ _
    have HB := hide b1
    clear b1
    obtain ⟨x, y, e1, e2, e3⟩ := unhide hch 0 (by omega)
    have hc := fun w => chance_any n d q F (1) w hn0 hn1 hd0 hd1 hq0 hq1 hf0 hf1
    have hs := fun w => scale_any x y 4294967296 w (by have := okR_of e2; omega) (by have := okR_of e2; omega) (by have := okR_of e2; omega) (by have := okR_of e2; omega) (by omega) (by omega)
    rw [scA_good e2 (by omega) (by omega), e3] at hs
    have e1 : chA n d q F 1 = (x, y, 0) := e1
    rw [e1] at hc
    have hvb := unhide hvb0 0 (by omega)
    have hts : Hid (tabL n d F (0 + 1) = tabL n d F 0 ++ [tabV n d F ((0 : Nat) + 1)]) := tabL_succ n d F 0
    generalize tabV n d F ((0 : Nat) + 1) = V at *
    simp only [rvE, rv, cv] at hc hs
    have HC := hide hc
    have HS := hide hs
    clear hc hs e1 e2 e3
    have f0 := (unhide T0).c0
    have f1 := (unhide T0).c1
    have f2 := (unhide T0).c2
    have f3 := (unhide T0).c3
    go_wp2
    go_step3
    go_wp2_with fail
    clear f0 f1 f2 f3
    refine (unhide HC _).mono ?_
    rintro e w2 ⟨rfl, b2⟩
    have T0n := hide (((unhide T0).up b2).alloc (.cells #[.int .i64 x, .int .i64 y] 23))
    have HOn := hide ((own_under (unhide HO) b2).alloc (.cells #[.int .i64 x, .int .i64 y] 23))
    have HBn : Hid (Below W0.heap.size W0 (w2.alloc (.cells #[.int .i64 x, .int .i64 y] 23))) := by
      have := (unhide HB).trans (b2.mono (unhide HB).size)
      exact this.alloc this.size _
    clear T0 HO HB b2
    have T0 := T0n
    have HO := HOn
    have HB := HBn
    clear T0n HOn HBn
    go_wp2_with fail
    refine (unhide HS _).mono ?_
    rintro e w3 ⟨rfl, b3⟩
    have T0n := hide ((unhide T0).up b3)
    have HOn := hide (own_under (unhide HO) b3)
    have HBn := hide ((unhide HB).trans (b3.mono (unhide HB).size))
    clear T0 HO HB b3
    have T0 := T0n
    have HO := HOn
    have HB := HBn
    clear T0n HOn HBn
    have hz3 := (unhide HB).size
    go_wp2_with (at_builtin; refine wpList_append_own _ rfl _ _ 26 rfl W0.heap.size 3 i0 (.int .i64 0) 1 8 Try.undI hi0 hz0 hz1 hz2 rfl (by decide) _ _ _ rfl ((unhide HO).alloc _) ⟨w3.heap.size, 0, none⟩ 1 1 [.int .i64 V] rfl rfl ?c1 ?c2 ?c3 ?c4 ?c5 ?_)
    case c1 => exact cell_one_new _ _ _
    case c2 => intro u hu; simp at hu; subst hu; rfl
    case c3 => unfold maxLen; omega
    case c4 => omega
    case c5 => simp; omega
    intro v' w6 hown' hgrow _
    have HB6 := hide (((unhide HB).alloc hz3 _).grown hgrow (by simp; omega) (fun k hk => ((unhide HO).lt k hk).1))
    have HO6 : Hid (w6.ownsRow W0.heap.size 3 1 v' (0 + 1) (zc (tabL n d F (0 + 1)))) := by
      show World.ownsRow _ _ _ _ _ _ _
      rw [unhide hts, zc_append]
      exact hown'
    obtain ⟨ao', cp', rfl⟩ := own_form hown'
    have t6 : Four w6 w.heap.size (.int .i64 n) (.int .i64 d) (.int .i64 q) (.int .i64 F) 25 := ((unhide HB6).block _ (unhide hW0)).trans (unhide T00)
    have f0 := t6.c0
    have f1 := t6.c1
    have f2 := t6.c2
    have f3 := t6.c3
    have T6 := hide t6
    clear hown' hgrow T0 HO HB t6 hts hz3
    have hq2 : (1 : Int) < F := by omega
    go_wp2
    go_step3
    refine ⟨rfl, 1, ao', cp', _, _, _, _, _, _, _, _, _, _, _, _, _, _, _, _, _, _, _, _, _, _, _, _, _, _, _, _, _, _, rfl, by omega, by omega, unhide T6, unhide HO6, unhide HB6⟩
  · rintro a' wr ⟨j, a4, c4, u5, u6, u7, u8, u9, u10, u11, u12, u13, u14, u15, u16, u17, u18, u19, u20, u21, u22, u23, u24, u25, u26, u27, u28, u29, u30, u31, u32, u33, u34, rfl, hj1, hjF, t0, hown, hb⟩
    have T0 := hide t0
    have HO := hide hown
    have HB := hide hb
    clear t0 hown hb
    obtain ⟨x, y, e1, e2, e3⟩ := unhide hch j (by omega)
    have hc := fun w => chance_any n d q F ((j : Int) + 1) w hn0 hn1 hd0 hd1 hq0 hq1 hf0 hf1
    have hs := fun w => scale_any x y 4294967296 w (by have := okR_of e2; omega) (by have := okR_of e2; omega) (by have := okR_of e2; omega) (by have := okR_of e2; omega) (by omega) (by omega)
    rw [scA_good e2 (by omega) (by omega), e3] at hs
    rw [e1] at hc
    have hvb := unhide hvb0 j (by omega)
    have hts : Hid (tabL n d F (j + 1) = tabL n d F j ++ [tabV n d F ((j : Nat) + 1)]) := tabL_succ n d F j
    generalize tabV n d F ((j : Nat) + 1) = V at *
    simp only [rvE, rv, cv] at hc hs
    have HC := hide hc
    have HS := hide hs
    clear hc hs e1 e2 e3
    have f0 := (unhide T0).c0
    have f1 := (unhide T0).c1
    have f2 := (unhide T0).c2
    have f3 := (unhide T0).c3
    go_wp2_with fail
    clear f0 f1 f2 f3
    refine (unhide HC _).mono ?_
    rintro e w2 ⟨rfl, b2⟩
    have T0n := hide (((unhide T0).up b2).alloc (.cells #[.int .i64 x, .int .i64 y] 23))
    have HOn := hide ((own_under (unhide HO) b2).alloc (.cells #[.int .i64 x, .int .i64 y] 23))
    have HBn : Hid (Below W0.heap.size W0 (w2.alloc (.cells #[.int .i64 x, .int .i64 y] 23))) := by
      have := (unhide HB).trans (b2.mono (unhide HB).size)
      exact this.alloc this.size _
    clear T0 HO HB b2
    have T0 := T0n
    have HO := HOn
    have HB := HBn
    clear T0n HOn HBn
    go_wp2_with fail
    refine (unhide HS _).mono ?_
    rintro e w3 ⟨rfl, b3⟩
    have T0n := hide ((unhide T0).up b3)
    have HOn := hide (own_under (unhide HO) b3)
    have HBn := hide ((unhide HB).trans (b3.mono (unhide HB).size))
    clear T0 HO HB b3
    have T0 := T0n
    have HO := HOn
    have HB := HBn
    clear T0n HOn HBn
    have hz3 := (unhide HB).size
    go_wp2_with (at_builtin; refine wpList_append_own _ rfl _ _ 26 rfl W0.heap.size 3 i0 (.int .i64 0) 1 8 Try.undI hi0 hz0 hz1 hz2 rfl (by decide) _ _ _ rfl ((unhide HO).alloc _) ⟨w3.heap.size, 0, none⟩ 1 1 [.int .i64 V] rfl rfl ?c1 ?c2 ?c3 ?c4 ?c5 ?_)
    case c1 => exact cell_one_new _ _ _
    case c2 => intro u hu; simp at hu; subst hu; rfl
    case c3 => unfold maxLen; omega
    case c4 => omega
    case c5 => simp; omega
    intro v' w6 hown' hgrow _
    have HB6 := hide (((unhide HB).alloc hz3 _).grown hgrow (by simp; omega) (fun k hk => ((unhide HO).lt k hk).1))
    have HO6 : Hid (w6.ownsRow W0.heap.size 3 1 v' (j + 1) (zc (tabL n d F (j + 1)))) := by
      show World.ownsRow _ _ _ _ _ _ _
      rw [unhide hts, zc_append]
      exact hown'
    obtain ⟨ao', cp', rfl⟩ := own_form hown'
    have t6 : Four w6 w.heap.size (.int .i64 n) (.int .i64 d) (.int .i64 q) (.int .i64 F) 25 := ((unhide HB6).block _ (unhide hW0)).trans (unhide T00)
    have f0 := t6.c0
    have f1 := t6.c1
    have f2 := t6.c2
    have f3 := t6.c3
    have T6 := hide t6
    clear hown' hgrow T0 HO HB t6 hts hz3
    obtain ⟨J, hJ⟩ : ∃ J, J = j + 1 := ⟨_, rfl⟩
    rw [← hJ] at HO6 ⊢
    have hJI : (J : Int) = (j : Int) + 1 := by omega
    by_cases hlast : J < F
    · have hq2 : (J : Int) < F := by omega
      have HJ := hide hJ
      clear hJ hJI
      go_wp2
      go_step3
      have hJ := unhide HJ
      refine ⟨rfl, ⟨J, ao', cp', _, _, _, _, _, _, _, _, _, _, _, _, _, _, _, _, _, _, _, _, _, _, _, _, _, _, _, _, _, _, rfl, by omega, by omega, unhide T6, unhide HO6, unhide HB6⟩, ?_⟩
      simp [lenV]
      omega
    · have hJF : J = F := by omega
      have hq2 : ¬ (J : Int) < F := by omega
      clear hJ hJI
      go_wp2
      simp only [Exit.jump]
      go_ret2
      subst hJF
      exact ⟨ao', cp', rfl, own_z (unhide HO6), (unhide BB0).trans ((unhide HB6).mono (unhide BB0).size)⟩

end Go.Proofs.Ytmaeebgphblilab

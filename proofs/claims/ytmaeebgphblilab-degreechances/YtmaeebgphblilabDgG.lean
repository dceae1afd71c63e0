/- Contracts of degree's Aux and the document's; the law's awake. -/
import Derived.Test.YtmaeebgphblilabDgF
namespace Go.Proofs.Ytmaeebgphblilab
open Go.RowKit
set_option linter.unusedVariables false

theorem loA_upto {n d : Int} (h0 : 0 ≤ n) (h1 : n ≤ 2147483647) (h2 : 0 < d) (h3 : d ≤ 2147483647) : ∃ x y, loA n d = (x, y, 0) := by
  have hg := gcd_pos_of (n := n) (d := d) (by omega)
  have b1 := tdiv_bound n _ hg 2147483647 (by omega) (by omega)
  have b2 := tdiv_bound d _ hg 2147483647 (by omega) (by omega)
  have hN : loN n d = loQ n d := by unfold loN; rw [if_neg (by omega)]
  have hD : loD n d = loR n d := by unfold loD; rw [if_neg (by omega)]
  have hok : okR (loN n d) (loD n d) = true := by
    rw [hN, hD]
    exact okR_mk ⟨b1.1, b1.2, loR_pos n d h2, b2.2, lo_coprime n d (by omega)⟩
  refine ⟨loN n d, loD n d, ?_⟩
  unfold loA
  rw [if_pos hok]
/-- 55 by 100 of Q Eps n, as two numbers -/
def auX (n q m : Int) : Int := 55 * q * n * m
/-- the least integer not below it -/
def auC (n d q m : Int) : Int := -(-auX n q m / (100 * d))
def auOk (n d q f m : Int) : Bool := codeOk n d q f && decide (1 ≤ m ∧ m ≤ 96)
/-- what Aux answers -/
def auA (n d q f m : Int) : Int × Int := if auOk n d q f m = true then (min (auC n d q m) 64, 0) else (0, 1)
structure AuOk (n d q m : Int) : Prop where
  p1 : 0 < 55 * q ∧ 55 * q ≤ 440
  p2 : 0 < 55 * q * n ∧ 55 * q * n ≤ 440000
  p3 : 0 < auX n q m ∧ auX n q m ≤ 42240000
theorem auOk_of {n d q f m : Int} (h : codeOk n d q f = true) (h1 : 1 ≤ m) (h2 : m ≤ 96) : AuOk n d q m := by
  obtain ⟨_, m1, m2, m3, m7, m8, m4, m5, m6⟩ := codeOk_of h
  have q1 : 0 < 55 * q * n := Int.mul_pos (by omega) (by omega)
  have p1 := mul_upto (x := 55 * q) (y := n) (a := 440) (b := 1000) (by omega) (by omega) (by omega) (by omega)
  have q2 : 0 < auX n q m := Int.mul_pos q1 (by omega)
  have p2 : 0 ≤ auX n q m ∧ auX n q m ≤ 440000 * 96 := mul_upto (x := 55 * q * n) (y := m) (by omega) (by omega) (by omega) (by omega)
  exact ⟨by omega, ⟨q1, by omega⟩, ⟨q2, by omega⟩⟩
theorem ceil_lt {X D k : Int} (hD : 0 < D) : D * k < X ↔ k < -(-X / D) := by
  constructor
  · intro h
    have : -X / D < -k := by
      rw [Int.ediv_lt_iff_lt_mul hD, Int.neg_mul, Int.mul_comm k D]
      omega
    omega
  · intro h
    have h1 : -X / D < -k := by omega
    rw [Int.ediv_lt_iff_lt_mul hD, Int.neg_mul, Int.mul_comm k D] at h1
    omega
theorem ceil_same {x y n d : Int} (hy : 0 < y) (hd : 0 < d) (h : x * d = n * y) : -x / y = -n / d := by
  have := same_floor (K := -1) hy hd h
  rwa [show x * -1 = -x by omega, show n * -1 = -n by omega] at this
theorem share_ok {n d q f m : Int} (h : codeOk n d q f = true) (h1 : 1 ≤ m) (h2 : m ≤ 96) : ∃ x y, ofA (auX n q m) (100 * d) = (x, y, 0) ∧ okR x y = true ∧ ceA x y = auC n d q m := by
  obtain ⟨_, m1, m2, m3, m7, m8, m4, m5, m6⟩ := codeOk_of h
  obtain ⟨p1, p2, p3⟩ := auOk_of h h1 h2
  obtain ⟨x, y, hxy⟩ := loA_upto (n := auX n q m) (d := 100 * d) (by omega) (by omega) (by omega) (by omega)
  obtain ⟨hok, hcr⟩ := loA_ok (by omega) hxy
  refine ⟨x, y, ?_, hok, ?_⟩
  · unfold ofA
    rw [if_neg (by omega), hxy]
  · unfold ceA auC
    rw [if_pos hok, ceil_same (okR_of hok).2.2.1 (by omega) hcr]
theorem auC_pos {n d q f m : Int} (h : codeOk n d q f = true) (h1 : 1 ≤ m) (h2 : m ≤ 96) : 1 ≤ auC n d q m ∧ auC n d q m ≤ 42240000 := by
  obtain ⟨_, m1, m2, m3, m7, m8, m4, m5, m6⟩ := codeOk_of h
  obtain ⟨p1, p2, p3⟩ := auOk_of h h1 h2
  have a1 : 0 < auC n d q m := (ceil_lt (X := auX n q m) (D := 100 * d) (k := 0) (by omega)).1 (by omega)
  have a2 := ediv_bound (a := -auX n q m) (b := 100 * d) (m := 42240000) (by omega) (by omega) (by omega)
  unfold auC at *
  omega

set_option maxRecDepth 100000 in
set_option maxHeartbeats 2000000 in
theorem aux_any (n d q f m : Int) (w : World) (hn0 : -9223372036854775808 ≤ n) (hn1 : n ≤ 9223372036854775807) (hd0 : -9223372036854775808 ≤ d) (hd1 : d ≤ 9223372036854775807) (hq0 : -9223372036854775808 ≤ q) (hq1 : q ≤ 9223372036854775807) (hf0 : -9223372036854775808 ≤ f) (hf1 : f ≤ 9223372036854775807) : Calls Try.prog 21 #[cv n d q f, .int .i64 m] w fun e w' => e = .returned (.tuple #[.int .i64 (auA n d q f m).1, .int .i64 (auA n d q f m).2]) ∧ Below w.heap.size w w' := by
  have T0 := hide (four_alloc w (.int .i64 n) (.int .i64 d) (.int .i64 q) (.int .i64 f) 25)
  have BB : Hid (Below w.heap.size w (w.alloc (.cells #[.int .i64 n, .int .i64 d, .int .i64 q, .int .i64 f] 25))) := (Below.refl _ _).alloc (Nat.le_refl _) _
  have h1 := hide (fun w => dcheck_any n d q f w hn0 hn1 hd0 hd1 hq0 hq1 hf0 hf1)
  have h2 := hide (fun w => from_any 1 m 96 w)
  cases hE : codeOk n d q f
  · have hA : auA n d q f m = (0, 1) := by unfold auA auOk; rw [hE]; rfl
    rw [hA]
    rw [hE] at h1
    clear hE h2 hA
    unfold cv at *
    go_enter Try.func21, Try.ntmps21
    go_wp2_with fail
    refine (unhide h1 _).mono ?_
    rintro e w1 ⟨rfl, b1⟩
    have T0n := hide ((unhide T0).up b1)
    have BBn := hide ((unhide BB).trans (b1.mono (unhide BB).size))
    clear b1 BB T0
    have T0 := T0n
    have BB := BBn
    clear BBn T0n
    go_wp2
    go_ret2
    exact ⟨rfl, unhide BB⟩
  rw [hE] at h1
  by_cases g : 1 ≤ m ∧ m ≤ 96
  case neg =>
    have hA : auA n d q f m = (0, 1) := by unfold auA auOk; rw [decide_eq_false g, Bool.and_false]; rfl
    rw [hA]
    rw [decide_eq_false g] at h2
    clear hE g hA
    unfold cv at *
    go_enter Try.func21, Try.ntmps21
    go_wp2_with fail
    refine (unhide h1 _).mono ?_
    rintro e w1 ⟨rfl, b1⟩
    have T0n := hide ((unhide T0).up b1)
    have BBn := hide ((unhide BB).trans (b1.mono (unhide BB).size))
    clear b1 BB T0
    have T0 := T0n
    have BB := BBn
    clear BBn T0n
    go_wp2_with fail
    refine (unhide h2 _).mono ?_
    rintro e w2 ⟨rfl, rfl⟩
    go_wp2
    go_ret2
    exact ⟨rfl, unhide BB⟩
  have hA : auA n d q f m = (min (auC n d q m) 64, 0) := by unfold auA auOk; rw [hE, decide_eq_true g]; rfl
  rw [hA]
  rw [decide_eq_true g] at h2
  obtain ⟨_, m1, m2, m3, m7, m8, m4, m5, m6⟩ := codeOk_of hE
  obtain ⟨p1, p2, p3⟩ := auOk_of hE g.1 g.2
  obtain ⟨x, y, e1, e2, e3⟩ := share_ok hE g.1 g.2
  have hC := auC_pos hE g.1 g.2
  have h3 := fun w => of_any (auX n q m) (100 * d) w (by omega) (by omega) (by omega) (by omega)
  have h4 := fun w => ceil_any x y w (by have := okR_of e2; omega) (by have := okR_of e2; omega) (by have := okR_of e2; omega) (by have := okR_of e2; omega)
  rw [e1] at h3
  rw [e3] at h4
  simp only [rvE, rv] at h3 h4
  unfold auX at h3 p3
  generalize auC n d q m = C at *
  obtain ⟨P1, e4⟩ : ∃ P, 55 * q * n = P := ⟨_, rfl⟩
  rw [e4] at p2 p3 h3
  obtain ⟨P2, e5⟩ : ∃ P, P1 * m = P := ⟨_, rfl⟩
  rw [e5] at p3 h3
  have h3 := hide h3
  have h4 := hide h4
  clear hE hA e1 e2 e3
  by_cases hCC : C ≤ 64
  · have hmin : min C 64 = C := by omega
    rw [hmin]
    clear hmin
    unfold cv at *
    go_enter Try.func21, Try.ntmps21
    go_wp2_with fail
    refine (unhide h1 _).mono ?_
    rintro e w1 ⟨rfl, b1⟩
    have T0n := hide ((unhide T0).up b1)
    have BBn := hide ((unhide BB).trans (b1.mono (unhide BB).size))
    clear b1 BB T0
    have T0 := T0n
    have BB := BBn
    clear BBn T0n
    go_wp2_with fail
    refine (unhide h2 _).mono ?_
    rintro e w2 ⟨rfl, rfl⟩
    have fT00 := (unhide T0).c0
    have fT01 := (unhide T0).c1
    have fT02 := (unhide T0).c2
    have fT03 := (unhide T0).c3
    go_wp2_with fail
    clear fT00 fT01 fT02 fT03
    refine (unhide h3 _).mono ?_
    rintro e w3 ⟨rfl, b3⟩
    have T0n := hide ((unhide T0).up b3)
    have BBn := hide ((unhide BB).trans (b3.mono (unhide BB).size))
    clear b3 BB T0
    have T0 := T0n
    have BB := BBn
    clear BBn T0n
    have BBn := hide ((unhide BB).alloc (unhide BB).size (.cells #[.int .i64 x, .int .i64 y] 23))
    clear BB
    have BB := BBn
    clear BBn
    go_wp2_with fail
    refine (unhide h4 _).mono ?_
    rintro e w4 ⟨rfl, b4⟩
    have BBn := hide ((unhide BB).trans (b4.mono (unhide BB).size))
    clear b4 BB
    have BB := BBn
    go_wp2
    go_ret2
    exact ⟨rfl, unhide BB⟩
  · have hmin : min C 64 = 64 := by omega
    rw [hmin]
    clear hmin
    unfold cv at *
    go_enter Try.func21, Try.ntmps21
    go_wp2_with fail
    refine (unhide h1 _).mono ?_
    rintro e w1 ⟨rfl, b1⟩
    have T0n := hide ((unhide T0).up b1)
    have BBn := hide ((unhide BB).trans (b1.mono (unhide BB).size))
    clear b1 BB T0
    have T0 := T0n
    have BB := BBn
    clear BBn T0n
    go_wp2_with fail
    refine (unhide h2 _).mono ?_
    rintro e w2 ⟨rfl, rfl⟩
    have fT00 := (unhide T0).c0
    have fT01 := (unhide T0).c1
    have fT02 := (unhide T0).c2
    have fT03 := (unhide T0).c3
    go_wp2_with fail
    clear fT00 fT01 fT02 fT03
    refine (unhide h3 _).mono ?_
    rintro e w3 ⟨rfl, b3⟩
    have T0n := hide ((unhide T0).up b3)
    have BBn := hide ((unhide BB).trans (b3.mono (unhide BB).size))
    clear b3 BB T0
    have T0 := T0n
    have BB := BBn
    clear BBn T0n
    have BBn := hide ((unhide BB).alloc (unhide BB).size (.cells #[.int .i64 x, .int .i64 y] 23))
    clear BB
    have BB := BBn
    clear BBn
    go_wp2_with fail
    refine (unhide h4 _).mono ?_
    rintro e w4 ⟨rfl, b4⟩
    have BBn := hide ((unhide BB).trans (b4.mono (unhide BB).size))
    clear b4 BB
    have BB := BBn
    go_wp2
    go_ret2
    exact ⟨rfl, unhide BB⟩

set_option maxRecDepth 100000 in
set_option maxHeartbeats 2000000 in
theorem raux_any (n d q f m : Int) (w : World) (hn0 : -9223372036854775808 ≤ n) (hn1 : n ≤ 9223372036854775807) (hd0 : -9223372036854775808 ≤ d) (hd1 : d ≤ 9223372036854775807) (hq0 : -9223372036854775808 ≤ q) (hq1 : q ≤ 9223372036854775807) (hf0 : -9223372036854775808 ≤ f) (hf1 : f ≤ 9223372036854775807) : Calls Try.prog 22 #[cv n d q f, .int .i64 m] w fun e w' => e = .returned (.tuple #[.int .i64 (auA n d q f m).1, .int .i64 (auA n d q f m).2]) ∧ Below w.heap.size w w' := by
  have T0 := hide (four_alloc w (.int .i64 n) (.int .i64 d) (.int .i64 q) (.int .i64 f) 34)
  have BB : Hid (Below w.heap.size w (w.alloc (.cells #[.int .i64 n, .int .i64 d, .int .i64 q, .int .i64 f] 34))) := (Below.refl _ _).alloc (Nat.le_refl _) _
  have h1 := hide (fun w => rdcheck_any n d q f w hn0 hn1 hd0 hd1 hq0 hq1 hf0 hf1)
  cases hE : codeOk n d q f
  · have hA : auA n d q f m = (0, 1) := by unfold auA auOk; rw [hE]; rfl
    rw [hA]
    rw [hE] at h1
    clear hE hA
    unfold cv at *
    go_enter Try.func22, Try.ntmps22
    go_wp2_with fail
    refine (unhide h1 _).mono ?_
    rintro e w1 ⟨rfl, b1⟩
    have T0n := hide ((unhide T0).up b1)
    have BBn := hide ((unhide BB).trans (b1.mono (unhide BB).size))
    clear b1 BB T0
    have T0 := T0n
    have BB := BBn
    clear BBn T0n
    go_wp2
    go_ret2
    exact ⟨rfl, unhide BB⟩
  rw [hE] at h1
  by_cases g1 : m < 1
  · have hA : auA n d q f m = (0, 1) := by unfold auA auOk; rw [decide_eq_false (by omega), Bool.and_false]; rfl
    rw [hA]
    clear hE hA
    unfold cv at *
    go_enter Try.func22, Try.ntmps22
    go_wp2_with fail
    refine (unhide h1 _).mono ?_
    rintro e w1 ⟨rfl, b1⟩
    have T0n := hide ((unhide T0).up b1)
    have BBn := hide ((unhide BB).trans (b1.mono (unhide BB).size))
    clear b1 BB T0
    have T0 := T0n
    have BB := BBn
    clear BBn T0n
    go_wp2
    go_ret2
    exact ⟨rfl, unhide BB⟩
  by_cases g2 : 96 < m
  · have hA : auA n d q f m = (0, 1) := by unfold auA auOk; rw [decide_eq_false (by omega), Bool.and_false]; rfl
    rw [hA]
    clear hE hA
    unfold cv at *
    go_enter Try.func22, Try.ntmps22
    go_wp2_with fail
    refine (unhide h1 _).mono ?_
    rintro e w1 ⟨rfl, b1⟩
    have T0n := hide ((unhide T0).up b1)
    have BBn := hide ((unhide BB).trans (b1.mono (unhide BB).size))
    clear b1 BB T0
    have T0 := T0n
    have BB := BBn
    clear BBn T0n
    go_wp2
    go_ret2
    exact ⟨rfl, unhide BB⟩
  have hA : auA n d q f m = (min (auC n d q m) 64, 0) := by unfold auA auOk; rw [hE, decide_eq_true (by omega)]; rfl
  rw [hA]
  obtain ⟨_, m1, m2, m3, m7, m8, m4, m5, m6⟩ := codeOk_of hE
  obtain ⟨p1, p2, p3⟩ := auOk_of hE (show 1 ≤ m by omega) (show m ≤ 96 by omega)
  have hC := auC_pos hE (show 1 ≤ m by omega) (show m ≤ 96 by omega)
  have hlt : Hid (∀ k : Int, 100 * d * k < auX n q m ↔ k < auC n d q m) := fun k => ceil_lt (by omega)
  unfold auX at hlt p3
  generalize auC n d q m = C at *
  obtain ⟨P1, e4⟩ : ∃ P, 55 * q * n = P := ⟨_, rfl⟩
  rw [e4] at p2 p3 hlt
  obtain ⟨P2, e5⟩ : ∃ P, P1 * m = P := ⟨_, rfl⟩
  rw [e5] at p3 hlt
  clear hE hA
  unfold cv at *
  go_enter Try.func22, Try.ntmps22
  go_wp2_with fail
  refine (unhide h1 _).mono ?_
  rintro e w1 ⟨rfl, b1⟩
  have T0n := hide ((unhide T0).up b1)
  have BBn := hide ((unhide BB).trans (b1.mono (unhide BB).size))
  clear b1 BB T0
  have T0 := T0n
  have BB := BBn
  clear BBn T0n
  go_wp2_with fail
  go_loopw [6] (fun v wr => w1 = wr ∧ ∃ k : Nat, k ≤ 64 ∧ (k : Int) ≤ C ∧ v = .int .i64 k) (fun v _ => 64 - (intOf v).toNat)
  case atStart => exact ⟨rfl, 0, by omega, by omega, rfl⟩
  case round =>
    obtain ⟨rfl, k, hk, hkC, rfl⟩ := hrel
    have f0 := (unhide T0).c0
    have f1 := (unhide T0).c1
    have f2 := (unhide T0).c2
    have f3 := (unhide T0).c3
    by_cases k64 : k < 64
    · have q1 : (k : Int) < 64 := by omega
      have hM := mul_upto (x := 100 * d) (y := (k : Int)) (a := 100000) (b := 64) (by omega) (by omega) (by omega) (by omega)
      have hI := unhide hlt k
      obtain ⟨M, hMe⟩ : ∃ M, 100 * d * (k : Int) = M := ⟨_, rfl⟩
      rw [hMe] at hM hI
      by_cases hc : (k : Int) < C
      · have hc' : M < P2 := hI.2 hc
        clear hI
        go_wp2
        go_roundw
        case rel => exact ⟨trivial, k + 1, by omega, by omega, by go_num⟩
        case measure => simp [intOf]; omega
      · have hc' : ¬ M < P2 := fun h => hc (hI.1 h)
        have hc2 : decide (M < P2) = false := decide_eq_false hc'
        have hmin : min C 64 = (k : Int) := by omega
        have HM := hide hmin
        clear hI hmin
        go_wp2
        go_ret2
        exact ⟨by rw [unhide HM]; rfl, unhide BB⟩
    · have hk64 : k = 64 := by omega
      subst hk64
      have q1 : decide (((64 : Nat) : Int) < 64) = false := by decide
      have hmin : min C 64 = 64 := by omega
      have HM := hide hmin
      clear hmin
      go_wp2
      go_ret2
      exact ⟨by rw [unhide HM]; rfl, unhide BB⟩

theorem ex_code : codeOk 1 2 1 ((4 : Nat) : Int) = true := by decide +kernel
theorem ex_tab : tabL 1 2 ((4 : Nat) : Int) 4 = [715827882, 3101920824, 3897285138, 4294967296] := by decide +kernel
theorem ex_ch : chA 1 2 1 4 2 = (13, 18, 0) := by decide +kernel
theorem z_four (w : World) (a b c d : Int) (t : TypeId) : ZAt (w.alloc (.cells #[.int .i64 a, .int .i64 b, .int .i64 c, .int .i64 d] t)) (some ⟨w.heap.size, 0, none⟩) [a, b, c, d] := by
  have h := four_alloc w (.int .i64 a) (.int .i64 b) (.int .i64 c) (.int .i64 d) t
  intro i z hi
  refine ⟨_, 0, rfl, ?_⟩
  rw [Nat.zero_add]
  match i, hi with
  | 0, hi => simp at hi; subst hi; exact h.c0
  | 1, hi => simp at hi; subst hi; exact h.c1
  | 2, hi => simp at hi; subst hi; exact h.c2
  | 3, hi => simp at hi; subst hi; exact h.c3
  | i + 4, hi => simp at hi

set_option maxRecDepth 100000 in
set_option maxHeartbeats 2000000 in
theorem dgawake_any (w : World) : Calls Try.prog 12 #[] w fun e w' => e = .returned (.bool true) ∧ Below w.heap.size w w' := by
  have h1 := fun w => half_any w
  have h2 := fun w => table_any 1 2 1 4 w (by omega) (by omega) (by omega) (by omega) (by omega) (by omega) (by omega) (by omega) ex_code
  have h3 := fun w => chance_any 1 2 1 4 2 w (by omega) (by omega) (by omega) (by omega) (by omega) (by omega) (by omega) (by omega)
  rw [ex_tab] at h2
  rw [ex_ch] at h3
  simp only [cv, rvE, rv] at h1 h2 h3
  have h1 := hide h1
  have h2 := hide h2
  have h3 := hide h3
  go_enter Try.func12, Try.ntmps12
  go_wp2_with fail
  refine (unhide h1 _).mono ?_
  rintro e w1 ⟨rfl, b1⟩
  have BB := hide b1
  clear b1
  go_wp2_with fail
  refine (unhide h2 _).mono ?_
  rintro e w2 ⟨a0, cap, rfl, hZ, b2⟩
  have ZZ := hide hZ
  have BBn := hide ((unhide BB).trans (b2.mono (unhide BB).size))
  clear b2 BB hZ
  go_wp2_with fail
  refine (unhide h1 _).mono ?_
  rintro e w3 ⟨rfl, b3⟩
  have ZZn := hide ((unhide ZZ).up b3)
  have BB := hide ((unhide BBn).trans (b3.mono (unhide BBn).size))
  clear b3 BBn ZZ
  go_wp2_with fail
  refine (unhide h3 _).mono ?_
  rintro e w4 ⟨rfl, b4⟩
  have S4 := hide ((two_alloc w4 (.int .i64 13) (.int .i64 18) 23).alloc (.cells #[.int .i64 715827882, .int .i64 3101920824, .int .i64 3897285138, .int .i64 4294967296] 3))
  have BBn : Hid (Below w.heap.size w ((w4.alloc (.cells #[.int .i64 13, .int .i64 18] 23)).alloc (.cells #[.int .i64 715827882, .int .i64 3101920824, .int .i64 3897285138, .int .i64 4294967296] 3))) := by
    have h := (unhide BB).trans (b4.mono (unhide BB).size)
    exact (h.alloc h.size _).alloc (by have := h.size; simp; omega) _
  have bz : Below w4.heap.size w4 ((w4.alloc (.cells #[.int .i64 13, .int .i64 18] 23)).alloc (.cells #[.int .i64 715827882, .int .i64 3101920824, .int .i64 3897285138, .int .i64 4294967296] 3)) := ((Below.refl _ _).alloc (Nat.le_refl _) _).alloc (by simp) _
  have Z1 := hide (((unhide ZZn).up b4).up bz)
  have Z2 := hide (z_four (w4.alloc (.cells #[.int .i64 13, .int .i64 18] 23)) 715827882 3101920824 3897285138 4294967296 3)
  clear b4 BB ZZn bz
  go_wp2_with fail
  have h5 := same_any _ a0 (some ⟨(w4.alloc (.cells #[.int .i64 13, .int .i64 18] 23)).heap.size, 0, none⟩) [715827882, 3101920824, 3897285138, 4294967296] 4 cap 4 rfl (by omega) (unhide Z1) (unhide Z2)
  rw [show (w4.alloc (.cells #[.int .i64 13, .int .i64 18] 23)).heap.size = w4.heap.size + 1 by simp] at h5
  refine h5.mono ?_
  clear h5
  rintro e w5 ⟨rfl, b5⟩
  have s5 := (unhide S4).up b5
  have y0 := s5.c0
  have y1 := s5.c1
  have B5 := hide ((unhide BBn).trans (b5.mono (unhide BBn).size))
  clear s5 b5 S4 BBn Z1 Z2
  go_wp2
  go_ret
  exact ⟨rfl, unhide B5⟩

end Go.Proofs.Ytmaeebgphblilab

/- Contracts of degree's small functions and Check, the document's Check, the law's Ref and half. -/
import Derived.Test.YtmaeebgphblilabRtP
import Derived.Test.YtmaeebgphblilabBox
import Derived.Test.YtmaeebgphblilabRtH
namespace Go.Proofs.Ytmaeebgphblilab
open Go.RowKit
set_option linter.unusedVariables false

/-- block b holds just four cells -/
def Four (w : World) (b : Nat) (x y z u : Value) (t : TypeId) : Prop := w.heap[b]? = some (.cells #[x, y, z, u] t (0, 0))
theorem four_alloc (w : World) (x y z u : Value) (t : TypeId) : Four (w.alloc (.cells #[x, y, z, u] t)) w.heap.size x y z u t := heap_alloc_new w _
theorem Four.lt {w : World} {b : Nat} {x y z u : Value} {t : TypeId} (h : Four w b x y z u t) : b < w.heap.size := at_lt h
theorem Four.up {w w' : World} {b : Nat} {x y z u : Value} {t : TypeId} (h : Four w b x y z u t) (hb : Below w.heap.size w w') : Four w' b x y z u t := (hb.block b h.lt).trans h
theorem Four.alloc {w : World} {b : Nat} {x y z u : Value} {t : TypeId} (h : Four w b x y z u t) (o : Obj) : Four (w.alloc o) b x y z u t := h.up ((Below.refl _ _).alloc (Nat.le_refl _) o)
theorem Four.c0 {w : World} {b : Nat} {x y z u : Value} {t : TypeId} (h : Four w b x y z u t) : w.cell? ⟨b, 0, none⟩ = some x := by unfold Four at h; simp [World.cell?, h]
theorem Four.c1 {w : World} {b : Nat} {x y z u : Value} {t : TypeId} (h : Four w b x y z u t) : w.cell? ⟨b, 1, none⟩ = some y := by unfold Four at h; simp [World.cell?, h]
theorem Four.c2 {w : World} {b : Nat} {x y z u : Value} {t : TypeId} (h : Four w b x y z u t) : w.cell? ⟨b, 2, none⟩ = some z := by unfold Four at h; simp [World.cell?, h]
theorem Four.c3 {w : World} {b : Nat} {x y z u : Value} {t : TypeId} (h : Four w b x y z u t) : w.cell? ⟨b, 3, none⟩ = some u := by unfold Four at h; simp [World.cell?, h]
theorem gb_four {w : World} {b : Nat} {x y z u : Value} {t : TypeId} (h : Four w b x y z u t) : (∀ g : Gb w, g.w.cell? ⟨b, 0, none⟩ = some x) ∧ (∀ g : Gb w, g.w.cell? ⟨b, 1, none⟩ = some y) ∧ (∀ g : Gb w, g.w.cell? ⟨b, 2, none⟩ = some z) ∧ (∀ g : Gb w, g.w.cell? ⟨b, 3, none⟩ = some u) := ⟨fun g => gb_cell h.c0 g, fun g => gb_cell h.c1 g, fun g => gb_cell h.c2 g, fun g => gb_cell h.c3 g⟩

/-- a code as a value -/
def cv (n d q f : Int) : Value := .agg #[.int .i64 n, .int .i64 d, .int .i64 q, .int .i64 f]
def epsOk (n d : Int) : Bool := okR n d && decide (1 ≤ n ∧ n ≤ d) && decide (d ≤ 1000)
def codeOk (n d q f : Int) : Bool := epsOk n d && decide (1 ≤ q ∧ q ≤ 8) && decide (2 ≤ f ∧ f ≤ 64) && decide (d ≤ f * n)
theorem codeOk_of {n d q f : Int} (h : codeOk n d q f = true) : okR n d = true ∧ 1 ≤ n ∧ n ≤ d ∧ d ≤ 1000 ∧ 1 ≤ q ∧ q ≤ 8 ∧ 2 ≤ f ∧ f ≤ 64 ∧ d ≤ f * n := by
  unfold codeOk epsOk at h
  simp only [Bool.and_eq_true, decide_eq_true_eq] at h
  obtain ⟨⟨⟨⟨⟨h1, h2, h3⟩, h4⟩, h5, h6⟩, h7, h8⟩, h9⟩ := h
  exact ⟨h1, h2, h3, h4, h5, h6, h7, h8, h9⟩
theorem fn_bound {f n : Int} (h1 : 2 ≤ f) (h2 : f ≤ 64) (h3 : 1 ≤ n) (h4 : n ≤ 1000) : 0 ≤ f * n ∧ f * n ≤ 64000 := by
  have a1 : f * n ≤ 64 * n := Int.mul_le_mul_of_nonneg_right h2 (by omega)
  have a2 : 0 ≤ f * n := Int.mul_nonneg (by omega) (by omega)
  omega

set_option maxRecDepth 100000 in
theorem from_any (a n m : Int) (w : World) : Calls Try.prog 28 #[.int .i64 a, .int .i64 n, .int .i64 m] w fun e w' => e = .returned (.bool (decide (a ≤ n ∧ n ≤ m))) ∧ w = w' := by
  by_cases h1 : a ≤ n
  · by_cases h2 : n ≤ m
    · have hd : decide (a ≤ n ∧ n ≤ m) = true := by simp; omega
      rw [hd]
      go_enter Try.func28, Try.ntmps28
      go_wp2
      go_ret
      exact ⟨rfl, rfl⟩
    · have hd : decide (a ≤ n ∧ n ≤ m) = false := by simp; omega
      rw [hd]
      go_enter Try.func28, Try.ntmps28
      go_wp2
      go_ret
      exact ⟨rfl, rfl⟩
  · have hd : decide (a ≤ n ∧ n ≤ m) = false := by simp; omega
    rw [hd]
    go_enter Try.func28, Try.ntmps28
    go_wp2
    go_ret
    exact ⟨rfl, rfl⟩

set_option maxRecDepth 100000 in
set_option maxHeartbeats 1000000 in
theorem eps_any (n d : Int) (w : World) (hn0 : -9223372036854775808 ≤ n) (hn1 : n ≤ 9223372036854775807) (hd0 : -9223372036854775808 ≤ d) (hd1 : d ≤ 9223372036854775807) : Calls Try.prog 27 #[rv n d] w fun e w' => e = .returned (.bool (epsOk n d)) ∧ Below w.heap.size w w' := by
  have T1 := hide (two_alloc w (.int .i64 n) (.int .i64 d) 23)
  have BB : Hid (Below w.heap.size w (w.alloc (.cells #[.int .i64 n, .int .i64 d] 23))) := (Below.refl _ _).alloc (Nat.le_refl _) _
  have h1 := hide (fun w => check_any n d w hn0 hn1 hd0 hd1)
  have h2 := hide (fun w => from_any 1 n d w)
  unfold epsOk
  cases hE : okR n d
  · rw [hE] at h1
    clear h2 hE
    unfold rv at *
    go_enter Try.func27, Try.ntmps27
    go_wp2_with fail
    refine (unhide h1 _).mono ?_
    rintro e w1 ⟨rfl, b1⟩
    have T1n := hide ((unhide T1).up b1)
    have BBn := hide ((unhide BB).trans (b1.mono (unhide BB).size))
    clear b1 BB T1
    have T1 := T1n
    have BB := BBn
    clear BBn T1n
    have fT10 := (unhide T1).c0
    have fT11 := (unhide T1).c1
    go_wp2
    go_ret
    exact ⟨rfl, unhide BB⟩
  rw [hE] at h1
  clear hE
  by_cases g1 : 1 ≤ n ∧ n ≤ d
  · rw [decide_eq_true g1] at h2 ⊢
    clear g1
    unfold rv at *
    go_enter Try.func27, Try.ntmps27
    go_wp2_with fail
    refine (unhide h1 _).mono ?_
    rintro e w1 ⟨rfl, b1⟩
    have T1n := hide ((unhide T1).up b1)
    have BBn := hide ((unhide BB).trans (b1.mono (unhide BB).size))
    clear b1 BB T1
    have T1 := T1n
    have BB := BBn
    clear BBn T1n
    have fT10 := (unhide T1).c0
    have fT11 := (unhide T1).c1
    go_wp2_with fail
    refine (unhide h2 _).mono ?_
    rintro e w2 ⟨rfl, rfl⟩
    go_wp2
    go_ret
    exact ⟨by simp, unhide BB⟩
  · rw [decide_eq_false g1] at h2 ⊢
    clear g1
    unfold rv at *
    go_enter Try.func27, Try.ntmps27
    go_wp2_with fail
    refine (unhide h1 _).mono ?_
    rintro e w1 ⟨rfl, b1⟩
    have T1n := hide ((unhide T1).up b1)
    have BBn := hide ((unhide BB).trans (b1.mono (unhide BB).size))
    clear b1 BB T1
    have T1 := T1n
    have BB := BBn
    clear BBn T1n
    have fT10 := (unhide T1).c0
    have fT11 := (unhide T1).c1
    go_wp2_with fail
    refine (unhide h2 _).mono ?_
    rintro e w2 ⟨rfl, rfl⟩
    go_wp2
    go_ret
    exact ⟨rfl, unhide BB⟩

set_option maxRecDepth 100000 in
set_option maxHeartbeats 1000000 in
theorem dcheck_any (n d q f : Int) (w : World) (hn0 : -9223372036854775808 ≤ n) (hn1 : n ≤ 9223372036854775807) (hd0 : -9223372036854775808 ≤ d) (hd1 : d ≤ 9223372036854775807) (hq0 : -9223372036854775808 ≤ q) (hq1 : q ≤ 9223372036854775807) (hf0 : -9223372036854775808 ≤ f) (hf1 : f ≤ 9223372036854775807) : Calls Try.prog 13 #[cv n d q f] w fun e w' => e = .returned (.bool (codeOk n d q f)) ∧ Below w.heap.size w w' := by
  have T1 := hide (four_alloc w (.int .i64 n) (.int .i64 d) (.int .i64 q) (.int .i64 f) 25)
  have BB : Hid (Below w.heap.size w (w.alloc (.cells #[.int .i64 n, .int .i64 d, .int .i64 q, .int .i64 f] 25))) := (Below.refl _ _).alloc (Nat.le_refl _) _
  have h1 := hide (fun w => eps_any n d w hn0 hn1 hd0 hd1)
  have h2 := hide (fun w => from_any 1 q 8 w)
  have h3 := hide (fun w => from_any 2 f 64 w)
  unfold codeOk
  cases hE : epsOk n d
  · rw [hE] at h1
    clear h2 h3 hE
    unfold cv rv at *
    go_enter Try.func13, Try.ntmps13
    go_wp2_with fail
    refine (unhide h1 _).mono ?_
    rintro e w1 ⟨rfl, b1⟩
    have T1n := hide ((unhide T1).up b1)
    have BBn := hide ((unhide BB).trans (b1.mono (unhide BB).size))
    clear b1 BB T1
    have T1 := T1n
    have BB := BBn
    clear BBn T1n
    have fT10 := (unhide T1).c0
    have fT11 := (unhide T1).c1
    have fT12 := (unhide T1).c2
    have fT13 := (unhide T1).c3
    go_wp2
    go_ret
    exact ⟨rfl, unhide BB⟩
  rw [hE] at h1
  unfold epsOk at hE
  simp only [Bool.and_eq_true, decide_eq_true_eq] at hE
  obtain ⟨⟨_, e1, e2⟩, e3⟩ := hE
  by_cases g1 : 1 ≤ q ∧ q ≤ 8
  · rw [decide_eq_true g1] at h2 ⊢
    by_cases g2 : 2 ≤ f ∧ f ≤ 64
    · rw [decide_eq_true g2] at h3 ⊢
      have hm := fn_bound g2.1 g2.2 e1 (by omega)
      obtain ⟨M, hM⟩ : ∃ M, f * n = M := ⟨_, rfl⟩
      rw [hM] at hm ⊢
      clear g1 g2
      unfold cv rv at *
      go_enter Try.func13, Try.ntmps13
      go_wp2_with fail
      refine (unhide h1 _).mono ?_
      rintro e w1 ⟨rfl, b1⟩
      have T1n := hide ((unhide T1).up b1)
      have BBn := hide ((unhide BB).trans (b1.mono (unhide BB).size))
      clear b1 BB T1
      have T1 := T1n
      have BB := BBn
      clear BBn T1n
      have fT10 := (unhide T1).c0
      have fT11 := (unhide T1).c1
      have fT12 := (unhide T1).c2
      have fT13 := (unhide T1).c3
      go_wp2_with fail
      refine (unhide h2 _).mono ?_
      rintro e w2 ⟨rfl, rfl⟩
      go_wp2_with fail
      refine (unhide h3 _).mono ?_
      rintro e w3 ⟨rfl, rfl⟩
      go_wp2
      go_ret
      exact ⟨by simp, unhide BB⟩
    · rw [decide_eq_false g2] at h3 ⊢
      clear g1 g2
      unfold cv rv at *
      go_enter Try.func13, Try.ntmps13
      go_wp2_with fail
      refine (unhide h1 _).mono ?_
      rintro e w1 ⟨rfl, b1⟩
      have T1n := hide ((unhide T1).up b1)
      have BBn := hide ((unhide BB).trans (b1.mono (unhide BB).size))
      clear b1 BB T1
      have T1 := T1n
      have BB := BBn
      clear BBn T1n
      have fT10 := (unhide T1).c0
      have fT11 := (unhide T1).c1
      have fT12 := (unhide T1).c2
      have fT13 := (unhide T1).c3
      go_wp2_with fail
      refine (unhide h2 _).mono ?_
      rintro e w2 ⟨rfl, rfl⟩
      go_wp2_with fail
      refine (unhide h3 _).mono ?_
      rintro e w3 ⟨rfl, rfl⟩
      go_wp2
      go_ret
      exact ⟨rfl, unhide BB⟩
  · rw [decide_eq_false g1] at h2 ⊢
    clear g1
    unfold cv rv at *
    go_enter Try.func13, Try.ntmps13
    go_wp2_with fail
    refine (unhide h1 _).mono ?_
    rintro e w1 ⟨rfl, b1⟩
    have T1n := hide ((unhide T1).up b1)
    have BBn := hide ((unhide BB).trans (b1.mono (unhide BB).size))
    clear b1 BB T1
    have T1 := T1n
    have BB := BBn
    clear BBn T1n
    have fT10 := (unhide T1).c0
    have fT11 := (unhide T1).c1
    have fT12 := (unhide T1).c2
    have fT13 := (unhide T1).c3
    go_wp2_with fail
    refine (unhide h2 _).mono ?_
    rintro e w2 ⟨rfl, rfl⟩
    go_wp2
    go_ret
    exact ⟨rfl, unhide BB⟩

set_option maxRecDepth 100000 in
set_option maxHeartbeats 1000000 in
theorem rdcheck_any (n d q f : Int) (w : World) (hn0 : -9223372036854775808 ≤ n) (hn1 : n ≤ 9223372036854775807) (hd0 : -9223372036854775808 ≤ d) (hd1 : d ≤ 9223372036854775807) (hq0 : -9223372036854775808 ≤ q) (hq1 : q ≤ 9223372036854775807) (hf0 : -9223372036854775808 ≤ f) (hf1 : f ≤ 9223372036854775807) : Calls Try.prog 14 #[cv n d q f] w fun e w' => e = .returned (.bool (codeOk n d q f)) ∧ Below w.heap.size w w' := by
  have T1 := hide (four_alloc w (.int .i64 n) (.int .i64 d) (.int .i64 q) (.int .i64 f) 34)
  have BB : Hid (Below w.heap.size w (w.alloc (.cells #[.int .i64 n, .int .i64 d, .int .i64 q, .int .i64 f] 34))) := (Below.refl _ _).alloc (Nat.le_refl _) _
  have h1 := hide (fun w => rcheck_any n d w hn0 hn1 hd0 hd1)
  obtain ⟨E, hE⟩ : ∃ E, E = codeOk n d q f := ⟨_, rfl⟩
  rw [← hE]
  unfold codeOk epsOk at hE
  cases hO : okR n d
  · rw [hO] at h1 hE
    simp only [Bool.false_and] at hE
    subst hE
    clear hO
    unfold cv rv at *
    go_enter Try.func14, Try.ntmps14
    go_wp2_with fail
    refine (unhide h1 _).mono ?_
    rintro e w1 ⟨rfl, b1⟩
    have T1n := hide ((unhide T1).up b1)
    have BBn := hide ((unhide BB).trans (b1.mono (unhide BB).size))
    clear b1 BB T1
    have T1 := T1n
    have BB := BBn
    clear BBn T1n
    have fT10 := (unhide T1).c0
    have fT11 := (unhide T1).c1
    have fT12 := (unhide T1).c2
    have fT13 := (unhide T1).c3
    go_wp2
    go_ret
    exact ⟨rfl, unhide BB⟩
  rw [hO] at h1 hE
  clear hO
  by_cases g1 : 1 ≤ n
  case neg =>
    have hE' : E = false := by rw [hE]; simp; omega
    subst hE'
    clear hE
    unfold cv rv at *
    go_enter Try.func14, Try.ntmps14
    go_wp2_with fail
    refine (unhide h1 _).mono ?_
    rintro e w1 ⟨rfl, b1⟩
    have T1n := hide ((unhide T1).up b1)
    have BBn := hide ((unhide BB).trans (b1.mono (unhide BB).size))
    clear b1 BB T1
    have T1 := T1n
    have BB := BBn
    clear BBn T1n
    have fT10 := (unhide T1).c0
    have fT11 := (unhide T1).c1
    have fT12 := (unhide T1).c2
    have fT13 := (unhide T1).c3
    go_wp2
    go_ret
    exact ⟨rfl, unhide BB⟩
  by_cases g2 : n ≤ d
  case neg =>
    have hE' : E = false := by rw [hE]; simp; omega
    subst hE'
    clear hE
    unfold cv rv at *
    go_enter Try.func14, Try.ntmps14
    go_wp2_with fail
    refine (unhide h1 _).mono ?_
    rintro e w1 ⟨rfl, b1⟩
    have T1n := hide ((unhide T1).up b1)
    have BBn := hide ((unhide BB).trans (b1.mono (unhide BB).size))
    clear b1 BB T1
    have T1 := T1n
    have BB := BBn
    clear BBn T1n
    have fT10 := (unhide T1).c0
    have fT11 := (unhide T1).c1
    have fT12 := (unhide T1).c2
    have fT13 := (unhide T1).c3
    go_wp2
    go_ret
    exact ⟨rfl, unhide BB⟩
  by_cases g3 : d ≤ 1000
  case neg =>
    have hE' : E = false := by rw [hE]; simp; omega
    subst hE'
    clear hE
    unfold cv rv at *
    go_enter Try.func14, Try.ntmps14
    go_wp2_with fail
    refine (unhide h1 _).mono ?_
    rintro e w1 ⟨rfl, b1⟩
    have T1n := hide ((unhide T1).up b1)
    have BBn := hide ((unhide BB).trans (b1.mono (unhide BB).size))
    clear b1 BB T1
    have T1 := T1n
    have BB := BBn
    clear BBn T1n
    have fT10 := (unhide T1).c0
    have fT11 := (unhide T1).c1
    have fT12 := (unhide T1).c2
    have fT13 := (unhide T1).c3
    go_wp2
    go_ret
    exact ⟨rfl, unhide BB⟩
  by_cases g4 : 1 ≤ q
  case neg =>
    have hE' : E = false := by rw [hE]; simp; omega
    subst hE'
    clear hE
    unfold cv rv at *
    go_enter Try.func14, Try.ntmps14
    go_wp2_with fail
    refine (unhide h1 _).mono ?_
    rintro e w1 ⟨rfl, b1⟩
    have T1n := hide ((unhide T1).up b1)
    have BBn := hide ((unhide BB).trans (b1.mono (unhide BB).size))
    clear b1 BB T1
    have T1 := T1n
    have BB := BBn
    clear BBn T1n
    have fT10 := (unhide T1).c0
    have fT11 := (unhide T1).c1
    have fT12 := (unhide T1).c2
    have fT13 := (unhide T1).c3
    go_wp2
    go_ret
    exact ⟨rfl, unhide BB⟩
  by_cases g5 : q ≤ 8
  case neg =>
    have hE' : E = false := by rw [hE]; simp; omega
    subst hE'
    clear hE
    unfold cv rv at *
    go_enter Try.func14, Try.ntmps14
    go_wp2_with fail
    refine (unhide h1 _).mono ?_
    rintro e w1 ⟨rfl, b1⟩
    have T1n := hide ((unhide T1).up b1)
    have BBn := hide ((unhide BB).trans (b1.mono (unhide BB).size))
    clear b1 BB T1
    have T1 := T1n
    have BB := BBn
    clear BBn T1n
    have fT10 := (unhide T1).c0
    have fT11 := (unhide T1).c1
    have fT12 := (unhide T1).c2
    have fT13 := (unhide T1).c3
    go_wp2
    go_ret
    exact ⟨rfl, unhide BB⟩
  by_cases g6 : 2 ≤ f
  case neg =>
    have hE' : E = false := by rw [hE]; simp; omega
    subst hE'
    clear hE
    unfold cv rv at *
    go_enter Try.func14, Try.ntmps14
    go_wp2_with fail
    refine (unhide h1 _).mono ?_
    rintro e w1 ⟨rfl, b1⟩
    have T1n := hide ((unhide T1).up b1)
    have BBn := hide ((unhide BB).trans (b1.mono (unhide BB).size))
    clear b1 BB T1
    have T1 := T1n
    have BB := BBn
    clear BBn T1n
    have fT10 := (unhide T1).c0
    have fT11 := (unhide T1).c1
    have fT12 := (unhide T1).c2
    have fT13 := (unhide T1).c3
    go_wp2
    go_ret
    exact ⟨rfl, unhide BB⟩
  by_cases g7 : f ≤ 64
  case neg =>
    have hE' : E = false := by rw [hE]; simp; omega
    subst hE'
    clear hE
    unfold cv rv at *
    go_enter Try.func14, Try.ntmps14
    go_wp2_with fail
    refine (unhide h1 _).mono ?_
    rintro e w1 ⟨rfl, b1⟩
    have T1n := hide ((unhide T1).up b1)
    have BBn := hide ((unhide BB).trans (b1.mono (unhide BB).size))
    clear b1 BB T1
    have T1 := T1n
    have BB := BBn
    clear BBn T1n
    have fT10 := (unhide T1).c0
    have fT11 := (unhide T1).c1
    have fT12 := (unhide T1).c2
    have fT13 := (unhide T1).c3
    go_wp2
    go_ret
    exact ⟨rfl, unhide BB⟩
  have hm := fn_bound g6 g7 g1 (by omega)
  obtain ⟨M, hM⟩ : ∃ M, f * n = M := ⟨_, rfl⟩
  rw [hM] at hm hE
  have hE' : E = decide (d ≤ M) := by
    rw [hE, decide_eq_true (show 1 ≤ n ∧ n ≤ d from ⟨g1, g2⟩), decide_eq_true g3, decide_eq_true (show 1 ≤ q ∧ q ≤ 8 from ⟨g4, g5⟩), decide_eq_true (show 2 ≤ f ∧ f ≤ 64 from ⟨g6, g7⟩)]
    rfl
  subst hE'
  clear hE
  unfold cv rv at *
  go_enter Try.func14, Try.ntmps14
  go_wp2_with fail
  refine (unhide h1 _).mono ?_
  rintro e w1 ⟨rfl, b1⟩
  have T1n := hide ((unhide T1).up b1)
  have BBn := hide ((unhide BB).trans (b1.mono (unhide BB).size))
  clear b1 BB T1
  have T1 := T1n
  have BB := BBn
  clear BBn T1n
  have fT10 := (unhide T1).c0
  have fT11 := (unhide T1).c1
  have fT12 := (unhide T1).c2
  have fT13 := (unhide T1).c3
  go_wp2
  go_ret
  exact ⟨rfl, unhide BB⟩

end Go.Proofs.Ytmaeebgphblilab

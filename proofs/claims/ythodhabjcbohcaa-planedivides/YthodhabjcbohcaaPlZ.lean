/- Contract of the document's Quo. -/
import Derived.Test.YthodhabjcbohcaaPlY
namespace Go.Proofs.Ythodhabjcbohcaa
open Go.RowKit
set_option linter.unusedVariables false

/-- block b holds just five cells -/
def Five (w : World) (b : Nat) (p q r s z : Value) (t : TypeId) : Prop := w.heap[b]? = some (.cells #[p, q, r, s, z] t (0, 0))
theorem five_alloc (w : World) (p q r s z : Value) (t : TypeId) : Five (w.alloc (.cells #[p, q, r, s, z] t)) w.heap.size p q r s z t := heap_alloc_new w _
theorem Five.lt {w : World} {b : Nat} {p q r s z : Value} {t : TypeId} (h : Five w b p q r s z t) : b < w.heap.size := by
  rcases Nat.lt_or_ge b w.heap.size with h' | h'
  · exact h'
  · unfold Five at h
    rw [Array.getElem?_eq_none h'] at h
    cases h
theorem Five.up {w w' : World} {b : Nat} {p q r s z : Value} {t : TypeId} (h : Five w b p q r s z t) (hb : Below w.heap.size w w') : Five w' b p q r s z t := (hb.block b h.lt).trans h
theorem Five.alloc {w : World} {b : Nat} {p q r s z : Value} {t : TypeId} (h : Five w b p q r s z t) (o : Obj) : Five (w.alloc o) b p q r s z t := h.up ((Below.refl _ _).alloc (Nat.le_refl _) o)
theorem Five.c0 {w : World} {b : Nat} {p q r s z : Value} {t : TypeId} (h : Five w b p q r s z t) : w.cell? ⟨b, 0, none⟩ = some p := by unfold Five at h; simp [World.cell?, h]
theorem Five.set0 {w : World} {b : Nat} {p q r s z : Value} {t : TypeId} (h : Five w b p q r s z t) (x : Value) : Five (w.setCell ⟨b, 0, none⟩ x) b x q r s z t := heap_setCell_same w b 0 _ t _ h
theorem Five.c1 {w : World} {b : Nat} {p q r s z : Value} {t : TypeId} (h : Five w b p q r s z t) : w.cell? ⟨b, 1, none⟩ = some q := by unfold Five at h; simp [World.cell?, h]
theorem Five.set1 {w : World} {b : Nat} {p q r s z : Value} {t : TypeId} (h : Five w b p q r s z t) (x : Value) : Five (w.setCell ⟨b, 1, none⟩ x) b p x r s z t := heap_setCell_same w b 1 _ t _ h
theorem Five.c2 {w : World} {b : Nat} {p q r s z : Value} {t : TypeId} (h : Five w b p q r s z t) : w.cell? ⟨b, 2, none⟩ = some r := by unfold Five at h; simp [World.cell?, h]
theorem Five.set2 {w : World} {b : Nat} {p q r s z : Value} {t : TypeId} (h : Five w b p q r s z t) (x : Value) : Five (w.setCell ⟨b, 2, none⟩ x) b p q x s z t := heap_setCell_same w b 2 _ t _ h
theorem Five.c3 {w : World} {b : Nat} {p q r s z : Value} {t : TypeId} (h : Five w b p q r s z t) : w.cell? ⟨b, 3, none⟩ = some s := by unfold Five at h; simp [World.cell?, h]
theorem Five.set3 {w : World} {b : Nat} {p q r s z : Value} {t : TypeId} (h : Five w b p q r s z t) (x : Value) : Five (w.setCell ⟨b, 3, none⟩ x) b p q r x z t := heap_setCell_same w b 3 _ t _ h
theorem Five.c4 {w : World} {b : Nat} {p q r s z : Value} {t : TypeId} (h : Five w b p q r s z t) : w.cell? ⟨b, 4, none⟩ = some z := by unfold Five at h; simp [World.cell?, h]
theorem Five.set4 {w : World} {b : Nat} {p q r s z : Value} {t : TypeId} (h : Five w b p q r s z t) (x : Value) : Five (w.setCell ⟨b, 4, none⟩ x) b p q r s x t := heap_setCell_same w b 4 _ t _ h
theorem Five.free {w : World} {b : Nat} {p q r s z : Value} {t : TypeId} (h : Five w b p q r s z t) (j : Nat) : w.frozen? ⟨b, j, none⟩ = false := by unfold Five at h; simp [World.frozen?, h]
theorem ret_five {fn : Func} {k : Tmp} {ty : TypeId} {a : Act} {w : World} {R : Ending → World → Prop} (h : fn.results = #[.cell k ty]) (g : Nat) (t : TypeId) (p q r s z : Value) (fs : Array Field)
    (hp : a.tmps.getD k undef = .pointer (some ⟨g, 0, none⟩)) (hg : Five w g p q r s z t) (hdf : a.defers = [])
    (hu : Try.prog.underlying ty = some (.struct fs)) (hi : (Try.prog.info? ty).map (·.size) = some 5) (hR : R (.returned (.agg #[p, q, r, s, z])) w) :
    bodyPost Try.prog fn R .ret a w := bodyPost_ret (results_cell_row h _ w g t #[p, q, r, s, z] (0, 0) _ hp hg hu rfl (by simpa using hi)) hdf hR
theorem below_five {w w' : World} {B b : Nat} (h : Below B w w') (hB : B ≤ b) (p q r s z : Value) : Below B w (((((w'.setCell ⟨b, 0, none⟩ p).setCell ⟨b, 1, none⟩ q).setCell ⟨b, 2, none⟩ r).setCell ⟨b, 3, none⟩ s).setCell ⟨b, 4, none⟩ z) := below_set0 (below_set0 (below_set0 (below_set0 (below_set0 h hB p) hB q) hB r) hB s) hB z

/-- what the document's quotient answers -/
def divV (x y u v e : Int) : Value := .agg #[.int .i64 x, .int .i64 y, .int .i64 u, .int .i64 v, .int .i64 e]

set_option maxRecDepth 100000 in
set_option maxHeartbeats 600000 in
theorem dquo_bad1 (a b c d : Int) (w : World) (h : okP a b = false) : Calls Try.prog 29 #[rv a b, rv c d] w fun e w' => e = .returned (divV 0 0 0 0 1) ∧ Below w.heap.size w w' := by
  have h1 := hide (fun w => dcheck_any a b w)
  have h2 := hide (fun w => dcheck_any c d w)
  have e1 : (w.alloc (.cells #[.int .i64 a, .int .i64 b] 27)).heap.size = w.heap.size + 1 := by simp
  have e2 : ((w.alloc (.cells #[.int .i64 a, .int .i64 b] 27)).alloc (.cells #[.int .i64 c, .int .i64 d] 27)).heap.size = w.heap.size + 2 := by simp
  have t0 := ((two_alloc w (.int .i64 a) (.int .i64 b) 27).alloc (.cells #[.int .i64 c, .int .i64 d] 27)).alloc (.cells #[.int .i64 0, .int .i64 0, .int .i64 0, .int .i64 0, .int .i64 0] 54)
  have t1 := (two_alloc (w.alloc (.cells #[.int .i64 a, .int .i64 b] 27)) (.int .i64 c) (.int .i64 d) 27).alloc (.cells #[.int .i64 0, .int .i64 0, .int .i64 0, .int .i64 0, .int .i64 0] 54)
  have t2 := five_alloc ((w.alloc (.cells #[.int .i64 a, .int .i64 b] 27)).alloc (.cells #[.int .i64 c, .int .i64 d] 27)) (.int .i64 0) (.int .i64 0) (.int .i64 0) (.int .i64 0) (.int .i64 0) 54
  rw [e1] at t1
  rw [e2] at t2
  have T0 := hide t0
  have T1 := hide t1
  have T2 := hide t2
  clear e1 e2 t0 t1 t2
  have BB : Hid (Below w.heap.size w (((w.alloc (.cells #[.int .i64 a, .int .i64 b] 27)).alloc (.cells #[.int .i64 c, .int .i64 d] 27)).alloc (.cells #[.int .i64 0, .int .i64 0, .int .i64 0, .int .i64 0, .int .i64 0] 54))) := (((Below.refl _ _).alloc (Nat.le_refl _) _).alloc (by simp) _).alloc (by simp; omega) _
  have f00 := (unhide T0).c0
  have f01 := (unhide T0).c1
  rw [h] at h1
  clear h
  unfold divV rv at *
  go_enter Try.func29, Try.ntmps29
  go_wp2_with fail
  refine (unhide h1 _).mono ?_
  rintro e w1 ⟨rfl, b1⟩
  clear f00 f01
  have T0n := hide ((unhide T0).up b1)
  have T1n := hide ((unhide T1).up b1)
  have T2n := hide ((unhide T2).up b1)
  have BBn := hide ((unhide BB).trans (b1.mono (unhide BB).size))
  clear b1 BB T0 T1 T2
  have T0 := T0n
  have T1 := T1n
  have T2 := T2n
  have BB := BBn
  clear BBn T0n T1n T2n
  have g0 := (unhide T2).c0
  have k0 := (unhide T2).free 0
  have g1 := (unhide T2).c1
  have k1 := (unhide T2).free 1
  have g2 := (unhide T2).c2
  have k2 := (unhide T2).free 2
  have g3 := (unhide T2).c3
  have k3 := (unhide T2).free 3
  have g4 := (unhide T2).c4
  have k4 := (unhide T2).free 4
  go_wp2
  exact ret_five (k := 4) (ty := 54) (by kernel_rfl) (w.heap.size + 2) 54 (.int .i64 0) (.int .i64 0) (.int .i64 0) (.int .i64 0) (.int .i64 1) _ rfl ((((((unhide T2).set0 _).set1 _).set2 _).set3 _).set4 _) rfl Try.underlying54 (by kernel_rfl) ⟨rfl, below_five (unhide BB) (by omega) _ _ _ _ _⟩

set_option maxRecDepth 100000 in
set_option maxHeartbeats 600000 in
theorem dquo_bad2 (a b c d : Int) (w : World) (h : okP a b = true) (h' : okP c d = false) : Calls Try.prog 29 #[rv a b, rv c d] w fun e w' => e = .returned (divV 0 0 0 0 1) ∧ Below w.heap.size w w' := by
  have h1 := hide (fun w => dcheck_any a b w)
  have h2 := hide (fun w => dcheck_any c d w)
  have e1 : (w.alloc (.cells #[.int .i64 a, .int .i64 b] 27)).heap.size = w.heap.size + 1 := by simp
  have e2 : ((w.alloc (.cells #[.int .i64 a, .int .i64 b] 27)).alloc (.cells #[.int .i64 c, .int .i64 d] 27)).heap.size = w.heap.size + 2 := by simp
  have t0 := ((two_alloc w (.int .i64 a) (.int .i64 b) 27).alloc (.cells #[.int .i64 c, .int .i64 d] 27)).alloc (.cells #[.int .i64 0, .int .i64 0, .int .i64 0, .int .i64 0, .int .i64 0] 54)
  have t1 := (two_alloc (w.alloc (.cells #[.int .i64 a, .int .i64 b] 27)) (.int .i64 c) (.int .i64 d) 27).alloc (.cells #[.int .i64 0, .int .i64 0, .int .i64 0, .int .i64 0, .int .i64 0] 54)
  have t2 := five_alloc ((w.alloc (.cells #[.int .i64 a, .int .i64 b] 27)).alloc (.cells #[.int .i64 c, .int .i64 d] 27)) (.int .i64 0) (.int .i64 0) (.int .i64 0) (.int .i64 0) (.int .i64 0) 54
  rw [e1] at t1
  rw [e2] at t2
  have T0 := hide t0
  have T1 := hide t1
  have T2 := hide t2
  clear e1 e2 t0 t1 t2
  have BB : Hid (Below w.heap.size w (((w.alloc (.cells #[.int .i64 a, .int .i64 b] 27)).alloc (.cells #[.int .i64 c, .int .i64 d] 27)).alloc (.cells #[.int .i64 0, .int .i64 0, .int .i64 0, .int .i64 0, .int .i64 0] 54))) := (((Below.refl _ _).alloc (Nat.le_refl _) _).alloc (by simp) _).alloc (by simp; omega) _
  have f00 := (unhide T0).c0
  have f01 := (unhide T0).c1
  rw [h] at h1
  rw [h'] at h2
  clear h h'
  unfold divV rv at *
  go_enter Try.func29, Try.ntmps29
  go_wp2_with fail
  refine (unhide h1 _).mono ?_
  rintro e w1 ⟨rfl, b1⟩
  clear f00 f01
  have T0n := hide ((unhide T0).up b1)
  have T1n := hide ((unhide T1).up b1)
  have T2n := hide ((unhide T2).up b1)
  have BBn := hide ((unhide BB).trans (b1.mono (unhide BB).size))
  clear b1 BB T0 T1 T2
  have T0 := T0n
  have T1 := T1n
  have T2 := T2n
  have BB := BBn
  clear BBn T0n T1n T2n
  have fT10 := (unhide T1).c0
  have fT11 := (unhide T1).c1
  go_wp2_with fail
  clear fT10 fT11
  refine (unhide h2 _).mono ?_
  rintro e w2 ⟨rfl, b2⟩
  have T0n := hide ((unhide T0).up b2)
  have T1n := hide ((unhide T1).up b2)
  have T2n := hide ((unhide T2).up b2)
  have BBn := hide ((unhide BB).trans (b2.mono (unhide BB).size))
  clear b2 BB T0 T1 T2
  have T0 := T0n
  have T1 := T1n
  have T2 := T2n
  have BB := BBn
  clear BBn T0n T1n T2n
  have g0 := (unhide T2).c0
  have k0 := (unhide T2).free 0
  have g1 := (unhide T2).c1
  have k1 := (unhide T2).free 1
  have g2 := (unhide T2).c2
  have k2 := (unhide T2).free 2
  have g3 := (unhide T2).c3
  have k3 := (unhide T2).free 3
  have g4 := (unhide T2).c4
  have k4 := (unhide T2).free 4
  go_wp2
  exact ret_five (k := 4) (ty := 54) (by kernel_rfl) (w.heap.size + 2) 54 (.int .i64 0) (.int .i64 0) (.int .i64 0) (.int .i64 0) (.int .i64 1) _ rfl ((((((unhide T2).set0 _).set1 _).set2 _).set3 _).set4 _) rfl Try.underlying54 (by kernel_rfl) ⟨rfl, below_five (unhide BB) (by omega) _ _ _ _ _⟩

set_option maxRecDepth 100000 in
set_option maxHeartbeats 600000 in
theorem dquo_bad3 (a b c d : Int) (w : World) (h : okP a b = true) (hc : c = 0) (hd : d = 0) : Calls Try.prog 29 #[rv a b, rv c d] w fun e w' => e = .returned (divV 0 0 0 0 1) ∧ Below w.heap.size w w' := by
  subst hc
  subst hd
  have h1 := hide (fun w => dcheck_any a b w)
  have h2 := hide (fun w => dcheck_any 0 0 w)
  have e1 : (w.alloc (.cells #[.int .i64 a, .int .i64 b] 27)).heap.size = w.heap.size + 1 := by simp
  have e2 : ((w.alloc (.cells #[.int .i64 a, .int .i64 b] 27)).alloc (.cells #[.int .i64 0, .int .i64 0] 27)).heap.size = w.heap.size + 2 := by simp
  have t0 := ((two_alloc w (.int .i64 a) (.int .i64 b) 27).alloc (.cells #[.int .i64 0, .int .i64 0] 27)).alloc (.cells #[.int .i64 0, .int .i64 0, .int .i64 0, .int .i64 0, .int .i64 0] 54)
  have t1 := (two_alloc (w.alloc (.cells #[.int .i64 a, .int .i64 b] 27)) (.int .i64 0) (.int .i64 0) 27).alloc (.cells #[.int .i64 0, .int .i64 0, .int .i64 0, .int .i64 0, .int .i64 0] 54)
  have t2 := five_alloc ((w.alloc (.cells #[.int .i64 a, .int .i64 b] 27)).alloc (.cells #[.int .i64 0, .int .i64 0] 27)) (.int .i64 0) (.int .i64 0) (.int .i64 0) (.int .i64 0) (.int .i64 0) 54
  rw [e1] at t1
  rw [e2] at t2
  have T0 := hide t0
  have T1 := hide t1
  have T2 := hide t2
  clear e1 e2 t0 t1 t2
  have BB : Hid (Below w.heap.size w (((w.alloc (.cells #[.int .i64 a, .int .i64 b] 27)).alloc (.cells #[.int .i64 0, .int .i64 0] 27)).alloc (.cells #[.int .i64 0, .int .i64 0, .int .i64 0, .int .i64 0, .int .i64 0] 54))) := (((Below.refl _ _).alloc (Nat.le_refl _) _).alloc (by simp) _).alloc (by simp; omega) _
  have f00 := (unhide T0).c0
  have f01 := (unhide T0).c1
  rw [h] at h1
  rw [show okP 0 0 = true by decide] at h2
  clear h
  unfold divV rv at *
  go_enter Try.func29, Try.ntmps29
  go_wp2_with fail
  refine (unhide h1 _).mono ?_
  rintro e w1 ⟨rfl, b1⟩
  clear f00 f01
  have T0n := hide ((unhide T0).up b1)
  have T1n := hide ((unhide T1).up b1)
  have T2n := hide ((unhide T2).up b1)
  have BBn := hide ((unhide BB).trans (b1.mono (unhide BB).size))
  clear b1 BB T0 T1 T2
  have T0 := T0n
  have T1 := T1n
  have T2 := T2n
  have BB := BBn
  clear BBn T0n T1n T2n
  have fT10 := (unhide T1).c0
  have fT11 := (unhide T1).c1
  go_wp2_with fail
  clear fT10 fT11
  refine (unhide h2 _).mono ?_
  rintro e w2 ⟨rfl, b2⟩
  have T0n := hide ((unhide T0).up b2)
  have T1n := hide ((unhide T1).up b2)
  have T2n := hide ((unhide T2).up b2)
  have BBn := hide ((unhide BB).trans (b2.mono (unhide BB).size))
  clear b2 BB T0 T1 T2
  have T0 := T0n
  have T1 := T1n
  have T2 := T2n
  have BB := BBn
  clear BBn T0n T1n T2n
  have fT10 := (unhide T1).c0
  have fT11 := (unhide T1).c1
  have g0 := (unhide T2).c0
  have k0 := (unhide T2).free 0
  have g1 := (unhide T2).c1
  have k1 := (unhide T2).free 1
  have g2 := (unhide T2).c2
  have k2 := (unhide T2).free 2
  have g3 := (unhide T2).c3
  have k3 := (unhide T2).free 3
  have g4 := (unhide T2).c4
  have k4 := (unhide T2).free 4
  go_wp2
  exact ret_five (k := 4) (ty := 54) (by kernel_rfl) (w.heap.size + 2) 54 (.int .i64 0) (.int .i64 0) (.int .i64 0) (.int .i64 0) (.int .i64 1) _ rfl ((((((unhide T2).set0 _).set1 _).set2 _).set3 _).set4 _) rfl Try.underlying54 (by kernel_rfl) ⟨rfl, below_five (unhide BB) (by omega) _ _ _ _ _⟩

set_option maxRecDepth 100000 in
set_option maxHeartbeats 600000 in
theorem dquo_good (a b c d : Int) (w : World) (h : okP a b = true) (h' : okP c d = true) (hz : ¬ (c = 0 ∧ d = 0)) : Calls Try.prog 29 #[rv a b, rv c d] w fun e w' => e = .returned (divV (nrt (a * c + b * d) (c * c + d * d)) (nrt (b * c - a * d) (c * c + d * d)) (a - (nrt (a * c + b * d) (c * c + d * d) * c - nrt (b * c - a * d) (c * c + d * d) * d)) (b - (nrt (a * c + b * d) (c * c + d * d) * d + nrt (b * c - a * d) (c * c + d * d) * c)) 0) ∧ Below w.heap.size w w' := by
  have h1 := hide (fun w => dcheck_any a b w)
  have h2 := hide (fun w => dcheck_any c d w)
  have e1 : (w.alloc (.cells #[.int .i64 a, .int .i64 b] 27)).heap.size = w.heap.size + 1 := by simp
  have e2 : ((w.alloc (.cells #[.int .i64 a, .int .i64 b] 27)).alloc (.cells #[.int .i64 c, .int .i64 d] 27)).heap.size = w.heap.size + 2 := by simp
  have t0 := ((two_alloc w (.int .i64 a) (.int .i64 b) 27).alloc (.cells #[.int .i64 c, .int .i64 d] 27)).alloc (.cells #[.int .i64 0, .int .i64 0, .int .i64 0, .int .i64 0, .int .i64 0] 54)
  have t1 := (two_alloc (w.alloc (.cells #[.int .i64 a, .int .i64 b] 27)) (.int .i64 c) (.int .i64 d) 27).alloc (.cells #[.int .i64 0, .int .i64 0, .int .i64 0, .int .i64 0, .int .i64 0] 54)
  have t2 := five_alloc ((w.alloc (.cells #[.int .i64 a, .int .i64 b] 27)).alloc (.cells #[.int .i64 c, .int .i64 d] 27)) (.int .i64 0) (.int .i64 0) (.int .i64 0) (.int .i64 0) (.int .i64 0) 54
  rw [e1] at t1
  rw [e2] at t2
  have T0 := hide t0
  have T1 := hide t1
  have T2 := hide t2
  clear e1 e2 t0 t1 t2
  have BB : Hid (Below w.heap.size w (((w.alloc (.cells #[.int .i64 a, .int .i64 b] 27)).alloc (.cells #[.int .i64 c, .int .i64 d] 27)).alloc (.cells #[.int .i64 0, .int .i64 0, .int .i64 0, .int .i64 0, .int .i64 0] 54))) := (((Below.refl _ _).alloc (Nat.le_refl _) _).alloc (by simp) _).alloc (by simp; omega) _
  have f00 := (unhide T0).c0
  have f01 := (unhide T0).c1
  obtain ⟨⟨a1, a2⟩, a3, a4⟩ := okP_t h
  obtain ⟨⟨c1, c2⟩, c3, c4⟩ := okP_t h'
  rw [h] at h1
  rw [h'] at h2
  have hNn : nrmA c d = c * c + d * d := by unfold nrmA; rw [if_pos h']
  have hn := fun w => dnrm_any c d w
  rw [hNn] at hn
  have Hn := hide hn
  have m1 := abs_mul_le (n := 1048576) (m := 1048576) (show a.natAbs ≤ _ by omega) (show c.natAbs ≤ _ by omega)
  have m2 := abs_mul_le (n := 1048576) (m := 1048576) (show b.natAbs ≤ _ by omega) (show d.natAbs ≤ _ by omega)
  have m3 := abs_mul_le (n := 1048576) (m := 1048576) (show a.natAbs ≤ _ by omega) (show d.natAbs ≤ _ by omega)
  have m4 := abs_mul_le (n := 1048576) (m := 1048576) (show b.natAbs ≤ _ by omega) (show c.natAbs ≤ _ by omega)
  have m5 := abs_mul_le (n := 1048576) (m := 1048576) (show c.natAbs ≤ _ by omega) (show c.natAbs ≤ _ by omega)
  have m6 := abs_mul_le (n := 1048576) (m := 1048576) (show d.natAbs ≤ _ by omega) (show d.natAbs ≤ _ by omega)
  have s1 := abs_le_sq c
  have s2 := abs_le_sq d
  have hN : 0 < c * c + d * d := norm_pos hz
  have hw1 : (a * c + b * d).natAbs ≤ 1048576 * (c * c + d * d).natAbs := by
    have q1 := abs_mul_le (n := 1048576) (m := c.natAbs) (show a.natAbs ≤ _ by omega) (Nat.le_refl _)
    have q2 := abs_mul_le (n := 1048576) (m := d.natAbs) (show b.natAbs ≤ _ by omega) (Nat.le_refl _)
    omega
  have hw2 : (b * c - a * d).natAbs ≤ 1048576 * (c * c + d * d).natAbs := by
    have q1 := abs_mul_le (n := 1048576) (m := c.natAbs) (show b.natAbs ≤ _ by omega) (Nat.le_refl _)
    have q2 := abs_mul_le (n := 1048576) (m := d.natAbs) (show a.natAbs ≤ _ by omega) (Nat.le_refl _)
    omega
  have l1 := nrt_le _ _ hN hw1
  have l2 := nrt_le _ _ hN hw2
  have g1 := hide (fun w => dnearest_any (a * c + b * d) (c * c + d * d) w hN (by omega) (by omega) (by omega))
  have g2 := hide (fun w => dnearest_any (b * c - a * d) (c * c + d * d) w hN (by omega) (by omega) (by omega))
  have y1 : -1099511627776 ≤ a * c ∧ a * c ≤ 1099511627776 := by omega
  have y2 : -1099511627776 ≤ b * d ∧ b * d ≤ 1099511627776 := by omega
  have y3 : -1099511627776 ≤ a * d ∧ a * d ≤ 1099511627776 := by omega
  have y4 : -1099511627776 ≤ b * c ∧ b * c ≤ 1099511627776 := by omega
  clear hw1 hw2 m1 m2 m3 m4 m5 m6 s1 s2 hN hNn hn
  generalize nrt (a * c + b * d) (c * c + d * d) = X at *
  generalize nrt (b * c - a * d) (c * c + d * d) = Y at *
  generalize c * c + d * d = NN at *
  have o1 := abs_mul_le (n := 1048577) (m := 1048576) (show X.natAbs ≤ _ by omega) (show c.natAbs ≤ _ by omega)
  have o2 := abs_mul_le (n := 1048577) (m := 1048576) (show Y.natAbs ≤ _ by omega) (show d.natAbs ≤ _ by omega)
  have o3 := abs_mul_le (n := 1048577) (m := 1048576) (show X.natAbs ≤ _ by omega) (show d.natAbs ≤ _ by omega)
  have o4 := abs_mul_le (n := 1048577) (m := 1048576) (show Y.natAbs ≤ _ by omega) (show c.natAbs ≤ _ by omega)
  have z1 : -1100000000000 ≤ X * c ∧ X * c ≤ 1100000000000 := by omega
  have z2 : -1100000000000 ≤ Y * d ∧ Y * d ≤ 1100000000000 := by omega
  have z3 : -1100000000000 ≤ X * d ∧ X * d ≤ 1100000000000 := by omega
  have z4 : -1100000000000 ≤ Y * c ∧ Y * c ≤ 1100000000000 := by omega
  clear l1 l2 o1 o2 o3 o4 h h'
  by_cases hc : c = 0
  · have hd : ¬ d = 0 := by omega
    have hd1 : (d == 0) = false := by simpa using hd
    have hd2 : decide (d = 0) = false := decide_eq_false hd
    have hc1 : (c == 0) = true := by simpa using hc
    have hc2 : decide (c = 0) = true := decide_eq_true hc
    clear hz hc
    unfold divV rv at *
    go_enter Try.func29, Try.ntmps29
    go_wp2_with fail
    refine (unhide h1 _).mono ?_
    rintro e w1 ⟨rfl, b1⟩
    clear f00 f01
    have T0n := hide ((unhide T0).up b1)
    have T1n := hide ((unhide T1).up b1)
    have T2n := hide ((unhide T2).up b1)
    have BBn := hide ((unhide BB).trans (b1.mono (unhide BB).size))
    clear b1 BB T0 T1 T2
    have T0 := T0n
    have T1 := T1n
    have T2 := T2n
    have BB := BBn
    clear BBn T0n T1n T2n
    have fT10 := (unhide T1).c0
    have fT11 := (unhide T1).c1
    go_wp2_with fail
    clear fT10 fT11
    refine (unhide h2 _).mono ?_
    rintro e w2 ⟨rfl, b2⟩
    have T0n := hide ((unhide T0).up b2)
    have T1n := hide ((unhide T1).up b2)
    have T2n := hide ((unhide T2).up b2)
    have BBn := hide ((unhide BB).trans (b2.mono (unhide BB).size))
    clear b2 BB T0 T1 T2
    have T0 := T0n
    have T1 := T1n
    have T2 := T2n
    have BB := BBn
    clear BBn T0n T1n T2n
    have fT10 := (unhide T1).c0
    have fT11 := (unhide T1).c1
    go_wp2_with fail
    clear fT10 fT11
    refine (unhide Hn _).mono ?_
    rintro e w3 ⟨rfl, b3⟩
    have T0n := hide ((unhide T0).up b3)
    have T1n := hide ((unhide T1).up b3)
    have T2n := hide ((unhide T2).up b3)
    have BBn := hide ((unhide BB).trans (b3.mono (unhide BB).size))
    clear b3 BB T0 T1 T2
    have T0 := T0n
    have T1 := T1n
    have T2 := T2n
    have BB := BBn
    clear BBn T0n T1n T2n
    go_wp2_with fail
    refine wp_region_box 27 28 6 55 27 #[.int .i64 0, .int .i64 0] #[.int .i64 X, .int .i64 Y] ?A1 (by omega) (by omega) (by kernel_rfl) (by kernel_rfl) (by kernel_rfl) (by kernel_rfl) zero_ref rfl (by kernel_rfl) (two_one _ _) ?lex1 ?hq1 ?_
    case lex1 =>
      intro Z
      have p00 : ∀ x : Gb Z.w, _ := fun x => (gb_two (gb_two (unhide T0) Z) x).c0
      have p01 : ∀ x : Gb Z.w, _ := fun x => (gb_two (gb_two (unhide T0) Z) x).c1
      have p10 : ∀ x : Gb Z.w, _ := fun x => (gb_two (gb_two (unhide T1) Z) x).c0
      have p11 : ∀ x : Gb Z.w, _ := fun x => (gb_two (gb_two (unhide T1) Z) x).c1
      have hne := gb_ne Z.w
      dsimp only [boxRest, List.eraseIdx_cons_succ, List.eraseIdx_cons_zero]
      iterate 13 (go_big_quiet_step ((go_at_call 47; exact gb_same (unhide g1 _))))
      repeat (go_big_quiet_step ((go_at_call 47; exact gb_same (unhide g2 _))))
      refine wpQuiet_nil ?_
      exact rfl
    case hq1 => exact rfl
    intro g w4 b4 hu tu
    simp only [Act.put, List.setIfInBounds_toArray, List.set_cons_succ, List.set_cons_zero]
    have T4 : Hid (Two w4 g (.int .i64 X) (.int .i64 Y) 27) := tu
    clear hu tu
    have T0n := hide ((unhide T0).up b4)
    have T1n := hide ((unhide T1).up b4)
    have T2n := hide ((unhide T2).up b4)
    have BBn := hide ((unhide BB).trans (b4.mono (unhide BB).size))
    clear b4 BB T0 T1 T2
    have T0 := T0n
    have T1 := T1n
    have T2 := T2n
    have BB := BBn
    clear BBn T0n T1n T2n
    have fT00 := (unhide T0).c0
    have fT01 := (unhide T0).c1
    have fT10 := (unhide T1).c0
    have fT11 := (unhide T1).c1
    have fT40 := (unhide T4).c0
    have fT41 := (unhide T4).c1
    have g0 := (unhide T2).c0
    have k0 := (unhide T2).free 0
    have g1 := (unhide T2).c1
    have k1 := (unhide T2).free 1
    have g2 := (unhide T2).c2
    have k2 := (unhide T2).free 2
    have g3 := (unhide T2).c3
    have k3 := (unhide T2).free 3
    have g4 := (unhide T2).c4
    have k4 := (unhide T2).free 4
    have n4 := (unhide T4).alloc (.cells #[.int .i64 (a - (X * c - Y * d)), .int .i64 (b - (X * d + Y * c))] 27)
    have n2 := (unhide T2).alloc (.cells #[.int .i64 (a - (X * c - Y * d)), .int .i64 (b - (X * d + Y * c))] 27)
    have nn := two_alloc w4 (.int .i64 (a - (X * c - Y * d))) (.int .i64 (b - (X * d + Y * c))) 27
    have r0 := n4.c0
    have r1 := n4.c1
    have r2 := nn.c0
    have r3 := nn.c1
    have v0 := n2.c0
    have x0 := n2.free 0
    have v1 := n2.c1
    have x1 := n2.free 1
    have v2 := n2.c2
    have x2 := n2.free 2
    have v3 := n2.c3
    have x3 := n2.free 3
    have v4 := n2.c4
    have x4 := n2.free 4
    have N2 : Hid (Five (w4.alloc (.cells #[.int .i64 (a - (X * c - Y * d)), .int .i64 (b - (X * d + Y * c))] 27)) (w.heap.size + 1 + 1) _ _ _ _ _ _) := n2
    have BN : Hid (Below w.heap.size w (w4.alloc (.cells #[.int .i64 (a - (X * c - Y * d)), .int .i64 (b - (X * d + Y * c))] 27))) := (unhide BB).alloc (unhide BB).size _
    clear n4 n2 nn
    go_wp2
    exact ret_five (k := 4) (ty := 54) (by kernel_rfl) (w.heap.size + 1 + 1) 54 (.int .i64 X) (.int .i64 Y) (.int .i64 (a - (X * c - Y * d))) (.int .i64 (b - (X * d + Y * c))) (.int .i64 0) _ rfl ((((((unhide N2).set0 _).set1 _).set2 _).set3 _).set4 _) rfl Try.underlying54 (by kernel_rfl) ⟨rfl, below_five (unhide BN) (by omega) _ _ _ _ _⟩
  · have hc1 : (c == 0) = false := by simpa using hc
    have hc2 : decide (c = 0) = false := decide_eq_false hc
    clear hz
    unfold divV rv at *
    go_enter Try.func29, Try.ntmps29
    go_wp2_with fail
    refine (unhide h1 _).mono ?_
    rintro e w1 ⟨rfl, b1⟩
    clear f00 f01
    have T0n := hide ((unhide T0).up b1)
    have T1n := hide ((unhide T1).up b1)
    have T2n := hide ((unhide T2).up b1)
    have BBn := hide ((unhide BB).trans (b1.mono (unhide BB).size))
    clear b1 BB T0 T1 T2
    have T0 := T0n
    have T1 := T1n
    have T2 := T2n
    have BB := BBn
    clear BBn T0n T1n T2n
    have fT10 := (unhide T1).c0
    have fT11 := (unhide T1).c1
    go_wp2_with fail
    clear fT10 fT11
    refine (unhide h2 _).mono ?_
    rintro e w2 ⟨rfl, b2⟩
    have T0n := hide ((unhide T0).up b2)
    have T1n := hide ((unhide T1).up b2)
    have T2n := hide ((unhide T2).up b2)
    have BBn := hide ((unhide BB).trans (b2.mono (unhide BB).size))
    clear b2 BB T0 T1 T2
    have T0 := T0n
    have T1 := T1n
    have T2 := T2n
    have BB := BBn
    clear BBn T0n T1n T2n
    have fT10 := (unhide T1).c0
    have fT11 := (unhide T1).c1
    go_wp2_with fail
    clear fT10 fT11
    refine (unhide Hn _).mono ?_
    rintro e w3 ⟨rfl, b3⟩
    have T0n := hide ((unhide T0).up b3)
    have T1n := hide ((unhide T1).up b3)
    have T2n := hide ((unhide T2).up b3)
    have BBn := hide ((unhide BB).trans (b3.mono (unhide BB).size))
    clear b3 BB T0 T1 T2
    have T0 := T0n
    have T1 := T1n
    have T2 := T2n
    have BB := BBn
    clear BBn T0n T1n T2n
    go_wp2_with fail
    refine wp_region_box 27 28 6 55 27 #[.int .i64 0, .int .i64 0] #[.int .i64 X, .int .i64 Y] ?A7 (by omega) (by omega) (by kernel_rfl) (by kernel_rfl) (by kernel_rfl) (by kernel_rfl) zero_ref rfl (by kernel_rfl) (two_one _ _) ?lex7 ?hq7 ?_
    case lex7 =>
      intro Z
      have p00 : ∀ x : Gb Z.w, _ := fun x => (gb_two (gb_two (unhide T0) Z) x).c0
      have p01 : ∀ x : Gb Z.w, _ := fun x => (gb_two (gb_two (unhide T0) Z) x).c1
      have p10 : ∀ x : Gb Z.w, _ := fun x => (gb_two (gb_two (unhide T1) Z) x).c0
      have p11 : ∀ x : Gb Z.w, _ := fun x => (gb_two (gb_two (unhide T1) Z) x).c1
      have hne := gb_ne Z.w
      dsimp only [boxRest, List.eraseIdx_cons_succ, List.eraseIdx_cons_zero]
      iterate 13 (go_big_quiet_step ((go_at_call 47; exact gb_same (unhide g1 _))))
      repeat (go_big_quiet_step ((go_at_call 47; exact gb_same (unhide g2 _))))
      refine wpQuiet_nil ?_
      exact rfl
    case hq7 => exact rfl
    intro g w4 b4 hu tu
    simp only [Act.put, List.setIfInBounds_toArray, List.set_cons_succ, List.set_cons_zero]
    have T4 : Hid (Two w4 g (.int .i64 X) (.int .i64 Y) 27) := tu
    clear hu tu
    have T0n := hide ((unhide T0).up b4)
    have T1n := hide ((unhide T1).up b4)
    have T2n := hide ((unhide T2).up b4)
    have BBn := hide ((unhide BB).trans (b4.mono (unhide BB).size))
    clear b4 BB T0 T1 T2
    have T0 := T0n
    have T1 := T1n
    have T2 := T2n
    have BB := BBn
    clear BBn T0n T1n T2n
    have fT00 := (unhide T0).c0
    have fT01 := (unhide T0).c1
    have fT10 := (unhide T1).c0
    have fT11 := (unhide T1).c1
    have fT40 := (unhide T4).c0
    have fT41 := (unhide T4).c1
    have g0 := (unhide T2).c0
    have k0 := (unhide T2).free 0
    have g1 := (unhide T2).c1
    have k1 := (unhide T2).free 1
    have g2 := (unhide T2).c2
    have k2 := (unhide T2).free 2
    have g3 := (unhide T2).c3
    have k3 := (unhide T2).free 3
    have g4 := (unhide T2).c4
    have k4 := (unhide T2).free 4
    have n4 := (unhide T4).alloc (.cells #[.int .i64 (a - (X * c - Y * d)), .int .i64 (b - (X * d + Y * c))] 27)
    have n2 := (unhide T2).alloc (.cells #[.int .i64 (a - (X * c - Y * d)), .int .i64 (b - (X * d + Y * c))] 27)
    have nn := two_alloc w4 (.int .i64 (a - (X * c - Y * d))) (.int .i64 (b - (X * d + Y * c))) 27
    have r0 := n4.c0
    have r1 := n4.c1
    have r2 := nn.c0
    have r3 := nn.c1
    have v0 := n2.c0
    have x0 := n2.free 0
    have v1 := n2.c1
    have x1 := n2.free 1
    have v2 := n2.c2
    have x2 := n2.free 2
    have v3 := n2.c3
    have x3 := n2.free 3
    have v4 := n2.c4
    have x4 := n2.free 4
    have N2 : Hid (Five (w4.alloc (.cells #[.int .i64 (a - (X * c - Y * d)), .int .i64 (b - (X * d + Y * c))] 27)) (w.heap.size + 1 + 1) _ _ _ _ _ _) := n2
    have BN : Hid (Below w.heap.size w (w4.alloc (.cells #[.int .i64 (a - (X * c - Y * d)), .int .i64 (b - (X * d + Y * c))] 27))) := (unhide BB).alloc (unhide BB).size _
    clear n4 n2 nn
    go_wp2
    exact ret_five (k := 4) (ty := 54) (by kernel_rfl) (w.heap.size + 1 + 1) 54 (.int .i64 X) (.int .i64 Y) (.int .i64 (a - (X * c - Y * d))) (.int .i64 (b - (X * d + Y * c))) (.int .i64 0) _ rfl ((((((unhide N2).set0 _).set1 _).set2 _).set3 _).set4 _) rfl Try.underlying54 (by kernel_rfl) ⟨rfl, below_five (unhide BN) (by omega) _ _ _ _ _⟩

end Go.Proofs.Ythodhabjcbohcaa

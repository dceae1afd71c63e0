/- Contract of plane's Quo. -/
import Derived.Test.YthodhabjcbohcaaPlX
import Derived.Test.YthodhabjcbohcaaPlR
namespace Go.Proofs.Ythodhabjcbohcaa
open Go.RowKit
set_option linter.unusedVariables false

theorem results_three {P : Program} {fn : Func} {p p2 q : Tmp} {ty : TypeId} (h : fn.results = #[.cell p ty, .cell p2 ty, .tmp q]) (tmps : Array Value) (w : World) (g g2 : Nat) (t t2 : TypeId) (x y u v : Value) (fs : Array Field)
    (hp : tmps.getD p undef = .pointer (some ⟨g, 0, none⟩)) (hp2 : tmps.getD p2 undef = .pointer (some ⟨g2, 0, none⟩)) (hg : Two w g x y t) (hg2 : Two w g2 u v t2) (hu : P.underlying ty = some (.struct fs)) (hi : (P.info? ty).map (·.size) = some 2) :
    (results fn tmps).run P w = .ok (.tuple #[.agg #[x, y], .agg #[u, v], tmps.getD q undef]) w := by
  have hp' : tmps[p]?.getD undef = .pointer (some ⟨g, 0, none⟩) := by simpa using hp
  have hp2' : tmps[p2]?.getD undef = .pointer (some ⟨g2, 0, none⟩) := by simpa using hp2
  simp [results, h, hp', hp2', asAddr, run_loadVar_row w g t ty #[x, y] (0, 0) _ hg hu rfl (by simpa using hi), run_loadVar_row w g2 t2 ty #[u, v] (0, 0) _ hg2 hu rfl (by simpa using hi)]
theorem ret_three {fn : Func} {p p2 q : Tmp} {ty : TypeId} {a : Act} {w : World} {R : Ending → World → Prop} (h : fn.results = #[.cell p ty, .cell p2 ty, .tmp q]) (g g2 : Nat) (t t2 : TypeId) (x y u v z : Value) (fs : Array Field)
    (hp : a.tmps.getD p undef = .pointer (some ⟨g, 0, none⟩)) (hp2 : a.tmps.getD p2 undef = .pointer (some ⟨g2, 0, none⟩)) (hz : a.tmps.getD q undef = z) (hg : Two w g x y t) (hg2 : Two w g2 u v t2) (hdf : a.defers = []) (hu : Try.prog.underlying ty = some (.struct fs)) (hi : (Try.prog.info? ty).map (·.size) = some 2)
    (hR : R (.returned (.tuple #[.agg #[x, y], .agg #[u, v], z])) w) : bodyPost Try.prog fn R .ret a w := by
  refine bodyPost_ret (results_three h _ w g g2 t t2 x y u v fs hp hp2 hg hg2 hu hi) hdf ?_
  rw [hz]
  exact hR

/-- the quotient, the rest and the error -/
def quoV (x y u v e : Int) : Value := .tuple #[rv x y, rv u v, .int .i64 e]

set_option maxRecDepth 100000 in
set_option maxHeartbeats 600000 in
theorem quo_bad1 (a b c d : Int) (w : World) (h : okP a b = false) : Calls Try.prog 28 #[rv a b, rv c d] w fun e w' => e = .returned (quoV 0 0 0 0 1) ∧ Below w.heap.size w w' := by
  have h1 := hide (fun w => check_any a b w)
  have h2 := hide (fun w => check_any c d w)
  have e1 : (w.alloc (.cells #[.int .i64 a, .int .i64 b] 23)).heap.size = w.heap.size + 1 := by simp
  have e2 : ((w.alloc (.cells #[.int .i64 a, .int .i64 b] 23)).alloc (.cells #[.int .i64 c, .int .i64 d] 23)).heap.size = w.heap.size + 2 := by simp
  have e3 : (((w.alloc (.cells #[.int .i64 a, .int .i64 b] 23)).alloc (.cells #[.int .i64 c, .int .i64 d] 23)).alloc (.cells #[.int .i64 0, .int .i64 0] 23)).heap.size = w.heap.size + 3 := by simp
  have t0 := (((two_alloc w (.int .i64 a) (.int .i64 b) 23).alloc (.cells #[.int .i64 c, .int .i64 d] 23)).alloc (.cells #[.int .i64 0, .int .i64 0] 23)).alloc (.cells #[.int .i64 0, .int .i64 0] 23)
  have t1 := ((two_alloc (w.alloc (.cells #[.int .i64 a, .int .i64 b] 23)) (.int .i64 c) (.int .i64 d) 23).alloc (.cells #[.int .i64 0, .int .i64 0] 23)).alloc (.cells #[.int .i64 0, .int .i64 0] 23)
  have t2 := (two_alloc ((w.alloc (.cells #[.int .i64 a, .int .i64 b] 23)).alloc (.cells #[.int .i64 c, .int .i64 d] 23)) (.int .i64 0) (.int .i64 0) 23).alloc (.cells #[.int .i64 0, .int .i64 0] 23)
  have t3 := two_alloc (((w.alloc (.cells #[.int .i64 a, .int .i64 b] 23)).alloc (.cells #[.int .i64 c, .int .i64 d] 23)).alloc (.cells #[.int .i64 0, .int .i64 0] 23)) (.int .i64 0) (.int .i64 0) 23
  rw [e1] at t1
  rw [e2] at t2
  rw [e3] at t3
  have T0 := hide t0
  have T1 := hide t1
  have T2 := hide t2
  have T3 := hide t3
  clear e1 e2 e3 t0 t1 t2 t3
  have BB : Hid (Below w.heap.size w ((((w.alloc (.cells #[.int .i64 a, .int .i64 b] 23)).alloc (.cells #[.int .i64 c, .int .i64 d] 23)).alloc (.cells #[.int .i64 0, .int .i64 0] 23)).alloc (.cells #[.int .i64 0, .int .i64 0] 23))) := ((((Below.refl _ _).alloc (Nat.le_refl _) _).alloc (by simp) _).alloc (by simp; omega) _).alloc (by simp; omega) _
  have f00 := (unhide T0).c0
  have f01 := (unhide T0).c1
  rw [h] at h1
  clear h
  unfold quoV rv at *
  go_enter Try.func28, Try.ntmps28
  go_wp2_with fail
  refine (unhide h1 _).mono ?_
  rintro e w1 ⟨rfl, b1⟩
  clear f00 f01
  have T0n := hide ((unhide T0).up b1)
  have T1n := hide ((unhide T1).up b1)
  have T2n := hide ((unhide T2).up b1)
  have T3n := hide ((unhide T3).up b1)
  have BBn := hide ((unhide BB).trans (b1.mono (unhide BB).size))
  clear b1 BB T0 T1 T2 T3
  have T0 := T0n
  have T1 := T1n
  have T2 := T2n
  have T3 := T3n
  have BB := BBn
  clear BBn T0n T1n T2n T3n
  have fT20 := (unhide T2).c0
  have fT21 := (unhide T2).c1
  have fT22 := (unhide T2).free 0
  have fT23 := (unhide T2).free 1
  have fT30 := (unhide T3).c0
  have fT31 := (unhide T3).c1
  have fT32 := (unhide T3).free 0
  have fT33 := (unhide T3).free 1
  go_wp2_with fail
  go_region
  have q2 : Two w1 (w.heap.size + 1 + 1) _ _ _ := unhide T2
  have q3 : Two w1 (w.heap.size + 1 + 1 + 1) _ _ _ := unhide T3
  have u2 := (((q2.set0 (.int .i64 0)).set1 (.int .i64 0)).other ⟨w.heap.size + 1 + 1 + 1, 0, none⟩ (.int .i64 0) (by show w.heap.size + 1 + 1 + 1 ≠ w.heap.size + 1 + 1; omega)).other ⟨w.heap.size + 1 + 1 + 1, 1, none⟩ (.int .i64 0) (by show w.heap.size + 1 + 1 + 1 ≠ w.heap.size + 1 + 1; omega)
  have u3 := (((q3.other ⟨w.heap.size + 1 + 1, 0, none⟩ (.int .i64 0) (by show w.heap.size + 1 + 1 ≠ w.heap.size + 1 + 1 + 1; omega)).other ⟨w.heap.size + 1 + 1, 1, none⟩ (.int .i64 0) (by show w.heap.size + 1 + 1 ≠ w.heap.size + 1 + 1 + 1; omega)).set0 (.int .i64 0)).set1 (.int .i64 0)
  have B9 := below_two (b := w.heap.size + 1 + 1 + 1) (below_two (b := w.heap.size + 1 + 1) (unhide BB) (by omega) (.int .i64 0) (.int .i64 0)) (by omega) (.int .i64 0) (.int .i64 0)
  generalize (((w1.setCell ⟨w.heap.size + 1 + 1, 0, none⟩ (.int .i64 0)).setCell ⟨w.heap.size + 1 + 1, 1, none⟩ (.int .i64 0)).setCell ⟨w.heap.size + 1 + 1 + 1, 0, none⟩ (.int .i64 0)).setCell ⟨w.heap.size + 1 + 1 + 1, 1, none⟩ (.int .i64 0) = W9 at *
  have U2 := hide u2.drew
  have U3 := hide u3.drew
  have C9 := hide B9.drew
  clear q2 q3 u2 u3 B9 fT20 fT21 fT22 fT23 fT30 fT31 fT32 fT33
  generalize W9.drew = W10 at *
  go_wp2
  exact ret_three (p := 4) (p2 := 5) (q := 6) (ty := 23) (by kernel_rfl) (w.heap.size + 1 + 1) (w.heap.size + 1 + 1 + 1) 23 23 (.int .i64 0) (.int .i64 0) (.int .i64 0) (.int .i64 0) (.int .i64 1) _ rfl rfl rfl (unhide U2) (unhide U3) rfl Try.underlying23 (by kernel_rfl) ⟨rfl, unhide C9⟩

set_option maxRecDepth 100000 in
set_option maxHeartbeats 600000 in
theorem quo_bad2 (a b c d : Int) (w : World) (h : okP a b = true) (h' : okP c d = false) : Calls Try.prog 28 #[rv a b, rv c d] w fun e w' => e = .returned (quoV 0 0 0 0 1) ∧ Below w.heap.size w w' := by
  have h1 := hide (fun w => check_any a b w)
  have h2 := hide (fun w => check_any c d w)
  have e1 : (w.alloc (.cells #[.int .i64 a, .int .i64 b] 23)).heap.size = w.heap.size + 1 := by simp
  have e2 : ((w.alloc (.cells #[.int .i64 a, .int .i64 b] 23)).alloc (.cells #[.int .i64 c, .int .i64 d] 23)).heap.size = w.heap.size + 2 := by simp
  have e3 : (((w.alloc (.cells #[.int .i64 a, .int .i64 b] 23)).alloc (.cells #[.int .i64 c, .int .i64 d] 23)).alloc (.cells #[.int .i64 0, .int .i64 0] 23)).heap.size = w.heap.size + 3 := by simp
  have t0 := (((two_alloc w (.int .i64 a) (.int .i64 b) 23).alloc (.cells #[.int .i64 c, .int .i64 d] 23)).alloc (.cells #[.int .i64 0, .int .i64 0] 23)).alloc (.cells #[.int .i64 0, .int .i64 0] 23)
  have t1 := ((two_alloc (w.alloc (.cells #[.int .i64 a, .int .i64 b] 23)) (.int .i64 c) (.int .i64 d) 23).alloc (.cells #[.int .i64 0, .int .i64 0] 23)).alloc (.cells #[.int .i64 0, .int .i64 0] 23)
  have t2 := (two_alloc ((w.alloc (.cells #[.int .i64 a, .int .i64 b] 23)).alloc (.cells #[.int .i64 c, .int .i64 d] 23)) (.int .i64 0) (.int .i64 0) 23).alloc (.cells #[.int .i64 0, .int .i64 0] 23)
  have t3 := two_alloc (((w.alloc (.cells #[.int .i64 a, .int .i64 b] 23)).alloc (.cells #[.int .i64 c, .int .i64 d] 23)).alloc (.cells #[.int .i64 0, .int .i64 0] 23)) (.int .i64 0) (.int .i64 0) 23
  rw [e1] at t1
  rw [e2] at t2
  rw [e3] at t3
  have T0 := hide t0
  have T1 := hide t1
  have T2 := hide t2
  have T3 := hide t3
  clear e1 e2 e3 t0 t1 t2 t3
  have BB : Hid (Below w.heap.size w ((((w.alloc (.cells #[.int .i64 a, .int .i64 b] 23)).alloc (.cells #[.int .i64 c, .int .i64 d] 23)).alloc (.cells #[.int .i64 0, .int .i64 0] 23)).alloc (.cells #[.int .i64 0, .int .i64 0] 23))) := ((((Below.refl _ _).alloc (Nat.le_refl _) _).alloc (by simp) _).alloc (by simp; omega) _).alloc (by simp; omega) _
  have f00 := (unhide T0).c0
  have f01 := (unhide T0).c1
  rw [h] at h1
  rw [h'] at h2
  clear h h'
  unfold quoV rv at *
  go_enter Try.func28, Try.ntmps28
  go_wp2_with fail
  refine (unhide h1 _).mono ?_
  rintro e w1 ⟨rfl, b1⟩
  clear f00 f01
  have T0n := hide ((unhide T0).up b1)
  have T1n := hide ((unhide T1).up b1)
  have T2n := hide ((unhide T2).up b1)
  have T3n := hide ((unhide T3).up b1)
  have BBn := hide ((unhide BB).trans (b1.mono (unhide BB).size))
  clear b1 BB T0 T1 T2 T3
  have T0 := T0n
  have T1 := T1n
  have T2 := T2n
  have T3 := T3n
  have BB := BBn
  clear BBn T0n T1n T2n T3n
  have fT10 := (unhide T1).c0
  have fT11 := (unhide T1).c1
  go_wp2_with fail
  clear fT10 fT11
  refine (unhide h2 _).mono ?_
  rintro e w2 ⟨rfl, b2⟩
  have T0n := hide ((unhide T0).up b2)
  have T1n := hide ((unhide T1).up b2)
  have T2n := hide ((unhide T2).up b2)
  have T3n := hide ((unhide T3).up b2)
  have BBn := hide ((unhide BB).trans (b2.mono (unhide BB).size))
  clear b2 BB T0 T1 T2 T3
  have T0 := T0n
  have T1 := T1n
  have T2 := T2n
  have T3 := T3n
  have BB := BBn
  clear BBn T0n T1n T2n T3n
  have fT20 := (unhide T2).c0
  have fT21 := (unhide T2).c1
  have fT22 := (unhide T2).free 0
  have fT23 := (unhide T2).free 1
  have fT30 := (unhide T3).c0
  have fT31 := (unhide T3).c1
  have fT32 := (unhide T3).free 0
  have fT33 := (unhide T3).free 1
  go_wp2_with fail
  go_region
  have q2 : Two w2 (w.heap.size + 1 + 1) _ _ _ := unhide T2
  have q3 : Two w2 (w.heap.size + 1 + 1 + 1) _ _ _ := unhide T3
  have u2 := (((q2.set0 (.int .i64 0)).set1 (.int .i64 0)).other ⟨w.heap.size + 1 + 1 + 1, 0, none⟩ (.int .i64 0) (by show w.heap.size + 1 + 1 + 1 ≠ w.heap.size + 1 + 1; omega)).other ⟨w.heap.size + 1 + 1 + 1, 1, none⟩ (.int .i64 0) (by show w.heap.size + 1 + 1 + 1 ≠ w.heap.size + 1 + 1; omega)
  have u3 := (((q3.other ⟨w.heap.size + 1 + 1, 0, none⟩ (.int .i64 0) (by show w.heap.size + 1 + 1 ≠ w.heap.size + 1 + 1 + 1; omega)).other ⟨w.heap.size + 1 + 1, 1, none⟩ (.int .i64 0) (by show w.heap.size + 1 + 1 ≠ w.heap.size + 1 + 1 + 1; omega)).set0 (.int .i64 0)).set1 (.int .i64 0)
  have B9 := below_two (b := w.heap.size + 1 + 1 + 1) (below_two (b := w.heap.size + 1 + 1) (unhide BB) (by omega) (.int .i64 0) (.int .i64 0)) (by omega) (.int .i64 0) (.int .i64 0)
  generalize (((w2.setCell ⟨w.heap.size + 1 + 1, 0, none⟩ (.int .i64 0)).setCell ⟨w.heap.size + 1 + 1, 1, none⟩ (.int .i64 0)).setCell ⟨w.heap.size + 1 + 1 + 1, 0, none⟩ (.int .i64 0)).setCell ⟨w.heap.size + 1 + 1 + 1, 1, none⟩ (.int .i64 0) = W9 at *
  have U2 := hide u2.drew
  have U3 := hide u3.drew
  have C9 := hide B9.drew
  clear q2 q3 u2 u3 B9 fT20 fT21 fT22 fT23 fT30 fT31 fT32 fT33
  generalize W9.drew = W10 at *
  go_wp2
  exact ret_three (p := 4) (p2 := 5) (q := 6) (ty := 23) (by kernel_rfl) (w.heap.size + 1 + 1) (w.heap.size + 1 + 1 + 1) 23 23 (.int .i64 0) (.int .i64 0) (.int .i64 0) (.int .i64 0) (.int .i64 1) _ rfl rfl rfl (unhide U2) (unhide U3) rfl Try.underlying23 (by kernel_rfl) ⟨rfl, unhide C9⟩

set_option maxRecDepth 100000 in
set_option maxHeartbeats 600000 in
theorem quo_bad3 (a b : Int) (w : World) (h : okP a b = true) : Calls Try.prog 28 #[rv a b, rv 0 0] w fun e w' => e = .returned (quoV 0 0 0 0 1) ∧ Below w.heap.size w w' := by
  have h1 := hide (fun w => check_any a b w)
  have h2 := hide (fun w => check_any 0 0 w)
  have e1 : (w.alloc (.cells #[.int .i64 a, .int .i64 b] 23)).heap.size = w.heap.size + 1 := by simp
  have e2 : ((w.alloc (.cells #[.int .i64 a, .int .i64 b] 23)).alloc (.cells #[.int .i64 0, .int .i64 0] 23)).heap.size = w.heap.size + 2 := by simp
  have e3 : (((w.alloc (.cells #[.int .i64 a, .int .i64 b] 23)).alloc (.cells #[.int .i64 0, .int .i64 0] 23)).alloc (.cells #[.int .i64 0, .int .i64 0] 23)).heap.size = w.heap.size + 3 := by simp
  have t0 := (((two_alloc w (.int .i64 a) (.int .i64 b) 23).alloc (.cells #[.int .i64 0, .int .i64 0] 23)).alloc (.cells #[.int .i64 0, .int .i64 0] 23)).alloc (.cells #[.int .i64 0, .int .i64 0] 23)
  have t1 := ((two_alloc (w.alloc (.cells #[.int .i64 a, .int .i64 b] 23)) (.int .i64 0) (.int .i64 0) 23).alloc (.cells #[.int .i64 0, .int .i64 0] 23)).alloc (.cells #[.int .i64 0, .int .i64 0] 23)
  have t2 := (two_alloc ((w.alloc (.cells #[.int .i64 a, .int .i64 b] 23)).alloc (.cells #[.int .i64 0, .int .i64 0] 23)) (.int .i64 0) (.int .i64 0) 23).alloc (.cells #[.int .i64 0, .int .i64 0] 23)
  have t3 := two_alloc (((w.alloc (.cells #[.int .i64 a, .int .i64 b] 23)).alloc (.cells #[.int .i64 0, .int .i64 0] 23)).alloc (.cells #[.int .i64 0, .int .i64 0] 23)) (.int .i64 0) (.int .i64 0) 23
  rw [e1] at t1
  rw [e2] at t2
  rw [e3] at t3
  have T0 := hide t0
  have T1 := hide t1
  have T2 := hide t2
  have T3 := hide t3
  clear e1 e2 e3 t0 t1 t2 t3
  have BB : Hid (Below w.heap.size w ((((w.alloc (.cells #[.int .i64 a, .int .i64 b] 23)).alloc (.cells #[.int .i64 0, .int .i64 0] 23)).alloc (.cells #[.int .i64 0, .int .i64 0] 23)).alloc (.cells #[.int .i64 0, .int .i64 0] 23))) := ((((Below.refl _ _).alloc (Nat.le_refl _) _).alloc (by simp) _).alloc (by simp; omega) _).alloc (by simp; omega) _
  have f00 := (unhide T0).c0
  have f01 := (unhide T0).c1
  rw [h] at h1
  rw [show okP 0 0 = true by decide] at h2
  clear h
  unfold quoV rv at *
  go_enter Try.func28, Try.ntmps28
  go_wp2_with fail
  refine (unhide h1 _).mono ?_
  rintro e w1 ⟨rfl, b1⟩
  clear f00 f01
  have T0n := hide ((unhide T0).up b1)
  have T1n := hide ((unhide T1).up b1)
  have T2n := hide ((unhide T2).up b1)
  have T3n := hide ((unhide T3).up b1)
  have BBn := hide ((unhide BB).trans (b1.mono (unhide BB).size))
  clear b1 BB T0 T1 T2 T3
  have T0 := T0n
  have T1 := T1n
  have T2 := T2n
  have T3 := T3n
  have BB := BBn
  clear BBn T0n T1n T2n T3n
  have fT10 := (unhide T1).c0
  have fT11 := (unhide T1).c1
  go_wp2_with fail
  clear fT10 fT11
  refine (unhide h2 _).mono ?_
  rintro e w2 ⟨rfl, b2⟩
  have T0n := hide ((unhide T0).up b2)
  have T1n := hide ((unhide T1).up b2)
  have T2n := hide ((unhide T2).up b2)
  have T3n := hide ((unhide T3).up b2)
  have BBn := hide ((unhide BB).trans (b2.mono (unhide BB).size))
  clear b2 BB T0 T1 T2 T3
  have T0 := T0n
  have T1 := T1n
  have T2 := T2n
  have T3 := T3n
  have BB := BBn
  clear BBn T0n T1n T2n T3n
  have fT10 := (unhide T1).c0
  have fT11 := (unhide T1).c1
  have fT20 := (unhide T2).c0
  have fT21 := (unhide T2).c1
  have fT22 := (unhide T2).free 0
  have fT23 := (unhide T2).free 1
  have fT30 := (unhide T3).c0
  have fT31 := (unhide T3).c1
  have fT32 := (unhide T3).free 0
  have fT33 := (unhide T3).free 1
  go_wp2_with fail
  go_region
  have q2 : Two w2 (w.heap.size + 1 + 1) _ _ _ := unhide T2
  have q3 : Two w2 (w.heap.size + 1 + 1 + 1) _ _ _ := unhide T3
  have u2 := (((q2.set0 (.int .i64 0)).set1 (.int .i64 0)).other ⟨w.heap.size + 1 + 1 + 1, 0, none⟩ (.int .i64 0) (by show w.heap.size + 1 + 1 + 1 ≠ w.heap.size + 1 + 1; omega)).other ⟨w.heap.size + 1 + 1 + 1, 1, none⟩ (.int .i64 0) (by show w.heap.size + 1 + 1 + 1 ≠ w.heap.size + 1 + 1; omega)
  have u3 := (((q3.other ⟨w.heap.size + 1 + 1, 0, none⟩ (.int .i64 0) (by show w.heap.size + 1 + 1 ≠ w.heap.size + 1 + 1 + 1; omega)).other ⟨w.heap.size + 1 + 1, 1, none⟩ (.int .i64 0) (by show w.heap.size + 1 + 1 ≠ w.heap.size + 1 + 1 + 1; omega)).set0 (.int .i64 0)).set1 (.int .i64 0)
  have B9 := below_two (b := w.heap.size + 1 + 1 + 1) (below_two (b := w.heap.size + 1 + 1) (unhide BB) (by omega) (.int .i64 0) (.int .i64 0)) (by omega) (.int .i64 0) (.int .i64 0)
  generalize (((w2.setCell ⟨w.heap.size + 1 + 1, 0, none⟩ (.int .i64 0)).setCell ⟨w.heap.size + 1 + 1, 1, none⟩ (.int .i64 0)).setCell ⟨w.heap.size + 1 + 1 + 1, 0, none⟩ (.int .i64 0)).setCell ⟨w.heap.size + 1 + 1 + 1, 1, none⟩ (.int .i64 0) = W9 at *
  have U2 := hide u2.drew
  have U3 := hide u3.drew
  have C9 := hide B9.drew
  clear q2 q3 u2 u3 B9 fT20 fT21 fT22 fT23 fT30 fT31 fT32 fT33
  generalize W9.drew = W10 at *
  go_wp2
  exact ret_three (p := 4) (p2 := 5) (q := 6) (ty := 23) (by kernel_rfl) (w.heap.size + 1 + 1) (w.heap.size + 1 + 1 + 1) 23 23 (.int .i64 0) (.int .i64 0) (.int .i64 0) (.int .i64 0) (.int .i64 1) _ rfl rfl rfl (unhide U2) (unhide U3) rfl Try.underlying23 (by kernel_rfl) ⟨rfl, unhide C9⟩

theorem zero_pl (w : World) : (zeroValue 23).run Try.prog w = .ok (.agg #[.int .i64 0, .int .i64 0]) w := by kernel_rfl

set_option maxRecDepth 100000 in
set_option maxHeartbeats 600000 in
theorem quo_good1 (a b c d : Int) (w : World) (h : okP a b = true) (h' : okP c d = true) (hz : ¬ (c = 0 ∧ d = 0)) (hc : ¬ c = 0) : Calls Try.prog 28 #[rv a b, rv c d] w fun e w' => e = .returned (quoV (nrt (a * c + b * d) (c * c + d * d)) (nrt (b * c - a * d) (c * c + d * d)) (a - (nrt (a * c + b * d) (c * c + d * d) * c - nrt (b * c - a * d) (c * c + d * d) * d)) (b - (nrt (a * c + b * d) (c * c + d * d) * d + nrt (b * c - a * d) (c * c + d * d) * c)) 0) ∧ Below w.heap.size w w' := by
  have h1 := hide (fun w => check_any a b w)
  have h2 := hide (fun w => check_any c d w)
  have e1 : (w.alloc (.cells #[.int .i64 a, .int .i64 b] 23)).heap.size = w.heap.size + 1 := by simp
  have e2 : ((w.alloc (.cells #[.int .i64 a, .int .i64 b] 23)).alloc (.cells #[.int .i64 c, .int .i64 d] 23)).heap.size = w.heap.size + 2 := by simp
  have e3 : (((w.alloc (.cells #[.int .i64 a, .int .i64 b] 23)).alloc (.cells #[.int .i64 c, .int .i64 d] 23)).alloc (.cells #[.int .i64 0, .int .i64 0] 23)).heap.size = w.heap.size + 3 := by simp
  have t0 := (((two_alloc w (.int .i64 a) (.int .i64 b) 23).alloc (.cells #[.int .i64 c, .int .i64 d] 23)).alloc (.cells #[.int .i64 0, .int .i64 0] 23)).alloc (.cells #[.int .i64 0, .int .i64 0] 23)
  have t1 := ((two_alloc (w.alloc (.cells #[.int .i64 a, .int .i64 b] 23)) (.int .i64 c) (.int .i64 d) 23).alloc (.cells #[.int .i64 0, .int .i64 0] 23)).alloc (.cells #[.int .i64 0, .int .i64 0] 23)
  have t2 := (two_alloc ((w.alloc (.cells #[.int .i64 a, .int .i64 b] 23)).alloc (.cells #[.int .i64 c, .int .i64 d] 23)) (.int .i64 0) (.int .i64 0) 23).alloc (.cells #[.int .i64 0, .int .i64 0] 23)
  have t3 := two_alloc (((w.alloc (.cells #[.int .i64 a, .int .i64 b] 23)).alloc (.cells #[.int .i64 c, .int .i64 d] 23)).alloc (.cells #[.int .i64 0, .int .i64 0] 23)) (.int .i64 0) (.int .i64 0) 23
  rw [e1] at t1
  rw [e2] at t2
  rw [e3] at t3
  have T0 := hide t0
  have T1 := hide t1
  have T2 := hide t2
  have T3 := hide t3
  clear e1 e2 e3 t0 t1 t2 t3
  have BB : Hid (Below w.heap.size w ((((w.alloc (.cells #[.int .i64 a, .int .i64 b] 23)).alloc (.cells #[.int .i64 c, .int .i64 d] 23)).alloc (.cells #[.int .i64 0, .int .i64 0] 23)).alloc (.cells #[.int .i64 0, .int .i64 0] 23))) := ((((Below.refl _ _).alloc (Nat.le_refl _) _).alloc (by simp) _).alloc (by simp; omega) _).alloc (by simp; omega) _
  have f00 := (unhide T0).c0
  have f01 := (unhide T0).c1
  obtain ⟨⟨a1, a2⟩, a3, a4⟩ := okP_t h
  obtain ⟨⟨c1, c2⟩, c3, c4⟩ := okP_t h'
  rw [h] at h1
  rw [h'] at h2
  have hNn : nrmA c d = c * c + d * d := by unfold nrmA; rw [if_pos h']
  have hn := fun w => nrm_any c d w
  rw [hNn] at hn
  have Hn := hide hn
  have n1 := hide (fun w => number_any a b w)
  have n2 := hide (fun w => number_any c d w)
  have hcj := hide (fun w => conj_any (floatOfInt .f64 c) (floatOfInt .f64 d) w)
  have m1 := abs_mul_le (n := 1048576) (m := 1048576) (show a.natAbs ≤ _ by omega) (show (c : Int).natAbs ≤ _ by omega)
  have m2 := abs_mul_le (n := 1048576) (m := 1048576) (show b.natAbs ≤ _ by omega) (show d.natAbs ≤ _ by omega)
  have m3 := abs_mul_le (n := 1048576) (m := 1048576) (show a.natAbs ≤ _ by omega) (show d.natAbs ≤ _ by omega)
  have m4 := abs_mul_le (n := 1048576) (m := 1048576) (show b.natAbs ≤ _ by omega) (show (c : Int).natAbs ≤ _ by omega)
  have m5 := abs_mul_le (n := 1048576) (m := 1048576) (show (c : Int).natAbs ≤ _ by omega) (show (c : Int).natAbs ≤ _ by omega)
  have m6 := abs_mul_le (n := 1048576) (m := 1048576) (show d.natAbs ≤ _ by omega) (show d.natAbs ≤ _ by omega)
  have s1 := abs_le_sq c
  have s2 := abs_le_sq d
  have hN : 0 < c * c + d * d := norm_pos hz
  obtain ⟨re, im, k1, k2, k3⟩ := fl_cmul (fl_of a (by omega)) (fl_of b (by omega)) (fl_of c (by omega)) (fl_neg (fl_of d (by omega))) 1048576 1048576 (by decide) (by omega) (by omega) (by omega) (by omega)
  rw [Int.mul_neg, Int.sub_neg] at k2
  rw [Int.mul_neg, Int.add_comm, Int.add_neg_eq_sub] at k3
  have hop := fun t w => run_complex_mul (P := Try.prog) w t _ _ _ _ re im k1
  have hpl := hide (fun w => place_any re im _ _ w k2 k3 (by omega) (by omega))
  have hw1 : (a * c + b * d).natAbs ≤ 1048576 * (c * c + d * d).natAbs := by
    have q1 := abs_mul_le (n := 1048576) (m := (c : Int).natAbs) (show a.natAbs ≤ _ by omega) (Nat.le_refl _)
    have q2 := abs_mul_le (n := 1048576) (m := d.natAbs) (show b.natAbs ≤ _ by omega) (Nat.le_refl _)
    omega
  have hw2 : (b * c - a * d).natAbs ≤ 1048576 * (c * c + d * d).natAbs := by
    have q1 := abs_mul_le (n := 1048576) (m := (c : Int).natAbs) (show b.natAbs ≤ _ by omega) (Nat.le_refl _)
    have q2 := abs_mul_le (n := 1048576) (m := d.natAbs) (show a.natAbs ≤ _ by omega) (Nat.le_refl _)
    omega
  have l1 := nrt_le _ _ hN hw1
  have l2 := nrt_le _ _ hN hw2
  have g1 := hide (fun w => nearest_any (a * c + b * d) (c * c + d * d) w hN (by omega) (by omega) (by omega))
  have g2 := hide (fun w => nearest_any (b * c - a * d) (c * c + d * d) w hN (by omega) (by omega) (by omega))
  clear hw1 hw2 m1 m2 m3 m4 m5 m6 s1 s2 hN k1 k2 k3 hNn hn
  generalize nrt (a * c + b * d) (c * c + d * d) = X at *
  generalize nrt (b * c - a * d) (c * c + d * d) = Y at *
  generalize a * c + b * d = TX at *
  generalize b * c - a * d = TY at *
  generalize c * c + d * d = NN at *
  have n3 := hide (fun w => number_any X Y w)
  obtain ⟨re2, im2, j1, j2, j3⟩ := fl_cmul (fl_of X (by omega)) (fl_of Y (by omega)) (fl_of c (by omega)) (fl_of d (by omega)) 1048577 1048576 (by decide) (by omega) (by omega) (by omega) (by omega)
  have hop2 := fun t w => run_complex_mul (P := Try.prog) w t _ _ _ _ re2 im2 j1
  have o1 := abs_mul_le (n := 1048577) (m := 1048576) (show X.natAbs ≤ _ by omega) (show (c : Int).natAbs ≤ _ by omega)
  have o2 := abs_mul_le (n := 1048577) (m := 1048576) (show Y.natAbs ≤ _ by omega) (show d.natAbs ≤ _ by omega)
  have o3 := abs_mul_le (n := 1048577) (m := 1048576) (show X.natAbs ≤ _ by omega) (show d.natAbs ≤ _ by omega)
  have o4 := abs_mul_le (n := 1048577) (m := 1048576) (show Y.natAbs ≤ _ by omega) (show (c : Int).natAbs ≤ _ by omega)
  obtain ⟨re3, im3, i1, i2, i3⟩ := fl_csub (fl_of a (by omega)) (fl_of b (by omega)) j2 j3 (by omega) (by omega) (by omega) (by omega)
  have hop3 := fun t w => run_complex_sum (P := Try.prog) w .sub (Or.inr rfl) t .f64 _ _ _ _ re3 im3 i1
  have hpl2 := hide (fun w => place_any re3 im3 _ _ w i2 i3 (by omega) (by omega))
  generalize a - (X * c - Y * d) = U at *
  generalize b - (X * d + Y * c) = V at *
  clear l1 l2 o1 o2 o3 o4 j1 j2 j3 i1 i2 i3 h h' a1 a2 a3 a4 c1 c2 c3 c4
  have hc1 : (c == 0) = false := by simpa using hc
  have hc2 : decide (c = 0) = false := decide_eq_false hc
  clear hz
  unfold quoV rv at *
  generalize floatOfInt .f64 a = fa at *
  generalize floatOfInt .f64 b = fb at *
  generalize floatOfInt .f64 c = fc at *
  generalize floatOfInt .f64 d = fd at *
  generalize floatOfInt .f64 X = fX at *
  generalize floatOfInt .f64 Y = fY at *
  go_enter Try.func28, Try.ntmps28
  go_wp2_with fail
  refine (unhide h1 _).mono ?_
  rintro e w1 ⟨rfl, b1⟩
  clear f00 f01
  have T0n := hide ((unhide T0).up b1)
  have T1n := hide ((unhide T1).up b1)
  have T2n := hide ((unhide T2).up b1)
  have T3n := hide ((unhide T3).up b1)
  have BBn := hide ((unhide BB).trans (b1.mono (unhide BB).size))
  clear b1 BB T0 T1 T2 T3
  have T0 := T0n
  have T1 := T1n
  have T2 := T2n
  have T3 := T3n
  have BB := BBn
  clear BBn T0n T1n T2n T3n
  have fT10 := (unhide T1).c0
  have fT11 := (unhide T1).c1
  go_wp2_with fail
  clear fT10 fT11
  refine (unhide h2 _).mono ?_
  rintro e w2 ⟨rfl, b2⟩
  have T0n := hide ((unhide T0).up b2)
  have T1n := hide ((unhide T1).up b2)
  have T2n := hide ((unhide T2).up b2)
  have T3n := hide ((unhide T3).up b2)
  have BBn := hide ((unhide BB).trans (b2.mono (unhide BB).size))
  clear b2 BB T0 T1 T2 T3
  have T0 := T0n
  have T1 := T1n
  have T2 := T2n
  have T3 := T3n
  have BB := BBn
  clear BBn T0n T1n T2n T3n
  have fT10 := (unhide T1).c0
  have fT11 := (unhide T1).c1
  go_wp2_with fail
  clear fT10 fT11
  refine wp_region_box 9 10 7 30 23 #[.int .i64 0, .int .i64 0] #[.int .i64 TX, .int .i64 TY] ?A1 (by omega) (by omega) (by kernel_rfl) (by kernel_rfl) (by kernel_rfl) (by kernel_rfl) zero_pl rfl (by kernel_rfl) (two_one _ _) ?lex1 ?hq1 ?_
  case lex1 =>
    intro Z
    have p00 : ∀ x : Gb Z.w, _ := fun x => (gb_two (gb_two (unhide T0) Z) x).c0
    have p01 : ∀ x : Gb Z.w, _ := fun x => (gb_two (gb_two (unhide T0) Z) x).c1
    have p10 : ∀ x : Gb Z.w, _ := fun x => (gb_two (gb_two (unhide T1) Z) x).c0
    have p11 : ∀ x : Gb Z.w, _ := fun x => (gb_two (gb_two (unhide T1) Z) x).c1
    have hne := gb_ne Z.w
    dsimp only [boxRest, List.eraseIdx_cons_succ, List.eraseIdx_cons_zero]
    iterate 2 (go_big_quiet_step ((go_at_call 35; exact gb_call (unhide n1 _))))
    iterate 2 (go_big_quiet_step ((go_at_call 35; exact gb_call (unhide n2 _))))
    repeat (go_big_quiet_step ((first | (go_at_call 45; exact gb_same (unhide hcj _)) | (go_at_call 39; exact gb_call (unhide hpl _)) | (go_at_call 19; exact gb_call (unhide Hn _)))))
    refine wpQuiet_nil ?_
    exact rfl
  case hq1 => exact rfl
  intro g w3 b3 hu tu
  simp only [Act.put, List.setIfInBounds_toArray, List.set_cons_succ, List.set_cons_zero]
  have T4 : Hid (Two w3 g (.int .i64 TX) (.int .i64 TY) 23) := tu
  clear hu tu
  have T0n := hide ((unhide T0).up b3)
  have T1n := hide ((unhide T1).up b3)
  have T2n := hide ((unhide T2).up b3)
  have T3n := hide ((unhide T3).up b3)
  have BBn := hide ((unhide BB).trans (b3.mono (unhide BB).size))
  clear b3 BB T0 T1 T2 T3
  have T0 := T0n
  have T1 := T1n
  have T2 := T2n
  have T3 := T3n
  have BB := BBn
  clear BBn T0n T1n T2n T3n
  go_wp2_with fail
  refine wp_region_fill 9 4 41 (w.heap.size + 2) 23 23 #[.int .i64 0, .int .i64 0] #[.int .i64 X, .int .i64 Y] ?A2 (by kernel_rfl) (by kernel_rfl) (by kernel_rfl) (by kernel_rfl) ?hp2 (unhide T2) rfl (by kernel_rfl) (two_one _ _) ?lex2 ?hq2 ?_
  case lex2 =>
    intro Z
    have p00 : ∀ x : Gb Z.w, _ := fun x => (gb_two (gb_two (unhide T4) Z) x).c0
    have p01 : ∀ x : Gb Z.w, _ := fun x => (gb_two (gb_two (unhide T4) Z) x).c1
    have hne := gb_ne Z.w
    dsimp only [List.eraseIdx_cons_succ, List.eraseIdx_cons_zero]
    iterate 4 (go_big_quiet_step ((go_at_call 46; exact gb_same (unhide g1 _))))
    repeat (go_big_quiet_step ((go_at_call 46; exact gb_same (unhide g2 _))))
    refine wpQuiet_nil ?_
    exact rfl
  case hp2 => exact rfl
  case hq2 => exact rfl
  intro w4 b4
  have r2 : Two (w4.setRow (w.heap.size + 2) #[.int .i64 X, .int .i64 Y]) (w.heap.size + 2) (.int .i64 X) (.int .i64 Y) 23 := setRow_heap w4 _ _ _ _ _ ((unhide T2).up b4)
  have r0 : Two (w4.setRow (w.heap.size + 2) #[.int .i64 X, .int .i64 Y]) w.heap.size (.int .i64 a) (.int .i64 b) 23 := (setRow_other w4 _ _ _ (by omega)).trans ((unhide T0).up b4)
  have r1 : Two (w4.setRow (w.heap.size + 2) #[.int .i64 X, .int .i64 Y]) (w.heap.size + 1) (.int .i64 c) (.int .i64 d) 23 := (setRow_other w4 _ _ _ (by omega)).trans ((unhide T1).up b4)
  have r3 : Two (w4.setRow (w.heap.size + 2) #[.int .i64 X, .int .i64 Y]) (w.heap.size + 3) (.int .i64 0) (.int .i64 0) 23 := (setRow_other w4 _ _ _ (by omega)).trans ((unhide T3).up b4)
  have B4 := hide (below_row (g := w.heap.size + 2) ((unhide BB).trans (b4.mono (unhide BB).size)) (by omega) #[.int .i64 X, .int .i64 Y])
  clear T0 T1 T2 T3 T4 BB b4
  have T0 := hide r0
  have T1 := hide r1
  have T2 := hide r2
  have T3 := hide r3
  have BB := B4
  clear r0 r1 r2 r3 B4
  generalize w4.setRow (w.heap.size + 2) #[.int .i64 X, .int .i64 Y] = W4 at *
  go_wp2_with fail
  refine wp_region_fill 9 5 50 (w.heap.size + 3) 23 23 #[.int .i64 0, .int .i64 0] #[.int .i64 U, .int .i64 V] ?A3 (by kernel_rfl) (by kernel_rfl) (by kernel_rfl) (by kernel_rfl) ?hp3 (unhide T3) rfl (by kernel_rfl) (two_one _ _) ?lex3 ?hq3 ?_
  case lex3 =>
    intro Z
    have p00 : ∀ x : Gb Z.w, _ := fun x => (gb_two (gb_two (unhide T0) Z) x).c0
    have p01 : ∀ x : Gb Z.w, _ := fun x => (gb_two (gb_two (unhide T0) Z) x).c1
    have p10 : ∀ x : Gb Z.w, _ := fun x => (gb_two (gb_two (unhide T1) Z) x).c0
    have p11 : ∀ x : Gb Z.w, _ := fun x => (gb_two (gb_two (unhide T1) Z) x).c1
    have p20 : ∀ x : Gb Z.w, _ := fun x => (gb_two (gb_two (unhide T2) Z) x).c0
    have p21 : ∀ x : Gb Z.w, _ := fun x => (gb_two (gb_two (unhide T2) Z) x).c1
    have hne := gb_ne Z.w
    dsimp only [List.eraseIdx_cons_succ, List.eraseIdx_cons_zero]
    iterate 2 (go_big_quiet_step ((go_at_call 35; exact gb_call (unhide n1 _))))
    iterate 2 (go_big_quiet_step ((go_at_call 35; exact gb_call (unhide n3 _))))
    iterate 2 (go_big_quiet_step ((go_at_call 35; exact gb_call (unhide n2 _))))
    repeat (go_big_quiet_step ((go_at_call 39; exact gb_call (unhide hpl2 _))))
    refine wpQuiet_nil ?_
    exact rfl
  case hp3 => exact rfl
  case hq3 => exact rfl
  intro w5 b5
  have r3 : Two (w5.setRow (w.heap.size + 3) #[.int .i64 U, .int .i64 V]) (w.heap.size + 3) (.int .i64 U) (.int .i64 V) 23 := setRow_heap w5 _ _ _ _ _ ((unhide T3).up b5)
  have r2 : Two (w5.setRow (w.heap.size + 3) #[.int .i64 U, .int .i64 V]) (w.heap.size + 2) (.int .i64 X) (.int .i64 Y) 23 := (setRow_other w5 _ _ _ (by omega)).trans ((unhide T2).up b5)
  have B5 := hide (below_row (g := w.heap.size + 3) ((unhide BB).trans (b5.mono (unhide BB).size)) (by omega) #[.int .i64 U, .int .i64 V])
  clear T0 T1 T2 T3 BB b5
  have T2 := hide r2
  have T3 := hide r3
  have BB := B5
  clear r2 r3 B5
  generalize w5.setRow (w.heap.size + 3) #[.int .i64 U, .int .i64 V] = W5 at *
  clear hop hop2 hop3
  have fT20 := (unhide T2).c0
  have fT21 := (unhide T2).c1
  have fT22 := (unhide T2).free 0
  have fT23 := (unhide T2).free 1
  have fT30 := (unhide T3).c0
  have fT31 := (unhide T3).c1
  have fT32 := (unhide T3).free 0
  have fT33 := (unhide T3).free 1
  go_wp2_with fail
  go_region
  have q2 : Two W5 (w.heap.size + 1 + 1) _ _ _ := unhide T2
  have q3 : Two W5 (w.heap.size + 1 + 1 + 1) _ _ _ := unhide T3
  have u2 := (((q2.set0 (.int .i64 X)).set1 (.int .i64 Y)).other ⟨w.heap.size + 1 + 1 + 1, 0, none⟩ (.int .i64 U) (by show w.heap.size + 1 + 1 + 1 ≠ w.heap.size + 1 + 1; omega)).other ⟨w.heap.size + 1 + 1 + 1, 1, none⟩ (.int .i64 V) (by show w.heap.size + 1 + 1 + 1 ≠ w.heap.size + 1 + 1; omega)
  have u3 := (((q3.other ⟨w.heap.size + 1 + 1, 0, none⟩ (.int .i64 X) (by show w.heap.size + 1 + 1 ≠ w.heap.size + 1 + 1 + 1; omega)).other ⟨w.heap.size + 1 + 1, 1, none⟩ (.int .i64 Y) (by show w.heap.size + 1 + 1 ≠ w.heap.size + 1 + 1 + 1; omega)).set0 (.int .i64 U)).set1 (.int .i64 V)
  have B9 := below_two (b := w.heap.size + 1 + 1 + 1) (below_two (b := w.heap.size + 1 + 1) (unhide BB) (by omega) (.int .i64 X) (.int .i64 Y)) (by omega) (.int .i64 U) (.int .i64 V)
  generalize (((W5.setCell ⟨w.heap.size + 1 + 1, 0, none⟩ (.int .i64 X)).setCell ⟨w.heap.size + 1 + 1, 1, none⟩ (.int .i64 Y)).setCell ⟨w.heap.size + 1 + 1 + 1, 0, none⟩ (.int .i64 U)).setCell ⟨w.heap.size + 1 + 1 + 1, 1, none⟩ (.int .i64 V) = W9 at *
  have U2 := hide u2.drew
  have U3 := hide u3.drew
  have C9 := hide B9.drew
  clear q2 q3 u2 u3 B9 fT20 fT21 fT22 fT23 fT30 fT31 fT32 fT33
  generalize W9.drew = W10 at *
  go_wp2
  exact ret_three (p := 4) (p2 := 5) (q := 6) (ty := 23) (by kernel_rfl) (w.heap.size + 1 + 1) (w.heap.size + 1 + 1 + 1) 23 23 (.int .i64 X) (.int .i64 Y) (.int .i64 U) (.int .i64 V) (.int .i64 0) _ rfl rfl rfl (unhide U2) (unhide U3) rfl Try.underlying23 (by kernel_rfl) ⟨rfl, unhide C9⟩

set_option maxRecDepth 100000 in
set_option maxHeartbeats 600000 in
theorem quo_good2 (a b d : Int) (w : World) (h : okP a b = true) (h' : okP 0 d = true) (hz : ¬ ((0 : Int) = 0 ∧ d = 0)) (hd : ¬ d = 0) : Calls Try.prog 28 #[rv a b, rv 0 d] w fun e w' => e = .returned (quoV (nrt (a * 0 + b * d) (0 * 0 + d * d)) (nrt (b * 0 - a * d) (0 * 0 + d * d)) (a - (nrt (a * 0 + b * d) (0 * 0 + d * d) * 0 - nrt (b * 0 - a * d) (0 * 0 + d * d) * d)) (b - (nrt (a * 0 + b * d) (0 * 0 + d * d) * d + nrt (b * 0 - a * d) (0 * 0 + d * d) * 0)) 0) ∧ Below w.heap.size w w' := by
  have h1 := hide (fun w => check_any a b w)
  have h2 := hide (fun w => check_any 0 d w)
  have e1 : (w.alloc (.cells #[.int .i64 a, .int .i64 b] 23)).heap.size = w.heap.size + 1 := by simp
  have e2 : ((w.alloc (.cells #[.int .i64 a, .int .i64 b] 23)).alloc (.cells #[.int .i64 0, .int .i64 d] 23)).heap.size = w.heap.size + 2 := by simp
  have e3 : (((w.alloc (.cells #[.int .i64 a, .int .i64 b] 23)).alloc (.cells #[.int .i64 0, .int .i64 d] 23)).alloc (.cells #[.int .i64 0, .int .i64 0] 23)).heap.size = w.heap.size + 3 := by simp
  have t0 := (((two_alloc w (.int .i64 a) (.int .i64 b) 23).alloc (.cells #[.int .i64 0, .int .i64 d] 23)).alloc (.cells #[.int .i64 0, .int .i64 0] 23)).alloc (.cells #[.int .i64 0, .int .i64 0] 23)
  have t1 := ((two_alloc (w.alloc (.cells #[.int .i64 a, .int .i64 b] 23)) (.int .i64 0) (.int .i64 d) 23).alloc (.cells #[.int .i64 0, .int .i64 0] 23)).alloc (.cells #[.int .i64 0, .int .i64 0] 23)
  have t2 := (two_alloc ((w.alloc (.cells #[.int .i64 a, .int .i64 b] 23)).alloc (.cells #[.int .i64 0, .int .i64 d] 23)) (.int .i64 0) (.int .i64 0) 23).alloc (.cells #[.int .i64 0, .int .i64 0] 23)
  have t3 := two_alloc (((w.alloc (.cells #[.int .i64 a, .int .i64 b] 23)).alloc (.cells #[.int .i64 0, .int .i64 d] 23)).alloc (.cells #[.int .i64 0, .int .i64 0] 23)) (.int .i64 0) (.int .i64 0) 23
  rw [e1] at t1
  rw [e2] at t2
  rw [e3] at t3
  have T0 := hide t0
  have T1 := hide t1
  have T2 := hide t2
  have T3 := hide t3
  clear e1 e2 e3 t0 t1 t2 t3
  have BB : Hid (Below w.heap.size w ((((w.alloc (.cells #[.int .i64 a, .int .i64 b] 23)).alloc (.cells #[.int .i64 0, .int .i64 d] 23)).alloc (.cells #[.int .i64 0, .int .i64 0] 23)).alloc (.cells #[.int .i64 0, .int .i64 0] 23))) := ((((Below.refl _ _).alloc (Nat.le_refl _) _).alloc (by simp) _).alloc (by simp; omega) _).alloc (by simp; omega) _
  have f00 := (unhide T0).c0
  have f01 := (unhide T0).c1
  obtain ⟨⟨a1, a2⟩, a3, a4⟩ := okP_t h
  obtain ⟨⟨c1, c2⟩, c3, c4⟩ := okP_t h'
  rw [h] at h1
  rw [h'] at h2
  have hNn : nrmA 0 d = 0 * 0 + d * d := by unfold nrmA; rw [if_pos h']
  have hn := fun w => nrm_any 0 d w
  rw [hNn] at hn
  have Hn := hide hn
  have n1 := hide (fun w => number_any a b w)
  have n2 := hide (fun w => number_any 0 d w)
  have hcj := hide (fun w => conj_any (floatOfInt .f64 0) (floatOfInt .f64 d) w)
  have m1 := abs_mul_le (n := 1048576) (m := 1048576) (show a.natAbs ≤ _ by omega) (show (0 : Int).natAbs ≤ _ by omega)
  have m2 := abs_mul_le (n := 1048576) (m := 1048576) (show b.natAbs ≤ _ by omega) (show d.natAbs ≤ _ by omega)
  have m3 := abs_mul_le (n := 1048576) (m := 1048576) (show a.natAbs ≤ _ by omega) (show d.natAbs ≤ _ by omega)
  have m4 := abs_mul_le (n := 1048576) (m := 1048576) (show b.natAbs ≤ _ by omega) (show (0 : Int).natAbs ≤ _ by omega)
  have m5 := abs_mul_le (n := 1048576) (m := 1048576) (show (0 : Int).natAbs ≤ _ by omega) (show (0 : Int).natAbs ≤ _ by omega)
  have m6 := abs_mul_le (n := 1048576) (m := 1048576) (show d.natAbs ≤ _ by omega) (show d.natAbs ≤ _ by omega)
  have s1 := abs_le_sq 0
  have s2 := abs_le_sq d
  have hN : 0 < 0 * 0 + d * d := norm_pos hz
  obtain ⟨re, im, k1, k2, k3⟩ := fl_cmul (fl_of a (by omega)) (fl_of b (by omega)) (fl_of 0 (by omega)) (fl_neg (fl_of d (by omega))) 1048576 1048576 (by decide) (by omega) (by omega) (by omega) (by omega)
  rw [Int.mul_neg, Int.sub_neg] at k2
  rw [Int.mul_neg, Int.add_comm, Int.add_neg_eq_sub] at k3
  have hop := fun t w => run_complex_mul (P := Try.prog) w t _ _ _ _ re im k1
  have hpl := hide (fun w => place_any re im _ _ w k2 k3 (by omega) (by omega))
  have hw1 : (a * 0 + b * d).natAbs ≤ 1048576 * (0 * 0 + d * d).natAbs := by
    have q1 := abs_mul_le (n := 1048576) (m := (0 : Int).natAbs) (show a.natAbs ≤ _ by omega) (Nat.le_refl _)
    have q2 := abs_mul_le (n := 1048576) (m := d.natAbs) (show b.natAbs ≤ _ by omega) (Nat.le_refl _)
    omega
  have hw2 : (b * 0 - a * d).natAbs ≤ 1048576 * (0 * 0 + d * d).natAbs := by
    have q1 := abs_mul_le (n := 1048576) (m := (0 : Int).natAbs) (show b.natAbs ≤ _ by omega) (Nat.le_refl _)
    have q2 := abs_mul_le (n := 1048576) (m := d.natAbs) (show a.natAbs ≤ _ by omega) (Nat.le_refl _)
    omega
  have l1 := nrt_le _ _ hN hw1
  have l2 := nrt_le _ _ hN hw2
  have g1 := hide (fun w => nearest_any (a * 0 + b * d) (0 * 0 + d * d) w hN (by omega) (by omega) (by omega))
  have g2 := hide (fun w => nearest_any (b * 0 - a * d) (0 * 0 + d * d) w hN (by omega) (by omega) (by omega))
  clear hw1 hw2 m1 m2 m3 m4 m5 m6 s1 s2 hN k1 k2 k3 hNn hn
  generalize nrt (a * 0 + b * d) (0 * 0 + d * d) = X at *
  generalize nrt (b * 0 - a * d) (0 * 0 + d * d) = Y at *
  generalize a * 0 + b * d = TX at *
  generalize b * 0 - a * d = TY at *
  generalize 0 * 0 + d * d = NN at *
  have n3 := hide (fun w => number_any X Y w)
  obtain ⟨re2, im2, j1, j2, j3⟩ := fl_cmul (fl_of X (by omega)) (fl_of Y (by omega)) (fl_of 0 (by omega)) (fl_of d (by omega)) 1048577 1048576 (by decide) (by omega) (by omega) (by omega) (by omega)
  have hop2 := fun t w => run_complex_mul (P := Try.prog) w t _ _ _ _ re2 im2 j1
  have o1 := abs_mul_le (n := 1048577) (m := 1048576) (show X.natAbs ≤ _ by omega) (show (0 : Int).natAbs ≤ _ by omega)
  have o2 := abs_mul_le (n := 1048577) (m := 1048576) (show Y.natAbs ≤ _ by omega) (show d.natAbs ≤ _ by omega)
  have o3 := abs_mul_le (n := 1048577) (m := 1048576) (show X.natAbs ≤ _ by omega) (show d.natAbs ≤ _ by omega)
  have o4 := abs_mul_le (n := 1048577) (m := 1048576) (show Y.natAbs ≤ _ by omega) (show (0 : Int).natAbs ≤ _ by omega)
  obtain ⟨re3, im3, i1, i2, i3⟩ := fl_csub (fl_of a (by omega)) (fl_of b (by omega)) j2 j3 (by omega) (by omega) (by omega) (by omega)
  have hop3 := fun t w => run_complex_sum (P := Try.prog) w .sub (Or.inr rfl) t .f64 _ _ _ _ re3 im3 i1
  have hpl2 := hide (fun w => place_any re3 im3 _ _ w i2 i3 (by omega) (by omega))
  generalize a - (X * 0 - Y * d) = U at *
  generalize b - (X * d + Y * 0) = V at *
  clear l1 l2 o1 o2 o3 o4 j1 j2 j3 i1 i2 i3 h h' a1 a2 a3 a4 c1 c2 c3 c4
  have hd1 : (d == 0) = false := by simpa using hd
  have hd2 : decide (d = 0) = false := decide_eq_false hd
  clear hz
  unfold quoV rv at *
  generalize floatOfInt .f64 a = fa at *
  generalize floatOfInt .f64 b = fb at *
  generalize floatOfInt .f64 0 = fc at *
  generalize floatOfInt .f64 d = fd at *
  generalize floatOfInt .f64 X = fX at *
  generalize floatOfInt .f64 Y = fY at *
  go_enter Try.func28, Try.ntmps28
  go_wp2_with fail
  refine (unhide h1 _).mono ?_
  rintro e w1 ⟨rfl, b1⟩
  clear f00 f01
  have T0n := hide ((unhide T0).up b1)
  have T1n := hide ((unhide T1).up b1)
  have T2n := hide ((unhide T2).up b1)
  have T3n := hide ((unhide T3).up b1)
  have BBn := hide ((unhide BB).trans (b1.mono (unhide BB).size))
  clear b1 BB T0 T1 T2 T3
  have T0 := T0n
  have T1 := T1n
  have T2 := T2n
  have T3 := T3n
  have BB := BBn
  clear BBn T0n T1n T2n T3n
  have fT10 := (unhide T1).c0
  have fT11 := (unhide T1).c1
  go_wp2_with fail
  clear fT10 fT11
  refine (unhide h2 _).mono ?_
  rintro e w2 ⟨rfl, b2⟩
  have T0n := hide ((unhide T0).up b2)
  have T1n := hide ((unhide T1).up b2)
  have T2n := hide ((unhide T2).up b2)
  have T3n := hide ((unhide T3).up b2)
  have BBn := hide ((unhide BB).trans (b2.mono (unhide BB).size))
  clear b2 BB T0 T1 T2 T3
  have T0 := T0n
  have T1 := T1n
  have T2 := T2n
  have T3 := T3n
  have BB := BBn
  clear BBn T0n T1n T2n T3n
  have fT10 := (unhide T1).c0
  have fT11 := (unhide T1).c1
  go_wp2_with fail
  clear fT10 fT11
  refine wp_region_box 9 10 7 30 23 #[.int .i64 0, .int .i64 0] #[.int .i64 TX, .int .i64 TY] ?A1 (by omega) (by omega) (by kernel_rfl) (by kernel_rfl) (by kernel_rfl) (by kernel_rfl) zero_pl rfl (by kernel_rfl) (two_one _ _) ?lex1 ?hq1 ?_
  case lex1 =>
    intro Z
    have p00 : ∀ x : Gb Z.w, _ := fun x => (gb_two (gb_two (unhide T0) Z) x).c0
    have p01 : ∀ x : Gb Z.w, _ := fun x => (gb_two (gb_two (unhide T0) Z) x).c1
    have p10 : ∀ x : Gb Z.w, _ := fun x => (gb_two (gb_two (unhide T1) Z) x).c0
    have p11 : ∀ x : Gb Z.w, _ := fun x => (gb_two (gb_two (unhide T1) Z) x).c1
    have hne := gb_ne Z.w
    dsimp only [boxRest, List.eraseIdx_cons_succ, List.eraseIdx_cons_zero]
    iterate 2 (go_big_quiet_step ((go_at_call 35; exact gb_call (unhide n1 _))))
    iterate 2 (go_big_quiet_step ((go_at_call 35; exact gb_call (unhide n2 _))))
    repeat (go_big_quiet_step ((first | (go_at_call 45; exact gb_same (unhide hcj _)) | (go_at_call 39; exact gb_call (unhide hpl _)) | (go_at_call 19; exact gb_call (unhide Hn _)))))
    refine wpQuiet_nil ?_
    exact rfl
  case hq1 => exact rfl
  intro g w3 b3 hu tu
  simp only [Act.put, List.setIfInBounds_toArray, List.set_cons_succ, List.set_cons_zero]
  have T4 : Hid (Two w3 g (.int .i64 TX) (.int .i64 TY) 23) := tu
  clear hu tu
  have T0n := hide ((unhide T0).up b3)
  have T1n := hide ((unhide T1).up b3)
  have T2n := hide ((unhide T2).up b3)
  have T3n := hide ((unhide T3).up b3)
  have BBn := hide ((unhide BB).trans (b3.mono (unhide BB).size))
  clear b3 BB T0 T1 T2 T3
  have T0 := T0n
  have T1 := T1n
  have T2 := T2n
  have T3 := T3n
  have BB := BBn
  clear BBn T0n T1n T2n T3n
  go_wp2_with fail
  refine wp_region_fill 9 4 41 (w.heap.size + 2) 23 23 #[.int .i64 0, .int .i64 0] #[.int .i64 X, .int .i64 Y] ?A2 (by kernel_rfl) (by kernel_rfl) (by kernel_rfl) (by kernel_rfl) ?hp2 (unhide T2) rfl (by kernel_rfl) (two_one _ _) ?lex2 ?hq2 ?_
  case lex2 =>
    intro Z
    have p00 : ∀ x : Gb Z.w, _ := fun x => (gb_two (gb_two (unhide T4) Z) x).c0
    have p01 : ∀ x : Gb Z.w, _ := fun x => (gb_two (gb_two (unhide T4) Z) x).c1
    have hne := gb_ne Z.w
    dsimp only [List.eraseIdx_cons_succ, List.eraseIdx_cons_zero]
    iterate 4 (go_big_quiet_step ((go_at_call 46; exact gb_same (unhide g1 _))))
    repeat (go_big_quiet_step ((go_at_call 46; exact gb_same (unhide g2 _))))
    refine wpQuiet_nil ?_
    exact rfl
  case hp2 => exact rfl
  case hq2 => exact rfl
  intro w4 b4
  have r2 : Two (w4.setRow (w.heap.size + 2) #[.int .i64 X, .int .i64 Y]) (w.heap.size + 2) (.int .i64 X) (.int .i64 Y) 23 := setRow_heap w4 _ _ _ _ _ ((unhide T2).up b4)
  have r0 : Two (w4.setRow (w.heap.size + 2) #[.int .i64 X, .int .i64 Y]) w.heap.size (.int .i64 a) (.int .i64 b) 23 := (setRow_other w4 _ _ _ (by omega)).trans ((unhide T0).up b4)
  have r1 : Two (w4.setRow (w.heap.size + 2) #[.int .i64 X, .int .i64 Y]) (w.heap.size + 1) (.int .i64 0) (.int .i64 d) 23 := (setRow_other w4 _ _ _ (by omega)).trans ((unhide T1).up b4)
  have r3 : Two (w4.setRow (w.heap.size + 2) #[.int .i64 X, .int .i64 Y]) (w.heap.size + 3) (.int .i64 0) (.int .i64 0) 23 := (setRow_other w4 _ _ _ (by omega)).trans ((unhide T3).up b4)
  have B4 := hide (below_row (g := w.heap.size + 2) ((unhide BB).trans (b4.mono (unhide BB).size)) (by omega) #[.int .i64 X, .int .i64 Y])
  clear T0 T1 T2 T3 T4 BB b4
  have T0 := hide r0
  have T1 := hide r1
  have T2 := hide r2
  have T3 := hide r3
  have BB := B4
  clear r0 r1 r2 r3 B4
  generalize w4.setRow (w.heap.size + 2) #[.int .i64 X, .int .i64 Y] = W4 at *
  go_wp2_with fail
  refine wp_region_fill 9 5 50 (w.heap.size + 3) 23 23 #[.int .i64 0, .int .i64 0] #[.int .i64 U, .int .i64 V] ?A3 (by kernel_rfl) (by kernel_rfl) (by kernel_rfl) (by kernel_rfl) ?hp3 (unhide T3) rfl (by kernel_rfl) (two_one _ _) ?lex3 ?hq3 ?_
  case lex3 =>
    intro Z
    have p00 : ∀ x : Gb Z.w, _ := fun x => (gb_two (gb_two (unhide T0) Z) x).c0
    have p01 : ∀ x : Gb Z.w, _ := fun x => (gb_two (gb_two (unhide T0) Z) x).c1
    have p10 : ∀ x : Gb Z.w, _ := fun x => (gb_two (gb_two (unhide T1) Z) x).c0
    have p11 : ∀ x : Gb Z.w, _ := fun x => (gb_two (gb_two (unhide T1) Z) x).c1
    have p20 : ∀ x : Gb Z.w, _ := fun x => (gb_two (gb_two (unhide T2) Z) x).c0
    have p21 : ∀ x : Gb Z.w, _ := fun x => (gb_two (gb_two (unhide T2) Z) x).c1
    have hne := gb_ne Z.w
    dsimp only [List.eraseIdx_cons_succ, List.eraseIdx_cons_zero]
    iterate 2 (go_big_quiet_step ((go_at_call 35; exact gb_call (unhide n1 _))))
    iterate 2 (go_big_quiet_step ((go_at_call 35; exact gb_call (unhide n3 _))))
    iterate 2 (go_big_quiet_step ((go_at_call 35; exact gb_call (unhide n2 _))))
    repeat (go_big_quiet_step ((go_at_call 39; exact gb_call (unhide hpl2 _))))
    refine wpQuiet_nil ?_
    exact rfl
  case hp3 => exact rfl
  case hq3 => exact rfl
  intro w5 b5
  have r3 : Two (w5.setRow (w.heap.size + 3) #[.int .i64 U, .int .i64 V]) (w.heap.size + 3) (.int .i64 U) (.int .i64 V) 23 := setRow_heap w5 _ _ _ _ _ ((unhide T3).up b5)
  have r2 : Two (w5.setRow (w.heap.size + 3) #[.int .i64 U, .int .i64 V]) (w.heap.size + 2) (.int .i64 X) (.int .i64 Y) 23 := (setRow_other w5 _ _ _ (by omega)).trans ((unhide T2).up b5)
  have B5 := hide (below_row (g := w.heap.size + 3) ((unhide BB).trans (b5.mono (unhide BB).size)) (by omega) #[.int .i64 U, .int .i64 V])
  clear T0 T1 T2 T3 BB b5
  have T2 := hide r2
  have T3 := hide r3
  have BB := B5
  clear r2 r3 B5
  generalize w5.setRow (w.heap.size + 3) #[.int .i64 U, .int .i64 V] = W5 at *
  clear hop hop2 hop3
  have fT20 := (unhide T2).c0
  have fT21 := (unhide T2).c1
  have fT22 := (unhide T2).free 0
  have fT23 := (unhide T2).free 1
  have fT30 := (unhide T3).c0
  have fT31 := (unhide T3).c1
  have fT32 := (unhide T3).free 0
  have fT33 := (unhide T3).free 1
  go_wp2_with fail
  go_region
  have q2 : Two W5 (w.heap.size + 1 + 1) _ _ _ := unhide T2
  have q3 : Two W5 (w.heap.size + 1 + 1 + 1) _ _ _ := unhide T3
  have u2 := (((q2.set0 (.int .i64 X)).set1 (.int .i64 Y)).other ⟨w.heap.size + 1 + 1 + 1, 0, none⟩ (.int .i64 U) (by show w.heap.size + 1 + 1 + 1 ≠ w.heap.size + 1 + 1; omega)).other ⟨w.heap.size + 1 + 1 + 1, 1, none⟩ (.int .i64 V) (by show w.heap.size + 1 + 1 + 1 ≠ w.heap.size + 1 + 1; omega)
  have u3 := (((q3.other ⟨w.heap.size + 1 + 1, 0, none⟩ (.int .i64 X) (by show w.heap.size + 1 + 1 ≠ w.heap.size + 1 + 1 + 1; omega)).other ⟨w.heap.size + 1 + 1, 1, none⟩ (.int .i64 Y) (by show w.heap.size + 1 + 1 ≠ w.heap.size + 1 + 1 + 1; omega)).set0 (.int .i64 U)).set1 (.int .i64 V)
  have B9 := below_two (b := w.heap.size + 1 + 1 + 1) (below_two (b := w.heap.size + 1 + 1) (unhide BB) (by omega) (.int .i64 X) (.int .i64 Y)) (by omega) (.int .i64 U) (.int .i64 V)
  generalize (((W5.setCell ⟨w.heap.size + 1 + 1, 0, none⟩ (.int .i64 X)).setCell ⟨w.heap.size + 1 + 1, 1, none⟩ (.int .i64 Y)).setCell ⟨w.heap.size + 1 + 1 + 1, 0, none⟩ (.int .i64 U)).setCell ⟨w.heap.size + 1 + 1 + 1, 1, none⟩ (.int .i64 V) = W9 at *
  have U2 := hide u2.drew
  have U3 := hide u3.drew
  have C9 := hide B9.drew
  clear q2 q3 u2 u3 B9 fT20 fT21 fT22 fT23 fT30 fT31 fT32 fT33
  generalize W9.drew = W10 at *
  go_wp2
  exact ret_three (p := 4) (p2 := 5) (q := 6) (ty := 23) (by kernel_rfl) (w.heap.size + 1 + 1) (w.heap.size + 1 + 1 + 1) 23 23 (.int .i64 X) (.int .i64 Y) (.int .i64 U) (.int .i64 V) (.int .i64 0) _ rfl rfl rfl (unhide U2) (unhide U3) rfl Try.underlying23 (by kernel_rfl) ⟨rfl, unhide C9⟩

end Go.Proofs.Ythodhabjcbohcaa

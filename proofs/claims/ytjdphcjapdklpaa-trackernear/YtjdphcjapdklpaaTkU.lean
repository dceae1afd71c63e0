/- tracker: plane.Dist, in worlds that have grown and drawn alone (XCkJ, XCkK of choke). -/
import Derived.Test.YtjdphcjapdklpaaTkT
import Derived.Test.YtjdphcjapdklpaaFl
import Derived.Sort.Grow
import Derived.Laws.Bits128
namespace Go.Proofs.Ytjdphcjapdklpaa
open Go.RowKit
set_option linter.unusedVariables false
attribute [local go_sem] Oper.semAt_some

theorem two_new (w : World) (x y : Value) (t : TypeId) : (w.alloc (.cells #[x, y] t)).cell? ⟨w.heap.size, 0, none⟩ = some x ∧ (w.alloc (.cells #[x, y] t)).cell? ⟨w.heap.size, 1, none⟩ = some y := by
  have hb := heap_alloc_new w (.cells #[x, y] t)
  constructor <;> rw [cell_of_row _ _ _ _ _ _ hb] <;> rfl
/-- w' is w with draws, and with blocks behind its heap -/
def Grown (w w' : World) : Prop := ∃ (q : Nat) (os : Array Obj), w' = Go.Sort.grow (w.drewN q) os
theorem Grown.refl (w : World) : Grown w w := ⟨0, #[], by simp [Go.Sort.grow, World.drewN]⟩
theorem Grown.trans {a b c : World} (h : Grown a b) (k : Grown b c) : Grown a c := by
  obtain ⟨q, os, rfl⟩ := h
  obtain ⟨q', os', rfl⟩ := k
  exact ⟨q + q', os ++ os', by simp [Go.Sort.grow, World.drewN, Nat.add_assoc, Array.append_assoc]⟩
theorem Grown.alloc (w : World) (o : Obj) : Grown w (w.alloc o) := ⟨0, #[o], by rw [Go.Sort.alloc_eq_grow]; simp [World.drewN]⟩
theorem Grown.drew (w : World) : Grown w w.drew := ⟨1, #[], by rw [Go.Sort.grow_empty]; rfl⟩
theorem Grown.below {w w' : World} (h : Grown w w') : Below w.heap.size w w' := by
  obtain ⟨q, os, rfl⟩ := h
  refine ⟨rfl, rfl, rfl, by simp [Go.Sort.grow, World.drewN], fun k hk => ?_⟩
  simp [Go.Sort.grow, World.drewN, Array.getElem?_append_left hk]
/-- the class of worlds that have grown from w -/
abbrev Gw (w : World) := Gr (fun x => Grown w x)
theorem gw_ne (w : World) : Nonempty (Gw w) := ⟨⟨w, Grown.refl w⟩⟩
theorem gw_cell {w : World} {p : Addr} {v : Value} (h : w.cell? p = some v) (x : Gw w) : x.w.cell? p = some v := gb_cell h ⟨x.w, x.ok.below⟩
theorem gw_call {P : Program} {f : FuncId} {args : Array Value} {w : World} {v : Value} {x : Gw w} (h : Calls P f args x.w fun e w' => e = .returned v ∧ Grown x.w w') : Calls P f args x.w fun e w'' => e = .returned v ∧ ∃ y : Gw w, w'' = y.w :=
  h.mono fun _ w' ⟨he, hb⟩ => ⟨he, ⟨w', x.ok.trans hb⟩, rfl⟩
theorem gw_same {P : Program} {f : FuncId} {args : Array Value} {w : World} {v : Value} {x : Gw w} (h : Calls P f args x.w fun e w' => e = .returned v ∧ w' = x.w) : Calls P f args x.w fun e w'' => e = .returned v ∧ ∃ y : Gw w, w'' = y.w :=
  h.mono fun _ w' ⟨he, hb⟩ => ⟨he, x, hb⟩

theorem okN_t {n : Int} (h : okN n = true) : -1048576 ≤ n ∧ n ≤ 1048576 := of_decide_eq_true h
theorem okP_t {x y : Int} (h : okP x y = true) : (-1048576 ≤ x ∧ x ≤ 1048576) ∧ -1048576 ≤ y ∧ y ≤ 1048576 := by
  unfold okP at h; rw [Bool.and_eq_true] at h; exact ⟨okN_t h.1, okN_t h.2⟩
def distA (a b c d : Int) : Int := if (okP a b && okP c d) = true then (a - c) * (a - c) + (b - d) * (b - d) else -1
theorem gw_two {w : World} {b : Nat} {x y : Value} {t : TypeId} (h : Two w b x y t) (X : Gw w) : Two X.w b x y t := h.up X.ok.below
theorem gw_samer {P : Program} {f : FuncId} {args : Array Value} {w : World} {v : Value} {x : Gw w} (h : Calls P f args x.w fun e w' => e = .returned v ∧ x.w = w') : Calls P f args x.w fun e w'' => e = .returned v ∧ ∃ y : Gw w, w'' = y.w :=
  h.mono fun _ w' ⟨he, hb⟩ => ⟨he, x, hb.symm⟩
theorem wp_region_gw {P : Program} {id : Nat} {Q : Exit → Act → World → Prop} {a : Act} {w : World} {l : List Oper} (hm : P.follows .mixedOrders = true) (hB : Region.lexB .any l.toArray = true)
    (h : wpQuiet P l.toArray (fun w' => ∃ x : Gw w, w' = x.w) (fun a' => ∀ w', (∃ x : Gw w, w' = x.w) → Q .normal a' w') l a) : (Code.region id l.toArray true).wp P Q a w :=
  wp_region_gr _ hm hB (Grown.drew w) h
set_option maxRecDepth 100000 in
theorem number_gw (x y : Int) (w : World) : Calls Try.prog 44 #[rv x y] w fun e w' => e = .returned (.complex .f64 (floatOfInt .f64 x) (floatOfInt .f64 y)) ∧ Grown w w' := by
  have b0 : Hid (Grown w (w.alloc (.cells #[.int .i64 x, .int .i64 y] 23))) := Grown.alloc _ _
  obtain ⟨c0, c1⟩ := two_new w (.int .i64 x) (.int .i64 y) 23
  unfold rv
  go_enter Try.func44, Try.ntmps44
  go_wp2
  go_ret
  exact ⟨rfl, unhide b0⟩
set_option maxRecDepth 100000 in
theorem check_gw (x y : Int) (w : World) : Calls Try.prog 25 #[rv x y] w fun e w' => e = .returned (.bool (okP x y)) ∧ Grown w w' := by
  have b0 : Hid (Grown w (w.alloc (.cells #[.int .i64 x, .int .i64 y] 23))) := Grown.alloc _ _
  obtain ⟨c0, c1⟩ := two_new w (.int .i64 x) (.int .i64 y) 23
  unfold rv okP
  have hx := hide (fun w => ispart_any x w)
  have hy := hide (fun w => ispart_any y w)
  generalize okN x = A at *
  generalize okN y = B at *
  cases A
  · go_enter Try.func25, Try.ntmps25
    go_wp2_with fail
    refine (unhide hx _).mono ?_
    rintro e w1 ⟨rfl, rfl⟩
    go_wp2_with fail
    go_ret
    exact ⟨rfl, unhide b0⟩
  · go_enter Try.func25, Try.ntmps25
    go_wp2_with fail
    refine (unhide hx _).mono ?_
    rintro e w1 ⟨rfl, rfl⟩
    go_wp2_with fail
    refine (unhide hy _).mono ?_
    rintro e w1 ⟨rfl, rfl⟩
    go_wp2_with fail
    go_ret
    exact ⟨by simp, unhide b0⟩
theorem toI {x : Nat} {z : Int} (h : Fl x z) (hz : z.natAbs < 9007199254740992) (w : World) : (convert 90 3 (.float .f64 x)).run Try.prog w = .ok (.int .i64 z) w :=
  run_convert_float_int w 90 3 .f64 .i64 x z (by rw [Try.underlying90]; rfl) Try.underlying3 (fl_int h hz)
set_option maxRecDepth 100000 in
theorem norm_any (re im : Nat) (x y : Int) (w : World) (hx : Fl re x) (hy : Fl im y) (h1 : x.natAbs ≤ 33554432) (h2 : y.natAbs ≤ 33554432) : Calls Try.prog 43 #[.complex .f64 re im] w fun e w' => e = .returned (.int .i64 (x * x + y * y)) ∧ w = w' := by
  have g1 := abs_mul_le h1 h1
  have g2 := abs_mul_le h2 h2
  obtain ⟨r1, e1, k1⟩ := fl_mul hx hx (by omega)
  obtain ⟨r2, e2, k2⟩ := fl_mul hy hy (by omega)
  obtain ⟨r3, e3, k3⟩ := fl_add k1 k2 (by omega)
  have f1 := fun t w => run_float_arith (P := Try.prog) w .mul t .f64 re re r1 e1
  have f2 := fun t w => run_float_arith (P := Try.prog) w .mul t .f64 im im r2 e2
  have f3 := fun t w => run_float_arith (P := Try.prog) w .add t .f64 r1 r2 r3 e3
  have f4 := toI k3 (by omega)
  clear e1 e2 e3 k1 k2 k3 hx hy h1 h2 g1 g2
  generalize x * x + y * y = z at *
  go_enter Try.func43, Try.ntmps43
  go_wp2_with (simp only [f1, f2, f3, f4])
  go_ret
  exact ⟨rfl, rfl⟩
set_option maxRecDepth 100000 in
theorem dist_gw (a b c d : Int) (w : World) : Calls Try.prog 37 #[rv a b, rv c d] w fun e w' => e = .returned (.int .i64 (distA a b c d)) ∧ Grown w w' := by
  have h1 := hide (fun w => check_gw a b w)
  have h2 := hide (fun w => check_gw c d w)
  have n1 := hide (fun w => number_gw a b w)
  have n2 := hide (fun w => number_gw c d w)
  have T0 := hide ((two_alloc w (.int .i64 a) (.int .i64 b) 23).alloc (.cells #[.int .i64 c, .int .i64 d] 23))
  have e1 : (w.alloc (.cells #[.int .i64 a, .int .i64 b] 23)).heap.size = w.heap.size + 1 := by simp
  have t1 := two_alloc (w.alloc (.cells #[.int .i64 a, .int .i64 b] 23)) (.int .i64 c) (.int .i64 d) 23
  rw [e1] at t1
  have T1 := hide t1
  clear e1 t1
  have BB : Hid (Grown w ((w.alloc (.cells #[.int .i64 a, .int .i64 b] 23)).alloc (.cells #[.int .i64 c, .int .i64 d] 23))) := (Grown.alloc _ _).trans (Grown.alloc _ _)
  have f00 := (unhide T0).c0
  have f01 := (unhide T0).c1
  have hA : distA a b c d = if (okP a b && okP c d) = true then (a - c) * (a - c) + (b - d) * (b - d) else -1 := rfl
  have HA := hide hA
  generalize distA a b c d = R at *
  have Q1 := hide (@okP_t a b)
  have Q2 := hide (@okP_t c d)
  clear hA
  generalize okP a b = E1 at *
  generalize okP c d = E2 at *
  unfold rv at *
  go_enter Try.func37, Try.ntmps37
  go_wp2_with fail
  refine (unhide h1 _).mono ?_
  rintro e w1 ⟨rfl, b1⟩
  have T0n := hide ((unhide T0).up b1.below)
  have T1n := hide ((unhide T1).up b1.below)
  have BBn := hide ((unhide BB).trans b1)
  clear b1 BB T0 T1 f00 f01
  have g0 := (unhide T1n).c0
  have g1 := (unhide T1n).c1
  cases E1
  · go_wp2
    go_ret
    exact ⟨by rw [unhide HA]; rfl, unhide BBn⟩
  go_wp2_with fail
  refine (unhide h2 _).mono ?_
  rintro e w2 ⟨rfl, b2⟩
  have T0 := hide ((unhide T0n).up b2.below)
  have T1 := hide ((unhide T1n).up b2.below)
  have BB := hide ((unhide BBn).trans b2)
  clear b2 BBn T0n T1n g0 g1
  cases E2
  · go_wp2
    go_ret
    exact ⟨by rw [unhide HA]; rfl, unhide BB⟩
  obtain ⟨⟨a1, a2⟩, a3, a4⟩ := unhide Q1 (by first | rfl | trivial)
  obtain ⟨⟨c1, c2⟩, c3, c4⟩ := unhide Q2 (by first | rfl | trivial)
  obtain ⟨re, im, k1, k2, k3⟩ := fl_csub (fl_of a (by omega)) (fl_of b (by omega)) (fl_of c (by omega)) (fl_of d (by omega)) (by omega) (by omega) (by omega) (by omega)
  have hop := fun t w => run_complex_sum (P := Try.prog) w .sub (Or.inr rfl) t .f64 _ _ _ _ re im k1
  have h3 := hide (fun w => norm_any re im (a - c) (b - d) w k2 k3 (by omega) (by omega))
  have hR : R = (a - c) * (a - c) + (b - d) * (b - d) := by rw [unhide HA]; rfl
  rw [← hR] at h3
  clear HA hR
  clear k1 k2 k3 a1 a2 a3 a4 c1 c2 c3 c4 Q1 Q2
  generalize floatOfInt .f64 a = fa at *
  generalize floatOfInt .f64 b = fb at *
  generalize floatOfInt .f64 c = fc at *
  generalize floatOfInt .f64 d = fd at *
  go_wp2_with fail
  refine wp_region_gw (by kernel_rfl) (by kernel_rfl) ?_
  have p0 : ∀ x : Gw w2, _ := fun x => (gw_two (unhide T0) x).c0
  have p1 : ∀ x : Gw w2, _ := fun x => (gw_two (unhide T0) x).c1
  have p2 : ∀ x : Gw w2, _ := fun x => (gw_two (unhide T1) x).c0
  have p3 : ∀ x : Gw w2, _ := fun x => (gw_two (unhide T1) x).c1
  have hne := gw_ne w2
  iterate 2 (go_big_quiet_step ((go_at_call 44; exact gw_call (unhide n1 _))))
  iterate 2 (go_big_quiet_step ((go_at_call 44; exact gw_call (unhide n2 _))))
  repeat (go_big_quiet_step ((go_at_call 43; exact gw_samer (unhide h3 _))))
  refine wpQuiet_nil ?_
  rintro w7 ⟨⟨_, b7⟩, rfl⟩
  have B7 := hide ((unhide BB).trans b7)
  clear b7 p0 p1 p2 p3 hne
  go_wp2
  go_ret
  exact ⟨rfl, unhide B7⟩
end Go.Proofs.Ytjdphcjapdklpaa

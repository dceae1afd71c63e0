/- Contracts of the law's Ref and half, the document's Den, Num. -/
import Derived.Test.YtmaeebgphblilabDgA
import Derived.Test.YtmaeebgphblilabFill
namespace Go.Proofs.Ytmaeebgphblilab
open Go.RowKit
set_option linter.unusedVariables false

theorem ret_row {fn : Func} {p : Tmp} {ty : TypeId} {a : Act} {w : World} {R : Ending → World → Prop} (h : fn.results = #[.cell p ty]) (g : Nat) (t : TypeId) (cs : Array Value) (fr : Nat × Nat) (fs : Array Field)
    (hp : a.tmps.getD p undef = .pointer (some ⟨g, 0, none⟩)) (hg : w.heap[g]? = some (.cells cs t fr)) (hdf : a.defers = [])
    (hu : Try.prog.underlying ty = some (.struct fs)) (hi : (Try.prog.info? ty).map (·.size) = some cs.size) (hR : R (.returned (.agg cs)) w) :
    bodyPost Try.prog fn R .ret a w := bodyPost_ret (results_cell_row h _ w g t cs fr _ hp hg hu rfl hi) hdf hR
theorem below_row {w w' : World} {B g : Nat} (h : Below B w w') (hB : B ≤ g) (cs : Array Value) : Below B w (w'.setRow g cs) := ⟨h.os, h.tape, h.output, by simpa [World.setRow] using h.size, fun k hk => (setRow_other w' g k cs (by omega)).trans (h.block k hk)⟩
theorem four_one (a b c d : Int) : (#[Value.int .i64 a, Value.int .i64 b, Value.int .i64 c, Value.int .i64 d].all fun v => v.oneCell') = true := by simp [Value.oneCell']
theorem gb_of_four {w : World} {b : Nat} {x y z u : Value} {t : TypeId} (h : Four w b x y z u t) (g : Gb w) : Four g.w b x y z u t := h.up g.ok

set_option maxRecDepth 100000 in
set_option maxHeartbeats 1000000 in
theorem dref_any (n d q f : Int) (w : World) : Calls Try.prog 11 #[cv n d q f] w fun e w' => e = .returned (cv n d q f) ∧ Below w.heap.size w w' := by
  have h1 := hide (fun w => lref_any n d w)
  unfold cv rv at *
  have t0 := (four_alloc w (.int .i64 n) (.int .i64 d) (.int .i64 q) (.int .i64 f) 25).alloc (.cells #[.int .i64 0, .int .i64 0, .int .i64 0, .int .i64 0] 34)
  have t1 := four_alloc (w.alloc (.cells #[.int .i64 n, .int .i64 d, .int .i64 q, .int .i64 f] 25)) (.int .i64 0) (.int .i64 0) (.int .i64 0) (.int .i64 0) 34
  rw [show (w.alloc (.cells #[.int .i64 n, .int .i64 d, .int .i64 q, .int .i64 f] 25)).heap.size = w.heap.size + 1 by simp] at t1
  have b0 : Below w.heap.size w ((w.alloc (.cells #[.int .i64 n, .int .i64 d, .int .i64 q, .int .i64 f] 25)).alloc (.cells #[.int .i64 0, .int .i64 0, .int .i64 0, .int .i64 0] 34)) := ((Below.refl _ _).alloc (Nat.le_refl _) _).alloc (by simp) _
  have T0 := hide t0
  have T1 := hide t1
  have BB := hide b0
  clear t0 t1 b0
  go_enter Try.func11, Try.ntmps11
  go_wp2_with fail
  generalize (w.alloc (.cells #[.int .i64 n, .int .i64 d, .int .i64 q, .int .i64 f] 25)).alloc (.cells #[.int .i64 0, .int .i64 0, .int .i64 0, .int .i64 0] 34) = W at *
  refine wp_region_fill 8 2 10 (w.heap.size + 1) 34 34 #[.int .i64 0, .int .i64 0, .int .i64 0, .int .i64 0] #[.int .i64 n, .int .i64 d, .int .i64 q, .int .i64 f] ?A0 (by kernel_rfl) (by kernel_rfl) (by kernel_rfl) (by kernel_rfl) ?hp (unhide T1) rfl (by kernel_rfl) (four_one _ _ _ _) ?lex ?hq ?_
  case lex =>
    intro X
    obtain ⟨p0, p1, p2, p3⟩ := gb_four (gb_of_four (unhide T0) X)
    have hne := gb_ne X.w
    dsimp only [List.eraseIdx_cons_succ, List.eraseIdx_cons_zero]
    repeat (go_big_quiet_step ((go_at_call 18; exact gb_call (unhide h1 _))))
    refine wpQuiet_nil ?_
    exact rfl
  case hp => exact rfl
  case hq => exact rfl
  intro w2 b2
  have r1 : (w2.setRow (w.heap.size + 1) #[.int .i64 n, .int .i64 d, .int .i64 q, .int .i64 f]).heap[w.heap.size + 1]? = some (.cells #[.int .i64 n, .int .i64 d, .int .i64 q, .int .i64 f] 34 (0, 0)) := setRow_heap w2 _ _ _ _ _ ((unhide T1).up b2)
  have B1 := hide (below_row (g := w.heap.size + 1) ((unhide BB).trans (b2.mono (unhide BB).size)) (by omega) #[.int .i64 n, .int .i64 d, .int .i64 q, .int .i64 f])
  have R1 := hide r1
  clear r1 b2 BB T0 T1
  generalize w2.setRow (w.heap.size + 1) #[.int .i64 n, .int .i64 d, .int .i64 q, .int .i64 f] = W2 at *
  go_wp2
  exact ret_row (p := 2) (ty := 34) (by kernel_rfl) (w.heap.size + 1) 34 _ (0, 0) _ rfl (unhide R1) rfl Try.underlying34 (by kernel_rfl) ⟨rfl, unhide B1⟩

set_option maxRecDepth 100000 in
theorem half_any (w : World) : Calls Try.prog 26 #[] w fun e w' => e = .returned (cv 1 2 1 4) ∧ Below w.heap.size w w' := by
  go_enter Try.func26, Try.ntmps26
  go_wp2
  exact ret_row (p := 0) (ty := 25) (by kernel_rfl) w.heap.size 25 _ (0, 0) _ rfl (heap_alloc_new _ _) rfl Try.underlying25 (by kernel_rfl) ⟨rfl, (Below.refl _ _).alloc (Nat.le_refl _) _⟩

/-- C(k) is num by den -/
def den (n d f k : Int) : Int := f * (d + n) * (f - 1) * k
def num (n d f k : Int) : Int := den n d f k - (f + 1) * d * (f - k)
structure DenOk (n d f k : Int) : Prop where
  p1 : 0 < f * (d + n) ∧ f * (d + n) ≤ 128000
  p2 : 0 < f * (d + n) * (f - 1) ∧ f * (d + n) * (f - 1) ≤ 8064000
  p3 : 0 < den n d f k ∧ den n d f k ≤ 516096000
  r1 : 0 < (f + 1) * d ∧ (f + 1) * d ≤ 65000
  r2 : 0 ≤ (f + 1) * d * (f - k) ∧ (f + 1) * d * (f - k) ≤ 4095000
  le : (f + 1) * d * (f - k) ≤ den n d f k
theorem mul_upto {x y a b : Int} (h0 : 0 ≤ x) (h1 : x ≤ a) (h2 : 0 ≤ y) (h3 : y ≤ b) : 0 ≤ x * y ∧ x * y ≤ a * b :=
  ⟨Int.mul_nonneg h0 h2, Int.le_trans (Int.mul_le_mul_of_nonneg_right h1 h2) (Int.mul_le_mul_of_nonneg_left h3 (by omega))⟩
theorem denOk {n d f k : Int} (h1 : 1 ≤ n) (h2 : n ≤ d) (h3 : d ≤ 1000) (h4 : 2 ≤ f) (h5 : f ≤ 64) (h6 : d ≤ f * n) (h7 : 1 ≤ k) (h8 : k ≤ f) : DenOk n d f k := by
  have q1 : 0 < f * (d + n) := Int.mul_pos (by omega) (by omega)
  have p1 := mul_upto (x := f) (y := d + n) (a := 64) (b := 2000) (by omega) h5 (by omega) (by omega)
  have q2 : 0 < f * (d + n) * (f - 1) := Int.mul_pos q1 (by omega)
  have p2 := mul_upto (x := f * (d + n)) (y := f - 1) (a := 128000) (b := 63) (by omega) (by omega) (by omega) (by omega)
  have q3 : 0 < den n d f k := Int.mul_pos q2 (by omega)
  have p3 : 0 ≤ den n d f k ∧ den n d f k ≤ 8064000 * 64 := mul_upto (x := f * (d + n) * (f - 1)) (y := k) (by omega) (by omega) (by omega) (by omega)
  have q4 : 0 < (f + 1) * d := Int.mul_pos (by omega) (by omega)
  have r1 := mul_upto (x := f + 1) (y := d) (a := 65) (b := 1000) (by omega) (by omega) (by omega) h3
  have r2 := mul_upto (x := (f + 1) * d) (y := f - k) (a := 65000) (b := 63) (by omega) (by omega) (by omega) (by omega)
  refine ⟨⟨q1, by omega⟩, ⟨q2, by omega⟩, ⟨q3, by omega⟩, ⟨q4, by omega⟩, ⟨r2.1, by omega⟩, ?_⟩
  have e1 : (f + 1) * d ≤ f * (d + n) := by rw [Int.add_mul, Int.mul_add]; omega
  have e2 : f - k ≤ (f - 1) * k := by
    have : (f - 1) * 1 ≤ (f - 1) * k := Int.mul_le_mul_of_nonneg_left h7 (by omega)
    omega
  have e3 : (f + 1) * d * (f - k) ≤ f * (d + n) * ((f - 1) * k) := Int.le_trans (Int.mul_le_mul_of_nonneg_right e1 (by omega)) (Int.mul_le_mul_of_nonneg_left e2 (by omega))
  unfold den
  rw [Int.mul_assoc (f * (d + n))]
  exact e3

set_option maxRecDepth 100000 in
set_option maxHeartbeats 1000000 in
theorem den_any (n d q f k : Int) (w : World) (h1 : 1 ≤ n) (h2 : n ≤ d) (h3 : d ≤ 1000) (h4 : 2 ≤ f) (h5 : f ≤ 64) (h7 : 1 ≤ k) (h8 : k ≤ f) (hD : DenOk n d f k) :
    Calls Try.prog 25 #[cv n d q f, .int .i64 k] w fun e w' => e = .returned (.int .i64 (den n d f k)) ∧ Below w.heap.size w w' := by
  obtain ⟨p1, p2, p3, r1, r2, _⟩ := hD
  unfold den at *
  obtain ⟨P1, e1⟩ : ∃ P, f * (d + n) = P := ⟨_, rfl⟩
  rw [e1] at p1 p2 p3 ⊢
  obtain ⟨P2, e2⟩ : ∃ P, P1 * (f - 1) = P := ⟨_, rfl⟩
  rw [e2] at p2 p3 ⊢
  obtain ⟨P3, e3⟩ : ∃ P, P2 * k = P := ⟨_, rfl⟩
  rw [e3] at p3 ⊢
  clear r1 r2
  unfold cv
  go_enter Try.func25, Try.ntmps25
  go_wp2
  go_ret
  exact ⟨rfl, (Below.refl _ _).alloc (Nat.le_refl _) _⟩

set_option maxRecDepth 100000 in
set_option maxHeartbeats 1000000 in
theorem num_any (n d q f k : Int) (w : World) (h1 : 1 ≤ n) (h2 : n ≤ d) (h3 : d ≤ 1000) (h4 : 2 ≤ f) (h5 : f ≤ 64) (h7 : 1 ≤ k) (h8 : k ≤ f) (hD : DenOk n d f k) :
    Calls Try.prog 24 #[cv n d q f, .int .i64 k] w fun e w' => e = .returned (.int .i64 (num n d f k)) ∧ Below w.heap.size w w' := by
  have hd := hide (fun w => den_any n d q f k w h1 h2 h3 h4 h5 h7 h8 hD)
  obtain ⟨p1, p2, p3, r1, r2, _⟩ := hD
  unfold num
  generalize den n d f k = P3 at *
  obtain ⟨R1, e1⟩ : ∃ P, (f + 1) * d = P := ⟨_, rfl⟩
  rw [e1] at r1 r2 ⊢
  obtain ⟨R2, e2⟩ : ∃ P, R1 * (f - k) = P := ⟨_, rfl⟩
  rw [e2] at r2 ⊢
  clear p1 p2
  unfold cv at *
  have T0 := hide (four_alloc w (.int .i64 n) (.int .i64 d) (.int .i64 q) (.int .i64 f) 34)
  have B0 : Hid (Below w.heap.size w (w.alloc (.cells #[.int .i64 n, .int .i64 d, .int .i64 q, .int .i64 f] 34))) := (Below.refl _ _).alloc (Nat.le_refl _) _
  go_enter Try.func24, Try.ntmps24
  go_wp2_with fail
  generalize w.alloc (.cells #[.int .i64 n, .int .i64 d, .int .i64 q, .int .i64 f] 34) = W at *
  obtain ⟨c0, c1, c2, c3⟩ := gb_four (unhide T0)
  have hne := gb_ne W
  refine wp_region_gr (fun x => Below W.heap.size W x) (by kernel_rfl) (by kernel_rfl) (gb_start W) ?_
  repeat (go_big_quiet_step ((go_at_call 25; exact gb_call (unhide hd _))))
  refine wpQuiet_nil ?_
  rintro w7 ⟨⟨_, b7⟩, rfl⟩
  have B7 := hide ((unhide B0).trans (b7.mono (unhide B0).size))
  clear b7 hne c0 c1 c2 c3
  go_wp2
  go_ret
  exact ⟨rfl, unhide B7⟩

end Go.Proofs.Ytmaeebgphblilab

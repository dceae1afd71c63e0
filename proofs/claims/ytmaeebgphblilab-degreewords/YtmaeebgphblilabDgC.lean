/- Contracts of degree's Chance and the document's. -/
import Derived.Test.YtmaeebgphblilabDgB
namespace Go.Proofs.Ytmaeebgphblilab
open Go.RowKit
set_option linter.unusedVariables false

/-- what Chance answers -/
def chA (n d q f k : Int) : Int × Int × Int := if codeOk n d q f = true ∧ 1 ≤ k ∧ k ≤ f then ofA (num n d f k) (den n d f k) else (0, 0, 1)
theorem chA_bad1 {n d q f k : Int} (h : codeOk n d q f = false) : chA n d q f k = (0, 0, 1) := by unfold chA; rw [if_neg (by rw [h]; simp)]
theorem chA_bad2 {n d q f k : Int} (h : ¬ (1 ≤ k ∧ k ≤ f)) : chA n d q f k = (0, 0, 1) := by unfold chA; rw [if_neg (fun e => h e.2)]
theorem chA_good {n d q f k : Int} (h : codeOk n d q f = true) (h1 : 1 ≤ k ∧ k ≤ f) : chA n d q f k = ofA (num n d f k) (den n d f k) := by unfold chA; rw [if_pos ⟨h, h1⟩]

/-- a code's block and a result's, one behind the other -/
theorem four_two_new (w : World) (n d q f : Value) (t t' : TypeId) (x y : Value) :
    Four ((w.alloc (.cells #[n, d, q, f] t)).alloc (.cells #[x, y] t')) w.heap.size n d q f t ∧ Two ((w.alloc (.cells #[n, d, q, f] t)).alloc (.cells #[x, y] t')) (w.heap.size + 1) x y t' ∧ Below w.heap.size w ((w.alloc (.cells #[n, d, q, f] t)).alloc (.cells #[x, y] t')) := by
  refine ⟨(four_alloc w n d q f t).alloc _, ?_, ((Below.refl _ _).alloc (Nat.le_refl _) _).alloc (by simp) _⟩
  have := two_alloc (w.alloc (.cells #[n, d, q, f] t)) x y t'
  rwa [show (w.alloc (.cells #[n, d, q, f] t)).heap.size = w.heap.size + 1 by simp] at this
theorem gb_two {w : World} {b : Nat} {x y : Value} {t : TypeId} (h : Two w b x y t) : (∀ g : Gb w, g.w.cell? ⟨b, 0, none⟩ = some x) ∧ (∀ g : Gb w, g.w.cell? ⟨b, 1, none⟩ = some y) := ⟨fun g => gb_cell h.c0 g, fun g => gb_cell h.c1 g⟩
theorem gb_of_two {w : World} {b : Nat} {x y : Value} {t : TypeId} (h : Two w b x y t) (g : Gb w) : Two g.w b x y t := h.up g.ok
theorem two_one (x y : Int) : (#[Value.int .i64 x, Value.int .i64 y].all fun v => v.oneCell') = true := by simp [Value.oneCell']

set_option maxRecDepth 100000 in
set_option maxHeartbeats 2000000 in
theorem chance_any (n d q f k : Int) (w : World) (hn0 : -9223372036854775808 ≤ n) (hn1 : n ≤ 9223372036854775807) (hd0 : -9223372036854775808 ≤ d) (hd1 : d ≤ 9223372036854775807) (hq0 : -9223372036854775808 ≤ q) (hq1 : q ≤ 9223372036854775807) (hf0 : -9223372036854775808 ≤ f) (hf1 : f ≤ 9223372036854775807) : Calls Try.prog 16 #[cv n d q f, .int .i64 k] w fun e w' => e = .returned (rvE (chA n d q f k)) ∧ Below w.heap.size w w' := by
  obtain ⟨t0, t1, b0⟩ := four_two_new w (.int .i64 n) (.int .i64 d) (.int .i64 q) (.int .i64 f) 25 23 (.int .i64 0) (.int .i64 0)
  have T0 := hide t0
  have T1 := hide t1
  have BB := hide b0
  clear t0 t1 b0
  have h1 := hide (fun w => dcheck_any n d q f w hn0 hn1 hd0 hd1 hq0 hq1 hf0 hf1)
  have h2 := hide (fun w => from_any 1 k f w)
  cases hE : codeOk n d q f
  · rw [chA_bad1 hE]
    rw [hE] at h1
    clear hE h2
    unfold cv at *
    go_enter Try.func16, Try.ntmps16
    go_wp2_with fail
    refine (unhide h1 _).mono ?_
    rintro e w1 ⟨rfl, b1⟩
    have T0n := hide ((unhide T0).up b1)
    have T1n := hide ((unhide T1).up b1)
    have BBn := hide ((unhide BB).trans (b1.mono (unhide BB).size))
    clear b1 BB T0 T1
    have T0 := T0n
    have T1 := T1n
    have BB := BBn
    clear BBn T0n T1n
    have x0 := (unhide T1).c0
    have x1 := (unhide T1).c1
    have x2 := (unhide T1).free 0
    have x3 := (unhide T1).free 1
    go_wp2
    exact ret_two (p := 4) (q := 5) (ty := 23) (by kernel_rfl) (w.heap.size + 1) 23 (.int .i64 0) (.int .i64 0) (.int .i64 1) _ rfl rfl (((unhide T1).set0 _).set1 _) rfl Try.underlying23 (by kernel_rfl) ⟨rfl, below_two (unhide BB) (by omega) _ _⟩
  rw [hE] at h1
  by_cases g : 1 ≤ k ∧ k ≤ f
  case neg =>
    rw [chA_bad2 g]
    rw [decide_eq_false g] at h2
    clear hE g
    unfold cv at *
    go_enter Try.func16, Try.ntmps16
    go_wp2_with fail
    refine (unhide h1 _).mono ?_
    rintro e w1 ⟨rfl, b1⟩
    have T0n := hide ((unhide T0).up b1)
    have T1n := hide ((unhide T1).up b1)
    have BBn := hide ((unhide BB).trans (b1.mono (unhide BB).size))
    clear b1 BB T0 T1
    have T0 := T0n
    have T1 := T1n
    have BB := BBn
    clear BBn T0n T1n
    have fT00 := (unhide T0).c0
    have fT01 := (unhide T0).c1
    have fT02 := (unhide T0).c2
    have fT03 := (unhide T0).c3
    go_wp2_with fail
    refine (unhide h2 _).mono ?_
    rintro e w2 ⟨rfl, rfl⟩
    have x0 := (unhide T1).c0
    have x1 := (unhide T1).c1
    have x2 := (unhide T1).free 0
    have x3 := (unhide T1).free 1
    go_wp2
    exact ret_two (p := 4) (q := 5) (ty := 23) (by kernel_rfl) (w.heap.size + 1) 23 (.int .i64 0) (.int .i64 0) (.int .i64 1) _ rfl rfl (((unhide T1).set0 _).set1 _) rfl Try.underlying23 (by kernel_rfl) ⟨rfl, below_two (unhide BB) (by omega) _ _⟩
  rw [chA_good hE g]
  rw [decide_eq_true g] at h2
  obtain ⟨_, m1, m2, m3, _, _, m4, m5, m6⟩ := codeOk_of hE
  obtain ⟨p1, p2, p3, r1, r2, hle⟩ := denOk m1 m2 m3 m4 m5 m6 g.1 g.2
  have h3 := hide (fun w => of_any (num n d f k) (den n d f k) w (by unfold num; omega) (by unfold num; omega) (by omega) (by omega))
  generalize ofA (num n d f k) (den n d f k) = R at *
  obtain ⟨x, y, z⟩ := R
  unfold num at h3
  unfold den at *
  obtain ⟨P1, e1⟩ : ∃ P, f * (d + n) = P := ⟨_, rfl⟩
  rw [e1] at p1 p2 p3 hle h3
  obtain ⟨P2, e2⟩ : ∃ P, P1 * (f - 1) = P := ⟨_, rfl⟩
  rw [e2] at p2 p3 hle h3
  obtain ⟨P3, e3⟩ : ∃ P, P2 * k = P := ⟨_, rfl⟩
  rw [e3] at p3 hle h3
  obtain ⟨R1, e4⟩ : ∃ P, (f + 1) * d = P := ⟨_, rfl⟩
  rw [e4] at r1 r2 hle h3
  obtain ⟨R2, e5⟩ : ∃ P, R1 * (f - k) = P := ⟨_, rfl⟩
  rw [e5] at r2 hle h3
  clear hE
  unfold cv at *
  go_enter Try.func16, Try.ntmps16
  go_wp2_with fail
  refine (unhide h1 _).mono ?_
  rintro e w1 ⟨rfl, b1⟩
  have T0n := hide ((unhide T0).up b1)
  have T1n := hide ((unhide T1).up b1)
  have BBn := hide ((unhide BB).trans (b1.mono (unhide BB).size))
  clear b1 BB T0 T1
  have T0 := T0n
  have T1 := T1n
  have BB := BBn
  clear BBn T0n T1n
  have fT00 := (unhide T0).c0
  have fT01 := (unhide T0).c1
  have fT02 := (unhide T0).c2
  have fT03 := (unhide T0).c3
  go_wp2_with fail
  refine (unhide h2 _).mono ?_
  rintro e w2 ⟨rfl, rfl⟩
  go_wp2_with fail
  refine (unhide h3 _).mono ?_
  rintro e w3 ⟨rfl, b3⟩
  clear fT00 fT01 fT02 fT03
  have T0n := hide ((unhide T0).up b3)
  have T1n := hide ((unhide T1).up b3)
  have BBn := hide ((unhide BB).trans (b3.mono (unhide BB).size))
  clear b3 BB T0 T1
  have T0 := T0n
  have T1 := T1n
  have BB := BBn
  clear BBn T0n T1n
  have x0 := (unhide T1).c0
  have x1 := (unhide T1).c1
  have x2 := (unhide T1).free 0
  have x3 := (unhide T1).free 1
  simp only [rvE, rv]
  go_wp2
  exact ret_two (p := 4) (q := 5) (ty := 23) (by kernel_rfl) (w.heap.size + 1) 23 (.int .i64 x) (.int .i64 y) (.int .i64 z) _ rfl rfl (((unhide T1).set0 _).set1 _) rfl Try.underlying23 (by kernel_rfl) ⟨rfl, below_two (unhide BB) (by omega) _ _⟩

set_option maxRecDepth 100000 in
set_option maxHeartbeats 2000000 in
theorem rchance_any (n d q f k : Int) (w : World) (hn0 : -9223372036854775808 ≤ n) (hn1 : n ≤ 9223372036854775807) (hd0 : -9223372036854775808 ≤ d) (hd1 : d ≤ 9223372036854775807) (hq0 : -9223372036854775808 ≤ q) (hq1 : q ≤ 9223372036854775807) (hf0 : -9223372036854775808 ≤ f) (hf1 : f ≤ 9223372036854775807) : Calls Try.prog 17 #[cv n d q f, .int .i64 k] w fun e w' => e = .returned (rvE (chA n d q f k)) ∧ Below w.heap.size w w' := by
  obtain ⟨t0, t1, b0⟩ := four_two_new w (.int .i64 n) (.int .i64 d) (.int .i64 q) (.int .i64 f) 34 32 (.int .i64 0) (.int .i64 0)
  have T0 := hide t0
  have T1 := hide t1
  have BB := hide b0
  clear t0 t1 b0
  have h1 := hide (fun w => rdcheck_any n d q f w hn0 hn1 hd0 hd1 hq0 hq1 hf0 hf1)
  cases hE : codeOk n d q f
  · rw [chA_bad1 hE]
    rw [hE] at h1
    clear hE
    unfold cv at *
    go_enter Try.func17, Try.ntmps17
    go_wp2_with fail
    refine (unhide h1 _).mono ?_
    rintro e w1 ⟨rfl, b1⟩
    have T0n := hide ((unhide T0).up b1)
    have T1n := hide ((unhide T1).up b1)
    have BBn := hide ((unhide BB).trans (b1.mono (unhide BB).size))
    clear b1 BB T0 T1
    have T0 := T0n
    have T1 := T1n
    have BB := BBn
    clear BBn T0n T1n
    have x0 := (unhide T1).c0
    have x1 := (unhide T1).c1
    have x2 := (unhide T1).free 0
    have x3 := (unhide T1).free 1
    go_wp2
    exact ret_two (p := 4) (q := 5) (ty := 32) (by kernel_rfl) (w.heap.size + 1) 32 (.int .i64 0) (.int .i64 0) (.int .i64 1) _ rfl rfl (((unhide T1).set0 _).set1 _) rfl Try.underlying32 (by kernel_rfl) ⟨rfl, below_two (unhide BB) (by omega) _ _⟩
  rw [hE] at h1
  by_cases g1 : k < 1
  · rw [chA_bad2 (by omega)]
    clear hE
    unfold cv at *
    go_enter Try.func17, Try.ntmps17
    go_wp2_with fail
    refine (unhide h1 _).mono ?_
    rintro e w1 ⟨rfl, b1⟩
    have T0n := hide ((unhide T0).up b1)
    have T1n := hide ((unhide T1).up b1)
    have BBn := hide ((unhide BB).trans (b1.mono (unhide BB).size))
    clear b1 BB T0 T1
    have T0 := T0n
    have T1 := T1n
    have BB := BBn
    clear BBn T0n T1n
    have fT00 := (unhide T0).c0
    have fT01 := (unhide T0).c1
    have fT02 := (unhide T0).c2
    have fT03 := (unhide T0).c3
    have x0 := (unhide T1).c0
    have x1 := (unhide T1).c1
    have x2 := (unhide T1).free 0
    have x3 := (unhide T1).free 1
    go_wp2
    exact ret_two (p := 4) (q := 5) (ty := 32) (by kernel_rfl) (w.heap.size + 1) 32 (.int .i64 0) (.int .i64 0) (.int .i64 1) _ rfl rfl (((unhide T1).set0 _).set1 _) rfl Try.underlying32 (by kernel_rfl) ⟨rfl, below_two (unhide BB) (by omega) _ _⟩
  by_cases g2 : f < k
  · rw [chA_bad2 (by omega)]
    clear hE
    unfold cv at *
    go_enter Try.func17, Try.ntmps17
    go_wp2_with fail
    refine (unhide h1 _).mono ?_
    rintro e w1 ⟨rfl, b1⟩
    have T0n := hide ((unhide T0).up b1)
    have T1n := hide ((unhide T1).up b1)
    have BBn := hide ((unhide BB).trans (b1.mono (unhide BB).size))
    clear b1 BB T0 T1
    have T0 := T0n
    have T1 := T1n
    have BB := BBn
    clear BBn T0n T1n
    have fT00 := (unhide T0).c0
    have fT01 := (unhide T0).c1
    have fT02 := (unhide T0).c2
    have fT03 := (unhide T0).c3
    have x0 := (unhide T1).c0
    have x1 := (unhide T1).c1
    have x2 := (unhide T1).free 0
    have x3 := (unhide T1).free 1
    go_wp2
    exact ret_two (p := 4) (q := 5) (ty := 32) (by kernel_rfl) (w.heap.size + 1) 32 (.int .i64 0) (.int .i64 0) (.int .i64 1) _ rfl rfl (((unhide T1).set0 _).set1 _) rfl Try.underlying32 (by kernel_rfl) ⟨rfl, below_two (unhide BB) (by omega) _ _⟩
  rw [chA_good hE (by omega)]
  obtain ⟨_, m1, m2, m3, _, _, m4, m5, m6⟩ := codeOk_of hE
  have hD := denOk m1 m2 m3 m4 m5 m6 (show 1 ≤ k by omega) (show k ≤ f by omega)
  have h3 := hide (fun w => rof_any (num n d f k) (den n d f k) w)
  have h4 := hide (fun w => num_any n d q f k w m1 m2 m3 m4 m5 (by omega) (by omega) hD)
  have h5 := hide (fun w => den_any n d q f k w m1 m2 m3 m4 m5 (by omega) (by omega) hD)
  generalize ofA (num n d f k) (den n d f k) = R at *
  obtain ⟨x, y, z⟩ := R
  generalize num n d f k = NN at *
  generalize den n d f k = DD at *
  simp only [rvE, rv] at h3 ⊢
  clear hE hD m1 m2 m3 m4 m5 m6
  unfold cv at *
  go_enter Try.func17, Try.ntmps17
  go_wp2_with fail
  refine (unhide h1 _).mono ?_
  rintro e w1 ⟨rfl, b1⟩
  have T0n := hide ((unhide T0).up b1)
  have T1n := hide ((unhide T1).up b1)
  have BBn := hide ((unhide BB).trans (b1.mono (unhide BB).size))
  clear b1 BB T0 T1
  have T0 := T0n
  have T1 := T1n
  have BB := BBn
  clear BBn T0n T1n
  have fT00 := (unhide T0).c0
  have fT01 := (unhide T0).c1
  have fT02 := (unhide T0).c2
  have fT03 := (unhide T0).c3
  go_wp2_with fail
  clear fT00 fT01 fT02 fT03
  refine wp_region_fill 9 4 27 (w.heap.size + 1) 32 32 #[.int .i64 0, .int .i64 0] #[.int .i64 x, .int .i64 y] ?A0 (by kernel_rfl) (by kernel_rfl) (by kernel_rfl) (by kernel_rfl) ?hp (unhide T1) rfl (by kernel_rfl) (two_one _ _) ?lex ?hq ?_
  case lex =>
    intro X
    obtain ⟨p0, p1, p2, p3⟩ := gb_four (gb_of_four (unhide T0) X)
    have hne := gb_ne X.w
    dsimp only [List.eraseIdx_cons_succ, List.eraseIdx_cons_zero]
    repeat (go_big_quiet_step ((first | (go_at_call 24; exact gb_call (unhide h4 _)) | (go_at_call 25; exact gb_call (unhide h5 _)) | (go_at_call 31; exact gb_call (unhide h3 _)))))
    refine wpQuiet_nil ?_
    exact rfl
  case hp => exact rfl
  case hq => exact rfl
  intro w2 b2
  have r1 : (w2.setRow (w.heap.size + 1) #[.int .i64 x, .int .i64 y]).heap[w.heap.size + 1]? = some (.cells #[.int .i64 x, .int .i64 y] 32 (0, 0)) := setRow_heap w2 _ _ _ _ _ ((unhide T1).up b2)
  have B1 := hide (below_row (g := w.heap.size + 1) ((unhide BB).trans (b2.mono (unhide BB).size)) (by omega) #[.int .i64 x, .int .i64 y])
  have R1 : Hid (Two _ _ _ _ _) := r1
  clear r1 b2 BB T0 T1
  generalize w2.setRow (w.heap.size + 1) #[.int .i64 x, .int .i64 y] = W2 at *
  go_wp2
  exact ret_two (p := 4) (q := 5) (ty := 32) (by kernel_rfl) (w.heap.size + 1) 32 (.int .i64 x) (.int .i64 y) (.int .i64 z) _ rfl rfl (unhide R1) rfl Try.underlying32 (by kernel_rfl) ⟨rfl, unhide B1⟩

end Go.Proofs.Ytmaeebgphblilab

/- What the law PlaneTurns does, whatever the world: it answers true and changes nothing that was there. -/
import Derived.Test.YthodhabjcbohcaaPlS
namespace Go.Proofs.Ythodhabjcbohcaa
open Go.RowKit
set_option linter.unusedVariables false

theorem quart_ok {p : Int × Int} (h : okP p.1 p.2 = true) (i : Nat) : okP (quart i p).1 (quart i p).2 = true := by
  obtain ⟨⟨a1, a2⟩, a3, a4⟩ := okP_t h
  obtain ⟨m1, m2⟩ := quart_abs i p 1048576 (by omega) (by omega)
  exact okP_mk (by omega) (by omega) (by omega) (by omega)
theorem quart_nrm {p : Int × Int} (h : okP p.1 p.2 = true) (i : Nat) : nrmA (quart i p).1 (quart i p).2 = nrmA p.1 p.2 := by
  unfold nrmA
  rw [if_pos h, if_pos (quart_ok h i)]
  induction i with
  | zero => rfl
  | succ i ih =>
    rw [← ih]
    simp only [quart, Int.neg_mul_neg]
    omega
theorem quart_turn {p : Int × Int} (h : okP p.1 p.2 = true) (i : Nat) : turnA (quart i p).1 (quart i p).2 1 = ((quart (i + 1) p).1, (quart (i + 1) p).2, 0) := by
  unfold turnA
  rw [if_pos (quart_ok h i)]
  rfl
theorem quart_four (p : Int × Int) : quart 4 p = p := by
  obtain ⟨x, y⟩ := p
  simp [quart]

set_option maxRecDepth 100000 in
set_option maxHeartbeats 2000000 in
theorem turns_yes (x y k u v N1 : Int) (w : World) (h0 : ∀ w, Calls Try.prog 23 #[rv x y, .int .i64 k] w fun e w' => e = .returned (.tuple #[.agg #[.int .i64 u, .int .i64 v], .int .i64 0]) ∧ Below w.heap.size w w') (h1 : ∀ w, Calls Try.prog 24 #[rv x y, .int .i64 k] w fun e w' => e = .returned (.tuple #[.agg #[.int .i64 u, .int .i64 v], .int .i64 0]) ∧ Below w.heap.size w w') (h2 : True) (n1 : ∀ w, Calls Try.prog 19 #[rv u v] w fun e w' => e = .returned (.int .i64 N1) ∧ Below w.heap.size w w') (n2 : ∀ w, Calls Try.prog 19 #[rv x y] w fun e w' => e = .returned (.int .i64 N1) ∧ Below w.heap.size w w') (ht : ∀ (i : Nat) w, Calls Try.prog 23 #[.agg #[.int .i64 (quart i (u, v)).1, .int .i64 (quart i (u, v)).2], .int .i64 1] w fun e w' => e = .returned (.tuple #[.agg #[.int .i64 (quart (i + 1) (u, v)).1, .int .i64 (quart (i + 1) (u, v)).2], .int .i64 0]) ∧ Below w.heap.size w w') :
    Calls Try.prog 4 #[rv x y, .int .i64 k] w fun e w' => e = .returned (.bool true) ∧ Below w.heap.size w w' := by
  have H0 := hide h0
  have H1 := hide h1
  have H2 := hide h2
  have M1 := hide n1
  have M2 := hide n2
  have HT := hide ht
  have Rx := hide (fun w => ref_any x y w)
  have Ru := hide (fun w => ref_any u v w)
  clear h0 h1 h2 n1 n2 ht
  unfold rv at *
  have t0 := two_alloc w (.int .i64 x) (.int .i64 y) 23
  have T0 := hide t0
  have BB : Hid (Below w.heap.size w (w.alloc (.cells #[.int .i64 x, .int .i64 y] 23))) := ((Below.refl _ _).alloc (by first | exact Nat.le_refl _ | (simp; done) | (simp; omega)) _)
  clear t0 
  go_enter Try.func4, Try.ntmps4
  have fT00 := (unhide T0).c0
  have fT01 := (unhide T0).c1
  go_wp2_with fail
  clear fT00 fT01
  refine (unhide H0 _).mono ?_
  rintro e w1 ⟨rfl, b1⟩
  have new := hide (two_alloc w1 (.int .i64 u) (.int .i64 v) 23)
  have HS0 : Hid (w.heap.size ≤ w1.heap.size) := ((unhide BB).trans (b1.mono (unhide BB).size)).size
  have T0n := hide (((unhide T0).up b1).alloc (.cells #[.int .i64 u, .int .i64 v] 23))
  have BBn : Hid (Below w.heap.size w (w1.alloc (.cells #[.int .i64 u, .int .i64 v] 23))) := by
    have := (unhide BB).trans (b1.mono (unhide BB).size)
    exact this.alloc this.size _
  clear BB T0
  have T0 := T0n
  have BB := BBn
  clear BBn T0n
  have S0 := new
  clear new b1
  have fT00 := (unhide T0).c0
  have fT01 := (unhide T0).c1
  go_wp2_with fail
  clear fT00 fT01
  generalize w1.alloc (.cells #[.int .i64 u, .int .i64 v] 23) = W at *
  have HS : Hid (w.heap.size ≤ w1.heap.size) := HS0
  generalize w1.heap.size = s0 at *
  refine (unhide Rx _).mono ?_
  rintro e w2 ⟨rfl, b2⟩
  have T0n := hide ((unhide T0).up b2)
  have S0n := hide ((unhide S0).up b2)
  have BBn := hide ((unhide BB).trans (b2.mono (unhide BB).size))
  clear BB T0 S0
  have T0 := T0n
  have S0 := S0n
  have BB := BBn
  clear BBn T0n S0n
  clear b2
  go_wp2_with fail
  refine (unhide H1 _).mono ?_
  rintro e w1 ⟨rfl, b1⟩
  have new := hide (two_alloc w1 (.int .i64 u) (.int .i64 v) 27)
  have HL0 : Hid (s0 < w1.heap.size) := ((unhide S0).up b1).lt
  have T0n := hide (((unhide T0).up b1).alloc (.cells #[.int .i64 u, .int .i64 v] 27))
  have S0n := hide (((unhide S0).up b1).alloc (.cells #[.int .i64 u, .int .i64 v] 27))
  have BBn : Hid (Below w.heap.size w (w1.alloc (.cells #[.int .i64 u, .int .i64 v] 27))) := by
    have := (unhide BB).trans (b1.mono (unhide BB).size)
    exact this.alloc this.size _
  clear BB T0 S0
  have T0 := T0n
  have S0 := S0n
  have BB := BBn
  clear BBn T0n S0n
  have U0 := new
  clear new b1
  go_wp2_with fail
  generalize w1.alloc (.cells #[.int .i64 u, .int .i64 v] 27) = W at *
  have HN : Hid (s0 ≠ w1.heap.size) := Nat.ne_of_lt HL0
  generalize w1.heap.size = s1 at *
  have pT00 : ∀ x : Gb W, _ := fun x => (gb_two (unhide T0) x).c0
  have pT01 : ∀ x : Gb W, _ := fun x => (gb_two (unhide T0) x).c1
  have pS00 : ∀ x : Gb W, _ := fun x => (gb_two (unhide S0) x).c0
  have pS01 : ∀ x : Gb W, _ := fun x => (gb_two (unhide S0) x).c1
  have pU00 : ∀ x : Gb W, _ := fun x => (gb_two (unhide U0) x).c0
  have pU01 : ∀ x : Gb W, _ := fun x => (gb_two (unhide U0) x).c1
  have hne := gb_ne W
  refine wp_region_grB (by kernel_rfl) (by kernel_rfl) ?_
  iterate 11 (go_big_quiet_step ((first | (go_at_call 13; exact gb_call (unhide Ru _)) | (go_at_call 19; exact gb_call (unhide M1 _)))))
  iterate 1 (go_big_quiet_step ((first | (go_at_call 13; exact gb_call (unhide Ru _)) | (go_at_call 19; exact gb_call (unhide M1 _)))))
  repeat (go_big_quiet_step ((first | (go_at_call 19; exact gb_call (unhide M2 _)))))
  refine wpQuiet_nil ?_
  rintro w7 ⟨⟨_, b7⟩, rfl⟩
  clear hne pT00 pT01 pS00 pS01 pU00 pU01
  have T0n := hide ((unhide T0).up b7)
  have S0n := hide ((unhide S0).up b7)
  have U0n := hide ((unhide U0).up b7)
  have BBn := hide ((unhide BB).trans (b7.mono (unhide BB).size))
  clear BB T0 S0 U0
  have T0 := T0n
  have S0 := S0n
  have U0 := U0n
  have BB := BBn
  clear BBn T0n S0n U0n
  clear b7
  go_wp2_with fail
  go_loopw [9] (fun iv wr => ∃ i : Nat, iv = .int .i64 (i : Nat) ∧ i ≤ 4 ∧ Hid (Below w.heap.size w wr) ∧ Hid (Two wr s0 (.int .i64 (quart i (u, v)).1) (.int .i64 (quart i (u, v)).2) 23) ∧ Hid (Two wr s1 (.int .i64 u) (.int .i64 v) 27)) (fun iv _ => 4 - (intOf iv).toNat)
  case atStart => exact ⟨0, rfl, by omega, BB, S0, U0⟩
  case round =>
    obtain ⟨i, rfl, hi, bb, ss, uu⟩ := hrel
    have hs0 : Hid (w.heap.size ≤ s0) := HS
    by_cases hlt : i < 4
    · have hlt' : ((i : Nat) : Int) < 4 := by omega
      have ht := hide (unhide HT i)
      generalize (quart i (u, v)).1 = p at *
      generalize (quart i (u, v)).2 = q at *
      generalize hp' : (quart (i + 1) (u, v)).1 = p' at *
      generalize hq' : (quart (i + 1) (u, v)).2 = q' at *
      have HP := hide hp'
      have HQ := hide hq'
      clear hp' hq'
      have f0 := (unhide ss).c0
      have f1 := (unhide ss).c1
      go_wp2_with fail
      refine (unhide ht _).mono ?_
      rintro e w4 ⟨rfl, b4⟩
      have s4 := ((unhide ss).up b4).alloc (.cells #[.int .i64 p', .int .i64 q'] 23)
      have n4 := two_alloc w4 (.int .i64 p') (.int .i64 q') 23
      have u4 := hide (((unhide uu).up b4).alloc (.cells #[.int .i64 p', .int .i64 q'] 23))
      have hlt4 : s0 < w4.heap.size := ((unhide ss).up b4).lt
      have B4 : Hid (Below w.heap.size w (w4.alloc (.cells #[.int .i64 p', .int .i64 q'] 23))) := by
        have := (unhide bb).trans (b4.mono (unhide bb).size)
        exact this.alloc this.size _
      have x0 := s4.c0
      have x1 := s4.c1
      have x2 := s4.free 0
      have x3 := s4.free 1
      have y0 := n4.c0
      have y1 := n4.c1
      have S4 := hide s4
      have z4 := (unhide ss).up b4
      have Z4 := hide z4
      have v4 := hide ((unhide uu).up b4)
      have C4 : Hid (Below w.heap.size w w4) := (unhide bb).trans (b4.mono (unhide bb).size)
      have x4 := z4.c0
      have x5 := z4.c1
      have x6 := z4.free 0
      have x7 := z4.free 1
      clear s4 n4 b4 bb f0 f1 z4
      go_wp2
      go_roundw
      case rel =>
        refine ⟨i + 1, rfl, by omega, ?_, ?_, ?_⟩
        · first
            | exact below_two (unhide B4) (unhide hs0) _ _
            | exact (below_two (unhide C4) (unhide hs0) _ _).alloc (by have := (unhide C4).size; simpa using this) _
        · rw [unhide HP, unhide HQ]
          first
            | exact ((unhide S4).set0 _).set1 _
            | exact (((unhide Z4).set0 _).set1 _).alloc _
        · first
            | exact ((unhide u4).other _ _ (by show s0 ≠ s1; exact unhide HN)).other _ _ (by show s0 ≠ s1; exact unhide HN)
            | exact (((unhide v4).other _ _ (by show s0 ≠ s1; exact unhide HN)).other _ _ (by show s0 ≠ s1; exact unhide HN)).alloc _
      case measure => simp [intOf]; omega
    · obtain rfl : i = 4 := by omega
      rw [quart_four] at ss
      have hne := gb_ne wr
      go_wp2_with fail
      refine wp_region_grB (by kernel_rfl) (by kernel_rfl) ?_
      have p0 : ∀ x : Gb wr, _ := fun x => (gb_two (unhide ss) x).c0
      have p1 : ∀ x : Gb wr, _ := fun x => (gb_two (unhide ss) x).c1
      have p2 : ∀ x : Gb wr, _ := fun x => (gb_two (unhide uu) x).c0
      have p3 : ∀ x : Gb wr, _ := fun x => (gb_two (unhide uu) x).c1
      repeat (go_big_quiet_step ((first | (go_at_call 16; exact gb_call (awake_any _)) | (go_at_call 13; exact gb_call (unhide Ru _)))))
      refine wpQuiet_nil ?_
      rintro w7 ⟨⟨_, b7⟩, rfl⟩
      have B7 := hide ((unhide bb).trans (b7.mono (unhide bb).size))
      clear b7 hne p0 p1 p2 p3
      go_wp2
      go_ret
      exact ⟨rfl, unhide B7⟩

set_option maxRecDepth 100000 in
set_option maxHeartbeats 2000000 in
theorem turns_no (x y k u v N1 : Int) (w : World) (h0 : ∀ w, Calls Try.prog 23 #[rv x y, .int .i64 k] w fun e w' => e = .returned (.tuple #[.agg #[.int .i64 u, .int .i64 v], .int .i64 1]) ∧ Below w.heap.size w w') (h1 : ∀ w, Calls Try.prog 24 #[rv x y, .int .i64 k] w fun e w' => e = .returned (.tuple #[.agg #[.int .i64 u, .int .i64 v], .int .i64 1]) ∧ Below w.heap.size w w') (h2 : True) (n1 : ∀ w, Calls Try.prog 19 #[rv u v] w fun e w' => e = .returned (.int .i64 0) ∧ Below w.heap.size w w') (n2 : ∀ w, Calls Try.prog 19 #[rv x y] w fun e w' => e = .returned (.int .i64 (-1)) ∧ Below w.heap.size w w') (ht : ∀ (i : Nat) w, Calls Try.prog 23 #[.agg #[.int .i64 (quart i (u, v)).1, .int .i64 (quart i (u, v)).2], .int .i64 1] w fun e w' => e = .returned (.tuple #[.agg #[.int .i64 (quart (i + 1) (u, v)).1, .int .i64 (quart (i + 1) (u, v)).2], .int .i64 0]) ∧ Below w.heap.size w w') :
    Calls Try.prog 4 #[rv x y, .int .i64 k] w fun e w' => e = .returned (.bool true) ∧ Below w.heap.size w w' := by
  have H0 := hide h0
  have H1 := hide h1
  have H2 := hide h2
  have M1 := hide n1
  have M2 := hide n2
  have HT := hide ht
  have Rx := hide (fun w => ref_any x y w)
  have Ru := hide (fun w => ref_any u v w)
  clear h0 h1 h2 n1 n2 ht
  unfold rv at *
  have t0 := two_alloc w (.int .i64 x) (.int .i64 y) 23
  have T0 := hide t0
  have BB : Hid (Below w.heap.size w (w.alloc (.cells #[.int .i64 x, .int .i64 y] 23))) := ((Below.refl _ _).alloc (by first | exact Nat.le_refl _ | (simp; done) | (simp; omega)) _)
  clear t0 
  go_enter Try.func4, Try.ntmps4
  have fT00 := (unhide T0).c0
  have fT01 := (unhide T0).c1
  go_wp2_with fail
  clear fT00 fT01
  refine (unhide H0 _).mono ?_
  rintro e w1 ⟨rfl, b1⟩
  have new := hide (two_alloc w1 (.int .i64 u) (.int .i64 v) 23)
  have HS0 : Hid (w.heap.size ≤ w1.heap.size) := ((unhide BB).trans (b1.mono (unhide BB).size)).size
  have T0n := hide (((unhide T0).up b1).alloc (.cells #[.int .i64 u, .int .i64 v] 23))
  have BBn : Hid (Below w.heap.size w (w1.alloc (.cells #[.int .i64 u, .int .i64 v] 23))) := by
    have := (unhide BB).trans (b1.mono (unhide BB).size)
    exact this.alloc this.size _
  clear BB T0
  have T0 := T0n
  have BB := BBn
  clear BBn T0n
  have S0 := new
  clear new b1
  have fT00 := (unhide T0).c0
  have fT01 := (unhide T0).c1
  go_wp2_with fail
  clear fT00 fT01
  generalize w1.alloc (.cells #[.int .i64 u, .int .i64 v] 23) = W at *
  have HS : Hid (w.heap.size ≤ w1.heap.size) := HS0
  generalize w1.heap.size = s0 at *
  refine (unhide Rx _).mono ?_
  rintro e w2 ⟨rfl, b2⟩
  have T0n := hide ((unhide T0).up b2)
  have S0n := hide ((unhide S0).up b2)
  have BBn := hide ((unhide BB).trans (b2.mono (unhide BB).size))
  clear BB T0 S0
  have T0 := T0n
  have S0 := S0n
  have BB := BBn
  clear BBn T0n S0n
  clear b2
  go_wp2_with fail
  refine (unhide H1 _).mono ?_
  rintro e w1 ⟨rfl, b1⟩
  have new := hide (two_alloc w1 (.int .i64 u) (.int .i64 v) 27)
  have HL0 : Hid (s0 < w1.heap.size) := ((unhide S0).up b1).lt
  have T0n := hide (((unhide T0).up b1).alloc (.cells #[.int .i64 u, .int .i64 v] 27))
  have S0n := hide (((unhide S0).up b1).alloc (.cells #[.int .i64 u, .int .i64 v] 27))
  have BBn : Hid (Below w.heap.size w (w1.alloc (.cells #[.int .i64 u, .int .i64 v] 27))) := by
    have := (unhide BB).trans (b1.mono (unhide BB).size)
    exact this.alloc this.size _
  clear BB T0 S0
  have T0 := T0n
  have S0 := S0n
  have BB := BBn
  clear BBn T0n S0n
  have U0 := new
  clear new b1
  go_wp2_with fail
  generalize w1.alloc (.cells #[.int .i64 u, .int .i64 v] 27) = W at *
  have HN : Hid (s0 ≠ w1.heap.size) := Nat.ne_of_lt HL0
  generalize w1.heap.size = s1 at *
  have pT00 : ∀ x : Gb W, _ := fun x => (gb_two (unhide T0) x).c0
  have pT01 : ∀ x : Gb W, _ := fun x => (gb_two (unhide T0) x).c1
  have pS00 : ∀ x : Gb W, _ := fun x => (gb_two (unhide S0) x).c0
  have pS01 : ∀ x : Gb W, _ := fun x => (gb_two (unhide S0) x).c1
  have pU00 : ∀ x : Gb W, _ := fun x => (gb_two (unhide U0) x).c0
  have pU01 : ∀ x : Gb W, _ := fun x => (gb_two (unhide U0) x).c1
  have hne := gb_ne W
  refine wp_region_grB (by kernel_rfl) (by kernel_rfl) ?_
  iterate 11 (go_big_quiet_step ((first | (go_at_call 13; exact gb_call (unhide Ru _)) | (go_at_call 19; exact gb_call (unhide M1 _)))))
  iterate 1 (go_big_quiet_step ((first | (go_at_call 13; exact gb_call (unhide Ru _)) | (go_at_call 19; exact gb_call (unhide M1 _)))))
  repeat (go_big_quiet_step ((first | (go_at_call 19; exact gb_call (unhide M2 _)))))
  refine wpQuiet_nil ?_
  rintro w7 ⟨⟨_, b7⟩, rfl⟩
  clear hne pT00 pT01 pS00 pS01 pU00 pU01
  have T0n := hide ((unhide T0).up b7)
  have S0n := hide ((unhide S0).up b7)
  have U0n := hide ((unhide U0).up b7)
  have BBn := hide ((unhide BB).trans (b7.mono (unhide BB).size))
  clear BB T0 S0 U0
  have T0 := T0n
  have S0 := S0n
  have U0 := U0n
  have BB := BBn
  clear BBn T0n S0n U0n
  clear b7
  go_wp2_with fail
  go_loopw [9] (fun iv wr => ∃ i : Nat, iv = .int .i64 (i : Nat) ∧ i ≤ 4 ∧ Hid (Below w.heap.size w wr) ∧ Hid (Two wr s0 (.int .i64 (quart i (u, v)).1) (.int .i64 (quart i (u, v)).2) 23) ∧ Hid (Two wr s1 (.int .i64 u) (.int .i64 v) 27)) (fun iv _ => 4 - (intOf iv).toNat)
  case atStart => exact ⟨0, rfl, by omega, BB, S0, U0⟩
  case round =>
    obtain ⟨i, rfl, hi, bb, ss, uu⟩ := hrel
    have hs0 : Hid (w.heap.size ≤ s0) := HS
    by_cases hlt : i < 4
    · have hlt' : ((i : Nat) : Int) < 4 := by omega
      have ht := hide (unhide HT i)
      generalize (quart i (u, v)).1 = p at *
      generalize (quart i (u, v)).2 = q at *
      generalize hp' : (quart (i + 1) (u, v)).1 = p' at *
      generalize hq' : (quart (i + 1) (u, v)).2 = q' at *
      have HP := hide hp'
      have HQ := hide hq'
      clear hp' hq'
      have f0 := (unhide ss).c0
      have f1 := (unhide ss).c1
      go_wp2_with fail
      refine (unhide ht _).mono ?_
      rintro e w4 ⟨rfl, b4⟩
      have s4 := ((unhide ss).up b4).alloc (.cells #[.int .i64 p', .int .i64 q'] 23)
      have n4 := two_alloc w4 (.int .i64 p') (.int .i64 q') 23
      have u4 := hide (((unhide uu).up b4).alloc (.cells #[.int .i64 p', .int .i64 q'] 23))
      have hlt4 : s0 < w4.heap.size := ((unhide ss).up b4).lt
      have B4 : Hid (Below w.heap.size w (w4.alloc (.cells #[.int .i64 p', .int .i64 q'] 23))) := by
        have := (unhide bb).trans (b4.mono (unhide bb).size)
        exact this.alloc this.size _
      have x0 := s4.c0
      have x1 := s4.c1
      have x2 := s4.free 0
      have x3 := s4.free 1
      have y0 := n4.c0
      have y1 := n4.c1
      have S4 := hide s4
      have z4 := (unhide ss).up b4
      have Z4 := hide z4
      have v4 := hide ((unhide uu).up b4)
      have C4 : Hid (Below w.heap.size w w4) := (unhide bb).trans (b4.mono (unhide bb).size)
      have x4 := z4.c0
      have x5 := z4.c1
      have x6 := z4.free 0
      have x7 := z4.free 1
      clear s4 n4 b4 bb f0 f1 z4
      go_wp2
      go_roundw
      case rel =>
        refine ⟨i + 1, rfl, by omega, ?_, ?_, ?_⟩
        · first
            | exact below_two (unhide B4) (unhide hs0) _ _
            | exact (below_two (unhide C4) (unhide hs0) _ _).alloc (by have := (unhide C4).size; simpa using this) _
        · rw [unhide HP, unhide HQ]
          first
            | exact ((unhide S4).set0 _).set1 _
            | exact (((unhide Z4).set0 _).set1 _).alloc _
        · first
            | exact ((unhide u4).other _ _ (by show s0 ≠ s1; exact unhide HN)).other _ _ (by show s0 ≠ s1; exact unhide HN)
            | exact (((unhide v4).other _ _ (by show s0 ≠ s1; exact unhide HN)).other _ _ (by show s0 ≠ s1; exact unhide HN)).alloc _
      case measure => simp [intOf]; omega
    · obtain rfl : i = 4 := by omega
      rw [quart_four] at ss
      have hne := gb_ne wr
      go_wp2_with fail
      refine wp_region_grB (by kernel_rfl) (by kernel_rfl) ?_
      have p0 : ∀ x : Gb wr, _ := fun x => (gb_two (unhide ss) x).c0
      have p1 : ∀ x : Gb wr, _ := fun x => (gb_two (unhide ss) x).c1
      have p2 : ∀ x : Gb wr, _ := fun x => (gb_two (unhide uu) x).c0
      have p3 : ∀ x : Gb wr, _ := fun x => (gb_two (unhide uu) x).c1
      repeat (go_big_quiet_step ((first | (go_at_call 16; exact gb_call (awake_any _)) | (go_at_call 13; exact gb_call (unhide Ru _)))))
      refine wpQuiet_nil ?_
      rintro w7 ⟨⟨_, b7⟩, rfl⟩
      have B7 := hide ((unhide bb).trans (b7.mono (unhide bb).size))
      clear b7 hne p0 p1 p2 p3
      go_wp2
      go_ret
      exact ⟨rfl, unhide B7⟩

theorem planeTurns_any (x y k : Int) (w : World) (wx : (Lit.int .i64 x).wf = true) (wy : (Lit.int .i64 y).wf = true) (wk : (Lit.int .i64 k).wf = true) :
    Calls Try.prog 4 #[rv x y, .int .i64 k] w fun e w' => e = .returned (.bool true) ∧ Below w.heap.size w w' := by
  have h0 := fun w => turn_any x y k w
  have h1 := fun w => dturn_any x y k w
  cases hE : okP x y
  · have e1 : turnA x y k = (0, 0, 1) := by unfold turnA; rw [if_neg (by rw [hE]; decide)]
    have e2 : nrmA x y = -1 := by unfold nrmA; rw [if_neg (by rw [hE]; decide)]
    rw [e1] at h0 h1
    exact turns_no x y k 0 0 0 w h0 h1 trivial (fun w => nrm_any 0 0 w) (fun w => by have := nrm_any x y w; rwa [e2] at this) (fun i w => by have := turn_any (quart i (0, 0)).1 (quart i (0, 0)).2 1 w; rwa [quart_turn (by decide)] at this)
  · have e1 : turnA x y k = ((quart (k % 4).toNat (x, y)).1, (quart (k % 4).toNat (x, y)).2, 0) := by unfold turnA; rw [if_pos hE]
    have e3 := quart_nrm (p := (x, y)) hE (k % 4).toNat
    have e4 := quart_ok (p := (x, y)) hE (k % 4).toNat
    rw [e1] at h0 h1
    exact turns_yes x y k _ _ (nrmA x y) w h0 h1 trivial (fun w => by have := nrm_any (quart (k % 4).toNat (x, y)).1 (quart (k % 4).toNat (x, y)).2 w; rwa [e3] at this) (fun w => nrm_any x y w) (fun i w => by have := turn_any (quart i ((quart (k % 4).toNat (x, y)).1, (quart (k % 4).toNat (x, y)).2)).1 (quart i ((quart (k % 4).toNat (x, y)).1, (quart (k % 4).toNat (x, y)).2)).2 1 w; rwa [quart_turn e4] at this)

end Go.Proofs.Ythodhabjcbohcaa

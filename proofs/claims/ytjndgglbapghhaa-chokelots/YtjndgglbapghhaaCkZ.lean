/- choke: the document's Dist, ahead, May. -/
import Derived.Test.YtjndgglbapghhaaCkR
import Derived.Test.YtjndgglbapghhaaCkK
namespace Go.Proofs.Ytjndgglbapghhaa
open Go.RowKit Go.Sort
set_option linter.unusedVariables false
attribute [local go_sem] Oper.semAt_some

theorem dcheck_any (x y : Int) (w : World) : Calls Try.prog 33 #[rv x y] w fun e w' => e = .returned (.bool (okP x y)) ∧ Below w.heap.size w w' := by
  rw [okP_isPl]
  exact dCheck_any x y w
set_option maxRecDepth 100000 in
theorem ddist_any (a b c d : Int) (w : World) : Calls Try.prog 49 #[rv a b, rv c d] w fun e w' => e = .returned (.int .i64 (distA a b c d)) ∧ Below w.heap.size w w' := by
  have h1 := hide (fun w => dcheck_any a b w)
  have h2 := hide (fun w => dcheck_any c d w)
  have T0 := hide ((two_alloc w (.int .i64 a) (.int .i64 b) 37).alloc (.cells #[.int .i64 c, .int .i64 d] 37))
  have e1 : (w.alloc (.cells #[.int .i64 a, .int .i64 b] 37)).heap.size = w.heap.size + 1 := by simp
  have t1 := two_alloc (w.alloc (.cells #[.int .i64 a, .int .i64 b] 37)) (.int .i64 c) (.int .i64 d) 37
  rw [e1] at t1
  have T1 := hide t1
  clear e1 t1
  have BB : Hid (Below w.heap.size w ((w.alloc (.cells #[.int .i64 a, .int .i64 b] 37)).alloc (.cells #[.int .i64 c, .int .i64 d] 37))) := ((Below.refl _ _).alloc (Nat.le_refl _) _).alloc (by simp) _
  have f00 := (unhide T0).c0
  have f01 := (unhide T0).c1
  have HA : Hid (distA a b c d = if (okP a b && okP c d) = true then (a - c) * (a - c) + (b - d) * (b - d) else -1) := rfl
  generalize distA a b c d = R at *
  have Q1 := hide (@okP_t a b)
  have Q2 := hide (@okP_t c d)
  generalize okP a b = E1 at *
  generalize okP c d = E2 at *
  unfold rv at *
  go_enter Try.func49, Try.ntmps49
  go_wp2_with fail
  refine (unhide h1 _).mono ?_
  rintro e w1 ⟨rfl, b1⟩
  have T0n := hide ((unhide T0).up b1)
  have T1n := hide ((unhide T1).up b1)
  have BBn := hide ((unhide BB).trans (b1.mono (unhide BB).size))
  clear b1 BB T0 T1 f00 f01
  have g0 := (unhide T1n).c0
  have g1 := (unhide T1n).c1
  cases E1
  · go_wp2
    go_ret
    exact ⟨by rw [unhide HA]; rfl, unhide BBn⟩
  go_wp2_with fail
  refine (unhide h2 _).mono ?_
  rintro e w2 ⟨rfl, b2⟩
  have T0 := hide ((unhide T0n).up b2)
  have T1 := hide ((unhide T1n).up b2)
  have BB := hide ((unhide BBn).trans (b2.mono (unhide BBn).size))
  clear b2 BBn T0n T1n g0 g1
  cases E2
  · go_wp2
    go_ret
    exact ⟨by rw [unhide HA]; rfl, unhide BB⟩
  obtain ⟨⟨a1, a2⟩, a3, a4⟩ := unhide Q1 (by first | rfl | trivial)
  obtain ⟨⟨c1, c2⟩, c3, c4⟩ := unhide Q2 (by first | rfl | trivial)
  have m1 := abs_mul_le (n := 2097152) (m := 2097152) (show (a - c).natAbs ≤ _ by omega) (show (a - c).natAbs ≤ _ by omega)
  have m2 := abs_mul_le (n := 2097152) (m := 2097152) (show (b - d).natAbs ≤ _ by omega) (show (b - d).natAbs ≤ _ by omega)
  have l1 : -4398046511104 ≤ (a - c) * (a - c) ∧ (a - c) * (a - c) ≤ 4398046511104 := by omega
  have l2 : -4398046511104 ≤ (b - d) * (b - d) ∧ (b - d) * (b - d) ≤ 4398046511104 := by omega
  have f00 := (unhide T0).c0
  have f01 := (unhide T0).c1
  have g0 := (unhide T1).c0
  have g1 := (unhide T1).c1
  clear m1 m2 Q1 Q2
  go_wp2
  go_ret
  exact ⟨by rw [unhide HA]; rfl, unhide BB⟩

set_option maxRecDepth 100000 in
set_option maxHeartbeats 4000000 in
theorem dahead_any (x y : Int) (a b : Pr) (w : World) : Calls Try.prog 35 #[.agg a.cl.toArray, .agg b.cl.toArray, rv x y] w fun e w' => e = .returned (.bool (ahP x y a b)) ∧ Below w.heap.size w w' := by
  have HD1 := hide (fun W => ddist_any x y a.x a.y W)
  have HD2 := hide (fun W => ddist_any x y b.x b.y W)
  have HV := hide (show ahP x y a b = lexB a.ra b.ra (distA x y a.x a.y) (distA x y b.x b.y) a.nd b.nd from rfl)
  generalize ahP x y a b = V at *
  generalize distA x y a.x a.y = d1 at *
  generalize distA x y b.x b.y = d2 at *
  obtain ⟨W0, hW0⟩ : ∃ W0, W0 = ((w.alloc (.cells a.cl.toArray 57)).alloc (.cells b.cl.toArray 57)).alloc (.cells #[.int .i64 x, .int .i64 y] 37) := ⟨_, rfl⟩
  have hs1 : (w.alloc (.cells a.cl.toArray 57)).heap.size = w.heap.size + 1 := by simp
  have hs2 : ((w.alloc (.cells a.cl.toArray 57)).alloc (.cells b.cl.toArray 57)).heap.size = w.heap.size + 2 := by simp
  have HX0 : Hid (W0.heap[w.heap.size]? = some (.cells a.cl.toArray 57 (0, 0))) := by
    show _ = _
    rw [hW0, Below.heap_alloc _ _ _ (by simp; omega), Below.heap_alloc _ _ _ (by simp)]
    exact heap_alloc_new _ _
  have HX1 : Hid (W0.heap[w.heap.size + 1]? = some (.cells b.cl.toArray 57 (0, 0))) := by
    show _ = _
    rw [hW0, Below.heap_alloc _ _ _ (by simp)]
    have := heap_alloc_new (w.alloc (.cells a.cl.toArray 57)) (.cells b.cl.toArray 57)
    rwa [hs1] at this
  have HX2 : Hid (Two W0 (w.heap.size + 2) (.int .i64 x) (.int .i64 y) 37) := by
    have := two_alloc ((w.alloc (.cells a.cl.toArray 57)).alloc (.cells b.cl.toArray 57)) (.int .i64 x) (.int .i64 y) 37
    rw [hs2, ← hW0] at this
    exact this
  have HB0 : Hid (Below w.heap.size w W0) := by
    show Below _ _ _
    rw [hW0]
    exact (((Below.refl _ w).alloc (Nat.le_refl _) _).alloc (by simp) _).alloc (by simp; omega) _
  have HW := hide hW0
  clear hs1 hs2 hW0
  obtain ⟨b1, hb1⟩ : ∃ b1, b1 = w.heap.size + 1 := ⟨_, rfl⟩
  obtain ⟨b2, hb2⟩ : ∃ b2, b2 = w.heap.size + 2 := ⟨_, rfl⟩
  obtain ⟨nd, px, py, hv, wa, op, os, se, nw, ra⟩ := a
  obtain ⟨nd', px', py', hv', wa', op', os', se', nw', ra'⟩ := b
  have HC : Hid (∀ W, Below W0.heap.size W0 W →
      (W.cell? ⟨w.heap.size, 0, none⟩ = some (.int .i64 nd) ∧ W.cell? ⟨w.heap.size, 1, none⟩ = some (.int .i64 px) ∧ W.cell? ⟨w.heap.size, 2, none⟩ = some (.int .i64 py) ∧ W.cell? ⟨w.heap.size, 9, none⟩ = some (.int .i64 ra)) ∧
      (W.cell? ⟨w.heap.size + 1, 0, none⟩ = some (.int .i64 nd') ∧ W.cell? ⟨w.heap.size + 1, 1, none⟩ = some (.int .i64 px') ∧ W.cell? ⟨w.heap.size + 1, 2, none⟩ = some (.int .i64 py') ∧ W.cell? ⟨w.heap.size + 1, 9, none⟩ = some (.int .i64 ra')) ∧
      (W.cell? ⟨w.heap.size + 2, 0, none⟩ = some (.int .i64 x) ∧ W.cell? ⟨w.heap.size + 2, 1, none⟩ = some (.int .i64 y)) ∧ w.heap.size + 2 < W.heap.size) := fun W hW => by
    have g0 : W.heap[w.heap.size]? = _ := (hW.block _ (lt_of_block (unhide HX0))).trans (unhide HX0)
    have g1 : W.heap[w.heap.size + 1]? = _ := (hW.block _ (lt_of_block (unhide HX1))).trans (unhide HX1)
    have g2 := (unhide HX2).up hW
    exact ⟨⟨cell_of_row _ _ 0 _ _ _ g0, cell_of_row _ _ 1 _ _ _ g0, cell_of_row _ _ 2 _ _ _ g0, cell_of_row _ _ 9 _ _ _ g0⟩, ⟨cell_of_row _ _ 0 _ _ _ g1, cell_of_row _ _ 1 _ _ _ g1, cell_of_row _ _ 2 _ _ _ g1, cell_of_row _ _ 9 _ _ _ g1⟩, ⟨g2.c0, g2.c1⟩, g2.lt⟩
  unfold Pr.cl at HW HX0 HX1 ⊢
  unfold rv at *
  dsimp only at HD1 HD2 HV HW ⊢
  go_enter Try.func35, Try.ntmps35
  go_wp2_with fail
  rw [← unhide HW]
  clear HW HX0 HX1 HX2
  obtain ⟨⟨a0, a1, a2, a9⟩, ⟨c0, c1, c2, c9⟩, ⟨t0, t1⟩, hz⟩ := unhide HC W0 (Below.refl _ _)
  clear hb1 hb2
  go_wp2_with fail
  refine (unhide HD1 _).mono ?_
  rintro e w1 ⟨rfl, g1⟩
  have G1 := hide g1
  clear a0 a1 a2 a9 c0 c1 c2 c9 t0 t1 hz g1
  obtain ⟨⟨a0, a1, a2, a9⟩, ⟨c0, c1, c2, c9⟩, ⟨t0, t1⟩, hz⟩ := unhide HC w1 (unhide G1)
  go_wp2_with fail
  refine (unhide HD2 _).mono ?_
  rintro e w2 ⟨rfl, g2⟩
  have G2 := hide ((unhide G1).trans (g2.mono (unhide G1).size))
  clear a0 a1 a2 a9 c0 c1 c2 c9 t0 t1 hz g2 G1
  obtain ⟨⟨a0, a1, a2, a9⟩, ⟨c0, c1, c2, c9⟩, ⟨t0, t1⟩, hz⟩ := unhide HC w2 (unhide G2)
  have HB2 := hide ((unhide HB0).trans ((unhide G2).mono (unhide HB0).size))
  clear G2 HB0 HC HD1 HD2
  by_cases h1 : ra' < ra
  · have r1 : decide (ra' < ra) = true := decide_eq_true h1
    go_wp2
    go_ret
    exact ⟨by rw [(unhide HV).trans (lexB_iff.2 (by omega))]; rfl, unhide HB2⟩
  have r1 : decide (ra' < ra) = false := decide_eq_false h1
  by_cases h2 : ra = ra'
  · have r2 : (ra == ra') = true := by simpa using h2
    by_cases h3 : d1 < d2
    · have r3 : decide (d1 < d2) = true := decide_eq_true h3
      have H2 := hide h2
      clear h2
      go_wp2
      go_ret
      exact ⟨by rw [(unhide HV).trans (lexB_iff.2 (by have h2 := unhide H2; omega))]; rfl, unhide HB2⟩
    have r3 : decide (d1 < d2) = false := decide_eq_false h3
    by_cases h4 : d1 = d2
    · have r4 : (d1 == d2) = true := by simpa using h4
      have H2 := hide h2
      have H4 := hide h4
      clear h2 h4
      by_cases h5 : nd < nd'
      · have r5 : decide (nd < nd') = true := decide_eq_true h5
        go_wp2
        go_ret
        exact ⟨by rw [(unhide HV).trans (lexB_iff.2 (by have h2 := unhide H2; have h4 := unhide H4; omega))]; rfl, unhide HB2⟩
      · have r5 : decide (nd < nd') = false := decide_eq_false h5
        go_wp2
        go_ret
        exact ⟨by rw [(unhide HV).trans (lexB_not.2 (by have h2 := unhide H2; have h4 := unhide H4; omega))]; rfl, unhide HB2⟩
    · have r4 : (d1 == d2) = false := by simpa using h4
      have H2 := hide h2
      clear h2
      go_wp2
      go_ret
      exact ⟨by rw [(unhide HV).trans (lexB_not.2 (by have h2 := unhide H2; omega))]; rfl, unhide HB2⟩
  · have r2 : (ra == ra') = false := by simpa using h2
    go_wp2
    go_ret
    exact ⟨by rw [(unhide HV).trans (lexB_not.2 (by omega))]; rfl, unhide HB2⟩
end Go.Proofs.Ytjndgglbapghhaa

/- What the law RatioOrder does, whatever the world: it answers true and changes nothing that was there. -/
import Derived.Test.YtmaeebgphblilaaRtMk
import Derived.Test.YtmaeebgphblilaaRtP
namespace Go.Proofs.Ytmaeebgphblilaa
open Go.RowKit
set_option linter.unusedVariables false

set_option maxRecDepth 100000 in
set_option maxHeartbeats 16000000 in
theorem ratioOrder_any (a b c d e f : Int) (w : World) (wa : (Lit.int .i64 a).wf = true) (wb : (Lit.int .i64 b).wf = true) (wc : (Lit.int .i64 c).wf = true) (wd : (Lit.int .i64 d).wf = true) (we : (Lit.int .i64 e).wf = true) (wf : (Lit.int .i64 f).wf = true) :
    Calls Try.prog 7 #[rv a b, rv c d, rv e f] w fun r w' => r = .returned (.bool true) ∧ Below w.heap.size w w' := by
  obtain ⟨a0, a1⟩ := bounds_i64 wa
  obtain ⟨b0, b1⟩ := bounds_i64 wb
  obtain ⟨c0, c1⟩ := bounds_i64 wc
  obtain ⟨d0, d1⟩ := bounds_i64 wd
  obtain ⟨e0, e1⟩ := bounds_i64 we
  obtain ⟨f0, f1⟩ := bounds_i64 wf
  have hc0 := fun w => check_any a b w (by omega) (by omega) (by omega) (by omega)
  have hc1 := fun w => check_any c d w (by omega) (by omega) (by omega) (by omega)
  have hc2 := fun w => check_any e f w (by omega) (by omega) (by omega) (by omega)
  obtain ⟨t1, t2, t3, bb⟩ := three_new w (.int .i64 a) (.int .i64 b) (.int .i64 c) (.int .i64 d) (.int .i64 e) (.int .i64 f) 23
  have T1 := hide t1
  have T2 := hide t2
  have T3 := hide t3
  have BB := hide bb
  clear t1 t2 t3 bb
  cases hE0 : okR a b
  · rw [hE0] at hc0
    clear hE0
    have hc0 := hide hc0
    unfold rv at *
    go_enter Try.func7, Try.ntmps7
    go_wp2_with fail
    refine (unhide hc0 _).mono ?_
    rintro r w1 ⟨rfl, b1⟩
    have T1n := hide ((unhide T1).up b1)
    have T2n := hide ((unhide T2).up b1)
    have T3n := hide ((unhide T3).up b1)
    have BBn := hide ((unhide BB).trans (b1.mono (unhide BB).size))
    clear b1 BB T1 T2 T3
    have T1 := T1n
    have T2 := T2n
    have T3 := T3n
    have BB := BBn
    clear BBn T1n T2n T3n
    go_wp2_with fail
    refine (rtawake_any _).mono ?_
    rintro r w2 ⟨rfl, b2⟩
    have BBn := hide ((unhide BB).trans (b2.mono (unhide BB).size))
    clear b2
    go_wp2
    go_ret
    exact ⟨rfl, unhide BBn⟩
  rw [hE0] at hc0
  cases hE1 : okR c d
  · rw [hE1] at hc1
    clear hE1 hE0
    have hc1 := hide hc1
    have hc0 := hide hc0
    unfold rv at *
    go_enter Try.func7, Try.ntmps7
    go_wp2_with fail
    refine (unhide hc0 _).mono ?_
    rintro r w1 ⟨rfl, b1⟩
    have T1n := hide ((unhide T1).up b1)
    have T2n := hide ((unhide T2).up b1)
    have T3n := hide ((unhide T3).up b1)
    have BBn := hide ((unhide BB).trans (b1.mono (unhide BB).size))
    clear b1 BB T1 T2 T3
    have T1 := T1n
    have T2 := T2n
    have T3 := T3n
    have BB := BBn
    clear BBn T1n T2n T3n
    have fT20 := (unhide T2).c0
    have fT21 := (unhide T2).c1
    go_wp2_with fail
    clear fT20 fT21
    refine (unhide hc1 _).mono ?_
    rintro r w1 ⟨rfl, b1⟩
    have T1n := hide ((unhide T1).up b1)
    have T2n := hide ((unhide T2).up b1)
    have T3n := hide ((unhide T3).up b1)
    have BBn := hide ((unhide BB).trans (b1.mono (unhide BB).size))
    clear b1 BB T1 T2 T3
    have T1 := T1n
    have T2 := T2n
    have T3 := T3n
    have BB := BBn
    clear BBn T1n T2n T3n
    go_wp2_with fail
    refine (rtawake_any _).mono ?_
    rintro r w2 ⟨rfl, b2⟩
    have BBn := hide ((unhide BB).trans (b2.mono (unhide BB).size))
    clear b2
    go_wp2
    go_ret
    exact ⟨rfl, unhide BBn⟩
  rw [hE1] at hc1
  cases hE2 : okR e f
  · rw [hE2] at hc2
    clear hE2 hE0 hE1
    have hc2 := hide hc2
    have hc0 := hide hc0
    have hc1 := hide hc1
    unfold rv at *
    go_enter Try.func7, Try.ntmps7
    go_wp2_with fail
    refine (unhide hc0 _).mono ?_
    rintro r w1 ⟨rfl, b1⟩
    have T1n := hide ((unhide T1).up b1)
    have T2n := hide ((unhide T2).up b1)
    have T3n := hide ((unhide T3).up b1)
    have BBn := hide ((unhide BB).trans (b1.mono (unhide BB).size))
    clear b1 BB T1 T2 T3
    have T1 := T1n
    have T2 := T2n
    have T3 := T3n
    have BB := BBn
    clear BBn T1n T2n T3n
    have fT20 := (unhide T2).c0
    have fT21 := (unhide T2).c1
    go_wp2_with fail
    clear fT20 fT21
    refine (unhide hc1 _).mono ?_
    rintro r w1 ⟨rfl, b1⟩
    have T1n := hide ((unhide T1).up b1)
    have T2n := hide ((unhide T2).up b1)
    have T3n := hide ((unhide T3).up b1)
    have BBn := hide ((unhide BB).trans (b1.mono (unhide BB).size))
    clear b1 BB T1 T2 T3
    have T1 := T1n
    have T2 := T2n
    have T3 := T3n
    have BB := BBn
    clear BBn T1n T2n T3n
    have fT30 := (unhide T3).c0
    have fT31 := (unhide T3).c1
    go_wp2_with fail
    clear fT30 fT31
    refine (unhide hc2 _).mono ?_
    rintro r w1 ⟨rfl, b1⟩
    have T1n := hide ((unhide T1).up b1)
    have T2n := hide ((unhide T2).up b1)
    have T3n := hide ((unhide T3).up b1)
    have BBn := hide ((unhide BB).trans (b1.mono (unhide BB).size))
    clear b1 BB T1 T2 T3
    have T1 := T1n
    have T2 := T2n
    have T3 := T3n
    have BB := BBn
    clear BBn T1n T2n T3n
    go_wp2_with fail
    refine (rtawake_any _).mono ?_
    rintro r w2 ⟨rfl, b2⟩
    have BBn := hide ((unhide BB).trans (b2.mono (unhide BB).size))
    clear b2
    go_wp2
    go_ret
    exact ⟨rfl, unhide BBn⟩
  rw [hE2] at hc2
  obtain ⟨o1, o2, o3, o4, _⟩ := okR_of hE0
  obtain ⟨o5, o6, o7, o8, _⟩ := okR_of hE1
  obtain ⟨o9, o10, o11, o12, _⟩ := okR_of hE2
  have h1 := fun w => compare_any a b c d w (by omega) (by omega) (by omega) (by omega) (by omega) (by omega) (by omega) (by omega)
  have h2 := fun w => compare_any c d e f w (by omega) (by omega) (by omega) (by omega) (by omega) (by omega) (by omega) (by omega)
  have h3 := fun w => compare_any a b e f w (by omega) (by omega) (by omega) (by omega) (by omega) (by omega) (by omega) (by omega)
  have h4 := fun w => compare_any c d a b w (by omega) (by omega) (by omega) (by omega) (by omega) (by omega) (by omega) (by omega)
  have h5 := fun w => floor_any a b w (by omega) (by omega) (by omega) (by omega)
  have h6 := fun w => ceil_any a b w (by omega) (by omega) (by omega) (by omega)
  have e1 : cmpA a b c d = cmpV (a * d) (c * b) := by unfold cmpA; rw [hE0, hE1]; rfl
  have e2 : cmpA c d e f = cmpV (c * f) (e * d) := by unfold cmpA; rw [hE1, hE2]; rfl
  have e3 : cmpA a b e f = cmpV (a * f) (e * b) := by unfold cmpA; rw [hE0, hE2]; rfl
  have e4 : cmpA c d a b = cmpV (c * b) (a * d) := by unfold cmpA; rw [hE1, hE0]; rfl
  have e5 : floA a b = a / b := by unfold floA; rw [if_pos hE0]
  have e6 : ceA a b = -(-a / b) := by unfold ceA; rw [if_pos hE0]
  rw [e1] at h1
  rw [e2] at h2
  rw [e3] at h3
  rw [e4] at h4
  rw [e5] at h5
  rw [e6] at h6
  obtain ⟨l1, l2, l3, l4, l5⟩ := floor_facts hE0
  have q1 := ediv_bound (m := 2147483647) o1 o2 o3
  have q2 := ediv_bound (a := -a) (m := 2147483647) (by omega) (by omega) o3
  generalize a / b = L at *
  have q3 : -2147483647 ≤ -(-a / b) ∧ -(-a / b) ≤ 2147483647 := by omega
  generalize -(-a / b) = U at *
  clear q2 e1 e2 e3 e4 e5 e6
  have k1 := prod_bound (x := L) (y := b) (by omega) (by omega) (by omega) (by omega)
  have k2 := prod_bound (x := U) (y := b) (by omega) (by omega) (by omega) (by omega)
  have hxy : Hid (a * d = c * b → a = c ∧ b = d) := fun h => cross_eq hE0 hE1 h
  have htr : Hid (a * d ≤ c * b → c * f ≤ e * d → a * f ≤ e * b ∧ (a * d < c * b ∨ c * f < e * d → a * f < e * b)) := fun h h' => cross_trans o3 o7 o11 h h'
  obtain ⟨B1, eB1⟩ : ∃ B1 : Bool, (L == U) = B1 := ⟨_, rfl⟩
  have eB2 : (b == 1) = B1 := by
    rw [← eB1]
    by_cases hb1 : b = 1
    · rw [beq_iff_eq.2 hb1, beq_iff_eq.2 (l3.2 hb1)]
    · rw [beq_eq_false_iff_ne.2 hb1, beq_eq_false_iff_ne.2 (fun h => hb1 (l3.1 h))]
  have n1 : ¬ U < L := by omega
  have n2 : ¬ 1 < U - L := by omega
  have n3 : ¬ a < L * b := by omega
  have n4 : ¬ U * b < a := by omega
  have hy := hide (cmpV_cases (a * d) (c * b))
  have hz := hide (cmpV_cases (c * b) (a * d))
  have hu := hide (cmpV_cases (c * f) (e * d))
  have hv := hide (cmpV_cases (a * f) (e * b))
  have hneg : cmpV (c * b) (a * d) = -cmpV (a * d) (c * b) := by
    rcases unhide hy with ⟨p1, p2⟩ | ⟨p1, p2⟩ | ⟨p1, p2⟩ <;> rcases unhide hz with ⟨p3, p4⟩ | ⟨p3, p4⟩ | ⟨p3, p4⟩ <;> omega
  rw [hneg] at h4
  -- how the three stand
  have five : Hid ((cmpV (a * d) (c * b) = 1 ∧ ¬ (a = c ∧ b = d)) ∨ (cmpV (a * d) (c * b) = 0 ∧ a = c ∧ b = d ∧ cmpV (c * f) (e * d) = 1) ∨ (cmpV (a * d) (c * b) = -1 ∧ ¬ (a = c ∧ b = d) ∧ cmpV (c * f) (e * d) = 1) ∨ (cmpV (a * d) (c * b) = 0 ∧ a = c ∧ b = d ∧ ¬ 0 < cmpV (c * f) (e * d) ∧ cmpV (a * f) (e * b) ≤ 0) ∨ (cmpV (a * d) (c * b) = -1 ∧ ¬ (a = c ∧ b = d) ∧ ¬ 0 < cmpV (c * f) (e * d) ∧ cmpV (a * f) (e * b) = -1)) := by
    show _ ∨ _
    have hself : a = c ∧ b = d → a * d = c * b := by rintro ⟨rfl, rfl⟩; rfl
    rcases unhide hy with ⟨p1, p2⟩ | ⟨p1, p2⟩ | ⟨p1, p2⟩
    · have hn : ¬ (a = c ∧ b = d) := fun h => by have := hself h; omega
      rcases unhide hu with ⟨r1, r2⟩ | ⟨r1, r2⟩ | ⟨r1, r2⟩
      · have := (unhide htr (by omega) (by omega)).2 (.inl p2)
        rcases unhide hv with ⟨v1, v2⟩ | ⟨v1, v2⟩ | ⟨v1, v2⟩
        · exact .inr (.inr (.inr (.inr ⟨p1, hn, by omega, v1⟩)))
        · omega
        · omega
      · have := (unhide htr (by omega) (by omega)).2 (.inl p2)
        rcases unhide hv with ⟨v1, v2⟩ | ⟨v1, v2⟩ | ⟨v1, v2⟩
        · exact .inr (.inr (.inr (.inr ⟨p1, hn, by omega, v1⟩)))
        · omega
        · omega
      · exact .inr (.inr (.inl ⟨p1, hn, r1⟩))
    · obtain ⟨s1, s2⟩ := unhide hxy p2
      rcases unhide hu with ⟨r1, r2⟩ | ⟨r1, r2⟩ | ⟨r1, r2⟩
      · have := (unhide htr (by omega) (by omega)).1
        rcases unhide hv with ⟨v1, v2⟩ | ⟨v1, v2⟩ | ⟨v1, v2⟩
        · exact .inr (.inr (.inr (.inl ⟨p1, s1, s2, by omega, by omega⟩)))
        · exact .inr (.inr (.inr (.inl ⟨p1, s1, s2, by omega, by omega⟩)))
        · omega
      · have := (unhide htr (by omega) (by omega)).1
        rcases unhide hv with ⟨v1, v2⟩ | ⟨v1, v2⟩ | ⟨v1, v2⟩
        · exact .inr (.inr (.inr (.inl ⟨p1, s1, s2, by omega, by omega⟩)))
        · exact .inr (.inr (.inr (.inl ⟨p1, s1, s2, by omega, by omega⟩)))
        · omega
      · exact .inr (.inl ⟨p1, s1, s2, r1⟩)
    · exact .inl ⟨p1, fun h => by have := hself h; omega⟩
  have bw : ∀ x y : Int, -1 ≤ cmpV x y ∧ cmpV x y ≤ 1 := fun x y => by rcases cmpV_cases x y with ⟨h, _⟩ | ⟨h, _⟩ | ⟨h, _⟩ <;> omega
  have b1' := bw (a * d) (c * b)
  have b2' := bw (c * f) (e * d)
  have b3' := bw (a * f) (e * b)
  clear bw hneg hy hz hu hv hxy htr
  generalize cmpV (a * d) (c * b) = P at *
  generalize cmpV (c * f) (e * d) = R at *
  generalize cmpV (a * f) (e * b) = S at *
  have N1 := hide n1
  have N2 := hide n2
  have N3 := hide n3
  have N4 := hide n4
  have EB1 := hide eB1
  have EB2 := hide eB2
  clear l1 l2 l3 l4 l5 hE0 hE1 hE2 o1 o2 o3 o4 o5 o6 o7 o8 o9 o10 o11 o12 n1 n2 n3 n4 eB1 eB2
  simp only [rv] at hc0 hc1 hc2 h1 h2 h3 h4 h5 h6 ⊢
  have Hc0 := hide hc0
  have Hc1 := hide hc1
  have Hc2 := hide hc2
  have H1 := hide h1
  have H2 := hide h2
  have H3 := hide h3
  have H4 := hide h4
  have H5 := hide h5
  have H6 := hide h6
  clear hc0 hc1 hc2 h1 h2 h3 h4 h5 h6 wa a0 a1 wb b0 b1 wc c0 c1 wd d0 d1 we e0 e1 wf f0 f1
  rcases unhide five with ⟨rfl, hn⟩ | ⟨rfl, rfl, rfl, rfl⟩ | ⟨rfl, hn, rfl⟩ | ⟨rfl, rfl, rfl, hR, hS⟩ | ⟨rfl, hn, hR, rfl⟩
  · by_cases hac : a = c
    · subst hac
      have hbd : (b == d) = false := beq_eq_false_iff_ne.2 (fun h => hn ⟨rfl, h⟩)
      clear hn
      go_enter Try.func7, Try.ntmps7
      go_wp2_with fail
      refine (unhide Hc0 _).mono ?_
      rintro r w1 ⟨rfl, b1⟩
      have T1n := hide ((unhide T1).up b1)
      have T2n := hide ((unhide T2).up b1)
      have T3n := hide ((unhide T3).up b1)
      have BBn := hide ((unhide BB).trans (b1.mono (unhide BB).size))
      clear b1 BB T1 T2 T3
      have T1 := T1n
      have T2 := T2n
      have T3 := T3n
      have BB := BBn
      clear BBn T1n T2n T3n
      have fT20 := (unhide T2).c0
      have fT21 := (unhide T2).c1
      go_wp2_with fail
      clear fT20 fT21
      refine (unhide Hc1 _).mono ?_
      rintro r w2 ⟨rfl, b2⟩
      have T1n := hide ((unhide T1).up b2)
      have T2n := hide ((unhide T2).up b2)
      have T3n := hide ((unhide T3).up b2)
      have BBn := hide ((unhide BB).trans (b2.mono (unhide BB).size))
      clear b2 BB T1 T2 T3
      have T1 := T1n
      have T2 := T2n
      have T3 := T3n
      have BB := BBn
      clear BBn T1n T2n T3n
      have fT30 := (unhide T3).c0
      have fT31 := (unhide T3).c1
      go_wp2_with fail
      clear fT30 fT31
      refine (unhide Hc2 _).mono ?_
      rintro r w3 ⟨rfl, b3⟩
      have T1n := hide ((unhide T1).up b3)
      have T2n := hide ((unhide T2).up b3)
      have T3n := hide ((unhide T3).up b3)
      have BBn := hide ((unhide BB).trans (b3.mono (unhide BB).size))
      clear b3 BB T1 T2 T3
      have T1 := T1n
      have T2 := T2n
      have T3 := T3n
      have BB := BBn
      clear BBn T1n T2n T3n
      go_wp2_with fail
      obtain ⟨p1, q1⟩ := gb_two (unhide T1)
      obtain ⟨p2, q2⟩ := gb_two (unhide T2)
      obtain ⟨p3, q3⟩ := gb_two (unhide T3)
      have hne := gb_ne w3
      refine wp_region_gr (fun x => Below w3.heap.size w3 x) (by kernel_rfl) (by kernel_rfl) (gb_start w3) ?_
      iterate 3 (go_big_quiet_step ((go_at_call 26; exact gb_call (unhide H1 _))))
      iterate 3 (go_big_quiet_step ((go_at_call 26; exact gb_call (unhide H2 _))))
      repeat (go_big_quiet_step ((go_at_call 26; exact gb_call (unhide H3 _))))
      refine wpQuiet_nil ?_
      rintro w4 ⟨⟨_, b4⟩, rfl⟩
      clear hne p1 q1 p2 q2 p3 q3
      have T1n := hide ((unhide T1).up b4)
      have T2n := hide ((unhide T2).up b4)
      have T3n := hide ((unhide T3).up b4)
      have BBn := hide ((unhide BB).trans (b4.mono (unhide BB).size))
      clear b4 BB T1 T2 T3
      have T1 := T1n
      have T2 := T2n
      have T3 := T3n
      have BB := BBn
      clear BBn T1n T2n T3n
      go_wp2_with fail
      obtain ⟨p1, q1⟩ := gb_two (unhide T1)
      obtain ⟨p2, q2⟩ := gb_two (unhide T2)
      obtain ⟨p3, q3⟩ := gb_two (unhide T3)
      have hne := gb_ne w4
      refine wp_region_gr (fun x => Below w4.heap.size w4 x) (by kernel_rfl) (by kernel_rfl) (gb_start w4) ?_
      repeat (go_big_quiet_step ((first | (go_at_call 28; exact gb_call (unhide H5 _)) | (go_at_call 30; exact gb_call (unhide H6 _)))))
      refine wpQuiet_nil ?_
      rintro w5 ⟨⟨_, b5⟩, rfl⟩
      clear hne p1 q1 p2 q2 p3 q3
      have T1n := hide ((unhide T1).up b5)
      have T2n := hide ((unhide T2).up b5)
      have T3n := hide ((unhide T3).up b5)
      have BBn := hide ((unhide BB).trans (b5.mono (unhide BB).size))
      clear b5 BB T1 T2 T3
      have T1 := T1n
      have T2 := T2n
      have T3 := T3n
      have BB := BBn
      clear BBn T1n T2n T3n
      have fT10 := (unhide T1).c0
      have fT11 := (unhide T1).c1
      have n1 := unhide N1
      have n2 := unhide N2
      have n3 := unhide N3
      have n4 := unhide N4
      have eB1 := unhide EB1
      have eB2 := unhide EB2
      go_wp2_with fail
      clear n1 n2 n3 n4 eB1 eB2
      clear fT10 fT11
      refine (rtawake_any _).mono ?_
      rintro r w6 ⟨rfl, b6⟩
      have T1n := hide ((unhide T1).up b6)
      have T2n := hide ((unhide T2).up b6)
      have T3n := hide ((unhide T3).up b6)
      have BBn := hide ((unhide BB).trans (b6.mono (unhide BB).size))
      clear b6 BB T1 T2 T3
      have T1 := T1n
      have T2 := T2n
      have T3 := T3n
      have BB := BBn
      clear BBn T1n T2n T3n
      have fT10 := (unhide T1).c0
      have fT11 := (unhide T1).c1
      have fT20 := (unhide T2).c0
      have fT21 := (unhide T2).c1
      go_wp2_with fail
      clear fT10 fT11 fT20 fT21
      refine (unhide H4 _).mono ?_
      rintro r w7 ⟨rfl, b7⟩
      have T1n := hide ((unhide T1).up b7)
      have T2n := hide ((unhide T2).up b7)
      have T3n := hide ((unhide T3).up b7)
      have BBn := hide ((unhide BB).trans (b7.mono (unhide BB).size))
      clear b7 BB T1 T2 T3
      have T1 := T1n
      have T2 := T2n
      have T3 := T3n
      have BB := BBn
      clear BBn T1n T2n T3n
      have fT10 := (unhide T1).c0
      have fT11 := (unhide T1).c1
      have fT20 := (unhide T2).c0
      have fT21 := (unhide T2).c1
      go_wp2
      go_ret
      exact ⟨rfl, unhide BB⟩
    · have hac' : (a == c) = false := beq_eq_false_iff_ne.2 hac
      clear hn hac
      go_enter Try.func7, Try.ntmps7
      go_wp2_with fail
      refine (unhide Hc0 _).mono ?_
      rintro r w1 ⟨rfl, b1⟩
      have T1n := hide ((unhide T1).up b1)
      have T2n := hide ((unhide T2).up b1)
      have T3n := hide ((unhide T3).up b1)
      have BBn := hide ((unhide BB).trans (b1.mono (unhide BB).size))
      clear b1 BB T1 T2 T3
      have T1 := T1n
      have T2 := T2n
      have T3 := T3n
      have BB := BBn
      clear BBn T1n T2n T3n
      have fT20 := (unhide T2).c0
      have fT21 := (unhide T2).c1
      go_wp2_with fail
      clear fT20 fT21
      refine (unhide Hc1 _).mono ?_
      rintro r w2 ⟨rfl, b2⟩
      have T1n := hide ((unhide T1).up b2)
      have T2n := hide ((unhide T2).up b2)
      have T3n := hide ((unhide T3).up b2)
      have BBn := hide ((unhide BB).trans (b2.mono (unhide BB).size))
      clear b2 BB T1 T2 T3
      have T1 := T1n
      have T2 := T2n
      have T3 := T3n
      have BB := BBn
      clear BBn T1n T2n T3n
      have fT30 := (unhide T3).c0
      have fT31 := (unhide T3).c1
      go_wp2_with fail
      clear fT30 fT31
      refine (unhide Hc2 _).mono ?_
      rintro r w3 ⟨rfl, b3⟩
      have T1n := hide ((unhide T1).up b3)
      have T2n := hide ((unhide T2).up b3)
      have T3n := hide ((unhide T3).up b3)
      have BBn := hide ((unhide BB).trans (b3.mono (unhide BB).size))
      clear b3 BB T1 T2 T3
      have T1 := T1n
      have T2 := T2n
      have T3 := T3n
      have BB := BBn
      clear BBn T1n T2n T3n
      go_wp2_with fail
      obtain ⟨p1, q1⟩ := gb_two (unhide T1)
      obtain ⟨p2, q2⟩ := gb_two (unhide T2)
      obtain ⟨p3, q3⟩ := gb_two (unhide T3)
      have hne := gb_ne w3
      refine wp_region_gr (fun x => Below w3.heap.size w3 x) (by kernel_rfl) (by kernel_rfl) (gb_start w3) ?_
      iterate 3 (go_big_quiet_step ((go_at_call 26; exact gb_call (unhide H1 _))))
      iterate 3 (go_big_quiet_step ((go_at_call 26; exact gb_call (unhide H2 _))))
      repeat (go_big_quiet_step ((go_at_call 26; exact gb_call (unhide H3 _))))
      refine wpQuiet_nil ?_
      rintro w4 ⟨⟨_, b4⟩, rfl⟩
      clear hne p1 q1 p2 q2 p3 q3
      have T1n := hide ((unhide T1).up b4)
      have T2n := hide ((unhide T2).up b4)
      have T3n := hide ((unhide T3).up b4)
      have BBn := hide ((unhide BB).trans (b4.mono (unhide BB).size))
      clear b4 BB T1 T2 T3
      have T1 := T1n
      have T2 := T2n
      have T3 := T3n
      have BB := BBn
      clear BBn T1n T2n T3n
      go_wp2_with fail
      obtain ⟨p1, q1⟩ := gb_two (unhide T1)
      obtain ⟨p2, q2⟩ := gb_two (unhide T2)
      obtain ⟨p3, q3⟩ := gb_two (unhide T3)
      have hne := gb_ne w4
      refine wp_region_gr (fun x => Below w4.heap.size w4 x) (by kernel_rfl) (by kernel_rfl) (gb_start w4) ?_
      repeat (go_big_quiet_step ((first | (go_at_call 28; exact gb_call (unhide H5 _)) | (go_at_call 30; exact gb_call (unhide H6 _)))))
      refine wpQuiet_nil ?_
      rintro w5 ⟨⟨_, b5⟩, rfl⟩
      clear hne p1 q1 p2 q2 p3 q3
      have T1n := hide ((unhide T1).up b5)
      have T2n := hide ((unhide T2).up b5)
      have T3n := hide ((unhide T3).up b5)
      have BBn := hide ((unhide BB).trans (b5.mono (unhide BB).size))
      clear b5 BB T1 T2 T3
      have T1 := T1n
      have T2 := T2n
      have T3 := T3n
      have BB := BBn
      clear BBn T1n T2n T3n
      have fT10 := (unhide T1).c0
      have fT11 := (unhide T1).c1
      have n1 := unhide N1
      have n2 := unhide N2
      have n3 := unhide N3
      have n4 := unhide N4
      have eB1 := unhide EB1
      have eB2 := unhide EB2
      go_wp2_with fail
      clear n1 n2 n3 n4 eB1 eB2
      clear fT10 fT11
      refine (rtawake_any _).mono ?_
      rintro r w6 ⟨rfl, b6⟩
      have T1n := hide ((unhide T1).up b6)
      have T2n := hide ((unhide T2).up b6)
      have T3n := hide ((unhide T3).up b6)
      have BBn := hide ((unhide BB).trans (b6.mono (unhide BB).size))
      clear b6 BB T1 T2 T3
      have T1 := T1n
      have T2 := T2n
      have T3 := T3n
      have BB := BBn
      clear BBn T1n T2n T3n
      have fT10 := (unhide T1).c0
      have fT11 := (unhide T1).c1
      have fT20 := (unhide T2).c0
      have fT21 := (unhide T2).c1
      go_wp2_with fail
      clear fT10 fT11 fT20 fT21
      refine (unhide H4 _).mono ?_
      rintro r w7 ⟨rfl, b7⟩
      have T1n := hide ((unhide T1).up b7)
      have T2n := hide ((unhide T2).up b7)
      have T3n := hide ((unhide T3).up b7)
      have BBn := hide ((unhide BB).trans (b7.mono (unhide BB).size))
      clear b7 BB T1 T2 T3
      have T1 := T1n
      have T2 := T2n
      have T3 := T3n
      have BB := BBn
      clear BBn T1n T2n T3n
      have fT10 := (unhide T1).c0
      have fT11 := (unhide T1).c1
      have fT20 := (unhide T2).c0
      have fT21 := (unhide T2).c1
      go_wp2
      go_ret
      exact ⟨rfl, unhide BB⟩
  · go_enter Try.func7, Try.ntmps7
    go_wp2_with fail
    refine (unhide Hc0 _).mono ?_
    rintro r w1 ⟨rfl, b1⟩
    have T1n := hide ((unhide T1).up b1)
    have T2n := hide ((unhide T2).up b1)
    have T3n := hide ((unhide T3).up b1)
    have BBn := hide ((unhide BB).trans (b1.mono (unhide BB).size))
    clear b1 BB T1 T2 T3
    have T1 := T1n
    have T2 := T2n
    have T3 := T3n
    have BB := BBn
    clear BBn T1n T2n T3n
    have fT20 := (unhide T2).c0
    have fT21 := (unhide T2).c1
    go_wp2_with fail
    clear fT20 fT21
    refine (unhide Hc1 _).mono ?_
    rintro r w2 ⟨rfl, b2⟩
    have T1n := hide ((unhide T1).up b2)
    have T2n := hide ((unhide T2).up b2)
    have T3n := hide ((unhide T3).up b2)
    have BBn := hide ((unhide BB).trans (b2.mono (unhide BB).size))
    clear b2 BB T1 T2 T3
    have T1 := T1n
    have T2 := T2n
    have T3 := T3n
    have BB := BBn
    clear BBn T1n T2n T3n
    have fT30 := (unhide T3).c0
    have fT31 := (unhide T3).c1
    go_wp2_with fail
    clear fT30 fT31
    refine (unhide Hc2 _).mono ?_
    rintro r w3 ⟨rfl, b3⟩
    have T1n := hide ((unhide T1).up b3)
    have T2n := hide ((unhide T2).up b3)
    have T3n := hide ((unhide T3).up b3)
    have BBn := hide ((unhide BB).trans (b3.mono (unhide BB).size))
    clear b3 BB T1 T2 T3
    have T1 := T1n
    have T2 := T2n
    have T3 := T3n
    have BB := BBn
    clear BBn T1n T2n T3n
    go_wp2_with fail
    obtain ⟨p1, q1⟩ := gb_two (unhide T1)
    obtain ⟨p2, q2⟩ := gb_two (unhide T2)
    obtain ⟨p3, q3⟩ := gb_two (unhide T3)
    have hne := gb_ne w3
    refine wp_region_gr (fun x => Below w3.heap.size w3 x) (by kernel_rfl) (by kernel_rfl) (gb_start w3) ?_
    iterate 3 (go_big_quiet_step ((go_at_call 26; exact gb_call (unhide H1 _))))
    iterate 3 (go_big_quiet_step ((go_at_call 26; exact gb_call (unhide H2 _))))
    repeat (go_big_quiet_step ((go_at_call 26; exact gb_call (unhide H3 _))))
    refine wpQuiet_nil ?_
    rintro w4 ⟨⟨_, b4⟩, rfl⟩
    clear hne p1 q1 p2 q2 p3 q3
    have T1n := hide ((unhide T1).up b4)
    have T2n := hide ((unhide T2).up b4)
    have T3n := hide ((unhide T3).up b4)
    have BBn := hide ((unhide BB).trans (b4.mono (unhide BB).size))
    clear b4 BB T1 T2 T3
    have T1 := T1n
    have T2 := T2n
    have T3 := T3n
    have BB := BBn
    clear BBn T1n T2n T3n
    go_wp2_with fail
    obtain ⟨p1, q1⟩ := gb_two (unhide T1)
    obtain ⟨p2, q2⟩ := gb_two (unhide T2)
    obtain ⟨p3, q3⟩ := gb_two (unhide T3)
    have hne := gb_ne w4
    refine wp_region_gr (fun x => Below w4.heap.size w4 x) (by kernel_rfl) (by kernel_rfl) (gb_start w4) ?_
    repeat (go_big_quiet_step ((first | (go_at_call 28; exact gb_call (unhide H5 _)) | (go_at_call 30; exact gb_call (unhide H6 _)))))
    refine wpQuiet_nil ?_
    rintro w5 ⟨⟨_, b5⟩, rfl⟩
    clear hne p1 q1 p2 q2 p3 q3
    have T1n := hide ((unhide T1).up b5)
    have T2n := hide ((unhide T2).up b5)
    have T3n := hide ((unhide T3).up b5)
    have BBn := hide ((unhide BB).trans (b5.mono (unhide BB).size))
    clear b5 BB T1 T2 T3
    have T1 := T1n
    have T2 := T2n
    have T3 := T3n
    have BB := BBn
    clear BBn T1n T2n T3n
    have fT10 := (unhide T1).c0
    have fT11 := (unhide T1).c1
    have n1 := unhide N1
    have n2 := unhide N2
    have n3 := unhide N3
    have n4 := unhide N4
    have eB1 := unhide EB1
    have eB2 := unhide EB2
    go_wp2_with fail
    clear n1 n2 n3 n4 eB1 eB2
    clear fT10 fT11
    refine (rtawake_any _).mono ?_
    rintro r w6 ⟨rfl, b6⟩
    have T1n := hide ((unhide T1).up b6)
    have T2n := hide ((unhide T2).up b6)
    have T3n := hide ((unhide T3).up b6)
    have BBn := hide ((unhide BB).trans (b6.mono (unhide BB).size))
    clear b6 BB T1 T2 T3
    have T1 := T1n
    have T2 := T2n
    have T3 := T3n
    have BB := BBn
    clear BBn T1n T2n T3n
    have fT10 := (unhide T1).c0
    have fT11 := (unhide T1).c1
    have fT20 := (unhide T2).c0
    have fT21 := (unhide T2).c1
    go_wp2_with fail
    clear fT10 fT11 fT20 fT21
    refine (unhide H4 _).mono ?_
    rintro r w7 ⟨rfl, b7⟩
    have T1n := hide ((unhide T1).up b7)
    have T2n := hide ((unhide T2).up b7)
    have T3n := hide ((unhide T3).up b7)
    have BBn := hide ((unhide BB).trans (b7.mono (unhide BB).size))
    clear b7 BB T1 T2 T3
    have T1 := T1n
    have T2 := T2n
    have T3 := T3n
    have BB := BBn
    clear BBn T1n T2n T3n
    have fT10 := (unhide T1).c0
    have fT11 := (unhide T1).c1
    have fT20 := (unhide T2).c0
    have fT21 := (unhide T2).c1
    go_wp2
    go_ret
    exact ⟨rfl, unhide BB⟩
  · by_cases hac : a = c
    · subst hac
      have hbd : (b == d) = false := beq_eq_false_iff_ne.2 (fun h => hn ⟨rfl, h⟩)
      clear hn
      go_enter Try.func7, Try.ntmps7
      go_wp2_with fail
      refine (unhide Hc0 _).mono ?_
      rintro r w1 ⟨rfl, b1⟩
      have T1n := hide ((unhide T1).up b1)
      have T2n := hide ((unhide T2).up b1)
      have T3n := hide ((unhide T3).up b1)
      have BBn := hide ((unhide BB).trans (b1.mono (unhide BB).size))
      clear b1 BB T1 T2 T3
      have T1 := T1n
      have T2 := T2n
      have T3 := T3n
      have BB := BBn
      clear BBn T1n T2n T3n
      have fT20 := (unhide T2).c0
      have fT21 := (unhide T2).c1
      go_wp2_with fail
      clear fT20 fT21
      refine (unhide Hc1 _).mono ?_
      rintro r w2 ⟨rfl, b2⟩
      have T1n := hide ((unhide T1).up b2)
      have T2n := hide ((unhide T2).up b2)
      have T3n := hide ((unhide T3).up b2)
      have BBn := hide ((unhide BB).trans (b2.mono (unhide BB).size))
      clear b2 BB T1 T2 T3
      have T1 := T1n
      have T2 := T2n
      have T3 := T3n
      have BB := BBn
      clear BBn T1n T2n T3n
      have fT30 := (unhide T3).c0
      have fT31 := (unhide T3).c1
      go_wp2_with fail
      clear fT30 fT31
      refine (unhide Hc2 _).mono ?_
      rintro r w3 ⟨rfl, b3⟩
      have T1n := hide ((unhide T1).up b3)
      have T2n := hide ((unhide T2).up b3)
      have T3n := hide ((unhide T3).up b3)
      have BBn := hide ((unhide BB).trans (b3.mono (unhide BB).size))
      clear b3 BB T1 T2 T3
      have T1 := T1n
      have T2 := T2n
      have T3 := T3n
      have BB := BBn
      clear BBn T1n T2n T3n
      go_wp2_with fail
      obtain ⟨p1, q1⟩ := gb_two (unhide T1)
      obtain ⟨p2, q2⟩ := gb_two (unhide T2)
      obtain ⟨p3, q3⟩ := gb_two (unhide T3)
      have hne := gb_ne w3
      refine wp_region_gr (fun x => Below w3.heap.size w3 x) (by kernel_rfl) (by kernel_rfl) (gb_start w3) ?_
      iterate 3 (go_big_quiet_step ((go_at_call 26; exact gb_call (unhide H1 _))))
      iterate 3 (go_big_quiet_step ((go_at_call 26; exact gb_call (unhide H2 _))))
      repeat (go_big_quiet_step ((go_at_call 26; exact gb_call (unhide H3 _))))
      refine wpQuiet_nil ?_
      rintro w4 ⟨⟨_, b4⟩, rfl⟩
      clear hne p1 q1 p2 q2 p3 q3
      have T1n := hide ((unhide T1).up b4)
      have T2n := hide ((unhide T2).up b4)
      have T3n := hide ((unhide T3).up b4)
      have BBn := hide ((unhide BB).trans (b4.mono (unhide BB).size))
      clear b4 BB T1 T2 T3
      have T1 := T1n
      have T2 := T2n
      have T3 := T3n
      have BB := BBn
      clear BBn T1n T2n T3n
      go_wp2_with fail
      obtain ⟨p1, q1⟩ := gb_two (unhide T1)
      obtain ⟨p2, q2⟩ := gb_two (unhide T2)
      obtain ⟨p3, q3⟩ := gb_two (unhide T3)
      have hne := gb_ne w4
      refine wp_region_gr (fun x => Below w4.heap.size w4 x) (by kernel_rfl) (by kernel_rfl) (gb_start w4) ?_
      repeat (go_big_quiet_step ((first | (go_at_call 28; exact gb_call (unhide H5 _)) | (go_at_call 30; exact gb_call (unhide H6 _)))))
      refine wpQuiet_nil ?_
      rintro w5 ⟨⟨_, b5⟩, rfl⟩
      clear hne p1 q1 p2 q2 p3 q3
      have T1n := hide ((unhide T1).up b5)
      have T2n := hide ((unhide T2).up b5)
      have T3n := hide ((unhide T3).up b5)
      have BBn := hide ((unhide BB).trans (b5.mono (unhide BB).size))
      clear b5 BB T1 T2 T3
      have T1 := T1n
      have T2 := T2n
      have T3 := T3n
      have BB := BBn
      clear BBn T1n T2n T3n
      have fT10 := (unhide T1).c0
      have fT11 := (unhide T1).c1
      have n1 := unhide N1
      have n2 := unhide N2
      have n3 := unhide N3
      have n4 := unhide N4
      have eB1 := unhide EB1
      have eB2 := unhide EB2
      go_wp2_with fail
      clear n1 n2 n3 n4 eB1 eB2
      clear fT10 fT11
      refine (rtawake_any _).mono ?_
      rintro r w6 ⟨rfl, b6⟩
      have T1n := hide ((unhide T1).up b6)
      have T2n := hide ((unhide T2).up b6)
      have T3n := hide ((unhide T3).up b6)
      have BBn := hide ((unhide BB).trans (b6.mono (unhide BB).size))
      clear b6 BB T1 T2 T3
      have T1 := T1n
      have T2 := T2n
      have T3 := T3n
      have BB := BBn
      clear BBn T1n T2n T3n
      have fT10 := (unhide T1).c0
      have fT11 := (unhide T1).c1
      have fT20 := (unhide T2).c0
      have fT21 := (unhide T2).c1
      go_wp2_with fail
      clear fT10 fT11 fT20 fT21
      refine (unhide H4 _).mono ?_
      rintro r w7 ⟨rfl, b7⟩
      have T1n := hide ((unhide T1).up b7)
      have T2n := hide ((unhide T2).up b7)
      have T3n := hide ((unhide T3).up b7)
      have BBn := hide ((unhide BB).trans (b7.mono (unhide BB).size))
      clear b7 BB T1 T2 T3
      have T1 := T1n
      have T2 := T2n
      have T3 := T3n
      have BB := BBn
      clear BBn T1n T2n T3n
      have fT10 := (unhide T1).c0
      have fT11 := (unhide T1).c1
      have fT20 := (unhide T2).c0
      have fT21 := (unhide T2).c1
      go_wp2
      go_ret
      exact ⟨rfl, unhide BB⟩
    · have hac' : (a == c) = false := beq_eq_false_iff_ne.2 hac
      clear hn hac
      go_enter Try.func7, Try.ntmps7
      go_wp2_with fail
      refine (unhide Hc0 _).mono ?_
      rintro r w1 ⟨rfl, b1⟩
      have T1n := hide ((unhide T1).up b1)
      have T2n := hide ((unhide T2).up b1)
      have T3n := hide ((unhide T3).up b1)
      have BBn := hide ((unhide BB).trans (b1.mono (unhide BB).size))
      clear b1 BB T1 T2 T3
      have T1 := T1n
      have T2 := T2n
      have T3 := T3n
      have BB := BBn
      clear BBn T1n T2n T3n
      have fT20 := (unhide T2).c0
      have fT21 := (unhide T2).c1
      go_wp2_with fail
      clear fT20 fT21
      refine (unhide Hc1 _).mono ?_
      rintro r w2 ⟨rfl, b2⟩
      have T1n := hide ((unhide T1).up b2)
      have T2n := hide ((unhide T2).up b2)
      have T3n := hide ((unhide T3).up b2)
      have BBn := hide ((unhide BB).trans (b2.mono (unhide BB).size))
      clear b2 BB T1 T2 T3
      have T1 := T1n
      have T2 := T2n
      have T3 := T3n
      have BB := BBn
      clear BBn T1n T2n T3n
      have fT30 := (unhide T3).c0
      have fT31 := (unhide T3).c1
      go_wp2_with fail
      clear fT30 fT31
      refine (unhide Hc2 _).mono ?_
      rintro r w3 ⟨rfl, b3⟩
      have T1n := hide ((unhide T1).up b3)
      have T2n := hide ((unhide T2).up b3)
      have T3n := hide ((unhide T3).up b3)
      have BBn := hide ((unhide BB).trans (b3.mono (unhide BB).size))
      clear b3 BB T1 T2 T3
      have T1 := T1n
      have T2 := T2n
      have T3 := T3n
      have BB := BBn
      clear BBn T1n T2n T3n
      go_wp2_with fail
      obtain ⟨p1, q1⟩ := gb_two (unhide T1)
      obtain ⟨p2, q2⟩ := gb_two (unhide T2)
      obtain ⟨p3, q3⟩ := gb_two (unhide T3)
      have hne := gb_ne w3
      refine wp_region_gr (fun x => Below w3.heap.size w3 x) (by kernel_rfl) (by kernel_rfl) (gb_start w3) ?_
      iterate 3 (go_big_quiet_step ((go_at_call 26; exact gb_call (unhide H1 _))))
      iterate 3 (go_big_quiet_step ((go_at_call 26; exact gb_call (unhide H2 _))))
      repeat (go_big_quiet_step ((go_at_call 26; exact gb_call (unhide H3 _))))
      refine wpQuiet_nil ?_
      rintro w4 ⟨⟨_, b4⟩, rfl⟩
      clear hne p1 q1 p2 q2 p3 q3
      have T1n := hide ((unhide T1).up b4)
      have T2n := hide ((unhide T2).up b4)
      have T3n := hide ((unhide T3).up b4)
      have BBn := hide ((unhide BB).trans (b4.mono (unhide BB).size))
      clear b4 BB T1 T2 T3
      have T1 := T1n
      have T2 := T2n
      have T3 := T3n
      have BB := BBn
      clear BBn T1n T2n T3n
      go_wp2_with fail
      obtain ⟨p1, q1⟩ := gb_two (unhide T1)
      obtain ⟨p2, q2⟩ := gb_two (unhide T2)
      obtain ⟨p3, q3⟩ := gb_two (unhide T3)
      have hne := gb_ne w4
      refine wp_region_gr (fun x => Below w4.heap.size w4 x) (by kernel_rfl) (by kernel_rfl) (gb_start w4) ?_
      repeat (go_big_quiet_step ((first | (go_at_call 28; exact gb_call (unhide H5 _)) | (go_at_call 30; exact gb_call (unhide H6 _)))))
      refine wpQuiet_nil ?_
      rintro w5 ⟨⟨_, b5⟩, rfl⟩
      clear hne p1 q1 p2 q2 p3 q3
      have T1n := hide ((unhide T1).up b5)
      have T2n := hide ((unhide T2).up b5)
      have T3n := hide ((unhide T3).up b5)
      have BBn := hide ((unhide BB).trans (b5.mono (unhide BB).size))
      clear b5 BB T1 T2 T3
      have T1 := T1n
      have T2 := T2n
      have T3 := T3n
      have BB := BBn
      clear BBn T1n T2n T3n
      have fT10 := (unhide T1).c0
      have fT11 := (unhide T1).c1
      have n1 := unhide N1
      have n2 := unhide N2
      have n3 := unhide N3
      have n4 := unhide N4
      have eB1 := unhide EB1
      have eB2 := unhide EB2
      go_wp2_with fail
      clear n1 n2 n3 n4 eB1 eB2
      clear fT10 fT11
      refine (rtawake_any _).mono ?_
      rintro r w6 ⟨rfl, b6⟩
      have T1n := hide ((unhide T1).up b6)
      have T2n := hide ((unhide T2).up b6)
      have T3n := hide ((unhide T3).up b6)
      have BBn := hide ((unhide BB).trans (b6.mono (unhide BB).size))
      clear b6 BB T1 T2 T3
      have T1 := T1n
      have T2 := T2n
      have T3 := T3n
      have BB := BBn
      clear BBn T1n T2n T3n
      have fT10 := (unhide T1).c0
      have fT11 := (unhide T1).c1
      have fT20 := (unhide T2).c0
      have fT21 := (unhide T2).c1
      go_wp2_with fail
      clear fT10 fT11 fT20 fT21
      refine (unhide H4 _).mono ?_
      rintro r w7 ⟨rfl, b7⟩
      have T1n := hide ((unhide T1).up b7)
      have T2n := hide ((unhide T2).up b7)
      have T3n := hide ((unhide T3).up b7)
      have BBn := hide ((unhide BB).trans (b7.mono (unhide BB).size))
      clear b7 BB T1 T2 T3
      have T1 := T1n
      have T2 := T2n
      have T3 := T3n
      have BB := BBn
      clear BBn T1n T2n T3n
      have fT10 := (unhide T1).c0
      have fT11 := (unhide T1).c1
      have fT20 := (unhide T2).c0
      have fT21 := (unhide T2).c1
      go_wp2
      go_ret
      exact ⟨rfl, unhide BB⟩
  · go_enter Try.func7, Try.ntmps7
    go_wp2_with fail
    refine (unhide Hc0 _).mono ?_
    rintro r w1 ⟨rfl, b1⟩
    have T1n := hide ((unhide T1).up b1)
    have T2n := hide ((unhide T2).up b1)
    have T3n := hide ((unhide T3).up b1)
    have BBn := hide ((unhide BB).trans (b1.mono (unhide BB).size))
    clear b1 BB T1 T2 T3
    have T1 := T1n
    have T2 := T2n
    have T3 := T3n
    have BB := BBn
    clear BBn T1n T2n T3n
    have fT20 := (unhide T2).c0
    have fT21 := (unhide T2).c1
    go_wp2_with fail
    clear fT20 fT21
    refine (unhide Hc1 _).mono ?_
    rintro r w2 ⟨rfl, b2⟩
    have T1n := hide ((unhide T1).up b2)
    have T2n := hide ((unhide T2).up b2)
    have T3n := hide ((unhide T3).up b2)
    have BBn := hide ((unhide BB).trans (b2.mono (unhide BB).size))
    clear b2 BB T1 T2 T3
    have T1 := T1n
    have T2 := T2n
    have T3 := T3n
    have BB := BBn
    clear BBn T1n T2n T3n
    have fT30 := (unhide T3).c0
    have fT31 := (unhide T3).c1
    go_wp2_with fail
    clear fT30 fT31
    refine (unhide Hc2 _).mono ?_
    rintro r w3 ⟨rfl, b3⟩
    have T1n := hide ((unhide T1).up b3)
    have T2n := hide ((unhide T2).up b3)
    have T3n := hide ((unhide T3).up b3)
    have BBn := hide ((unhide BB).trans (b3.mono (unhide BB).size))
    clear b3 BB T1 T2 T3
    have T1 := T1n
    have T2 := T2n
    have T3 := T3n
    have BB := BBn
    clear BBn T1n T2n T3n
    go_wp2_with fail
    obtain ⟨p1, q1⟩ := gb_two (unhide T1)
    obtain ⟨p2, q2⟩ := gb_two (unhide T2)
    obtain ⟨p3, q3⟩ := gb_two (unhide T3)
    have hne := gb_ne w3
    refine wp_region_gr (fun x => Below w3.heap.size w3 x) (by kernel_rfl) (by kernel_rfl) (gb_start w3) ?_
    iterate 3 (go_big_quiet_step ((go_at_call 26; exact gb_call (unhide H1 _))))
    iterate 3 (go_big_quiet_step ((go_at_call 26; exact gb_call (unhide H2 _))))
    repeat (go_big_quiet_step ((go_at_call 26; exact gb_call (unhide H3 _))))
    refine wpQuiet_nil ?_
    rintro w4 ⟨⟨_, b4⟩, rfl⟩
    clear hne p1 q1 p2 q2 p3 q3
    have T1n := hide ((unhide T1).up b4)
    have T2n := hide ((unhide T2).up b4)
    have T3n := hide ((unhide T3).up b4)
    have BBn := hide ((unhide BB).trans (b4.mono (unhide BB).size))
    clear b4 BB T1 T2 T3
    have T1 := T1n
    have T2 := T2n
    have T3 := T3n
    have BB := BBn
    clear BBn T1n T2n T3n
    go_wp2_with fail
    obtain ⟨p1, q1⟩ := gb_two (unhide T1)
    obtain ⟨p2, q2⟩ := gb_two (unhide T2)
    obtain ⟨p3, q3⟩ := gb_two (unhide T3)
    have hne := gb_ne w4
    refine wp_region_gr (fun x => Below w4.heap.size w4 x) (by kernel_rfl) (by kernel_rfl) (gb_start w4) ?_
    repeat (go_big_quiet_step ((first | (go_at_call 28; exact gb_call (unhide H5 _)) | (go_at_call 30; exact gb_call (unhide H6 _)))))
    refine wpQuiet_nil ?_
    rintro w5 ⟨⟨_, b5⟩, rfl⟩
    clear hne p1 q1 p2 q2 p3 q3
    have T1n := hide ((unhide T1).up b5)
    have T2n := hide ((unhide T2).up b5)
    have T3n := hide ((unhide T3).up b5)
    have BBn := hide ((unhide BB).trans (b5.mono (unhide BB).size))
    clear b5 BB T1 T2 T3
    have T1 := T1n
    have T2 := T2n
    have T3 := T3n
    have BB := BBn
    clear BBn T1n T2n T3n
    have fT10 := (unhide T1).c0
    have fT11 := (unhide T1).c1
    have n1 := unhide N1
    have n2 := unhide N2
    have n3 := unhide N3
    have n4 := unhide N4
    have eB1 := unhide EB1
    have eB2 := unhide EB2
    go_wp2_with fail
    clear n1 n2 n3 n4 eB1 eB2
    clear fT10 fT11
    refine (rtawake_any _).mono ?_
    rintro r w6 ⟨rfl, b6⟩
    have T1n := hide ((unhide T1).up b6)
    have T2n := hide ((unhide T2).up b6)
    have T3n := hide ((unhide T3).up b6)
    have BBn := hide ((unhide BB).trans (b6.mono (unhide BB).size))
    clear b6 BB T1 T2 T3
    have T1 := T1n
    have T2 := T2n
    have T3 := T3n
    have BB := BBn
    clear BBn T1n T2n T3n
    have fT10 := (unhide T1).c0
    have fT11 := (unhide T1).c1
    have fT20 := (unhide T2).c0
    have fT21 := (unhide T2).c1
    go_wp2_with fail
    clear fT10 fT11 fT20 fT21
    refine (unhide H4 _).mono ?_
    rintro r w7 ⟨rfl, b7⟩
    have T1n := hide ((unhide T1).up b7)
    have T2n := hide ((unhide T2).up b7)
    have T3n := hide ((unhide T3).up b7)
    have BBn := hide ((unhide BB).trans (b7.mono (unhide BB).size))
    clear b7 BB T1 T2 T3
    have T1 := T1n
    have T2 := T2n
    have T3 := T3n
    have BB := BBn
    clear BBn T1n T2n T3n
    have fT10 := (unhide T1).c0
    have fT11 := (unhide T1).c1
    have fT20 := (unhide T2).c0
    have fT21 := (unhide T2).c1
    go_wp2
    go_ret
    exact ⟨rfl, unhide BB⟩
  · by_cases hac : a = c
    · subst hac
      have hbd : (b == d) = false := beq_eq_false_iff_ne.2 (fun h => hn ⟨rfl, h⟩)
      clear hn
      go_enter Try.func7, Try.ntmps7
      go_wp2_with fail
      refine (unhide Hc0 _).mono ?_
      rintro r w1 ⟨rfl, b1⟩
      have T1n := hide ((unhide T1).up b1)
      have T2n := hide ((unhide T2).up b1)
      have T3n := hide ((unhide T3).up b1)
      have BBn := hide ((unhide BB).trans (b1.mono (unhide BB).size))
      clear b1 BB T1 T2 T3
      have T1 := T1n
      have T2 := T2n
      have T3 := T3n
      have BB := BBn
      clear BBn T1n T2n T3n
      have fT20 := (unhide T2).c0
      have fT21 := (unhide T2).c1
      go_wp2_with fail
      clear fT20 fT21
      refine (unhide Hc1 _).mono ?_
      rintro r w2 ⟨rfl, b2⟩
      have T1n := hide ((unhide T1).up b2)
      have T2n := hide ((unhide T2).up b2)
      have T3n := hide ((unhide T3).up b2)
      have BBn := hide ((unhide BB).trans (b2.mono (unhide BB).size))
      clear b2 BB T1 T2 T3
      have T1 := T1n
      have T2 := T2n
      have T3 := T3n
      have BB := BBn
      clear BBn T1n T2n T3n
      have fT30 := (unhide T3).c0
      have fT31 := (unhide T3).c1
      go_wp2_with fail
      clear fT30 fT31
      refine (unhide Hc2 _).mono ?_
      rintro r w3 ⟨rfl, b3⟩
      have T1n := hide ((unhide T1).up b3)
      have T2n := hide ((unhide T2).up b3)
      have T3n := hide ((unhide T3).up b3)
      have BBn := hide ((unhide BB).trans (b3.mono (unhide BB).size))
      clear b3 BB T1 T2 T3
      have T1 := T1n
      have T2 := T2n
      have T3 := T3n
      have BB := BBn
      clear BBn T1n T2n T3n
      go_wp2_with fail
      obtain ⟨p1, q1⟩ := gb_two (unhide T1)
      obtain ⟨p2, q2⟩ := gb_two (unhide T2)
      obtain ⟨p3, q3⟩ := gb_two (unhide T3)
      have hne := gb_ne w3
      refine wp_region_gr (fun x => Below w3.heap.size w3 x) (by kernel_rfl) (by kernel_rfl) (gb_start w3) ?_
      iterate 3 (go_big_quiet_step ((go_at_call 26; exact gb_call (unhide H1 _))))
      iterate 3 (go_big_quiet_step ((go_at_call 26; exact gb_call (unhide H2 _))))
      repeat (go_big_quiet_step ((go_at_call 26; exact gb_call (unhide H3 _))))
      refine wpQuiet_nil ?_
      rintro w4 ⟨⟨_, b4⟩, rfl⟩
      clear hne p1 q1 p2 q2 p3 q3
      have T1n := hide ((unhide T1).up b4)
      have T2n := hide ((unhide T2).up b4)
      have T3n := hide ((unhide T3).up b4)
      have BBn := hide ((unhide BB).trans (b4.mono (unhide BB).size))
      clear b4 BB T1 T2 T3
      have T1 := T1n
      have T2 := T2n
      have T3 := T3n
      have BB := BBn
      clear BBn T1n T2n T3n
      go_wp2_with fail
      obtain ⟨p1, q1⟩ := gb_two (unhide T1)
      obtain ⟨p2, q2⟩ := gb_two (unhide T2)
      obtain ⟨p3, q3⟩ := gb_two (unhide T3)
      have hne := gb_ne w4
      refine wp_region_gr (fun x => Below w4.heap.size w4 x) (by kernel_rfl) (by kernel_rfl) (gb_start w4) ?_
      repeat (go_big_quiet_step ((first | (go_at_call 28; exact gb_call (unhide H5 _)) | (go_at_call 30; exact gb_call (unhide H6 _)))))
      refine wpQuiet_nil ?_
      rintro w5 ⟨⟨_, b5⟩, rfl⟩
      clear hne p1 q1 p2 q2 p3 q3
      have T1n := hide ((unhide T1).up b5)
      have T2n := hide ((unhide T2).up b5)
      have T3n := hide ((unhide T3).up b5)
      have BBn := hide ((unhide BB).trans (b5.mono (unhide BB).size))
      clear b5 BB T1 T2 T3
      have T1 := T1n
      have T2 := T2n
      have T3 := T3n
      have BB := BBn
      clear BBn T1n T2n T3n
      have fT10 := (unhide T1).c0
      have fT11 := (unhide T1).c1
      have n1 := unhide N1
      have n2 := unhide N2
      have n3 := unhide N3
      have n4 := unhide N4
      have eB1 := unhide EB1
      have eB2 := unhide EB2
      go_wp2_with fail
      clear n1 n2 n3 n4 eB1 eB2
      clear fT10 fT11
      refine (rtawake_any _).mono ?_
      rintro r w6 ⟨rfl, b6⟩
      have T1n := hide ((unhide T1).up b6)
      have T2n := hide ((unhide T2).up b6)
      have T3n := hide ((unhide T3).up b6)
      have BBn := hide ((unhide BB).trans (b6.mono (unhide BB).size))
      clear b6 BB T1 T2 T3
      have T1 := T1n
      have T2 := T2n
      have T3 := T3n
      have BB := BBn
      clear BBn T1n T2n T3n
      have fT10 := (unhide T1).c0
      have fT11 := (unhide T1).c1
      have fT20 := (unhide T2).c0
      have fT21 := (unhide T2).c1
      go_wp2_with fail
      clear fT10 fT11 fT20 fT21
      refine (unhide H4 _).mono ?_
      rintro r w7 ⟨rfl, b7⟩
      have T1n := hide ((unhide T1).up b7)
      have T2n := hide ((unhide T2).up b7)
      have T3n := hide ((unhide T3).up b7)
      have BBn := hide ((unhide BB).trans (b7.mono (unhide BB).size))
      clear b7 BB T1 T2 T3
      have T1 := T1n
      have T2 := T2n
      have T3 := T3n
      have BB := BBn
      clear BBn T1n T2n T3n
      have fT10 := (unhide T1).c0
      have fT11 := (unhide T1).c1
      have fT20 := (unhide T2).c0
      have fT21 := (unhide T2).c1
      go_wp2
      go_ret
      exact ⟨rfl, unhide BB⟩
    · have hac' : (a == c) = false := beq_eq_false_iff_ne.2 hac
      clear hn hac
      go_enter Try.func7, Try.ntmps7
      go_wp2_with fail
      refine (unhide Hc0 _).mono ?_
      rintro r w1 ⟨rfl, b1⟩
      have T1n := hide ((unhide T1).up b1)
      have T2n := hide ((unhide T2).up b1)
      have T3n := hide ((unhide T3).up b1)
      have BBn := hide ((unhide BB).trans (b1.mono (unhide BB).size))
      clear b1 BB T1 T2 T3
      have T1 := T1n
      have T2 := T2n
      have T3 := T3n
      have BB := BBn
      clear BBn T1n T2n T3n
      have fT20 := (unhide T2).c0
      have fT21 := (unhide T2).c1
      go_wp2_with fail
      clear fT20 fT21
      refine (unhide Hc1 _).mono ?_
      rintro r w2 ⟨rfl, b2⟩
      have T1n := hide ((unhide T1).up b2)
      have T2n := hide ((unhide T2).up b2)
      have T3n := hide ((unhide T3).up b2)
      have BBn := hide ((unhide BB).trans (b2.mono (unhide BB).size))
      clear b2 BB T1 T2 T3
      have T1 := T1n
      have T2 := T2n
      have T3 := T3n
      have BB := BBn
      clear BBn T1n T2n T3n
      have fT30 := (unhide T3).c0
      have fT31 := (unhide T3).c1
      go_wp2_with fail
      clear fT30 fT31
      refine (unhide Hc2 _).mono ?_
      rintro r w3 ⟨rfl, b3⟩
      have T1n := hide ((unhide T1).up b3)
      have T2n := hide ((unhide T2).up b3)
      have T3n := hide ((unhide T3).up b3)
      have BBn := hide ((unhide BB).trans (b3.mono (unhide BB).size))
      clear b3 BB T1 T2 T3
      have T1 := T1n
      have T2 := T2n
      have T3 := T3n
      have BB := BBn
      clear BBn T1n T2n T3n
      go_wp2_with fail
      obtain ⟨p1, q1⟩ := gb_two (unhide T1)
      obtain ⟨p2, q2⟩ := gb_two (unhide T2)
      obtain ⟨p3, q3⟩ := gb_two (unhide T3)
      have hne := gb_ne w3
      refine wp_region_gr (fun x => Below w3.heap.size w3 x) (by kernel_rfl) (by kernel_rfl) (gb_start w3) ?_
      iterate 3 (go_big_quiet_step ((go_at_call 26; exact gb_call (unhide H1 _))))
      iterate 3 (go_big_quiet_step ((go_at_call 26; exact gb_call (unhide H2 _))))
      repeat (go_big_quiet_step ((go_at_call 26; exact gb_call (unhide H3 _))))
      refine wpQuiet_nil ?_
      rintro w4 ⟨⟨_, b4⟩, rfl⟩
      clear hne p1 q1 p2 q2 p3 q3
      have T1n := hide ((unhide T1).up b4)
      have T2n := hide ((unhide T2).up b4)
      have T3n := hide ((unhide T3).up b4)
      have BBn := hide ((unhide BB).trans (b4.mono (unhide BB).size))
      clear b4 BB T1 T2 T3
      have T1 := T1n
      have T2 := T2n
      have T3 := T3n
      have BB := BBn
      clear BBn T1n T2n T3n
      go_wp2_with fail
      obtain ⟨p1, q1⟩ := gb_two (unhide T1)
      obtain ⟨p2, q2⟩ := gb_two (unhide T2)
      obtain ⟨p3, q3⟩ := gb_two (unhide T3)
      have hne := gb_ne w4
      refine wp_region_gr (fun x => Below w4.heap.size w4 x) (by kernel_rfl) (by kernel_rfl) (gb_start w4) ?_
      repeat (go_big_quiet_step ((first | (go_at_call 28; exact gb_call (unhide H5 _)) | (go_at_call 30; exact gb_call (unhide H6 _)))))
      refine wpQuiet_nil ?_
      rintro w5 ⟨⟨_, b5⟩, rfl⟩
      clear hne p1 q1 p2 q2 p3 q3
      have T1n := hide ((unhide T1).up b5)
      have T2n := hide ((unhide T2).up b5)
      have T3n := hide ((unhide T3).up b5)
      have BBn := hide ((unhide BB).trans (b5.mono (unhide BB).size))
      clear b5 BB T1 T2 T3
      have T1 := T1n
      have T2 := T2n
      have T3 := T3n
      have BB := BBn
      clear BBn T1n T2n T3n
      have fT10 := (unhide T1).c0
      have fT11 := (unhide T1).c1
      have n1 := unhide N1
      have n2 := unhide N2
      have n3 := unhide N3
      have n4 := unhide N4
      have eB1 := unhide EB1
      have eB2 := unhide EB2
      go_wp2_with fail
      clear n1 n2 n3 n4 eB1 eB2
      clear fT10 fT11
      refine (rtawake_any _).mono ?_
      rintro r w6 ⟨rfl, b6⟩
      have T1n := hide ((unhide T1).up b6)
      have T2n := hide ((unhide T2).up b6)
      have T3n := hide ((unhide T3).up b6)
      have BBn := hide ((unhide BB).trans (b6.mono (unhide BB).size))
      clear b6 BB T1 T2 T3
      have T1 := T1n
      have T2 := T2n
      have T3 := T3n
      have BB := BBn
      clear BBn T1n T2n T3n
      have fT10 := (unhide T1).c0
      have fT11 := (unhide T1).c1
      have fT20 := (unhide T2).c0
      have fT21 := (unhide T2).c1
      go_wp2_with fail
      clear fT10 fT11 fT20 fT21
      refine (unhide H4 _).mono ?_
      rintro r w7 ⟨rfl, b7⟩
      have T1n := hide ((unhide T1).up b7)
      have T2n := hide ((unhide T2).up b7)
      have T3n := hide ((unhide T3).up b7)
      have BBn := hide ((unhide BB).trans (b7.mono (unhide BB).size))
      clear b7 BB T1 T2 T3
      have T1 := T1n
      have T2 := T2n
      have T3 := T3n
      have BB := BBn
      clear BBn T1n T2n T3n
      have fT10 := (unhide T1).c0
      have fT11 := (unhide T1).c1
      have fT20 := (unhide T2).c0
      have fT21 := (unhide T2).c1
      go_wp2
      go_ret
      exact ⟨rfl, unhide BB⟩

end Go.Proofs.Ytmaeebgphblilaa

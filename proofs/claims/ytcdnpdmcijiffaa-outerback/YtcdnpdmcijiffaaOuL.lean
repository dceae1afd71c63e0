/- Contract of outer's Holds. -/
import Derived.Test.YtcdnpdmcijiffaaOuI
namespace Go.Proofs.Ytcdnpdmcijiffaa
open Go.RowKit
set_option linter.unusedVariables false
attribute [local go_sem] Oper.semAt_some

/-- the rules of a plan, none beyond -/
def ruA (sd n a q j : Nat) : List Nat := if j < a then ruL sd n a q j else []
theorem ruA_lt (sd n a q j i : Nat) (h : i ∈ ruA sd n a q j) : i < n + a := by
  unfold ruA at h
  split at h
  · unfold ruL at h
    rcases List.mem_append.1 h with h | h
    · have := memL_lt sd a q j n i h
      omega
    · simp at h
      omega
  · cases h
theorem ruA_len (sd n a q j : Nat) : (ruA sd n a q j).length ≤ n + 1 := by
  unfold ruA
  split
  · have := memL_len sd a q j n
    simp [ruL]; omega
  · simp
/-- does a whole keep all rules? -/
def holdsB (sd n a q : Int) (ss : List By) : Bool := plOk sd n a q && (alike ss (n + a) && holdB ss (ruA sd.toNat n.toNat a.toNat q.toNat) ((ss.getD 0 []).length : Int) a.toNat)
set_option maxRecDepth 100000 in
set_option maxHeartbeats 4000000 in
theorem Holds_any (sd n a q : Int) (ss : List By) (a0 : Option Addr) (c : Nat) (w : World) (hT : Txts w a0 ss) (h2 : ss.length ≤ 100000) (h3 : ∀ s ∈ ss, s.length ≤ 100000) :
    Calls Try.prog 13 #[plV sd n a q, .slice a0 ss.length c] w fun e w' => e = .returned (.bool (holdsB sd n a q ss)) ∧ Below w.heap.size w w' := by
  have hck := hide (fun w => check_any sd n a q w)
  have hb0 : Below w.heap.size w (w.alloc (.cells #[.int .i64 sd, .int .i64 n, .int .i64 a, .int .i64 q] 23)) := (Below.refl _ w).alloc (Nat.le_refl _) _
  have hpc := hide (plan_cells w sd n a q)
  have B0 := hide hb0
  have HT := hide (hT.below hb0)
  unfold holdsB
  unfold plV at *
  cases hP : plOk sd n a q with
  | false =>
    rw [hP] at hck
    rw [Bool.false_and]
    obtain ⟨c0, c1, c2, c3⟩ := unhide hpc _ (Below.refl _ _)
    generalize ss.length = m at *
    clear hb0 hT hP
    go_enter Try.func13, Try.ntmps13
    go_wp2_with fail
    generalize hW0 : w.alloc (.cells #[.int .i64 sd, .int .i64 n, .int .i64 a, .int .i64 q] 23) = W0 at *
    have hne := gb_ne W0
    have g0 : ∀ x : Gb W0, x.w.cell? ⟨w.heap.size, 0, none⟩ = some (.int .i64 sd) := fun x => gb_cell c0 x
    have g1 : ∀ x : Gb W0, x.w.cell? ⟨w.heap.size, 1, none⟩ = some (.int .i64 n) := fun x => gb_cell c1 x
    have g2 : ∀ x : Gb W0, x.w.cell? ⟨w.heap.size, 2, none⟩ = some (.int .i64 a) := fun x => gb_cell c2 x
    have g3 : ∀ x : Gb W0, x.w.cell? ⟨w.heap.size, 3, none⟩ = some (.int .i64 q) := fun x => gb_cell c3 x
    refine wp_region_gr (fun x => Below W0.heap.size W0 x) (by kernel_rfl) (by kernel_rfl) (gb_start W0) ?_
    repeat (go_big_quiet_step ((go_at_call 8; exact gb_call (unhide hck _))))
    refine wpQuiet_nil ?_
    rintro w7 ⟨⟨_, b7⟩, rfl⟩
    have B7 := hide ((unhide B0).trans (b7.mono (unhide B0).size))
    clear b7 hne g0 g1 g2 g3
    go_wp2
    go_ret
    exact ⟨rfl, unhide B7⟩
  | true =>
    rw [hP] at hck
    rw [Bool.true_and]
    obtain ⟨sd', n', a', q', rfl, rfl, rfl, rfl, k1, ⟨k2, k3⟩, ⟨k4, k5⟩, k6, k7⟩ := plOk_facts hP
    have hal := hide (fun w hT => alike_any ss a0 c ((n' : Int) + (a' : Int)) (by omega) w hT h2 h3)
    obtain ⟨c0, c1, c2, c3⟩ := unhide hpc _ (Below.refl _ _)
    cases hA : alike ss ((n' : Int) + (a' : Int)) with
    | false =>
      rw [hA] at hal
      rw [Bool.false_and]
      obtain ⟨m, hm⟩ : ∃ m, m = ss.length := ⟨_, rfl⟩
      rw [← hm] at hal ⊢
      clear hb0 hT hP hA hm
      go_enter Try.func13, Try.ntmps13
      go_wp2_with fail
      generalize hW0 : w.alloc (.cells #[.int .i64 (sd' : Int), .int .i64 (n' : Int), .int .i64 (a' : Int), .int .i64 (q' : Int)] 23) = W0 at *
      have hne := gb_ne W0
      have g0 : ∀ x : Gb W0, x.w.cell? ⟨w.heap.size, 0, none⟩ = some (.int .i64 (sd' : Int)) := fun x => gb_cell c0 x
      have g1 : ∀ x : Gb W0, x.w.cell? ⟨w.heap.size, 1, none⟩ = some (.int .i64 (n' : Int)) := fun x => gb_cell c1 x
      have g2 : ∀ x : Gb W0, x.w.cell? ⟨w.heap.size, 2, none⟩ = some (.int .i64 (a' : Int)) := fun x => gb_cell c2 x
      have g3 : ∀ x : Gb W0, x.w.cell? ⟨w.heap.size, 3, none⟩ = some (.int .i64 (q' : Int)) := fun x => gb_cell c3 x
      have hal2 : Hid (∀ x : Gb W0, _) := fun x => unhide hal x.w ((unhide HT).below x.ok)
      refine wp_region_gr (fun x => Below W0.heap.size W0 x) (by kernel_rfl) (by kernel_rfl) (gb_start W0) ?_
      repeat (go_big_quiet_step ((first | (go_at_call 8; exact gb_call (unhide hck _)) | (go_at_call 21; exact gb_same (unhide hal2 _)))))
      refine wpQuiet_nil ?_
      rintro w7 ⟨⟨_, b7⟩, rfl⟩
      have B7 := hide ((unhide B0).trans (b7.mono (unhide B0).size))
      clear b7 hne g0 g1 g2 g3
      go_wp2
      go_ret
      exact ⟨rfl, unhide B7⟩
    | true =>
      rw [hA] at hal
      rw [Bool.true_and]
      simp only [Int.toNat_natCast]
      have hss : ss.length = n' + a' := by
        unfold alike at hA
        simp only [Bool.and_eq_true, decide_eq_true_eq] at hA
        omega
      have hru := hide (fun w => rules_any sd' n' a' q' k1 k3 k4 k5 k6 k7 w)
      have hho := hide (fun base g V w hT hR => hold_any ss a0 c base g a' V (ruA sd' n' a' q') ((ss.getD 0 []).length : Int) w hT hR (by omega) h2 h3 (fun j => by have := ruA_len sd' n' a' q' j; omega) (fun j i hi => by rw [hss]; exact ruA_lt sd' n' a' q' j i hi))
      have hpos : 0 < ss.length := by omega
      obtain ⟨g0', o0, ha0, hcz⟩ := (unhide HT) 0 hpos
      subst ha0
      rw [Nat.add_zero, show ss[0] = ss.getD 0 [] by simp [List.getD, hpos]] at hcz
      have hsz : (bs (ss.getD 0 [])).size = (ss.getD 0 []).length := bs_size _
      have HEQ : Hid (∀ j, j < a' → ruL sd' n' a' q' j = ruA sd' n' a' q' j) := fun j hj => by unfold ruA; rw [if_pos hj]
      unfold plV at hru
      rw [hss] at hal hho ⊢
      generalize bs (ss.getD 0 []) = S0 at *
      generalize (ss.getD 0 []).length = L0 at *
      generalize holdB ss (ruA sd' n' a' q') (L0 : Int) a' = hb at *
      have hn1 : (0 : Int) < (n' : Int) + (a' : Int) := by omega
      clear hb0 hT hP hA hpos
      go_enter Try.func13, Try.ntmps13
      go_wp2_with fail
      generalize hW0 : w.alloc (.cells #[.int .i64 (sd' : Int), .int .i64 (n' : Int), .int .i64 (a' : Int), .int .i64 (q' : Int)] 23) = W0 at *
      have HW0 := hide hW0
      clear hW0
      have hne := gb_ne W0
      have e0 : Hid (∀ x : Gb W0, x.w.cell? ⟨w.heap.size, 0, none⟩ = some (.int .i64 (sd' : Int))) := fun x => gb_cell c0 x
      have e1 : Hid (∀ x : Gb W0, x.w.cell? ⟨w.heap.size, 1, none⟩ = some (.int .i64 (n' : Int))) := fun x => gb_cell c1 x
      have e2 : Hid (∀ x : Gb W0, x.w.cell? ⟨w.heap.size, 2, none⟩ = some (.int .i64 (a' : Int))) := fun x => gb_cell c2 x
      have e3 : Hid (∀ x : Gb W0, x.w.cell? ⟨w.heap.size, 3, none⟩ = some (.int .i64 (q' : Int))) := fun x => gb_cell c3 x
      have e4 : Hid (∀ x : Gb W0, x.w.cell? ⟨g0', o0, none⟩ = some (.string S0)) := fun x => gb_cell hcz x
      clear c0 c1 c2 c3 hcz
      refine wp_region_same [(7, true), (16, true)] 19 13 18 18 23 ?A0 (fun v w' => ∃ g V, v = .slice (some ⟨g, 0, none⟩) a' a' ∧ Rows2 w' W0.heap.size g a' V (ruL sd' n' a' q')) (fun v w' => v = .int .i64 (L0 : Int)) (by kernel_rfl) (by kernel_rfl) (fun v _ _ h hb => by obtain ⟨g, V, h1, h2⟩ := h; exact ⟨g, V, h1, h2.below hb⟩) (fun v _ _ h hb => h) ?lex ?gA ?sa ?sb ?_
      case lex =>
        intro X
        have hneX := gb_ne X.w
        have g0 : ∀ y : Gb X.w, y.w.cell? ⟨w.heap.size, 0, none⟩ = some (.int .i64 (sd' : Int)) := fun y => gb_cell (unhide e0 X) y
        have g1 : ∀ y : Gb X.w, y.w.cell? ⟨w.heap.size, 1, none⟩ = some (.int .i64 (n' : Int)) := fun y => gb_cell (unhide e1 X) y
        have g2 : ∀ y : Gb X.w, y.w.cell? ⟨w.heap.size, 2, none⟩ = some (.int .i64 (a' : Int)) := fun y => gb_cell (unhide e2 X) y
        have g3 : ∀ y : Gb X.w, y.w.cell? ⟨w.heap.size, 3, none⟩ = some (.int .i64 (q' : Int)) := fun y => gb_cell (unhide e3 X) y
        have g4 : ∀ y : Gb X.w, y.w.cell? ⟨g0', o0, none⟩ = some (.string S0) := fun y => gb_cell (unhide e4 X) y
        have hal2 : Hid (∀ y : Gb X.w, _) := fun y => unhide hal y.w (((unhide HT).below X.ok).below y.ok)
        dsimp only [boxRest, List.take_succ_cons, List.take_zero, List.eraseIdx_cons_succ, List.eraseIdx_cons_zero]
        repeat (go_big_quiet_step ((first | (go_at_call 8; exact gb_call (unhide hck _)) | (go_at_call 21; exact gb_same (unhide hal2 _)))))
        refine wpQuiet_nil ?_
        exact rfl
      case gA =>
        intro g hg
        simp only [List.mem_cons, List.not_mem_nil, or_false] at hg
        rcases hg with rfl | rfl <;> rfl
      case sa =>
        intro o ho x b' hy
        obtain rfl := Option.some.inj ho
        have y0 : b'.eval (.tmp 17) = .agg #[.int .i64 (sd' : Int), .int .i64 (n' : Int), .int .i64 (a' : Int), .int .i64 (q' : Int)] := hy (.tmp 17) (by simp [Op.operands, Call.operands])
        refine wp_call 16 #[.tmp 17] _ rfl Try.call16 #[.agg #[.int .i64 (sd' : Int), .int .i64 (n' : Int), .int .i64 (a' : Int), .int .i64 (q' : Int)]] (by simp [y0]) (unhide hru x.w) ?_
        rintro e w7 ⟨g, rfl, ⟨V, hR⟩, b7⟩
        exact ⟨_, rfl, _, rfl, ⟨g, V, rfl, hR.mono x.ok.size⟩, b7⟩
      case sb =>
        intro o ho x b' hy
        obtain rfl := Option.some.inj ho
        have y0 : b'.eval (.tmp 22) = .string S0 := hy (.tmp 22) (by simp [Op.operands, Call.operands])
        have y0' : b'.tmps[22]?.getD undef = .string S0 := by simpa [Act.eval] using y0
        go_simp
        exact ⟨_, rfl, rfl, Below.refl _ _⟩
      rintro va vb w8 b8 ⟨g, V, rfl, hR8⟩ rfl
      have HH8 := hide (unhide hho W0.heap.size g V w8 ((unhide HT).below b8) (hR8.congr (unhide HEQ)))
      have B8 := hide ((unhide B0).trans (b8.mono (unhide B0).size))
      clear hR8 b8
      try simp only [List.drop_succ_cons, List.drop_zero]
      go_wp2_with fail
      refine (unhide HH8).mono ?_
      rintro e w9 ⟨rfl, b9⟩
      have B9 := hide ((unhide B8).trans (b9.mono (unhide B8).size))
      clear b9
      go_wp2_with fail
      refine onlyN ?_
      go_wp2
      go_ret
      exact ⟨rfl, unhide B9⟩
end Go.Proofs.Ytcdnpdmcijiffaa

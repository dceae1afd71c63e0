/- What the law MerkleFolds does, whatever the world: it answers true and changes nothing that was there. -/
import Derived.Test.YtiaohpkcncbdnaaMkDf
import Derived.Test.YtiaohpkcncbdnaaMkTl
import Derived.Test.YtiaohpkcncbdnaaSame
namespace Go.Proofs.Ytiaohpkcncbdnaa
open Go.RowKit
set_option linter.unusedVariables false

/-- a row of texts, as a value -/
def RowOf (T : List By) (v : Value) (w : World) : Prop := ∃ a0 c, v = .slice a0 T.length c ∧ Txts w a0 T
theorem RowOf.below (T : List By) (v : Value) (w w' : World) (h : RowOf T v w) (hb : Below w.heap.size w w') : RowOf T v w' := by
  obtain ⟨a0, c, h1, h2⟩ := h
  exact ⟨a0, c, h1, h2.below hb⟩
theorem row_call {P : Program} {f : FuncId} {args : Array Value} {w : World} {base : Nat} {T : List By} (h : Calls P f args w fun e w' => ∃ v, e = .returned v ∧ OwnS w' base v T ∧ Below w.heap.size w w') : Calls P f args w fun e w' => ∃ v, e = .returned v ∧ RowOf T v w' ∧ Below w.heap.size w w' :=
  h.mono fun e w' ⟨v, h1, h2, h3⟩ => ⟨v, h1, (by obtain ⟨a0, c, e1, e2⟩ := h2.txts; exact ⟨a0, c, e1, e2⟩), h3⟩

theorem climbR_len (n i : Int) (d : By) (path : List By) : (climbR n i d path).length ≤ 8 := by
  unfold climbR
  split
  · rename_i h
    obtain ⟨h1, _, h3, _⟩ := foldE_ok h
    obtain ⟨t1, t2, t3, t4⟩ := there_of h1
    rw [climbP_len shaSum _ _ _ h3.symm, h3]
    exact plan_length _ _ 8 (by omega) (by omega)
  · simp
theorem roadR_len (n i : Int) (s : By) (path : List By) : (roadR n i s path).length ≤ 9 := by
  unfold roadR
  split
  · rename_i h
    obtain ⟨h1, _, h3, _⟩ := foldE_ok h
    obtain ⟨t1, t2, t3, t4⟩ := there_of h1
    rw [List.length_cons, climbP_len shaSum _ _ _ h3.symm, h3]
    have := plan_length n.toNat i.toNat 8 (by omega) (by omega)
    omega
  · simp

theorem four_cells (w : World) (x0 x1 x2 x3 : Value) (t : TypeId) : (w.alloc (.cells #[x0, x1, x2, x3] t)).cell? ⟨w.heap.size, 0, none⟩ = some x0 ∧ (w.alloc (.cells #[x0, x1, x2, x3] t)).cell? ⟨w.heap.size, 1, none⟩ = some x1 ∧ (w.alloc (.cells #[x0, x1, x2, x3] t)).cell? ⟨w.heap.size, 2, none⟩ = some x2 ∧ (w.alloc (.cells #[x0, x1, x2, x3] t)).cell? ⟨w.heap.size, 3, none⟩ = some x3 := by
  have h := heap_alloc_new w (.cells #[x0, x1, x2, x3] t)
  simp only [World.cell?]
  rw [h]
  exact ⟨rfl, rfl, rfl, rfl⟩

set_option maxRecDepth 100000 in
set_option maxHeartbeats 4000000 in
theorem merkleFolds_any (n i : Int) (d : By) (a0 : Option Addr) (path : List By) (c : Nat) (r s : By) (w : World) (hT : Txts w a0 path) (hm : TxtsOk path c) (hd : d.length ≤ maxLen) (hr : r.length ≤ maxLen) (hs : s.length ≤ maxLen) :
    Calls Try.prog 6 #[.agg #[.int .i64 n, .int .i64 i, .string (bs d), .slice a0 path.length c], .string (bs r), .string (bs s)] w fun e w' => e = .returned (.bool true) ∧ Below w.heap.size w w' := by
  obtain ⟨m1, m2, m3⟩ := hm
  have haw := hide mawake_any
  have hfew := hide (fun w' (hb : Below w.heap.size w w') => few_any path a0 c 12 100 w' (hT.below hb) (by omega) (by omega) (by omega) m3)
  have z1 := bs_size d
  have z2 := bs_size r
  have z3 := bs_size s
  unfold maxLen at hd hr hs
  by_cases hF : fewB path 12 100 = true ∧ d.length ≤ 100 ∧ r.length ≤ 100 ∧ s.length ≤ 1100
  case neg =>
    have q1 : fewB path 12 100 = false ∨ (fewB path 12 100 = true ∧ 100 < (bs d).size) ∨ (fewB path 12 100 = true ∧ (bs d).size ≤ 100 ∧ 100 < (bs r).size) ∨ (fewB path 12 100 = true ∧ (bs d).size ≤ 100 ∧ (bs r).size ≤ 100 ∧ 1100 < (bs s).size) := by
      rw [z1, z2, z3]
      cases h : fewB path 12 100 with
      | false => exact .inl rfl
      | true => rw [h] at hF; right; simp only [true_and] at hF ⊢; omega
    have y1 : (bs d).size ≤ 9223372036854775807 := by omega
    have y2 : (bs r).size ≤ 9223372036854775807 := by omega
    have y3 : (bs s).size ≤ 9223372036854775807 := by omega
    have hb0 : ∀ o, Below w.heap.size w (w.alloc o) := fun o => (Below.refl _ _).alloc (Nat.le_refl _) _
    have Hb0 := hide hb0
    clear hT m3 hF z1 z2 z3 hd hr hs hb0
    generalize fewB path 12 100 = FB at *
    generalize path.length = m at *
    generalize bs d = B at *
    generalize bs r = R at *
    generalize bs s = S at *
    rcases q1 with rfl | ⟨rfl, q1⟩ | ⟨rfl, q1, q2⟩ | ⟨rfl, q1, q2, q3⟩
    all_goals
      go_enter Try.func6, Try.ntmps6
      go_wp2_with fail
      refine (unhide hfew _ (unhide Hb0 _)).mono ?_
      rintro e w1 ⟨rfl, rfl⟩
      go_wp2_with fail
      refine (unhide haw _).mono ?_
      rintro e w1 ⟨rfl, b1⟩
      go_wp2
      go_ret
      exact ⟨rfl, (unhide Hb0 _).trans (b1.mono (unhide Hb0 _).size)⟩
  obtain ⟨hF1, hF2, hF3, hF4⟩ := hF
  obtain ⟨f1, f2⟩ := of_decide_eq_true hF1
  rw [hF1] at hfew
  have f3 : ∀ p ∈ path, p.length ≤ 100000 := fun p hp => Nat.le_trans (f2 p hp) (by omega)
  have h1 := hide (fun w' (hb : Below w.heap.size w w') => fold_any n i d path a0 c w' (hT.below hb) m1 m2 (by omega) f3 (by omega))
  have h2 := hide (fun w' (hb : Below w.heap.size w w') => rfold_any n i d path a0 c w' (hT.below hb) m1 m2 (by omega) f3 (by omega))
  have h3 := hide (fun w' (hb : Below w.heap.size w w') => row_call (climb_any n i d path a0 c w' (hT.below hb) m1 m2 (by omega) f3 (by omega)))
  have h4 := hide (fun w' (hb : Below w.heap.size w w') => row_call (rclimbL_any n i d path a0 c w' (hT.below hb) m1 m2 (by omega) f3 (by omega)))
  have h5 := hide (fun w' (hb : Below w.heap.size w w') => check_any r n i d path a0 c w' (hT.below hb) m1 m2 (by omega) f3 (by omega))
  have h6 := hide (fun w' (hb : Below w.heap.size w w') => rcheck_any r n i d path a0 c w' (hT.below hb) m1 m2 (by omega) f3 (by omega))
  have h7 := hide (fun w' (hb : Below w.heap.size w w') => row_call (road_any n i s path a0 c w' (hT.below hb) m1 m2 (by omega) f3 (by omega)))
  have h8 := hide (fun w' (hb : Below w.heap.size w w') => row_call (rroad_any n i s path a0 c w' (hT.below hb) m1 m2 (by omega) f3 (by omega)))
  have l1 := climbR_len n i d path
  have l2 := roadR_len n i s path
  have q1 : (bs d).size ≤ 100 := by omega
  have q2 : (bs r).size ≤ 100 := by omega
  have q3 : (bs s).size ≤ 1100 := by omega
  have qe : foldE n i d path ≤ 3 := by have := foldE_cases n i d path; omega
  clear hT m3 hF1 hF2 hF3 hF4 f2 f3 z1 z2 z3 hd hr hs
  generalize decide (foldE n i d path = 0 ∧ foldR n i d path = r) = CK at *
  generalize foldE n i d path = E at *
  generalize bs (foldR n i d path) = FR at *
  generalize climbR n i d path = CT at *
  generalize roadR n i s path = RT at *
  generalize path.length = m at *
  generalize bs d = B at *
  generalize bs r = R at *
  generalize bs s = S at *
  have hb0 : ∀ o, Below w.heap.size w (w.alloc o) := fun o => (Below.refl _ _).alloc (Nat.le_refl _) _
  have Hb0 := hide hb0
  clear hb0
  go_enter Try.func6, Try.ntmps6
  go_wp2_with fail
  generalize hW : World.alloc _ _ = W
  obtain ⟨c0, c1, c2, c3⟩ := four_cells w (.int .i64 n) (.int .i64 i) (.string B) (.slice a0 m c) 42
  rw [hW] at c0 c1 c2 c3
  have bW : Below w.heap.size w W := by rw [← hW]; exact unhide Hb0 _
  clear hW
  refine (unhide hfew _ bW).mono ?_
  rintro e w1 ⟨rfl, rfl⟩
  go_wp2_with fail
  refine (unhide h1 _ bW).mono ?_
  rintro e w1 ⟨rfl, b1⟩
  have B1 := hide (bW.trans (b1.mono bW.size))
  have d0 := cell_below c0 b1
  have d1 := cell_below c1 b1
  have d2 := cell_below c2 b1
  have d3 := cell_below c3 b1
  clear c0 c1 c2 c3 b1 bW h1
  go_wp2_with fail
  refine (unhide h2 _ (unhide B1)).mono ?_
  rintro e w2 ⟨rfl, b2⟩
  have B2 := hide ((unhide B1).trans (b2.mono (unhide B1).size))
  have c0 := cell_below d0 b2
  have c1 := cell_below d1 b2
  have c2 := cell_below d2 b2
  have c3 := cell_below d3 b2
  clear d0 d1 d2 d3 b2 B1 h2
  go_wp2_with fail
  have e0 : Hid (∀ x : Gb w2, x.w.cell? ⟨w.heap.size, 0, none⟩ = some (.int .i64 n)) := fun x => gb_cell c0 x
  have e1 : Hid (∀ x : Gb w2, x.w.cell? ⟨w.heap.size, 1, none⟩ = some (.int .i64 i)) := fun x => gb_cell c1 x
  have e2 : Hid (∀ x : Gb w2, x.w.cell? ⟨w.heap.size, 2, none⟩ = some (.string B)) := fun x => gb_cell c2 x
  have e3 : Hid (∀ x : Gb w2, x.w.cell? ⟨w.heap.size, 3, none⟩ = some (.slice a0 m c)) := fun x => gb_cell c3 x
  have hBx : Hid (∀ x : Gb w2, Below w.heap.size w x.w) := fun x => (unhide B2).trans (x.ok.mono (unhide B2).size)
  refine wp_region_same [] 18 8 17 64 73 ?A0 (RowOf CT) (RowOf CT) (by kernel_rfl) (by kernel_rfl) (RowOf.below CT) (RowOf.below CT) ?lex ?gA ?sa ?sb ?_
  case lex =>
    intro X
    have hneX := gb_ne X.w
    have g0 : ∀ y : Gb X.w, y.w.cell? ⟨w.heap.size, 0, none⟩ = some (.int .i64 n) := fun y => gb_cell (unhide e0 X) y
    have g1 : ∀ y : Gb X.w, y.w.cell? ⟨w.heap.size, 1, none⟩ = some (.int .i64 i) := fun y => gb_cell (unhide e1 X) y
    have g2 : ∀ y : Gb X.w, y.w.cell? ⟨w.heap.size, 2, none⟩ = some (.string B) := fun y => gb_cell (unhide e2 X) y
    have g3 : ∀ y : Gb X.w, y.w.cell? ⟨w.heap.size, 3, none⟩ = some (.slice a0 m c) := fun y => gb_cell (unhide e3 X) y
    dsimp only [boxRest, List.take_succ_cons, List.take_zero, List.eraseIdx_cons_succ, List.eraseIdx_cons_zero]
    repeat (go_big_quiet_step ((fail)))
    refine wpQuiet_nil ?_
    exact rfl
  case gA => intro g hg; cases hg
  case sa =>
    intro o ho x b hy
    obtain rfl := Option.some.inj ho
    have y0 : b.eval (.tmp 57) = .int .i64 n := hy (.tmp 57) (by simp [Op.operands, Call.operands])
    have y1 : b.eval (.tmp 59) = .int .i64 i := hy (.tmp 59) (by simp [Op.operands, Call.operands])
    have y2 : b.eval (.tmp 61) = .string B := hy (.tmp 61) (by simp [Op.operands, Call.operands])
    have y3 : b.eval (.tmp 63) = .slice a0 m c := hy (.tmp 63) (by simp [Op.operands, Call.operands])
    refine wp_call 25 #[.tmp 57, .tmp 59, .tmp 61, .tmp 63] _ rfl Try.call25 #[.int .i64 n, .int .i64 i, .string B, .slice a0 m c] (by simp [y0, y1, y2, y3]) (unhide h3 x.w (unhide hBx x)) ?_
    rintro e w3 ⟨v, rfl, hv, b3⟩
    exact ⟨v, rfl, v, rfl, hv, b3⟩
  case sb =>
    intro o ho x b hy
    obtain rfl := Option.some.inj ho
    have y0 : b.eval (.tmp 66) = .int .i64 n := hy (.tmp 66) (by simp [Op.operands, Call.operands])
    have y1 : b.eval (.tmp 68) = .int .i64 i := hy (.tmp 68) (by simp [Op.operands, Call.operands])
    have y2 : b.eval (.tmp 70) = .string B := hy (.tmp 70) (by simp [Op.operands, Call.operands])
    have y3 : b.eval (.tmp 72) = .slice a0 m c := hy (.tmp 72) (by simp [Op.operands, Call.operands])
    refine wp_call 26 #[.tmp 66, .tmp 68, .tmp 70, .tmp 72] _ rfl Try.call26 #[.int .i64 n, .int .i64 i, .string B, .slice a0 m c] (by simp [y0, y1, y2, y3]) (unhide h4 x.w (unhide hBx x)) ?_
    rintro e w3 ⟨v, rfl, hv, b3⟩
    exact ⟨v, rfl, v, rfl, hv, b3⟩
  rintro va vb w3 b3 ⟨a1, c1', rfl, t1⟩ ⟨a2, c2', rfl, t2⟩
  try simp only [List.drop_succ_cons, List.drop_zero]
  have hsm := hide (msame_any w3 CT a1 a2 c1' c2' (by omega) t1 t2)
  have B3 := hide ((unhide B2).trans (b3.mono (unhide B2).size))
  have d0 := cell_below c0 b3
  have d1 := cell_below c1 b3
  have d2 := cell_below c2 b3
  have d3 := cell_below c3 b3
  clear c0 c1 c2 c3 t1 t2 b3 B2 e0 e1 e2 e3 hBx h3 h4
  generalize CT.length = ct at *
  go_wp2_with fail
  refine (unhide hsm).mono ?_
  rintro e w4 ⟨rfl, b4⟩
  have B4 := hide ((unhide B3).trans (b4.mono (unhide B3).size))
  have c0 := cell_below d0 b4
  have c1 := cell_below d1 b4
  have c2 := cell_below d2 b4
  have c3 := cell_below d3 b4
  clear d0 d1 d2 d3 b4 B3 hsm
  go_wp2
  refine onlyN ?_
  go_wp2_with fail
  have e0 : Hid (∀ x : Gb w4, x.w.cell? ⟨w.heap.size, 0, none⟩ = some (.int .i64 n)) := fun x => gb_cell c0 x
  have e1 : Hid (∀ x : Gb w4, x.w.cell? ⟨w.heap.size, 1, none⟩ = some (.int .i64 i)) := fun x => gb_cell c1 x
  have e2 : Hid (∀ x : Gb w4, x.w.cell? ⟨w.heap.size, 2, none⟩ = some (.string B)) := fun x => gb_cell c2 x
  have e3 : Hid (∀ x : Gb w4, x.w.cell? ⟨w.heap.size, 3, none⟩ = some (.slice a0 m c)) := fun x => gb_cell c3 x
  have hBx : Hid (∀ x : Gb w4, Below w.heap.size w x.w) := fun x => (unhide B4).trans (x.ok.mono (unhide B4).size)
  have hBy : Hid (∀ (x : Gb w4) (y : Gb x.w), Below w.heap.size w y.w) := fun x y => (unhide hBx x).trans (y.ok.mono (unhide hBx x).size)
  clear c0 c1 c2 c3
  refine wp_region_same [(77, true), (82, true), (87, true), (110, true)] 51 42 50 118 126 ?A1 (RowOf RT) (RowOf RT) (by kernel_rfl) (by kernel_rfl) (RowOf.below RT) (RowOf.below RT) ?lex2 ?gA2 ?sa2 ?sb2 ?_
  case lex2 =>
    intro X
    have hneX := gb_ne X.w
    have g0 : ∀ y : Gb X.w, y.w.cell? ⟨w.heap.size, 0, none⟩ = some (.int .i64 n) := fun y => gb_cell (unhide e0 X) y
    have g1 : ∀ y : Gb X.w, y.w.cell? ⟨w.heap.size, 1, none⟩ = some (.int .i64 i) := fun y => gb_cell (unhide e1 X) y
    have g2 : ∀ y : Gb X.w, y.w.cell? ⟨w.heap.size, 2, none⟩ = some (.string B) := fun y => gb_cell (unhide e2 X) y
    have g3 : ∀ y : Gb X.w, y.w.cell? ⟨w.heap.size, 3, none⟩ = some (.slice a0 m c) := fun y => gb_cell (unhide e3 X) y
    dsimp only [boxRest, List.take_succ_cons, List.take_zero, List.eraseIdx_cons_succ, List.eraseIdx_cons_zero]
    repeat (go_big_quiet_step ((first | (go_at_call 10; exact gb_call (unhide haw _)) | (go_at_call 27; exact gb_call (unhide h5 _ (unhide hBy X _))) | (go_at_call 28; exact gb_call (unhide h6 _ (unhide hBy X _))))))
    refine wpQuiet_nil ?_
    exact rfl
  case gA2 => intro g hg; simp only [List.mem_cons, List.not_mem_nil, or_false] at hg; rcases hg with rfl | rfl | rfl | rfl <;> rfl
  case sa2 =>
    intro o ho x b hy
    obtain rfl := Option.some.inj ho
    have y0 : b.eval (.tmp 112) = .int .i64 n := hy (.tmp 112) (by simp [Op.operands, Call.operands])
    have y1 : b.eval (.tmp 114) = .int .i64 i := hy (.tmp 114) (by simp [Op.operands, Call.operands])
    have y2 : b.eval (.tmp 115) = .string S := hy (.tmp 115) (by simp [Op.operands, Call.operands])
    have y3 : b.eval (.tmp 117) = .slice a0 m c := hy (.tmp 117) (by simp [Op.operands, Call.operands])
    refine wp_call 29 #[.tmp 112, .tmp 114, .tmp 115, .tmp 117] _ rfl Try.call29 #[.int .i64 n, .int .i64 i, .string S, .slice a0 m c] (by simp [y0, y1, y2, y3]) (unhide h7 x.w (unhide hBx x)) ?_
    rintro e w3 ⟨v, rfl, hv, b3⟩
    exact ⟨v, rfl, v, rfl, hv, b3⟩
  case sb2 =>
    intro o ho x b hy
    obtain rfl := Option.some.inj ho
    have y0 : b.eval (.tmp 120) = .int .i64 n := hy (.tmp 120) (by simp [Op.operands, Call.operands])
    have y1 : b.eval (.tmp 122) = .int .i64 i := hy (.tmp 122) (by simp [Op.operands, Call.operands])
    have y2 : b.eval (.tmp 123) = .string S := hy (.tmp 123) (by simp [Op.operands, Call.operands])
    have y3 : b.eval (.tmp 125) = .slice a0 m c := hy (.tmp 125) (by simp [Op.operands, Call.operands])
    refine wp_call 30 #[.tmp 120, .tmp 122, .tmp 123, .tmp 125] _ rfl Try.call30 #[.int .i64 n, .int .i64 i, .string S, .slice a0 m c] (by simp [y0, y1, y2, y3]) (unhide h8 x.w (unhide hBx x)) ?_
    rintro e w3 ⟨v, rfl, hv, b3⟩
    exact ⟨v, rfl, v, rfl, hv, b3⟩
  rintro va vb w5 b5 ⟨a5, c5, rfl, t5⟩ ⟨a6, c6, rfl, t6⟩
  try simp only [List.drop_succ_cons, List.drop_zero]
  have hsm := hide (msame_any w5 RT a5 a6 c5 c6 (by omega) t5 t6)
  have B5 := hide ((unhide B4).trans (b5.mono (unhide B4).size))
  clear t5 t6 b5 B4 e0 e1 e2 e3 hBx hBy h5 h6 h7 h8
  generalize RT.length = rt at *
  go_wp2_with fail
  refine (unhide hsm).mono ?_
  rintro e w6 ⟨rfl, b6⟩
  have B6 := hide ((unhide B5).trans (b6.mono (unhide B5).size))
  clear b6 B5 hsm
  go_wp2
  refine onlyN ?_
  go_wp2
  go_ret
  exact ⟨rfl, unhide B6⟩

end Go.Proofs.Ytiaohpkcncbdnaa

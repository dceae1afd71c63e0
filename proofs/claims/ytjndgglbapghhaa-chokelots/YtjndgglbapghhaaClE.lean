/- choke: ChokeChooses. -/
import Derived.Test.YtjndgglbapghhaaClD
namespace Go.Proofs.Ytjndgglbapghhaa
open Go.RowKit Go.Sort
set_option linter.unusedVariables false
attribute [local go_sem] Oper.semAt_some

theorem mask_in {m : List Bool} {j : Nat} (h : m[j]? = some true) : j ∈ (List.range m.length).filter fun i => m[i]? == some true :=
  List.mem_filter.2 ⟨List.mem_range.2 (List.getElem?_eq_some_iff.1 h).1, by simp [h]⟩
/-- what a marked operation's answer is, by its kind: a row of peers; integers and a number; integers; a number; true -/
def RV (l : List Pr) (T : List Int) (f : Int) (b : Bool) : Nat → Value → World → Prop
  | 0, v, z => ∃ a c, v = .slice a l.length c ∧ PrsAt z a l
  | 1, v, z => ∃ a c, v = .tuple #[.slice a T.length c, .int .i64 f] ∧ Ints z a T
  | 2, v, z => ∃ a c, v = .slice a T.length c ∧ Ints z a T
  | 3, v, _ => v = .int .i64 f
  | 4, v, _ => v = .bool b
  | _, v, _ => v = .bool true
theorem RV.stay {l : List Pr} {T : List Int} {f : Int} {b : Bool} {k : Nat} {v : Value} {z z' : World} (h : RV l T f b k v z) (hb : Below z.heap.size z z') : RV l T f b k v z' := by
  unfold RV at h ⊢
  split at h
  · obtain ⟨a, c, h1, h2⟩ := h; exact ⟨a, c, h1, h2.up hb⟩
  · obtain ⟨a, c, h1, h2⟩ := h; exact ⟨a, c, h1, h2.up hb⟩
  · obtain ⟨a, c, h1, h2⟩ := h; exact ⟨a, c, h1, h2.up hb⟩
  · exact h
  · exact h
  · exact h
theorem fewB_yes {l : List Pr} (h : fewB l = true) : l.length ≤ 20 := by
  unfold fewB at h
  simp only [Bool.and_eq_true, decide_eq_true_iff] at h
  exact h.1
/-- the box of a way to choose -/
def HowAt (W : World) (g : Nat) (s lot x y : Int) : Prop := W.heap[g]? = some (.cells #[.int .i64 s, .int .i64 lot, .int .i64 x, .int .i64 y] 26 (0, 0))
theorem HowAt.up {W W' : World} {g : Nat} {s lot x y : Int} (h : HowAt W g s lot x y) (hb : Below W.heap.size W W') : HowAt W' g s lot x y := (hb.block g (lt_of_block h)).trans h
theorem HowAt.cells {W : World} {g : Nat} {s lot x y : Int} (h : HowAt W g s lot x y) : W.cell? ⟨g, 0, none⟩ = some (.int .i64 s) ∧ W.cell? ⟨g, 1, none⟩ = some (.int .i64 lot) ∧ W.cell? ⟨g, 2, none⟩ = some (.int .i64 x) ∧ W.cell? ⟨g, 3, none⟩ = some (.int .i64 y) ∧ g < W.heap.size :=
  ⟨cell_of_row _ _ 0 _ _ _ h, cell_of_row _ _ 1 _ _ _ h, cell_of_row _ _ 2 _ _ _ h, cell_of_row _ _ 3 _ _ _ h, lt_of_block h⟩
theorem choX_bad {s lot x y : Int} {l : List Pr} (h : mayB s x y l = false) : choX s lot x y l = ([], 1) := choX_no (by rw [h]; rfl)
set_option maxRecDepth 100000 in
set_option maxHeartbeats 16000000 in
theorem chokeChooses_any (a0 : Option Addr) (l : List Pr) (c : Nat) (s lot x y : Int) (w : World) (hl : PrsAt w a0 l) (hok : PrsOk l c) :
    Calls Try.prog 3 #[.slice a0 l.length c, howV s lot x y] w fun e w' => e = .returned (.bool true) ∧ Below w.heap.size w w' := by
  have hb0 : Below w.heap.size w (w.alloc (.cells #[.int .i64 s, .int .i64 lot, .int .i64 x, .int .i64 y] 26)) := (Below.refl _ w).alloc (Nat.le_refl _) _
  have HFw := hide (few_any a0 l c _ (hl.up hb0) (by have := hok.1; have := hok.2.1; omega) (fun p hp => (hok.2.2 p hp).1))
  have B0 := hide hb0
  have H0 : Hid (HowAt _ w.heap.size s lot x y) := heap_alloc_new w (.cells #[.int .i64 s, .int .i64 lot, .int .i64 x, .int .i64 y] 26)
  have HL := hide hl
  have HFL := hide (@fewB_yes l)
  clear hb0 hl hok
  unfold howV
  generalize fewB l = F at *
  obtain ⟨W0, hW0⟩ : ∃ W0, W0 = w.alloc (.cells #[.int .i64 s, .int .i64 lot, .int .i64 x, .int .i64 y] 26) := ⟨_, rfl⟩
  rw [← hW0] at HFw B0 H0
  have HW0 := hide hW0
  clear hW0
  obtain ⟨n, hn⟩ : ∃ n, n = l.length := ⟨_, rfl⟩
  rw [← hn] at HFw HFL ⊢
  have HN := hide hn
  clear hn
  cases F with
  | false =>
    go_enter Try.func3, Try.ntmps3
    go_wp2_with fail
    rw [← unhide HW0]
    refine (unhide HFw).mono ?_
    rintro e w1 ⟨rfl, rfl⟩
    go_wp2_with fail
    refine (cawake_any _).mono ?_
    rintro e w2 ⟨rfl, b2⟩
    have B2 := hide ((unhide B0).trans (b2.mono (unhide B0).size))
    clear b2
    go_wp2
    go_ret
    exact ⟨rfl, unhide B2⟩
  | true =>
  have hn20 : n ≤ 20 := unhide HFL rfl
  have HCh := hide (fun W (h : Below w.heap.size w W) => choose_any a0 l c s lot x y W ((unhide HL).up h) (by rw [← unhide HN]; omega))
  have HTp := hide (fun W (h : Below w.heap.size w W) => top_any a0 l c s x y W ((unhide HL).up h) (by rw [← unhide HN]; omega))
  have HRf := hide (fun W (h : Below w.heap.size w W) => refs_any a0 l c W ((unhide HL).up h) (by rw [← unhide HN]; omega))
  rw [← unhide HN] at HCh HTp HRf
  have HRp := hide (fun W => ref17p_any x y W)
  have HCX := hide (@choX_bad s lot x y l)
  have HTN := hide (@topX_no s x y l)
  have HTY := hide (@topX_yes s x y l)
  have HMP := hide (@mayB_parts s x y l)
  have hcl : Hid ((choX s lot x y l).1.length ≤ 20) := Nat.le_trans (choX_len s lot x y l) (by rw [← unhide HN]; exact hn20)
  have htl : Hid ((topX s x y l).1.length ≤ 20) := Nat.le_trans (topX_len s x y l) (by rw [← unhide HN]; exact hn20)
  have HDC : Hid (∀ b0 d z, PrsAt z b0 l → Calls Try.prog 10 #[.slice b0 l.length d, .int .i64 s, .int .i64 lot, rv x y] z fun e w' => ∃ v, e = .returned (.tuple #[v, .int .i64 (choX s lot x y l).2]) ∧ ChoR z v (choX s lot x y l).1 w') := fun b0 d z h => dchoose_any b0 l d s lot x y z h (by rw [← unhide HN]; omega)
  have HDM : Hid (∀ b0 d z, PrsAt z b0 l → Calls Try.prog 14 #[.slice b0 l.length d, .int .i64 s, rv x y] z fun e w' => e = .returned (.bool (mayB s x y l)) ∧ Below z.heap.size z w') := fun b0 d z h => dmay_any b0 l d s x y z h (by rw [← unhide HN]; omega)
  have HDT : Hid (∀ b0 d z, PrsAt z b0 l → mayB s x y l = true → Calls Try.prog 16 #[.slice b0 l.length d, .int .i64 s, rv x y] z fun e w' => ∃ v, e = .returned v ∧ ChoR z v (topX s x y l).1 w') := fun b0 d z h hm => by
    obtain ⟨⟨h1, h2⟩, _, _⟩ := mayB_parts hm
    obtain ⟨sn, rfl⟩ : ∃ n : Nat, s = n := ⟨s.toNat, by omega⟩
    rw [topX_yes hm]
    refine (dtop_any b0 l d sn x y z h (by rw [← unhide HN]; omega) (by omega)).mono ?_
    rintro e w' ⟨v, rfl, hr⟩
    exact ⟨v, rfl, hr.cho⟩
  obtain ⟨CL, hCL⟩ : ∃ CL, CL = choX s lot x y l := ⟨_, rfl⟩
  obtain ⟨TL, hTL⟩ : ∃ TL, TL = topX s x y l := ⟨_, rfl⟩
  rw [← hCL] at HCh hcl HDC
  rw [← hTL] at HTp HTY htl HDT
  have HCX2 : Hid (mayB s x y l = false → CL = ([], 1)) := fun h => hCL.trans (unhide HCX h)
  have HTN2 : Hid (mayB s x y l = false → TL = ([], 1)) := fun h => hTL.trans (unhide HTN h)
  have HTY2 : Hid (mayB s x y l = true → TL.2 = 0) := fun h => by rw [unhide HTY h]
  clear HCX HTN HTY HMP hCL hTL
  obtain ⟨CL, ce⟩ := CL
  obtain ⟨TL, te⟩ := TL
  dsimp only at HCh hcl HDC HTp htl HDT HTY2
  generalize mayB s x y l = V at *
  unfold rv at *
  obtain ⟨q, hq⟩ : ∃ q, q = CL.length := ⟨_, rfl⟩
  have HQ := hide hq
  obtain ⟨r, hr⟩ : ∃ r, r = TL.length := ⟨_, rfl⟩
  have HR := hide hr
  have HCL := hide (show CL.length ≤ 20 from hcl)
  have HTLL := hide (show TL.length ≤ 20 from htl)
  rw [← hq] at hcl
  rw [← hr] at htl
  clear hq hr HFL
  go_enter Try.func3, Try.ntmps3
  go_wp2_with fail
  rw [← unhide HW0]
  refine (unhide HFw).mono ?_
  rintro e w1 ⟨rfl, rfl⟩
  obtain ⟨u0, u1, u2, u3, ul⟩ := (unhide H0).cells
  clear HFw HW0
  go_wp2_with fail
  refine (unhide HCh _ (unhide B0)).mono ?_
  rintro e w2 ⟨v2, rfl, h2⟩
  obtain ⟨a2, c2, rfl, hI2⟩ := h2.ints
  rw [← unhide HQ]
  have I2 := hide hI2
  have H2 := hide ((unhide H0).up h2.be)
  have B2 := hide ((unhide B0).trans (h2.be.mono (unhide B0).size))
  clear h2 hI2 u0 u1 u2 u3 ul H0 B0 HCh
  obtain ⟨u0, u1, u2, u3, ul⟩ := (unhide H2).cells
  go_wp2_with fail
  refine wp_region_rel [false, true, false, false, false, false, false, false, false, true, true, true, true, true, true] [] [] [7, 8, 26, 28, 36, 37, 38] _ ?A41 (fun x y => Below x.heap.size x y) (fun j => RV l CL ce true ([9, 0, 9, 9, 9, 9, 9, 9, 9, 1, 1, 2, 3, 2, 3].getD j 9)) (by kernel_rfl) (by kernel_rfl) (fun x y z h1 h2 => h1.trans (h2.mono h1.size)) (fun x y h => h) (fun j v x y h hb => RV.stay h hb) (Off.refl _ _) ?det41 ?lex41 ?gA41 ?st41 ?fin41
  case lex41 =>
    intro z hz
    have hneX := gb_ne z
    obtain ⟨t0, t1, t2, t3, tl⟩ := ((unhide H2).up hz).cells
    have g0 : ∀ y : Gb z, _ := fun y => gb_cell t0 y
    have g1 : ∀ y : Gb z, _ := fun y => gb_cell t1 y
    have g2 : ∀ y : Gb z, _ := fun y => gb_cell t2 y
    have g3 : ∀ y : Gb z, _ := fun y => gb_cell t3 y
    dsimp only [restM]
    repeat (go_big_quiet_step ((go_at_call 12; exact gb_call (unhide HRp _))))
    refine wpQuiet_nil ?_
    exact rfl
  case det41 =>
    intro j hj o s ho hs v z hR
    exact absurd hj (List.not_mem_nil)
  case gA41 =>
    intro g hg
    exact absurd hg (List.not_mem_nil)
  case st41 =>
    intro j o ho hmj z bb hz hop
    have hj : j ∈ [1, 9, 10, 11, 12, 13, 14] := mask_in hmj
    simp only [List.mem_cons, List.not_mem_nil, or_false] at hj
    rcases hj with rfl | rfl | rfl | rfl | rfl | rfl | rfl
    · simp only [List.getElem?_cons_succ, List.getElem?_cons_zero, Option.some.injEq] at ho
      subst ho
      have y0 : bb.eval (.tmp 27) = .slice a0 n c := hop 27 (by simp [Op.operands, Call.operands])
      refine wp_call 11 #[.tmp 27] _ rfl Try.call11 #[.slice a0 n c] (by simp [y0]) (unhide HRf z ((unhide B2).trans (hz.mono (unhide B2).size))) ?_
      rintro e w7 ⟨v, rfl, hR⟩
      exact ⟨_, rfl, _, rfl, by obtain ⟨a7, c7, h7, p7⟩ := hR.own.prs; exact ⟨a7, c7, h7, p7⟩, hR.be⟩
    · simp only [List.getElem?_cons_succ, List.getElem?_cons_zero, Option.some.injEq] at ho
      subst ho
      obtain ⟨a8, c8, y0, p8⟩ : ∃ a c, bb.eval (.tmp 28) = .slice a l.length c ∧ PrsAt z a l := hop 28 (by simp [Op.operands, Call.operands])
      have y1 : bb.eval (.tmp 30) = .int .i64 s := hop 30 (by simp [Op.operands, Call.operands])
      have y2 : bb.eval (.tmp 32) = .int .i64 lot := hop 32 (by simp [Op.operands, Call.operands])
      have y3 : bb.eval (.tmp 35) = .agg #[.int .i64 x, .int .i64 y] := hop 35 (by simp [Op.operands, Call.operands])
      refine wp_call 10 #[.tmp 28, .tmp 30, .tmp 32, .tmp 35] _ rfl Try.call10 #[.slice a8 l.length c8, .int .i64 s, .int .i64 lot, .agg #[.int .i64 x, .int .i64 y]] (by simp [y0, y1, y2, y3]) (unhide HDC a8 c8 z p8) ?_
      rintro e w7 ⟨v, rfl, hR⟩
      exact ⟨_, rfl, _, rfl, by obtain ⟨a7, c7, h7, i7⟩ := hR.ints; rw [h7]; exact ⟨a7, c7, rfl, i7⟩, hR.be⟩
    · simp only [List.getElem?_cons_succ, List.getElem?_cons_zero, Option.some.injEq] at ho
      subst ho
      obtain ⟨a7, c7, y0, h7⟩ : ∃ a c, bb.eval (.tmp 36) = .tuple #[.slice a CL.length c, .int .i64 ce] ∧ Ints z a CL := hop 36 (by simp [Op.operands])
      have y1 : bb.tmps[36]?.getD undef = .tuple #[.slice a7 CL.length c7, .int .i64 ce] := by simpa [Act.eval] using y0
      unfold Oper.wp
      simp [execOp, y1, go_sem]
      exact ⟨_, rfl, ⟨a7, c7, rfl, h7⟩, Below.refl _ _⟩
    · simp only [List.getElem?_cons_succ, List.getElem?_cons_zero, Option.some.injEq] at ho
      subst ho
      obtain ⟨a7, c7, y0, h7⟩ : ∃ a c, bb.eval (.tmp 26) = .tuple #[.slice a CL.length c, .int .i64 ce] ∧ Ints z a CL := hop 26 (by simp [Op.operands])
      have y1 : bb.tmps[26]?.getD undef = .tuple #[.slice a7 CL.length c7, .int .i64 ce] := by simpa [Act.eval] using y0
      unfold Oper.wp
      simp [execOp, y1, go_sem]
      exact ⟨_, rfl, ⟨a7, c7, rfl, h7⟩, Below.refl _ _⟩
    · simp only [List.getElem?_cons_succ, List.getElem?_cons_zero, Option.some.injEq] at ho
      subst ho
      obtain ⟨a7, c7, y0, h7⟩ : ∃ a c, bb.eval (.tmp 26) = .tuple #[.slice a CL.length c, .int .i64 ce] ∧ Ints z a CL := hop 26 (by simp [Op.operands])
      have y1 : bb.tmps[26]?.getD undef = .tuple #[.slice a7 CL.length c7, .int .i64 ce] := by simpa [Act.eval] using y0
      unfold Oper.wp
      simp [execOp, y1, go_sem]
      exact ⟨_, rfl, rfl, Below.refl _ _⟩
    · simp only [List.getElem?_cons_succ, List.getElem?_cons_zero, Option.some.injEq] at ho
      subst ho
      obtain ⟨a7, c7, y0, h7⟩ : ∃ a c, bb.eval (.tmp 37) = .slice a CL.length c ∧ Ints z a CL := hop 37 (by simp [Op.operands])
      have y1 : bb.tmps[37]?.getD undef = .slice a7 CL.length c7 := by simpa [Act.eval] using y0
      unfold Oper.wp
      simp [execOp, y1, go_sem]
      exact ⟨_, rfl, ⟨a7, c7, rfl, h7⟩, Below.refl _ _⟩
    · simp only [List.getElem?_cons_succ, List.getElem?_cons_zero, Option.some.injEq] at ho
      subst ho
      have y0 : bb.eval (.tmp 38) = .int .i64 ce := hop 38 (by simp [Op.operands])
      have y1 : bb.tmps[38]?.getD undef = .int .i64 ce := by simpa [Act.eval] using y0
      unfold Oper.wp
      simp [execOp, y1, go_sem]
      exact ⟨_, rfl, rfl, Below.refl _ _⟩
  case fin41 =>
    intro bb z hz hoff hrel
    have hall := Off.all _ _ hoff
    simp only [List.foldl_cons, List.foldl_nil] at hall
    obtain ⟨a7, c7, e7, i7⟩ : ∃ a c, bb.eval (.tmp 7) = .slice a CL.length c ∧ Ints z a CL := hrel 13 _ 7 rfl rfl rfl
    obtain e8 : bb.eval (.tmp 8) = .int .i64 ce := hrel 14 _ 8 rfl rfl rfl
    rw [e7] at hall
    rw [e8] at hall
    generalize bb.eval (.tmp 26) = v26 at hall
    generalize bb.eval (.tmp 28) = v28 at hall
    generalize bb.eval (.tmp 36) = v36 at hall
    generalize bb.eval (.tmp 37) = v37 at hall
    generalize bb.eval (.tmp 38) = v38 at hall
    rw [hall]
    clear hall hrel hoff e7 e8
    simp only [Act.put, List.setIfInBounds_toArray, List.set_cons_succ, List.set_cons_zero]
    have H4 := hide ((unhide H2).up hz)
    have I4 := hide ((unhide I2).up hz)
    have J4 := hide i7
    have B4 := hide ((unhide B2).trans (hz.mono (unhide B2).size))
    clear hz i7 H2 B2 I2
    rw [← unhide HQ]
    obtain ⟨u0, u1, u2, u3, ul⟩ := (unhide H4).cells
    go_wp2_with fail
    refine (unhide HTp _ (unhide B4)).mono ?_
    rintro e w5 ⟨v5, rfl, h5⟩
    obtain ⟨a5, c5, rfl, hI5⟩ := h5.ints
    rw [← unhide HR]
    have H5 := hide ((unhide H4).up h5.be)
    have I5 := hide ((unhide I4).up h5.be)
    have J5 := hide ((unhide J4).up h5.be)
    have K5 := hide hI5
    have B5 := hide ((unhide B4).trans (h5.be.mono (unhide B4).size))
    clear h5 hI5 u0 u1 u2 u3 ul H4 I4 J4 B4 HTp
    go_wp2_with fail
    refine wp_region_rel [false, true, false, false, false, false, false, true, false] [] [7] [49, 55] (Act.put _ (some 55) (.bool V)) ?A61 (fun x y => Below x.heap.size x y) (fun j => RV l TL te V ([9, 0, 9, 9, 9, 9, 9, 4].getD j 9)) (by kernel_rfl) (by kernel_rfl) (fun x y z h1 h2 => h1.trans (h2.mono h1.size)) (fun x y h => h) (fun j v x y h hb => RV.stay h hb) ((Off.refl _ _).put 55 _ (by simp)) ?det61 ?lex61 ?gA61 ?st61 ?fin61
    case lex61 =>
      intro z hz
      have hneX := gb_ne z
      obtain ⟨t0, t1, t2, t3, tl⟩ := ((unhide H5).up hz).cells
      have g0 : ∀ y : Gb z, _ := fun y => gb_cell t0 y
      have g1 : ∀ y : Gb z, _ := fun y => gb_cell t1 y
      have g2 : ∀ y : Gb z, _ := fun y => gb_cell t2 y
      have g3 : ∀ y : Gb z, _ := fun y => gb_cell t3 y
      dsimp only [restM]
      simp only [Act.put, List.setIfInBounds_toArray, List.set_cons_succ, List.set_cons_zero]
      repeat (go_big_quiet_step ((go_at_call 12; exact gb_call (unhide HRp _))))
      refine wpQuiet_nil ?_
      exact rfl
    case det61 =>
      intro j hj o s ho hs v z hR
      simp only [List.mem_cons, List.not_mem_nil, or_false] at hj
      rcases hj with rfl
      all_goals
        simp only [List.getElem?_cons_succ, List.getElem?_cons_zero, Option.some.injEq] at ho
        subst ho
        simp only [Option.some.injEq] at hs
        subst hs
        exact hR.trans rfl
    case gA61 =>
      intro g hg
      exact absurd hg (List.not_mem_nil)
    case st61 =>
      intro j o ho hmj z bb hz hop
      have hj : j ∈ [1, 7] := mask_in hmj
      simp only [List.mem_cons, List.not_mem_nil, or_false] at hj
      rcases hj with rfl | rfl
      · simp only [List.getElem?_cons_succ, List.getElem?_cons_zero, Option.some.injEq] at ho
        subst ho
        have y0 : bb.eval (.tmp 48) = .slice a0 n c := hop 48 (by simp [Op.operands, Call.operands])
        refine wp_call 11 #[.tmp 48] _ rfl Try.call11 #[.slice a0 n c] (by simp [y0]) (unhide HRf z ((unhide B5).trans (hz.mono (unhide B5).size))) ?_
        rintro e w7 ⟨v, rfl, hR⟩
        exact ⟨_, rfl, _, rfl, by obtain ⟨a7, c7, h7, p7⟩ := hR.own.prs; exact ⟨a7, c7, h7, p7⟩, hR.be⟩
      · simp only [List.getElem?_cons_succ, List.getElem?_cons_zero, Option.some.injEq] at ho
        subst ho
        obtain ⟨a8, c8, y0, p8⟩ : ∃ a c, bb.eval (.tmp 49) = .slice a l.length c ∧ PrsAt z a l := hop 49 (by simp [Op.operands, Call.operands])
        have y1 : bb.eval (.tmp 51) = .int .i64 s := hop 51 (by simp [Op.operands, Call.operands])
        have y2 : bb.eval (.tmp 54) = .agg #[.int .i64 x, .int .i64 y] := hop 54 (by simp [Op.operands, Call.operands])
        refine wp_call 14 #[.tmp 49, .tmp 51, .tmp 54] _ rfl Try.call14 #[.slice a8 l.length c8, .int .i64 s, .agg #[.int .i64 x, .int .i64 y]] (by simp [y0, y1, y2]) (unhide HDM a8 c8 z p8) ?_
        rintro e w7 ⟨rfl, b7⟩
        exact ⟨_, rfl, _, rfl, rfl, b7⟩
    case fin61 =>
      intro bb z hz hoff hrel
      have hall := Off.all _ _ hoff
      simp only [List.foldl_cons, List.foldl_nil] at hall
      generalize bb.eval (.tmp 49) = v49 at hall
      generalize bb.eval (.tmp 55) = v55 at hall
      rw [hall]
      clear hall hrel hoff
      simp only [Act.put, List.setIfInBounds_toArray, List.set_cons_succ, List.set_cons_zero]
      have H6 := hide ((unhide H5).up hz)
      have I6 := hide ((unhide I5).up hz)
      have J6 := hide ((unhide J5).up hz)
      have K6 := hide ((unhide K5).up hz)
      have B6 := hide ((unhide B5).trans (hz.mono (unhide B5).size))
      clear hz H5 I5 J5 K5 B5
      cases V with
      | false =>
        have h1 := unhide HCX2 rfl
        have h2 := unhide HTN2 rfl
        cases h1
        cases h2
        have hq0 : q = 0 := (unhide HQ).trans rfl
        have hr0 : r = 0 := (unhide HR).trans rfl
        subst hq0
        subst hr0
        clear HQ HR HDC HDM HDT HCX2 HTN2 HTY2 hcl htl H6 I6 J6 K6
        go_wp2_with fail
        refine (cawake_any _).mono ?_
        rintro e w8 ⟨rfl, b8⟩
        have B8 := hide ((unhide B6).trans (b8.mono (unhide B6).size))
        clear b8
        go_wp2
        go_ret
        exact ⟨rfl, unhide B8⟩
      | true =>
        have h1 := unhide HTY2 rfl
        subst h1
        have HDT2 := hide (fun b0 d z h => unhide HDT b0 d z h rfl)
        have qce : (ce == ce) = true := by simp
        clear HDM HDC HDT HCX2 HTN2 HTY2
        go_wp2_with fail
        refine wp_region_rel [false, false, false, false, true, false, false, false, false, false, false, false, false, false, false, false, false, false, true, false, false, false, false, false, true, true, false, false] [(75, true), (80, true), (85, true), (89, true)] [4, 25] [78, 92, 98, 99] (Act.put (Act.put _ (some 78) (.bool true)) (some 99) (.bool true)) ?A81 (fun x y => Below x.heap.size x y) (fun j => RV l TL 0 true ([9, 9, 9, 9, 9, 9, 9, 9, 9, 9, 9, 9, 9, 9, 9, 9, 9, 9, 0, 9, 9, 9, 9, 9, 2, 9].getD j 9)) (by kernel_rfl) (by kernel_rfl) (fun x y z h1 h2 => h1.trans (h2.mono h1.size)) (fun x y h => h) (fun j v x y h hb => RV.stay h hb) (((Off.refl _ _).put 78 _ (by simp)).put 99 _ (by simp)) ?det81 ?lex81 ?gA81 ?st81 ?fin81
        case lex81 =>
          intro z hz
          have hneX := gb_ne z
          obtain ⟨t0, t1, t2, t3, tl⟩ := ((unhide H6).up hz).cells
          have g0 : ∀ y : Gb z, _ := fun y => gb_cell t0 y
          have g1 : ∀ y : Gb z, _ := fun y => gb_cell t1 y
          have g2 : ∀ y : Gb z, _ := fun y => gb_cell t2 y
          have g3 : ∀ y : Gb z, _ := fun y => gb_cell t3 y
          dsimp only [restM]
          simp only [Act.put, List.setIfInBounds_toArray, List.set_cons_succ, List.set_cons_zero]
          repeat (go_big_quiet_step ((first | (go_at_call 12; exact gb_call (unhide HRp _)) | (go_at_call 8; exact gb_call (cawake_any _)))))
          refine wpQuiet_nil ?_
          exact rfl
        case det81 =>
          intro j hj o s ho hs v z hR
          simp only [List.mem_cons, List.not_mem_nil, or_false] at hj
          rcases hj with rfl | rfl
          all_goals
            simp only [List.getElem?_cons_succ, List.getElem?_cons_zero, Option.some.injEq] at ho
            subst ho
            simp only [Option.some.injEq] at hs
            subst hs
            exact hR.trans rfl
        case gA81 =>
          intro g hg
          simp only [List.mem_cons, List.not_mem_nil, or_false] at hg
          rcases hg with rfl | rfl | rfl | rfl <;> rfl
        case st81 =>
          intro j o ho hmj z bb hz hop
          have hj : j ∈ [4, 18, 24, 25] := mask_in hmj
          simp only [List.mem_cons, List.not_mem_nil, or_false] at hj
          rcases hj with rfl | rfl | rfl | rfl
          · simp only [List.getElem?_cons_succ, List.getElem?_cons_zero, Option.some.injEq] at ho
            subst ho
            have y0 : bb.eval (.tmp 76) = .slice a2 q c2 := hop 76 (by simp [Op.operands, Call.operands])
            have y1 : bb.eval (.tmp 77) = .slice a7 q c7 := hop 77 (by simp [Op.operands, Call.operands])
            rw [unhide HQ] at y0 y1
            refine wp_call 15 #[.tmp 76, .tmp 77] _ rfl Try.call15 #[.slice a2 CL.length c2, .slice a7 CL.length c7] (by simp [y0, y1]) (isame_any z CL a2 a7 c2 c7 (by have := unhide HCL; omega) ((unhide I6).up hz) ((unhide J6).up hz)) ?_
            rintro e w9 ⟨rfl, b9⟩
            exact ⟨_, rfl, _, rfl, rfl, b9⟩
          · simp only [List.getElem?_cons_succ, List.getElem?_cons_zero, Option.some.injEq] at ho
            subst ho
            have y0 : bb.eval (.tmp 91) = .slice a0 n c := hop 91 (by simp [Op.operands, Call.operands])
            refine wp_call 11 #[.tmp 91] _ rfl Try.call11 #[.slice a0 n c] (by simp [y0]) (unhide HRf z ((unhide B6).trans (hz.mono (unhide B6).size))) ?_
            rintro e w7 ⟨v, rfl, hR⟩
            exact ⟨_, rfl, _, rfl, by obtain ⟨a7, c7, h7, p7⟩ := hR.own.prs; exact ⟨a7, c7, h7, p7⟩, hR.be⟩
          · simp only [List.getElem?_cons_succ, List.getElem?_cons_zero, Option.some.injEq] at ho
            subst ho
            obtain ⟨a8, c8, y0, p8⟩ : ∃ a c, bb.eval (.tmp 92) = .slice a l.length c ∧ PrsAt z a l := hop 92 (by simp [Op.operands, Call.operands])
            have y1 : bb.eval (.tmp 94) = .int .i64 s := hop 94 (by simp [Op.operands, Call.operands])
            have y2 : bb.eval (.tmp 97) = .agg #[.int .i64 x, .int .i64 y] := hop 97 (by simp [Op.operands, Call.operands])
            refine wp_call 16 #[.tmp 92, .tmp 94, .tmp 97] _ rfl Try.call16 #[.slice a8 l.length c8, .int .i64 s, .agg #[.int .i64 x, .int .i64 y]] (by simp [y0, y1, y2]) (unhide HDT2 a8 c8 z p8) ?_
            rintro e w9 ⟨v, rfl, hR⟩
            exact ⟨_, rfl, _, rfl, hR.ints, hR.be⟩
          · simp only [List.getElem?_cons_succ, List.getElem?_cons_zero, Option.some.injEq] at ho
            subst ho
            have y0 : bb.eval (.tmp 90) = .slice a5 r c5 := hop 90 (by simp [Op.operands, Call.operands])
            obtain ⟨a9, c9, y1, i9⟩ : ∃ a c, bb.eval (.tmp 98) = .slice a TL.length c ∧ Ints z a TL := hop 98 (by simp [Op.operands, Call.operands])
            rw [unhide HR] at y0
            refine wp_call 15 #[.tmp 90, .tmp 98] _ rfl Try.call15 #[.slice a5 TL.length c5, .slice a9 TL.length c9] (by simp [y0, y1]) (isame_any z TL a5 a9 c5 c9 (by have := unhide HTLL; omega) ((unhide K6).up hz) i9) ?_
            rintro e w9 ⟨rfl, b9⟩
            exact ⟨_, rfl, _, rfl, rfl, b9⟩
        case fin81 =>
          intro bb z hz hoff hrel
          have hall := Off.all _ _ hoff
          simp only [List.foldl_cons, List.foldl_nil] at hall
          generalize bb.eval (.tmp 78) = v78 at hall
          generalize bb.eval (.tmp 92) = v92 at hall
          generalize bb.eval (.tmp 98) = v98 at hall
          generalize bb.eval (.tmp 99) = v99 at hall
          rw [hall]
          clear hall hrel hoff
          simp only [Act.put, List.setIfInBounds_toArray, List.set_cons_succ, List.set_cons_zero]
          have B9 := hide ((unhide B6).trans (hz.mono (unhide B6).size))
          clear hz
          go_wp2
          go_ret
          exact ⟨rfl, unhide B9⟩
end Go.Proofs.Ytjndgglbapghhaa

/- Contract of outer's Holds. Mathematics of outer's Holds: the rules hold of a whole. Mathematics of outer's Holds: sums of wholes; a byte turned. The law's few. outer: the document's Sized, Sum. outer: the document's Holds. -/
import Derived.Test.YtkcnihngkmaecaaGreatOuI
import Derived.Test.YtkcnihngkmaecaaGreatOdZ
namespace Go.Proofs.YtkcnihngkmaecaaGreat
open Go.RowKit
set_option linter.unusedVariables false
attribute [local go_sem] Oper.semAt_some

/-- the rules of a plan, none beyond -/
def ruA (sd n a q j : Nat) : List Nat := if j < a then ruL sd n a q j else []
theorem ruA_lt (sd n a q j i : Nat) (h : i ∈ ruA sd n a q j) : i < n + a := by
  unfold ruA at h
  split at h
  · unfold ruL at h
    rcases List.mem_append.1 h with h | h
    · have := memL_lt sd a q j n i h
      omega
    · simp at h
      omega
  · cases h
theorem ruA_len (sd n a q j : Nat) : (ruA sd n a q j).length ≤ n + 1 := by
  unfold ruA
  split
  · have := memL_len sd a q j n
    simp [ruL]; omega
  · simp
/-- does a whole keep all rules? -/
def holdsB (sd n a q : Int) (ss : List By) : Bool := plOk sd n a q && (alike ss (n + a) && holdB ss (ruA sd.toNat n.toNat a.toNat q.toNat) ((ss.getD 0 []).length : Int) a.toNat)
set_option maxRecDepth 100000 in
set_option maxHeartbeats 4000000 in
theorem Holds_any (sd n a q : Int) (ss : List By) (a0 : Option Addr) (c : Nat) (w : World) (hT : Txts w a0 ss) (h2 : ss.length ≤ 100000) (h3 : ∀ s ∈ ss, s.length ≤ 100000) :
    Calls Tryz.prog 22 #[plV sd n a q, .slice a0 ss.length c] w fun e w' => e = .returned (.bool (holdsB sd n a q ss)) ∧ Below w.heap.size w w' := by
  have hck := hide (fun w => check_any sd n a q w)
  have hb0 : Below w.heap.size w (w.alloc (.cells #[.int .i64 sd, .int .i64 n, .int .i64 a, .int .i64 q] 23)) := (Below.refl _ w).alloc (Nat.le_refl _) _
  have hpc := hide (plan_cells w sd n a q)
  have B0 := hide hb0
  have HT := hide (hT.below hb0)
  unfold holdsB
  unfold plV at *
  cases hP : plOk sd n a q with
  | false =>
    rw [hP] at hck
    rw [Bool.false_and]
    obtain ⟨c0, c1, c2, c3⟩ := unhide hpc _ (Below.refl _ _)
    generalize ss.length = m at *
    clear hb0 hT hP
    go_enter Tryz.func22, Tryz.ntmps22
    go_wp2_with fail
    generalize hW0 : w.alloc (.cells #[.int .i64 sd, .int .i64 n, .int .i64 a, .int .i64 q] 23) = W0 at *
    have hne := gb_ne W0
    have g0 : ∀ x : Gb W0, x.w.cell? ⟨w.heap.size, 0, none⟩ = some (.int .i64 sd) := fun x => gb_cell c0 x
    have g1 : ∀ x : Gb W0, x.w.cell? ⟨w.heap.size, 1, none⟩ = some (.int .i64 n) := fun x => gb_cell c1 x
    have g2 : ∀ x : Gb W0, x.w.cell? ⟨w.heap.size, 2, none⟩ = some (.int .i64 a) := fun x => gb_cell c2 x
    have g3 : ∀ x : Gb W0, x.w.cell? ⟨w.heap.size, 3, none⟩ = some (.int .i64 q) := fun x => gb_cell c3 x
    refine wp_region_gr (fun x => Below W0.heap.size W0 x) (by kernel_rfl) (by kernel_rfl) (gb_start W0) ?_
    repeat (go_big_quiet_step ((go_at_call 12; exact gb_call (unhide hck _))))
    refine wpQuiet_nil ?_
    rintro w7 ⟨⟨_, b7⟩, rfl⟩
    have B7 := hide ((unhide B0).trans (b7.mono (unhide B0).size))
    clear b7 hne g0 g1 g2 g3
    go_wp2
    go_ret
    exact ⟨rfl, unhide B7⟩
  | true =>
    rw [hP] at hck
    rw [Bool.true_and]
    obtain ⟨sd', n', a', q', rfl, rfl, rfl, rfl, k1, ⟨k2, k3⟩, ⟨k4, k5⟩, k6, k7⟩ := plOk_facts hP
    have hal := hide (fun w hT => alike_any ss a0 c ((n' : Int) + (a' : Int)) (by omega) w hT h2 h3)
    obtain ⟨c0, c1, c2, c3⟩ := unhide hpc _ (Below.refl _ _)
    cases hA : alike ss ((n' : Int) + (a' : Int)) with
    | false =>
      rw [hA] at hal
      rw [Bool.false_and]
      obtain ⟨m, hm⟩ : ∃ m, m = ss.length := ⟨_, rfl⟩
      rw [← hm] at hal ⊢
      clear hb0 hT hP hA hm
      go_enter Tryz.func22, Tryz.ntmps22
      go_wp2_with fail
      generalize hW0 : w.alloc (.cells #[.int .i64 (sd' : Int), .int .i64 (n' : Int), .int .i64 (a' : Int), .int .i64 (q' : Int)] 23) = W0 at *
      have hne := gb_ne W0
      have g0 : ∀ x : Gb W0, x.w.cell? ⟨w.heap.size, 0, none⟩ = some (.int .i64 (sd' : Int)) := fun x => gb_cell c0 x
      have g1 : ∀ x : Gb W0, x.w.cell? ⟨w.heap.size, 1, none⟩ = some (.int .i64 (n' : Int)) := fun x => gb_cell c1 x
      have g2 : ∀ x : Gb W0, x.w.cell? ⟨w.heap.size, 2, none⟩ = some (.int .i64 (a' : Int)) := fun x => gb_cell c2 x
      have g3 : ∀ x : Gb W0, x.w.cell? ⟨w.heap.size, 3, none⟩ = some (.int .i64 (q' : Int)) := fun x => gb_cell c3 x
      have hal2 : Hid (∀ x : Gb W0, _) := fun x => unhide hal x.w ((unhide HT).below x.ok)
      refine wp_region_gr (fun x => Below W0.heap.size W0 x) (by kernel_rfl) (by kernel_rfl) (gb_start W0) ?_
      repeat (go_big_quiet_step ((first | (go_at_call 12; exact gb_call (unhide hck _)) | (go_at_call 35; exact gb_same (unhide hal2 _)))))
      refine wpQuiet_nil ?_
      rintro w7 ⟨⟨_, b7⟩, rfl⟩
      have B7 := hide ((unhide B0).trans (b7.mono (unhide B0).size))
      clear b7 hne g0 g1 g2 g3
      go_wp2
      go_ret
      exact ⟨rfl, unhide B7⟩
    | true =>
      rw [hA] at hal
      rw [Bool.true_and]
      simp only [Int.toNat_natCast]
      have hss : ss.length = n' + a' := by
        unfold alike at hA
        simp only [Bool.and_eq_true, decide_eq_true_eq] at hA
        omega
      have hru := hide (fun w => rules_any sd' n' a' q' k1 k3 k4 k5 k6 k7 w)
      have hho := hide (fun base g V w hT hR => hold_any ss a0 c base g a' V (ruA sd' n' a' q') ((ss.getD 0 []).length : Int) w hT hR (by omega) h2 h3 (fun j => by have := ruA_len sd' n' a' q' j; omega) (fun j i hi => by rw [hss]; exact ruA_lt sd' n' a' q' j i hi))
      have hpos : 0 < ss.length := by omega
      obtain ⟨g0', o0, ha0, hcz⟩ := (unhide HT) 0 hpos
      subst ha0
      rw [Nat.add_zero, show ss[0] = ss.getD 0 [] by simp [List.getD, hpos]] at hcz
      have hsz : (bs (ss.getD 0 [])).size = (ss.getD 0 []).length := bs_size _
      have HEQ : Hid (∀ j, j < a' → ruL sd' n' a' q' j = ruA sd' n' a' q' j) := fun j hj => by unfold ruA; rw [if_pos hj]
      unfold plV at hru
      rw [hss] at hal hho ⊢
      generalize bs (ss.getD 0 []) = S0 at *
      generalize (ss.getD 0 []).length = L0 at *
      generalize holdB ss (ruA sd' n' a' q') (L0 : Int) a' = hb at *
      have hn1 : (0 : Int) < (n' : Int) + (a' : Int) := by omega
      clear hb0 hT hP hA hpos
      go_enter Tryz.func22, Tryz.ntmps22
      go_wp2_with fail
      generalize hW0 : w.alloc (.cells #[.int .i64 (sd' : Int), .int .i64 (n' : Int), .int .i64 (a' : Int), .int .i64 (q' : Int)] 23) = W0 at *
      have HW0 := hide hW0
      clear hW0
      have hne := gb_ne W0
      have e0 : Hid (∀ x : Gb W0, x.w.cell? ⟨w.heap.size, 0, none⟩ = some (.int .i64 (sd' : Int))) := fun x => gb_cell c0 x
      have e1 : Hid (∀ x : Gb W0, x.w.cell? ⟨w.heap.size, 1, none⟩ = some (.int .i64 (n' : Int))) := fun x => gb_cell c1 x
      have e2 : Hid (∀ x : Gb W0, x.w.cell? ⟨w.heap.size, 2, none⟩ = some (.int .i64 (a' : Int))) := fun x => gb_cell c2 x
      have e3 : Hid (∀ x : Gb W0, x.w.cell? ⟨w.heap.size, 3, none⟩ = some (.int .i64 (q' : Int))) := fun x => gb_cell c3 x
      have e4 : Hid (∀ x : Gb W0, x.w.cell? ⟨g0', o0, none⟩ = some (.string S0)) := fun x => gb_cell hcz x
      clear c0 c1 c2 c3 hcz
      refine wp_region_same [(7, true), (16, true)] 19 13 18 18 23 ?A0 (fun v w' => ∃ g V, v = .slice (some ⟨g, 0, none⟩) a' a' ∧ Rows2 w' W0.heap.size g a' V (ruL sd' n' a' q')) (fun v w' => v = .int .i64 (L0 : Int)) (by kernel_rfl) (by kernel_rfl) (fun v _ _ h hb => by obtain ⟨g, V, h1, h2⟩ := h; exact ⟨g, V, h1, h2.below hb⟩) (fun v _ _ h hb => h) ?lex ?gA ?sa ?sb ?_
      case lex =>
        intro X
        have hneX := gb_ne X.w
        have g0 : ∀ y : Gb X.w, y.w.cell? ⟨w.heap.size, 0, none⟩ = some (.int .i64 (sd' : Int)) := fun y => gb_cell (unhide e0 X) y
        have g1 : ∀ y : Gb X.w, y.w.cell? ⟨w.heap.size, 1, none⟩ = some (.int .i64 (n' : Int)) := fun y => gb_cell (unhide e1 X) y
        have g2 : ∀ y : Gb X.w, y.w.cell? ⟨w.heap.size, 2, none⟩ = some (.int .i64 (a' : Int)) := fun y => gb_cell (unhide e2 X) y
        have g3 : ∀ y : Gb X.w, y.w.cell? ⟨w.heap.size, 3, none⟩ = some (.int .i64 (q' : Int)) := fun y => gb_cell (unhide e3 X) y
        have g4 : ∀ y : Gb X.w, y.w.cell? ⟨g0', o0, none⟩ = some (.string S0) := fun y => gb_cell (unhide e4 X) y
        have hal2 : Hid (∀ y : Gb X.w, _) := fun y => unhide hal y.w (((unhide HT).below X.ok).below y.ok)
        dsimp only [boxRest, List.take_succ_cons, List.take_zero, List.eraseIdx_cons_succ, List.eraseIdx_cons_zero]
        repeat (go_big_quiet_step ((first | (go_at_call 12; exact gb_call (unhide hck _)) | (go_at_call 35; exact gb_same (unhide hal2 _)))))
        refine wpQuiet_nil ?_
        exact rfl
      case gA =>
        intro g hg
        simp only [List.mem_cons, List.not_mem_nil, or_false] at hg
        rcases hg with rfl | rfl <;> rfl
      case sa =>
        intro o ho x b' hy
        obtain rfl := Option.some.inj ho
        have y0 : b'.eval (.tmp 17) = .agg #[.int .i64 (sd' : Int), .int .i64 (n' : Int), .int .i64 (a' : Int), .int .i64 (q' : Int)] := hy (.tmp 17) (by simp [Op.operands, Call.operands])
        refine wp_call 29 #[.tmp 17] _ rfl Tryz.call29 #[.agg #[.int .i64 (sd' : Int), .int .i64 (n' : Int), .int .i64 (a' : Int), .int .i64 (q' : Int)]] (by simp [y0]) (unhide hru x.w) ?_
        rintro e w7 ⟨g, rfl, ⟨V, hR⟩, b7⟩
        exact ⟨_, rfl, _, rfl, ⟨g, V, rfl, hR.mono x.ok.size⟩, b7⟩
      case sb =>
        intro o ho x b' hy
        obtain rfl := Option.some.inj ho
        have y0 : b'.eval (.tmp 22) = .string S0 := hy (.tmp 22) (by simp [Op.operands, Call.operands])
        have y0' : b'.tmps[22]?.getD undef = .string S0 := by simpa [Act.eval] using y0
        go_simp
        exact ⟨_, rfl, rfl, Below.refl _ _⟩
      rintro va vb w8 b8 ⟨g, V, rfl, hR8⟩ rfl
      have HH8 := hide (unhide hho W0.heap.size g V w8 ((unhide HT).below b8) (hR8.congr (unhide HEQ)))
      have B8 := hide ((unhide B0).trans (b8.mono (unhide B0).size))
      clear hR8 b8
      try simp only [List.drop_succ_cons, List.drop_zero]
      go_wp2_with fail
      refine (unhide HH8).mono ?_
      rintro e w9 ⟨rfl, b9⟩
      have B9 := hide ((unhide B8).trans (b9.mono (unhide B8).size))
      clear b9
      go_wp2_with fail
      refine onlyN ?_
      go_wp2
      go_ret
      exact ⟨rfl, unhide B9⟩
end Go.Proofs.YtkcnihngkmaecaaGreat
namespace Go.Proofs.YtkcnihngkmaecaaGreat
open Go.RowKit
set_option linter.unusedVariables false

theorem xorL_self (a : By) : xorL a a = List.replicate a.length 0 := by
  unfold xorL
  induction a with
  | nil => rfl
  | cons x a ih =>
    rw [List.zipWith_cons_cons, ih, List.length_cons, List.replicate_succ, UInt8.xor_self]
theorem sumL_app (m : Nat) (T : List By) (s : By) : sumL m (T ++ [s]) = xorL (sumL m T) s := by simp [sumL]
theorem pres_all {m : Nat} (hm : 1 ≤ m) {T : List By} (h : ∀ s ∈ T, s.length = m) : pres T = T := by
  unfold pres
  rw [List.filter_eq_self]
  intro s hs
  have := h s hs
  simp
  intro e
  rw [e] at this
  simp at this
  omega
theorem sumR_all {m : Nat} (hm : 1 ≤ m) (hm2 : m ≤ 64) {T : List By} (h : ∀ s ∈ T, s.length = m) : sumR (pres T) (m : Int) = sumL m T := by
  rw [pres_all hm h]
  unfold sumR
  rw [if_pos (ofB_iff.2 ⟨fun s hs => by rw [h s hs], by omega, by omega⟩)]
  simp
theorem atN_all {m : Nat} {ss : List By} (h : ∀ s ∈ ss, s.length = m) {ns : List Nat} (hn : ∀ i ∈ ns, i < ss.length) : ∀ s ∈ atN ss ns, s.length = m := by
  intro s hs
  obtain ⟨i, hi, rfl⟩ := List.mem_map.1 hs
  have hl := hn i hi
  refine h _ ?_
  simp [List.getD, hl]
theorem absL_none {m : Nat} (hm : 1 ≤ m) {ss : List By} (h : ∀ s ∈ ss, s.length = m) {ns : List Nat} (hn : ∀ i ∈ ns, i < ss.length) : absL ss ns = [] := by
  unfold absL
  rw [List.filter_eq_nil_iff]
  intro i hi
  have hl := hn i hi
  have h1 := h (ss.getD i []) (by simp [List.getD, hl])
  simp only [decide_eq_true_eq]
  intro e
  rw [e] at h1
  simp at h1
  omega
theorem aux_of {sd n a q m : Nat} {ss : List By} (hl : ss.length = n) (hn : 1 ≤ n) (hm : 1 ≤ m) (hm2 : m ≤ 64) (h : ∀ s ∈ ss, s.length = m) (j : Nat) : sumR (pres (atN ss (memL sd a q j n))) ((ss.getD 0 []).length : Int) = sumL m (atN ss (memL sd a q j n)) := by
  have h0 : (ss.getD 0 []).length = m := h _ (by have : 0 < ss.length := by omega
                                                 simp [List.getD, this])
  rw [h0]
  exact sumR_all hm hm2 (atN_all h (fun i hi => by rw [hl]; exact memL_lt sd a q j n i hi))
theorem whole_all {sd n a q m : Nat} {ss : List By} (hl : ss.length = n) (hn : 1 ≤ n) (hm : 1 ≤ m) (hm2 : m ≤ 64) (h : ∀ s ∈ ss, s.length = m) : ∀ s ∈ ss ++ auxL sd n a q ss a, s.length = m := by
  intro s hs
  rcases List.mem_append.1 hs with hs | hs
  · exact h s hs
  · obtain ⟨j, _, rfl⟩ := List.mem_map.1 hs
    rw [aux_of hl hn hm hm2 h]
    exact sumL_len m _ (atN_all h (fun i hi => by rw [hl]; exact memL_lt sd a q j n i hi))
/-- what the rules ask, of blocks of one size -/
theorem holdsB_iff {sd n a q m : Nat} (k1 : sd ≤ 72057594037927935) (hn : 1 ≤ n) (hn2 : n ≤ 96) (ha : 1 ≤ a) (ha2 : a ≤ 64) (hq : 1 ≤ q) (hq2 : q ≤ 8) {x : List By} (hl : x.length = n + a) (hm : 1 ≤ m) (hm2 : m ≤ 64) (h : ∀ s ∈ x, s.length = m) :
    holdsB sd n a q x = true ↔ ∀ j, j < a → sumL m (atN x (ruL sd n a q j)) = List.replicate m 0 := by
  have h0 : (x.getD 0 []).length = m := h _ (by have : 0 < x.length := by omega
                                                simp [List.getD, this])
  have hP : plOk sd n a q = true := by unfold plOk; simp; omega
  have hA : alike x ((n : Int) + (a : Int)) = true := by
    unfold alike ofS
    rw [h0]
    simp only [Bool.and_eq_true, decide_eq_true_eq, List.all_eq_true]
    exact ⟨by omega, fun s hs => ⟨may_iff.2 ⟨by omega, by omega⟩, by rw [h s hs]⟩⟩
  unfold holdsB
  rw [hP, hA, h0, Bool.true_and, Bool.true_and]
  simp only [Int.toNat_natCast]
  unfold holdB
  rw [List.all_eq_true]
  have key : ∀ j, j < a → ((!(decide ((absL x (ruA sd n a q j)).length = 0) && decide (sumR (pres (atN x (ruA sd n a q j))) (m : Int) ≠ zeroL (m : Int)))) = true ↔ sumL m (atN x (ruL sd n a q j)) = List.replicate m 0) := by
    intro j hj
    have hr : ∀ i ∈ ruA sd n a q j, i < x.length := fun i hi => by rw [hl]; exact ruA_lt sd n a q j i hi
    rw [absL_none hm h hr, sumR_all hm hm2 (atN_all h hr), zeroL_nat m hm hm2, show ruA sd n a q j = ruL sd n a q j by unfold ruA; rw [if_pos hj]]
    simp
  constructor
  · intro hh j hj
    exact (key j hj).1 (hh j (List.mem_range.2 hj))
  · intro hh j hj
    exact (key j (List.mem_range.1 hj)).2 (hh j (List.mem_range.1 hj))
theorem atN_whole {sd n a q : Nat} {ss : List By} (hl : ss.length = n) {j : Nat} (hj : j < a) (X : Nat → By) : atN (ss ++ (List.range a).map X) (ruL sd n a q j) = atN ss (memL sd a q j n) ++ [X j] := by
  unfold ruL
  rw [atN_append]
  congr 1
  · unfold atN
    refine List.map_congr_left (fun i hi => ?_)
    have := memL_lt sd a q j n i hi
    simp [List.getD, List.getElem?_append_left (show i < ss.length by omega)]
  · simp [atN, List.getD, hl, hj]
theorem holds_whole {sd n a q m : Nat} (k1 : sd ≤ 72057594037927935) (hn : 1 ≤ n) (hn2 : n ≤ 96) (ha : 1 ≤ a) (ha2 : a ≤ 64) (hq : 1 ≤ q) (hq2 : q ≤ 8) {ss : List By} (hl : ss.length = n) (hm : 1 ≤ m) (hm2 : m ≤ 64) (h : ∀ s ∈ ss, s.length = m) :
    holdsB sd n a q (ss ++ auxL sd n a q ss a) = true := by
  refine (holdsB_iff k1 hn hn2 ha ha2 hq hq2 (by simp [auxL, hl]) hm hm2 (whole_all hl hn hm hm2 h)).2 (fun j hj => ?_)
  unfold auxL
  rw [atN_whole hl hj, sumL_app, aux_of hl hn hm hm2 h, xorL_self, sumL_len m _ (atN_all h (fun i hi => by rw [hl]; exact memL_lt sd a q j n i hi))]
/-! two wholes -/
theorem xorL_nil_zero : ∀ (a : By), xorL (List.replicate a.length 0) a = a
  | [] => rfl
  | x :: a => by
    rw [List.length_cons, List.replicate_succ]
    show (0 ^^^ x) :: xorL (List.replicate a.length 0) a = x :: a
    rw [xorL_nil_zero a, UInt8.zero_xor]
theorem xorL_assoc : ∀ (a b c : By), xorL (xorL a b) c = xorL a (xorL b c)
  | [], _, _ => by simp [xorL]
  | _ :: _, [], _ => by simp [xorL]
  | _ :: _, _ :: _, [] => by simp [xorL]
  | x :: a, y :: b, z :: c => by
    show ((x ^^^ y) ^^^ z) :: xorL (xorL a b) c = (x ^^^ (y ^^^ z)) :: xorL a (xorL b c)
    rw [xorL_assoc a b c, UInt8.xor_assoc]
theorem xorL_comm : ∀ (a b : By), xorL a b = xorL b a
  | [], b => by cases b <;> rfl
  | _ :: _, [] => rfl
  | x :: a, y :: b => by
    show (x ^^^ y) :: xorL a b = (y ^^^ x) :: xorL b a
    rw [xorL_comm a b, UInt8.xor_comm]
/-- sums of sums -/
theorem sumL_two (m : Nat) (x z : List By) : ∀ (ns : List Nat), sumL m (ns.map fun i => xorL (x.getD i []) (z.getD i [])) = xorL (sumL m (atN x ns)) (sumL m (atN z ns)) := by
  intro ns
  unfold sumL atN
  have : ∀ (ns : List Nat) (a b : By), (ns.map fun i => xorL (x.getD i []) (z.getD i [])).foldl xorL (xorL a b) = xorL ((ns.map fun i => x.getD i []).foldl xorL a) ((ns.map fun i => z.getD i []).foldl xorL b) := by
    intro ns
    induction ns with
    | nil => intro a b; rfl
    | cons i ns ih =>
      intro a b
      simp only [List.map_cons, List.foldl_cons]
      rw [← ih]
      congr 1
      rw [xorL_assoc, ← xorL_assoc b, xorL_comm b, xorL_assoc, ← xorL_assoc a]
  have h := this ns (List.replicate m 0) (List.replicate m 0)
  rw [← h]
  congr 1
  rw [xorL_self, List.length_replicate]
end Go.Proofs.YtkcnihngkmaecaaGreat
namespace Go.Proofs.YtkcnihngkmaecaaGreat
open Go.RowKit
set_option linter.unusedVariables false

theorem xorL_zero : ∀ (a b : By), a.length = b.length → xorL a b = List.replicate a.length 0 → a = b
  | [], [], _, _ => rfl
  | [], _ :: _, h, _ => by simp at h
  | _ :: _, [], h, _ => by simp at h
  | x :: a, y :: b, h, h2 => by
    rw [List.length_cons, List.replicate_succ] at h2
    have h3 : (x ^^^ y) :: xorL a b = 0 :: List.replicate a.length 0 := h2
    injection h3 with h4 h5
    rw [xorL_zero a b (by simpa using h) h5, UInt8.xor_eq_zero_iff.1 h4]
/-- the sums of two lists, place by place -/
def addLL (x z : List By) (k : Nat) : List By := (List.range k).map fun i => xorL (x.getD i []) (z.getD i [])
theorem addLL_succ (x z : List By) (k : Nat) : addLL x z (k + 1) = addLL x z k ++ [xorL (x.getD k []) (z.getD k [])] := by simp [addLL, List.range_succ]
theorem holds_sum {sd n a q m : Nat} (k1 : sd ≤ 72057594037927935) (hn : 1 ≤ n) (hn2 : n ≤ 96) (ha : 1 ≤ a) (ha2 : a ≤ 64) (hq : 1 ≤ q) (hq2 : q ≤ 8) {x z : List By} (hx : x.length = n + a) (hz : z.length = n + a) (hm : 1 ≤ m) (hm2 : m ≤ 64)
    (sx : ∀ s ∈ x, s.length = m) (sz : ∀ s ∈ z, s.length = m) (px : holdsB sd n a q x = true) (pz : holdsB sd n a q z = true) : holdsB sd n a q (addLL x z (n + a)) = true := by
  have hg : ∀ (x : List By), x.length = n + a → (∀ s ∈ x, s.length = m) → ∀ i, i < n + a → (x.getD i []).length = m := fun x hx sx i hi => sx _ (by simp [List.getD, show i < x.length by omega])
  have hy : ∀ s ∈ addLL x z (n + a), s.length = m := by
    intro s hs
    obtain ⟨i, hi, rfl⟩ := List.mem_map.1 hs
    have hi := List.mem_range.1 hi
    rw [xorL_length, hg x hx sx i hi, hg z hz sz i hi, Nat.min_self]
  refine (holdsB_iff k1 hn hn2 ha ha2 hq hq2 (by simp [addLL]) hm hm2 hy).2 (fun j hj => ?_)
  have e : atN (addLL x z (n + a)) (ruL sd n a q j) = (ruL sd n a q j).map fun i => xorL (x.getD i []) (z.getD i []) := by
    unfold atN
    refine List.map_congr_left (fun i hi => ?_)
    have := ruA_lt sd n a q j i (by unfold ruA; rw [if_pos hj]; exact hi)
    simp [addLL, List.getD, this]
  rw [e, sumL_two, (holdsB_iff k1 hn hn2 ha ha2 hq hq2 hx hm hm2 sx).1 px j hj, (holdsB_iff k1 hn hn2 ha ha2 hq hq2 hz hm hm2 sz).1 pz j hj, xorL_self, List.length_replicate]
theorem atN_last {sd n a q : Nat} {x : List By} {j : Nat} (t : By) (hx : x.length = n + a) (hj : j < a) : atN (x.set (n + j) t) (ruL sd n a q j) = atN x (memL sd a q j n) ++ [t] := by
  unfold ruL
  rw [atN_append]
  congr 1
  · unfold atN
    refine List.map_congr_left (fun i hi => ?_)
    have := memL_lt sd a q j n i hi
    simp [List.getD, List.getElem?_set_ne (show n + j ≠ i by omega)]
  · simp [atN, List.getD, show n + j < x.length by omega]
theorem holds_turned {sd n a q m : Nat} (k1 : sd ≤ 72057594037927935) (hn : 1 ≤ n) (hn2 : n ≤ 96) (ha : 1 ≤ a) (ha2 : a ≤ 64) (hq : 1 ≤ q) (hq2 : q ≤ 8) {x : List By} (hx : x.length = n + a) (hm : 1 ≤ m) (hm2 : m ≤ 64)
    (sx : ∀ s ∈ x, s.length = m) (px : holdsB sd n a q x = true) (t : By) (ht : t.length = m) (hne : t ≠ x.getD (n + a - 1) []) : holdsB sd n a q (x.set (n + a - 1) t) = false := by
  have hy : ∀ s ∈ x.set (n + a - 1) t, s.length = m := by
    intro s hs
    rcases List.mem_or_eq_of_mem_set hs with h | h
    · exact sx s h
    · rw [h]; exact ht
  rw [← Bool.not_eq_true]
  intro hh
  have h1 := (holdsB_iff k1 hn hn2 ha ha2 hq hq2 (by simp [hx]) hm hm2 hy).1 hh (a - 1) (by omega)
  have h2 := (holdsB_iff k1 hn hn2 ha ha2 hq hq2 hx hm hm2 sx).1 px (a - 1) (by omega)
  have hself : x = x.set (n + (a - 1)) (x.getD (n + (a - 1)) []) := by
    refine (List.ext_getElem (by simp) (fun i h1 h2 => ?_)).symm
    rw [List.getElem_set]
    split
    · rename_i e
      subst e
      simp [List.getD, h2]
    · rfl
  have hi : ∀ i ∈ memL sd a q (a - 1) n, i < x.length := fun i hi => by have := memL_lt sd a q (a - 1) n i hi; omega
  have hS := sumL_len m (atN x (memL sd a q (a - 1) n)) (atN_all sx hi)
  rw [show n + a - 1 = n + (a - 1) by omega] at h1 hne
  rw [atN_last t hx (by omega), sumL_app] at h1
  rw [hself, atN_last _ hx (by omega), sumL_app] at h2
  have hl : (x.getD (n + (a - 1)) []).length = m := sx _ (by simp [List.getD, show n + (a - 1) < x.length by omega])
  have e1 := xorL_zero _ t (by rw [hS, ht]) (by rw [hS]; exact h1)
  have e2 := xorL_zero _ (x.getD (n + (a - 1)) []) (by rw [hS, hl]) (by rw [hS]; exact h2)
  exact hne (e1.symm.trans e2)
end Go.Proofs.YtkcnihngkmaecaaGreat
namespace Go.Proofs.YtkcnihngkmaecaaGreat
open Go.RowKit
set_option linter.unusedVariables false

/-- few texts, none long -/
def fewO (ss : List By) : Bool := decide (ss.length ≤ 180 ∧ ∀ s ∈ ss, s.length ≤ 100)
set_option maxRecDepth 100000 in
set_option maxHeartbeats 1000000 in
theorem ofew_any (ss : List By) (a0 : Option Addr) (c : Nat) (w : World) (hT : Txts w a0 ss) (h2 : ss.length ≤ maxLen) (h3 : ∀ s ∈ ss, s.length ≤ maxLen) :
    Calls Tryz.prog 18 #[.slice a0 ss.length c] w fun e w' => e = .returned (.bool (fewO ss)) ∧ w = w' := by
  unfold maxLen at h2 h3
  by_cases h0 : ss.length ≤ 180
  · have HT := hide hT
    have H3 := hide h3
    have HE : Hid (fewO ss = decide (∀ s ∈ ss, s.length ≤ 100)) := by
      show _ = _
      unfold fewO
      simp [h0]
    generalize fewO ss = E at *
    generalize hn : ss.length = n at *
    have HN := hide hn
    have q1 : ¬ (180 : Int) < n := by omega
    clear hT h3 hn
    go_enter Tryz.func18, Tryz.ntmps18
    go_wp2_with fail
    go_loopw [3] (fun i wr => w = wr ∧ ∃ k : Nat, k ≤ n ∧ i = .int .i64 k ∧ ∀ s ∈ ss.take k, s.length ≤ 100) (fun i _ => n - (intOf i).toNat)
    case atStart => exact ⟨rfl, 0, Nat.zero_le _, rfl, by simp⟩
    case round =>
      obtain ⟨rfl, k, hk, rfl, ha⟩ := hrel
      by_cases hlt : k < n
      · have hlt' : k < ss.length := by rw [unhide HN]; exact hlt
        obtain ⟨g, o, rfl, hc0⟩ := unhide HT k hlt'
        have q2 : (k : Int) < n := by omega
        have hB := bs_size ss[k]
        have hB2 := unhide H3 ss[k] (List.getElem_mem hlt')
        by_cases hl' : ss[k].length ≤ 100
        · have HA : Hid (∀ s ∈ ss.take (k + 1), s.length ≤ 100) := by
            intro s hs
            rw [List.take_succ_eq_append_getElem hlt', List.mem_append] at hs
            rcases hs with hs | hs
            · exact ha s hs
            · simp at hs; rw [hs]; exact hl'
          have q3 : ¬ (100 : Int) < (bs ss[k]).size := by omega
          generalize bs ss[k] = B at *
          clear ha hB2 hB hl' hlt'
          go_wp2
          go_roundw
          case rel => exact ⟨trivial, k + 1, by omega, by go_num, unhide HA⟩
          case measure => simp [intOf]; omega
        · have he : E = false := by rw [unhide HE]; exact decide_eq_false (fun h => hl' (h _ (List.getElem_mem hlt')))
          subst he
          have q3 : (100 : Int) < (bs ss[k]).size := by omega
          generalize bs ss[k] = B at *
          clear ha hB2 hB hl' hlt'
          go_wp2
          go_ret
          exact ⟨rfl, rfl⟩
      · have hkl : k = n := by omega
        subst hkl
        rw [← unhide HN, List.take_length] at ha
        have he : E = true := by rw [unhide HE]; exact decide_eq_true ha
        subst he
        have q2 : ¬ (k : Int) < k := by omega
        clear ha
        go_wp2
        go_ret
        exact ⟨rfl, rfl⟩
  · have e : fewO ss = false := by unfold fewO; exact decide_eq_false (fun h => h0 h.1)
    rw [e]
    have q1 : (180 : Int) < ss.length := by omega
    clear e hT h3
    generalize ss.length = n at *
    go_enter Tryz.func18, Tryz.ntmps18
    go_wp2
    go_ret
    exact ⟨rfl, rfl⟩

end Go.Proofs.YtkcnihngkmaecaaGreat
namespace Go.Proofs.YtkcnihngkmaecaaGreat
open Go.RowKit
set_option linter.unusedVariables false
attribute [local go_sem] Oper.semAt_some

/-- the texts are blocks of one size -/
def szB (ss : List By) : Bool := decide (0 < ss.length) && ofS ss ((ss.getD 0 []).length : Int)
theorem szB_alike (ss : List By) (n : Nat) (hn : 1 ≤ n) (hl : ss.length = n) : szB ss = alike ss (n : Int) := by
  unfold szB alike
  rw [hl]
  simp
  omega
set_option maxRecDepth 100000 in
set_option maxHeartbeats 4000000 in
theorem dsized_any (ss : List By) (a0 : Option Addr) (c : Nat) (w : World) (hT : Txts w a0 ss) (h2 : ss.length ≤ 100000) (h3 : ∀ s ∈ ss, s.length ≤ 100000) :
    Calls Tryz.prog 38 #[.slice a0 ss.length c] w fun e w' => e = .returned (.bool (szB ss)) ∧ Below w.heap.size w w' := by
  obtain ⟨n, hn⟩ : ∃ n, n = ss.length := ⟨_, rfl⟩
  rw [← hn]
  have HN := hide hn
  have hnb : n ≤ 100000 := by omega
  have HT := hide hT
  have hm := hide rmay_any
  clear hn hT
  go_enter Tryz.func38, Tryz.ntmps38
  go_wp2_with fail
  go_loopw [3] (fun v wr => ∃ k p : Nat, k ≤ n ∧ v = .int .i64 k ∧ ofS (ss.take k) ((ss.getD 0 []).length : Int) = true ∧ w.drewN p = wr) (fun v _ => n - (intOf v).toNat)
  case atStart => exact ⟨0, 0, Nat.zero_le _, rfl, rfl, rfl⟩
  case round =>
    obtain ⟨k, p, hk, rfl, hok, rfl⟩ := hrel
    by_cases hlt : k < n
    · have hlt' : k < ss.length := by rw [← unhide HN]; exact hlt
      have hpos : 0 < ss.length := by omega
      have q1 : (k : Int) < (n : Int) := by omega
      have q0 : (0 : Int) < (n : Int) := by omega
      obtain ⟨g, o, rfl, c1⟩ := unhide HT k hlt'
      obtain ⟨g', o', he, c2⟩ := unhide HT 0 hpos
      simp only [Option.some.injEq, Addr.mk.injEq, and_true] at he
      obtain ⟨rfl, rfl⟩ := he
      rw [Nat.add_zero, show ss[0] = ss.getD 0 [] by simp [List.getD, hpos]] at c2
      have hs1 : (bs ss[k]).size = ss[k].length := bs_size _
      have hs2 : (bs (ss.getD 0 [])).size = (ss.getD 0 []).length := bs_size _
      have hl1 := h3 _ (List.getElem_mem hlt')
      have hl2 : (ss.getD 0 []).length ≤ 100000 := h3 _ (by simp [List.getD, hpos])
      have HOK : Hid (ofS (ss.take (k + 1)) ((ss.getD 0 []).length : Int) = (may ((ss.getD 0 []).length : Int) && decide (((ss[k]).length : Int) = ((ss.getD 0 []).length : Int)))) := by
        show _ = _
        unfold ofS at hok ⊢
        rw [List.take_succ_eq_append_getElem hlt', List.all_append, hok]
        simp
      have HB : Hid ((may ((ss.getD 0 []).length : Int) && decide (((ss[k]).length : Int) = ((ss.getD 0 []).length : Int))) = false → szB ss = false) := by
        intro h
        unfold szB ofS
        rw [Bool.and_eq_false_iff]
        right
        rw [List.all_eq_false]
        exact ⟨ss[k], List.getElem_mem hlt', by rw [h]; simp⟩
      have hmz : Hid (∀ z, Calls Tryz.prog 56 #[.int .i64 (ss[k].length : Int)] (w.drewN (p + z)) fun e w' => e = .returned (.bool (may (ss[k].length : Int))) ∧ ∃ n, w' = w.drewN (p + n)) := fun z => (unhide hm (ss[k].length : Int) (w.drewN (p + z))).mono (fun e w' h => ⟨h.1, z, h.2.symm⟩)
      generalize bs ss[k] = S1 at *
      generalize bs (ss.getD 0 []) = S2 at *
      generalize hL1 : ss[k].length = L1 at *
      generalize hL2 : (ss.getD 0 []).length = L2 at *
      clear hL1 hL2 hok hpos hlt'
      by_cases hmay : may (L1 : Int) = true
      · by_cases heq : L1 = L2
        · subst heq
          rw [hmay] at hmz HOK
          have HK : Hid (ofS (ss.take (k + 1)) (L1 : Int) = true) := (unhide HOK).trans (by simp)
          clear hmay HOK HB
          go_wp2
          go_big_quiet ((go_at_call 56; exact unhide hmz _))
          go_wp2
          go_roundw
          case rel => exact ⟨k + 1, p + nq, by omega, by go_num, unhide HK, rfl⟩
          case measure => simp [intOf]; omega
        · have HF : Hid (szB ss = false) := unhide HB (by rw [Bool.and_eq_false_iff]; right; rw [decide_eq_false_iff_not]; omega)
          rw [hmay] at hmz
          have q2 : ((L1 : Int) == (L2 : Int)) = false := by rw [beq_eq_false_iff_ne]; omega
          clear hmay HOK HB
          go_wp2
          go_big_quiet ((go_at_call 56; exact unhide hmz _))
          go_wp2
          go_ret
          exact ⟨by rw [unhide HF]; rfl, below_drawn (below_drawn (Below.refl _ _) _) _⟩
      · have hmay' : may (L1 : Int) = false := by simpa using hmay
        have HF : Hid (szB ss = false) := unhide HB (by
          by_cases heq : L1 = L2
          · subst heq; rw [hmay']; rfl
          · rw [Bool.and_eq_false_iff]; right; rw [decide_eq_false_iff_not]; omega)
        rw [hmay'] at hmz
        clear hmay hmay' HOK HB
        go_wp2
        go_big_quiet ((go_at_call 56; exact unhide hmz _))
        go_wp2
        go_ret
        exact ⟨by rw [unhide HF]; rfl, below_drawn (below_drawn (Below.refl _ _) _) _⟩
    · have hke : k = ss.length := by have := unhide HN; omega
      have q1 : ¬ (k : Int) < (n : Int) := by omega
      have HF : Hid (szB ss = decide (0 < n)) := by
        show _ = _
        rw [hke, List.take_length] at hok
        unfold szB
        rw [hok, ← unhide HN, Bool.and_true]
      clear hok hke
      go_wp2
      go_ret
      exact ⟨by rw [unhide HF]; rfl, below_drawn (Below.refl _ _) _⟩
set_option maxRecDepth 100000 in
set_option maxHeartbeats 4000000 in
theorem dsum_any (ss : List By) (m : Nat) (hm1 : 1 ≤ m) (hm : m ≤ 64) (hall : ∀ s ∈ ss, s.length = m) (a0 : Option Addr) (c : Nat) (ns : List Nat) (b0 : Option Addr) (d : Nat) (w : World) (hT : Txts w a0 ss) (hN : NumsAt w b0 ns) (h2 : ss.length ≤ 100000) (h4 : ns.length ≤ 10000) (h5 : ∀ i ∈ ns, i < ss.length) :
    Calls Tryz.prog 39 #[.slice a0 ss.length c, .slice b0 ns.length d, .int .i64 m] w fun e w' => e = .returned (.string (bs (sumL m (atN ss ns)))) ∧ Below w.heap.size w w' := by
  have hz0 : zeroL (m : Int) = List.replicate m 0 := by
    unfold zeroL
    rw [if_pos (may_iff.2 ⟨by omega, by omega⟩)]
    simp
  have hze := hide (fun w => rzero_any (m : Int) w)
  rw [hz0] at hze
  have hx := hide (fun a b w ha hb => rxor_any a b w ha hb)
  obtain ⟨l, hl⟩ : ∃ l, l = ss.length := ⟨_, rfl⟩
  obtain ⟨t, ht⟩ : ∃ t, t = ns.length := ⟨_, rfl⟩
  have HL := hide hl
  have HTT := hide ht
  have HT := hide hT
  have HN := hide hN
  have HA := hide hall
  have hlb : l ≤ 100000 := by omega
  have htb : t ≤ 10000 := by omega
  rw [← hl, ← ht]
  clear hl ht hT hN hz0 hall
  go_enter Tryz.func39, Tryz.ntmps39
  go_wp2_with fail
  refine (unhide hze _).mono ?_
  rintro e w1 ⟨rfl, b1⟩
  have HB1 := hide b1
  clear b1
  go_wp2_with fail
  go_loopw [7, 8, 9, 10] (fun v iv _ _ wr => ∃ (k : Nat) (x : By), k ≤ t ∧ iv = .int .i64 k ∧ v = .string (bs x) ∧ x = sumL m (atN ss (ns.take k)) ∧ x.length = m ∧ Below w.heap.size w wr) (fun _ iv _ _ _ => t - (intOf iv).toNat)
  case atStart => exact ⟨0, List.replicate m 0, Nat.zero_le _, rfl, rfl, rfl, by simp, unhide HB1⟩
  case round =>
    obtain ⟨k, x, hk, rfl, rfl, hxe, hxl, hB⟩ := hrel
    have HB := hide hB
    clear hB
    by_cases hlt : k < t
    · have hlt' : k < ns.length := by rw [← unhide HTT]; exact hlt
      have q1 : (k : Int) < (t : Int) := by omega
      obtain ⟨g, o, rfl, c1⟩ := unhide HN k hlt'
      have c1 := cell_below c1 (unhide HB)
      have hn5 := h5 ns[k] (List.getElem_mem hlt')
      obtain ⟨g2, o2, rfl, c2⟩ := unhide HT ns[k] hn5
      have c2 := cell_below c2 (unhide HB)
      have q2 : (ns[k] : Int) < (l : Int) := by have := unhide HL; omega
      have hyl := unhide HA _ (List.getElem_mem hn5)
      have HX : Hid (xorL x ss[ns[k]] = sumL m (atN ss (ns.take (k + 1)))) := by
        show _ = _
        rw [List.take_succ_eq_append_getElem hlt', atN_append, hxe]
        rw [show atN ss [ns[k]] = [ss[ns[k]]] by simp [atN, List.getD, hn5], sumL_app]
      have hxr : xorR x ss[ns[k]] = xorL x ss[ns[k]] := by unfold xorR; rw [if_pos (by omega)]
      have hx1 := hide (unhide hx x ss[ns[k]] wr (by omega) (by omega))
      rw [hxr] at hx1
      have HXL : Hid ((xorL x ss[ns[k]]).length = m) := by show _ = _; rw [xorL_len _ _ (by omega)]; exact hxl
      generalize ns[k] = I at *
      generalize xorE x ss[I] = XE at *
      generalize xorL x ss[I] = y at *
      generalize bs ss[I] = S at *
      have hI0 : (0 : Int) ≤ (I : Int) := by omega
      generalize hbx : bs x = X at *
      generalize hby : bs y = Y at *
      have HY := hide hby
      clear hxe hxr hyl hbx hby hxl
      go_wp2_with fail
      refine (unhide hx1).mono ?_
      rintro e w2 ⟨rfl, b2⟩
      have HB2 := hide ((unhide HB).trans (b2.mono (unhide HB).size))
      clear b2
      go_wp2
      go_roundw
      case rel => exact ⟨k + 1, y, by omega, by go_num, by rw [unhide HY], unhide HX, unhide HXL, unhide HB2⟩
      case measure => simp [intOf]; omega
    · have hke : k = ns.length := by have := unhide HTT; omega
      have q1 : ¬ (k : Int) < (t : Int) := by omega
      have HF : Hid (x = sumL m (atN ss ns)) := by show _ = _; rw [hxe, hke, List.take_length]
      clear hxe hke
      generalize hbx : bs x = X at *
      have HX := hide hbx
      clear hbx
      go_wp2
      go_ret
      exact ⟨by rw [← unhide HF, unhide HX]; rfl, unhide HB⟩
end Go.Proofs.YtkcnihngkmaecaaGreat
namespace Go.Proofs.YtkcnihngkmaecaaGreat
open Go.RowKit
set_option linter.unusedVariables false
attribute [local go_sem] Oper.semAt_some

theorem cmp_bs (x y : By) : ((bs x).toList == (bs y).toList) = decide (x = y) := by
  rw [ByteArray.toList_eq, ByteArray.toList_eq, bs_list, bs_list]
  by_cases h : x = y
  · rw [decide_eq_true h, h]; simp
  · rw [decide_eq_false h]; simpa using h
/-- blocks of one size, told -/
theorem ofS_facts {ss : List By} (hp : 0 < ss.length) (h : ofS ss ((ss.getD 0 []).length : Int) = true) : ∃ m : Nat, (ss.getD 0 []).length = m ∧ 1 ≤ m ∧ m ≤ 64 ∧ ∀ s ∈ ss, s.length = m := by
  unfold ofS at h
  rw [List.all_eq_true] at h
  have h0 := h (ss.getD 0 []) (by simp [List.getD, hp])
  rw [Bool.and_eq_true, may_iff] at h0
  refine ⟨(ss.getD 0 []).length, rfl, by omega, by omega, fun s hs => ?_⟩
  have h1 := h s hs
  rw [Bool.and_eq_true, decide_eq_true_iff] at h1
  omega
set_option maxRecDepth 100000 in
set_option maxHeartbeats 1000000 in
theorem dHolds_no (sd n a q : Int) (hP : plOk sd n a q = false) (a0 : Option Addr) (l c : Nat) (w : World) :
    Calls Tryz.prog 23 #[plV sd n a q, .slice a0 l c] w fun e w' => e = .returned (.bool false) ∧ Below w.heap.size w w' := by
  have hck := hide (fun w => dcheck_any sd n a q w)
  rw [hP] at hck
  have hb0 : Below w.heap.size w (w.alloc (.cells #[.int .i64 sd, .int .i64 n, .int .i64 a, .int .i64 q] 24)) := (Below.refl _ w).alloc (Nat.le_refl _) _
  obtain ⟨c0, c1, c2, c3⟩ := plan_cellsD w sd n a q _ (Below.refl _ _)
  have B0 := hide hb0
  unfold plV at *
  clear hb0 hP
  go_enter Tryz.func23, Tryz.ntmps23
  go_wp2_with fail
  refine (unhide hck _).mono ?_
  rintro e w1 ⟨rfl, b1⟩
  have B1 := hide ((unhide B0).trans (b1.mono (unhide B0).size))
  clear b1 c0 c1 c2 c3
  go_wp2
  go_ret
  exact ⟨rfl, unhide B1⟩
set_option maxRecDepth 100000 in
set_option maxHeartbeats 1000000 in
theorem dHolds_len (sd n a q : Nat) (hP : plOk sd n a q = true) (a0 : Option Addr) (l c : Nat) (hl : l ≠ n + a) (w : World) :
    Calls Tryz.prog 23 #[plV sd n a q, .slice a0 l c] w fun e w' => e = .returned (.bool false) ∧ Below w.heap.size w w' := by
  have hck := hide (fun w => dcheck_any sd n a q w)
  have hbn : n ≤ 96 ∧ a ≤ 64 := by unfold plOk at hP; simp at hP; omega
  rw [hP] at hck
  have hb0 : Below w.heap.size w (w.alloc (.cells #[.int .i64 (sd : Int), .int .i64 (n : Int), .int .i64 (a : Int), .int .i64 (q : Int)] 24)) := (Below.refl _ w).alloc (Nat.le_refl _) _
  have hpd := hide (plan_cellsD w sd n a q)
  obtain ⟨c0, c1, c2, c3⟩ := unhide hpd _ (Below.refl _ _)
  have B0 := hide hb0
  have q1 : ((l : Int) == (n : Int) + (a : Int)) = false := by rw [beq_eq_false_iff_ne]; omega
  unfold plV at *
  clear hb0 hP
  go_enter Tryz.func23, Tryz.ntmps23
  go_wp2_with fail
  generalize hW0 : w.alloc (.cells #[.int .i64 (sd : Int), .int .i64 (n : Int), .int .i64 (a : Int), .int .i64 (q : Int)] 24) = W0 at *
  have HW0 := hide hW0
  clear hW0
  refine (unhide hck W0).mono ?_
  rintro e w1 ⟨rfl, b1⟩
  have B1 := hide ((unhide B0).trans (b1.mono (unhide B0).size))
  clear c0 c1 c2 c3
  obtain ⟨c0, c1, c2, c3⟩ := unhide hpd w1 b1
  clear b1
  go_wp2
  go_ret
  exact ⟨rfl, unhide B1⟩
set_option maxRecDepth 100000 in
set_option maxHeartbeats 1000000 in
theorem dHolds_siz (sd n a q : Nat) (hP : plOk sd n a q = true) (ss : List By) (a0 : Option Addr) (c : Nat) (hl : ss.length = n + a) (hs : szB ss = false) (w : World) (hT : Txts w a0 ss) (h3 : ∀ s ∈ ss, s.length ≤ 100000) :
    Calls Tryz.prog 23 #[plV sd n a q, .slice a0 ss.length c] w fun e w' => e = .returned (.bool false) ∧ Below w.heap.size w w' := by
  have hck := hide (fun w => dcheck_any sd n a q w)
  have hbn : n ≤ 96 ∧ a ≤ 64 := by unfold plOk at hP; simp at hP; omega
  have hsz := hide (fun w hT => dsized_any ss a0 c w hT (by omega) h3)
  rw [hP] at hck
  rw [hs] at hsz
  have HT := hide hT
  have hb0 : Below w.heap.size w (w.alloc (.cells #[.int .i64 (sd : Int), .int .i64 (n : Int), .int .i64 (a : Int), .int .i64 (q : Int)] 24)) := (Below.refl _ w).alloc (Nat.le_refl _) _
  have hpd := hide (plan_cellsD w sd n a q)
  obtain ⟨c0, c1, c2, c3⟩ := unhide hpd _ (Below.refl _ _)
  have B0 := hide hb0
  generalize hll : ss.length = l at *
  have q1 : ((l : Int) != (n : Int) + (a : Int)) = false := by rw [bne_eq_false_iff_eq]; omega
  unfold plV at *
  clear hb0 hP hs hT hll hl
  go_enter Tryz.func23, Tryz.ntmps23
  go_wp2_with fail
  generalize hW0 : w.alloc (.cells #[.int .i64 (sd : Int), .int .i64 (n : Int), .int .i64 (a : Int), .int .i64 (q : Int)] 24) = W0 at *
  have HW0 := hide hW0
  clear hW0
  refine (unhide hck W0).mono ?_
  rintro e w1 ⟨rfl, b1⟩
  have B1 := hide ((unhide B0).trans (b1.mono (unhide B0).size))
  clear c0 c1 c2 c3
  obtain ⟨c0, c1, c2, c3⟩ := unhide hpd w1 b1
  have hs1 := hide (unhide hsz w1 ((unhide HT).below (unhide B1)))
  clear b1
  go_wp2_with fail
  refine (unhide hs1).mono ?_
  rintro e w2 ⟨rfl, b2⟩
  have B2 := hide ((unhide B1).trans (b2.mono (unhide B1).size))
  clear b2 c0 c1 c2 c3
  go_wp2
  go_ret
  exact ⟨rfl, unhide B2⟩
set_option maxRecDepth 100000 in
set_option maxHeartbeats 1500000 in
theorem dHolds_yes (sd n a q : Nat) (hsd : sd ≤ 72057594037927935) (hn1 : 1 ≤ n) (hn : n ≤ 96) (ha1 : 1 ≤ a) (ha : a ≤ 64) (hq1 : 1 ≤ q) (hq : q ≤ 8) (ss : List By) (a0 : Option Addr) (c : Nat) (hl : ss.length = n + a) (hs : szB ss = true) (w : World) (hT : Txts w a0 ss) :
    Calls Tryz.prog 23 #[plV sd n a q, .slice a0 ss.length c] w fun e w' => e = .returned (.bool (holdsB sd n a q ss)) ∧ Below w.heap.size w w' := by
  have hP : plOk sd n a q = true := by unfold plOk; simp; omega
  have hpos : 0 < ss.length := by omega
  obtain ⟨m, hm0, hm1, hm2, hall⟩ := ofS_facts hpos (by unfold szB at hs; rw [Bool.and_eq_true] at hs; exact hs.2)
  have hiff := hide (holdsB_iff (sd := sd) (q := q) hsd hn1 hn ha1 ha hq1 hq hl hm1 hm2 hall)
  have hck := hide (fun w => dcheck_any sd n a q w)
  have hsz := hide (fun w hT => dsized_any ss a0 c w hT (by omega) (fun s hs => by rw [hall s hs]; omega))
  have hru := hide (fun w => drules_any sd n a q hsd hn ha1 ha hq1 hq w)
  have hsm := hide (fun j b d w hT hN h => dsum_any ss m hm1 hm2 hall a0 c (ruL sd n a q j) b d w hT hN (by omega) (by
    have := memL_len sd a q j n
    unfold ruL
    simp
    omega) h)
  have hidx : Hid (∀ j, j < a → ∀ i ∈ ruL sd n a q j, i < ss.length) := fun j hj i hi => by
    have := ruA_lt sd n a q j i (by unfold ruA; rw [if_pos hj]; exact hi)
    omega
  have hz0 : zeroL (m : Int) = List.replicate m 0 := by
    unfold zeroL
    rw [if_pos (may_iff.2 ⟨by omega, by omega⟩)]
    simp
  have hze := hide (fun w => rzero_any (m : Int) w)
  rw [hz0] at hze
  rw [hP] at hck
  rw [hs] at hsz
  obtain ⟨g0, o0, rfl, cz⟩ := hT 0 hpos
  rw [Nat.add_zero, show ss[0] = ss.getD 0 [] by simp [List.getD, hpos]] at cz
  have hsz0 : (bs (ss.getD 0 [])).size = m := (bs_size _).trans hm0
  generalize bs (ss.getD 0 []) = S0 at *
  have CZ := hide cz
  have HT := hide hT
  have hb0 : Below w.heap.size w (w.alloc (.cells #[.int .i64 (sd : Int), .int .i64 (n : Int), .int .i64 (a : Int), .int .i64 (q : Int)] 24)) := (Below.refl _ w).alloc (Nat.le_refl _) _
  have hpd := hide (plan_cellsD w sd n a q)
  obtain ⟨c0, c1, c2, c3⟩ := unhide hpd _ (Below.refl _ _)
  have B0 := hide hb0
  generalize hll : ss.length = l at *
  have q1 : ((l : Int) != (n : Int) + (a : Int)) = false := by rw [bne_eq_false_iff_eq]; omega
  have q0 : (0 : Int) < (l : Int) := by omega
  unfold plV at *
  clear hb0 hP hs hT hll hz0 hm0 hall cz hl
  go_enter Tryz.func23, Tryz.ntmps23
  go_wp2_with fail
  generalize hW0 : w.alloc (.cells #[.int .i64 (sd : Int), .int .i64 (n : Int), .int .i64 (a : Int), .int .i64 (q : Int)] 24) = W0 at *
  have HW0 := hide hW0
  clear hW0
  refine (unhide hck W0).mono ?_
  rintro e w1 ⟨rfl, b1⟩
  have B1 := hide ((unhide B0).trans (b1.mono (unhide B0).size))
  have E1 := hide b1
  clear c0 c1 c2 c3
  obtain ⟨c0, c1, c2, c3⟩ := unhide hpd w1 b1
  have hs1 := hide (unhide hsz w1 ((unhide HT).below (unhide B1)))
  clear b1
  go_wp2_with fail
  refine (unhide hs1).mono ?_
  rintro e w2 ⟨rfl, b2⟩
  have B2 := hide ((unhide B1).trans (b2.mono (unhide B1).size))
  have E2 := hide ((unhide E1).trans (b2.mono (unhide E1).size))
  clear b2 c0 c1 c2 c3
  obtain ⟨c0, c1, c2, c3⟩ := unhide hpd w2 (unhide E2)
  go_wp2_with fail
  refine (unhide hru w2).mono ?_
  rintro e w3 ⟨⟨v3, rfl, Vs, hO, hR⟩, b3⟩
  obtain ⟨rb, rc, rfl, hTab⟩ := tab_own hO hR
  have HTab := hide hTab
  have B3 := hide ((unhide B2).trans (b3.mono (unhide B2).size))
  clear b3 c0 c1 c2 c3 hO hR hTab
  go_wp2_with fail
  go_loopw [6] (fun v wr => ∃ k : Nat, k ≤ a ∧ v = .int .i64 k ∧ (∀ j, j < k → sumL m (atN ss (ruL sd n a q j)) = List.replicate m 0) ∧ Below w3.heap.size w3 wr) (fun v _ => a - (intOf v).toNat)
  case atStart => exact ⟨0, Nat.zero_le _, rfl, fun j hj => absurd hj (by omega), Below.refl _ _⟩
  case round =>
    obtain ⟨k, hk, rfl, hH, hB⟩ := hrel
    have HB := hide hB
    have HH := hide hH
    have BW := hide ((unhide B3).trans (hB.mono (unhide B3).size))
    clear hB hH
    by_cases hlt : k < a
    · have q2 : (k : Int) < (a : Int) := by omega
      obtain ⟨g, o, rfl, b, cc, c4, hN⟩ := (unhide HTab).below (unhide HB) k hlt
      have hs4 : Hid (∀ X : Gb wr, Calls Tryz.prog 39 #[.slice (some ⟨g0, o0, none⟩) l c, .slice b (ruL sd n a q k).length cc, .int .i64 m] X.w fun e w' => e = .returned (.string (bs (sumL m (atN ss (ruL sd n a q k))))) ∧ Below X.w.heap.size X.w w') := fun X => unhide hsm k b cc X.w (((unhide HT).below (unhide BW)).below X.ok) (hN.below X.ok) (unhide hidx k hlt)
      have hne := gb_ne wr
      have d1 : ∀ x : Gb wr, x.w.cell? ⟨g, o + k, none⟩ = some (.slice b (ruL sd n a q k).length cc) := fun x => gb_cell c4 x
      have d2 : ∀ x : Gb wr, x.w.cell? ⟨g0, o0, none⟩ = some (.string S0) := fun x => gb_cell (cell_below (unhide CZ) (unhide BW)) x
      have hcmp := cmp_bs (sumL m (atN ss (ruL sd n a q k))) (List.replicate m 0)
      generalize (ruL sd n a q k).length = rl at *
      clear hN c4
      by_cases he : sumL m (atN ss (ruL sd n a q k)) = List.replicate m 0
      · rw [decide_eq_true he] at hcmp
        have HK : Hid (∀ j, j < k + 1 → sumL m (atN ss (ruL sd n a q j)) = List.replicate m 0) := fun j hj => by
          by_cases h : j < k
          · exact unhide HH j h
          · obtain rfl : j = k := by omega
            exact he
        generalize bs (sumL m (atN ss (ruL sd n a q k))) = S1 at *
        generalize bs (List.replicate m 0) = S2 at *
        clear he
        go_wp2_with fail
        refine wp_region_gr (fun x => Below wr.heap.size wr x) (by kernel_rfl) (by kernel_rfl) (gb_start wr) ?_
        repeat (go_big_quiet_step ((first | (go_at_call 39; exact gb_call (unhide hs4 _)) | (go_at_call 41; exact gb_call (unhide hze _)))))
        refine wpQuiet_nil ?_
        rintro w7 ⟨⟨_, b7⟩, rfl⟩
        have B7 := hide ((unhide HB).trans (b7.mono (unhide HB).size))
        clear b7 d1 d2 hne
        go_wp2
        go_roundw
        case rel => exact ⟨k + 1, by omega, by go_num, unhide HK, unhide B7⟩
        case measure => simp [intOf]; omega
      · rw [decide_eq_false he] at hcmp
        have HF : Hid (holdsB sd n a q ss = false) := by
          show _ = _
          rw [← Bool.not_eq_true]
          intro h
          exact he ((unhide hiff).1 h k hlt)
        generalize bs (sumL m (atN ss (ruL sd n a q k))) = S1 at *
        generalize bs (List.replicate m 0) = S2 at *
        clear he
        go_wp2_with fail
        refine wp_region_gr (fun x => Below wr.heap.size wr x) (by kernel_rfl) (by kernel_rfl) (gb_start wr) ?_
        repeat (go_big_quiet_step ((first | (go_at_call 39; exact gb_call (unhide hs4 _)) | (go_at_call 41; exact gb_call (unhide hze _)))))
        refine wpQuiet_nil ?_
        rintro w7 ⟨⟨_, b7⟩, rfl⟩
        have B7 := hide ((unhide BW).trans (b7.mono (unhide BW).size))
        clear b7 d1 d2 hne
        go_wp2
        go_ret
        exact ⟨by rw [unhide HF]; rfl, unhide B7⟩
    · have hke : k = a := by omega
      subst hke
      have q2 : ¬ (k : Int) < (k : Int) := by omega
      have HF : Hid (holdsB sd n k q ss = true) := (unhide hiff).2 (unhide HH)
      go_wp2
      go_ret
      exact ⟨by rw [unhide HF]; rfl, unhide BW⟩
theorem dHolds_any (sd n a q : Int) (ss : List By) (a0 : Option Addr) (c : Nat) (w : World) (hT : Txts w a0 ss) (h2 : ss.length ≤ 100000) (h3 : ∀ s ∈ ss, s.length ≤ 100000) :
    Calls Tryz.prog 23 #[plV sd n a q, .slice a0 ss.length c] w fun e w' => e = .returned (.bool (holdsB sd n a q ss)) ∧ Below w.heap.size w w' := by
  cases hP : plOk sd n a q with
  | false =>
    have : holdsB sd n a q ss = false := by unfold holdsB; rw [hP]; rfl
    rw [this]
    exact dHolds_no sd n a q hP a0 _ c w
  | true =>
    obtain ⟨sd', n', a', q', rfl, rfl, rfl, rfl, k1, ⟨k2, k3⟩, ⟨k4, k5⟩, k6, k7⟩ := plOk_facts hP
    by_cases hl : ss.length = n' + a'
    · cases hs : szB ss with
      | true => exact dHolds_yes sd' n' a' q' k1 k2 k3 k4 k5 k6 k7 ss a0 c hl hs w hT
      | false =>
        have h := szB_alike ss (n' + a') (by omega) hl
        rw [hs] at h
        have : holdsB (sd' : Int) n' a' q' ss = false := by
          unfold holdsB
          rw [show ((n' : Int) + (a' : Int)) = ((n' + a' : Nat) : Int) by omega, ← h]
          simp
        rw [this]
        exact dHolds_siz sd' n' a' q' hP ss a0 c hl hs w hT h3
    · have : holdsB (sd' : Int) n' a' q' ss = false := by
        unfold holdsB alike
        rw [decide_eq_false (by omega)]
        simp
      rw [this]
      exact dHolds_len sd' n' a' q' hP a0 _ c hl w
end Go.Proofs.YtkcnihngkmaecaaGreat

/- Contracts of runs.Gaps, part and Text. -/
import Derived.Test.YtbodklppgcloiaaDoorRoR
import Derived.Test.YtbodklppgcloiaaDoorShelf
namespace Go.Proofs.YtbodklppgcloiaaDoor
open Go.RowKit Go.Shelf
set_option linter.unusedVariables false
attribute [local go_sem] Oper.semAt_some

/-- what a set has not -/
def restL (n : Int) (s : By) : By := bothR (fun a b => a &&& ~~~ b) (fullL n) s
theorem fullL_len (n : Nat) (h : n ≤ 160) : (fullL n).length = wid n := by
  unfold fullL
  rw [if_pos (by omega), makeP_length, Int.toNat_natCast]
def gapE (n : Int) (s : By) : Int := if chkI n s = true then ofsE n (restL n s) else 3
def gapR (n : Int) (s : By) : List (Nat × Nat) := if chkI n s = true then ofsR n (restL n s) else []
theorem gaps_any (n : Int) (s : By) (w : World) (hs : s.length ≤ maxLen) : Calls Tryd.prog 12 #[.int .i64 n, .string (bs s)] w fun e w' => ∃ v, e = .returned (.tuple #[v, .int .i64 (gapE n s)]) ∧ OwnP w' w.heap.size v (gapR n s) ∧ Below w.heap.size w w' := by
  have hc := hide (fun w => check_any n s w hs)
  unfold gapE gapR
  cases hC : chkI n s with
  | false =>
    rw [hC] at hc
    rw [if_neg (by simp), if_neg (by simp)]
    generalize bs s = S at *
    clear hC
    go_enter Tryd.func12, Tryd.ntmps12
    go_wp2_with fail
    refine (unhide hc _).mono ?_
    rintro e w1 ⟨rfl, b1⟩
    have B1 := hide b1
    clear b1
    go_wp2
    go_ret2
    exact ⟨_, rfl, World.ownsRow_nil _ _ _ _, unhide B1⟩
  | true =>
    rw [hC] at hc
    rw [if_pos rfl, if_pos rfl]
    obtain ⟨m, rfl, hch, hm, hl, hl20⟩ := chkI_facts hC
    have hf := hide (full_any m)
    have hfl := fullL_len m hm
    have hrl : (restL m s).length ≤ 20 := by
      unfold restL bothR
      split
      · rw [List.length_zipWith]; omega
      · simp
    have hmi := hide (fun w => minus_any (fullL m) s w (by omega) (by omega))
    have hof := hide (fun w => rof_any m (restL m s) w (by unfold maxLen; omega))
    change Hid (∀ w, Calls Tryd.prog _ _ w fun e w' => e = .returned (.tuple #[.string (bs (restL m s)), _]) ∧ _) at hmi
    generalize bs s = S at *
    generalize bs (restL m s) = R at *
    generalize bs (fullL m) = FL at *
    generalize ofsE m (restL m s) = oE at *
    generalize ofsR m (restL m s) = oR at *
    generalize bothE (fullL m) s = bE at *
    clear hC hch hl hrl hfl
    go_enter Tryd.func12, Tryd.ntmps12
    go_wp2_with fail
    refine (unhide hc _).mono ?_
    rintro e w1 ⟨rfl, b1⟩
    have B1 := hide b1
    clear b1
    go_wp2_with fail
    refine (unhide hf _).mono ?_
    rintro e w2 ⟨rfl, b2⟩
    have B2 := hide ((unhide B1).trans (b2.mono (unhide B1).size))
    clear b2 B1
    go_wp2_with fail
    refine (unhide hmi _).mono ?_
    rintro e w3 ⟨rfl, b3⟩
    have B3 := hide ((unhide B2).trans (b3.mono (unhide B2).size))
    clear b3 B2
    go_wp2_with fail
    refine (unhide hof _).mono ?_
    rintro e w4 ⟨v, rfl, ho, b4⟩
    have B4 := hide ((unhide B3).trans (b4.mono (unhide B3).size))
    have HO : Hid (OwnP w4 w.heap.size v oR) := own_mono' ho (unhide B3).size
    clear ho b4 B3
    go_wp2
    go_ret2
    exact ⟨_, rfl, unhide HO, unhide B4⟩

/-- numbers below N are written in decimal, from a world on -/
def ItoaOk (w : World) (N : Nat) : Prop := ∀ k : Nat, k < N → ∀ w', Below w.heap.size w w' → Calls Tryd.prog 73 #[.int .i64 k] w' fun e w'' => e = .returned (.string (bs (Lib.decDigits k))) ∧ Below w'.heap.size w' w''
theorem itoaOk_small (w : World) : ItoaOk w 100 := fun k hk w' _ => (Tryd.strconv_Itoa_small k hk w').mono fun e w'' h => ⟨h.1, by rw [h.2]; exact Below.refl _ _⟩
theorem ItoaOk.below {w w1 : World} {N : Nat} (h : ItoaOk w N) (b : Below w.heap.size w w1) : ItoaOk w1 N := fun k hk w' hb => h k hk w' (b.trans (hb.mono b.size))
theorem decDigits_le (k : Nat) (h : k < 1000) : (Lib.decDigits k).length ≤ 3 := by
  rw [Lib.decDigits_length]
  by_cases h1 : k < 10
  · rw [Lib.nDigits_small h1]; omega
  · rw [Lib.nDigits_big h1]
    by_cases h2 : k / 10 < 10
    · rw [Lib.nDigits_small h2]; omega
    · rw [Lib.nDigits_big h2, Lib.nDigits_small (by omega)]; omega
/-- a run's text -/
def partL (x : Nat × Nat) : By := if x.1 + 1 = x.2 then Lib.decDigits x.1 else Lib.decDigits x.1 ++ 45 :: Lib.decDigits (x.2 - 1)
set_option maxRecDepth 100000 in
theorem part_any (N : Nat) (x : Nat × Nat) (h0 : x.1 < x.2) (h1 : x.2 ≤ N) (hN : N ≤ 1000) (w : World) (hI : ItoaOk w N) : Calls Tryd.prog 46 #[spV x] w fun e w' => e = .returned (.string (bs (partL x))) ∧ Below w.heap.size w w' := by
  obtain ⟨a, b⟩ := x
  simp only at h0 h1
  obtain ⟨c, rfl⟩ : ∃ c, b = c + 1 := ⟨b - 1, by omega⟩
  have hA := hide (fun w' hb => hI a (by omega) w' hb)
  have hB := hide (fun w' hb => hI c (by omega) w' hb)
  unfold partL spV
  simp only [Nat.add_sub_cancel]
  rw [show ((c + 1 : Nat) : Int) = (c : Int) + 1 from by omega]
  have q0 : (c : Int) < 100000 := by omega
  by_cases h : a + 1 = c + 1
  · rw [if_pos h]
    have : a = c := by omega
    subst this
    generalize bs (Lib.decDigits a) = DA at *
    clear h
    go_enter Tryd.func46, Tryd.ntmps46
    go_wp2_with fail
    have hbk := heap_alloc_new w (.cells #[.int .i64 (a : Int), .int .i64 ((a : Int) + 1)] 50)
    have hbw : Below w.heap.size w (w.alloc (.cells #[.int .i64 (a : Int), .int .i64 ((a : Int) + 1)] 50)) := (Below.refl _ w).alloc (Nat.le_refl _) _
    generalize w.alloc (.cells #[.int .i64 (a : Int), .int .i64 ((a : Int) + 1)] 50) = W at *
    have c0 : W.cell? ⟨w.heap.size, 0, none⟩ = some (.int .i64 (a : Int)) := by rw [cell_of_row _ _ 0 _ _ (0, 0) hbk]; rfl
    have c1 : W.cell? ⟨w.heap.size, 1, none⟩ = some (.int .i64 ((a : Int) + 1)) := by rw [cell_of_row _ _ 1 _ _ (0, 0) hbk]; rfl
    have hne := gb_ne W
    have hcX : ∀ y : Gb W, y.w.cell? ⟨w.heap.size, 0, none⟩ = some (.int .i64 (a : Int)) := fun y => gb_cell c0 y
    have hcY : ∀ y : Gb W, y.w.cell? ⟨w.heap.size, 1, none⟩ = some (.int .i64 ((a : Int) + 1)) := fun y => gb_cell c1 y
    refine wp_region_gr (fun x => Below W.heap.size W x) (by kernel_rfl) (by kernel_rfl) (gb_start W) ?_
    repeat (go_big_quiet_step ((fail)))
    refine wpQuiet_nil ?_
    rintro w7 ⟨⟨_, b7⟩, rfl⟩
    have B7 := hide (hbw.trans (b7.mono hbw.size))
    clear b7 hne hcX hcY c0 c1 hbk hbw
    go_wp2_with fail
    refine (unhide hA _ (unhide B7)).mono ?_
    rintro e w1 ⟨rfl, b1⟩
    have B1 := hide ((unhide B7).trans (b1.mono (unhide B7).size))
    clear b1
    go_wp2
    go_ret
    exact ⟨rfl, unhide B1⟩
  · rw [if_neg h]
    have hne0 : ((a : Int) == (c : Int)) = false := by simp; omega
    have hne' : (a : Int) ≠ (c : Int) := by omega
    rw [show bs (Lib.decDigits a ++ 45 :: Lib.decDigits c) = bs (Lib.decDigits a) ++ ⟨#[45]⟩ ++ bs (Lib.decDigits c) from by rw [show (⟨#[45]⟩ : ByteArray) = bs [45] from rfl, bs_append, bs_append]; simp]
    have z1 : (bs (Lib.decDigits a)).size ≤ 3 := by rw [bs_size]; exact decDigits_le a (by omega)
    have z2 : (bs (Lib.decDigits c)).size ≤ 3 := by rw [bs_size]; exact decDigits_le c (by omega)
    have z3 : (bs (Lib.decDigits a) ++ ⟨#[45]⟩).size ≤ 4 := by rw [show (⟨#[45]⟩ : ByteArray) = bs [45] from rfl, bs_append, bs_size]; have := decDigits_le a (by omega); simp; omega
    generalize bs (Lib.decDigits a) = DA at *
    generalize bs (Lib.decDigits c) = DC at *
    clear h
    go_enter Tryd.func46, Tryd.ntmps46
    go_wp2_with fail
    have hbk := heap_alloc_new w (.cells #[.int .i64 (a : Int), .int .i64 ((c : Int) + 1)] 50)
    have hbw : Below w.heap.size w (w.alloc (.cells #[.int .i64 (a : Int), .int .i64 ((c : Int) + 1)] 50)) := (Below.refl _ w).alloc (Nat.le_refl _) _
    generalize w.alloc (.cells #[.int .i64 (a : Int), .int .i64 ((c : Int) + 1)] 50) = W at *
    have c0 : W.cell? ⟨w.heap.size, 0, none⟩ = some (.int .i64 (a : Int)) := by rw [cell_of_row _ _ 0 _ _ (0, 0) hbk]; rfl
    have c1 : W.cell? ⟨w.heap.size, 1, none⟩ = some (.int .i64 ((c : Int) + 1)) := by rw [cell_of_row _ _ 1 _ _ (0, 0) hbk]; rfl
    have hne := gb_ne W
    have hcX : ∀ y : Gb W, y.w.cell? ⟨w.heap.size, 0, none⟩ = some (.int .i64 (a : Int)) := fun y => gb_cell c0 y
    have hcY : ∀ y : Gb W, y.w.cell? ⟨w.heap.size, 1, none⟩ = some (.int .i64 ((c : Int) + 1)) := fun y => gb_cell c1 y
    refine wp_region_gr (fun x => Below W.heap.size W x) (by kernel_rfl) (by kernel_rfl) (gb_start W) ?_
    repeat (go_big_quiet_step ((fail)))
    refine wpQuiet_nil ?_
    rintro w7 ⟨⟨_, b7⟩, rfl⟩
    have B7 := hide (hbw.trans (b7.mono hbw.size))
    clear b7 hne hcX hcY c0 c1 hbk hbw
    go_wp2_with fail
    refine (unhide hA _ (unhide B7)).mono ?_
    rintro e w1 ⟨rfl, b1⟩
    have B1 := hide ((unhide B7).trans (b1.mono (unhide B7).size))
    clear b1 B7
    go_wp2_with fail
    refine (unhide hB _ (unhide B1)).mono ?_
    rintro e w2 ⟨rfl, b2⟩
    have B2 := hide ((unhide B1).trans (b2.mono (unhide B1).size))
    clear b2 B1
    go_wp2
    go_ret
    exact ⟨rfl, unhide B2⟩
theorem Tryd.infoS : (Tryd.prog.info? 9).map (fun i => (i.zero, i.size, i.bytes)) = some (some (.string ⟨#[]⟩), 1, 16) := by kernel_rfl
theorem Tryd.undSs : Tryd.prog.underlying 68 = some (.slice 9) := by kernel_rfl
def tcs {n : Nat} (l : List (Run n)) : List Value := l.map fun x => .string (bs (partL x.1))
theorem tcs_append {n : Nat} (a b : List (Run n)) : tcs (a ++ b) = tcs a ++ tcs b := by simp [tcs]
/-- the text of runs -/
def textL (l : List (Nat × Nat)) : By := if l = [] then [45] else Lib.join (l.map partL) [44]
def textR (n : Int) (s : By) : By := if chkI n s = true then textL (runsL s n.toNat) else []
/-- what lies in the runs of a set -/
theorem rl_in_lt (s : By) (k : Nat) : ∀ x ∈ (rl s k).1, x.1 < x.2 ∧ x.2 < k := by
  induction k with
  | zero => intro x hx; simp [rl] at hx
  | succ k ih =>
    intro x hx
    cases hv : bitAt s k
    · by_cases hl : (rl s k).2 < k
      · rw [rl_out hv hl] at hx
        rcases List.mem_append.1 hx with h | h
        · have := ih x h; omega
        · simp at h; subst h; simp; omega
      · rw [rl_gap hv hl] at hx
        have := ih x hx; omega
    · rw [rl_in hv] at hx
      have := ih x hx; omega
theorem partL_le (x : Nat × Nat) (h1 : x.1 < 1000) (h2 : x.2 ≤ 1000) : (partL x).length ≤ 7 := by
  have := decDigits_le x.1 h1
  unfold partL
  split
  · omega
  · have := decDigits_le (x.2 - 1) (by omega)
    simp; omega
theorem join_le (xs : List By) (sep : By) (c : Nat) (h : ∀ x ∈ xs, x.length ≤ c) : (Lib.join xs sep).length ≤ xs.length * (c + sep.length) := by
  unfold Lib.join
  induction xs with
  | nil => simp
  | cons x xs ih =>
    have hx := h x (by simp)
    have ih := ih (fun y hy => h y (by simp [hy]))
    cases xs with
    | nil => simp; omega
    | cons y ys =>
      rw [List.intercalate_cons_cons, List.length_append, List.length_append]
      rw [List.length_cons, Nat.succ_mul]
      omega
set_option maxRecDepth 100000 in
set_option maxHeartbeats 8000000 in
theorem text_any (N : Nat) (hN : N ≤ 200) (n : Int) (s : By) (hnN : n ≤ N) (w : World) (hs : s.length ≤ maxLen) (hI : ItoaOk w (N + 1)) : Calls Tryd.prog 21 #[.int .i64 n, .string (bs s)] w fun e w' => e = .returned (.tuple #[.string (bs (textR n s)), .int .i64 (ofsE n s)]) ∧ Below w.heap.size w w' := by
  obtain ⟨i0, hi, hz0, hzs, hz2⟩ := info_parts Tryd.infoS
  have hc := hide (fun w => check_any n s w hs)
  unfold ofsE textR
  cases hC : chkI n s with
  | false =>
    rw [hC] at hc
    rw [if_neg (by simp), if_neg (by simp)]
    generalize bs s = S at *
    clear hC
    go_enter Tryd.func21, Tryd.ntmps21
    go_wp2_with fail
    refine (unhide hc _).mono ?_
    rintro e w1 ⟨rfl, b1⟩
    have B1 := hide b1
    clear b1
    go_wp2
    go_ret2
    exact ⟨rfl, unhide B1⟩
  | true =>
    rw [hC] at hc
    rw [if_pos rfl, if_pos rfl]
    obtain ⟨m, rfl, hch, hm, hl, hl20⟩ := chkI_facts hC
    rw [Int.toNat_natCast]
    have he := hide (each_any m s)
    have hst := hide (fun bn b2 w hW => each_stopsR 4 (by omega) bn b2 m s (by omega) hm w hW)
    generalize bs s = S at *
    clear hC hch hl
    refine (callsIn_wide (n := 5)).1 ?_
    refine callsIn_of_wp_marks Tryd.func21 rfl trivial ?_ rfl
    simp only [Tryd.ntmps21, List.size_toArray, List.length_cons, List.length_nil, Nat.reduceAdd, Nat.reduceSub, Array.replicate_succ, Array.replicate_zero, List.push_toArray, List.append_toArray, List.nil_append, List.cons_append]
    gi_wp2_with (fail)
    refine ⟨trivial, ?_⟩
    refine (callsIn_wide.2 (unhide hc _)).mono ?_
    rintro e w1 ⟨rfl, b1⟩
    have B1 := hide b1
    clear b1
    gi_wp2_with (fail)
    refine ⟨trivial, ?_⟩
    have bS := Boxed.new w1 68 (.slice none 0 0)
    have hbV : Below w1.heap.size w1 (w1.alloc (.cells #[.slice none 0 0] 68)) := (Below.refl _ w1).alloc (Nat.le_refl _) _
    have hVs : (w1.alloc (.cells #[.slice none 0 0] 68)).heap.size = w1.heap.size + 1 := by simp
    generalize hV : w1.alloc (.cells #[.slice none 0 0] 68) = V at *
    clear hV
    generalize hN1 : w1.heap.size = N1 at *
    have HN1 := hide hN1
    have HVS := hide hVs
    clear hN1 hVs
    refine (callsIn_wide.2 (unhide he V)).mono ?_
    rintro e w3 ⟨rfl, hbx, hw3⟩
    have hb3 : Below V.heap.size V w3 := by
      rw [hw3]
      exact ((Below.refl _ V).alloc (Nat.le_refl _) _).alloc (by simp) _
    have hs3 : Hid (w3.heap.size = V.heap.size + 2) := by
      show _ = _
      rw [hw3]; simp
    have bS3 : Boxed w3 N1 68 (.slice none 0 0) := (hb3.block _ bS.lt).trans bS
    have B3 : Below w.heap.size w w3 := (unhide B1).trans ((hbV.trans (hb3.mono (by have := unhide HVS; omega))).mono (by have := (unhide B1).size; have := unhide HN1; omega))
    have hwN : w.heap.size ≤ N1 := by have := (unhide B1).size; have := unhide HN1; omega
    have hbn : V.heap.size = N1 + 1 := unhide HVS
    have hsz3 : w3.heap.size = V.heap.size + 2 := unhide hs3
    clear hw3 hb3 bS hbV B1 HVS hs3 HN1
    generalize V.heap.size = bn at *
    have HZ := hide hsz3
    have HBN := hide hbn
    have HI := hide hI
    clear hsz3 hbn hI
    gi_wp2
    refine wpIn_rangeFunc_ownH rfl (by omega) (gf := 59) (lb := #[.pointer (some ⟨bn, 0, none⟩), .pointer (some ⟨bn + 1, 0, none⟩)]) rfl trivial (enters_of Tryd.func59 (by kernel_rfl) rfl)
      (unhide hst bn (bn + 1) w3 hbx) kpE_t (kpE_b (by have := unhide HZ; omega) (by have := unhide HZ; omega)) (Below.refl _ _) (fun _ => rfl)
      (fun pre W => (∃ v, Boxed W N1 68 v ∧ W.ownsRow w3.heap.size 9 1 v pre.length (tcs pre) ∧ True) ∧ (Below w.heap.size w W ∧ w3.heap.size ≤ W.heap.size))
      (fun _ _ _ => False)
      (OwnFrom.and (Own.from (holdsRow_own w3.heap.size N1 68 9 1 (fun pre : List (Run m) => pre.length) (fun pre => tcs pre) (fun _ _ => True)) _) (OwnFrom.and (ownFrom_below (Nat.le_refl _) (by have := unhide HZ; have := unhide HBN; omega)) (fun _ _ _ _ hs hg _ => Nat.le_trans hs hg.size)))
      (fun _ _ _ _ _ hs _ _ => hs)
      ⟨⟨_, bS3, World.ownsRow_nil _ _ _ _, trivial⟩, B3, Nat.le_refl _⟩
      (fun x a' W => ∃ Bx, w3.heap.size ≤ Bx ∧ SpanAt W Bx x.1 ∧ a' = { tmps := #[.int .i64 m, .string S, undef, undef, .string ⟨#[]⟩, .int .i64 0, .pointer (some ⟨N1, 0, none⟩), .pointer (some ⟨Bx, 0, none⟩), .int .i64 m, .string S, .bool true, .bool false, .int .i64 m, .string S, .func (.func 59) #[] #[.pointer (some ⟨bn, 0, none⟩), .pointer (some ⟨bn + 1, 0, none⟩)], spV x.1, undef, undef, undef, undef, undef, undef, undef, undef, undef, undef], defers := [] })
      (fun x a' _ X Y row hs hg hr => by obtain ⟨Bx, h1, h2, h3⟩ := hs; exact ⟨Bx, h1, span_own Bx (fun (_ : Unit) => x.1) () X Y row h2 hg (fun r e => (hr r e).2), h3⟩)
      ?assign ?body ?done ?stop
    case assign =>
      rintro l pre x W K ⟨⟨v, bS1, hr1, _⟩, hB1, hz1⟩ hK
      unfold spV
      have HHZ := hide (unhide HZ)
      clear HZ
      gi_wp2
      refine hK _ _ ((KeepsOthers.alloc _ _).from _) (kpE_below ((Below.refl W.heap.size W).alloc (Nat.le_refl _) _) (by have := unhide HHZ; omega) (by have := unhide HHZ; omega)) ⟨⟨v, bS1.alloc _, hr1.alloc _, trivial⟩, hB1.alloc hB1.size _, by simp; omega⟩ ⟨W.heap.size, hz1, heap_alloc_new _ _, rfl⟩
    case body =>
      rintro l pre x a' W hl hr ⟨⟨v, bS1, hr1, _⟩, hB1, hz1⟩ ⟨Bx, hBx, bX, rfl⟩ hlt
      have hmx : Tryd.prog.follows .mixedOrders = true := by kernel_rfl
      obtain ⟨⟨x1, x2⟩, hx⟩ := x
      simp only at hx bX
      have k1 := hide (part_any (N + 1) (x1, x2) hx.1 (by omega) (by omega) W.drew ((unhide HI).below hB1.drew))
      unfold spV at k1
      have cS := bS1.cell
      have c0 : W.cell? ⟨Bx, 0, none⟩ = some (.int .i64 (x1 : Int)) := by rw [cell_of_row _ _ 0 _ _ (0, 0) bX]; rfl
      have c1 : W.cell? ⟨Bx, 1, none⟩ = some (.int .i64 (x2 : Int)) := by rw [cell_of_row _ _ 1 _ _ (0, 0) bX]; rfl
      obtain ⟨ao, cap, rfl⟩ := own_shape' hr1
      gi_wp2
      refine wpIn_region_any hmx ?_
      change wpAnyIn _ _ _ _ _ _ _ _ _ (World.drew _)
      refine wpAnyIn_ready (rs := [0, 1]) (by kernel_rfl) (by simp) ?_
      refine AllReadyIn.cons rfl (fun K hK => ?_) (AllReadyIn.cons rfl (fun K hK => ?_) AllReadyIn.nil)
      · go_simp
        refine hK _ _ ?_
        clear hK K
        refine wpAnyIn_ready (rs := [1]) (by kernel_rfl) (by simp) ?_
        refine AllReadyIn.cons rfl (fun K hK => ?_) AllReadyIn.nil
        go_simp
        refine hK _ _ ?_
        clear hK K
        refine wpAnyIn_ready (rs := [2]) (by kernel_rfl) (by simp) ?_
        refine AllReadyIn.cons rfl (fun K hK => ?_) AllReadyIn.nil
        go_simp
        refine ⟨trivial, (CallsIn.inRound l (callsIn_wide.2 (unhide k1))).mono ?_⟩
        rintro e w4 ⟨rfl, b4⟩
        refine hK _ _ ?_
        clear hK K
        have b4' : Below W.heap.size W w4 := (Below.refl _ W).drew.trans b4
        have bS4 : Boxed w4 N1 68 (.slice ao pre.length cap) := (b4'.block _ bS1.lt).trans bS1
        have hr4 := own_grown hr1 b4'
        have cS4 := bS4.cell
        have cS5 := (bS4.alloc (.cells #[.string (bs (partL (x1, x2)))] 9)).cell
        have HNW := hide (news_lit w4 [.string (bs (partL (x1, x2)))] 9)
        refine wpAnyIn_ready (rs := [3]) (by kernel_rfl) (by simp) ?_
        refine AllReadyIn.cons rfl (fun K hK => ?_) AllReadyIn.nil
        go_simp
        refine hK _ _ ?_
        clear hK K
        refine wpAnyIn_ready (rs := [4]) (by kernel_rfl) (by simp) ?_
        refine AllReadyIn.cons rfl (fun K hK => ?_) AllReadyIn.nil
        refine stepIn_append_own rfl _ _ 68 rfl w3.heap.size 9 i0 (.string ⟨#[]⟩) 1 16 Tryd.undSs hi hz0 hzs hz2 rfl (by decide) _ _ _ rfl (hr4.alloc _) ⟨w4.heap.size, 0, none⟩ 1 1 [.string (bs (partL (x1, x2)))] rfl rfl (unhide HNW) (by intro u hu; simp at hu; subst hu; rfl) (by unfold maxLen; omega) (by omega) (by have := b4'.size; simp; omega) ?_
        intro v' w5 hown' hgrow
        obtain ⟨ao', cap', rfl⟩ := own_shape' hown'
        refine hK _ _ ?_
        clear hK K
        obtain ⟨f1, f2, f3, f4, f5, f6, f7, _⟩ := boxed_appended bS4 (by decide) hr4 hown' hgrow
        have cS6 := f1.cell
        have hf6 := f1.frozen
        refine wpAnyIn_ready (rs := [5]) (by kernel_rfl) (by simp) ?_
        refine AllReadyIn.cons rfl (fun K hK => ?_) AllReadyIn.nil
        go_simp
        refine hK _ _ ?_
        clear hK K
        refine wpAnyIn_done (by kernel_rfl) ?_ _
        have e1 := unhide HZ
        have e2 := unhide HBN
        refine ⟨((KeepsOthers.of_below b4').trans f4).from _, ⟨?_, ?_⟩, ⟨⟨_, f2, ?_, trivial⟩, ?_, ?_⟩⟩
        · exact (f6 bn (by omega) (by omega) (by have := b4'.size; omega)).trans (b4'.block bn (by omega))
        · exact (f6 (bn + 1) (by omega) (by omega) (by have := b4'.size; omega)).trans (b4'.block (bn + 1) (by omega))
        · rw [tcs_append, List.length_append]
          exact f3
        · exact hB1.trans ((b4'.mono hB1.size).trans (f7 _ (by omega) (by omega) (by have := b4'.size; have := hB1.size; omega)))
        · have := b4'.size; simp; omega
      · go_simp
        refine hK _ _ ?_
        clear hK K
        refine wpAnyIn_ready (rs := [0, 2]) (by kernel_rfl) (by simp) ?_
        refine AllReadyIn.cons rfl (fun K hK => ?_) (AllReadyIn.cons rfl (fun K hK => ?_) AllReadyIn.nil)
        · go_simp
          refine hK _ _ ?_
          clear hK K
          refine wpAnyIn_ready (rs := [2]) (by kernel_rfl) (by simp) ?_
          refine AllReadyIn.cons rfl (fun K hK => ?_) AllReadyIn.nil
          go_simp
          refine ⟨trivial, (CallsIn.inRound l (callsIn_wide.2 (unhide k1))).mono ?_⟩
          rintro e w4 ⟨rfl, b4⟩
          refine hK _ _ ?_
          clear hK K
          have b4' : Below W.heap.size W w4 := (Below.refl _ W).drew.trans b4
          have bS4 : Boxed w4 N1 68 (.slice ao pre.length cap) := (b4'.block _ bS1.lt).trans bS1
          have hr4 := own_grown hr1 b4'
          have cS4 := bS4.cell
          have cS5 := (bS4.alloc (.cells #[.string (bs (partL (x1, x2)))] 9)).cell
          have HNW := hide (news_lit w4 [.string (bs (partL (x1, x2)))] 9)
          refine wpAnyIn_ready (rs := [3]) (by kernel_rfl) (by simp) ?_
          refine AllReadyIn.cons rfl (fun K hK => ?_) AllReadyIn.nil
          go_simp
          refine hK _ _ ?_
          clear hK K
          refine wpAnyIn_ready (rs := [4]) (by kernel_rfl) (by simp) ?_
          refine AllReadyIn.cons rfl (fun K hK => ?_) AllReadyIn.nil
          refine stepIn_append_own rfl _ _ 68 rfl w3.heap.size 9 i0 (.string ⟨#[]⟩) 1 16 Tryd.undSs hi hz0 hzs hz2 rfl (by decide) _ _ _ rfl (hr4.alloc _) ⟨w4.heap.size, 0, none⟩ 1 1 [.string (bs (partL (x1, x2)))] rfl rfl (unhide HNW) (by intro u hu; simp at hu; subst hu; rfl) (by unfold maxLen; omega) (by omega) (by have := b4'.size; simp; omega) ?_
          intro v' w5 hown' hgrow
          obtain ⟨ao', cap', rfl⟩ := own_shape' hown'
          refine hK _ _ ?_
          clear hK K
          obtain ⟨f1, f2, f3, f4, f5, f6, f7, _⟩ := boxed_appended bS4 (by decide) hr4 hown' hgrow
          have cS6 := f1.cell
          have hf6 := f1.frozen
          refine wpAnyIn_ready (rs := [5]) (by kernel_rfl) (by simp) ?_
          refine AllReadyIn.cons rfl (fun K hK => ?_) AllReadyIn.nil
          go_simp
          refine hK _ _ ?_
          clear hK K
          refine wpAnyIn_done (by kernel_rfl) ?_ _
          have e1 := unhide HZ
          have e2 := unhide HBN
          refine ⟨((KeepsOthers.of_below b4').trans f4).from _, ⟨?_, ?_⟩, ⟨⟨_, f2, ?_, trivial⟩, ?_, ?_⟩⟩
          · exact (f6 bn (by omega) (by omega) (by have := b4'.size; omega)).trans (b4'.block bn (by omega))
          · exact (f6 (bn + 1) (by omega) (by omega) (by have := b4'.size; omega)).trans (b4'.block (bn + 1) (by omega))
          · rw [tcs_append, List.length_append]
            exact f3
          · exact hB1.trans ((b4'.mono hB1.size).trans (f7 _ (by omega) (by omega) (by have := b4'.size; have := hB1.size; omega)))
          · have := b4'.size; simp; omega
        · go_simp
          refine ⟨trivial, (CallsIn.inRound l (callsIn_wide.2 (unhide k1))).mono ?_⟩
          rintro e w4 ⟨rfl, b4⟩
          refine hK _ _ ?_
          clear hK K
          have b4' : Below W.heap.size W w4 := (Below.refl _ W).drew.trans b4
          have bS4 : Boxed w4 N1 68 (.slice ao pre.length cap) := (b4'.block _ bS1.lt).trans bS1
          have hr4 := own_grown hr1 b4'
          have cS4 := bS4.cell
          have cS5 := (bS4.alloc (.cells #[.string (bs (partL (x1, x2)))] 9)).cell
          have HNW := hide (news_lit w4 [.string (bs (partL (x1, x2)))] 9)
          refine wpAnyIn_ready (rs := [0, 3]) (by kernel_rfl) (by simp) ?_
          refine AllReadyIn.cons rfl (fun K hK => ?_) (AllReadyIn.cons rfl (fun K hK => ?_) AllReadyIn.nil)
          · go_simp
            refine hK _ _ ?_
            clear hK K
            refine wpAnyIn_ready (rs := [3]) (by kernel_rfl) (by simp) ?_
            refine AllReadyIn.cons rfl (fun K hK => ?_) AllReadyIn.nil
            go_simp
            refine hK _ _ ?_
            clear hK K
            refine wpAnyIn_ready (rs := [4]) (by kernel_rfl) (by simp) ?_
            refine AllReadyIn.cons rfl (fun K hK => ?_) AllReadyIn.nil
            refine stepIn_append_own rfl _ _ 68 rfl w3.heap.size 9 i0 (.string ⟨#[]⟩) 1 16 Tryd.undSs hi hz0 hzs hz2 rfl (by decide) _ _ _ rfl (hr4.alloc _) ⟨w4.heap.size, 0, none⟩ 1 1 [.string (bs (partL (x1, x2)))] rfl rfl (unhide HNW) (by intro u hu; simp at hu; subst hu; rfl) (by unfold maxLen; omega) (by omega) (by have := b4'.size; simp; omega) ?_
            intro v' w5 hown' hgrow
            obtain ⟨ao', cap', rfl⟩ := own_shape' hown'
            refine hK _ _ ?_
            clear hK K
            obtain ⟨f1, f2, f3, f4, f5, f6, f7, _⟩ := boxed_appended bS4 (by decide) hr4 hown' hgrow
            have cS6 := f1.cell
            have hf6 := f1.frozen
            refine wpAnyIn_ready (rs := [5]) (by kernel_rfl) (by simp) ?_
            refine AllReadyIn.cons rfl (fun K hK => ?_) AllReadyIn.nil
            go_simp
            refine hK _ _ ?_
            clear hK K
            refine wpAnyIn_done (by kernel_rfl) ?_ _
            have e1 := unhide HZ
            have e2 := unhide HBN
            refine ⟨((KeepsOthers.of_below b4').trans f4).from _, ⟨?_, ?_⟩, ⟨⟨_, f2, ?_, trivial⟩, ?_, ?_⟩⟩
            · exact (f6 bn (by omega) (by omega) (by have := b4'.size; omega)).trans (b4'.block bn (by omega))
            · exact (f6 (bn + 1) (by omega) (by omega) (by have := b4'.size; omega)).trans (b4'.block (bn + 1) (by omega))
            · rw [tcs_append, List.length_append]
              exact f3
            · exact hB1.trans ((b4'.mono hB1.size).trans (f7 _ (by omega) (by omega) (by have := b4'.size; have := hB1.size; omega)))
            · have := b4'.size; simp; omega
          · go_simp
            refine hK _ _ ?_
            clear hK K
            refine wpAnyIn_ready (rs := [0]) (by kernel_rfl) (by simp) ?_
            refine AllReadyIn.cons rfl (fun K hK => ?_) AllReadyIn.nil
            go_simp
            refine hK _ _ ?_
            clear hK K
            refine wpAnyIn_ready (rs := [4]) (by kernel_rfl) (by simp) ?_
            refine AllReadyIn.cons rfl (fun K hK => ?_) AllReadyIn.nil
            refine stepIn_append_own rfl _ _ 68 rfl w3.heap.size 9 i0 (.string ⟨#[]⟩) 1 16 Tryd.undSs hi hz0 hzs hz2 rfl (by decide) _ _ _ rfl (hr4.alloc _) ⟨w4.heap.size, 0, none⟩ 1 1 [.string (bs (partL (x1, x2)))] rfl rfl (unhide HNW) (by intro u hu; simp at hu; subst hu; rfl) (by unfold maxLen; omega) (by omega) (by have := b4'.size; simp; omega) ?_
            intro v' w5 hown' hgrow
            obtain ⟨ao', cap', rfl⟩ := own_shape' hown'
            refine hK _ _ ?_
            clear hK K
            obtain ⟨f1, f2, f3, f4, f5, f6, f7, _⟩ := boxed_appended bS4 (by decide) hr4 hown' hgrow
            have cS6 := f1.cell
            have hf6 := f1.frozen
            refine wpAnyIn_ready (rs := [5]) (by kernel_rfl) (by simp) ?_
            refine AllReadyIn.cons rfl (fun K hK => ?_) AllReadyIn.nil
            go_simp
            refine hK _ _ ?_
            clear hK K
            refine wpAnyIn_done (by kernel_rfl) ?_ _
            have e1 := unhide HZ
            have e2 := unhide HBN
            refine ⟨((KeepsOthers.of_below b4').trans f4).from _, ⟨?_, ?_⟩, ⟨⟨_, f2, ?_, trivial⟩, ?_, ?_⟩⟩
            · exact (f6 bn (by omega) (by omega) (by have := b4'.size; omega)).trans (b4'.block bn (by omega))
            · exact (f6 (bn + 1) (by omega) (by omega) (by have := b4'.size; omega)).trans (b4'.block (bn + 1) (by omega))
            · rw [tcs_append, List.length_append]
              exact f3
            · exact hB1.trans ((b4'.mono hB1.size).trans (f7 _ (by omega) (by omega) (by have := b4'.size; have := hB1.size; omega)))
            · have := b4'.size; simp; omega
    case done =>
      rintro D ys W hD hys ⟨⟨v, bS1, hr1, _⟩, hB1, hz1⟩ hK
      have e1 := unhide HZ
      have e2 := unhide HBN
      have cS := bS1.cell
      obtain ⟨ao, cap, rfl⟩ := own_shape' hr1
      have hyl : ys.length = (runsL s m).length := by rw [← hys, List.length_map]
      have hD' : w.heap.size ≤ D := by omega
      have HD := hide hD'
      have HHZ := hide e1
      have HH2 := hide e2
      clear e1 e2 hD hD' HZ HBN
      by_cases h0 : runsL s m = []
      · have hy0 : ys.length = 0 := by rw [hyl, h0]; rfl
        rw [hy0] at cS
        have ht : Hid (textL (runsL s m) = [45]) := by
          show _ = _
          unfold textL
          rw [if_pos h0]
        clear hyl
        gi_wp2
        all_goals
          refine ⟨by simp, .inl ⟨_, _, rfl, run_takeDeferred hK, ?_⟩⟩
          exact ⟨_, results_tmp2 rfl _ _ _, by rw [unhide ht]; rfl, hB1.trans (belowK_b (w := w) (Nat.le_refl _) W D _ _ (unhide HD) hK rfl rfl)⟩
      · have hy0 : 0 < ys.length := by rw [hyl]; exact List.length_pos_iff.2 h0
        have hyi : ((ys.length : Int) == 0) = false := by rw [beq_eq_false_iff_ne]; omega
        have hyn : ¬ (ys.length : Int) = 0 := by omega
        have ht : Hid (textL (runsL s m) = Lib.join ((runsL s m).map partL) [44]) := by
          show _ = _
          unfold textL
          rw [if_neg h0]
        have hl160 : (runsL s m).length ≤ 161 := Nat.le_trans (rl_le s (m + 1)).2 (by omega)
        have hjoin : Hid (Calls Tryd.prog 47 #[.slice ao ys.length cap, .string ⟨#[44]⟩] W fun e w' => e = .returned (.string (bs (Lib.join ((runsL s m).map partL) [44]))) ∧ Below W.heap.size W w') := by
          show Calls _ _ _ _ _
          have hjl : (Lib.join ((runsL s m).map partL) [44]).length ≤ 140737488355328 := by
            refine Nat.le_trans (join_le _ _ 7 ?_) ?_
            · intro y hy
              obtain ⟨x, hx, rfl⟩ := List.mem_map.1 hy
              have := rl_in_lt s (m + 1) x hx
              exact partL_le x (by omega) (by omega)
            · rw [List.length_map]; simp; omega
          have hmap : ys.map (fun x => bs (partL x.1)) = ((runsL s m).map partL).map bs := by rw [← hys]; simp [Function.comp_def]
          rcases hr1.2 with ⟨hv, h00⟩ | ⟨g, cap2, cur, hv, hgb, hgc, hnc, hcm, hcs, hct⟩
          · omega
          · obtain ⟨rfl, _, rfl⟩ := (Value.slice.injEq _ _ _ _ _ _).mp hv
            have hcell : ∀ (j : Nat) x, (((runsL s m).map partL).map bs)[j]? = some x → W.cell? ⟨g, 0 + j, none⟩ = some (.string x) := by
              intro j x hx
              rw [← hmap] at hx
              have hj : j < ys.length := by
                have := (List.getElem?_eq_some_iff.1 hx).1
                simpa using this
              rw [Nat.zero_add, cell_of_row _ _ j _ _ (0, 0) hgc]
              have h3 : (tcs ys)[j]? = some (.string x) := by
                unfold tcs
                rw [List.getElem?_map] at hx ⊢
                rw [List.getElem?_eq_getElem hj] at hx ⊢
                simp at hx ⊢
                exact hx
              rw [← hct, List.getElem?_take, if_pos (by omega)] at h3
              simpa using h3
            have hlm : (((runsL s m).map partL).map bs).length = ys.length := by rw [List.length_map, List.length_map, hyl]
            have key := Tryd.strings_Join g 0 cap (((runsL s m).map partL).map bs) ⟨#[44]⟩ W hcell (lt_of_block hgc) (by rw [hlm]; omega) (by rw [hlm]; exact hnc)
            have hdm : ((((runsL s m).map partL).map bs).map (·.data.toList)) = (runsL s m).map partL := by
              rw [List.map_map]
              conv => rhs; rw [← List.map_id ((runsL s m).map partL)]
              rfl
            rw [hdm, hlm] at key
            exact key hjl
        clear hyl
        gi_wp2_with (fail)
        refine ⟨trivial, ?_⟩
        refine (callsIn_wide.2 (unhide hjoin)).mono ?_
        rintro e w6 ⟨rfl, b6⟩
        have hK6 : w6.heap[D]? = some (.deferred (some [])) := (b6.block D (lt_of_block hK)).trans hK
        have B6 := hide (hB1.trans (b6.mono hB1.size))
        clear b6
        gi_wp2
        all_goals
          refine ⟨by simp, .inl ⟨_, _, rfl, run_takeDeferred hK6, ?_⟩⟩
          exact ⟨_, results_tmp2 rfl _ _ _, by rw [unhide ht]; rfl, (unhide B6).trans (belowK_b (w := w) (Nat.le_refl _) w6 D _ _ (unhide HD) hK6 rfl rfl)⟩
    case stop =>
      rintro D c pre W _ _ h _
      exact h.elim
end Go.Proofs.YtbodklppgcloiaaDoor

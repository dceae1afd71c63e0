/- Contracts of block's Join, and of the document's. -/
import Derived.Test.YtcpkjnfppglpoaaBlE
import Derived.Test.YtcpkjnfppglpoaaShelf
namespace Go.Proofs.Ytcpkjnfppglpoaa
open Go.RowKit
set_option linter.unusedVariables false

theorem join_flat (xs : List By) : Lib.join xs [] = xs.flatten := by
  cases xs with
  | nil => rfl
  | cons x r =>
    rw [Lib.join_cons]
    unfold Lib.joinTail
    simp
theorem sjoin_any (ss : List By) (g o c : Nat) (w : World) (hT : Txts w (some ⟨g, o, none⟩) ss) (h0 : ss ≠ []) (h1 : ss.length ≤ c) (h2 : ss.length ≤ 100000) (h3 : ss.flatten.length ≤ 100000) :
    Calls Try.prog 28 #[.slice (some ⟨g, o, none⟩) ss.length c, .string ⟨#[]⟩] w fun e w' => e = .returned (.string (bs ss.flatten)) ∧ Below w.heap.size w w' := by
  have hm : (ss.map bs).map (·.data.toList) = ss := by
    rw [List.map_map]
    conv => rhs; rw [← List.map_id ss]
    rfl
  have hg : g < w.heap.size := by
    obtain ⟨g', o', ha, hc⟩ := hT 0 (List.length_pos_iff.2 h0)
    simp only [Option.some.injEq, Addr.mk.injEq] at ha
    obtain ⟨rfl, rfl, _⟩ := ha
    exact cell_lt hc
  have key := Try.strings_Join g o c (ss.map bs) ⟨#[]⟩ w (fun j x hx => by
    have hj : j < ss.length := by
      rcases Nat.lt_or_ge j ss.length with h | h
      · exact h
      · rw [List.getElem?_eq_none (by simpa using h)] at hx; cases hx
    obtain ⟨g', o', ha, hc⟩ := hT j hj
    simp only [Option.some.injEq, Addr.mk.injEq] at ha
    obtain ⟨rfl, rfl, _⟩ := ha
    have : (ss.map bs)[j]? = some (bs ss[j]) := by simp [hj]
    rw [this] at hx
    cases hx
    exact hc) hg (by rw [List.length_map]; omega) (by rw [List.length_map]; exact h1) (by rw [hm]; show (Lib.join ss []).length ≤ _; rw [join_flat]; omega)
  rw [hm, List.length_map] at key
  refine key.mono ?_
  rintro e w' ⟨rfl, hb⟩
  refine ⟨?_, hb⟩
  show _ = Ending.returned (.string (bs ss.flatten))
  rw [← join_flat]
  rfl

/-- Join's error -/
def joinE (ss : List By) (long : Int) : Int :=
  if ss = [] ∨ ofB ss (ss.headD []).length = false then 1
  else if 96 < ss.length then 2
  else if countN long (ss.headD []).length ≠ ss.length then 9
  else if ss.flatten.drop long.toNat = List.replicate (ss.flatten.length - long.toNat) 0 then 0 else 9
def joinR (ss : List By) (long : Int) : By := if joinE ss long = 0 then ss.flatten.take long.toNat else []
theorem flat_len (ss : List By) (m : Nat) (h : ∀ s ∈ ss, s.length = m) : ss.flatten.length = ss.length * m := by
  induction ss with
  | nil => simp
  | cons s ss ih =>
    rw [List.flatten_cons, List.length_append, ih (fun t ht => h t (by simp [ht])), h s (by simp), List.length_cons, Nat.add_mul]
    omega
theorem headD_get (ss : List By) (h : 0 < ss.length) : ss.headD [] = ss[0] := by
  cases ss with
  | nil => simp at h
  | cons x r => rfl

theorem areAlike_any (ss : List By) (a0 : Option Addr) (c : Nat) (w : World) (hT : Txts w a0 ss) (h2 : ss.length ≤ 100000) (h3 : ∀ s ∈ ss, s.length ≤ 100000) :
    Calls Try.prog 27 #[.slice a0 ss.length c] w fun e w' => e = .returned (.bool (!decide (ss = [] ∨ ofB ss (ss.headD []).length = false))) ∧ w = w' := by
  by_cases h0 : ss = []
  · subst h0
    rw [decide_eq_true (.inl rfl)]
    have q : (([] : List By).length : Int) = 0 := rfl
    go_enter Try.func27, Try.ntmps27
    go_wp2
    go_ret
    exact ⟨rfl, rfl⟩
  · have hp : 0 < ss.length := List.length_pos_iff.2 h0
    have hof := hide (areOf_any ss a0 c (ss.headD []).length w hT h2 h3)
    have hh := headD_get ss hp
    obtain ⟨g, o, rfl, hc⟩ := hT 0 hp
    rw [Nat.add_zero, ← hh] at hc
    have hsz := bs_size (ss.headD [])
    have hl3 := h3 (ss.headD []) (by rw [hh]; exact List.getElem_mem hp)
    have hE : (!decide (ss = [] ∨ ofB ss (ss.headD []).length = false)) = ofB ss (ss.headD []).length := by
      cases h : ofB ss (ss.headD []).length <;> simp [h0]
    rw [hE]
    generalize ofB ss (ss.headD []).length = B at *
    generalize (ss.headD []).length = m at *
    generalize bs (ss.headD []) = S at *
    have q1 : (0 : Int) < ss.length := by omega
    clear hT h3 hh hE h0
    generalize ss.length = n at *
    go_enter Try.func27, Try.ntmps27
    go_wp2_with (go_at_call 30; refine (unhide hof).mono ?_; rintro e w1 ⟨rfl, rfl⟩)
    go_ret
    exact ⟨rfl, rfl⟩

theorem zeroL_small (k : Nat) (h : k ≤ 64) : zeroL k = List.replicate k 0 := by
  rcases Nat.eq_zero_or_pos k with h0 | h0
  · subst h0; rfl
  · exact zeroL_nat k h0 h
theorem take_bs (f : By) (j : Nat) (h : j ≤ f.length) : (bs f).extract 0 j = bs (f.take j) := by
  have h : ((bs f).extract 0 j).data.toList = f.take j := by
    rw [ByteArray.data_extract]
    simp [bs]
  rw [← h]
  rfl
/-- what is known where the number of blocks is right -/
theorem join_facts {ss : List By} {long : Int} (h0 : ¬ (ss = [] ∨ ofB ss (ss.headD []).length = false)) (h2 : countN long (ss.headD []).length = ss.length) :
    ∃ l m : Nat, long = l ∧ m = (ss.headD []).length ∧ 1 ≤ m ∧ m ≤ 64 ∧ ss.flatten.length = ss.length * m ∧ l ≤ ss.flatten.length ∧ ss.flatten.length - l ≤ 64 ∧ 1 ≤ l ∧ l ≤ 4096 ∧ ss.flatten.length ≤ 6144 ∧ ss.length ≤ 96 := by
  have hne : ss ≠ [] := fun h => h0 (.inl h)
  have hof : ofB ss (ss.headD []).length = true := by
    cases h : ofB ss (ss.headD []).length
    · exact absurd (.inr h) h0
    · rfl
  obtain ⟨ha, m1, m2⟩ := ofB_iff.1 hof
  have hp : 0 < ss.length := List.length_pos_iff.2 hne
  have hc : countN long (ss.headD []).length ≠ 0 := by omega
  have hle := countN_le long (ss.headD []).length
  obtain ⟨l, s, e1, e2, a, b, c, d, e⟩ := countN_pos hc
  have e2' : (ss.headD []).length = s := by omega
  rw [h2] at e
  have hfl := flat_len ss s (fun t ht => by have := ha t ht; omega)
  have hd := Nat.div_add_mod (l + s - 1) s
  have hmod := Nat.mod_lt (l + s - 1) (show s > 0 by omega)
  rw [← e, Nat.mul_comm] at hd
  have hnm : ss.length * s ≤ 96 * 64 := Nat.mul_le_mul (by omega) (by omega)
  exact ⟨l, s, e1, e2'.symm, c, d, hfl, by omega, by omega, a, b, by omega, by omega⟩

set_option maxRecDepth 100000 in
set_option maxHeartbeats 1000000 in
theorem join_any (ss : List By) (a0 : Option Addr) (c : Nat) (long : Int) (w : World) (hT : Txts w a0 ss) (h2 : ss.length ≤ 100000) (hc : ss.length ≤ c) (h3 : ∀ s ∈ ss, s.length ≤ 100000) :
    Calls Try.prog 15 #[.slice a0 ss.length c, .int .i64 long] w fun e w' => e = .returned (.tuple #[.string (bs (joinR ss long)), .int .i64 (joinE ss long)]) ∧ Below w.heap.size w w' := by
  have hal := hide (areAlike_any ss a0 c w hT h2 h3)
  by_cases h0 : ss = [] ∨ ofB ss (ss.headD []).length = false
  · have e1 : joinE ss long = 1 := by unfold joinE; rw [if_pos h0]
    have e2 : joinR ss long = [] := by unfold joinR; rw [e1]; rfl
    rw [e1, e2]
    rw [decide_eq_true h0] at hal
    clear h0 e1 e2 hT h3
    generalize ss.length = n at *
    go_enter Try.func15, Try.ntmps15
    go_wp2_with fail
    refine (unhide hal).mono ?_
    rintro e w1 ⟨rfl, rfl⟩
    go_wp2
    go_ret2
    exact ⟨rfl, Below.refl _ _⟩
  rw [decide_eq_false h0] at hal
  by_cases h96 : 96 < ss.length
  · have e1 : joinE ss long = 2 := by unfold joinE; rw [if_neg h0, if_pos h96]
    have e2 : joinR ss long = [] := by unfold joinR; rw [e1]; rfl
    rw [e1, e2]
    have q1 : (96 : Int) < ss.length := by omega
    clear h0 e1 e2 hT h3
    generalize ss.length = n at *
    go_enter Try.func15, Try.ntmps15
    go_wp2_with fail
    refine (unhide hal).mono ?_
    rintro e w1 ⟨rfl, rfl⟩
    go_wp2
    go_ret2
    exact ⟨rfl, Below.refl _ _⟩
  have hne : ss ≠ [] := fun h => h0 (.inl h)
  have hp : 0 < ss.length := List.length_pos_iff.2 hne
  have hh := headD_get ss hp
  obtain ⟨g, o, rfl, hcell⟩ := hT 0 hp
  rw [Nat.add_zero, ← hh] at hcell
  have hsz := bs_size (ss.headD [])
  have hl3 := h3 (ss.headD []) (by rw [hh]; exact List.getElem_mem hp)
  have hcn := hide (count_any long (ss.headD []).length)
  have q1 : ¬ (96 : Int) < ss.length := by omega
  by_cases hct : countN long (ss.headD []).length = ss.length
  · obtain ⟨l, m, rfl, hm, m1, m2, hfl, hlf, hfd, l1, l2, hf6, _⟩ := join_facts h0 hct
    have hj := hide (sjoin_any ss g o c w hT hne hc (by omega) (by omega))
    have HE : Hid (joinE ss l = if ss.flatten.drop l = List.replicate (ss.flatten.length - l) 0 then 0 else 9) := by
      show _ = _
      unfold joinE
      rw [if_neg h0, if_neg h96, if_neg (by rw [hct]; simp)]
      rfl
    have HR : Hid (joinR ss l = if joinE ss l = 0 then ss.flatten.take l else []) := rfl
    rw [hct] at hcn
    generalize hEE : joinE ss l = E at *
    generalize hRR : bs (joinR ss l) = R at *
    have HR2 := hide hRR
    have hbs := bs_size ss.flatten
    have hz := hide (zero_any ((ss.flatten.length : Int) - l))
    have ez : ((ss.flatten.length : Int) - l) = ((ss.flatten.length - l : Nat) : Int) := by omega
    rw [ez, zeroL_small _ (by omega), ← ez] at hz
    have hd := hide (slice_bs ss.flatten l)
    have ht := hide (take_bs ss.flatten l hlf)
    clear hEE hRR ez hfl hh h0 hT h3 hne hct hm h96
    generalize (ss.headD []).length = mm at *
    generalize bs (ss.headD []) = S at *
    generalize ss.length = n at *
    generalize ss.flatten = F at *
    have e0 : ((n : Int) == n) = true := by simp
    by_cases hD : F.drop l = List.replicate (F.length - l) 0
    · have hdec : (((bs F).extract l F.length).toList == (bs (List.replicate (F.length - l) 0)).toList) = true := by
        rw [unhide hd, ByteArray.toList_eq, ByteArray.toList_eq, bs_list, bs_list, hD]; simp
      have hEE : E = 0 := by rw [unhide HE, if_pos hD]
      have HEE := hide hEE
      have HRR : Hid (R = (bs F).extract 0 l) := by
        show _ = _
        rw [unhide ht, ← unhide HR2, unhide HR, if_pos hEE]
      clear hEE hD HE HR HR2
      generalize bs (List.replicate (F.length - l) 0) = Z at *
      generalize F.length = fl at *
      generalize bs F = B at *
      go_enter Try.func15, Try.ntmps15
      go_wp2_with fail
      refine (unhide hal).mono ?_
      rintro e w1 ⟨rfl, rfl⟩
      go_wp2_with (go_at_call 12; refine (unhide hcn _).mono ?_; rintro e w1 ⟨rfl, rfl⟩)
      refine (unhide hj).mono ?_
      rintro e w1 ⟨rfl, b1⟩
      have B1 := hide b1
      clear b1
      go_wp2_with fail
      have hne := gb_ne w1
      have q3 : (l : Int) ≤ fl := by omega
      refine wp_region_gr (fun x => Below w1.heap.size w1 x) (by kernel_rfl) (by kernel_rfl) (gb_start w1) ?_
      repeat (go_big_quiet_step ((go_at_call 23; exact gb_call (unhide hz _))))
      refine wpQuiet_nil ?_
      rintro w7 ⟨⟨_, b7⟩, rfl⟩
      have B7 := hide ((unhide B1).trans (b7.mono (unhide B1).size))
      clear b7 hne B1
      go_wp2
      go_ret2
      exact ⟨by rw [unhide HEE, unhide HRR]; rfl, unhide B7⟩
    · have hdec : (((bs F).extract l F.length).toList == (bs (List.replicate (F.length - l) 0)).toList) = false := by
        rw [unhide hd, ByteArray.toList_eq, ByteArray.toList_eq, bs_list, bs_list, beq_eq_false_iff_ne]; exact hD
      have hEE : E = 9 := by rw [unhide HE, if_neg hD]
      have HEE := hide hEE
      have HRR : Hid (R = ⟨#[]⟩) := by
        show _ = _
        rw [← unhide HR2, unhide HR, if_neg (by rw [hEE]; decide)]; rfl
      clear hEE hD HE HR HR2
      generalize bs (List.replicate (F.length - l) 0) = Z at *
      generalize F.length = fl at *
      generalize bs F = B at *
      go_enter Try.func15, Try.ntmps15
      go_wp2_with fail
      refine (unhide hal).mono ?_
      rintro e w1 ⟨rfl, rfl⟩
      go_wp2_with (go_at_call 12; refine (unhide hcn _).mono ?_; rintro e w1 ⟨rfl, rfl⟩)
      refine (unhide hj).mono ?_
      rintro e w1 ⟨rfl, b1⟩
      have B1 := hide b1
      clear b1
      go_wp2_with fail
      have hne := gb_ne w1
      have q3 : (l : Int) ≤ fl := by omega
      refine wp_region_gr (fun x => Below w1.heap.size w1 x) (by kernel_rfl) (by kernel_rfl) (gb_start w1) ?_
      repeat (go_big_quiet_step ((go_at_call 23; exact gb_call (unhide hz _))))
      refine wpQuiet_nil ?_
      rintro w7 ⟨⟨_, b7⟩, rfl⟩
      have B7 := hide ((unhide B1).trans (b7.mono (unhide B1).size))
      clear b7 hne B1
      go_wp2
      go_ret2
      exact ⟨by rw [unhide HEE, unhide HRR]; rfl, unhide B7⟩
  · have e1 : joinE ss long = 9 := by unfold joinE; rw [if_neg h0, if_neg h96, if_pos hct]
    have e2 : joinR ss long = [] := by unfold joinR; rw [e1]; rfl
    rw [e1, e2]
    have q2 : ((countN long (ss.headD []).length : Int) == (ss.length : Int)) = false := by rw [beq_eq_false_iff_ne]; omega
    have q4 := countN_le long (ss.headD []).length
    generalize countN long (ss.headD []).length = C at *
    clear h0 e1 e2 hT h3 hct hh hne h96
    generalize (ss.headD []).length = mm at *
    generalize bs (ss.headD []) = S at *
    generalize ss.length = n at *
    go_enter Try.func15, Try.ntmps15
    go_wp2_with fail
    refine (unhide hal).mono ?_
    rintro e w1 ⟨rfl, rfl⟩
    go_wp2_with (go_at_call 12; refine (unhide hcn _).mono ?_; rintro e w1 ⟨rfl, rfl⟩)
    go_ret2
    exact ⟨rfl, Below.refl _ _⟩

/-- the first blocks, one behind the other -/
theorem flat_snoc (ss : List By) (k : Nat) (h : k < ss.length) : (ss.take (k + 1)).flatten = (ss.take k).flatten ++ ss[k] := by
  rw [List.take_succ_eq_append_getElem h, List.flatten_append]
  simp
theorem zeros_from (F : By) (l : Nat) : (F.drop l = List.replicate (F.length - l) 0) ↔ ∀ i, l ≤ i → ∀ h : i < F.length, F[i] = 0 := by
  constructor
  · intro h i hi hF
    have h1 : (F.drop l)[i - l]'(by rw [List.length_drop]; omega) = 0 := by simp only [h]; simp
    rw [List.getElem_drop] at h1
    have h2 : l + (i - l) = i := by omega
    simpa [h2] using h1
  · intro h
    apply List.ext_getElem
    · simp
    · intro i h1 h2
      rw [List.getElem_drop, List.getElem_replicate]
      exact h _ (by omega) _

set_option maxRecDepth 100000 in
set_option maxHeartbeats 2000000 in
theorem rjoin_any (ss : List By) (a0 : Option Addr) (c : Nat) (long : Int) (w : World) (hT : Txts w a0 ss) (h2 : ss.length ≤ 100000) (h3 : ∀ s ∈ ss, s.length ≤ 100000) :
    Calls Try.prog 16 #[.slice a0 ss.length c, .int .i64 long] w fun e w' => e = .returned (.tuple #[.string (bs (joinR ss long)), .int .i64 (joinE ss long)]) ∧ Below w.heap.size w w' := by
  by_cases hne : ss = []
  · subst hne
    have e1 : joinE [] long = 1 := by unfold joinE; rw [if_pos (.inl rfl)]
    have e2 : joinR [] long = [] := by unfold joinR; rw [e1]; rfl
    rw [e1, e2]
    have q : (([] : List By).length : Int) = 0 := rfl
    clear e1 e2 hT h3
    generalize ([] : List By).length = n at *
    go_enter Try.func16, Try.ntmps16
    go_wp2
    go_ret2
    exact ⟨rfl, Below.refl _ _⟩
  have hp : 0 < ss.length := List.length_pos_iff.2 hne
  have hh := headD_get ss hp
  obtain ⟨g, o, rfl, hcell⟩ := hT 0 hp
  rw [Nat.add_zero, ← hh] at hcell
  have hsz := bs_size (ss.headD [])
  have hl3 := h3 (ss.headD []) (by rw [hh]; exact List.getElem_mem hp)
  have q0 : ((ss.length : Int) == 0) = false := by rw [beq_eq_false_iff_ne]; omega
  cases hM : may (ss.headD []).length with
  | false =>
    have h0 : ofB ss (ss.headD []).length = false := by unfold ofB; rw [hM, Bool.and_false]
    have e1 : joinE ss long = 1 := by unfold joinE; rw [if_pos (.inr h0)]
    have e2 : joinR ss long = [] := by unfold joinR; rw [e1]; rfl
    rw [e1, e2]
    have hm := hide (rmay_any (ss.headD []).length)
    rw [hM] at hm
    clear h0 e1 e2 hT h3 hM hh hne
    generalize (ss.headD []).length = mm at *
    generalize bs (ss.headD []) = S at *
    generalize ss.length = n at *
    go_enter Try.func16, Try.ntmps16
    go_wp2_with (go_at_call 20; refine (unhide hm _).mono ?_; rintro e w1 ⟨rfl, rfl⟩)
    go_ret2
    exact ⟨rfl, Below.refl _ _⟩
  | true =>
    have hm := hide (rmay_any (ss.headD []).length)
    rw [hM] at hm
    obtain ⟨s1, s2⟩ := may_iff.1 hM
    have HOF : Hid (ofB ss (ss.headD []).length = true ↔ allOf ss (ss.headD []).length) := by
      show _ ↔ _
      rw [ofB_iff]
      exact ⟨fun h => h.1, fun h => ⟨h, by omega, by omega⟩⟩
    have HE : Hid (joinE ss long = if ofB ss (ss.headD []).length = false then 1
        else if 96 < ss.length then 2 else if countN long (ss.headD []).length ≠ ss.length then 9
        else if ss.flatten.drop long.toNat = List.replicate (ss.flatten.length - long.toNat) 0 then 0 else 9) := by
      show _ = _
      unfold joinE
      by_cases hb : ofB ss (ss.headD []).length = false
      · rw [if_pos (.inr hb), if_pos hb]
      · rw [if_neg (by rintro (h | h); exact hne h; exact hb h), if_neg hb]
    have HR : Hid (joinR ss long = if joinE ss long = 0 then ss.flatten.take long.toNat else []) := rfl
    have HJ : Hid (ofB ss (ss.headD []).length = true → countN long (ss.headD []).length = ss.length → ∃ l m : Nat, long = l ∧ m = (ss.headD []).length ∧ 1 ≤ m ∧ m ≤ 64 ∧ ss.flatten.length = ss.length * m ∧ l ≤ ss.flatten.length ∧ ss.flatten.length - l ≤ 64 ∧ 1 ≤ l ∧ l ≤ 4096 ∧ ss.flatten.length ≤ 6144 ∧ ss.length ≤ 96) :=
      fun a b => join_facts (by rintro (h | h); exact hne h; rw [h] at a; cases a) b
    have HT := hide hT
    have H3 := hide h3
    have hcn := hide (rcount_any long (ss.headD []).length)
    have hq4 := countN_le long (ss.headD []).length
    clear hT h3 hM hh hne
    generalize hEE : joinE ss long = E at *
    generalize hRR : bs (joinR ss long) = R at *
    have HR2 := hide hRR
    clear hEE hRR
    generalize hmm : (ss.headD []).length = mm at *
    generalize bs (ss.headD []) = S at *
    clear hmm
    generalize countN long mm = C at *
    generalize hn : ss.length = n at *
    have HN := hide hn
    clear hn
    go_enter Try.func16, Try.ntmps16
    go_wp2_with (go_at_call 20; refine (unhide hm _).mono ?_; rintro e w1 ⟨rfl, rfl⟩)
    go_loopw [6, 7] (fun v i wr => ∃ k j : Nat, k ≤ n ∧ i = .int .i64 k ∧ j = min k 96 ∧ v = .string (bs (ss.take j).flatten) ∧ (ss.take j).flatten.length ≤ j * 64 ∧ allOf (ss.take k) mm ∧ Below w.heap.size w wr) (fun _ i _ => n - (intOf i).toNat)
    case atStart => exact ⟨0, 0, Nat.zero_le _, rfl, rfl, rfl, by simp, fun s hs => by simp at hs, Below.refl _ _⟩
    case round =>
      obtain ⟨k, j, hk, rfl, hj, rfl, hfj, ha, hb⟩ := hrel
      have HB := hide hb
      have hj2 : j ≤ 96 := by omega
      have hzF := bs_size (ss.take j).flatten
      have hfl6 : (ss.take j).flatten.length ≤ 6144 := by omega
      have hcw := cell_below hcell hb
      by_cases hlt : k < n
      · have q1 : (k : Int) < n := by omega
        have hlt' : k < ss.length := by rw [unhide HN]; exact hlt
        obtain ⟨g', o', hga, y1⟩ := unhide HT k hlt'
        simp only [Option.some.injEq, Addr.mk.injEq] at hga
        obtain ⟨rfl, rfl, _⟩ := hga
        have hck := cell_below y1 hb
        have hk3 := unhide H3 ss[k] (List.getElem_mem hlt')
        have hks := bs_size ss[k]
        by_cases hl : (ss[k].length : Int) = mm
        · have HA := hide (allOf_snoc hlt' ha hl)
          have q2 : (((ss[k].length : Nat) : Int) == (mm : Int)) = true := by rw [hl]; simp
          by_cases h96 : k < 96
          · have hjk : j = k := by omega
            subst hjk
            have HF := hide (flat_snoc ss j hlt')
            have HFB := hide (bs_append (ss.take j).flatten ss[j])
            have hl64 : ss[j].length ≤ 64 := by omega
            have q3 : (j : Int) < 96 := by omega
            have HL : Hid ((ss.take (j + 1)).flatten.length ≤ (j + 1) * 64) := by
              show _ ≤ _
              rw [unhide HF, List.length_append]; omega
            generalize ss[j].length = jl at *
            generalize hX : bs ss[j] = X at *
            generalize (ss.take j).flatten.length = tl at *
            generalize hY : bs (ss.take j).flatten = Y at *
            have HX : Hid (Y ++ X = bs (ss.take (j + 1)).flatten) := by
              show _ = _
              rw [unhide HF, ← unhide HFB]
            clear hb ha hj y1 hk3 hl hX hY hfj
            go_wp2
            go_quiet (fail)
            go_wp2
            go_roundw
            case rel => exact ⟨j + 1, j + 1, by omega, by go_num, by omega, by rw [unhide HX], unhide HL, unhide HA, below_drawn (unhide HB) _⟩
            case measure => simp [intOf]; omega
          · have hj96 : j = 96 := by omega
            subst hj96
            have q3 : ¬ (k : Int) < 96 := by omega
            have HFJ := hide hfj
            generalize ss[k].length = jl at *
            generalize hX : bs ss[k] = X at *
            generalize hY : bs (ss.take 96).flatten = Y at *
            have HY := hide hY
            clear hb ha hj y1 hk3 hl hX hY hfj
            go_wp2
            go_quiet (fail)
            go_wp2
            go_roundw
            case rel => exact ⟨k + 1, 96, by omega, by go_num, by omega, by rw [unhide HY], unhide HFJ, unhide HA, below_drawn (unhide HB) _⟩
            case measure => simp [intOf]; omega
        · have hno : ofB ss mm = false := by
            cases h : ofB ss mm
            · rfl
            · exact absurd ((unhide HOF).1 h ss[k] (List.getElem_mem hlt')) hl
          have hE1 : E = 1 := by rw [unhide HE, if_pos hno]
          have HE1 := hide hE1
          have HRR : Hid (R = ⟨#[]⟩) := by
            show _ = _
            rw [← unhide HR2, unhide HR, if_neg (by rw [hE1]; decide)]; rfl
          have q2 : (((ss[k].length : Nat) : Int) == (mm : Int)) = false := by rw [beq_eq_false_iff_ne]; exact hl
          generalize ss[k].length = jl at *
          generalize bs ss[k] = X at *
          generalize bs (ss.take j).flatten = Y at *
          clear hb ha hj y1 hk3 hl hE1 hno hfj
          go_wp2
          go_quiet (fail)
          go_wp2
          go_ret2
          exact ⟨by rw [unhide HE1, unhide HRR]; rfl, below_drawn (unhide HB) _⟩
      · have hke : k = n := by omega
        subst hke
        have htk : ss.take k = ss := by rw [← unhide HN, List.take_length]
        rw [htk] at ha
        have hyes : ofB ss mm = true := (unhide HOF).2 ha
        have q1 : ¬ (k : Int) < k := by omega
        have hEy := unhide HE
        rw [if_neg (by rw [hyes]; simp)] at hEy
        clear ha hb
        by_cases h96 : 96 < k
        · have q2 : (96 : Int) < k := by omega
          have hE1 : E = 2 := by rw [hEy, if_pos h96]
          have HE1 := hide hE1
          have HRR : Hid (R = ⟨#[]⟩) := by
            show _ = _
            rw [← unhide HR2, unhide HR, if_neg (by rw [hE1]; decide)]; rfl
          clear hEy hE1 htk hyes hj
          generalize bs (ss.take j).flatten = Y at *
          go_wp2
          go_ret2
          exact ⟨by rw [unhide HE1, unhide HRR]; rfl, unhide HB⟩
        · have q2 : ¬ (96 : Int) < k := by omega
          rw [if_neg h96] at hEy
          have hjk : j = k := by omega
          subst hjk
          rw [htk] at hzF hfl6 hfj ⊢
          clear htk hj
          by_cases hct : C = j
          · obtain ⟨l, m, rfl, _, m1, m2, f1, f2, f3, f4, f5, f6, f7⟩ := unhide HJ hyes hct
            rw [if_neg (by rw [hct]; simp), Int.toNat_natCast] at hEy
            have HZ := hide (zeros_from ss.flatten l)
            have HEY := hide hEy
            have q3 : ((j : Int) == (C : Int)) = true := by rw [hct]; simp
            have HRT : Hid (joinR ss l = if E = 0 then ss.flatten.take l else []) := unhide HR
            have htb := hide (take_bs ss.flatten l f2)
            clear HE HR HJ HOF hEy hct f1 f7 m1 m2 hyes hfj
            generalize ss.flatten = F at *
            go_wp2_with (go_at_call 13; refine (unhide hcn _).mono ?_; rintro e w1 ⟨rfl, rfl⟩)
            generalize wr = wo at *
            go_loopw [8] (fun i wr => wo = wr ∧ ∃ q : Nat, l ≤ q ∧ q ≤ F.length ∧ i = .int .i64 q ∧ ∀ i, l ≤ i → i < q → ∀ h : i < F.length, F[i] = 0) (fun i _ => F.length - (intOf i).toNat)
            case atStart => exact ⟨rfl, l, Nat.le_refl _, f2, rfl, fun i h1 h2 => by omega⟩
            case round =>
              obtain ⟨rfl, q, hq1, hq2, rfl, hall⟩ := hrel
              by_cases hqlt : q < F.length
              · have q5 : (q : Int) < F.length := by omega
                have hix := run_index_bs (P := Try.prog) 9 F q hqlt (by kernel_rfl)
                by_cases hv : F[q] = 0
                · have q6 : ((F[q].toNat : Int) == 0) = true := by rw [hv]; rfl
                  have HAL : Hid (∀ i, l ≤ i → i < q + 1 → ∀ h : i < F.length, F[i] = 0) := by
                    intro i h1 h2 h3
                    rcases Nat.lt_succ_iff_lt_or_eq.1 h2 with h | rfl
                    · exact hall i h1 h h3
                    · exact hv
                  have hx := F[q].toNat_lt
                  generalize F[q].toNat = x at *
                  clear hv hall
                  go_wp2
                  go_roundw
                  case rel => exact ⟨trivial, q + 1, by omega, by omega, by go_num, unhide HAL⟩
                  case measure => simp [intOf]; omega
                · have hne0 : ¬ F[q].toNat = 0 := fun h => hv (UInt8.toNat_inj.1 (by rw [h]; rfl))
                  have q6 : ((F[q].toNat : Int) == 0) = false := by rw [beq_eq_false_iff_ne]; omega
                  have hno : ¬ F.drop l = List.replicate (F.length - l) 0 := fun h => hv ((unhide HZ).1 h q hq1 hqlt)
                  have hE1 : E = 9 := by rw [unhide HEY, if_neg hno]
                  have HE1 := hide hE1
                  have HRR : Hid (R = ⟨#[]⟩) := by
                    show _ = _
                    rw [← unhide HR2, unhide HRT, if_neg (by rw [hE1]; decide)]; rfl
                  have hx := F[q].toNat_lt
                  generalize F[q].toNat = x at *
                  clear hv hall hne0 hno hE1
                  go_wp2
                  go_ret2
                  exact ⟨by rw [unhide HE1, unhide HRR]; rfl, unhide HB⟩
              · have q5 : ¬ (q : Int) < F.length := by omega
                have hye : F.drop l = List.replicate (F.length - l) 0 := (unhide HZ).2 (fun i h1 h2 => hall i h1 (by omega) h2)
                have hE1 : E = 0 := by rw [unhide HEY, if_pos hye]
                have HE1 := hide hE1
                have HRR : Hid (R = (bs F).extract 0 l) := by
                  show _ = _
                  rw [unhide htb, ← unhide HR2, unhide HRT, if_pos hE1]
                have q7 : (l : Int) ≤ F.length := by omega
                clear hall hye hE1
                go_wp2
                go_ret2
                exact ⟨by rw [unhide HE1, unhide HRR]; rfl, unhide HB⟩
          · have q3 : ((j : Int) == (C : Int)) = false := by rw [beq_eq_false_iff_ne]; omega
            have hE1 : E = 9 := by rw [hEy, if_pos hct]
            have HE1 := hide hE1
            have HRR : Hid (R = ⟨#[]⟩) := by
              show _ = _
              rw [← unhide HR2, unhide HR, if_neg (by rw [hE1]; decide)]; rfl
            clear hEy hE1 hyes
            generalize bs ss.flatten = Y at *
            go_wp2_with (go_at_call 13; refine (unhide hcn _).mono ?_; rintro e w1 ⟨rfl, rfl⟩)
            go_ret2
            exact ⟨by rw [unhide HE1, unhide HRR]; rfl, unhide HB⟩

end Go.Proofs.Ytcpkjnfppglpoaa

/- The law BlockGroup, walked. -/
import Derived.Test.YtcpkjnfppglpoaaBlL
import Derived.Lib.AppendZeros
import Derived.Deep.AppendLies
namespace Go.Proofs.Ytcpkjnfppglpoaa
open Go.RowKit
set_option linter.unusedVariables false

theorem xorL_comm (a b : By) : xorL a b = xorL b a := by
  apply List.ext_getElem
  · rw [xorL_length, xorL_length, Nat.min_comm]
  · intro i h1 h2
    simp [xorL]
    exact UInt8.xor_comm _ _
theorem xorL_assoc (a b c : By) : xorL (xorL a b) c = xorL a (xorL b c) := by
  apply List.ext_getElem
  · simp only [xorL_length, Nat.min_assoc]
  · intro i h1 h2
    simp [xorL, UInt8.xor_assoc]
theorem xorL_zero (a : By) : xorL (List.replicate a.length 0) a = a := by
  apply List.ext_getElem
  · rw [xorL_length]; simp
  · intro i h1 h2
    simp [xorL]
theorem xorL_self (a : By) : xorL a a = List.replicate a.length 0 := by
  apply List.ext_getElem
  · rw [xorL_length]; simp
  · intro i h1 h2
    simp [xorL]
theorem fold_sum (m : Nat) (b : List By) : (∀ s ∈ b, s.length = m) → ∀ a : By, a.length = m → b.foldl xorL a = xorL a (sumL m b) := by
  induction b with
  | nil =>
    intro _ a ha
    show a = xorL a (List.replicate m 0)
    rw [xorL_comm, ← ha, xorL_zero]
  | cons x b ih =>
    intro h a ha
    have hx : x.length = m := h x (by simp)
    have hb : ∀ s ∈ b, s.length = m := fun s hs => h s (by simp [hs])
    have e : sumL m (x :: b) = xorL x (sumL m b) := by
      show (b.foldl xorL (xorL (List.replicate m 0) x)) = _
      rw [ih hb _ (by rw [xorL_len _ _ (by rw [List.length_replicate]; exact hx), List.length_replicate])]
      conv => lhs; rw [← hx]
      rw [xorL_zero, hx]
    rw [List.foldl_cons, ih hb _ (by rw [xorL_len a x (by omega)]; exact ha), e, xorL_assoc]
theorem sumL_append (m : Nat) (a b : List By) (ha : ∀ s ∈ a, s.length = m) (hb : ∀ s ∈ b, s.length = m) : sumL m (a ++ b) = xorL (sumL m a) (sumL m b) := by
  unfold sumL
  rw [List.foldl_append]
  exact fold_sum m b hb _ (sumL_len m a ha)
theorem sumL_one (m : Nat) (x : By) (hx : x.length = m) : sumL m [x] = x := by
  show xorL (List.replicate m 0) x = x
  rw [← hx, xorL_zero]
theorem sumL_reverse (m : Nat) (a : List By) (ha : ∀ s ∈ a, s.length = m) : sumL m a.reverse = sumL m a := by
  induction a with
  | nil => rfl
  | cons x a ih =>
    have hx : x.length = m := ha x (by simp)
    have h' : ∀ s ∈ a, s.length = m := fun s hs => ha s (by simp [hs])
    rw [List.reverse_cons, sumL_append m _ _ (fun s hs => h' s (by simpa using hs)) (fun s hs => by simp at hs; rw [hs]; exact hx), ih h', sumL_one m x hx, xorL_comm]
    have := sumL_append m [x] a (fun s hs => by simp at hs; rw [hs]; exact hx) h'
    rw [sumL_one m x hx] at this
    exact this.symm
theorem sumL_twice (m : Nat) (a : List By) (ha : ∀ s ∈ a, s.length = m) : sumL m (a ++ a.reverse) = List.replicate m 0 := by
  rw [sumL_append m _ _ ha (fun s hs => ha s (by simpa using hs)), sumL_reverse m a ha, xorL_self, sumL_len m a ha]
theorem run_append_empty {P : Program} {w : World} (base : Nat) (t ty e : TypeId) (i : TypeInfo) (size : Nat) (ht : P.underlying t = some (.slice e)) (hi : P.info? e = some i)
    (v : Value) (n : Nat) (xs : List Value) (hown : w.ownsRow base e size v n xs) (a0 : Option Addr) (c : Nat) :
    (Builtin.append_ #[t, t] ty #[v, .slice a0 0 c]).run P w = .ok v w := by
  cases a0 with
  | none =>
    rcases hown.2 with ⟨rfl, rfl⟩ | ⟨g, cap, cur, rfl, _, _, hnc, _⟩
    · simp [Builtin.append_, run_underlying ht, sizeOf, typeInfo, hi, Builtin.lenOf, Builtin.firstCells]
    · simp [Builtin.append_, run_underlying ht, sizeOf, typeInfo, hi, Builtin.lenOf, Builtin.firstCells, hnc, storeCells]
  | some ad =>
    have hl : ∀ w : World, (loadCells ad 0).run P w = .ok #[] w := fun w => by
      have := run_loadCells_list (P := P) w ad [] (fun j u h => by simp at h)
      simpa using this
    rcases hown.2 with ⟨rfl, rfl⟩ | ⟨g, cap, cur, rfl, _, _, hnc, _⟩
    · simp [Builtin.append_, run_underlying ht, sizeOf, typeInfo, hi, Builtin.lenOf, Builtin.firstCells, hl]
    · simp [Builtin.append_, run_underlying ht, sizeOf, typeInfo, hi, Builtin.lenOf, Builtin.firstCells, hnc, storeCells, hl]
theorem ofB_of {ss tt : List By} {size : Int} (h : ofB ss size = true) (hs : ∀ t ∈ tt, t ∈ ss) : ofB tt size = true := by
  obtain ⟨h1, h2⟩ := ofB_iff.1 h
  exact ofB_iff.2 ⟨fun t ht => h1 t (hs t ht), h2⟩
theorem sum_of {ss tt : List By} {size : Int} (h : ofB ss size = true) (hs : ∀ t ∈ tt, t ∈ ss) : sumE tt size = 0 ∧ sumR tt size = sumL size.toNat tt := by
  unfold sumE sumR
  rw [if_pos (ofB_of h hs), if_pos (ofB_of h hs)]
  exact ⟨rfl, rfl⟩
/-- the last ones, from behind -/
theorem rev_snoc (ss : List By) (j : Nat) (h : j < ss.length) : ss.reverse.take (j + 1) = ss.reverse.take j ++ [ss[ss.length - 1 - j]] := by
  rw [List.take_succ_eq_append_getElem (by simpa using h), List.getElem_reverse]

set_option maxRecDepth 100000 in
set_option maxHeartbeats 4000000 in
theorem blockGroup_any (a0 : Option Addr) (ss : List By) (c : Nat) (size part : Int) (w : World) (hT : Txts w a0 ss) (hm : TxtsOk ss c) :
    Calls Try.prog 7 #[.slice a0 ss.length c, .int .i64 size, .int .i64 part] w fun e w' => e = .returned (.bool true) ∧ Below w.heap.size w w' := by
  obtain ⟨m1, m2, m3⟩ := hm
  have haw := hide bawake_any
  by_cases h40 : 40 < ss.length
  · have q1 : (40 : Int) < ss.length := by omega
    unfold maxLen at m2
    clear hT m3
    generalize ss.length = n at *
    go_enter Try.func7, Try.ntmps7
    go_wp2_with fail
    refine (unhide haw _).mono ?_
    rintro e w1 ⟨rfl, b1⟩
    go_wp2
    go_ret
    exact ⟨rfl, b1⟩
  have q1 : ¬ (40 : Int) < ss.length := by omega
  have hfew := hide (few_any ss a0 c w hT (by omega) m3)
  cases hF : fewB ss with
  | false =>
    rw [hF] at hfew
    clear hT m3 hF
    generalize ss.length = n at *
    go_enter Try.func7, Try.ntmps7
    go_wp2_with (go_at_call 14; refine (unhide hfew).mono ?_; rintro e w1 ⟨rfl, rfl⟩)
    refine (unhide haw _).mono ?_
    rintro e w1 ⟨rfl, b1⟩
    go_wp2
    go_ret
    exact ⟨rfl, b1⟩
  | true =>
    rw [hF] at hfew
    obtain ⟨f1, f2⟩ := of_decide_eq_true hF
    have hs := hide (fun (tt : List By) (htt : ∀ t ∈ tt, t ∈ ss) w a0 c hT h2 => sum_any tt a0 c size w hT h2 (fun s hs => Nat.le_trans (f2 s (htt s hs)) (by omega)))
    have hsum := hide (sum_any ss a0 c size w hT (by omega) (fun s hs => Nat.le_trans (f2 s hs) (by omega)))
    cases hO : ofB ss size with
    | false =>
      have e1 : sumE ss size = 1 := by unfold sumE; rw [hO]; rfl
      have e2 : sumR ss size = [] := by unfold sumR; rw [hO]; rfl
      rw [e1, e2] at hsum
      have ht : (bs []).toList.isEmpty = true := by rw [ByteArray.toList_eq, bs_list]; rfl
      clear hT m3 hF hs f2 e1 e2 hO
      generalize ss.length = n at *
      go_enter Try.func7, Try.ntmps7
      go_wp2_with (first | (go_at_call 14; refine (unhide hfew).mono ?_; rintro e w1 ⟨rfl, rfl⟩) | (go_at_call 21; refine (unhide hsum).mono ?_; rintro e w1 ⟨rfl, b1⟩))
      have B1 := hide b1
      clear b1
      refine (unhide haw _).mono ?_
      rintro e w2 ⟨rfl, b2⟩
      have B2 := hide ((unhide B1).trans (b2.mono (unhide B1).size))
      clear b2 B1
      go_wp2
      go_ret
      exact ⟨rfl, unhide B2⟩
    | true =>
      obtain ⟨hal, s1, s2⟩ := ofB_iff.1 hO
      obtain ⟨m, rfl⟩ : ∃ m : Nat, size = m := ⟨size.toNat, by omega⟩
      have hlen : ∀ s ∈ ss, s.length = m := fun s h => by have := hal s h; omega
      have e1 := sum_of hO (tt := ss) (fun t h => h)
      rw [e1.1, e1.2, Int.toNat_natCast] at hsum
      have hz := hide (zero_any m)
      rw [zeroL_nat m (by omega) (by omega)] at hz
      have HO := hide hO
      have HLEN := hide hlen
      have HT := hide hT
      obtain ⟨i0, hi, hz0, hz1, hz2⟩ := info_parts Try.infoS
      clear hT m3 hF f2 e1 hO hal hlen
      generalize hn : ss.length = n at *
      have HN := hide hn
      clear hn
      generalize hS : bs (sumL m ss) = S at *
      have HS := hide hS
      generalize hZ : bs (List.replicate m 0) = Z at *
      have HZ := hide hZ
      clear hS hZ
      have hA : Hid (∀ w a0 c, Txts w a0 ss.reverse → Calls Try.prog 21 #[.slice a0 n c, .int .i64 m] w fun e w' => e = .returned (.tuple #[.string S, .int .i64 0]) ∧ Below w.heap.size w w') := fun w a0 c hT => by
        have hsub : ∀ t ∈ ss.reverse, t ∈ ss := fun t ht => by simpa using ht
        have := unhide hs ss.reverse hsub w a0 c hT (by rw [List.length_reverse, unhide HN]; omega)
        rw [List.length_reverse, unhide HN, (sum_of (unhide HO) hsub).1, (sum_of (unhide HO) hsub).2, Int.toNat_natCast, sumL_reverse m ss (unhide HLEN), unhide HS] at this
        exact this
      have hB : Hid (∀ w a0 c, Txts w a0 (ss ++ ss.reverse) → Calls Try.prog 21 #[.slice a0 (n + n) c, .int .i64 m] w fun e w' => e = .returned (.tuple #[.string Z, .int .i64 0]) ∧ Below w.heap.size w w') := fun w a0 c hT => by
        have hsub : ∀ t ∈ ss ++ ss.reverse, t ∈ ss := fun t ht => by simpa using ht
        have := unhide hs (ss ++ ss.reverse) hsub w a0 c hT (by rw [List.length_append, List.length_reverse, unhide HN]; omega)
        rw [List.length_append, List.length_reverse, unhide HN, (sum_of (unhide HO) hsub).1, (sum_of (unhide HO) hsub).2, Int.toNat_natCast, sumL_twice m ss (unhide HLEN), unhide HZ] at this
        exact this
      have hC : Hid (∀ K, K ≤ n → ∀ w a0 c, Txts w a0 (ss.take K) → Calls Try.prog 21 #[.slice a0 K c, .int .i64 m] w fun e w' => e = .returned (.tuple #[.string (bs (sumL m (ss.take K))), .int .i64 0]) ∧ Below w.heap.size w w') := fun K hK w a0 c hT => by
        have hsub : ∀ t ∈ ss.take K, t ∈ ss := fun t ht => List.mem_of_mem_take ht
        have hl : (ss.take K).length = K := by rw [List.length_take, unhide HN]; omega
        have := unhide hs (ss.take K) hsub w a0 c hT (by omega)
        rw [hl, (sum_of (unhide HO) hsub).1, (sum_of (unhide HO) hsub).2, Int.toNat_natCast] at this
        exact this
      have hD : Hid (∀ K, K ≤ n → ∀ w a0 c, Txts w a0 (ss.drop K) → Calls Try.prog 21 #[.slice a0 (n - K) c, .int .i64 m] w fun e w' => e = .returned (.tuple #[.string (bs (sumL m (ss.drop K))), .int .i64 0]) ∧ Below w.heap.size w w') := fun K hK w a0 c hT => by
        have hsub : ∀ t ∈ ss.drop K, t ∈ ss := fun t ht => List.mem_of_mem_drop ht
        have hl : (ss.drop K).length = n - K := by rw [List.length_drop, unhide HN]
        have := unhide hs (ss.drop K) hsub w a0 c hT (by omega)
        rw [hl, (sum_of (unhide HO) hsub).1, (sum_of (unhide HO) hsub).2, Int.toNat_natCast] at this
        exact this
      have hX : Hid (∀ K w, Calls Try.prog 17 #[.string (bs (sumL m (ss.take K))), .string (bs (sumL m (ss.drop K)))] w fun e w' => e = .returned (.tuple #[.string S, .int .i64 0]) ∧ Below w.heap.size w w') := fun K w => by
        have l1 := sumL_len m (ss.take K) (fun s h => unhide HLEN s (List.mem_of_mem_take h))
        have l2 := sumL_len m (ss.drop K) (fun s h => unhide HLEN s (List.mem_of_mem_drop h))
        have := xor_any (sumL m (ss.take K)) (sumL m (ss.drop K)) w (by omega) (by omega)
        unfold xorR xorE at this
        rw [if_pos (by omega), if_pos (by omega), ← sumL_append m _ _ (fun s h => unhide HLEN s (List.mem_of_mem_take h)) (fun s h => unhide HLEN s (List.mem_of_mem_drop h)), List.take_append_drop, unhide HS] at this
        exact this
      clear hs
      have hm2 : c ≤ 9223372036854775807 := by unfold maxLen at m2; omega
      go_enter Try.func7, Try.ntmps7
      go_wp2_with (first | (go_at_call 14; refine (unhide hfew).mono ?_; rintro e w1 ⟨rfl, rfl⟩) | (go_at_call 21; refine (unhide hsum).mono ?_; rintro e w1 ⟨rfl, b1⟩))
      have B1 := hide b1
      clear b1 hsum hfew
      go_loopw [9, 11] (fun v i wr => ∃ j : Nat, j ≤ n ∧ i = .int .i64 ((n : Int) - 1 - j) ∧ wr.ownsRow w.heap.size 9 1 v j (sc (ss.reverse.take j)) ∧ Below w.heap.size w wr) (fun _ i _ => (intOf i + 1).toNat)
      case atStart => exact ⟨0, Nat.zero_le _, by go_num, World.ownsRow_nil _ _ _ _, unhide B1⟩
      case round =>
        clear B1
        obtain ⟨j, hj, rfl, hown, hb⟩ := hrel
        obtain ⟨ao, cap, rfl⟩ := own_shape' hown
        have HOW := hide hown
        have HB := hide hb
        have hzz := hb.size
        clear hown
        by_cases hlt : j < n
        · obtain ⟨i, hi'⟩ : ∃ i : Nat, i = n - 1 - j := ⟨_, rfl⟩
          have ei : (n : Int) - 1 - j = i := by omega
          rw [ei]
          have hil : i < ss.length := by rw [unhide HN]; omega
          obtain ⟨g, o, rfl, y0⟩ := unhide HT i hil
          have z0 := cell_below y0 hb
          have HR : Hid (ss.reverse.take (j + 1) = ss.reverse.take j ++ [ss[i]]) := by
            show _ = _
            rw [rev_snoc ss j (by rw [unhide HN]; exact hlt)]
            have : ss.length - 1 - j = i := by rw [unhide HN]; omega
            simp only [this]
          generalize hX : bs ss[i] = X at *
          have HX := hide hX
          clear hX y0 hb
          have q3 : (i : Int) < n := by omega
          have HEI := hide ei
          have HI := hide hi'
          clear ei hi'
          go_wp2_with (at_builtin; refine wpList_append_own _ rfl _ _ 23 rfl w.heap.size 9 i0 (.string ⟨#[]⟩) 1 16 Try.undS hi hz0 hz1 hz2 rfl (by decide) _ _ _ rfl ((unhide HOW).alloc _) ⟨wr.heap.size, 0, none⟩ 1 1 [.string X] rfl rfl (news_lit _ [_] _) ?d2 ?d3 ?d4 ?d5 ?_)
          case d2 => first | rfl | (intro u hu; simp at hu; subst hu; rfl)
          case d3 => unfold maxLen; omega
          case d4 => omega
          case d5 => first | omega | (simp; omega)
          intro v' w3 hown' hgrow _
          have hb' := hide ((((unhide HB).alloc (by omega) _)).grown hgrow (by simp; omega) (fun k hk => (((unhide HOW).lt k hk).1)))
          have ho2 : Hid (w3.ownsRow w.heap.size 9 1 v' (j + 1) (sc (ss.reverse.take (j + 1)))) := by
            show World.ownsRow _ _ _ _ _ _ _
            rw [unhide HR, sc_append]
            show World.ownsRow _ _ _ _ _ _ (_ ++ [.string (bs ss[i])])
            rw [unhide HX]
            exact hown'
          obtain ⟨ao', cap', rfl⟩ := own_shape' hown'
          clear hown' hgrow HOW HB
          go_wp2
          go_roundw
          case rel => exact ⟨j + 1, by omega, by have := unhide HEI; have : ((i : Int) - 1) = (n : Int) - 1 - ((j + 1 : Nat) : Int) := by omega
                                                 first | rw [this] | (go_num), unhide ho2, unhide hb'⟩
          case measure => have := unhide HEI; first | (simp [intOf]; done) | (simp [intOf]; omega)
        · have hje : j = n := by omega
          subst hje
          have ei : (j : Int) - 1 - j = -1 := by omega
          rw [ei]
          have HREV : Hid (ss.reverse.take j = ss.reverse) := by
            show _ = _
            rw [List.take_of_length_le (by rw [List.length_reverse, unhide HN]; exact Nat.le_refl _)]
          rw [unhide HREV] at HOW
          clear ei
          have HTr := hide ((unhide HT).below hb)
          clear hb
          rcases Nat.eq_zero_or_pos j with h0 | h0
          · subst h0
            have hap1 := run_append_empty (P := Try.prog) (w := wr) 0 23 23 9 i0 1 Try.undS hi (.slice none 0 0) 0 [] (World.ownsRow_nil _ _ _ _) a0 c
            have hap2 := run_append_empty (P := Try.prog) (w := wr) 0 23 23 9 i0 1 Try.undS hi (.slice none 0 0) 0 [] (World.ownsRow_nil _ _ _ _) ao cap
            have hss : ss = [] := List.eq_nil_of_length_eq_zero (unhide HN)
            have te : ∀ (w : World) a0, Txts w a0 [] := fun w a0 i hi => by simp at hi
            have hA' : Hid (∀ w, Calls Try.prog 21 #[.slice ao 0 cap, .int .i64 m] w fun e w' => e = .returned (.tuple #[.string S, .int .i64 0]) ∧ Below w.heap.size w w') := fun w => unhide hA w ao cap (by rw [hss]; exact te _ _)
            have hB' : Hid (∀ w, Calls Try.prog 21 #[.slice none 0 0, .int .i64 m] w fun e w' => e = .returned (.tuple #[.string Z, .int .i64 0]) ∧ Below w.heap.size w w') := fun w => unhide hB w none 0 (by rw [hss]; exact te _ _)
            have hC' : Hid (∀ w c, Calls Try.prog 21 #[.slice a0 0 c, .int .i64 m] w fun e w' => e = .returned (.tuple #[.string (bs (sumL m (ss.take 0))), .int .i64 0]) ∧ Below w.heap.size w w') := fun w c => unhide hC 0 (Nat.le_refl _) w a0 c (by rw [hss]; exact te _ _)
            have hD' : Hid (∀ w c, Calls Try.prog 21 #[.slice a0 0 c, .int .i64 m] w fun e w' => e = .returned (.tuple #[.string (bs (sumL m (ss.drop 0))), .int .i64 0]) ∧ Below w.heap.size w w') := fun w c => unhide hD 0 (Nat.le_refl _) w a0 c (by rw [hss]; exact te _ _)
            have hX' := hide (unhide hX 0)
            generalize bs (sumL m (ss.take 0)) = U1 at *
            generalize bs (sumL m (ss.drop 0)) = U2 at *
            clear hA hB hC hD hX HOW hss te
            have HP1 := hide hap1
            have HP2 := hide hap2
            clear hap1 hap2
            go_wp2_with (first | (at_builtin; refine Lib.wpList_append_run _ rfl (.tmp 59) (.tmp 60) 23 23 rfl (.slice none 0 0) (.slice a0 0 c) rfl rfl (.slice none 0 0) wr (unhide HP1) ?_) | (at_builtin; refine Lib.wpList_append_run _ rfl (.tmp 62) (.tmp 63) 23 23 rfl (.slice none 0 0) (.slice ao 0 cap) rfl rfl (.slice none 0 0) wr (unhide HP2) ?_))
            refine (unhide hA' _).mono ?_
            rintro e w3 ⟨rfl, b3⟩
            have B3 := hide ((unhide HB).trans (b3.mono (unhide HB).size))
            clear b3 HB
            go_wp2_with fail
            refine (unhide hB' _).mono ?_
            rintro e w4 ⟨rfl, b4⟩
            have B4 := hide ((unhide B3).trans (b4.mono (unhide B3).size))
            clear b4 B3
            go_wp2_with fail
            refine (unhide hC' _ _).mono ?_
            rintro e w5 ⟨rfl, b5⟩
            have B5 := hide ((unhide B4).trans (b5.mono (unhide B4).size))
            clear b5 B4
            go_wp2_with fail
            refine (unhide hD' _ _).mono ?_
            rintro e w6 ⟨rfl, b6⟩
            have B6 := hide ((unhide B5).trans (b6.mono (unhide B5).size))
            clear b6 B5
            go_wp2_with fail
            refine (unhide hX' _).mono ?_
            rintro e w7 ⟨rfl, b7⟩
            have B7 := hide ((unhide B6).trans (b7.mono (unhide B6).size))
            clear b7 B6
            go_wp2_with fail
            refine (unhide haw _).mono ?_
            rintro e w8 ⟨rfl, b8⟩
            have B8 := hide ((unhide B7).trans (b8.mono (unhide B7).size))
            clear b8 B7
            go_wp2_with fail
            refine (unhide hz _).mono ?_
            rintro e w9 ⟨rfl, b9⟩
            have B9 := hide ((unhide B8).trans (b9.mono (unhide B8).size))
            clear b9 B8
            go_wp2
            go_ret
            exact ⟨rfl, unhide B9⟩
          · obtain ⟨g, o, rfl, y0⟩ := unhide HT 0 (by rw [unhide HN]; exact h0)
            clear y0
            obtain ⟨gT, cT, hv, hgb, hgl⟩ := World.ownsRow.form (unhide HOW) h0
            simp only [Value.slice.injEq] at hv
            obtain ⟨rfl, hx8, rfl⟩ := hv
            clear hx8
            obtain ⟨P1, hP1⟩ : ∃ P1, part.tmod j = P1 := ⟨_, rfl⟩
            have hj0 : (0 : Int) < j := by omega
            have hP1a : P1 < j := by rw [← hP1]; exact Int.tmod_lt_of_pos _ hj0
            have hP1b : -(j : Int) < P1 := by
              rw [← hP1]
              have := Int.tmod_lt_of_pos (-part) hj0
              rw [Int.neg_tmod] at this
              omega
            obtain ⟨K, hK⟩ : ∃ K : Nat, (P1 + j).tmod j = K := ⟨((P1 + j).tmod j).toNat, by
              have := Int.tmod_nonneg (j : Int) (show 0 ≤ P1 + j by omega)
              omega⟩
            have hKn : K < j := by
              have := Int.tmod_lt_of_pos (P1 + j) hj0
              rw [hK] at this
              omega
            have hcells1 : ∀ q u, (sc ss)[q]? = some u → wr.cell? ((⟨g, o, none⟩ : Addr).add q) = some u := by
              intro q u hq
              have hql : q < ss.length := by
                rcases Nat.lt_or_ge q ss.length with h | h
                · exact h
                · rw [List.getElem?_eq_none (by rw [sc_length]; exact h)] at hq; cases hq
              rw [sc_get ss q hql] at hq
              obtain ⟨g', o', ha, hc'⟩ := unhide HTr q hql
              simp only [Option.some.injEq, Addr.mk.injEq] at ha
              obtain ⟨rfl, rfl, _⟩ := ha
              rw [Addr.add_mid, hc']
              exact hq
            have HC1 := hide hcells1
            have hsl : (sc ss).length = j * 1 := by rw [sc_length, unhide HN]; omega
            have HSL := hide hsl
            have hrl : (sc ss.reverse).length = j * 1 := by rw [sc_length, List.length_reverse, unhide HN]; omega
            have HRL := hide hrl
            have HCN := hide hKn
            clear hcells1 hsl hrl
            have hjb : j ≤ 40 := by omega
            go_wp2_with (at_builtin; refine wpList_append_own _ rfl _ _ 23 rfl wr.heap.size 9 i0 (.string ⟨#[]⟩) 1 16 Try.undS hi hz0 hz1 hz2 rfl (by decide) (.slice none 0 0) 0 [] rfl (World.ownsRow_nil _ _ _ _) ⟨g, o, none⟩ j c (sc ss) rfl (unhide HSL) (unhide HC1) (sc_one _) ?d3 ?d4 ?d5 ?_)
            case d3 => unfold maxLen; omega
            case d4 => omega
            case d5 => exact Nat.le_refl _
            intro v1 w3 hown1 hgrow1 _
            have hb1 : Below wr.heap.size wr w3 := (Below.refl _ _).grown hgrow1 (Nat.le_refl _) (by intro k hk; cases hk)
            have HOW3 := hide (own_below2 (unhide HOW) hb1)
            obtain ⟨g1, c1, rfl, hg1b, hg1l⟩ := World.ownsRow.form hown1 h0
            have HO1 := hide hown1
            have HB1 := hide hb1
            have hz3 := hb1.size
            clear hown1 hgrow1 hb1 HOW
            go_wp2_with (at_builtin; refine wpList_append_own _ rfl _ _ 23 rfl wr.heap.size 9 i0 (.string ⟨#[]⟩) 1 16 Try.undS hi hz0 hz1 hz2 rfl (by decide) (.slice (some ⟨g1, 0, none⟩) j c1) j (sc ss) rfl (unhide HO1) ⟨gT, 0, none⟩ j cap (sc ss.reverse) rfl (unhide HRL) (World.ownsRow.cells (unhide HOW3) rfl) (sc_one _) ?d3 ?d4 ?d5 ?_)
            case d3 => unfold maxLen; omega
            case d4 => omega
            case d5 => exact hz3
            intro v2 w4 hown2 hgrow2 _
            have hb2 : Below wr.heap.size wr w4 := (unhide HB1).grown hgrow2 hz3 (fun k hk => ((unhide HO1).lt k hk).1)
            have ho2 : OwnS w4 wr.heap.size v2 (ss ++ ss.reverse) := by
              show World.ownsRow _ _ _ _ _ _ _
              rw [sc_append, List.length_append, List.length_reverse, unhide HN]
              exact hown2
            have hor : OwnS w3 w.heap.size (.slice (some ⟨gT, 0, none⟩) j cap) ss.reverse := by
              show World.ownsRow _ _ _ _ _ _ _
              rw [List.length_reverse, unhide HN]
              exact unhide HOW3
            obtain ⟨aR, cR, hvR, hTR, _, _⟩ := hor.txts
            simp only [Value.slice.injEq] at hvR
            obtain ⟨rfl, hx9, rfl⟩ := hvR
            clear hx9
            have hTRr : Txts w4 (some ⟨gT, 0, none⟩) ss.reverse := fun i hi => by
              obtain ⟨g', o', ha, hc'⟩ := hTR i hi
              simp only [Option.some.injEq, Addr.mk.injEq] at ha
              obtain ⟨rfl, rfl, _⟩ := ha
              refine ⟨gT, 0, rfl, ?_⟩
              have e3 : w3.cell? ⟨gT, 0 + i, none⟩ = wr.cell? ⟨gT, 0 + i, none⟩ := (unhide HB1).cell (p := ⟨gT, 0 + i, none⟩) hgl
              have e4 : w4.cell? ⟨gT, 0 + i, none⟩ = wr.cell? ⟨gT, 0 + i, none⟩ := hb2.cell (p := ⟨gT, 0 + i, none⟩) hgl
              rw [e4, ← e3]
              exact hc'
            obtain ⟨a2, c2, rfl, hT2, k1, k2⟩ := ho2.txts
            have hl2 : (ss ++ ss.reverse).length = j + j := by rw [List.length_append, List.length_reverse, unhide HN]
            rw [hl2] at k1 ⊢
            have HT4 := hide ((unhide HTr).below hb2)
            have HR4 := hide hTRr
            have H24 := hide hT2
            have B4 := hide ((unhide HB).trans (hb2.mono (unhide HB).size))
            have HCU := hide hKn
            have q7 : (0 : Int) < j := by omega
            have q8 : (K : Int) ≤ j := by omega
            have q9 : (K : Int) ≤ c := by omega
            have q10 : (j : Int) ≤ c := by omega
            have q11 : ¬ (j : Int) = 0 := by omega
            clear hown2 hgrow2 hb2 ho2 hor hTR hTRr hT2 hl2 HOW3 HO1 HB1 HB HTr HC1
            go_wp2_with fail
            refine (unhide hA _ _ _ (unhide HR4)).mono ?_
            rintro e w5 ⟨rfl, b5⟩
            have B5 := hide ((unhide B4).trans (b5.mono (unhide B4).size))
            have HT5 := hide ((unhide HT4).below b5)
            have H25 := hide ((unhide H24).below b5)
            clear b5 B4 HT4 H24 HR4
            go_wp2_with fail
            refine (unhide hB _ _ _ (unhide H25)).mono ?_
            rintro e w6 ⟨rfl, b6⟩
            have B6 := hide ((unhide B5).trans (b6.mono (unhide B5).size))
            have HT6 := hide ((unhide HT5).below b6)
            clear b6 B5 HT5 H25
            go_wp2_with fail
            refine (unhide hC K (by omega) _ _ _ ((unhide HT6).take K)).mono ?_
            rintro e w7 ⟨rfl, b7⟩
            have B7 := hide ((unhide B6).trans (b7.mono (unhide B6).size))
            have HT7 := hide ((unhide HT6).below b7)
            clear b7 B6 HT6
            have q12 : ¬ c = K := by omega
            have q13 : ¬ c - K = 0 := by omega
            go_wp2_with fail
            refine (unhide hD K (by omega) _ (some ⟨g, o + K, none⟩) _ ((unhide HT7).drop K)).mono ?_
            rintro e w8 ⟨rfl, b8⟩
            have B8 := hide ((unhide B7).trans (b8.mono (unhide B7).size))
            clear b8 B7 HT7
            have hX' := hide (unhide hX K)
            generalize bs (sumL m (ss.take K)) = U1 at *
            generalize bs (sumL m (ss.drop K)) = U2 at *
            clear hA hB hC hD hX
            go_wp2_with fail
            refine (unhide hX' _).mono ?_
            rintro e w9 ⟨rfl, b9⟩
            have B9 := hide ((unhide B8).trans (b9.mono (unhide B8).size))
            clear b9 B8
            go_wp2_with fail
            refine (unhide haw _).mono ?_
            rintro e w10 ⟨rfl, b10⟩
            have B10 := hide ((unhide B9).trans (b10.mono (unhide B9).size))
            clear b10 B9
            go_wp2_with fail
            refine (unhide hz _).mono ?_
            rintro e w11 ⟨rfl, b11⟩
            have B11 := hide ((unhide B10).trans (b11.mono (unhide B10).size))
            clear b11 B10
            go_wp2
            go_ret
            exact ⟨rfl, unhide B11⟩
end Go.Proofs.Ytcpkjnfppglpoaa

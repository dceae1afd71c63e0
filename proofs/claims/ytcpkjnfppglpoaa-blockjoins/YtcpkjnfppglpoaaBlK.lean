/- The laws BlockJoins and BlockBack, walked. -/
import Derived.Test.YtcpkjnfppglpoaaBlL
import Derived.Test.YtcpkjnfppglpoaaBlJ
namespace Go.Proofs.Ytcpkjnfppglpoaa
open Go.RowKit
set_option linter.unusedVariables false

set_option maxRecDepth 100000 in
set_option maxHeartbeats 1000000 in
theorem blockJoins_any (a0 : Option Addr) (ss : List By) (c : Nat) (long : Int) (w : World) (hT : Txts w a0 ss) (hm : TxtsOk ss c) :
    Calls Try.prog 4 #[.slice a0 ss.length c, .int .i64 long] w fun e w' => e = .returned (.bool true) ∧ Below w.heap.size w w' := by
  obtain ⟨m1, m2, m3⟩ := hm
  have haw := hide bawake_any
  have hfew := hide (few_any ss a0 c w hT (by omega) m3)
  cases hF : fewB ss with
  | false =>
    rw [hF] at hfew
    clear hT m3 hF
    generalize ss.length = n at *
    go_enter Try.func4, Try.ntmps4
    go_wp2_with fail
    refine (unhide hfew).mono ?_
    rintro e w1 ⟨rfl, rfl⟩
    go_wp2_with fail
    refine (unhide haw _).mono ?_
    rintro e w1 ⟨rfl, b1⟩
    go_wp2
    go_ret
    exact ⟨rfl, b1⟩
  | true =>
    rw [hF] at hfew
    obtain ⟨f1, f2⟩ := of_decide_eq_true hF
    have hj := hide (fun w' (hb : Below w.heap.size w w') => join_any ss a0 c long w' (hT.below hb) (by omega) m1 (fun s hs => Nat.le_trans (f2 s hs) (by omega)))
    have hr := hide (fun w' (hb : Below w.heap.size w w') => rjoin_any ss a0 c long w' (hT.below hb) (by omega) (fun s hs => Nat.le_trans (f2 s hs) (by omega)))
    generalize bs (joinR ss long) = R at *
    generalize joinE ss long = E at *
    have hx : (E == E) = true := by simp
    clear hT m3 hF f2
    generalize ss.length = n at *
    go_enter Try.func4, Try.ntmps4
    go_wp2_with fail
    refine (unhide hfew).mono ?_
    rintro e w1 ⟨rfl, rfl⟩
    go_wp2_with fail
    refine (unhide hj _ (Below.refl _ _)).mono ?_
    rintro e w1 ⟨rfl, b1⟩
    have B1 := hide b1
    clear b1
    go_wp2_with fail
    refine (unhide hr _ (unhide B1)).mono ?_
    rintro e w2 ⟨rfl, b2⟩
    have B2 := hide ((unhide B1).trans (b2.mono (unhide B1).size))
    clear b2 B1
    go_wp2_with fail
    refine (unhide haw _).mono ?_
    rintro e w3 ⟨rfl, b3⟩
    have B3 := hide ((unhide B2).trans (b3.mono (unhide B2).size))
    clear b3 B2
    go_wp2
    go_ret
    exact ⟨rfl, unhide B3⟩

theorem pieceL_add (f : By) (a b : Nat) : pieceL f (a + b) = pieceL f a ++ pieceL (f.drop a) b := by
  induction b with
  | zero => rw [Nat.add_zero, pieceL_zero, List.append_nil]
  | succ b ih =>
    rw [← Nat.add_assoc, pieceL_succ, ih, pieceL_succ, List.append_assoc]
    congr 2
    simp [List.getD]
theorem cut_flat (f : By) (s n : Nat) : (cutL f s n).flatten = pieceL f (n * s) := by
  induction n with
  | zero => simp [cutL, pieceL]
  | succ n ih =>
    rw [cutL_succ, List.flatten_append, ih, Nat.add_mul, Nat.one_mul, pieceL_add]
    simp
theorem pieceL_long (f : By) (N : Nat) (h : f.length ≤ N) : pieceL f N = f ++ List.replicate (N - f.length) 0 := by
  unfold pieceL
  rw [List.take_of_length_le h]
theorem joinR_len (ss : List By) (long : Int) (h : joinE ss long = 0) : ((joinR ss long).length : Int) = long := by
  unfold joinR
  rw [if_pos h]
  unfold joinE at h
  split at h
  · cases h
  split at h
  · cases h
  split at h
  · cases h
  · rename_i h0 h1 h2
    obtain ⟨l, m, rfl, _, _, _, _, hl, _⟩ := join_facts h0 (by simpa using h2)
    rw [List.length_take]
    omega
theorem back_math {f : By} {size : Int} (h : cutE f size = 0) : joinE (cutR f size) f.length = 0 ∧ joinR (cutR f size) f.length = f ∧ (cutR f size).length = countN f.length size ∧ (∀ s ∈ cutR f size, s.length ≤ 64) := by
  obtain ⟨s, rfl, s1, s2, s3, s4, s5, s6, s7⟩ := cutE_zero h
  have hr : cutR f s = cutL f s (countN f.length s) := by unfold cutR; rw [if_pos h]; rfl
  rw [hr]
  have hlen := cutL_length f s (countN f.length s)
  have hall : ∀ t ∈ cutL f s (countN f.length s), t.length = s := by
    intro t ht
    obtain ⟨i, _, rfl⟩ := List.mem_map.1 ht
    exact pieceL_length _ _
  have hne : cutL f s (countN f.length s) ≠ [] := fun h => by rw [h] at hlen; simp at hlen; omega
  have hhd : ((cutL f s (countN f.length s)).headD []).length = s := by
    rw [headD_get _ (List.length_pos_iff.2 hne)]
    exact hall _ (List.getElem_mem _)
  have hof : ofB (cutL f s (countN f.length s)) s = true := ofB_iff.2 ⟨fun t ht => by rw [hall t ht], by omega, by omega⟩
  have hN : f.length ≤ countN f.length s * s := by
    rcases Nat.lt_or_ge (countN f.length s * s) f.length with h' | h'
    · have := (ceil_lt f.length s (countN f.length s) s1 s3).1 h'
      rw [← s5] at this
      omega
    · exact h'
  have hfl : (cutL f s (countN f.length s)).flatten = f ++ List.replicate (countN f.length s * s - f.length) 0 := by rw [cut_flat, pieceL_long _ _ hN]
  have hE : joinE (cutL f s (countN f.length s)) f.length = 0 := by
    unfold joinE
    rw [if_neg (by rw [hhd, hof]; rintro (h | h); exact hne h; cases h), hhd, hlen, if_neg (by omega), if_neg (by simp), if_pos]
    rw [hfl, Int.toNat_natCast, List.drop_left, List.length_append, List.length_replicate]
    congr 1
    omega
  refine ⟨hE, ?_, hlen, fun t ht => by rw [hall t ht]; exact s2⟩
  unfold joinR
  rw [if_pos hE, hfl, Int.toNat_natCast, List.take_left]

set_option maxRecDepth 100000 in
set_option maxHeartbeats 2000000 in
theorem blockBack_any (f : ByteArray) (size long : Int) (w : World) (hf : f.size ≤ maxLen) :
    Calls Try.prog 6 #[.string f, .int .i64 size, .int .i64 long] w fun e w' => e = .returned (.bool true) ∧ Below w.heap.size w w' := by
  have haw := hide bawake_any
  by_cases h : f.size ≤ 6000
  · rw [← bs_of f]
    have hl : f.size = f.data.toList.length := by simp
    rw [hl] at h
    have hl2 := bs_size f.data.toList
    clear hl hf
    generalize f.data.toList = F at *
    have hc := hide (fun w => cut_any F size w h)
    have hn := hide (count_any F.length size)
    have q0 : ¬ (6000 : Int) < F.length := by omega
    by_cases hE : cutE F size = 0
    · obtain ⟨e1, e2, e3, e4⟩ := back_math hE
      have hj := hide (fun w a0 c hT hc => join_any (cutR F size) a0 c F.length w hT (by rw [e3]; have := countN_le F.length size; omega) hc (fun s hs => Nat.le_trans (e4 s hs) (by omega)))
      have hj2 := hide (fun w a0 c hT hc => join_any (cutR F size) a0 c long w hT (by rw [e3]; have := countN_le F.length size; omega) hc (fun s hs => Nat.le_trans (e4 s hs) (by omega)))
      have HJL := hide (joinR_len (cutR F size) long)
      have HSame : Hid (long = (F.length : Int) → joinE (cutR F size) long = 0 ∧ joinR (cutR F size) long = F) := fun hh => by rw [hh]; exact ⟨e1, e2⟩
      rw [e1, e2] at hj
      rw [hE] at hc
      have h3 : (cutR F size).length ≤ 96 := by rw [e3]; exact countN_le _ _
      rw [← e3] at hn
      clear hE e1 e2 e3 e4
      generalize cutR F size = R at *
      have hb2 := bs_size (joinR R long)
      have hjl : (joinR R long).length ≤ maxLen → True := fun _ => trivial
      generalize hG : joinE R long = G at *
      generalize hTT : joinR R long = TT at *
      by_cases hG0 : G = 0
      · subst hG0
        have hTl := unhide HJL rfl
        by_cases hsame : long = (F.length : Int)
        · obtain ⟨_, hTF⟩ := unhide HSame hsame
          subst hTF
          subst hsame
          have x1 : ((TT.length : Int) == (TT.length : Int)) = true := by simp
          clear hTl hG hTT HSame HJL
          generalize bs TT = B at *
          generalize TT.length = n at *
          generalize hrn : R.length = rn at *
          have HRN := hide hrn
          clear hrn
          go_enter Try.func6, Try.ntmps6
          go_wp2_with fail
          refine (unhide hc _).mono ?_
          rintro e w1 ⟨v, rfl, ho1, b1⟩
          obtain ⟨a0, c, rfl, hT1, hc1, hc2⟩ := ho1.txts
          rw [unhide HRN] at hc1 ⊢
          have HT1 := hide hT1
          have HB1 := hide b1
          clear ho1 hT1 b1
          unfold maxLen at hc2
          go_wp2_with fail
          refine (unhide hj _ a0 c (unhide HT1) hc1).mono ?_
          rintro e w2 ⟨rfl, b2⟩
          have HT2 := hide ((unhide HT1).below b2)
          have HB2 := hide ((unhide HB1).trans (b2.mono (unhide HB1).size))
          clear b2 HT1 HB1
          go_wp2_with fail
          refine (unhide hj2 _ a0 c (unhide HT2) hc1).mono ?_
          rintro e w3 ⟨rfl, b3⟩
          have HB3 := hide ((unhide HB2).trans (b3.mono (unhide HB2).size))
          clear b3 HT2 HB2
          go_wp2_with (go_at_call 12; refine (unhide hn _).mono ?_; rintro e w5 ⟨rfl, rfl⟩)
          refine (unhide haw _).mono ?_
          rintro e w4 ⟨rfl, b4⟩
          have HB4 := hide ((unhide HB3).trans (b4.mono (unhide HB3).size))
          clear b4 HB3
          go_wp2
          go_ret
          exact ⟨rfl, unhide HB4⟩
        · subst hTl
          have x1 : ((TT.length : Int) == (TT.length : Int)) = true := by simp
          have x2 : ((TT.length : Int) == (F.length : Int)) = false := by rw [beq_eq_false_iff_ne]; exact hsame
          have x3 : ¬ TT.length = F.length := by omega
          clear hG hTT HSame HJL
          generalize bs TT = B at *
          generalize TT.length = n at *
          generalize bs F = BF at *
          generalize F.length = fl at *
          generalize hrn : R.length = rn at *
          have HRN := hide hrn
          clear hrn
          go_enter Try.func6, Try.ntmps6
          go_wp2_with fail
          refine (unhide hc _).mono ?_
          rintro e w1 ⟨v, rfl, ho1, b1⟩
          obtain ⟨a0, c, rfl, hT1, hc1, hc2⟩ := ho1.txts
          rw [unhide HRN] at hc1 ⊢
          have HT1 := hide hT1
          have HB1 := hide b1
          clear ho1 hT1 b1
          unfold maxLen at hc2
          go_wp2_with fail
          refine (unhide hj _ a0 c (unhide HT1) hc1).mono ?_
          rintro e w2 ⟨rfl, b2⟩
          have HT2 := hide ((unhide HT1).below b2)
          have HB2 := hide ((unhide HB1).trans (b2.mono (unhide HB1).size))
          clear b2 HT1 HB1
          go_wp2_with fail
          refine (unhide hj2 _ a0 c (unhide HT2) hc1).mono ?_
          rintro e w3 ⟨rfl, b3⟩
          have HB3 := hide ((unhide HB2).trans (b3.mono (unhide HB2).size))
          clear b3 HT2 HB2
          go_wp2_with (go_at_call 12; refine (unhide hn _).mono ?_; rintro e w5 ⟨rfl, rfl⟩)
          refine (unhide haw _).mono ?_
          rintro e w4 ⟨rfl, b4⟩
          have HB4 := hide ((unhide HB3).trans (b4.mono (unhide HB3).size))
          clear b4 HB3
          go_wp2
          go_ret
          exact ⟨rfl, unhide HB4⟩
      · have x0 : (G == 0) = false := by rw [beq_eq_false_iff_ne]; exact hG0
        clear hG hTT HSame HJL
        generalize bs TT = B at *
        generalize TT.length = n at *
        generalize bs F = BF at *
        generalize F.length = fl at *
        generalize hrn : R.length = rn at *
        have HRN := hide hrn
        clear hrn
        go_enter Try.func6, Try.ntmps6
        go_wp2_with fail
        refine (unhide hc _).mono ?_
        rintro e w1 ⟨v, rfl, ho1, b1⟩
        obtain ⟨a0, c, rfl, hT1, hc1, hc2⟩ := ho1.txts
        rw [unhide HRN] at hc1 ⊢
        have HT1 := hide hT1
        have HB1 := hide b1
        clear ho1 hT1 b1
        unfold maxLen at hc2
        go_wp2_with fail
        refine (unhide hj _ a0 c (unhide HT1) hc1).mono ?_
        rintro e w2 ⟨rfl, b2⟩
        have HT2 := hide ((unhide HT1).below b2)
        have HB2 := hide ((unhide HB1).trans (b2.mono (unhide HB1).size))
        clear b2 HT1 HB1
        go_wp2_with fail
        refine (unhide hj2 _ a0 c (unhide HT2) hc1).mono ?_
        rintro e w3 ⟨rfl, b3⟩
        have HB3 := hide ((unhide HB2).trans (b3.mono (unhide HB2).size))
        clear b3 HT2 HB2
        go_wp2_with (go_at_call 12; refine (unhide hn _).mono ?_; rintro e w5 ⟨rfl, rfl⟩)
        refine (unhide haw _).mono ?_
        rintro e w4 ⟨rfl, b4⟩
        have HB4 := hide ((unhide HB3).trans (b4.mono (unhide HB3).size))
        clear b4 HB3
        go_wp2
        go_ret
        exact ⟨rfl, unhide HB4⟩
    · have hR : cutR F size = [] := by unfold cutR; rw [if_neg hE]
      rw [hR] at hc
      have x0 : (cutE F size == 0) = false := by rw [beq_eq_false_iff_ne]; exact hE
      clear hR hE
      generalize cutE F size = E at *
      generalize bs F = B at *
      generalize F.length = n at *
      go_enter Try.func6, Try.ntmps6
      go_wp2_with fail
      refine (unhide hc _).mono ?_
      rintro e w1 ⟨v, rfl, ho1, b1⟩
      obtain ⟨a0, c, rfl, hT1, hc1, hc2⟩ := ho1.txts
      have HB1 := hide b1
      clear ho1 hT1 b1
      have hl0 : ([] : List By).length = 0 := rfl
      rw [hl0]
      go_wp2_with fail
      refine (unhide haw _).mono ?_
      rintro e w4 ⟨rfl, b4⟩
      have HB4 := hide ((unhide HB1).trans (b4.mono (unhide HB1).size))
      clear b4 HB1
      go_wp2
      go_ret
      exact ⟨rfl, unhide HB4⟩
  · have q0 : (6000 : Int) < f.size := by omega
    unfold maxLen at hf
    go_enter Try.func6, Try.ntmps6
    go_wp2_with fail
    refine (unhide haw _).mono ?_
    rintro e w1 ⟨rfl, b1⟩
    go_wp2
    go_ret
    exact ⟨rfl, b1⟩

end Go.Proofs.Ytcpkjnfppglpoaa

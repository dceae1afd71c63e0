/- The laws BitsMakes, BitsTurns, BitsBoth, BitsRanks, walked. -/
import Derived.Test.YtfcgbalcdnfmaaaBrB
import Derived.Test.YtfcgbalcdnfmaaaBrC
namespace Go.Proofs.Ytfcgbalcdnfmaaa
open Go.RowKit
set_option linter.unusedVariables false

theorem lit3i (w : World) (a b c : Int) (t : TypeId) : Ints (w.alloc (.cells #[.int .i64 a, .int .i64 b, .int .i64 c] t)) (some ⟨w.heap.size, 0, none⟩) [a, b, c] := by
  have hb := heap_alloc_new w (.cells #[.int .i64 a, .int .i64 b, .int .i64 c] t)
  intro i hi
  match i, hi with
  | 0, _ => exact ⟨_, _, rfl, by rw [cell_of_row _ _ _ _ t (0, 0) hb]; rfl⟩
  | 1, _ => exact ⟨_, _, rfl, by rw [cell_of_row _ _ _ _ t (0, 0) hb]; rfl⟩
  | 2, _ => exact ⟨_, _, rfl, by rw [cell_of_row _ _ _ _ t (0, 0) hb]; rfl⟩
set_option maxRecDepth 100000 in
set_option maxHeartbeats 1000000 in
theorem tawake_any (w : World) : Calls Try.prog 9 #[] w fun e w' => e = .returned (.bool true) ∧ Below w.heap.size w w' := by
  have ho := hide (fun w a0 c hT => of_any 10 [9, 0, 3] a0 c w hT (by decide))
  have hf := hide (full_any 10)
  have hn := hide (fun w => nth_any [255, 3] 2 w (by decide))
  have e1 : ofE 10 [9, 0, 3] = 0 := by decide
  have e2 : ofR 10 [9, 0, 3] = [9, 2] := by decide
  have e3 : fullL 10 = [255, 3] := by decide
  have e4 : nthI [255, 3] 2 = 2 := by decide
  rw [e1, e2, show bs [9, 2] = ⟨#[9, 2]⟩ from rfl] at ho
  rw [e3, show bs [255, 3] = ⟨#[255, 3]⟩ from rfl] at hf
  rw [e4, show bs [255, 3] = ⟨#[255, 3]⟩ from rfl] at hn
  clear e1 e2 e3 e4
  go_enter Try.func9, Try.ntmps9
  go_wp2_with fail
  have ba : Below w.heap.size w (w.alloc (.cells #[.int .i64 9, .int .i64 0, .int .i64 3] 3)) := (Below.refl _ _).alloc (Nat.le_refl _) _
  refine (unhide ho _ _ _ (lit3i w 9 0 3 3)).mono ?_
  rintro e w1 ⟨rfl, b1⟩
  have B1 := hide (ba.trans (b1.mono ba.size))
  clear b1 ba
  go_wp2_with fail
  refine (unhide hf _).mono ?_
  rintro e w2 ⟨rfl, b2⟩
  have B2 := hide ((unhide B1).trans (b2.mono (unhide B1).size))
  clear b2 B1
  go_wp2_with fail
  refine (unhide hf _).mono ?_
  rintro e w3 ⟨rfl, b3⟩
  have B3 := hide ((unhide B2).trans (b3.mono (unhide B2).size))
  clear b3 B2
  go_wp2_with fail
  refine (unhide hn _).mono ?_
  rintro e w4 ⟨rfl, b4⟩
  have B4 := hide ((unhide B3).trans (b4.mono (unhide B3).size))
  clear b4 B3
  go_wp2
  go_ret
  exact ⟨rfl, unhide B4⟩
set_option maxRecDepth 100000 in
set_option maxHeartbeats 4000000 in
theorem bitsTurns_any (n : Int) (s : ByteArray) (i : Int) (w : World) (hs : s.size ≤ maxLen) (hi : (Lit.int .i64 i).wf = true) :
    Calls Try.prog 4 #[.int .i64 n, .string s, .int .i64 i] w fun e w' => e = .returned (.bool true) ∧ Below w.heap.size w w' := by
  have haw := hide tawake_any
  have hi2 := (wf64 hi).2
  by_cases h : s.size ≤ 30
  · rw [← bs_of s]
    have hl : s.size = s.data.toList.length := by simp
    rw [hl] at h hs
    have hl2 := bs_size s.data.toList
    clear hl hi
    generalize s.data.toList = S at *
    have h1 := hide (fun w => with_any n S i w hs)
    have h2 := hide (fun w => rset_any n S i true w hs)
    have h3 := hide (fun w => wout_any n S i w hs)
    have h4 := hide (fun w => rset_any n S i false w hs)
    have h5 := hide (fun w => has_any S i w (by omega))
    have h6 := hide (fun w => rhas_any S i w (by omega) hi2)
    have e1 : setR n S i true = withR n S i := rfl
    have e2 : setR n S i false = woutR n S i := rfl
    rw [e1] at h2
    rw [e2] at h4
    generalize bs (withR n S i) = R1 at *
    generalize bs (woutR n S i) = R2 at *
    generalize oneE n S i = E at *
    generalize hasI S i = HB at *
    have hx : (E == E) = true := by simp
    have q0 : ¬ (30 : Int) < S.length := by omega
    clear e1 e2 hs
    generalize bs S = B at *
    generalize S.length = sl at *
    go_enter Try.func4, Try.ntmps4
    go_wp2_with fail
    refine (unhide h1 _).mono ?_
    rintro e w1 ⟨rfl, b1⟩
    have B1 := hide b1
    clear b1
    go_wp2_with fail
    refine (unhide h2 _).mono ?_
    rintro e w2 ⟨rfl, b2⟩
    have B2 := hide ((unhide B1).trans (b2.mono (unhide B1).size))
    clear b2 B1
    go_wp2_with fail
    refine (unhide h3 _).mono ?_
    rintro e w3 ⟨rfl, b3⟩
    have B3 := hide ((unhide B2).trans (b3.mono (unhide B2).size))
    clear b3 B2
    go_wp2_with fail
    refine (unhide h4 _).mono ?_
    rintro e w4 ⟨rfl, b4⟩
    have B4 := hide ((unhide B3).trans (b4.mono (unhide B3).size))
    clear b4 B3
    go_wp2_with fail
    refine (unhide haw _).mono ?_
    rintro e w5 ⟨rfl, b5⟩
    have B5 := hide ((unhide B4).trans (b5.mono (unhide B4).size))
    clear b5 B4
    go_wp2_with fail
    refine (unhide h5 _).mono ?_
    rintro e w6 ⟨rfl, b6⟩
    have B6 := hide ((unhide B5).trans (b6.mono (unhide B5).size))
    clear b6 B5
    go_wp2_with fail
    refine (unhide h6 _).mono ?_
    rintro e w7 ⟨rfl, rfl⟩
    go_wp2
    go_ret
    exact ⟨rfl, unhide B6⟩
  · have q0 : (30 : Int) < s.size := by omega
    unfold maxLen at hs
    go_enter Try.func4, Try.ntmps4
    go_wp2_with fail
    refine (unhide haw _).mono ?_
    rintro e w1 ⟨rfl, b1⟩
    have B1 := hide b1
    clear b1
    go_wp2
    go_ret
    exact ⟨rfl, unhide B1⟩
set_option maxRecDepth 100000 in
set_option maxHeartbeats 4000000 in
theorem bitsBoth_any (a b : ByteArray) (w : World) (ha : a.size ≤ maxLen) (hb : b.size ≤ maxLen) :
    Calls Try.prog 5 #[.string a, .string b] w fun e w' => e = .returned (.bool true) ∧ Below w.heap.size w w' := by
  have haw := hide tawake_any
  unfold maxLen at ha hb
  by_cases h : a.size ≤ 30
  · by_cases h' : b.size ≤ 30
    · rw [← bs_of a, ← bs_of b]
      have hl : a.size = a.data.toList.length := by simp
      have hl' : b.size = b.data.toList.length := by simp
      rw [hl] at h
      rw [hl'] at h'
      have hl2 := bs_size a.data.toList
      have hl3 := bs_size b.data.toList
      clear hl hl' ha hb
      generalize a.data.toList = A at *
      generalize b.data.toList = B at *
      have h1 := hide (fun w => and_any A B w (by omega) (by omega))
      have h2 := hide (fun w => or_any A B w (by omega) (by omega))
      have h3 := hide (fun w => minus_any A B w (by omega) (by omega))
      have h4 := hide (fun w => rbothAnd_any A B w (by omega) (by omega))
      have h5 := hide (fun w => rbothOr_any A B w (by omega) (by omega))
      have h6 := hide (fun w => rbothMinus_any A B w (by omega) (by omega))
      generalize bs (bothR (fun x y => x &&& y) A B) = R1 at *
      generalize bs (bothR (fun x y => x ||| y) A B) = R2 at *
      generalize bs (bothR (fun x y => x &&& ~~~y) A B) = R3 at *
      generalize bothE A B = E at *
      have hx : (E == E) = true := by simp
      have q0 : ¬ (30 : Int) < A.length := by omega
      have q1 : ¬ (30 : Int) < B.length := by omega
      generalize bs A = X at *
      generalize bs B = Y at *
      generalize A.length = al at *
      generalize B.length = bl at *
      go_enter Try.func5, Try.ntmps5
      go_wp2_with fail
      refine (unhide h1 _).mono ?_
      rintro e w1 ⟨rfl, b1⟩
      have B1 := hide b1
      clear b1
      go_wp2_with fail
      refine (unhide h2 _).mono ?_
      rintro e w2 ⟨rfl, b2⟩
      have B2 := hide ((unhide B1).trans (b2.mono (unhide B1).size))
      clear b2 B1
      go_wp2_with fail
      refine (unhide h3 _).mono ?_
      rintro e w3 ⟨rfl, b3⟩
      have B3 := hide ((unhide B2).trans (b3.mono (unhide B2).size))
      clear b3 B2
      go_wp2_with fail
      refine (unhide h4 _).mono ?_
      rintro e w4 ⟨rfl, b4⟩
      have B4 := hide ((unhide B3).trans (b4.mono (unhide B3).size))
      clear b4 B3
      go_wp2_with fail
      refine (unhide h5 _).mono ?_
      rintro e w5 ⟨rfl, b5⟩
      have B5 := hide ((unhide B4).trans (b5.mono (unhide B4).size))
      clear b5 B4
      go_wp2_with fail
      refine (unhide h6 _).mono ?_
      rintro e w6 ⟨rfl, b6⟩
      have B6 := hide ((unhide B5).trans (b6.mono (unhide B5).size))
      clear b6 B5
      go_wp2_with fail
      refine (unhide haw _).mono ?_
      rintro e w7 ⟨rfl, b7⟩
      have B7 := hide ((unhide B6).trans (b7.mono (unhide B6).size))
      clear b7 B6
      go_wp2
      go_ret
      exact ⟨rfl, unhide B7⟩
    · have q0 : ¬ (30 : Int) < a.size := by omega
      have q1 : (30 : Int) < b.size := by omega
      go_enter Try.func5, Try.ntmps5
      go_wp2_with fail
      refine (unhide haw _).mono ?_
      rintro e w1 ⟨rfl, b1⟩
      have B1 := hide b1
      clear b1
      go_wp2
      go_ret
      exact ⟨rfl, unhide B1⟩
  · have q0 : (30 : Int) < a.size := by omega
    go_enter Try.func5, Try.ntmps5
    go_wp2_with fail
    refine (unhide haw _).mono ?_
    rintro e w1 ⟨rfl, b1⟩
    have B1 := hide b1
    clear b1
    go_wp2
    go_ret
    exact ⟨rfl, unhide B1⟩
set_option maxRecDepth 100000 in
set_option maxHeartbeats 4000000 in
theorem bitsRanks_any (s : ByteArray) (i k : Int) (w : World) (hs : s.size ≤ maxLen) :
    Calls Try.prog 6 #[.string s, .int .i64 i, .int .i64 k] w fun e w' => e = .returned (.bool true) ∧ Below w.heap.size w w' := by
  have haw := hide tawake_any
  unfold maxLen at hs
  by_cases h : s.size ≤ 30
  · rw [← bs_of s]
    have hl : s.size = s.data.toList.length := by simp
    rw [hl] at h
    have hl2 := bs_size s.data.toList
    clear hl hs
    generalize s.data.toList = S at *
    have h1 := hide (fun w => count_any S w (by omega))
    have h2 := hide (fun w => rrank_any S (8 * (S.length : Int)) w (by omega))
    have e1 : rankI S (8 * (S.length : Int)) = rankN S (8 * S.length) := by unfold rankI; congr 1
    rw [e1] at h2
    have h3 := hide (fun w => rank_any S i w (by omega))
    have h4 := hide (fun w => rrank_any S i w (by omega))
    have h5 := hide (fun w => nth_any S k w (by omega))
    have h6 := hide (fun w => rnth_any S k w (by omega))
    generalize rankN S (8 * S.length) = R1 at *
    generalize rankI S i = R2 at *
    generalize nthI S k = R3 at *
    have hx1 : ((R1 : Int) == R1) = true := by simp
    have hx2 : ((R2 : Int) == R2) = true := by simp
    have hx3 : (R3 == R3) = true := by simp
    have q0 : ¬ (30 : Int) < S.length := by omega
    clear e1
    generalize bs S = B at *
    generalize S.length = sl at *
    go_enter Try.func6, Try.ntmps6
    go_wp2_with fail
    refine (unhide haw _).mono ?_
    rintro e w1 ⟨rfl, b1⟩
    have B1 := hide b1
    clear b1
    go_wp2_with fail
    refine (unhide h1 _).mono ?_
    rintro e w2 ⟨rfl, b2⟩
    have B2 := hide ((unhide B1).trans (b2.mono (unhide B1).size))
    clear b2 B1
    go_wp2_with fail
    refine (unhide h2 _).mono ?_
    rintro e w3 ⟨rfl, rfl⟩
    go_wp2_with fail
    refine (unhide h3 _).mono ?_
    rintro e w4 ⟨rfl, b4⟩
    have B4 := hide ((unhide B2).trans (b4.mono (unhide B2).size))
    clear b4 B2
    go_wp2_with fail
    refine (unhide h4 _).mono ?_
    rintro e w5 ⟨rfl, rfl⟩
    go_wp2_with fail
    refine (unhide h5 _).mono ?_
    rintro e w6 ⟨rfl, b6⟩
    have B6 := hide ((unhide B4).trans (b6.mono (unhide B4).size))
    clear b6 B4
    go_wp2_with fail
    refine (unhide h6 _).mono ?_
    rintro e w7 ⟨rfl, rfl⟩
    go_wp2
    go_ret
    exact ⟨rfl, unhide B6⟩
  · have q0 : (30 : Int) < s.size := by omega
    go_enter Try.func6, Try.ntmps6
    go_wp2_with fail
    refine (unhide haw _).mono ?_
    rintro e w1 ⟨rfl, b1⟩
    have B1 := hide b1
    clear b1
    go_wp2
    go_ret
    exact ⟨rfl, unhide B1⟩
set_option maxRecDepth 100000 in
set_option maxHeartbeats 4000000 in
theorem bitsMakes_any (n : Int) (a0 : Option Addr) (l : List Int) (c : Nat) (s : ByteArray) (w : World) (hT : Ints w a0 l) (hm : IntsOk l c) (hs : s.size ≤ maxLen) :
    Calls Try.prog 3 #[.int .i64 n, .slice a0 l.length c, .string s] w fun e w' => e = .returned (.bool true) ∧ Below w.heap.size w w' := by
  have haw := hide tawake_any
  obtain ⟨m1, m2, m3⟩ := hm
  unfold maxLen at m2
  by_cases h2 : l.length ≤ 200
  · by_cases h : s.size ≤ 30
    · rw [← bs_of s]
      have hl : s.size = s.data.toList.length := by simp
      rw [hl] at h hs
      have hl2 := bs_size s.data.toList
      clear hl
      generalize s.data.toList = S at *
      have h1 := hide (of_any n l a0 c w hT (by omega))
      have h2' := hide (fun w' (hb : Below w.heap.size w w') => rof_any n l a0 c w' (hT.below hb) (by omega) m1)
      have h3 := hide (fun w => list_any n S w hs)
      have h4 := hide (fun w => rlist_any n S w hs)
      have h5 := hide (fun w => check_any n S w hs)
      have h6 := hide (fun w => rcheck_any n S w hs)
      have h7 := hide (fun w => empty_any n w)
      have h8 := hide (fun w => rempty_any n w)
      have h9 := hide (fun w => full_any n w)
      have h10 := hide (fun w => rfull_any n w)
      have hll : (listR n S).length ≤ 160 := by
        rcases listE_cases n S with ⟨hC, _, hL⟩ | ⟨_, _, hL⟩
        · rw [hL, listN_length]
          have h0 := rankN_le S n.toNat
          unfold chkI at hC
          rw [Bool.and_eq_true] at hC
          have := (chk_iff.1 hC.2).1
          omega
        · rw [hL]; simp
      have hsame := hide (fun (w : World) a0 b0 c d hA hB => isame_any w (listR n S) a0 b0 c d (by omega) hA hB)
      generalize bs (ofR n l) = R1 at *
      generalize ofE n l = E1 at *
      generalize listE n S = E2 at *
      generalize listR n S = L2 at *
      generalize chkI n S = CH at *
      generalize bs (emptyL n) = R2 at *
      generalize bs (fullL n) = R3 at *
      have hx1 : (E1 == E1) = true := by simp
      have hx2 : (E2 == E2) = true := by simp
      have q0 : ¬ (200 : Int) < l.length := by omega
      have q1 : ¬ (30 : Int) < S.length := by omega
      clear m3 hs hT
      generalize hln : L2.length = ln at *
      have HLN := hide hln
      clear hln
      generalize bs S = B at *
      generalize S.length = sl at *
      generalize l.length = al at *
      go_enter Try.func3, Try.ntmps3
      go_wp2_with fail
      refine (unhide h1).mono ?_
      rintro e w1 ⟨rfl, b1⟩
      have B1 := hide b1
      clear b1
      go_wp2_with fail
      refine (unhide h2' _ (unhide B1)).mono ?_
      rintro e w2 ⟨rfl, b2⟩
      have B2 := hide ((unhide B1).trans (b2.mono (unhide B1).size))
      clear b2 B1
      go_wp2_with fail
      refine (unhide h3 _).mono ?_
      rintro e w3 ⟨v3, rfl, ho3, b3⟩
      obtain ⟨a3, c3, rfl, hT3, hc3, hd3⟩ := ho3.ints
      unfold maxLen at hd3
      have B3 := hide ((unhide B2).trans (b3.mono (unhide B2).size))
      clear b3 B2
      have HT3 := hide hT3
      clear ho3 hT3
      rw [unhide HLN] at hc3 ⊢
      go_wp2_with fail
      refine (unhide h4 _).mono ?_
      rintro e w4 ⟨v4, rfl, ho4, b4⟩
      obtain ⟨a4, c4, rfl, hT4, hc4, hd4⟩ := ho4.ints
      unfold maxLen at hd4
      replace HT3 := hide ((unhide HT3).below b4)
      have B4 := hide ((unhide B3).trans (b4.mono (unhide B3).size))
      clear b4 B3
      have HT4 := hide hT4
      clear ho4 hT4
      rw [unhide HLN] at hc4 ⊢
      go_wp2_with fail
      refine (unhide haw _).mono ?_
      rintro e w5 ⟨rfl, b5⟩
      replace HT3 := hide ((unhide HT3).below b5)
      replace HT4 := hide ((unhide HT4).below b5)
      have B5 := hide ((unhide B4).trans (b5.mono (unhide B4).size))
      clear b5 B4
      go_wp2_with fail
      refine (unhide hsame _ _ _ _ _ (unhide HT3) (unhide HT4)).mono ?_
      rintro e w6 ⟨rfl, b6⟩
      replace HT3 := hide ((unhide HT3).below b6)
      replace HT4 := hide ((unhide HT4).below b6)
      have B6 := hide ((unhide B5).trans (b6.mono (unhide B5).size))
      clear b6 B5
      clear HT3 HT4
      go_wp2_with fail
      refine (unhide h5 _).mono ?_
      rintro e w7 ⟨rfl, b7⟩
      have B7 := hide ((unhide B6).trans (b7.mono (unhide B6).size))
      clear b7 B6
      go_wp2_with fail
      refine (unhide h6 _).mono ?_
      rintro e w8 ⟨rfl, rfl⟩
      go_wp2_with fail
      refine (unhide h7 _).mono ?_
      rintro e w9 ⟨rfl, b9⟩
      have B9 := hide ((unhide B7).trans (b9.mono (unhide B7).size))
      clear b9 B7
      go_wp2_with fail
      refine (unhide h8 _).mono ?_
      rintro e w10 ⟨rfl, b10⟩
      have B10 := hide ((unhide B9).trans (b10.mono (unhide B9).size))
      clear b10 B9
      go_wp2_with fail
      refine (unhide h9 _).mono ?_
      rintro e w11 ⟨rfl, b11⟩
      have B11 := hide ((unhide B10).trans (b11.mono (unhide B10).size))
      clear b11 B10
      go_wp2_with fail
      refine (unhide h10 _).mono ?_
      rintro e w12 ⟨rfl, b12⟩
      have B12 := hide ((unhide B11).trans (b12.mono (unhide B11).size))
      clear b12 B11
      go_wp2
      go_ret
      exact ⟨rfl, unhide B12⟩
    · have q0 : ¬ (200 : Int) < l.length := by omega
      have q1 : (30 : Int) < s.size := by omega
      unfold maxLen at hs
      clear hT m3
      generalize l.length = al at *
      go_enter Try.func3, Try.ntmps3
      go_wp2_with fail
      refine (unhide haw _).mono ?_
      rintro e w1 ⟨rfl, b1⟩
      have B1 := hide b1
      clear b1
      go_wp2
      go_ret
      exact ⟨rfl, unhide B1⟩
  · have q0 : (200 : Int) < l.length := by omega
    clear hT m3
    generalize l.length = al at *
    go_enter Try.func3, Try.ntmps3
    go_wp2_with fail
    refine (unhide haw _).mono ?_
    rintro e w1 ⟨rfl, b1⟩
    have B1 := hide b1
    clear b1
    go_wp2
    go_ret
    exact ⟨rfl, unhide B1⟩

end Go.Proofs.Ytfcgbalcdnfmaaa

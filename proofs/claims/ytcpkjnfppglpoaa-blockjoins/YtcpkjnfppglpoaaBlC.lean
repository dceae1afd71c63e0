/- Contract of the document's Cut. -/
import Derived.Test.YtcpkjnfppglpoaaBlB
namespace Go.Proofs.Ytcpkjnfppglpoaa
open Go.RowKit
set_option linter.unusedVariables false

theorem pieceL_succ (t : By) (j : Nat) : pieceL t (j + 1) = pieceL t j ++ [t.getD j 0] := by
  unfold pieceL
  rcases Nat.lt_or_ge j t.length with h | h
  · rw [List.take_succ_eq_append_getElem h, show j + 1 - t.length = 0 by omega, show j - t.length = 0 by omega]
    simp [List.getD, h]
  · rw [List.take_of_length_le (by omega), List.take_of_length_le h, show j + 1 - t.length = (j - t.length) + 1 by omega, List.replicate_succ', List.append_assoc]
    simp [List.getD, List.getElem?_eq_none h]
theorem pieceL_zero (t : By) : pieceL t 0 = [] := by simp [pieceL]
theorem piece_in (f : By) (K j : Nat) (h : K + j < f.length) : (f.drop K).getD j 0 = f[K + j] := by
  simp [List.getD, h]
theorem piece_out (f : By) (K j : Nat) (h : f.length ≤ K + j) : (f.drop K).getD j 0 = 0 := by
  simp [List.getD, h]
set_option maxHeartbeats 4000000 in
theorem rcut_any (f : By) (size : Int) (w : World) (hf : f.length ≤ 6000) :
    Calls Try.prog 10 #[.string (bs f), .int .i64 size] w fun e w' => ∃ v, e = .returned (.tuple #[v, .int .i64 (cutE f size)]) ∧ OwnS w' w.heap.size v (cutR f size) ∧ Below w.heap.size w w' := by
  have hm := hide (rmay_any size)
  have hbs := bs_size f
  have hc := hide (rcount_any f.length size)
  by_cases he : cutE f size = 0
  · obtain ⟨s, rfl, s1, s2, s3, s4, s5, s6, s7⟩ := cutE_zero he
    have hr : cutR f s = cutL f s (countN f.length s) := by unfold cutR; rw [if_pos he]; rfl
    rw [hr, he]
    rw [may_iff.2 (by omega)] at hm
    have HS5 := hide s5
    clear he hr s5
    generalize countN f.length s = n at *
    obtain ⟨i0, hi, hz0, hz1, hz2⟩ := info_parts Try.infoS
    obtain ⟨j0, hj, jz0, jz1, jz2⟩ := info_parts Try.infoU
    have x0 : ((n : Int) == 0) = false := by simp; omega
    have x1 : ((f.length : Int) == 0) = false := by rw [beq_eq_false_iff_ne]; omega
    go_enter Try.func10, Try.ntmps10
    go_wp2_with (first | (go_at_call 20; refine (unhide hm _).mono ?_; rintro e w1 ⟨rfl, rfl⟩) | (go_at_call 13; refine (unhide hc _).mono ?_; rintro e w1 ⟨rfl, rfl⟩))
    go_loopw [7, 8] (fun v i wr => ∃ k : Nat, k ≤ n ∧ i = .int .i64 k ∧ wr.ownsRow w.heap.size 9 1 v k (sc (cutL f s k)) ∧ Below w.heap.size w wr) (fun _ i _ => n - (intOf i).toNat)
    case atStart => exact ⟨0, Nat.zero_le _, rfl, World.ownsRow_nil _ _ _ _, Below.refl _ _⟩
    case round =>
      obtain ⟨k, hk, rfl, hown, hb⟩ := hrel
      obtain ⟨ao, cap, rfl⟩ := own_shape' hown
      have HO := hide hown
      have HB := hide hb
      have hz := hb.size
      clear hown hb
      by_cases hlt : k < n
      · have q1 : (k : Int) < n := by omega
        have hks : k * s < f.length := by rw [ceil_lt f.length s k s1 s3, ← unhide HS5]; exact hlt
        have HQ := hide (cutL_succ f s k)
        have wr1 : (k : Int) * s = ((k * s : Nat) : Int) := by simp
        generalize k * s = K at *
        have hK : K ≤ 4096 := by omega
        have HKF := hide hks
        clear hks
        go_wp2
        generalize wr = wo at *
        go_loopw [9, 10] (fun v i wr => ∃ j q : Nat, j ≤ s ∧ q = K + j ∧ i = .int .i64 q ∧ wr.ownsRow wo.heap.size 5 1 v j (bc (pieceL (f.drop K) j)) ∧ Below wo.heap.size wo wr) (fun _ i _ => K + s - (intOf i).toNat)
        case atStart => exact ⟨0, K, Nat.zero_le _, rfl, rfl, by rw [pieceL_zero]; exact World.ownsRow_nil _ _ _ _, Below.refl _ _⟩
        case round =>
          obtain ⟨j, q, hjs, hq, rfl, hown, hb⟩ := hrel
          obtain ⟨ao2, cap2, rfl⟩ := own_shape' hown
          have HO2 := hide hown
          have HB2 := hide hb
          have hzq := hb.size
          clear hown hb
          by_cases hjl : j < s
          · have q2 : (q : Int) < K + s := by omega
            have HQ2 := hide hq
            have HP := hide (pieceL_succ (f.drop K) j)
            have q5 : q ≤ 10000 := by omega
            by_cases hin : q < f.length
            · have q3 : (q : Int) < f.length := by omega
              have hix := hide (run_index_bs (P := Try.prog) 9 f q hin (by kernel_rfl))
              have HV : Hid ((f.drop K).getD j 0 = f[q]) := by
                subst hq
                exact piece_in f K j hin
              clear hq
              generalize f[q] = x at *
              have hx := x.toNat_lt
              have i1 : ∀ w, (Instr.index 9 (.string (bs f)) (.int .i64 q)).run Try.prog w = .ok (.int .u8 x.toNat) w := unhide hix
              go_wp2_with (at_builtin; refine wpList_append_own _ rfl _ _ 45 rfl wo.heap.size 5 j0 (.int .u8 0) 1 1 Try.undB hj jz0 jz1 jz2 rfl (by decide) _ _ _ rfl ((unhide HO2).alloc _) ⟨wr.heap.size, 0, none⟩ 1 1 [.int .u8 x.toNat] rfl rfl (news_lit _ [_] _) ?c2 ?c3 ?c4 ?c5 ?_)
              case c2 => first | rfl | (intro u hu; simp at hu; subst hu; rfl)
              case c3 => unfold maxLen; omega
              case c4 => omega
              case c5 => first | omega | (simp; omega)
              intro v' w3 hown' hgrow _
              have hb' := hide ((((unhide HB2).alloc (by omega) _)).grown hgrow (by simp; omega) (fun k hk => (((unhide HO2).lt k hk).1)))
              have ho2 : Hid (w3.ownsRow wo.heap.size 5 1 v' (j + 1) (bc (pieceL (f.drop K) (j + 1)))) := by
                show World.ownsRow _ _ _ _ _ _ _
                rw [unhide HP, bc_append, unhide HV]
                exact hown'
              obtain ⟨ao', cap', rfl⟩ := own_shape' hown'
              clear hown' hgrow HO2 HB2 i1
              go_wp2
              go_roundw
              case rel => exact ⟨j + 1, q + 1, by omega, by rw [unhide HQ2]; omega, by go_num, unhide ho2, unhide hb'⟩
              case measure => simp [intOf]; omega
            · have q3 : ¬ (q : Int) < f.length := by omega
              have HV : Hid ((f.drop K).getD j 0 = 0) := piece_out f K j (by omega)
              clear hq
              go_wp2_with (at_builtin; refine wpList_append_own _ rfl _ _ 45 rfl wo.heap.size 5 j0 (.int .u8 0) 1 1 Try.undB hj jz0 jz1 jz2 rfl (by decide) _ _ _ rfl ((unhide HO2).alloc _) ⟨wr.heap.size, 0, none⟩ 1 1 [.int .u8 0] rfl rfl (news_lit _ [_] _) ?c2 ?c3 ?c4 ?c5 ?_)
              case c2 => first | rfl | (intro u hu; simp at hu; subst hu; rfl)
              case c3 => unfold maxLen; omega
              case c4 => omega
              case c5 => first | omega | (simp; omega)
              intro v' w3 hown' hgrow _
              have hb' := hide ((((unhide HB2).alloc (by omega) _)).grown hgrow (by simp; omega) (fun k hk => (((unhide HO2).lt k hk).1)))
              have ho2 : Hid (w3.ownsRow wo.heap.size 5 1 v' (j + 1) (bc (pieceL (f.drop K) (j + 1)))) := by
                show World.ownsRow _ _ _ _ _ _ _
                rw [unhide HP, bc_append, unhide HV]
                exact hown'
              obtain ⟨ao', cap', rfl⟩ := own_shape' hown'
              clear hown' hgrow HO2 HB2
              go_wp2
              go_roundw
              case rel => exact ⟨j + 1, q + 1, by omega, by rw [unhide HQ2]; omega, by go_num, unhide ho2, unhide hb'⟩
              case measure => simp [intOf]; omega
          · have hje : j = s := by omega
            subst hje
            have q2 : ¬ (q : Int) < K + j := by omega
            have hq5 : q ≤ 10000 := by omega
            have hcv := run_string_own (P := Try.prog) 45 9 Try.undB (by kernel_rfl) (by kernel_rfl) (unhide HO2)
            have HO3 := hide (own_below2 (unhide HO) (unhide HB2))
            have HB3 := hide ((unhide HB).trans ((unhide HB2).mono hz))
            generalize hT : (⟨(pieceL (f.drop K) j).toArray⟩ : ByteArray) = T at *
            have HT : Hid (bs (pieceL (f.drop K) j) = T) := hT
            have hz3 := (unhide HB3).size
            clear hT hq HO2 HO HB HB2
            go_wp2_with (at_builtin; refine wpList_append_own _ rfl _ _ 23 rfl w.heap.size 9 i0 (.string ⟨#[]⟩) 1 16 Try.undS hi hz0 hz1 hz2 rfl (by decide) _ _ _ rfl ((unhide HO3).alloc _) ⟨wr.heap.size, 0, none⟩ 1 1 [.string T] rfl rfl (news_lit _ [_] _) ?d2 ?d3 ?d4 ?d5 ?_)
            case d2 => first | rfl | (intro u hu; simp at hu; subst hu; rfl)
            case d3 => unfold maxLen; omega
            case d4 => omega
            case d5 => first | omega | (simp; omega)
            intro v' w3 hown' hgrow _
            have hb' := hide ((((unhide HB3).alloc (by omega) _)).grown hgrow (by simp; omega) (fun k hk => (((unhide HO3).lt k hk).1)))
            have ho2 : Hid (w3.ownsRow w.heap.size 9 1 v' (k + 1) (sc (cutL f j (k + 1)))) := by
              show World.ownsRow _ _ _ _ _ _ _
              rw [unhide HQ, sc_append]
              show World.ownsRow _ _ _ _ _ _ (_ ++ [.string (bs (pieceL (f.drop K) j))])
              rw [unhide HT]
              exact hown'
            obtain ⟨ao', cap', rfl⟩ := own_shape' hown'
            clear hown' hgrow HO3 HB3
            go_wp2
            go_roundw
            case rel => exact ⟨k + 1, by omega, by go_num, unhide ho2, unhide hb'⟩
            case measure => simp [intOf]; omega
      · have hke : k = n := by omega
        subst hke
        have q1 : ¬ (k : Int) < k := by omega
        have ho2 : Hid (OwnS wr w.heap.size (.slice ao k cap) (cutL f s k)) := by
          show World.ownsRow _ _ _ _ _ _ _
          rw [cutL_length]
          exact unhide HO
        clear HO
        go_wp2
        go_ret2
        exact ⟨_, rfl, unhide ho2, unhide HB⟩
  · have hr : cutR f size = [] := by unfold cutR; rw [if_neg he]
    rw [hr]
    cases hM : may size with
    | false =>
      have e1 : cutE f size = 1 := by unfold cutE; rw [if_pos (.inl hM)]
      rw [e1]
      rw [hM] at hm
      clear he hr e1
      go_enter Try.func10, Try.ntmps10
      go_wp2_with (go_at_call 20; refine (unhide hm _).mono ?_; rintro e w1 ⟨rfl, rfl⟩)
      go_ret2
      exact ⟨_, rfl, World.ownsRow_nil _ _ _ _, Below.refl _ _⟩
    | true =>
      rw [hM] at hm
      by_cases h0 : f.length = 0
      · have e1 : cutE f size = 1 := by unfold cutE; rw [if_pos (.inr (List.eq_nil_of_length_eq_zero h0))]
        rw [e1]
        have x1 : (f.length : Int) = 0 := by omega
        clear he hr e1 hc
        generalize f.length = n at *
        generalize bs f = F at *
        go_enter Try.func10, Try.ntmps10
        go_wp2_with (go_at_call 20; refine (unhide hm _).mono ?_; rintro e w1 ⟨rfl, rfl⟩)
        go_ret2
        exact ⟨_, rfl, World.ownsRow_nil _ _ _ _, Below.refl _ _⟩
      · have hne : ¬ (may size = false ∨ f = []) := by
          rintro (h | h)
          · rw [hM] at h; cases h
          · rw [h] at h0; exact h0 rfl
        have e0 : countN f.length size = 0 := by
          unfold cutE at he
          rw [if_neg hne] at he
          by_cases h : countN f.length size = 0
          · exact h
          · rw [if_neg h] at he; exact absurd rfl he
        have e1 : cutE f size = 2 := by unfold cutE; rw [if_neg hne, if_pos e0]
        rw [e1]
        rw [e0] at hc
        have x1 : ¬ (f.length : Int) = 0 := by omega
        clear he hr e1 e0 hne
        generalize f.length = n at *
        generalize bs f = F at *
        go_enter Try.func10, Try.ntmps10
        go_wp2_with (first | (go_at_call 20; refine (unhide hm _).mono ?_; rintro e w1 ⟨rfl, rfl⟩) | (go_at_call 13; refine (unhide hc _).mono ?_; rintro e w1 ⟨rfl, rfl⟩))
        go_ret2
        exact ⟨_, rfl, World.ownsRow_nil _ _ _ _, Below.refl _ _⟩

end Go.Proofs.Ytcpkjnfppglpoaa

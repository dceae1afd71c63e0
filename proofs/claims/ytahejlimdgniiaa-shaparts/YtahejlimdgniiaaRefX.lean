/- Contracts of the document's own Hex and Unhex, of layer 1. -/
import Derived.Test.YtahejlimdgniiaaShaUx
namespace Go.Proofs.Ytahejlimdgniiaa
open Go.RowKit
set_option linter.unusedVariables false

theorem wrap8 (x : Nat) (h : x < 256) : IntKind.u8.wrap (x : Int) = x := by
  simp [IntKind.wrap, IntKind.bits, IntKind.signed]
  omega
theorem wrap63 (x : Nat) (h : x < 1000000) : IntKind.i64.wrap (x : Int) = x := by
  simp [IntKind.wrap, IntKind.bits, IntKind.signed]
  omega
theorem map_one (f : Operand → Value) (x : Operand) : #[x].map f = #[f x] := by simp

set_option maxHeartbeats 1000000 in
theorem rhex_any (s : ByteArray) (w : World) (hs : s.size ≤ 100000) :
    Calls Try.prog 27 #[.string s] w fun e w' => e = .returned (.string ⟨(hexL s.data.toList).toArray⟩) ∧ Below w.heap.size w w' := by
  obtain ⟨i0, hi, hz0, hz1, hz2⟩ := info_parts Try.infoU
  have hs' : (s.size : Int) ≤ 100000 := by omega
  go_enter Try.func27, Try.ntmps27
  go_wp2
  go_loopw [3, 4] (fun v i wr => ∃ k : Nat, k ≤ s.size ∧ i = .int .i64 k ∧ wr.ownsRow w.heap.size 5 1 v (2 * k) (bc (hexL (s.data.toList.take k))) ∧ Below w.heap.size w wr) (fun _ i _ => s.size - (intOf i).toNat)
  case atStart => exact ⟨0, Nat.zero_le _, rfl, World.ownsRow_nil _ _ _ _, Below.refl _ _⟩
  case round =>
    obtain ⟨k, hk, rfl, hown, hb⟩ := hrel
    obtain ⟨ao, cap, rfl⟩ := own_shape' hown
    by_cases hlt : k < s.size
    · have hbt := s[k].toNat_lt
      have i1 : ∀ w, (Instr.index 9 (.string s) (.int .i64 k)).run Try.prog w = .ok (.int .u8 s[k].toNat) w := fun w => by
        rw [run_index_string w 9 s .i64 k (by kernel_rfl)]
        simp [hlt]
      have i2 := run_hexTab (P := Try.prog) 9 .u8 (s[k].toNat / 16) (by omega) (by kernel_rfl)
      have i3 := run_hexTab (P := Try.prog) 9 .u8 (s[k].toNat % 16) (by omega) (by kernel_rfl)
      have hsn : Hid (hexL (s.data.toList.take (k + 1)) = hexL (s.data.toList.take k) ++ [hexD (s[k].toNat / 16), hexD (s[k].toNat % 16)]) := by
        show _ = _
        rw [take_snoc' s k hlt, hexL_append]
        rfl
      have hdv : ((s[k].toNat : Int) / 16) = ((s[k].toNat / 16 : Nat) : Int) := by omega
      have hmv : (s[k].toNat : Int).tmod 16 = ((s[k].toNat % 16 : Nat) : Int) := by rw [Int.tmod_eq_emod_of_nonneg (by omega)]; omega
      have wr1 := wrap8 (s[k].toNat / 16) (by omega)
      have wr2 := wrap8 (s[k].toNat % 16) (by omega)
      generalize s[k].toNat / 16 = hi4 at *
      generalize s[k].toNat % 16 = lo4 at *
      generalize s[k].toNat = bv at *
      have hz := hb.size
      have HO := hide hown
      have HB := hide hb
      clear hown hb
      go_wp2
      go_region_law ((refine step_append_own rfl (.tmp 11) (.tmp 22) 47 rfl w.heap.size 5 i0 (.int .u8 0) 1 1 Try.undB hi hz0 hz1 hz2 rfl (by decide) (.slice ao (2 * k) cap) (2 * k) _ (by rfl) ((unhide HO).alloc _) ⟨wr.heap.size, 0, none⟩ 2 2 [.int .u8 (hexD hi4).toNat, .int .u8 (hexD lo4).toNat] (by rfl) (by rfl) (news_two _ _ _ _) (by intro u hu; simp at hu; rcases hu with rfl | rfl <;> rfl) (by unfold maxLen; omega) (by omega) (by simp; omega) ?_; intro v' w2 hown2 hgrow2))
      all_goals
        have hb2 : Below w.heap.size w w2 := (((unhide HB).alloc (by omega) _).drew).grown hgrow2 (by simp; omega) (fun k hk => ((unhide HO).lt k hk).1)
        have ho3 : Hid (w2.ownsRow w.heap.size 5 1 v' (2 * (k + 1)) (bc (hexL (s.data.toList.take (k + 1))))) := by
          show World.ownsRow _ _ _ _ _ _ _
          rw [unhide hsn, bc_append]
          exact hown2
        have HB2 := hide hb2
        obtain ⟨ao', cap', rfl⟩ := own_shape' hown2
        clear hown2 hgrow2 hb2 HO HB
        go_wp2
        go_roundw
        case rel => exact ⟨k + 1, by omega, by go_num, unhide ho3, unhide HB2⟩
        case measure => simp [intOf]; omega
    · have hke : k = s.size := by omega
      subst hke
      rw [List.take_of_length_le (by rw [blen]; exact Nat.le_refl _)] at hown
      have hcv := run_string_own (P := Try.prog) 47 9 Try.undB (by kernel_rfl) (by kernel_rfl) hown
      generalize hD : (hexL s.data.toList).toArray = D at *
      have HD := hide hD
      have HB := hide hb
      clear hD hown hb
      go_wp2
      go_ret
      exact ⟨by rw [unhide HD]; rfl, unhide HB⟩

theorem step_call_same {P : Program} {ops : Array Oper} {o : Oper} {a : Act} {w : World} {K : Act → World → Prop} {Q : Exit → Act → World → Prop} {E : Prop} (hgd : o.guard = none)
    (f : FuncId) (xs : Array Operand) (ats : Array TypeId) (ho : o.op = .call { callee := .value (.func f), args := xs, argTypes := ats }) (henter : ∀ args w, (callFunc f args).run P w = .ok (.enter f args) w)
    (vs : Array Value) (hvs : xs.map a.eval = vs) (v : Value) (hc : Calls P f vs w fun e w' => e = .returned v ∧ w = w') (h : K (a.put o.dst v) w) :
    if Region.wanted o (yielded ops a.tmps) = true then Oper.wp P o a w K Q else E := by
  have hw : Region.wanted o (yielded ops a.tmps) = true := by simp [Region.wanted, hgd]
  rw [if_pos hw]
  refine wp_call f xs ats ho henter vs hvs hc ?_
  rintro e w' ⟨rfl, rfl⟩
  exact ⟨v, rfl, h⟩

set_option maxHeartbeats 1000000 in
theorem runhex_any (s : ByteArray) (w : World) (hs : s.size ≤ 100000) :
    Calls Try.prog 25 #[.string s] w fun e w' => e = .returned (.tuple #[.string ⟨(unS s.data.toList).1.toArray⟩, .int .i64 (unS s.data.toList).2]) ∧ Below w.heap.size w w' := by
  obtain ⟨i0, hi, hz0, hz1, hz2⟩ := info_parts Try.infoU
  obtain ⟨H, hH⟩ : ∃ H, H = s.size / 2 := ⟨_, rfl⟩
  have HL := hide (blen s)
  have HH := hide hH
  have hH1 : H ≤ 50000 := by omega
  clear hH
  have hs' : (s.size : Int) ≤ 100000 := by omega
  go_enter Try.func25, Try.ntmps25
  go_wp2
  go_loopw [4, 5] (fun v i wr => ∃ k q : Nat, k ≤ H ∧ q = 2 * k ∧ i = .int .i64 q ∧ (∀ j, j < k → goodAt s.data.toList j) ∧ wr.ownsRow w.heap.size 5 1 v k (bc (unP s.data.toList k)) ∧ Below w.heap.size w wr) (fun _ i _ => s.size - (intOf i).toNat)
  case atStart => exact ⟨0, 0, Nat.zero_le _, rfl, rfl, by intro j hj; omega, World.ownsRow_nil _ _ _ _, Below.refl _ _⟩
  case round =>
    obtain ⟨k, q, hk, hq, rfl, hgood, hown, hb⟩ := hrel
    obtain ⟨ao, cap, rfl⟩ := own_shape' hown
    have HG := hide hgood
    have HO := hide hown
    have HB := hide hb
    have HQ := hide hq
    have hz := hb.size
    clear hgood hown hb hq
    by_cases hlt : k < H
    · have q1 : q + 1 < s.size := by have := unhide HH; rw [unhide HQ]; omega
      have d1 : Hid (s.data.toList.getD (2 * k) 0 = s[q]) := by show _ = _; rw [← unhide HQ]; exact getD_byte s q (by omega)
      have d2 : Hid (s.data.toList.getD (2 * k + 1) 0 = s[q + 1]) := by show _ = _; rw [← unhide HQ]; exact getD_byte s (q + 1) q1
      have i1 : ∀ w, (Instr.index 9 (.string s) (.int .i64 q)).run Try.prog w = .ok (.int .u8 s[q].toNat) w := fun w => by
        rw [run_index_string w 9 s .i64 q (by kernel_rfl)]
        simp [show q < s.size by omega]
      have i2 : ∀ w, (Instr.index 9 (.string s) (.int .i64 ((q : Int) + 1))).run Try.prog w = .ok (.int .u8 s[q + 1].toNat) w := fun w => by
        have := run_index_string (P := Try.prog) w 9 s .i64 (q + 1 : Nat) (by kernel_rfl)
        rw [show ((q + 1 : Nat) : Int) = (q : Int) + 1 from rfl] at this
        rw [this, dif_pos ⟨by omega, by omega⟩]
        rfl
      have t1 := s[q].toNat_lt
      have t2 := s[q + 1].toNat_lt
      have uv := hide (unB_val s.data.toList k)
      have ub := hide (unS_bad s.data.toList k (by rw [unhide HL]; have := unhide HH; omega))
      rw [show goodAt s.data.toList k = (digN s[q].toNat ≠ 16 ∧ digN s[q + 1].toNat ≠ 16) by unfold goodAt; rw [unhide d1, unhide d2]] at uv ub
      rw [unhide d1, unhide d2] at uv
      have T1 := hide t1
      have T2 := hide t2
      have L1 := digN_le s[q].toNat
      have L2 := digN_le s[q + 1].toNat
      have GE : Hid (digN s[q].toNat ≠ 16 → digN s[q + 1].toNat ≠ 16 → goodAt s.data.toList k) := by
        show _ → _ → _
        intro x y
        show _ ∧ _
        rw [unhide d1, unhide d2]
        exact ⟨x, y⟩
      clear d1 d2
      generalize s[q].toNat = c1 at *
      generalize s[q + 1].toNat = c2 at *
      have q2 : (q : Int) + 1 < s.size := by omega
      have hd1 := hide (digit_any c1 (unhide T1))
      have hd2 := hide (digit_any c2 (unhide T2))
      by_cases g1 : digN c1 = 16
      · rw [g1] at hd1
        go_wp2_with fail
        refine (unhide hd1 _).mono ?_
        rintro e w2 ⟨rfl, rfl⟩
        go_wp2
        go_ret2
        refine ⟨?_, unhide HB⟩
        rw [unhide ub (fun h => h.1 g1)]
        rfl
      · by_cases g2 : digN c2 = 16
        · have f1 : (((digN c1 : Nat) : Int) == 16) = false := by simp; omega
          rw [g2] at hd2
          go_wp2_with fail
          refine (unhide hd1 _).mono ?_
          rintro e w2 ⟨rfl, rfl⟩
          go_wp2_with fail
          refine (unhide hd2 _).mono ?_
          rintro e w2 ⟨rfl, rfl⟩
          go_wp2
          go_ret2
          refine ⟨?_, unhide HB⟩
          rw [unhide ub (fun h => h.2 g2)]
          rfl
        · have UV := hide (unhide uv ⟨g1, g2⟩)
          have m1 : digN c1 ≤ 15 := by omega
          have m2 : digN c2 ≤ 15 := by omega
          have GG := hide (unhide GE g1 g2)
          clear uv ub GE L1 L2 g1 g2
          generalize digN c1 = x1 at *
          generalize digN c2 = x2 at *
          have f1 : ((x1 : Int) == 16) = false := by simp; omega
          have f2 : ((x2 : Int) == 16) = false := by simp; omega
          go_wp2_with fail
          refine (unhide hd1 _).mono ?_
          rintro e w2 ⟨rfl, rfl⟩
          go_wp2_with fail
          refine (unhide hd2 _).mono ?_
          rintro e w2 ⟨rfl, rfl⟩
          go_wp2
          have wa : IntKind.i64.wrap ((q : Int) + 1) = (q : Int) + 1 := wrap63 (q + 1) (by omega)
          have wb : IntKind.u8.wrap (16 * (x1 : Int)) = 16 * (x1 : Int) := wrap8 (16 * x1) (by omega)
          have wc : IntKind.u8.wrap (16 * (x1 : Int) + x2) = 16 * (x1 : Int) + x2 := wrap8 (16 * x1 + x2) (by omega)
          go_region_law (first | (refine step_call_same rfl 35 #[.tmp 29] #[5] rfl Try.call35 #[.int .u8 c1] (by rw [map_one]; rfl) (.int .u8 x1) (unhide hd1 _) ?_) | (refine step_call_same rfl 35 #[.tmp 35] #[5] rfl Try.call35 #[.int .u8 c2] (by rw [map_one]; rfl) (.int .u8 x2) (unhide hd2 _) ?_) | (refine step_append_own rfl (.tmp 26) (.tmp 38) 47 rfl w.heap.size 5 i0 (.int .u8 0) 1 1 Try.undB hi hz0 hz1 hz2 rfl (by decide) (.slice ao k cap) k _ (by rfl) ((unhide HO).alloc _) ⟨wr.heap.size, 0, none⟩ 1 1 [.int .u8 (16 * (x1 : Int) + x2)] (by rfl) (by rfl) (news_lit _ [_] _) (by intro u hu; simp at hu; subst hu; rfl) (by unfold maxLen; omega) (by omega) (by simp; omega) ?_; intro v' w3 hown' hgrow))
          all_goals
            have hb' := hide ((((unhide HB).alloc (by omega) _).drew).grown hgrow (by simp; omega) (fun k hk => (((unhide HO).lt k hk).1)))
            have ho2 : Hid (w3.ownsRow w.heap.size 5 1 v' (k + 1) (bc (unP s.data.toList (k + 1)))) := by
              show World.ownsRow _ _ _ _ _ _ _
              rw [unP_succ, bc_append, show bc [unB s.data.toList k] = [.int .u8 (16 * (x1 : Int) + x2)] by simp [bc, unhide UV]]
              exact hown'
            obtain ⟨ao', cap', rfl⟩ := own_shape' hown'
            clear hown' hgrow HO HB
            go_wp2
            go_roundw
            case rel =>
              refine ⟨k + 1, q + 2, by omega, by rw [unhide HQ]; omega, by go_num, ?_, unhide ho2, unhide hb'⟩
              intro j hj
              rcases Nat.lt_succ_iff_lt_or_eq.1 hj with h | rfl
              · exact unhide HG j h
              · exact unhide GG
            case measure => simp [intOf]; omega
    · have hke : k = H := by omega
      have HK := hide hke
      have hqb : q ≤ 100000 := by have := unhide HQ; omega
      have qs : ¬ (q : Int) + 1 < s.size := by have := unhide HH; have := unhide HQ; omega
      by_cases he : s.size % 2 = 0
      · have e1 := unS_ok s.data.toList (by rw [unhide HL]; omega) (by rw [unhide HL, ← unhide HH, ← hke]; intro j hj; exact unhide HG j hj)
        rw [unhide HL, ← unhide HH, ← hke] at e1
        have E1 := hide e1
        have m1 : (s.size : Int) % 2 = 0 := by omega
        have hcv := run_string_own (P := Try.prog) 47 9 Try.undB (by kernel_rfl) (by kernel_rfl) (unhide HO)
        generalize hD : (unP s.data.toList k).toArray = D at *
        have HD := hide hD
        clear hD e1 hke he
        go_wp2
        go_ret2
        exact ⟨by rw [unhide E1, unhide HD]; rfl, unhide HB⟩
      · have E1 := hide (unS_odd s.data.toList (by rw [unhide HL]; omega))
        have m1 : (s.size : Int) % 2 = 1 := by omega
        clear hke he
        go_wp2
        go_ret2
        exact ⟨by rw [unhide E1]; rfl, unhide HB⟩

end Go.Proofs.Ytahejlimdgniiaa

/- gauss: reduced, Rank. -/
import Derived.Test.YtpcndjnhpjhjkaaDoorGaG
namespace Go.Proofs.YtpcndjnhpjhjkaaDoor
open Go.RowKit
set_option linter.unusedVariables false
attribute [local go_sem] Oper.semAt_some

theorem Tryd.infoL : (Tryd.prog.info? 70).map (fun i => (i.zero, i.size, i.bytes)) = some (some (.agg #[.int .u64 0, .int .u64 0, .int .u64 0, .string ⟨#[]⟩]), 4, 40) := by kernel_rfl
theorem Tryd.undL : Tryd.prog.underlying 63 = some (.slice 70) := by kernel_rfl
theorem own_shape4 {w : World} {base n size : Nat} {e : TypeId} {v : Value} {xs : List Value} (hown : w.ownsRow base e size v n xs) : ∃ ao cap, v = .slice ao n cap := by
  rcases hown.2 with ⟨h', h0⟩ | ⟨g, cap', cur, h', _⟩
  · exact ⟨none, 0, by rw [h', h0]⟩
  · exact ⟨_, _, h'⟩
theorem gL_take (R : List (List Nat)) (k : Nat) (h : k < R.length) : gL (R.take (k + 1)) = gL (R.take k) ++ [(rowN R[k], [])] := by
  unfold gL
  rw [List.take_succ_eq_append_getElem h, List.map_append]
  rfl
theorem gL_length (R : List (List Nat)) : (gL R).length = R.length := by simp [gL]
set_option maxRecDepth 100000 in
set_option maxHeartbeats 1000000 in
theorem reduced_no (n : Int) (Rs : List (List Int)) (a0 : Option Addr) (c : Nat) (hn : -9223372036854775808 ≤ n ∧ n ≤ 9223372036854775807) (hk : Rs.length ≤ maxLen) (hk2 : ∀ r ∈ Rs, r.length ≤ maxLen) (w : World) (hI : RowsA w a0 Rs) (hno : mayB n Rs = false) :
    Calls Tryd.prog 31 #[.int .i64 n, .slice a0 Rs.length c] w fun e w' => e = .returned (.tuple #[.slice none 0 0, .int .i64 1]) ∧ w = w' := by
  have hmay := hide (may_any n Rs a0 c hn hk hk2 w hI)
  rw [hno] at hmay
  generalize Rs.length = m at *
  clear hI hk2 hno
  go_enter Tryd.func31, Tryd.ntmps31
  go_wp2_with fail
  refine (unhide hmay).mono ?_
  rintro e w1 ⟨rfl, rfl⟩
  go_wp2
  go_ret2
  exact ⟨rfl, rfl⟩
set_option maxRecDepth 100000 in
set_option maxHeartbeats 1000000 in
theorem reduced_yes (n : Nat) (Rs : List (List Int)) (R : List (List Nat)) (hR : Rws n Rs R) (a0 : Option Addr) (c : Nat) (w : World) (hI : RowsA w a0 Rs) :
    Calls Tryd.prog 31 #[.int .i64 n, .slice a0 Rs.length c] w fun e w' => ∃ a1 c1, e = .returned (.tuple #[.slice a1 (kep (gL R) n).length c1, .int .i64 0]) ∧ LinesA w' a1 (kep (gL R) n) ∧ Below w.heap.size w w' := by
  have hlen : Rs.length = R.length := by rw [hR.eq, List.length_map]
  have h400 := hR.m400
  have h160 := hR.n160
  have hrl : ∀ r ∈ R, r.length ≤ 160 := fun r hr => by
    rw [sorted_nums (hR.lt r hr) (hR.ord r hr)]
    have := numsR_len n (rowN r)
    omega
  have hmay := hide (may_any n Rs a0 c ⟨by omega, by omega⟩ (by unfold maxLen; omega) (fun r hr => by
    rw [hR.eq] at hr
    obtain ⟨x, hx, rfl⟩ := List.mem_map.1 hr
    rw [zs_length]
    have := hrl x hx
    unfold maxLen; omega) w hI)
  rw [rws_may hR] at hmay
  have HI := hide hI
  have HRW := hide hR
  have HRL := hide hrl
  have HLEN : Hid (Rs.length = R.length) := hlen
  rw [hlen] at hmay ⊢
  generalize hm : R.length = m at *
  have HM := hide hm
  obtain ⟨i0, hi, hz0, hz1, hz2⟩ : ∃ i, Tryd.prog.info? 70 = some i ∧ i.zero = some (.agg #[.int .u64 0, .int .u64 0, .int .u64 0, .string ⟨#[]⟩]) ∧ i.size = 4 ∧ i.bytes = 40 := by
    have h := Tryd.infoL
    cases hh : Tryd.prog.info? 70 with
    | none => rw [hh] at h; cases h
    | some i =>
      rw [hh] at h
      simp only [Option.map_some, Option.some.injEq, Prod.mk.injEq] at h
      exact ⟨i, rfl, h.1, h.2.1, h.2.2⟩
  clear hI hR hrl hlen hm
  go_enter Tryd.func31, Tryd.ntmps31
  go_wp2_with fail
  refine (unhide hmay).mono ?_
  rintro e w1 ⟨rfl, rfl⟩
  go_wp2_with fail
  go_loopw [6, 17] (fun v u wr => ∃ k : Nat, k ≤ m ∧ u = .int .i64 k ∧ wr.ownsRow w.heap.size 70 4 v k (lc (gL (R.take k))) ∧ Below w.heap.size w wr) (fun _ u _ => m - (intOf u).toNat)
  case atStart => exact ⟨0, by omega, rfl, World.ownsRow_nil _ _ _ _, Below.refl _ _⟩
  case round =>
    obtain ⟨k, hk, rfl, hO, hB⟩ := hrel
    obtain ⟨ao, cap, rfl⟩ := own_shape4 hO
    by_cases hlt : k < m
    · have hltR : k < R.length := by rw [unhide HM]; exact hlt
      have hltS : k < Rs.length := by have := unhide HLEN; omega
      obtain ⟨g, o, rfl, b, cc, c0, hIk⟩ := unhide HI k hltS
      have hrow : Rs[k] = zs R[k] := by
        have := (unhide HRW).eq
        subst this
        simp
      rw [hrow] at c0 hIk
      rw [zs_length] at c0
      have d0 := cell_below c0 hB
      have hmem : R[k] ∈ R := List.getElem_mem hltR
      have hrof := hide (rowOf_any R[k] b cc (fun x hx => by have := (unhide HRW).lt _ hmem x hx; omega) (by have := unhide HRL _ hmem; omega) wr (hIk.below hB))
      have q1 : (k : Int) < m := by omega
      have HO := hide hO
      have HB := hide hB
      have HT : Hid (lc (gL (R.take (k + 1))) = lc (gL (R.take k)) ++ [.int .u64 (wd (rowN R[k]) 0), .int .u64 (wd (rowN R[k]) 1), .int .u64 (wd (rowN R[k]) 2), .string ⟨#[]⟩]) := by
        show _ = _
        rw [gL_take R k hltR, lc_append]
        rfl
      unfold rowV at hrof
      generalize R[k].length = rl at *
      generalize ((wd (rowN R[k]) 0 : Nat) : Int) = x0 at *
      generalize ((wd (rowN R[k]) 1 : Nat) : Int) = x1 at *
      generalize ((wd (rowN R[k]) 2 : Nat) : Int) = x2 at *
      clear hO hB c0 hIk hrow hmem hltR hltS
      go_wp2_with fail
      refine (unhide hrof).mono ?_
      rintro e w2 ⟨rfl, b2⟩
      have HO2 := hide (own_below2 (unhide HO) b2)
      have HB2 := hide ((unhide HB).trans (b2.mono (unhide HB).size))
      have hz2' := (unhide HB2).size
      clear b2 HO HB
      go_wp2_with (at_builtin; refine wpList_append_own _ rfl _ _ 63 rfl w.heap.size 70 i0 _ 4 40 Tryd.undL hi hz0 hz1 hz2 rfl (by decide) _ _ _ rfl ((unhide HO2).alloc _) ⟨w2.heap.size, 0, none⟩ 1 1 [.int .u64 x0, .int .u64 x1, .int .u64 x2, .string ⟨#[]⟩] rfl rfl (news_lit _ [_, _, _, _] _) ?d2 ?d3 ?d4 ?d5 ?_)
      case d2 => intro u hu; simp at hu; rcases hu with rfl | rfl | rfl | rfl <;> rfl
      case d3 => unfold maxLen; omega
      case d4 => omega
      case d5 => first | omega | (simp; omega)
      intro v' w3 hown' hgrow _
      have hb' := hide ((((unhide HB2).alloc (by omega) _)).grown hgrow (by simp; omega) (fun k hk => (((unhide HO2).lt k hk).1)))
      have ho2 : Hid (w3.ownsRow w.heap.size 70 4 v' (k + 1) (lc (gL (R.take (k + 1))))) := by
        show World.ownsRow _ _ _ _ _ _ _
        rw [unhide HT]
        exact hown'
      obtain ⟨ao', cap', rfl⟩ := own_shape4 hown'
      clear hown' hgrow HO2 HB2
      go_wp2
      go_roundw
      case rel => exact ⟨k + 1, by omega, by go_num, unhide ho2, unhide hb'⟩
      case measure => simp [intOf]; omega
    · have hkm : k = m := by omega
      subst hkm
      rw [List.take_of_length_le (by rw [unhide HM]; exact Nat.le_refl _)] at hO
      have hO' : wr.ownsRow w.heap.size 70 4 (.slice ao k cap) (gL R).length (lc (gL R)) := by rw [gL_length, unhide HM]; exact hO
      have hel := hide (elim_own (gL R) 0 w.heap.size n _ (by omega) (gL_szd R) (by rw [gL_length, unhide HM]; omega) h160 (unhide HRW).bd wr hB.size hO')
      have q1 : ¬ (k : Int) < k := by omega
      have HB := hide hB
      clear hO hO' hB
      go_wp2_with fail
      refine (unhide hel).mono ?_
      rintro e w2 ⟨a1, a2, c1, c2, rfl, l1, _, b2⟩
      have HL1 := hide l1
      have HB2 := hide ((unhide HB).trans b2)
      clear l1 b2
      go_wp2
      go_ret2
      exact ⟨_, _, rfl, unhide HL1, unhide HB2⟩
set_option maxRecDepth 100000 in
set_option maxHeartbeats 1000000 in
theorem rank_no (n : Int) (Rs : List (List Int)) (a0 : Option Addr) (c : Nat) (hn : -9223372036854775808 ≤ n ∧ n ≤ 9223372036854775807) (hk : Rs.length ≤ maxLen) (hk2 : ∀ r ∈ Rs, r.length ≤ maxLen) (w : World) (hI : RowsA w a0 Rs) (hno : mayB n Rs = false) :
    Calls Tryd.prog 13 #[.int .i64 n, .slice a0 Rs.length c] w fun e w' => e = .returned (.tuple #[.int .i64 0, .int .i64 1]) ∧ w = w' := by
  have hred := hide (reduced_no n Rs a0 c hn hk hk2 w hI hno)
  generalize Rs.length = m at *
  clear hI hk2 hno
  go_enter Tryd.func13, Tryd.ntmps13
  go_wp2_with fail
  refine (unhide hred).mono ?_
  rintro e w1 ⟨rfl, rfl⟩
  go_wp2
  go_ret2
  exact ⟨rfl, rfl⟩
set_option maxRecDepth 100000 in
set_option maxHeartbeats 1000000 in
theorem rank_yes (n : Nat) (Rs : List (List Int)) (R : List (List Nat)) (hR : Rws n Rs R) (a0 : Option Addr) (c : Nat) (w : World) (hI : RowsA w a0 Rs) :
    Calls Tryd.prog 13 #[.int .i64 n, .slice a0 Rs.length c] w fun e w' => e = .returned (.tuple #[.int .i64 ((kep (gL R) n).length : Nat), .int .i64 0]) ∧ Below w.heap.size w w' := by
  have hred := hide (reduced_yes n Rs R hR a0 c w hI)
  generalize Rs.length = m at *
  generalize hkk : (kep (gL R) n).length = kk at *
  clear hI
  go_enter Tryd.func13, Tryd.ntmps13
  go_wp2_with fail
  refine (unhide hred).mono ?_
  rintro e w1 ⟨a1, c1, rfl, _, b1⟩
  have HB := hide b1
  clear b1 hkk
  go_wp2
  go_ret2
  exact ⟨rfl, unhide HB⟩
end Go.Proofs.YtpcndjnhpjhjkaaDoor

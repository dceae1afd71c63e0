/- peel's Needs. -/
import Derived.Test.YtfihpmhobjjaaaaPnG
namespace Go.Proofs.Ytfihpmhobjjaaaa
open Go.RowKit
set_option linter.unusedVariables false
attribute [local go_sem] Oper.semAt_some

theorem own_kept {w w' : World} {base n size g B : Nat} {e : TypeId} {v : Value} {xs : List Value} (h : w.ownsRow base e size v n xs) (hk : Kept B g w w') (hB : w.heap.size ≤ B) (hg : g < base) : w'.ownsRow base e size v n xs := by
  refine ⟨h.1, ?_⟩
  rcases h.2 with hn | ⟨b, cap, cur, hv, hb, hc, rest⟩
  · exact .inl hn
  · exact .inr ⟨b, cap, cur, hv, hb, by rw [hk.block b (by have := lt_of_block hc; omega) (by omega)]; exact hc, rest⟩
theorem peel160S {n : Nat} {R : List (List Nat)} (h : RLt n R) (hn : n ≤ 160) (S : Nat → Bool) : peelF 160 S R = peelF n S R := peelF_fuel h _ _ _ (by have := un_le n S; omega) (un_le _ _)
theorem orS_take {S : Nat → Bool} {L : List Nat} {k : Nat} (h : k < L.length) : orS S (L.take (k + 1)) = mkS (orS S (L.take k)) L[k] := by
  rw [List.take_succ_eq_append_getElem h]
  funext j
  simp only [orS, mkS, List.mem_append, List.mem_singleton]
  by_cases h1 : j ∈ L.take k <;> by_cases h2 : j = L[k] <;> simp [h1, h2]
theorem loN_lt {n : Nat} {R : List (List Nat)} {S : Nat → Bool} : ∀ x ∈ loN n R S, x < n := fun x hx => by
  unfold loN at hx
  exact List.mem_range.1 (List.mem_filter.1 hx).1
theorem loN_len (n : Nat) (R : List (List Nat)) (S : Nat → Bool) : (loN n R S).length ≤ n := by
  unfold loN
  have := List.length_filter_le (fun i => !inR R i && !S i) (List.range n)
  rwa [List.length_range] at this
theorem goN_step {n k : Nat} {R : List (List Nat)} {T : Nat → Bool} (h : k < n) : goN n R (List.range' k (n - k)) T = if T k = true then goN n R (List.range' (k + 1) (n - (k + 1))) T else k :: goN n R (List.range' (k + 1) (n - (k + 1))) (pl n R (mkS T k)) := by
  have e : n - k = (n - (k + 1)) + 1 := by omega
  rw [e, List.range'_succ]
  rfl
set_option maxRecDepth 100000 in
set_option maxHeartbeats 1000000 in
theorem needs_no (n : Int) (Rs : List (List Int)) (Ks : List Int) (a0 k0 : Option Addr) (c kc : Nat) (hn : -9223372036854775808 ≤ n ∧ n ≤ 9223372036854775807) (hk : Rs.length ≤ maxLen) (hk2 : ∀ r ∈ Rs, r.length ≤ maxLen) (hk3 : Ks.length ≤ maxLen) (w : World) (hI : RowsA w a0 Rs) (hK : Ints w k0 Ks) (hno : (mayB n Rs && mayB n [Ks]) = false) :
    Calls Try.prog 20 #[.int .i64 n, .slice a0 Rs.length c, .slice k0 Ks.length kc] w fun e w' => e = .returned (.tuple #[.slice none 0 0, .int .i64 1]) ∧ Below w.heap.size w w' := by
  have hm := hide (pmay_any n Rs Ks a0 k0 c kc hn hk hk2 hk3 w hI hK)
  rw [hno] at hm
  generalize Rs.length = m at *
  generalize Ks.length = l at *
  clear hI hK hno
  go_enter Try.func20, Try.ntmps20
  go_wp2_with fail
  refine (unhide hm).mono ?_
  rintro e w1 ⟨rfl, b1⟩
  have B1 := hide b1
  clear b1
  go_wp2
  go_ret2
  exact ⟨rfl, unhide B1⟩
set_option maxRecDepth 100000 in
set_option maxHeartbeats 1000000 in
theorem needs_yes (n : Nat) (R : List (List Nat)) (K : List Nat) (h : Pl n R K) (a0 k0 : Option Addr) (c kc : Nat) (w : World) (hI : RowsC w a0 R) (hK : Ints w k0 (zs K)) :
    Calls Try.prog 20 #[.int .i64 n, .slice a0 R.length c, .slice k0 K.length kc] w fun e w' => ∃ v, e = .returned (.tuple #[v, .int .i64 0]) ∧ w'.ownsRow w.heap.size 3 1 v (needN n R K).length (ic (zs (needN n R K))) ∧ Below w.heap.size w w' := by
  obtain ⟨i0, hi0, hz0, hz1, hz2⟩ := info_parts Try.infoI
  have h160 := h.n160
  have hm := pmay_any n (R.map zs) (zs K) a0 k0 c kc ⟨by omega, by omega⟩ (by have := h.m400; rw [List.length_map]; unfold maxLen; omega) (fun r hr => by
    obtain ⟨x, hx, rfl⟩ := List.mem_map.1 hr
    have := h.rlen x hx
    rw [zs_length]; unfold maxLen; omega) (by have := h.klen; rw [zs_length]; unfold maxLen; omega) w hI.rowsA hK
  rw [rws_may h.rws, rws_may h.rwsK, List.length_map, zs_length] at hm
  have HM := hide hm
  have HMK := hide (fun W (hb : Below w.heap.size w W) => marked_any K k0 kc (fun x hx => by have := h.klt x hx; omega) (by have := h.klen; unfold maxLen; omega) W (hK.below hb))
  have HP : Hid (∀ W g S (hb : Below w.heap.size w W) (hg : w.heap.size ≤ g) (hM : MkAt W g S), Calls Try.prog 27 #[.slice a0 R.length c, .pointer (some ⟨g, 0, none⟩)] W fun e w' => ∃ v, e = .returned v ∧ MkAt w' g (pl n R S) ∧ Kept W.heap.size g W w') := fun W g S hb hg hM => by
    have := peel_any R (h.lt.up h160) h.m400 a0 c g S w W hb hg hI hM (fun r hr => by have := h.rlen r hr; unfold maxLen; omega)
    rw [peel160S h.lt h160] at this
    exact this.mono (fun e w' ⟨v, h1, _, h2, h3⟩ => ⟨v, h1, h2, h3⟩)
  have HLO := hide (fun W g S (hb : Below w.heap.size w W) (hM : MkAt W g S) => loose_any n R K h a0 c g S W (hI.below hb) hM)
  have HE : Hid (needN n R K = loN n R (inS K) ++ goN n R (List.range' 0 (n - 0)) (pl n R (orS (inS K) (loN n R (inS K))))) := by
    show _ = _
    rw [Nat.sub_zero, ← List.range_eq_range']
    rfl
  have HLN := hide (loN_len n R (inS K))
  have HLT := hide (loN_lt (n := n) (R := R) (S := inS K))
  generalize hkn : needN n R K = E at *
  generalize R.length = m at *
  generalize K.length = l at *
  clear hI hK hm hkn h
  go_enter Try.func20, Try.ntmps20
  go_wp2_with fail
  refine (unhide HM).mono ?_
  rintro e w1 ⟨rfl, b1⟩
  have B1 := hide b1
  have hmk := hide (unhide HMK w1 b1)
  clear b1
  go_wp2_with fail
  refine (unhide hmk).mono ?_
  rintro e w2 ⟨rfl, b2⟩
  have B2 := hide ((unhide B1).trans (b2.mono (unhide B1).size))
  clear b2
  have hmn := mk_new w2 (inS K)
  have hmb := mk_below w2 (inS K)
  have hmt := mk_there w2
  have hS1 : (mc (inS K)).toArray.size = 160 := by rw [List.size_toArray, mc_length]
  have hS2 : (mc (inS K)).toArray.all (·.oneCell') = true := all_oneCell_toArray (mc_one _)
  have hSL : (mc (inS K)).toArray.toList = mc (inS K) := rfl
  rw [← hSL] at hmn hmb
  clear hSL
  generalize hSe : (mc (inS K)).toArray = SA at *
  have hi2 : Hid ((Try.prog.info? 47).map (·.size) = some SA.size) := by show _ = _; rw [hS1]; kernel_rfl
  have ht3 : Hid ((w2.alloc (.cells Try.zeroCells47 47)).there w2.heap.size 0 SA.size) := by show World.there _ _ _ _; rw [hS1]; exact hmt
  have HMN := hide hmn
  have HMB := hide hmb
  clear hS1 hmt hmn hmb hSe
  go_wp2_with (refine wpList_store_mid rfl 47 (.tmp 8) (.tmp 19) rfl w2.heap.size 0 SA rfl rfl (unhide ht3) (unhide hi2) hS2 ?_)
  have B3 := hide ((unhide B2).trans ((unhide HMB).mono (unhide B2).size))
  have hlo := hide (unhide HLO _ w2.heap.size (inS K) (unhide B3) (unhide HMN))
  have hsz3 : w2.heap.size < ((w2.alloc (.cells Try.zeroCells47 47)).setCells w2.heap.size 0 SA.toList).heap.size := (unhide HMN).lt
  have hsz2 := (unhide B2).size
  generalize hw3 : ((w2.alloc (.cells Try.zeroCells47 47)).setCells w2.heap.size 0 SA.toList) = w3 at *
  clear hw3 ht3 HMB HLO HMK hmk HM
  generalize w2.heap.size = g at *
  generalize hLe : loN n R (inS K) = L at *
  generalize hll : L.length = ll at *
  have HLL := hide hll
  clear hLe hll
  go_wp2_with fail
  refine (unhide hlo).mono ?_
  rintro e w4 ⟨v4, rfl, hO4, b4⟩
  have HB4 := hide ((unhide B3).trans (b4.mono (unhide B3).size))
  have HM4 := hide ((unhide HMN).kept b4)
  have hs4 := b4.size
  obtain ⟨ao, cp, rfl⟩ := own_shape2 hO4
  have HO4 := hide hO4
  have hB3s := (unhide B3).size
  have hl160 := unhide HLN
  clear hO4 b4 hlo HMN
  go_wp2_with fail
  go_loopw [25] (fun u wr => ∃ k : Nat, k ≤ ll ∧ u = .int .i64 k ∧ MkAt wr g (orS (inS K) (L.take k)) ∧ wr.ownsRow w3.heap.size 3 1 (.slice ao ll cp) ll (ic (zs L)) ∧ Below w.heap.size w wr ∧ w3.heap.size ≤ wr.heap.size) (fun u _ => ll - (intOf u).toNat)
  case atStart => exact ⟨0, by omega, rfl, by rw [List.take_zero, orS_nil]; exact unhide HM4, unhide HO4, unhide HB4, hs4⟩
  case round =>
    clear HO4 HB4 HM4
    obtain ⟨k, hk, rfl, hM, hO, hB, hs⟩ := hrel
    by_cases hlt : k < ll
    · have hlt' : k < L.length := by rw [unhide HLL]; exact hlt
      obtain ⟨_, _, e0, hiL, _, _⟩ := OwnI.ints (l := zs L) (by show World.ownsRow _ _ _ _ _ _ _; rw [zs_length, unhide HLL]; exact hO)
      simp only [Value.slice.injEq] at e0
      obtain ⟨rfl, _, rfl⟩ := e0
      obtain ⟨gg, oo, rfl, c0⟩ := hiL k (by rw [zs_length]; exact hlt')
      rw [zs_get L k hlt'] at c0
      have hi := unhide HLT L[k] (List.getElem_mem hlt')
      have d1 := hM.cell L[k] (by omega)
      have f1 := hM.free L[k]
      have H1 := hide (hM.set L[k])
      rw [← orS_take hlt'] at H1
      have H2 := hide (ownsRow_setCell_below hO (a := ⟨g, L[k], none⟩) (by simpa using hsz3) (.bool true))
      have H3 := hide (hB.setCell (p := ⟨g, L[k], none⟩) hsz2 (.bool true))
      generalize L[k] = i at *
      have q1 : (k : Int) < ll := by omega
      have q2 : (i : Int) < 160 := by omega
      clear hM hO hB hiL hlt'
      generalize orS (inS K) (L.take k) i = bb at *
      go_wp2
      go_roundw
      case rel => exact ⟨k + 1, by omega, by go_num, unhide H1, unhide H2, unhide H3, by simpa using hs⟩
      case measure => simp [intOf]; omega
    · have hkl : k = ll := by omega
      subst hkl
      have q1 : ¬ (k : Int) < k := by omega
      rw [← unhide HLL, List.take_length] at hM
      have hp := hide (unhide HP wr g _ hB hsz2 hM)
      have HO := hide hO
      have HB := hide hB
      have hBs := hB.size
      clear hM hO hB
      go_wp2_with fail
      refine (unhide hp).mono ?_
      rintro e w5 ⟨v5, rfl, hM5, hK5⟩
      have HM5 := hide hM5
      have HO5 := hide (own_kept (unhide HO) hK5 (Nat.le_refl _) hsz3)
      have HB5 := hide ((unhide HB).trans (hK5.below w.heap.size hBs hsz2))
      have hs5 := Nat.le_trans hs hK5.size
      clear hM5 hK5 hp HO HB
      go_wp2_with fail
      go_loopw [9, 35] (fun v u wr => ∃ (j : Nat) (O : List Nat) (T : Nat → Bool), j ≤ n ∧ u = .int .i64 j ∧ O.length ≤ n + j ∧ wr.ownsRow w3.heap.size 3 1 v O.length (ic (zs O)) ∧ MkAt wr g T ∧ O ++ goN n R (List.range' j (n - j)) T = E ∧ Below w.heap.size w wr ∧ w3.heap.size ≤ wr.heap.size) (fun _ u _ => n - (intOf u).toNat)
      case atStart => exact ⟨0, L, _, by omega, rfl, by rw [unhide HLL]; omega, by rw [unhide HLL]; exact unhide HO5, unhide HM5, (unhide HE).symm, unhide HB5, hs5⟩
      case round =>
        clear HO5 HM5 HB5
        obtain ⟨j, O, T, hj, rfl, hol, hO, hM, hE, hB, hs⟩ := hrel
        obtain ⟨ao2, cp2, rfl⟩ := own_shape2 hO
        have hbs := hB.size
        by_cases hlt : j < n
        · have c1 := hM.cell j (by omega)
          have f1 := hM.free j
          have q1 : (j : Int) < n := by omega
          have q2 : (j : Int) < 160 := by omega
          rw [goN_step hlt] at hE
          cases hT : T j with
          | true =>
            rw [hT] at c1 hE
            simp only [if_true] at hE
            have HX : Hid (wr.ownsRow w3.heap.size 3 1 (.slice ao2 O.length cp2) O.length (ic (zs O)) ∧ MkAt wr g T ∧ O ++ goN n R (List.range' (j + 1) (n - (j + 1))) T = E ∧ Below w.heap.size w wr ∧ w3.heap.size ≤ wr.heap.size) := ⟨hO, hM, hE, hB, hs⟩
            have hol2 : O.length ≤ n + (j + 1) := by omega
            clear hO hM hE hB hT
            go_wp2
            go_roundw
            case rel => exact ⟨j + 1, O, T, by omega, by go_num, hol2, unhide HX⟩
            case measure => simp [intOf]; omega
          | false =>
            rw [hT] at c1 hE
            simp only [Bool.false_eq_true, if_false] at hE
            have HE2 : Hid ((O ++ [j]) ++ goN n R (List.range' (j + 1) (n - (j + 1))) (pl n R (mkS T j)) = E) := by show _ = _; rw [List.append_assoc]; exact hE
            have HO := hide hO
            have HMM := hide hM
            have HB := hide hB
            generalize hdl : O.length = dl at *
            have HDL := hide hdl
            clear hO hM hB hE hT hdl
            go_wp2_with (at_builtin; refine wpList_append_own _ rfl _ _ 23 rfl w3.heap.size 3 i0 (.int .i64 0) 1 8 Try.undI hi0 hz0 hz1 hz2 rfl (by decide) _ _ _ rfl ((unhide HO).alloc _) ⟨wr.heap.size, 0, none⟩ 1 1 [.int .i64 (j : Int)] ?cx rfl ?cn ?c2 ?c3 ?c4 ?c5 ?_)
            case cn => exact news_lit wr [.int .i64 (j : Int)] 3
            case c2 => intro u hu; simp at hu; rw [hu]; rfl
            case c3 => unfold maxLen; omega
            case c4 => omega
            case c5 => simp; omega
            all_goals try rfl
            intro v' w7 hown7 hgrow7 _
            obtain ⟨ao', cp', rfl⟩ := own_shape2 hown7
            have hb7 : Below w3.heap.size wr w7 := ((Below.refl w3.heap.size _).alloc (by omega) _).grown hgrow7 (by simp; omega) (fun q hq => ((unhide HO).lt q hq).1)
            have hM7 := (unhide HMM).below hb7 hsz3
            have hO7 : w7.ownsRow w3.heap.size 3 1 (.slice ao' (dl + 1) cp') (O ++ [j]).length (ic (zs (O ++ [j]))) := by
              rw [List.length_append, unhide HDL]
              unfold zs
              rw [List.map_append, ic_append]
              exact hown7
            have hB7 := (unhide HB).trans (hb7.mono hB3s)
            have hs7 := Nat.le_trans hs hb7.size
            have d1 := hM7.cell j (by omega)
            have g1 := hM7.free j
            have HB8 := hide (hB7.setCell (p := ⟨g, j, none⟩) hsz2 (.bool true))
            have HO8 := hide (ownsRow_setCell_below hO7 (a := ⟨g, j, none⟩) (by simpa using hsz3) (.bool true))
            have hp8 := hide (unhide HP _ g _ (unhide HB8) hsz2 (hM7.set j))
            have hs8 : w3.heap.size ≤ (w7.setCell ⟨g, j, none⟩ (.bool true)).heap.size := by simpa using hs7
            have hB8s := (unhide HB8).size
            generalize T j = tj at *
            clear hb7 hown7 hgrow7 c1 f1 hM7 hO7 hB7 HO HMM HB
            go_wp2_with fail
            refine (unhide hp8).mono ?_
            rintro e w9 ⟨v9, rfl, hM9, hK9⟩
            have HM9 := hide hM9
            have HO9 := hide (own_kept (unhide HO8) hK9 (Nat.le_refl _) hsz3)
            have HB9 := hide ((unhide HB8).trans (hK9.below w.heap.size hB8s hsz2))
            have hs9 := Nat.le_trans hs8 hK9.size
            clear hM9 hK9 hp8 HO8 HB8 d1 g1
            go_wp2
            go_roundw
            case rel => exact ⟨j + 1, O ++ [j], _, by omega, by go_num, by rw [List.length_append, unhide HDL]; simp; omega, unhide HO9, unhide HM9, unhide HE2, unhide HB9, hs9⟩
            case measure => simp [intOf]; omega
        · have hjn : j = n := by omega
          subst hjn
          have q1 : ¬ (j : Int) < j := by omega
          have hEq : O = E := by
            rw [Nat.sub_self] at hE
            simpa [goN] using hE
          have HX : Hid (wr.ownsRow w.heap.size 3 1 (.slice ao2 O.length cp2) E.length (ic (zs E)) ∧ Below w.heap.size w wr) := by
            rw [← hEq]
            exact ⟨own_mono hO hB3s, hB⟩
          clear hO hM hE hB hEq
          go_wp2
          go_ret2
          exact ⟨_, rfl, unhide HX⟩
end Go.Proofs.Ytfihpmhobjjaaaa

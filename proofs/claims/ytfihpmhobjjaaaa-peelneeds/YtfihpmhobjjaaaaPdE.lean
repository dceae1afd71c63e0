/- The program's Ripe and the document's. -/
import Derived.Test.YtfihpmhobjjaaaaPdD
namespace Go.Proofs.Ytfihpmhobjjaaaa
open Go.RowKit
set_option linter.unusedVariables false
attribute [local go_sem] Oper.semAt_some

/-- the places of the rows that are ripe -/
def rpB (S : Nat → Bool) (R : List (List Nat)) (j : Nat) : Bool := (lstN S (R.getD j [])).isSome
def rpN (S : Nat → Bool) (R : List (List Nat)) : List Nat := (List.range R.length).filter fun j => rpB S R j
theorem rpB_get {S : Nat → Bool} {R : List (List Nat)} {j : Nat} (h : j < R.length) : (lstN S R[j]).isSome = rpB S R j := by
  unfold rpB
  simp [List.getD, h]
set_option maxRecDepth 100000 in
set_option maxHeartbeats 1000000 in
theorem ripe_no (n : Int) (Rs : List (List Int)) (Ks : List Int) (a0 k0 : Option Addr) (c kc : Nat) (hn : -9223372036854775808 ≤ n ∧ n ≤ 9223372036854775807) (hk : Rs.length ≤ maxLen) (hk2 : ∀ r ∈ Rs, r.length ≤ maxLen) (hk3 : Ks.length ≤ maxLen) (w : World) (hI : RowsA w a0 Rs) (hK : Ints w k0 Ks) (hno : (mayB n Rs && mayB n [Ks]) = false) :
    Calls Try.prog 14 #[.int .i64 n, .slice a0 Rs.length c, .slice k0 Ks.length kc] w fun e w' => e = .returned (.tuple #[.slice none 0 0, .int .i64 1]) ∧ Below w.heap.size w w' := by
  have hm := hide (pmay_any n Rs Ks a0 k0 c kc hn hk hk2 hk3 w hI hK)
  rw [hno] at hm
  generalize Rs.length = m at *
  generalize Ks.length = l at *
  clear hI hK hno
  go_enter Try.func14, Try.ntmps14
  go_wp2_with fail
  refine (unhide hm).mono ?_
  rintro e w1 ⟨rfl, b1⟩
  have B1 := hide b1
  clear b1
  go_wp2
  go_ret2
  exact ⟨rfl, unhide B1⟩
set_option maxRecDepth 100000 in
set_option maxHeartbeats 1000000 in
theorem ripe_yes (n : Nat) (R : List (List Nat)) (K : List Nat) (h : Pl n R K) (a0 k0 : Option Addr) (c kc : Nat) (w : World) (hI : RowsC w a0 R) (hK : Ints w k0 (zs K)) :
    Calls Try.prog 14 #[.int .i64 n, .slice a0 R.length c, .slice k0 K.length kc] w fun e w' => ∃ v, e = .returned (.tuple #[v, .int .i64 0]) ∧ w'.ownsRow w.heap.size 3 1 v (rpN (inS K) R).length (ic (zs (rpN (inS K) R))) ∧ Below w.heap.size w w' := by
  obtain ⟨i0, hi0, hz0, hz1, hz2⟩ := info_parts Try.infoI
  have h160 := h.n160
  have hm := pmay_any n (R.map zs) (zs K) a0 k0 c kc ⟨by omega, by omega⟩ (by have := h.m400; rw [List.length_map]; unfold maxLen; omega) (fun r hr => by
    obtain ⟨x, hx, rfl⟩ := List.mem_map.1 hr
    have := h.rlen x hx
    rw [zs_length]; unfold maxLen; omega) (by have := h.klen; rw [zs_length]; unfold maxLen; omega) w hI.rowsA hK
  rw [rws_may h.rws, rws_may h.rwsK, List.length_map, zs_length] at hm
  have HM := hide hm
  have HMK := hide (fun W (hb : Below w.heap.size w W) => marked_any K k0 kc (fun x hx => by have := h.klt x hx; omega) (by have := h.klen; unfold maxLen; omega) W (hK.below hb))
  have HLA : Hid (∀ (W : World) (g : Nat) (r : List Nat), r ∈ R → ∀ b cc, Ints W b (zs r) → r.length ≤ cc → cc ≤ maxLen → MkAt W g (inS K) → Calls Try.prog 30 #[.slice b r.length cc, .pointer (some ⟨g, 0, none⟩)] W fun e w' => e = .returned (.tuple #[.int .i64 (lastI (inS K) r : Nat), .bool (lstN (inS K) r).isSome]) ∧ Below W.heap.size W w') := fun W g r hr b cc h1 h2 h3 h4 => last_any r b cc g (inS K) (fun x hx => by have := h.lt r hr x hx; omega) (by have := h.rlen r hr; unfold maxLen; omega) h2 h3 W h1 h4
  have HE : Hid (rpN (inS K) R = (List.range R.length).filter fun j => rpB (inS K) R j) := rfl
  have hm4 := h.m400
  have HI := hide hI
  generalize hkn : rpN (inS K) R = KN at *
  generalize hmm : R.length = m at *
  have HMM := hide hmm
  generalize K.length = l at *
  have hmn0 := hide (fun W => mk_new W (inS K))
  have hmb0 := hide (fun W => mk_below W (inS K))
  have hS1 : (mc (inS K)).toArray.size = 160 := by rw [List.size_toArray, mc_length]
  have hS2 : (mc (inS K)).toArray.all (·.oneCell') = true := all_oneCell_toArray (mc_one _)
  have hSL : (mc (inS K)).toArray.toList = mc (inS K) := rfl
  rw [← hSL] at hmn0 hmb0
  clear hSL
  generalize hSe : (mc (inS K)).toArray = SA at *
  generalize inS K = S at *
  have hi2 : Hid ((Try.prog.info? 47).map (·.size) = some SA.size) := by show _ = _; rw [hS1]; kernel_rfl
  have ht0 : Hid (∀ W : World, (W.alloc (.cells Try.zeroCells47 47)).there W.heap.size 0 SA.size) := fun W => by rw [hS1]; exact mk_there W
  clear hI hK hm hkn h hmm hSe hS1
  go_enter Try.func14, Try.ntmps14
  go_wp2_with fail
  refine (unhide HM).mono ?_
  rintro e w1 ⟨rfl, b1⟩
  have B1 := hide b1
  have hmk := hide (unhide HMK w1 b1)
  clear b1
  go_wp2_with fail
  refine (unhide hmk).mono ?_
  rintro e w2 ⟨rfl, b2⟩
  have B2 := hide ((unhide B1).trans (b2.mono (unhide B1).size))
  clear b2
  have HMN := hide (unhide hmn0 w2)
  have HMB := hide (unhide hmb0 w2)
  have ht3 := hide (unhide ht0 w2)
  go_wp2_with (refine wpList_store_mid rfl 47 (.tmp 8) (.tmp 20) rfl w2.heap.size 0 SA rfl rfl (unhide ht3) (unhide hi2) hS2 ?_)
  have B3 := hide ((unhide B2).trans ((unhide HMB).mono (unhide B2).size))
  have hsz3 : w2.heap.size < ((w2.alloc (.cells Try.zeroCells47 47)).setCells w2.heap.size 0 SA.toList).heap.size := (unhide HMN).lt
  have hsz2 := (unhide B2).size
  generalize hw3 : ((w2.alloc (.cells Try.zeroCells47 47)).setCells w2.heap.size 0 SA.toList) = w3 at *
  clear hw3 ht3 HMB HMK hmk HM
  generalize w2.heap.size = g at *
  have hw3s := (unhide B3).size
  go_loopw [9, 23] (fun v u wr => ∃ k : Nat, k ≤ m ∧ u = .int .i64 k ∧ wr.ownsRow w3.heap.size 3 1 v ((List.range k).filter fun j => rpB S R j).length (ic (zs ((List.range k).filter fun j => rpB S R j))) ∧ Below w3.heap.size w3 wr) (fun _ u _ => m - (intOf u).toNat)
  case atStart => exact ⟨0, by omega, rfl, World.ownsRow_nil _ _ _ _, Below.refl _ _⟩
  case round =>
    obtain ⟨k, hk, rfl, hO, hB⟩ := hrel
    obtain ⟨ao, cp, rfl⟩ := own_shape2 hO
    have hbs := hB.size
    by_cases hlt : k < m
    · have hlt' : k < R.length := by rw [unhide HMM]; exact hlt
      obtain ⟨gr, ogr, rfl, b, cc, c0, hIk, hcc, hcm⟩ := ((unhide HI).below ((unhide B3).trans (hB.mono hw3s))) k hlt'
      have hla := hide (unhide HLA wr g R[k] (List.getElem_mem hlt') b cc hIk hcc hcm ((unhide HMN).below hB hsz3))
      rw [rpB_get hlt'] at hla
      have q1 : (k : Int) < m := by omega
      have hln : ((List.range k).filter fun j => rpB S R j).length ≤ 400 := by
        have := List.length_filter_le (fun j => rpB S R j) (List.range k)
        simp at this
        omega
      have HRS : Hid ((List.range (k + 1)).filter (fun j => rpB S R j) = (List.range k).filter (fun j => rpB S R j) ++ if rpB S R k = true then [k] else []) := by
        show _ = _
        rw [List.range_succ, List.filter_append]
        congr 1
        cases hq : rpB S R k <;> simp [hq]
      generalize R[k].length = rl at *
      generalize lastI S R[k] = li at *
      cases hfk : rpB S R k with
      | false =>
        rw [hfk] at hla HRS
        simp only [Bool.false_eq_true, if_false, List.append_nil] at HRS
        have HO := hide hO
        have HB := hide hB
        generalize hdl2 : ((List.range k).filter fun j => rpB S R j).length = dl2 at *
        have HDL := hide hdl2
        clear hO hB hfk hIk hlt' hdl2
        go_wp2_with fail
        refine (unhide hla).mono ?_
        rintro e w5 ⟨rfl, b5⟩
        have HX : Hid (w5.ownsRow w3.heap.size 3 1 (.slice ao dl2 cp) ((List.range (k + 1)).filter fun j => rpB S R j).length (ic (zs ((List.range (k + 1)).filter fun j => rpB S R j))) ∧ Below w3.heap.size w3 w5) := by
          rw [unhide HRS, unhide HDL]
          exact ⟨own_below2 (unhide HO) b5, (unhide HB).trans (b5.mono (unhide HB).size)⟩
        clear b5
        go_wp2
        go_roundw
        case rel => exact ⟨k + 1, by omega, by go_num, unhide HX⟩
        case measure => simp [intOf]; omega
      | true =>
        rw [hfk] at hla HRS
        simp only [if_true] at HRS
        have HO := hide hO
        have HB := hide hB
        generalize hDe : (List.range k).filter (fun j => rpB S R j) = D2 at *
        generalize hdl2 : D2.length = dl2 at *
        have HDL := hide hdl2
        clear hO hB hfk hDe hdl2 hIk hlt'
        go_wp2_with fail
        refine (unhide hla).mono ?_
        rintro e w5 ⟨rfl, b5⟩
        have HO5 := hide (own_below2 (unhide HO) b5)
        have HB5 := hide ((unhide HB).trans (b5.mono (unhide HB).size))
        have hb5s := (unhide HB5).size
        clear b5
        go_wp2_with (at_builtin; refine wpList_append_own _ rfl _ _ 23 rfl w3.heap.size 3 i0 (.int .i64 0) 1 8 Try.undI hi0 hz0 hz1 hz2 rfl (by decide) _ _ _ rfl ((unhide HO5).alloc _) ⟨w5.heap.size, 0, none⟩ 1 1 [.int .i64 (k : Int)] ?cx rfl ?cn ?c2 ?c3 ?c4 ?c5 ?_)
        case cn => exact news_lit w5 [.int .i64 (k : Int)] 3
        case c2 => intro u hu; simp at hu; rw [hu]; rfl
        case c3 => unfold maxLen; omega
        case c4 => omega
        case c5 => simp; omega
        all_goals try rfl
        intro v' w7 hown7 hgrow7 _
        obtain ⟨ao', cp', rfl⟩ := own_shape2 hown7
        have hb7 : Below w3.heap.size w5 w7 := ((Below.refl w3.heap.size _).alloc (by omega) _).grown hgrow7 (by simp; omega) (fun q hq => ((unhide HO5).lt q hq).1)
        have HB7 := hide ((unhide HB5).trans hb7)
        have HO7 : Hid (w7.ownsRow w3.heap.size 3 1 (.slice ao' (dl2 + 1) cp') ((List.range (k + 1)).filter fun j => rpB S R j).length (ic (zs ((List.range (k + 1)).filter fun j => rpB S R j)))) := by
          show World.ownsRow _ _ _ _ _ _ _
          rw [unhide HRS, List.length_append, unhide HDL]
          unfold zs
          rw [List.map_append, ic_append]
          exact hown7
        clear hb7 hown7 hgrow7
        go_wp2
        go_roundw
        case rel => exact ⟨k + 1, by omega, by go_num, unhide HO7, unhide HB7⟩
        case measure => simp [intOf]; omega
    · have hkn : k = m := by omega
      subst hkn
      have q1 : ¬ (k : Int) < k := by omega
      have HX : Hid (wr.ownsRow w.heap.size 3 1 (.slice ao ((List.range k).filter fun j => rpB S R j).length cp) KN.length (ic (zs KN)) ∧ Below w.heap.size w wr) := by
        rw [unhide HE]
        exact ⟨own_mono hO hw3s, (unhide B3).trans (hB.mono hw3s)⟩
      generalize ((List.range k).filter fun j => rpB S R j).length = dl2 at *
      clear hO hB
      go_wp2
      go_ret2
      exact ⟨_, rfl, unhide HX⟩
set_option maxRecDepth 100000 in
set_option maxHeartbeats 1000000 in
theorem dripe_no (n : Int) (Rs : List (List Int)) (Ks : List Int) (a0 k0 : Option Addr) (c kc : Nat) (hn : -9223372036854775808 ≤ n ∧ n ≤ 9223372036854775807) (hk : Rs.length ≤ maxLen) (hk2 : ∀ r ∈ Rs, r.length ≤ maxLen) (hk3 : Ks.length ≤ maxLen) (w : World) (hI : RowsA w a0 Rs) (hK : Ints w k0 Ks) (hno : (mayB n Rs && mayB n [Ks]) = false) :
    Calls Try.prog 15 #[.int .i64 n, .slice a0 Rs.length c, .slice k0 Ks.length kc] w fun e w' => e = .returned (.tuple #[.slice none 0 0, .int .i64 1]) ∧ Below w.heap.size w w' := by
  have hm := hide (pdmay_any n Rs Ks a0 k0 c kc hn hk hk2 hk3 w hI hK)
  rw [hno] at hm
  generalize Rs.length = m at *
  generalize Ks.length = l at *
  clear hI hK hno
  go_enter Try.func15, Try.ntmps15
  go_wp2_with fail
  refine (unhide hm).mono ?_
  rintro e w1 ⟨rfl, b1⟩
  have B1 := hide b1
  clear b1
  go_wp2
  go_ret2
  exact ⟨rfl, unhide B1⟩
theorem unk_one {S : Nat → Bool} {r : List Nat} : decide ((unk S r).length = 1) = (lstN S r).isSome := by
  rcases lst_len (S := S) (r := r) with ⟨i, h1, h2⟩ | ⟨h1, h2⟩
  · rw [h1, h2]; rfl
  · rw [h1, decide_eq_false h2]; rfl
set_option maxRecDepth 100000 in
set_option maxHeartbeats 1000000 in
theorem dripe_yes (n : Nat) (R : List (List Nat)) (K : List Nat) (h : Pl n R K) (a0 k0 : Option Addr) (c kc : Nat) (w : World) (hI : RowsC w a0 R) (hK : Ints w k0 (zs K)) :
    Calls Try.prog 15 #[.int .i64 n, .slice a0 R.length c, .slice k0 K.length kc] w fun e w' => ∃ v, e = .returned (.tuple #[v, .int .i64 0]) ∧ w'.ownsRow w.heap.size 3 1 v (rpN (inS K) R).length (ic (zs (rpN (inS K) R))) ∧ Below w.heap.size w w' := by
  obtain ⟨i0, hi0, hz0, hz1, hz2⟩ := info_parts Try.infoI
  have h160 := h.n160
  have hm := pdmay_any n (R.map zs) (zs K) a0 k0 c kc ⟨by omega, by omega⟩ (by have := h.m400; rw [List.length_map]; unfold maxLen; omega) (fun r hr => by
    obtain ⟨x, hx, rfl⟩ := List.mem_map.1 hr
    have := h.rlen x hx
    rw [zs_length]; unfold maxLen; omega) (by have := h.klen; rw [zs_length]; unfold maxLen; omega) w hI.rowsA hK
  rw [rws_may h.rws, rws_may h.rwsK, List.length_map, zs_length] at hm
  have HM := hide hm
  have HRE : Hid (∀ (W : World) (r : List Nat), r ∈ R → Below w.heap.size w W → ∀ b cc, Ints W b (zs r) → Calls Try.prog 31 #[.slice b r.length cc, .slice k0 K.length kc] W fun e w' => ∃ v, e = .returned v ∧ w'.ownsRow W.heap.size 3 1 v (unk (inS K) r).length (ic (zs (unk (inS K) r))) ∧ Below W.heap.size W w') := fun W r hr hb b cc h1 => rest_any r K b k0 cc kc (by have := h.rlen r hr; omega) (by have := h.klen; omega) W h1 (hK.below hb)
  have HE : Hid (rpN (inS K) R = (List.range R.length).filter fun j => rpB (inS K) R j) := rfl
  have hm4 := h.m400
  have HI := hide hI
  generalize hkn : rpN (inS K) R = KN at *
  generalize hmm : R.length = m at *
  have HMM := hide hmm
  generalize K.length = l at *
  generalize inS K = S at *
  clear hI hK hm hkn h hmm
  go_enter Try.func15, Try.ntmps15
  go_wp2_with fail
  refine (unhide HM).mono ?_
  rintro e w3 ⟨rfl, b1⟩
  have B3 := hide b1
  have hw3s := b1.size
  clear b1
  go_wp2_with fail
  go_loopw [8, 9] (fun v u wr => ∃ k : Nat, k ≤ m ∧ u = .int .i64 k ∧ wr.ownsRow w3.heap.size 3 1 v ((List.range k).filter fun j => rpB S R j).length (ic (zs ((List.range k).filter fun j => rpB S R j))) ∧ Below w3.heap.size w3 wr) (fun _ u _ => m - (intOf u).toNat)
  case atStart => exact ⟨0, by omega, rfl, World.ownsRow_nil _ _ _ _, Below.refl _ _⟩
  case round =>
    obtain ⟨k, hk, rfl, hO, hB⟩ := hrel
    obtain ⟨ao, cp, rfl⟩ := own_shape2 hO
    have hbs := hB.size
    by_cases hlt : k < m
    · have hlt' : k < R.length := by rw [unhide HMM]; exact hlt
      have hbw := (unhide B3).trans (hB.mono hw3s)
      obtain ⟨gr, ogr, rfl, b, cc, c0, hIk, hcc, hcm⟩ := ((unhide HI).below hbw) k hlt'
      have hla := hide (unhide HRE wr R[k] (List.getElem_mem hlt') hbw b cc hIk)
      have hu1 : decide ((unk S R[k]).length = 1) = rpB S R k := by rw [unk_one, rpB_get hlt']
      have q1 : (k : Int) < m := by omega
      have hln : ((List.range k).filter fun j => rpB S R j).length ≤ 400 := by
        have := List.length_filter_le (fun j => rpB S R j) (List.range k)
        simp at this
        omega
      have HRS : Hid ((List.range (k + 1)).filter (fun j => rpB S R j) = (List.range k).filter (fun j => rpB S R j) ++ if rpB S R k = true then [k] else []) := by
        show _ = _
        rw [List.range_succ, List.filter_append]
        congr 1
        cases hq : rpB S R k <;> simp [hq]
      generalize R[k].length = rl at *
      generalize hul : (unk S R[k]).length = ul at *
      cases hfk : rpB S R k with
      | false =>
        rw [hfk] at hu1 HRS
        simp only [Bool.false_eq_true, if_false, List.append_nil] at HRS
        have hne : ul ≠ 1 := of_decide_eq_false hu1
        have q5 : ((ul : Int) == 1) = false := by simp; omega
        have q6 : ¬ (ul : Int) = 1 := by omega
        have HO := hide hO
        have HB := hide hB
        generalize hdl2 : ((List.range k).filter fun j => rpB S R j).length = dl2 at *
        have HDL := hide hdl2
        clear hO hB hfk hIk hdl2 hu1 hul hbw
        go_wp2_with fail
        refine (unhide hla).mono ?_
        rintro e w5 ⟨v5, rfl, hO5, b5⟩
        obtain ⟨a5, c5, rfl⟩ := own_shape2 hO5
        have HX : Hid (w5.ownsRow w3.heap.size 3 1 (.slice ao dl2 cp) ((List.range (k + 1)).filter fun j => rpB S R j).length (ic (zs ((List.range (k + 1)).filter fun j => rpB S R j))) ∧ Below w3.heap.size w3 w5) := by
          rw [unhide HRS, unhide HDL]
          exact ⟨own_below2 (unhide HO) b5, (unhide HB).trans (b5.mono (unhide HB).size)⟩
        clear b5 hO5
        go_wp2
        go_roundw
        case rel => exact ⟨k + 1, by omega, by go_num, unhide HX⟩
        case measure => simp [intOf]; omega
      | true =>
        rw [hfk] at hu1 HRS
        simp only [if_true] at HRS
        have hone : ul = 1 := of_decide_eq_true hu1
        subst hone
        have HO := hide hO
        have HB := hide hB
        generalize hDe : (List.range k).filter (fun j => rpB S R j) = D2 at *
        generalize hdl2 : D2.length = dl2 at *
        have HDL := hide hdl2
        clear hO hB hfk hDe hdl2 hIk hu1 hul hbw
        go_wp2_with fail
        refine (unhide hla).mono ?_
        rintro e w5 ⟨v5, rfl, hO5x, b5⟩
        obtain ⟨a5, c5x, rfl⟩ := own_shape2 hO5x
        have HO5 := hide (own_below2 (unhide HO) b5)
        have HB5 := hide ((unhide HB).trans (b5.mono (unhide HB).size))
        have hb5s := (unhide HB5).size
        clear b5 hO5x
        go_wp2_with (at_builtin; refine wpList_append_own _ rfl _ _ 23 rfl w3.heap.size 3 i0 (.int .i64 0) 1 8 Try.undI hi0 hz0 hz1 hz2 rfl (by decide) _ _ _ rfl ((unhide HO5).alloc _) ⟨w5.heap.size, 0, none⟩ 1 1 [.int .i64 (k : Int)] ?cx rfl ?cn ?c2 ?c3 ?c4 ?c5 ?_)
        case cn => exact news_lit w5 [.int .i64 (k : Int)] 3
        case c2 => intro u hu; simp at hu; rw [hu]; rfl
        case c3 => unfold maxLen; omega
        case c4 => omega
        case c5 => simp; omega
        all_goals try rfl
        intro v' w7 hown7 hgrow7 _
        obtain ⟨ao', cp', rfl⟩ := own_shape2 hown7
        have hb7 : Below w3.heap.size w5 w7 := ((Below.refl w3.heap.size _).alloc (by omega) _).grown hgrow7 (by simp; omega) (fun q hq => ((unhide HO5).lt q hq).1)
        have HB7 := hide ((unhide HB5).trans hb7)
        have HO7 : Hid (w7.ownsRow w3.heap.size 3 1 (.slice ao' (dl2 + 1) cp') ((List.range (k + 1)).filter fun j => rpB S R j).length (ic (zs ((List.range (k + 1)).filter fun j => rpB S R j)))) := by
          show World.ownsRow _ _ _ _ _ _ _
          rw [unhide HRS, List.length_append, unhide HDL]
          unfold zs
          rw [List.map_append, ic_append]
          exact hown7
        clear hb7 hown7 hgrow7
        go_wp2
        go_roundw
        case rel => exact ⟨k + 1, by omega, by go_num, unhide HO7, unhide HB7⟩
        case measure => simp [intOf]; omega
    · have hkn : k = m := by omega
      subst hkn
      have q1 : ¬ (k : Int) < k := by omega
      have HX : Hid (wr.ownsRow w.heap.size 3 1 (.slice ao ((List.range k).filter fun j => rpB S R j).length cp) KN.length (ic (zs KN)) ∧ Below w.heap.size w wr) := by
        rw [unhide HE]
        exact ⟨own_mono hO hw3s, (unhide B3).trans (hB.mono hw3s)⟩
      generalize ((List.range k).filter fun j => rpB S R j).length = dl2 at *
      clear hO hB
      go_wp2
      go_ret2
      exact ⟨_, rfl, unhide HX⟩
end Go.Proofs.Ytfihpmhobjjaaaa

/- peel's Known, Steps. -/
import Derived.Test.YtfihpmhobjjaaaaPeK
import Derived.Test.YtfihpmhobjjaaaaGaG
namespace Go.Proofs.Ytfihpmhobjjaaaa
open Go.RowKit
set_option linter.unusedVariables false
attribute [local go_sem] Oper.semAt_some

theorem RowsC.rowsA {w : World} {a0 : Option Addr} {R : List (List Nat)} (h : RowsC w a0 R) : RowsA w a0 (R.map zs) := fun i hi => by
  have hi' : i < R.length := by simpa using hi
  obtain ⟨g, o, h1, b, c, h2, h3, _⟩ := h i hi'
  refine ⟨g, o, h1, b, c, ?_, ?_⟩
  · rw [List.getElem_map, zs_length]; exact h2
  · rw [List.getElem_map]; exact h3
/-- rows and numbers below n that may be peeled -/
structure Pl (n : Nat) (R : List (List Nat)) (K : List Nat) : Prop where
  n160 : n ≤ 160
  m400 : R.length ≤ 400
  lt : RLt n R
  ord : ∀ r ∈ R, r.Pairwise (· < ·)
  klt : ∀ x ∈ K, x < n
  kord : K.Pairwise (· < ·)
theorem Pl.rws {n : Nat} {R : List (List Nat)} {K : List Nat} (h : Pl n R K) : Rws n (R.map zs) R := ⟨rfl, h.lt, h.ord, h.n160, h.m400⟩
theorem Pl.rwsK {n : Nat} {R : List (List Nat)} {K : List Nat} (h : Pl n R K) : Rws n [zs K] [K] := ⟨rfl, by simpa using h.klt, by simpa using h.kord, h.n160, by simp⟩
theorem len_sorted {n : Nat} {r : List Nat} (h1 : ∀ x ∈ r, x < n) (h2 : r.Pairwise (· < ·)) : r.length ≤ n := by
  rw [sorted_nums h1 h2]
  exact numsR_len _ _
theorem Pl.klen {n : Nat} {R : List (List Nat)} {K : List Nat} (h : Pl n R K) : K.length ≤ n := len_sorted h.klt h.kord
theorem Pl.rlen {n : Nat} {R : List (List Nat)} {K : List Nat} (h : Pl n R K) : ∀ r ∈ R, r.length ≤ n := fun r hr => len_sorted (h.lt r hr) (h.ord r hr)
theorem Pl.nodup {n : Nat} {R : List (List Nat)} {K : List Nat} (h : Pl n R K) : ∀ r ∈ R, r.Nodup := fun r hr => (h.ord r hr).imp (fun {a b} hab => by omega)
theorem may_pl {n : Int} {Rs : List (List Int)} {Ks : List Int} (h1 : mayB n Rs = true) (h2 : mayB n [Ks] = true) : ∃ (k : Nat) (R : List (List Nat)) (K : List Nat), n = (k : Int) ∧ Rs = R.map zs ∧ Ks = zs K ∧ Pl k R K := by
  obtain ⟨k, R, rfl, hR⟩ := may_rws h1
  obtain ⟨k', R', he, hR'⟩ := may_rws h2
  obtain rfl : k = k' := by omega
  have e := hR'.eq
  match R', e with
  | [K], e =>
    simp at e
    exact ⟨k, R, K, rfl, hR.eq, e, hR.n160, hR.m400, hR.lt, hR.ord, fun x hx => hR'.lt K (by simp) x hx, hR'.ord K (by simp)⟩
theorem RLt.up {n m : Nat} {R : List (List Nat)} (h : RLt n R) (hn : n ≤ m) : RLt m R := fun r hr x hx => by have := h r hr x hx; omega
theorem peel160 {n : Nat} {R : List (List Nat)} (h : RLt n R) (hn : n ≤ 160) (K : List Nat) : peelF 160 (inS K) R = peelF n (inS K) R := peelF_fuel h _ _ _ (by have := un_le n (inS K); omega) (un_le _ _)
set_option maxRecDepth 100000 in
set_option maxHeartbeats 1000000 in
theorem known_no (n : Int) (Rs : List (List Int)) (Ks : List Int) (a0 k0 : Option Addr) (c kc : Nat) (hn : -9223372036854775808 ≤ n ∧ n ≤ 9223372036854775807) (hk : Rs.length ≤ maxLen) (hk2 : ∀ r ∈ Rs, r.length ≤ maxLen) (hk3 : Ks.length ≤ maxLen) (w : World) (hI : RowsA w a0 Rs) (hK : Ints w k0 Ks) (hno : (mayB n Rs && mayB n [Ks]) = false) :
    Calls Try.prog 12 #[.int .i64 n, .slice a0 Rs.length c, .slice k0 Ks.length kc] w fun e w' => e = .returned (.tuple #[.slice none 0 0, .int .i64 1]) ∧ Below w.heap.size w w' := by
  have hm := hide (pmay_any n Rs Ks a0 k0 c kc hn hk hk2 hk3 w hI hK)
  rw [hno] at hm
  generalize Rs.length = m at *
  generalize Ks.length = l at *
  clear hI hK hno
  go_enter Try.func12, Try.ntmps12
  go_wp2_with fail
  refine (unhide hm).mono ?_
  rintro e w1 ⟨rfl, b1⟩
  have B1 := hide b1
  clear b1
  go_wp2
  go_ret2
  exact ⟨rfl, unhide B1⟩
set_option maxRecDepth 100000 in
set_option maxHeartbeats 1000000 in
theorem known_yes (n : Nat) (R : List (List Nat)) (K : List Nat) (h : Pl n R K) (a0 k0 : Option Addr) (c kc : Nat) (w : World) (hI : RowsC w a0 R) (hK : Ints w k0 (zs K)) :
    Calls Try.prog 12 #[.int .i64 n, .slice a0 R.length c, .slice k0 K.length kc] w fun e w' => ∃ v, e = .returned (.tuple #[v, .int .i64 0]) ∧ w'.ownsRow w.heap.size 3 1 v (knN n R K).length (ic (zs (knN n R K))) ∧ Below w.heap.size w w' := by
  obtain ⟨i0, hi0, hz0, hz1, hz2⟩ := info_parts Try.infoI
  have h160 := h.n160
  have hm := pmay_any n (R.map zs) (zs K) a0 k0 c kc ⟨by omega, by omega⟩ (by have := h.m400; rw [List.length_map]; unfold maxLen; omega) (fun r hr => by
    obtain ⟨x, hx, rfl⟩ := List.mem_map.1 hr
    have := h.rlen x hx
    rw [zs_length]; unfold maxLen; omega) (by have := h.klen; rw [zs_length]; unfold maxLen; omega) w hI.rowsA hK
  rw [rws_may h.rws, rws_may h.rwsK, List.length_map, zs_length] at hm
  have HM := hide hm
  have HMK := hide (fun W (hb : Below w.heap.size w W) => marked_any K k0 kc (fun x hx => by have := h.klt x hx; omega) (by have := h.klen; unfold maxLen; omega) W (hK.below hb))
  have HP := hide (fun W g (hb : Below w.heap.size w W) (hg : w.heap.size ≤ g) (hM : MkAt W g (inS K)) => peel_any R (h.lt.up h160) h.m400 a0 c g (inS K) w W hb hg hI hM (fun r hr => by have := h.rlen r hr; unfold maxLen; omega))
  rw [peel160 h.lt h160 K] at HP
  have HE : Hid (knN n R K = (List.range n).filter fun i => (peelF n (inS K) R).2 i) := rfl
  generalize hF : peelF n (inS K) R = F at *
  generalize hkn : knN n R K = KN at *
  generalize R.length = m at *
  generalize K.length = l at *
  clear hI hK hm hF hkn h
  go_enter Try.func12, Try.ntmps12
  go_wp2_with fail
  refine (unhide HM).mono ?_
  rintro e w1 ⟨rfl, b1⟩
  have B1 := hide b1
  have hmk := hide (unhide HMK w1 b1)
  clear b1
  go_wp2_with fail
  refine (unhide hmk).mono ?_
  rintro e w2 ⟨rfl, b2⟩
  have B2 := hide ((unhide B1).trans (b2.mono (unhide B1).size))
  clear b2
  have hmn := mk_new w2 (inS K)
  have hmb := mk_below w2 (inS K)
  have hmt := mk_there w2
  have hS1 : (mc (inS K)).toArray.size = 160 := by rw [List.size_toArray, mc_length]
  have hS2 : (mc (inS K)).toArray.all (·.oneCell') = true := all_oneCell_toArray (mc_one _)
  have hSL : (mc (inS K)).toArray.toList = mc (inS K) := rfl
  rw [← hSL] at hmn hmb
  clear hSL
  generalize hSe : (mc (inS K)).toArray = SA at *
  have hi2 : Hid ((Try.prog.info? 47).map (·.size) = some SA.size) := by show _ = _; rw [hS1]; kernel_rfl
  have ht3 : Hid ((w2.alloc (.cells Try.zeroCells47 47)).there w2.heap.size 0 SA.size) := by show World.there _ _ _ _; rw [hS1]; exact hmt
  have HMN := hide hmn
  have HMB := hide hmb
  clear hS1 hmt hmn hmb hSe
  go_wp2_with (refine wpList_store_mid rfl 47 (.tmp 8) (.tmp 17) rfl w2.heap.size 0 SA rfl rfl (unhide ht3) (unhide hi2) hS2 ?_)
  have B3 := hide ((unhide B2).trans ((unhide HMB).mono (unhide B2).size))
  have hp := hide (unhide HP _ w2.heap.size (unhide B3) (unhide B2).size (unhide HMN))
  have hsz3 : w2.heap.size < ((w2.alloc (.cells Try.zeroCells47 47)).setCells w2.heap.size 0 SA.toList).heap.size := (unhide HMN).lt
  have hsz2 := (unhide B2).size
  generalize hw3 : ((w2.alloc (.cells Try.zeroCells47 47)).setCells w2.heap.size 0 SA.toList) = w3 at *
  have HP2 := hp
  clear hw3 ht3 HMN HMB HP HMK hmk HM hp
  generalize w2.heap.size = g at *
  go_wp2_with fail
  refine (unhide HP2).mono ?_
  rintro e w4 ⟨v4, rfl, _, hM4, hK4⟩
  have hsz4 := hK4.size
  have HB4 := hide ((unhide B3).trans (hK4.below w.heap.size (unhide B3).size (by omega)))
  have HM4 := hide hM4
  have hgw4 := hM4.lt
  have hB4s := (unhide HB4).size
  clear hM4 hK4
  go_wp2_with fail
  go_loopw [9, 21] (fun v u wr => ∃ k : Nat, k ≤ n ∧ u = .int .i64 k ∧ wr.ownsRow w4.heap.size 3 1 v ((List.range k).filter fun i => F.2 i).length (ic (zs ((List.range k).filter fun i => F.2 i))) ∧ MkAt wr g F.2 ∧ Below w4.heap.size w4 wr) (fun _ u _ => n - (intOf u).toNat)
  case atStart => exact ⟨0, by omega, rfl, World.ownsRow_nil _ _ _ _, unhide HM4, Below.refl _ _⟩
  case round =>
    obtain ⟨k, hk, rfl, hO, hM, hB⟩ := hrel
    obtain ⟨ao, cp, rfl⟩ := own_shape2 hO
    have hbs := hB.size
    by_cases hlt : k < n
    · have c1 := hM.cell k (by omega)
      have q1 : (k : Int) < n := by omega
      have q2 : (k : Int) < 160 := by omega
      have hln : ((List.range k).filter fun i => F.2 i).length ≤ 160 := by
        have := List.length_filter_le (fun i => F.2 i) (List.range k)
        simp at this
        omega
      have HRS : Hid ((List.range (k + 1)).filter (fun i => F.2 i) = (List.range k).filter (fun i => F.2 i) ++ if F.2 k = true then [k] else []) := by
        show _ = _
        rw [List.range_succ, List.filter_append]
        congr 1
        cases hq : F.2 k <;> simp [hq]
      cases hfk : F.2 k with
      | false =>
        rw [hfk] at c1 HRS
        simp only [Bool.false_eq_true, if_false, List.append_nil] at HRS
        have HX : Hid (wr.ownsRow w4.heap.size 3 1 (.slice ao ((List.range k).filter fun i => F.2 i).length cp) ((List.range (k + 1)).filter fun i => F.2 i).length (ic (zs ((List.range (k + 1)).filter fun i => F.2 i))) ∧ MkAt wr g F.2 ∧ Below w4.heap.size w4 wr) := by
          rw [unhide HRS]
          exact ⟨hO, hM, hB⟩
        generalize ((List.range k).filter fun i => F.2 i).length = dl at *
        clear hO hM hB hfk HRS
        go_wp2
        go_roundw
        case rel => exact ⟨k + 1, by omega, by go_num, unhide HX⟩
        case measure => simp [intOf]; omega
      | true =>
        rw [hfk] at c1 HRS
        simp only [if_true] at HRS
        have HO := hide hO
        have HMM := hide hM
        have HB := hide hB
        generalize hDe : (List.range k).filter (fun i => F.2 i) = D at *
        generalize hdl : D.length = dl at *
        have HDL := hide hdl
        clear hO hM hB hfk hDe hdl
        go_wp2_with (at_builtin; refine wpList_append_own _ rfl _ _ 23 rfl w4.heap.size 3 i0 (.int .i64 0) 1 8 Try.undI hi0 hz0 hz1 hz2 rfl (by decide) _ _ _ rfl ((unhide HO).alloc _) ⟨wr.heap.size, 0, none⟩ 1 1 [.int .i64 (k : Int)] ?cx rfl ?cn ?c2 ?c3 ?c4 ?c5 ?_)
        case cn => exact news_lit wr [.int .i64 (k : Int)] 3
        case c2 => intro u hu; simp at hu; rw [hu]; rfl
        case c3 => unfold maxLen; omega
        case c4 => omega
        case c5 => simp; omega
        all_goals try rfl
        intro v' w7 hown7 hgrow7 _
        obtain ⟨ao', cp', rfl⟩ := own_shape2 hown7
        have hb7 : Below w4.heap.size wr w7 := ((Below.refl w4.heap.size _).alloc (by omega) _).grown hgrow7 (by simp; omega) (fun q hq => ((unhide HO).lt q hq).1)
        have HM7 := hide ((unhide HMM).below hb7 hgw4)
        have HB7 := hide ((unhide HB).trans hb7)
        have HO7 : Hid (w7.ownsRow w4.heap.size 3 1 (.slice ao' (dl + 1) cp') ((List.range (k + 1)).filter fun i => F.2 i).length (ic (zs ((List.range (k + 1)).filter fun i => F.2 i)))) := by
          show World.ownsRow _ _ _ _ _ _ _
          rw [unhide HRS, List.length_append, unhide HDL]
          unfold zs
          rw [List.map_append, ic_append]
          exact hown7
        clear hb7 hown7 hgrow7 c1
        go_wp2
        go_roundw
        case rel => exact ⟨k + 1, by omega, by go_num, unhide HO7, unhide HM7, unhide HB7⟩
        case measure => simp [intOf]; omega
    · have hkn : k = n := by omega
      subst hkn
      have q1 : ¬ (k : Int) < k := by omega
      have HX : Hid (wr.ownsRow w.heap.size 3 1 (.slice ao ((List.range k).filter fun i => F.2 i).length cp) KN.length (ic (zs KN)) ∧ Below w.heap.size w wr) := by
        rw [unhide HE]
        exact ⟨own_mono hO hB4s, (unhide HB4).trans (hB.mono hB4s)⟩
      generalize ((List.range k).filter fun i => F.2 i).length = dl at *
      clear hO hM hB
      go_wp2
      go_ret2
      exact ⟨_, rfl, unhide HX⟩
set_option maxRecDepth 100000 in
set_option maxHeartbeats 1000000 in
theorem steps_no (n : Int) (Rs : List (List Int)) (Ks : List Int) (a0 k0 : Option Addr) (c kc : Nat) (hn : -9223372036854775808 ≤ n ∧ n ≤ 9223372036854775807) (hk : Rs.length ≤ maxLen) (hk2 : ∀ r ∈ Rs, r.length ≤ maxLen) (hk3 : Ks.length ≤ maxLen) (w : World) (hI : RowsA w a0 Rs) (hK : Ints w k0 Ks) (hno : (mayB n Rs && mayB n [Ks]) = false) :
    Calls Try.prog 10 #[.int .i64 n, .slice a0 Rs.length c, .slice k0 Ks.length kc] w fun e w' => e = .returned (.tuple #[.slice none 0 0, .int .i64 1]) ∧ Below w.heap.size w w' := by
  have hm := hide (pmay_any n Rs Ks a0 k0 c kc hn hk hk2 hk3 w hI hK)
  rw [hno] at hm
  generalize Rs.length = m at *
  generalize Ks.length = l at *
  clear hI hK hno
  go_enter Try.func10, Try.ntmps10
  go_wp2_with fail
  refine (unhide hm).mono ?_
  rintro e w1 ⟨rfl, b1⟩
  have B1 := hide b1
  clear b1
  go_wp2
  go_ret2
  exact ⟨rfl, unhide B1⟩
set_option maxRecDepth 100000 in
set_option maxHeartbeats 1000000 in
theorem steps_yes (n : Nat) (R : List (List Nat)) (K : List Nat) (h : Pl n R K) (a0 k0 : Option Addr) (c kc : Nat) (w : World) (hI : RowsC w a0 R) (hK : Ints w k0 (zs K)) :
    Calls Try.prog 10 #[.int .i64 n, .slice a0 R.length c, .slice k0 K.length kc] w fun e w' => ∃ v, e = .returned (.tuple #[v, .int .i64 0]) ∧ w'.ownsRow w.heap.size 34 2 v (peelF n (inS K) R).1.length (stc (peelF n (inS K) R).1) ∧ Below w.heap.size w w' := by
  have h160 := h.n160
  have hm := pmay_any n (R.map zs) (zs K) a0 k0 c kc ⟨by omega, by omega⟩ (by have := h.m400; rw [List.length_map]; unfold maxLen; omega) (fun r hr => by
    obtain ⟨x, hx, rfl⟩ := List.mem_map.1 hr
    have := h.rlen x hx
    rw [zs_length]; unfold maxLen; omega) (by have := h.klen; rw [zs_length]; unfold maxLen; omega) w hI.rowsA hK
  rw [rws_may h.rws, rws_may h.rwsK, List.length_map, zs_length] at hm
  have HM := hide hm
  have HMK := hide (fun W (hb : Below w.heap.size w W) => marked_any K k0 kc (fun x hx => by have := h.klt x hx; omega) (by have := h.klen; unfold maxLen; omega) W (hK.below hb))
  have HP := hide (fun W g (hb : Below w.heap.size w W) (hg : w.heap.size ≤ g) (hM : MkAt W g (inS K)) => peel_any R (h.lt.up h160) h.m400 a0 c g (inS K) w W hb hg hI hM (fun r hr => by have := h.rlen r hr; unfold maxLen; omega))
  rw [peel160 h.lt h160 K] at HP
  generalize hF : peelF n (inS K) R = F at *
  generalize R.length = m at *
  generalize K.length = l at *
  clear hI hK hm hF h
  go_enter Try.func10, Try.ntmps10
  go_wp2_with fail
  refine (unhide HM).mono ?_
  rintro e w1 ⟨rfl, b1⟩
  have B1 := hide b1
  have hmk := hide (unhide HMK w1 b1)
  clear b1
  go_wp2_with fail
  refine (unhide hmk).mono ?_
  rintro e w2 ⟨rfl, b2⟩
  have B2 := hide ((unhide B1).trans (b2.mono (unhide B1).size))
  clear b2
  have hmn := mk_new w2 (inS K)
  have hmb := mk_below w2 (inS K)
  have hmt := mk_there w2
  have hS1 : (mc (inS K)).toArray.size = 160 := by rw [List.size_toArray, mc_length]
  have hS2 : (mc (inS K)).toArray.all (·.oneCell') = true := all_oneCell_toArray (mc_one _)
  have hSL : (mc (inS K)).toArray.toList = mc (inS K) := rfl
  rw [← hSL] at hmn hmb
  clear hSL
  generalize hSe : (mc (inS K)).toArray = SA at *
  have hi2 : Hid ((Try.prog.info? 47).map (·.size) = some SA.size) := by show _ = _; rw [hS1]; kernel_rfl
  have ht3 : Hid ((w2.alloc (.cells Try.zeroCells47 47)).there w2.heap.size 0 SA.size) := by show World.there _ _ _ _; rw [hS1]; exact hmt
  have HMN := hide hmn
  have HMB := hide hmb
  clear hS1 hmt hmn hmb hSe
  go_wp2_with (refine wpList_store_mid rfl 47 (.tmp 8) (.tmp 15) rfl w2.heap.size 0 SA rfl rfl (unhide ht3) (unhide hi2) hS2 ?_)
  have B3 := hide ((unhide B2).trans ((unhide HMB).mono (unhide B2).size))
  have hp := hide (unhide HP _ w2.heap.size (unhide B3) (unhide B2).size (unhide HMN))
  have hsz3 : w2.heap.size < ((w2.alloc (.cells Try.zeroCells47 47)).setCells w2.heap.size 0 SA.toList).heap.size := (unhide HMN).lt
  have hsz2 := (unhide B2).size
  generalize hw3 : ((w2.alloc (.cells Try.zeroCells47 47)).setCells w2.heap.size 0 SA.toList) = w3 at *
  have HP2 := hp
  clear hw3 ht3 HMN HMB HP HMK hmk HM hp
  generalize w2.heap.size = g at *
  go_wp2_with fail
  refine (unhide HP2).mono ?_
  rintro e w4 ⟨v4, rfl, hO4, hM4, hK4⟩
  have HB4 := hide ((unhide B3).trans (hK4.below w.heap.size (unhide B3).size (by omega)))
  have HO4 := hide (own_mono hO4 (unhide B3).size)
  clear hM4 hK4 hO4
  go_wp2
  go_ret2
  exact ⟨_, rfl, unhide HO4, unhide HB4⟩
end Go.Proofs.Ytfihpmhobjjaaaa

/- The document's Rows and Fixed. -/
import Derived.Test.YtpcndjnhpjhjkaaDoorGdF
namespace Go.Proofs.YtpcndjnhpjhjkaaDoor
open Go.RowKit
set_option linter.unusedVariables false
attribute [local go_sem] Oper.semAt_some

theorem Tryd.infoQr : (Tryd.prog.info? 32).map (fun i => (i.zero, i.size, i.bytes)) = some (some (.slice none 0 0), 1, 24) := by kernel_rfl
theorem Tryd.undQr : Tryd.prog.underlying 22 = some (.slice 32) := by kernel_rfl
theorem info3 {t : TypeId} {z : Value} {s b : Nat} (h : (Tryd.prog.info? t).map (fun i => (i.zero, i.size, i.bytes)) = some (some z, s, b)) : ∃ i, Tryd.prog.info? t = some i ∧ i.zero = some z ∧ i.size = s ∧ i.bytes = b := by
  cases hh : Tryd.prog.info? t with
  | none => rw [hh] at h; cases h
  | some i =>
    rw [hh] at h
    simp only [Option.map_some, Option.some.injEq, Prod.mk.injEq] at h
    exact ⟨i, rfl, h.1, h.2.1, h.2.2⟩
theorem gt_gL (R : List (List Nat)) (j : Nat) (h : j < R.length) : gt (gL R) j = (rowN (R.getD j []), []) := by
  simp [gt, gL, List.getD, h]
theorem sides_of {n : Nat} {Rs : List (List Int)} {R : List (List Nat)} (hR : Rws n Rs R) {w w1 : World} {v : Value} {Cs : List Value} (hO : w1.ownsRow w.heap.size 78 2 v R.length Cs) (hC : EqC w R (fun _ => []) R.length Cs) (hb : Below w.heap.size w w1) : ∃ a c, v = .slice a (gL R).length c ∧ SidesA n w1 a (gL R) := by
  obtain ⟨a, c, rfl⟩ := own_shape4 hO
  refine ⟨a, c, by rw [gL_length], fun j hj => ?_⟩
  rw [gL_length] at hj
  obtain ⟨b, cc, h1, h2, h3⟩ := hC j hj
  obtain ⟨g, e⟩ : ∃ g, a = some ⟨g, 0, none⟩ := by
    rcases hO.2 with ⟨_, h⟩ | ⟨g, c', cur, h, _⟩
    · omega
    · simp only [Value.slice.injEq] at h
      exact ⟨g, h.1⟩
  subst e
  have hr : R.getD j [] ∈ R := by simp [List.getD, hj]
  have hs := sorted_nums (hR.lt _ hr) (hR.ord _ hr)
  refine ⟨g, 0, rfl, b, cc, ?_, ?_, ?_⟩
  · rw [gt_gL R j hj, ← hs, Nat.zero_add, hO.cellAt (j * 2) (by omega)]
    exact h1
  · rw [gt_gL R j hj, Nat.zero_add, hO.cellAt (j * 2 + 1) (by omega)]
    exact h2
  · rw [gt_gL R j hj, ← hs]
    exact h3.below hb
set_option maxRecDepth 100000 in
set_option maxHeartbeats 1000000 in
theorem drows_no (n : Int) (Rs : List (List Int)) (a0 : Option Addr) (c : Nat) (hn : -9223372036854775808 ≤ n ∧ n ≤ 9223372036854775807) (hk : Rs.length ≤ maxLen) (hk2 : ∀ r ∈ Rs, r.length ≤ maxLen) (w : World) (hI : RowsA w a0 Rs) (hno : mayB n Rs = false) :
    Calls Tryd.prog 12 #[.int .i64 n, .slice a0 Rs.length c] w fun e w' => e = .returned (.tuple #[.slice none 0 0, .int .i64 1]) ∧ Below w.heap.size w w' := by
  have hm := hide (dmay_any n Rs a0 c hn hk hk2 w hI)
  rw [hno] at hm
  generalize Rs.length = m at *
  clear hI hno
  go_enter Tryd.func12, Tryd.ntmps12
  go_wp2_with fail
  refine (unhide hm).mono ?_
  rintro e w1 ⟨rfl, rfl⟩
  go_wp2
  go_ret2
  exact ⟨rfl, Below.refl _ _⟩
/-- a value that is rows of numbers -/
def RowsV (w : World) (v : Value) (Rs : List (List Int)) : Prop := ∃ a c, v = .slice a Rs.length c ∧ RowsA w a Rs
/-- rows of numbers: values of a row, and where they lead -/
def RwC (n : Nat) (w wr : World) (D : List Ln) (k : Nat) (Vs : List Value) : Prop := ∀ j, j < k → ∃ b c, Vs[j]? = some (.slice b (numsR n (gt D j).1).length c) ∧ IRow w wr b (numsR n (gt D j).1)
theorem RwC.ki {n : Nat} {w wr wr' : World} {D : List Ln} {k : Nat} {Vs : List Value} (h : RwC n w wr D k Vs) (hk : KI wr wr') : RwC n w wr' D k Vs := fun j hj => by
  obtain ⟨b, c, h1, h2⟩ := h j hj
  exact ⟨b, c, h1, h2.ki hk⟩
theorem RwC.snoc {n : Nat} {w wr : World} {D : List Ln} {k : Nat} {Vs : List Value} (h : RwC n w wr D k Vs) (hl : Vs.length = k) {b : Option Addr} {c : Nat} (hI : IRow w wr b (numsR n (gt D k).1)) : RwC n w wr D (k + 1) (Vs ++ [.slice b (numsR n (gt D k).1).length c]) := fun j hj => by
  by_cases e : j < k
  · obtain ⟨b', c', h1, h2⟩ := h j e
    exact ⟨b', c', by rw [List.getElem?_append_left (by omega)]; exact h1, h2⟩
  · obtain rfl : j = k := by omega
    exact ⟨b, c, by rw [List.getElem?_append_right (by omega), hl]; simp, hI⟩
theorem redR_get (n : Nat) (D : List Ln) (j : Nat) (h : j < D.length) : ((redR n D).map zs)[j]'(by simpa [redR] using h) = zs (numsR n (gt D j).1) := by
  simp [redR, gt, List.getD, h]
theorem RwC.rows {n : Nat} {w wr : World} {D : List Ln} {Vs : List Value} {base : Nat} {v : Value} (h : RwC n w wr D D.length Vs) (hO : wr.ownsRow base 32 1 v D.length Vs) (hb : Below w.heap.size w wr) : ∃ a c, v = .slice a (redR n D).length c ∧ RowsA wr a ((redR n D).map zs) := by
  obtain ⟨a, c, rfl⟩ := own_shape4 hO
  have hl : (redR n D).length = D.length := by simp [redR]
  refine ⟨a, c, by rw [hl], fun j hj => ?_⟩
  have hj' : j < D.length := by simpa [redR] using hj
  obtain ⟨g, e⟩ : ∃ g, a = some ⟨g, 0, none⟩ := by
    rcases hO.2 with ⟨_, h⟩ | ⟨g, c', cur, h, _⟩
    · omega
    · simp only [Value.slice.injEq] at h
      exact ⟨g, h.1⟩
  subst e
  obtain ⟨b, cc, h1, h2⟩ := h j hj'
  refine ⟨g, 0, rfl, b, cc, ?_, ?_⟩
  · rw [redR_get n D j hj', zs_length, Nat.zero_add, hO.cellAt j (by omega)]
    exact h1
  · rw [redR_get n D j hj']
    exact h2.ints hb
set_option maxRecDepth 100000 in
set_option maxHeartbeats 1000000 in
theorem drows_yes (n : Nat) (Rs : List (List Int)) (R : List (List Nat)) (hR : Rws n Rs R) (a0 : Option Addr) (c : Nat) (w : World) (hI : RowsA w a0 Rs) :
    Calls Tryd.prog 12 #[.int .i64 n, .slice a0 Rs.length c] w fun e w' => ∃ v, e = .returned (.tuple #[v, .int .i64 0]) ∧ RowsV w' v ((redR n (kep (gL R) n)).map zs) ∧ Below w.heap.size w w' := by
  obtain ⟨i0, hi0, hz0, hz1, hz2⟩ := info3 Tryd.infoQr
  have h160 := hR.n160
  have hlen : Rs.length = R.length := by rw [hR.eq, List.length_map]
  have h400 := hR.m400
  have hm := dmay_any n Rs a0 c ⟨by omega, by omega⟩ (by rw [hlen]; unfold maxLen; omega) (fun r hr => by
    rw [hR.eq] at hr
    obtain ⟨x, hx, rfl⟩ := List.mem_map.1 hr
    rw [zs_length, sorted_nums (hR.lt x hx) (hR.ord x hx)]
    have := numsR_len n (rowN x)
    unfold maxLen
    omega) w hI
  rw [rws_may hR] at hm
  have HM := hide hm
  have HS := hide (dsides_any n Rs R hR a0 c w hI)
  have HSO := hide (fun w1 v Cs (h1 : w1.ownsRow w.heap.size 78 2 v R.length Cs) (h2 : EqC w R (fun _ => []) R.length Cs) (h3 : Below w.heap.size w w1) => sides_of hR h1 h2 h3)
  have HRD := hide (fun W a d (hs : SidesA n W a (gL R)) => dreduce_any n 0 (gL R) h160 (by omega) (by rw [gL_length]; exact h400) (gL_szd R) hR.bd a d W hs)
  have hkd : kep (gL R) n = (docN (gL R)).1 := kep_doc (by omega) (gL_szd R) hR.bd (nocontra0 (gL_szd R))
  have hdl : (docN (gL R)).1.length ≤ 1000 := by
    have := docN_lens (gL R) (gL R).length (Nat.le_refl _)
    rw [List.take_length, gL_length] at this
    omega
  rw [hkd]
  generalize docN (gL R) = D at *
  generalize (gL R).length = ml at *
  generalize Rs.length = m at *
  clear hI hm hR hlen hkd
  go_enter Tryd.func12, Tryd.ntmps12
  go_wp2_with fail
  refine (unhide HM).mono ?_
  rintro e w0 ⟨rfl, rfl⟩
  go_wp2_with fail
  refine (unhide HS).mono ?_
  rintro e w1 ⟨v1, rfl, Cs1, hO1, hC1, b1⟩
  obtain ⟨a1, c1, rfl, hsa⟩ := unhide HSO w1 _ Cs1 hO1 hC1 b1
  have HR2 := hide (unhide HRD w1 a1 c1 hsa)
  have B1 := hide b1
  clear hO1 hC1 b1 hsa
  go_wp2_with fail
  refine (unhide HR2).mono ?_
  rintro e w2 ⟨vL, vE, rfl, ⟨Cs, hL, hSC⟩, hE, b2⟩
  obtain ⟨la, lc, rfl⟩ := own_shape4 hL
  obtain ⟨ea, ec, rfl⟩ := own_shape4 hE
  have HL := hide hL
  have HSC := hide hSC
  have B2 := hide b2
  have hb2s := b2.size
  generalize hdl1 : D.1.length = dl at *
  have HDL := hide hdl1
  generalize D.2.length = el at *
  clear hL hSC hE b2 hdl1
  go_wp2_with fail
  have hbx := heap_alloc_new w2 (.cells #[.slice la dl lc, .slice ea el ec] 74)
  have b3 : Below w2.heap.size w2 (w2.alloc (.cells #[.slice la dl lc, .slice ea el ec] 74)) := (Below.refl _ _).alloc (Nat.le_refl _) _
  generalize w2.alloc (.cells #[.slice la dl lc, .slice ea el ec] 74) = w3 at *
  have HL3 := hide (own_below2 (unhide HL) b3)
  have HSC3 := hide ((unhide HSC).ki (KI.of_below b3))
  have B13 := hide ((unhide B2).trans (b3.mono hb2s))
  have hc6 := cell0_two hbx
  have hb3s := (unhide B13).size
  clear hbx b3 HL HSC
  go_loopw [7, 8] (fun v u wr => ∃ (k : Nat) (Vs : List Value), k ≤ dl ∧ u = .int .i64 k ∧ wr.ownsRow w3.heap.size 32 1 v k Vs ∧ RwC n w1 wr D.1 k Vs ∧ Below w3.heap.size w3 wr) (fun _ u _ => dl - (intOf u).toNat)
  case atStart => exact ⟨0, [], by omega, rfl, World.ownsRow_nil _ _ _ _, fun j hj => absurd hj (by omega), Below.refl _ _⟩
  case round =>
    obtain ⟨k, Vs, hk, rfl, hO, hC, hB⟩ := hrel
    obtain ⟨na, nc, rfl⟩ := own_shape4 hO
    have hbs := hB.size
    have c6 := cell_below hc6 hB
    by_cases hlt : k < dl
    · have hltD : k < D.1.length := by rw [unhide HDL]; exact hlt
      obtain ⟨b, cc, y1, _, hiy⟩ := unhide HSC3 k hltD
      obtain ⟨gl, el'⟩ : ∃ g, la = some ⟨g, 0, none⟩ := by
        rcases (unhide HL3).2 with ⟨_, h⟩ | ⟨g, c', cur, h, _⟩
        · omega
        · simp only [Value.slice.injEq] at h
          exact ⟨g, h.1⟩
      subst el'
      have p1 := cell_below (((unhide HL3).cellAt (k * 2) (by omega)).trans y1) hB
      have hiy2 := hiy.ki (KI.of_below hB)
      have q1 : (k : Int) < dl := by omega
      have HO := hide hO
      have HB := hide hB
      have hvl : Vs.length = k := by have := hO.1; omega
      have HCN := hide (fun (W : World) (hki : KI wr W) => (hC.ki hki).snoc (c := cc) hvl (hiy2.ki hki))
      generalize (numsR n (gt D.1 k).1).length = lk at *
      clear hO hB hC y1 hiy hiy2 hltD hvl
      go_wp2_with (at_builtin; refine wpList_append_own _ rfl _ _ 22 rfl w3.heap.size 32 i0 _ 1 24 Tryd.undQr hi0 hz0 hz1 hz2 rfl (by decide) _ _ _ rfl ((unhide HO).alloc _) ⟨wr.heap.size, 0, none⟩ 1 1 [.slice b lk cc] rfl rfl (news_lit _ [_] _) ?d2 ?d3 ?d4 ?d5 ?_)
      case d2 => first | rfl | (intro u hu; simp at hu; rw [hu]; rfl)
      case d3 => unfold maxLen; omega
      case d4 => omega
      case d5 => first | omega | (simp; omega)
      all_goals try rfl
      intro v' w7 hown7 hgrow7 _
      obtain ⟨na7, nc7, rfl⟩ := own_shape4 hown7
      have hki7 : KI wr w7 := (KI.of_below ((Below.refl _ _).alloc (Nat.le_refl _) _)).trans (KI.grown ((unhide HO).alloc _) (by decide) hgrow7 hgrow7.size)
      have HC7 := hide (unhide HCN w7 hki7)
      have HB7 := hide ((unhide HB).trans (((Below.refl w3.heap.size _).alloc (by omega) _).grown hgrow7 (by first | omega | (simp; omega)) (fun q hq => ((unhide HO).lt q hq).1)))
      have HO7 := hide hown7
      clear hown7 hgrow7 hki7 p1 c6
      go_wp2
      go_roundw
      case rel => exact ⟨k + 1, _, by omega, by go_num, unhide HO7, unhide HC7, unhide HB7⟩
      case measure => simp [intOf]; omega
    · have hkl : k = dl := by omega
      subst hkl
      have q1 : ¬ (k : Int) < k := by omega
      have hb1 := (unhide B13).trans (hB.mono hb3s)
      obtain ⟨ra, rc, re, hrr⟩ := RwC.rows (by rw [unhide HDL]; exact hC) (by rw [unhide HDL]; exact hO) hb1
      have hrl : (redR n D.1).length = k := by rw [← unhide HDL]; simp [redR]
      have HX : Hid (RowsV wr (Value.slice na k nc) ((redR n D.1).map zs) ∧ Below w.heap.size w wr) := ⟨⟨ra, rc, by rw [List.length_map]; exact re, hrr⟩, (unhide B1).trans (hb1.mono (unhide B1).size)⟩
      clear hO hC hB hb1 re hrr hrl
      go_wp2
      go_ret2
      exact ⟨_, rfl, unhide HX⟩
/-- a row of a single number -/
theorem nums_one {n r : Nat} (hn : n ≤ 160) (hb : r < 2 ^ n) : decide ((numsR n r).length = 1) = onlyB r := by
  by_cases h0 : r = 0
  · have e : (numsR n r).length = 0 := (numsR_nil hb).2 h0
    rw [e]
    unfold onlyB
    rw [h0]
    rfl
  · obtain ⟨t, ht⟩ := first_num (by omega) h0 hb
    have hr := rowN_nums hb
    unfold onlyB
    by_cases ht0 : t = []
    · subst ht0
      rw [ht]
      rw [ht, rowN_one] at hr
      rw [decide_eq_true (show [fb r].length = 1 from rfl), decide_eq_true ⟨h0, hr.symm⟩]
    · have h1 : (numsR n r).length ≠ 1 := by
        rw [ht]
        simp
        exact ht0
      rw [decide_eq_false h1]
      refine (decide_eq_false (fun h => ?_)).symm
      have hs : [fb r] = numsR n (rowN [fb r]) := sorted_nums (fun x hx => by
        simp at hx
        subst hx
        have : fb r ∈ numsR n r := by rw [ht]; simp
        unfold numsR at this
        rw [List.mem_filter, List.mem_range] at this
        exact this.1) (by simp)
      rw [rowN_one, ← h.2, ht] at hs
      simp at hs
      exact ht0 hs
set_option maxRecDepth 100000 in
set_option maxHeartbeats 1000000 in
theorem dfixed_no (n : Int) (Rs : List (List Int)) (a0 : Option Addr) (c : Nat) (hn : -9223372036854775808 ≤ n ∧ n ≤ 9223372036854775807) (hk : Rs.length ≤ maxLen) (hk2 : ∀ r ∈ Rs, r.length ≤ maxLen) (w : World) (hI : RowsA w a0 Rs) (hno : mayB n Rs = false) :
    Calls Tryd.prog 15 #[.int .i64 n, .slice a0 Rs.length c] w fun e w' => e = .returned (.tuple #[.slice none 0 0, .int .i64 1]) ∧ Below w.heap.size w w' := by
  have hm := hide (drows_no n Rs a0 c hn hk hk2 w hI hno)
  generalize Rs.length = m at *
  clear hI hno
  go_enter Tryd.func15, Tryd.ntmps15
  go_wp2_with fail
  refine (unhide hm).mono ?_
  rintro e w1 ⟨rfl, b1⟩
  have B1 := hide b1
  clear b1
  go_wp2_with fail
  go_loopw [8, 9] (fun u v wr => w1 = wr ∧ u = .slice none 0 0 ∧ v = .int .i64 0) (fun _ v _ => 0)
  case atStart => exact ⟨rfl, rfl, rfl⟩
  case round =>
    obtain ⟨rfl, rfl, rfl⟩ := hrel
    go_wp2
    go_ret2
    exact ⟨rfl, unhide B1⟩
set_option maxRecDepth 100000 in
set_option maxHeartbeats 1000000 in
theorem dfixed_yes (n : Nat) (Rs : List (List Int)) (R : List (List Nat)) (hR : Rws n Rs R) (a0 : Option Addr) (c : Nat) (w : World) (hI : RowsA w a0 Rs) :
    Calls Tryd.prog 15 #[.int .i64 n, .slice a0 Rs.length c] w fun e w' => ∃ v, e = .returned (.tuple #[v, .int .i64 0]) ∧ w'.ownsRow w.heap.size 3 1 v (fixN (kep (gL R) n)).length (ic (zs (fixN (kep (gL R) n)))) ∧ Below w.heap.size w w' := by
  obtain ⟨i0, hi0, hz0, hz1, hz2⟩ := info3 Tryd.infoI
  have h160 := hR.n160
  have hm := hide (drows_yes n Rs R hR a0 c w hI)
  obtain ⟨_, _, hk3, _, _, hbd, hkn⟩ := kep_rd (n := n) (m := 0) (by omega) (gL_szd R) hR.bd
  have hkl : (kep (gL R) n).length ≤ 160 := by omega
  have HBD := hide hbd
  have HKZ : Hid (∀ x ∈ kep (gL R) n, x.1 ≠ 0) := (kep_rd (n := n) (m := 0) (by omega) (gL_szd R) hR.bd).1.nz
  generalize kep (gL R) n = D at *
  have hrl : (redR n D).length = D.length := by simp [redR]
  generalize hdl : D.length = dl at *
  have HDL := hide hdl
  have HRL := hide hrl
  generalize Rs.length = m at *
  clear hI hR hk3 hbd hkn hdl hrl
  go_enter Tryd.func15, Tryd.ntmps15
  go_wp2_with fail
  refine (unhide hm).mono ?_
  rintro e w1 ⟨v1, rfl, ⟨ra, rc, hve, hra⟩, b1⟩
  rw [List.length_map, unhide HRL] at hve
  subst hve
  have B1 := hide b1
  have HRA := hide hra
  have hb1s := b1.size
  clear b1 hra
  go_wp2_with fail
  go_loopw [8, 9] (fun v u wr => ∃ k : Nat, k ≤ dl ∧ u = .int .i64 k ∧ wr.ownsRow w1.heap.size 3 1 v (fixN (D.take k)).length (ic (zs (fixN (D.take k)))) ∧ Below w1.heap.size w1 wr) (fun _ u _ => dl - (intOf u).toNat)
  case atStart => exact ⟨0, by omega, rfl, World.ownsRow_nil _ _ _ _, Below.refl _ _⟩
  case round =>
    obtain ⟨k, hk, rfl, hO, hB⟩ := hrel
    obtain ⟨ao, cp, rfl⟩ := own_shape4 hO
    have hbs := hB.size
    by_cases hlt : k < dl
    · have hltD : k < D.length := by rw [unhide HDL]; exact hlt
      have hkR : k < ((redR n D).map zs).length := by rw [List.length_map, unhide HRL]; exact hlt
      obtain ⟨g, o, rfl, b, cc, c0, hIk⟩ := ((unhide HRA).below hB) k hkR
      rw [redR_get n D k hltD] at c0 hIk
      rw [zs_length] at c0
      have hone := nums_one h160 (unhide HBD _ (gt_mem hltD))
      have hnz := unhide HKZ _ (gt_mem hltD)
      have HFS := hide (fixN_succ D k hltD)
      have q1 : (k : Int) < dl := by omega
      have hln : (fixN (D.take k)).length ≤ 160 := by
        have := fixN_len (D.take k)
        rw [List.length_take] at this
        omega
      cases hob : onlyB (gt D k).1 with
      | false =>
        rw [hob] at hone HFS
        simp only [Bool.false_eq_true, if_false, List.append_nil] at HFS
        have hne : (numsR n (gt D k).1).length ≠ 1 := of_decide_eq_false hone
        have q5 : (((numsR n (gt D k).1).length : Int) == 1) = false := by simp; omega
        have q6 : ¬ ((numsR n (gt D k).1).length : Int) = 1 := by omega
        have HX : Hid (wr.ownsRow w1.heap.size 3 1 (.slice ao (fixN (D.take k)).length cp) (fixN (D.take (k + 1))).length (ic (zs (fixN (D.take (k + 1))))) ∧ Below w1.heap.size w1 wr) := by
          rw [unhide HFS]
          exact ⟨hO, hB⟩
        generalize (fixN (D.take k)).length = fl at *
        generalize (numsR n (gt D k).1).length = nl at *
        clear hO hB hob hone hIk hltD hkR hnz
        go_wp2
        go_roundw
        case rel => exact ⟨k + 1, by omega, by go_num, unhide HX⟩
        case measure => simp [intOf]; omega
      | true =>
        rw [hob] at hone HFS
        simp only [if_true] at HFS
        have h1 : (numsR n (gt D k).1).length = 1 := of_decide_eq_true hone
        obtain ⟨t, ht⟩ := first_num (by omega) hnz (unhide HBD _ (gt_mem hltD))
        rw [h1] at c0
        obtain ⟨g2, o2, rfl, c1⟩ := hIk 0 (by rw [zs_length, h1]; omega)
        have e1 : (zs (numsR n (gt D k).1))[0]'(by rw [zs_length, h1]; omega) = (fb (gt D k).1 : Int) := by simp [zs, ht]
        rw [e1, Nat.add_zero] at c1
        have HO := hide hO
        have HB := hide hB
        generalize hfe : fb (gt D k).1 = f at *
        generalize hDe : fixN (D.take k) = F2 at *
        generalize hfl : F2.length = fl at *
        have HFL := hide hfl
        clear hO hB hob hone hIk hltD hkR hnz h1 ht e1 hfe hDe hfl
        go_wp2_with (at_builtin; refine wpList_append_own _ rfl _ _ 32 rfl w1.heap.size 3 i0 (.int .i64 0) 1 8 Tryd.undI hi0 hz0 hz1 hz2 rfl (by decide) _ _ _ rfl ((unhide HO).alloc _) ⟨wr.heap.size, 0, none⟩ 1 1 [.int .i64 (f : Int)] rfl rfl (news_lit _ [_] _) ?d2 ?d3 ?d4 ?d5 ?_)
        case d2 => first | rfl | (intro u hu; simp at hu; rw [hu]; rfl)
        case d3 => unfold maxLen; omega
        case d4 => omega
        case d5 => first | omega | (simp; omega)
        all_goals try rfl
        intro v' w7 hown7 hgrow7 _
        obtain ⟨na7, nc7, rfl⟩ := own_shape4 hown7
        have HB7 := hide ((unhide HB).trans (((Below.refl w1.heap.size _).alloc (by omega) _).grown hgrow7 (by first | omega | (simp; omega)) (fun q hq => ((unhide HO).lt q hq).1)))
        have HO7 : Hid (w7.ownsRow w1.heap.size 3 1 (.slice na7 (fl + 1) nc7) (fixN (D.take (k + 1))).length (ic (zs (fixN (D.take (k + 1)))))) := by
          show World.ownsRow _ _ _ _ _ _ _
          rw [unhide HFS, List.length_append, unhide HFL]
          unfold zs
          rw [List.map_append, ic_append]
          exact hown7
        clear hown7 hgrow7 c0 c1
        go_wp2
        go_roundw
        case rel => exact ⟨k + 1, by omega, by go_num, unhide HO7, unhide HB7⟩
        case measure => simp [intOf]; omega
    · have hkl' : k = dl := by omega
      subst hkl'
      have q1 : ¬ (k : Int) < k := by omega
      rw [List.take_of_length_le (by rw [unhide HDL]; exact Nat.le_refl _)] at hO
      rw [List.take_of_length_le (by rw [unhide HDL]; exact Nat.le_refl _)]
      obtain ⟨fl, hfl⟩ : ∃ fl, fl = (fixN D).length := ⟨_, rfl⟩
      have HX : Hid (wr.ownsRow w.heap.size 3 1 (.slice ao fl cp) (fixN D).length (ic (zs (fixN D))) ∧ Below w.heap.size w wr) := by
        rw [hfl]
        exact ⟨own_mono hO hb1s, (unhide B1).trans (hB.mono hb1s)⟩
      rw [← hfl]
      clear hO hB hfl
      go_wp2
      go_ret2
      exact ⟨_, rfl, unhide HX⟩
end Go.Proofs.YtpcndjnhpjhjkaaDoor

/- gauss: Reduce, Fixed. -/
import Derived.Test.YtpcndjnhpjhjkaaDoorGaL
namespace Go.Proofs.YtpcndjnhpjhjkaaDoor
open Go.RowKit
set_option linter.unusedVariables false
attribute [local go_sem] Oper.semAt_some

theorem Tryd.infoR : (Tryd.prog.info? 32).map (fun i => (i.zero, i.size, i.bytes)) = some (some (.slice none 0 0), 1, 24) := by kernel_rfl
theorem Tryd.undR : Tryd.prog.underlying 22 = some (.slice 32) := by kernel_rfl
theorem own_ty {w : World} {base n b size : Nat} {e : TypeId} {v : Value} {xs : List Value} (h : w.ownsRow base e size v n xs) (hb : v.ownBlock = some b) : ∃ cur, w.heap[b]? = some (.cells cur e (0, 0)) := by
  rcases h.2 with ⟨rfl, _⟩ | ⟨g, cap, cur, rfl, _, hg, _⟩
  · simp [Value.ownBlock] at hb
  · simp [Value.ownBlock] at hb
    subst hb
    exact ⟨cur, hg⟩
theorem own_apart {w : World} {base base' n n' size size' : Nat} {e e' : TypeId} {v v' : Value} {xs xs' : List Value} (h : w.ownsRow base e size v n xs) (h' : w.ownsRow base' e' size' v' n' xs') (he : e ≠ e') : v.ownBlock = none ∨ v.ownBlock ≠ v'.ownBlock := by
  cases hb : v.ownBlock with
  | none => exact .inl rfl
  | some b =>
    refine .inr (fun hb' => ?_)
    obtain ⟨c, hc⟩ := own_ty h hb
    obtain ⟨c', hc'⟩ := own_ty h' hb'.symm
    rw [hc] at hc'
    simp at hc'
    exact he hc'.2
/-- rows of integers of the call's own -/
def RowsO (w : World) (base : Nat) (v : Value) (Rs : List (List Int)) : Prop :=
  ∃ Vs, w.ownsRow base 32 1 v Rs.length Vs ∧ ∀ j (h : j < Rs.length), ∃ V, Vs[j]? = some V ∧ w.ownsRow base 3 1 V Rs[j].length (ic Rs[j])
theorem RowsO.nil (w : World) (base : Nat) : RowsO w base (.slice none 0 0) [] := ⟨[], World.ownsRow_nil _ _ _ _, fun j h => absurd h (by simp)⟩
theorem RowsO.below {w w' : World} {base : Nat} {v : Value} {Rs : List (List Int)} (h : RowsO w base v Rs) (hb : Below w.heap.size w w') : RowsO w' base v Rs := by
  obtain ⟨Vs, h1, h2⟩ := h
  refine ⟨Vs, own_below2 h1 hb, fun j hj => ?_⟩
  obtain ⟨V, e, hV⟩ := h2 j hj
  exact ⟨V, e, own_below2 hV hb⟩
theorem RowsO.mono {w : World} {base base' : Nat} {v : Value} {Rs : List (List Int)} (h : RowsO w base v Rs) (hb : base' ≤ base) : RowsO w base' v Rs := by
  obtain ⟨Vs, h1, h2⟩ := h
  refine ⟨Vs, own_mono h1 hb, fun j hj => ?_⟩
  obtain ⟨V, e, hV⟩ := h2 j hj
  exact ⟨V, e, own_mono hV hb⟩
theorem RowsO.appended {w w' : World} {base : Nat} {v v' V : Value} {Rs : List (List Int)} {r : List Int} {Vs : List Value} (h1 : w.ownsRow base 32 1 v Rs.length Vs) (h2 : ∀ j (h : j < Rs.length), ∃ V, Vs[j]? = some V ∧ w.ownsRow base 3 1 V Rs[j].length (ic Rs[j]))
    (hV : w.ownsRow base 3 1 V r.length (ic r)) (hown : w'.ownsRow base 32 1 v' (Rs.length + 1) (Vs ++ [V])) (hg : w.grownBy w' v.ownBlock) : RowsO w' base v' (Rs ++ [r]) := by
  have hlen : Vs.length = Rs.length := by have := h1.1; omega
  have keep : ∀ (X : Value) (n : Nat) (xs : List Value), w.ownsRow base 3 1 X n xs → w'.ownsRow base 3 1 X n xs := fun X n xs hX => hX.kept hg (own_apart hX h1 (by decide))
  refine ⟨Vs ++ [V], by rw [List.length_append]; exact hown, fun j hj => ?_⟩
  rw [List.length_append, List.length_singleton] at hj
  by_cases e : j < Rs.length
  · obtain ⟨X, e1, hX⟩ := h2 j e
    refine ⟨X, by rw [List.getElem?_append_left (by omega)]; exact e1, ?_⟩
    rw [List.getElem_append_left e]
    exact keep _ _ _ hX
  · have : j = Rs.length := by omega
    subst this
    refine ⟨V, by rw [List.getElem?_append_right (by omega), hlen, Nat.sub_self]; rfl, ?_⟩
    simp only [List.getElem_append_right (Nat.le_refl _), Nat.sub_self, List.getElem_cons_zero]
    exact keep _ _ _ hV
theorem ints_own {w : World} {base : Nat} {v : Value} {r : List Int} (h : w.ownsRow base 3 1 v r.length (ic r)) : ∃ a0 c, v = .slice a0 r.length c ∧ Ints w a0 r := by
  obtain ⟨a0, c, h1, h2, _⟩ := OwnI.ints h
  exact ⟨a0, c, h1, h2⟩
theorem RowsO.rows {w : World} {base : Nat} {v : Value} {Rs : List (List Int)} (h : RowsO w base v Rs) : ∃ a0 c, v = .slice a0 Rs.length c ∧ RowsA w a0 Rs := by
  obtain ⟨Vs, h1, h2⟩ := h
  have hk := h1
  rcases h1.2 with ⟨rfl, h0⟩ | ⟨g, cap, cur, rfl, _⟩
  · exact ⟨none, 0, by rw [h0], fun i hi => absurd hi (by omega)⟩
  · refine ⟨some ⟨g, 0, none⟩, cap, rfl, fun i hi => ?_⟩
    obtain ⟨V, e, hV⟩ := h2 i hi
    obtain ⟨b, c, rfl, hI⟩ := ints_own hV
    refine ⟨g, 0, rfl, b, c, ?_, hI⟩
    rw [Nat.zero_add, hk.cellAt i (by omega), e]
/-- the rows that lines are -/
def redR (n : Nat) (K : List Ln) : List (List Nat) := K.map fun x => numsR n x.1
set_option maxRecDepth 100000 in
set_option maxHeartbeats 1000000 in
theorem reduce_no (n : Int) (Rs : List (List Int)) (a0 : Option Addr) (c : Nat) (hn : -9223372036854775808 ≤ n ∧ n ≤ 9223372036854775807) (hk : Rs.length ≤ maxLen) (hk2 : ∀ r ∈ Rs, r.length ≤ maxLen) (w : World) (hI : RowsA w a0 Rs) (hno : mayB n Rs = false) :
    Calls Tryd.prog 11 #[.int .i64 n, .slice a0 Rs.length c] w fun e w' => e = .returned (.tuple #[.slice none 0 0, .int .i64 1]) ∧ w = w' := by
  have hred := hide (reduced_no n Rs a0 c hn hk hk2 w hI hno)
  generalize Rs.length = m at *
  clear hI hk2 hno
  go_enter Tryd.func11, Tryd.ntmps11
  go_wp2_with fail
  refine (unhide hred).mono ?_
  rintro e w1 ⟨rfl, rfl⟩
  go_wp2
  go_ret2
  exact ⟨rfl, rfl⟩
set_option maxRecDepth 100000 in
set_option maxHeartbeats 1000000 in
theorem fixed_no (n : Int) (Rs : List (List Int)) (a0 : Option Addr) (c : Nat) (hn : -9223372036854775808 ≤ n ∧ n ≤ 9223372036854775807) (hk : Rs.length ≤ maxLen) (hk2 : ∀ r ∈ Rs, r.length ≤ maxLen) (w : World) (hI : RowsA w a0 Rs) (hno : mayB n Rs = false) :
    Calls Tryd.prog 14 #[.int .i64 n, .slice a0 Rs.length c] w fun e w' => e = .returned (.tuple #[.slice none 0 0, .int .i64 1]) ∧ w = w' := by
  have hred := hide (reduced_no n Rs a0 c hn hk hk2 w hI hno)
  generalize Rs.length = m at *
  clear hI hk2 hno
  go_enter Tryd.func14, Tryd.ntmps14
  go_wp2_with fail
  refine (unhide hred).mono ?_
  rintro e w1 ⟨rfl, rfl⟩
  go_wp2
  go_ret2
  exact ⟨rfl, rfl⟩
theorem take_gt {α : Type} (f : Ln → α) (K : List Ln) (k : Nat) (h : k < K.length) : (K.take (k + 1)).map f = (K.take k).map f ++ [f (gt K k)] := by
  rw [List.take_succ_eq_append_getElem h, List.map_append]
  simp [gt, List.getD, h]
set_option maxRecDepth 100000 in
set_option maxHeartbeats 1000000 in
theorem reduce_yes (n : Nat) (Rs : List (List Int)) (R : List (List Nat)) (hR : Rws n Rs R) (a0 : Option Addr) (c : Nat) (w : World) (hT : Tz w) (hI : RowsA w a0 Rs) :
    Calls Tryd.prog 11 #[.int .i64 n, .slice a0 Rs.length c] w fun e w' => ∃ v, e = .returned (.tuple #[v, .int .i64 0]) ∧ RowsO w' w.heap.size v ((redR n (kep (gL R) n)).map zs) ∧ Below w.heap.size w w' := by
  have hred := hide (reduced_yes n Rs R hR a0 c w hI)
  have h160 := hR.n160
  obtain ⟨_, _, _, _, _, hbd, hkn⟩ := kep_rd (n := n) (m := 0) (by omega) (gL_szd R) hR.bd
  have hkl : (kep (gL R) n).length ≤ 160 := by
    obtain ⟨_, _, hk3, _, _, _, h7⟩ := kep_rd (n := n) (m := 0) (by omega) (gL_szd R) hR.bd
    omega
  have HT := hide hT
  have HBD := hide hbd
  generalize Rs.length = m at *
  generalize kep (gL R) n = K at *
  generalize hkk : K.length = kk at *
  have HKK := hide hkk
  obtain ⟨i0, hi, hz0, hz1, hz2⟩ : ∃ i, Tryd.prog.info? 32 = some i ∧ i.zero = some (.slice none 0 0) ∧ i.size = 1 ∧ i.bytes = 24 := by
    have h := Tryd.infoR
    cases hh : Tryd.prog.info? 32 with
    | none => rw [hh] at h; cases h
    | some i =>
      rw [hh] at h
      simp only [Option.map_some, Option.some.injEq, Prod.mk.injEq] at h
      exact ⟨i, rfl, h.1, h.2.1, h.2.2⟩
  clear hI hT hbd hkk hR hkn
  go_enter Tryd.func11, Tryd.ntmps11
  go_wp2_with fail
  refine (unhide hred).mono ?_
  rintro e w1 ⟨a1, c1, rfl, hl, b1⟩
  have HL := hide hl
  have B1 := hide b1
  clear hl b1
  go_wp2_with fail
  go_loopw [8, 22] (fun v u wr => ∃ k : Nat, k ≤ kk ∧ u = .int .i64 k ∧ RowsO wr w1.heap.size v ((redR n (K.take k)).map zs) ∧ Below w1.heap.size w1 wr) (fun _ u _ => kk - (intOf u).toNat)
  case atStart => exact ⟨0, by omega, rfl, RowsO.nil _ _, Below.refl _ _⟩
  case round =>
    obtain ⟨k, hk, rfl, hO, hB⟩ := hrel
    obtain ⟨ao, cap, rfl, _⟩ := hO.rows
    by_cases hlt : k < kk
    · have hlt' : k < K.length := by rw [unhide HKK]; exact hlt
      obtain ⟨g, o, rfl, d0, d1, d2, d3⟩ := unhide HL k hlt'
      have c0 := cell_below d0 hB
      have c1 := cell_below d1 hB
      have c2 := cell_below d2 hB
      have c3 := cell_below d3 hB
      have hxb := unhide HBD _ (gt_mem hlt')
      have hnum := hide (fun W (h : Tz W) => numbers_any (gt K k).1 W h)
      have hnk : nk (gt K k).1 3 = numsR n (gt K k).1 := nk_nums (by omega) hxb
      rw [hnk] at hnum
      have HTK : Hid ((redR n (K.take (k + 1))).map zs = (redR n (K.take k)).map zs ++ [zs (numsR n (gt K k).1)]) := by
        show _ = _
        unfold redR
        rw [take_gt _ K k hlt', List.map_append]
        rfl
      have hlen : ((redR n (K.take k)).map zs).length = k := by simp [redR]; omega
      rw [hlen]
      have HLEN := hide hlen
      have q1 : (k : Int) < kk := by omega
      have HO := hide hO
      have HB := hide hB
      have hTW : Tz (wr.alloc (.cells #[.int .u64 (wd (gt K k).1 0), .int .u64 (wd (gt K k).1 1), .int .u64 (wd (gt K k).1 2), .string (bs (gt K k).2)] 70)) := (unhide HT).below ((unhide B1).trans ((hB.alloc hB.size _).mono (unhide B1).size))
      have HTW := hide hTW
      unfold rowV at hnum
      generalize hr : numsR n (gt K k).1 = r at *
      have hrl : r.length ≤ 160 := by rw [← hr]; have := numsR_len n (gt K k).1; omega
      generalize bs (gt K k).2 = D at *
      generalize ((wd (gt K k).1 0 : Nat) : Int) = x0 at *
      generalize ((wd (gt K k).1 1 : Nat) : Int) = x1 at *
      generalize ((wd (gt K k).1 2 : Nat) : Int) = x2 at *
      clear hO hB d0 d1 d2 d3 hxb hnk hlen hTW hr
      go_wp2_with fail
      refine (unhide hnum _ (unhide HTW)).mono ?_
      rintro e w2 ⟨V, rfl, hV, b2⟩
      have B2 := hide (((Below.refl _ wr).alloc (Nat.le_refl _) _).trans (b2.mono (by simp)))
      have HO2 := hide ((unhide HO).below (unhide B2))
      have hV2 : w2.ownsRow w1.heap.size 3 1 V (zs r).length (ic (zs r)) := by
        rw [zs_length]
        exact own_mono hV (by have := (unhide HB).size; simp; omega)
      have HV2 := hide hV2
      have HB2 := hide ((unhide HB).trans ((unhide B2).mono (unhide HB).size))
      obtain ⟨vb, vc, rfl⟩ := own_shape' hV
      obtain ⟨Vs, hO3, hrows⟩ := unhide HO2
      rw [unhide HLEN] at hO3
      have HO3 := hide hO3
      have HRO := hide hrows
      have hz2' := (unhide HB2).size
      clear hV b2 HO hV2 hO3 hrows
      go_wp2_with (at_builtin; refine wpList_append_own _ rfl _ _ 22 rfl w1.heap.size 32 i0 _ 1 24 Tryd.undR hi hz0 hz1 hz2 rfl (by decide) _ _ _ rfl ((unhide HO3).alloc _) ⟨w2.heap.size, 0, none⟩ 1 1 [.slice vb r.length vc] rfl rfl (news_lit _ [_] _) ?d2 ?d3 ?d4 ?d5 ?_)
      case d2 => intro u hu; simp at hu; subst hu; rfl
      case d3 => unfold maxLen; omega
      case d4 => omega
      case d5 => first | omega | (simp; omega)
      intro v' w3 hown' hgrow _
      have hb' := hide ((((unhide HB2).alloc (by omega) _)).grown hgrow (by simp; omega) (fun k hk => (((unhide HO3).lt k hk).1)))
      have ho2 : Hid (RowsO w3 w1.heap.size v' ((redR n (K.take (k + 1))).map zs)) := by
        rw [unhide HTK]
        refine RowsO.appended (by rw [unhide HLEN]; exact (unhide HO3).alloc _) (fun j hj => ?_) (World.ownsRow.alloc (unhide HV2) _) (by rw [unhide HLEN]; exact hown') hgrow
        obtain ⟨X, e1, hX⟩ := unhide HRO j hj
        exact ⟨X, e1, hX.alloc _⟩
      obtain ⟨ao', cap', rfl⟩ := own_shape' hown'
      clear hown' hgrow HO2 HB2
      go_wp2
      go_roundw
      case rel => exact ⟨k + 1, by omega, by go_num, unhide ho2, unhide hb'⟩
      case measure => simp [intOf]; omega
    · have hkn : k = kk := by omega
      subst hkn
      generalize ((redR n (K.take k)).map zs).length = le at hO ⊢
      rw [List.take_of_length_le (by rw [unhide HKK]; exact Nat.le_refl _)] at hO
      have q1 : ¬ (k : Int) < k := by omega
      have HO := hide (hO.mono (unhide B1).size)
      have HB := hide ((unhide B1).trans (hB.mono (unhide B1).size))
      clear hO hB
      go_wp2
      go_ret2
      exact ⟨_, rfl, unhide HO, unhide HB⟩
/-- the numbers that are fixed -/
def fixN (K : List Ln) : List Nat := (K.filter fun x => onlyB x.1).map fun x => fb x.1
theorem fixN_succ (K : List Ln) (k : Nat) (h : k < K.length) : fixN (K.take (k + 1)) = fixN (K.take k) ++ (if onlyB (gt K k).1 = true then [fb (gt K k).1] else []) := by
  unfold fixN
  have e : gt K k = K[k] := by simp [gt, List.getD, h]
  rw [List.take_succ_eq_append_getElem h, List.filter_append, List.map_append, ← e]
  congr 1
  by_cases hb : onlyB (gt K k).1 = true
  · rw [if_pos hb]; simp [hb]
  · rw [if_neg hb]; simp [hb]
theorem fixN_len (K : List Ln) : (fixN K).length ≤ K.length := by
  unfold fixN
  rw [List.length_map]
  exact List.length_filter_le _ _
set_option maxRecDepth 100000 in
set_option maxHeartbeats 1000000 in
theorem fixed_yes (n : Nat) (Rs : List (List Int)) (R : List (List Nat)) (hR : Rws n Rs R) (a0 : Option Addr) (c : Nat) (w : World) (hI : RowsA w a0 Rs) :
    Calls Tryd.prog 14 #[.int .i64 n, .slice a0 Rs.length c] w fun e w' => ∃ v, e = .returned (.tuple #[v, .int .i64 0]) ∧ w'.ownsRow w.heap.size 3 1 v (fixN (kep (gL R) n)).length (ic (zs (fixN (kep (gL R) n)))) ∧ Below w.heap.size w w' := by
  have hred := hide (reduced_yes n Rs R hR a0 c w hI)
  have h160 := hR.n160
  obtain ⟨_, _, hk3, _, _, hbd, hkn⟩ := kep_rd (n := n) (m := 0) (by omega) (gL_szd R) hR.bd
  have hkl : (kep (gL R) n).length ≤ 160 := by omega
  have HBD : Hid (∀ x ∈ kep (gL R) n, x.1 < 2 ^ 160) := fun x hx => Nat.lt_of_lt_of_le (hbd x hx) (Nat.pow_le_pow_right (by omega) h160)
  clear hk3 hkn hbd
  generalize Rs.length = m at *
  generalize kep (gL R) n = K at *
  generalize hkk : K.length = kk at *
  have HKK := hide hkk
  obtain ⟨i0, hi, hz0, hz1, hz2⟩ : ∃ i, Tryd.prog.info? 3 = some i ∧ i.zero = some (.int .i64 0) ∧ i.size = 1 ∧ i.bytes = 8 := by
    have h := Tryd.infoI
    cases hh : Tryd.prog.info? 3 with
    | none => rw [hh] at h; cases h
    | some i =>
      rw [hh] at h
      simp only [Option.map_some, Option.some.injEq, Prod.mk.injEq] at h
      exact ⟨i, rfl, h.1, h.2.1, h.2.2⟩
  clear hI hkk hR
  go_enter Tryd.func14, Tryd.ntmps14
  go_wp2_with fail
  refine (unhide hred).mono ?_
  rintro e w1 ⟨a1, c1, rfl, hl, b1⟩
  have HL := hide hl
  have B1 := hide b1
  clear hl b1
  go_wp2_with fail
  go_loopw [8, 24] (fun v u wr => ∃ k : Nat, k ≤ kk ∧ u = .int .i64 k ∧ wr.ownsRow w1.heap.size 3 1 v (fixN (K.take k)).length (ic (zs (fixN (K.take k)))) ∧ Below w1.heap.size w1 wr) (fun _ u _ => kk - (intOf u).toNat)
  case atStart => exact ⟨0, by omega, rfl, World.ownsRow_nil _ _ _ _, Below.refl _ _⟩
  case round =>
    obtain ⟨k, hk, rfl, hO, hB⟩ := hrel
    obtain ⟨ao, cap, rfl⟩ := own_shape' hO
    have hfl : (fixN (K.take k)).length ≤ 160 := by
      have h1 := fixN_len (K.take k)
      rw [List.length_take] at h1
      omega
    by_cases hlt : k < kk
    · have hlt' : k < K.length := by rw [unhide HKK]; exact hlt
      obtain ⟨g, o, rfl, d0, d1, d2, d3⟩ := unhide HL k hlt'
      have c0 := cell_below d0 hB
      have c1 := cell_below d1 hB
      have c2 := cell_below d2 hB
      have c3 := cell_below d3 hB
      have hon := hide (fun W => only_any (gt K k).1 (unhide HBD _ (gt_mem hlt')) W)
      have HTK := hide (fixN_succ K k hlt')
      have q1 : (k : Int) < kk := by omega
      have HO := hide hO
      have HB := hide hB
      have HI : Hid (onlyB (gt K k).1 = true → onlyI (gt K k).1 = (fb (gt K k).1 : Int)) := fun h => by
        unfold onlyB at h
        unfold onlyI
        rw [if_neg (of_decide_eq_true h).1]
      unfold rowV at hon
      generalize hF : fixN (K.take k) = F at *
      cases hb : onlyB (gt K k).1 with
      | true =>
        have hoi := unhide HI hb
        rw [hb] at HTK hon
        rw [if_pos rfl] at HTK
        rw [hoi] at hon
        generalize fb (gt K k).1 = t at *
        generalize onlyI (gt K k).1 = oi at *
        generalize bs (gt K k).2 = D at *
        generalize ((wd (gt K k).1 0 : Nat) : Int) = x0 at *
        generalize ((wd (gt K k).1 1 : Nat) : Int) = x1 at *
        generalize ((wd (gt K k).1 2 : Nat) : Int) = x2 at *
        clear hO hB d0 d1 d2 d3 hoi HI hF hb
        go_wp2_with fail
        refine (unhide hon _).mono ?_
        rintro e w2 ⟨rfl, b2⟩
        have B2 := hide (((Below.refl _ wr).alloc (Nat.le_refl _) _).trans (b2.mono (by simp)))
        have HO2 := hide (own_below2 (unhide HO) (unhide B2))
        have HB2 := hide ((unhide HB).trans ((unhide B2).mono (unhide HB).size))
        have hz2' := (unhide HB2).size
        clear b2 HO
        go_wp2_with (at_builtin; refine wpList_append_own _ rfl _ _ 32 rfl w1.heap.size 3 i0 _ 1 8 Tryd.undI hi hz0 hz1 hz2 rfl (by decide) _ _ _ rfl ((unhide HO2).alloc _) ⟨w2.heap.size, 0, none⟩ 1 1 [.int .i64 (t : Int)] rfl rfl (news_lit _ [_] _) ?d2 ?d3 ?d4 ?d5 ?_)
        case d2 => intro u hu; simp at hu; subst hu; rfl
        case d3 => unfold maxLen; omega
        case d4 => omega
        case d5 => first | omega | (simp; omega)
        intro v' w3 hown' hgrow _
        have hb' := hide ((((unhide HB2).alloc (by omega) _)).grown hgrow (by simp; omega) (fun k hk => (((unhide HO2).lt k hk).1)))
        have ho2 : Hid (w3.ownsRow w1.heap.size 3 1 v' (fixN (K.take (k + 1))).length (ic (zs (fixN (K.take (k + 1)))))) := by
          show World.ownsRow _ _ _ _ _ _ _
          rw [unhide HTK, zs_append, ic_append, List.length_append]
          exact hown'
        obtain ⟨ao', cap', rfl⟩ := own_shape' hown'
        clear hown' hgrow HO2 HB2
        go_wp2
        go_roundw
        case rel => exact ⟨k + 1, by omega, by go_num, unhide ho2, unhide hb'⟩
        case measure => simp [intOf]; omega
      | false =>
        rw [hb] at HTK hon
        rw [if_neg (by simp), List.append_nil] at HTK
        generalize onlyI (gt K k).1 = oi at *
        generalize bs (gt K k).2 = D at *
        generalize ((wd (gt K k).1 0 : Nat) : Int) = x0 at *
        generalize ((wd (gt K k).1 1 : Nat) : Int) = x1 at *
        generalize ((wd (gt K k).1 2 : Nat) : Int) = x2 at *
        clear hO hB d0 d1 d2 d3 HI hF hb
        go_wp2_with fail
        refine (unhide hon _).mono ?_
        rintro e w2 ⟨rfl, b2⟩
        have B2 := hide (((Below.refl _ wr).alloc (Nat.le_refl _) _).trans (b2.mono (by simp)))
        have HO2 := hide (own_below2 (unhide HO) (unhide B2))
        have HB2 := hide ((unhide HB).trans ((unhide B2).mono (unhide HB).size))
        clear b2 HO
        go_wp2
        go_roundw
        case rel => exact ⟨k + 1, by omega, by go_num, by rw [unhide HTK]; exact unhide HO2, unhide HB2⟩
        case measure => simp [intOf]; omega
    · have hkn : k = kk := by omega
      subst hkn
      generalize hle : (fixN (K.take k)).length = le at hO ⊢
      rw [List.take_of_length_le (by rw [unhide HKK]; exact Nat.le_refl _)] at hO hle
      have q1 : ¬ (k : Int) < k := by omega
      have HO : Hid (wr.ownsRow w.heap.size 3 1 (.slice ao le cap) (fixN K).length (ic (zs (fixN K)))) := by
        show World.ownsRow _ _ _ _ _ _ _
        rw [hle]
        exact own_mono hO (unhide B1).size
      have HB := hide ((unhide B1).trans (hB.mono (unhide B1).size))
      clear hO hB hle
      go_wp2
      go_ret2
      exact ⟨_, rfl, unhide HO, unhide HB⟩
end Go.Proofs.YtpcndjnhpjhjkaaDoor

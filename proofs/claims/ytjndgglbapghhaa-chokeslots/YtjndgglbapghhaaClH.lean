/- choke: ChokeSlots. -/
import Derived.Test.YtjndgglbapghhaaClG
namespace Go.Proofs.Ytjndgglbapghhaa
open Go.RowKit Go.Sort
set_option linter.unusedVariables false
attribute [local go_sem] Oper.semAt_some

/-- the index of one of the top, or none -/
def LeastOk (T : List Int) (l : List Pr) (k : Nat) (v : Int) : Prop := v = -1 ∨ ∃ (j : Nat) (q : Pr), j < k ∧ v = j ∧ l[j]? = some q ∧ hasI T q.nd = true
theorem LeastOk.up {T : List Int} {l : List Pr} {k : Nat} {v : Int} (h : LeastOk T l k v) : LeastOk T l (k + 1) v := by
  rcases h with h | ⟨j, q, h1, h2⟩
  · exact .inl h
  · exact .inr ⟨j, q, by omega, h2⟩
theorem wan_snoc (l : List Pr) (k : Nat) (h : k < l.length) : wan (l.take (k + 1)) = wan (l.take k) + (if l[k].wa then 1 else 0) := by
  unfold wan
  rw [List.take_succ_eq_append_getElem h, List.filter_append, List.length_append, List.filter_cons, List.filter_nil]
  split <;> rfl
theorem wan_le (l : List Pr) (k : Nat) : wan (l.take k) ≤ k := by
  unfold wan
  refine Nat.le_trans (List.length_filter_le _ _) ?_
  rw [List.length_take]
  omega
set_option maxRecDepth 100000 in
set_option maxHeartbeats 32000000 in
theorem chokeSlots_any (a0 : Option Addr) (l : List Pr) (c : Nat) (s lot x y : Int) (w : World) (hl : PrsAt w a0 l) (hok : PrsOk l c) (hsw : (Lit.int .i64 s).wf = true) :
    Calls Try.prog 5 #[.slice a0 l.length c, howV s lot x y] w fun e w' => e = .returned (.bool true) ∧ Below w.heap.size w w' := by
  have hb0 : Below w.heap.size w (w.alloc (.cells #[.int .i64 s, .int .i64 lot, .int .i64 x, .int .i64 y] 26)) := (Below.refl _ w).alloc (Nat.le_refl _) _
  have HFw := hide (few_any a0 l c _ (hl.up hb0) (by have := hok.1; have := hok.2.1; omega) (fun p hp => (hok.2.2 p hp).1))
  have B0 := hide hb0
  have H0 : Hid (HowAt _ w.heap.size s lot x y) := heap_alloc_new w (.cells #[.int .i64 s, .int .i64 lot, .int .i64 x, .int .i64 y] 26)
  have HL := hide hl
  have HFL := hide (@fewB_yes l)
  clear hb0 hl hok
  unfold howV
  generalize fewB l = F at *
  obtain ⟨W0, hW0⟩ : ∃ W0, W0 = w.alloc (.cells #[.int .i64 s, .int .i64 lot, .int .i64 x, .int .i64 y] 26) := ⟨_, rfl⟩
  rw [← hW0] at HFw B0 H0
  have HW0 := hide hW0
  clear hW0
  obtain ⟨n, hn⟩ : ∃ n, n = l.length := ⟨_, rfl⟩
  rw [← hn] at HFw HFL ⊢
  have HN := hide hn
  clear hn
  cases F with
  | false =>
    go_enter Try.func5, Try.ntmps5
    go_wp2_with fail
    rw [← unhide HW0]
    refine (unhide HFw).mono ?_
    rintro e w1 ⟨rfl, rfl⟩
    go_wp2_with fail
    refine (cawake_any _).mono ?_
    rintro e w2 ⟨rfl, b2⟩
    have B2 := hide ((unhide B0).trans (b2.mono (unhide B0).size))
    clear b2
    go_wp2
    go_ret
    exact ⟨rfl, unhide B2⟩
  | true =>
  have hn20 : n ≤ 20 := unhide HFL rfl
  have hln : l.length ≤ 20 := by rw [← unhide HN]; exact hn20
  have HCh := hide (fun W (h : Below w.heap.size w W) => choose_any a0 l c s lot x y W ((unhide HL).up h) (by omega))
  have HTp := hide (fun W (h : Below w.heap.size w W) => top_any a0 l c s x y W ((unhide HL).up h) (by omega))
  rw [← unhide HN] at HCh HTp
  by_cases hV : (mayB s x y l && decide (0 ≤ lot)) = true
  case neg =>
    have hV2 : (mayB s x y l && decide (0 ≤ lot)) = false := by simpa using hV
    rw [choX_no hV2] at HCh
    have hte : ∃ te, te = (topX s x y l).2 := ⟨_, rfl⟩
    obtain ⟨te, hte⟩ := hte
    rw [← hte] at HTp
    generalize (topX s x y l).1 = TL at *
    clear hV hV2 hte hln HFL
    unfold rv at *
    dsimp only at HCh
    go_enter Try.func5, Try.ntmps5
    go_wp2_with fail
    rw [← unhide HW0]
    refine (unhide HFw).mono ?_
    rintro e w1 ⟨rfl, rfl⟩
    obtain ⟨u0, u1, u2, u3, ul⟩ := (unhide H0).cells
    clear HFw HW0
    go_wp2_with fail
    refine (unhide HCh _ (unhide B0)).mono ?_
    rintro e w2 ⟨v2, rfl, h2⟩
    obtain ⟨a2, c2, rfl, hI2⟩ := h2.ints
    have H2 := hide ((unhide H0).up h2.be)
    have B2 := hide ((unhide B0).trans (h2.be.mono (unhide B0).size))
    clear h2 hI2 u0 u1 u2 u3 ul H0 B0 HCh
    obtain ⟨u0, u1, u2, u3, ul⟩ := (unhide H2).cells
    go_wp2_with fail
    refine (unhide HTp _ (unhide B2)).mono ?_
    rintro e w3 ⟨v3, rfl, h3⟩
    obtain ⟨a3, c3, rfl, hI3⟩ := h3.ints
    have B3 := hide ((unhide B2).trans (h3.be.mono (unhide B2).size))
    clear h3 hI3 u0 u1 u2 u3 ul H2 B2 HTp
    generalize TL.length = tl at *
    go_wp2_with fail
    refine (cawake_any _).mono ?_
    rintro e w4 ⟨rfl, b4⟩
    have B4 := hide ((unhide B3).trans (b4.mono (unhide B3).size))
    clear b4
    go_wp2
    go_ret
    exact ⟨rfl, unhide B4⟩
  have hVV := hV
  rw [Bool.and_eq_true, decide_eq_true_iff] at hVV
  obtain ⟨hM, hlot⟩ := hVV
  obtain ⟨⟨hs0, hs8⟩, hpl, har⟩ := mayB_parts hM
  rw [choX_yes hV] at HCh
  rw [topX_yes hM] at HTp
  obtain ⟨sn, rfl⟩ : ∃ z : Nat, s = z := ⟨s.toNat, by omega⟩
  obtain ⟨ln, rfl⟩ : ∃ z : Nat, lot = z := ⟨lot.toNat, by omega⟩
  have HS1 := hide (fun p (hp : p ∈ l) h => slot1 (x := x) (y := y) (s := sn) (lot := ln) har hp h)
  have HS2 := hide (fun p (hp : p ∈ l) h => slot2 (x := x) (y := y) (s := sn) (lot := ln) har hp h)
  have HS3 := hide (fun p q (hp : p ∈ l) (hq : q ∈ l) h1 h2 h3 => slot3 (x := x) (y := y) (s := sn) har hp hq h1 h2 h3)
  have HLC := hide (cho_len x y sn ln l har)
  have HLT : Hid ((ndL (dTop x y sn l)).length = min sn (wan l)) := by
    show _ = _
    rw [ndL_len]
    exact dTop_len x y sn l (arP_ris har).1
  simp only [Int.toNat_natCast] at HCh HTp
  have hWL : wan l ≤ l.length := by unfold wan; exact List.length_filter_le _ _
  rw [← unhide HN] at hWL
  have HWL := hide hWL
  generalize ndL (dTop x y sn l) = T at *
  generalize choL x y sn ln l = A at *
  have HHx := hide (fun (T : List Int) (hT : T.length ≤ 1000) (a9 : Option Addr) (c9 : Nat) (x : Int) (W : World) (h : Ints W a9 T) => rhas_any a9 T c9 x W h (by unfold maxLen; omega))
  obtain ⟨q, hq⟩ : ∃ q, q = A.length := ⟨_, rfl⟩
  obtain ⟨r, hr⟩ : ∃ r, r = T.length := ⟨_, rfl⟩
  rw [← hq, ← hr] at HLC
  rw [← hr] at HLT
  have HQ := hide hq
  have HR := hide hr
  have HAL : Hid (A.length ≤ 1000) := by
    show _ ≤ _
    rw [← hq, unhide HLC, unhide HLT]
    split <;> omega
  have HTL : Hid (T.length ≤ 1000) := by
    show _ ≤ _
    rw [← hr, unhide HLT]
    omega
  obtain ⟨wl, hwl⟩ : ∃ z, z = wan l := ⟨_, rfl⟩
  rw [← hwl] at HLC HLT HWL
  have HWN := hide hwl
  clear hq hr hV hM hlot hs0 har hln hWL hwl HFL hpl hsw
  unfold rv at *
  go_enter Try.func5, Try.ntmps5
  go_wp2_with fail
  rw [← unhide HW0]
  refine (unhide HFw).mono ?_
  rintro e w1 ⟨rfl, rfl⟩
  obtain ⟨u0, u1, u2, u3, ul⟩ := (unhide H0).cells
  clear HFw HW0
  go_wp2_with fail
  refine (unhide HCh _ (unhide B0)).mono ?_
  rintro e w2 ⟨v2, rfl, h2⟩
  obtain ⟨a2, c2, rfl, hI2⟩ := h2.ints
  rw [← unhide HQ]
  have I2 := hide hI2
  have H2 := hide ((unhide H0).up h2.be)
  have B2 := hide ((unhide B0).trans (h2.be.mono (unhide B0).size))
  clear h2 hI2 u0 u1 u2 u3 ul H0 B0 HCh
  obtain ⟨u0, u1, u2, u3, ul⟩ := (unhide H2).cells
  go_wp2_with fail
  refine (unhide HTp _ (unhide B2)).mono ?_
  rintro e w3 ⟨v3, rfl, h3⟩
  obtain ⟨a3, c3, rfl, hI3⟩ := h3.ints
  rw [← unhide HR]
  have J3 := hide hI3
  have I3 := hide ((unhide I2).up h3.be)
  have H3 := hide ((unhide H2).up h3.be)
  have B3 := hide ((unhide B2).trans (h3.be.mono (unhide B2).size))
  clear h3 hI3 u0 u1 u2 u3 ul H2 I2 B2 HTp
  obtain ⟨u0, u1, u2, u3, ul⟩ := (unhide H3).cells
  have e1 : (q : Int) ≤ sn + 1 := by have h1 := unhide HLC; have h2 := unhide HLT; split at h1 <;> omega
  have e2 : (r : Int) ≤ sn := by have h2 := unhide HLT; omega
  have e3 : (r : Int) ≤ q := by have h1 := unhide HLC; split at h1 <;> omega
  have e4 : (q : Int) ≤ r + 1 := by have h1 := unhide HLC; split at h1 <;> omega
  have d1 : decide ((sn : Int) + 1 < q) = false := decide_eq_false (by omega)
  have d2 : decide ((sn : Int) < r) = false := decide_eq_false (by omega)
  have d3 : decide ((q : Int) < r) = false := decide_eq_false (by omega)
  have d4 : decide ((r : Int) + 1 < q) = false := decide_eq_false (by omega)
  have d1n : decide (sn + 1 < q) = false := decide_eq_false (by omega)
  have d2n : decide (sn < r) = false := decide_eq_false (by omega)
  have d3n : decide (q < r) = false := decide_eq_false (by omega)
  have d4n : decide (r + 1 < q) = false := decide_eq_false (by omega)
  have rb : (r : Int) ≤ 8 := by omega
  have qb : (q : Int) ≤ 9 := by omega
  clear e1 e2 e3 e4
  go_wp2_with fail
  clear d1 d2 d3 d4 d1n d2n d3n d4n
  go_loopw [9, 10, 11] (fun lv nv kv wr => ∃ (k : Nat) (z : Int), k ≤ n ∧ kv = .int .i64 k ∧ nv = .int .i64 (wan (l.take k) : Nat) ∧ lv = .int .i64 z ∧ LeastOk T l k z ∧ Below w3.heap.size w3 wr) (fun _ _ kv _ => n - (intOf kv).toNat)
  case atStart => exact ⟨0, -1, by omega, rfl, by rw [List.take_zero]; rfl, rfl, .inl rfl, Below.refl _ _⟩
  case round =>
    clear u0 u1 u2 u3 ul
    obtain ⟨k, z, hk, rfl, rfl, rfl, hLO, hB⟩ := hrel
    have HLO := hide hLO
    have HB := hide hB
    have hwk := wan_le l k
    clear hB hLO
    by_cases hlt : k < n
    · have hlt' : k < l.length := by rw [← unhide HN]; exact hlt
      obtain ⟨p, hp⟩ : ∃ p, p = l[k] := ⟨_, rfl⟩
      have hpm : p ∈ l := by rw [hp]; exact List.getElem_mem _
      have hpe : l[k]? = some p := by rw [hp]; exact List.getElem?_eq_getElem hlt'
      obtain ⟨g, o, ea, hgl, hra⟩ := prs_range (unhide HL) ((unhide B3).trans ((unhide HB).mono (unhide B3).size)) (i := k) (p := p) hpe
      have HJR : Hid (∀ (j : Nat) (q : Pr), l[j]? = some q → wr.cell? ⟨g, o + j * 10 + 9, none⟩ = some (.int .i64 q.ra)) := fun j q hq => by
        obtain ⟨g', o', e, _, h⟩ := prs_range (unhide HL) ((unhide B3).trans ((unhide HB).mono (unhide B3).size)) (i := j) (p := q) hq
        rw [ea] at e
        cases e
        exact h 9 _ rfl
      subst ea
      have u0 : wr.cell? ⟨g, o + k * 10, none⟩ = some (.int .i64 p.nd) := hra 0 _ rfl
      have u4 : wr.cell? ⟨g, o + k * 10 + 4, none⟩ = some (.bool p.wa) := hra 4 _ rfl
      have u9 : wr.cell? ⟨g, o + k * 10 + 9, none⟩ = some (.int .i64 p.ra) := hra 9 _ rfl
      have U9 := hide u9
      have hws := wan_snoc l k hlt'
      rw [← hp] at hws
      have HWS := hide hws
      have qk : (k : Int) < n := by omega
      have hs1 := unhide HS1 p hpm
      have hs2 := unhide HS2 p hpm
      have HNK : Hid (hasI T p.nd = true → LeastOk T l (k + 1) k) := fun h => .inr ⟨k, p, by omega, rfl, hpe, h⟩
      have HT1 := hide (unhide HHx T (unhide HTL) a3 c3 p.nd wr ((unhide J3).up (unhide HB)))
      have HHN : Hid (∀ z, z = p.nd → hasI A z = hasI A p.nd) := fun z h => by rw [h]
      have HA1 := hide (unhide HHx A (unhide HAL) a2 c2 p.nd wr ((unhide I3).up (unhide HB)))
      rw [← unhide HR] at HT1
      rw [← unhide HQ] at HA1
      clear hra hp hpm hpe hlt' hgl hws u9
      generalize hasI T p.nd = hT at *
      generalize hasI A p.nd = hA at *
      generalize p.nd = nd at *
      generalize p.wa = wa at *
      generalize p.ra = ra at *
      obtain ⟨wk, hwk2⟩ : ∃ z, z = wan (l.take k) := ⟨_, rfl⟩
      rw [← hwk2] at hwk HWS ⊢
      clear hwk2
      cases hT with
      | true =>
        obtain ⟨e1, e2⟩ := hs1 rfl
        subst e1
        subst e2
        have HK1 := hide (unhide HNK rfl)
        clear hs1 hs2 HNK HS1 HS2 HS3
        have HCells : Hid (∀ W, Below wr.heap.size wr W → W.cell? ⟨g, o + k * 10, none⟩ = some (.int .i64 nd) ∧ W.cell? ⟨g, o + k * 10 + 4, none⟩ = some (.bool true) ∧ Calls Try.prog 19 #[.slice a2 q c2, .int .i64 nd] W (fun e w' => e = .returned (.bool true) ∧ W = w')) := fun W hW => ⟨cell_below u0 hW, cell_below u4 hW, by
          have h := unhide HHx A (unhide HAL) a2 c2 nd W ((unhide I3).up ((unhide HB).trans (hW.mono (unhide HB).size)))
          rw [← unhide HQ, unhide HHN nd rfl] at h
          exact h⟩
        go_wp2_with fail
        refine (unhide HT1).mono ?_
        rintro e9 w9 ⟨rfl, rfl⟩
        go_wp2_with fail
        refine (unhide HA1).mono ?_
        rintro e9 w9 ⟨rfl, rfl⟩
        rcases unhide HLO with hz | ⟨j, qq, hj, hz, hje, hjt⟩
        · subst hz
          clear u0 u4 HT1 HA1
          go_wp2_with fail
          refine wp_region_grB (by kernel_rfl) (by kernel_rfl) ?_
          have hne := gb_ne wr
          repeat (go_big_quiet_step (fail))
          refine wpQuiet_nil ?_
          rintro w7 ⟨⟨_, b7⟩, rfl⟩
          have B7 := hide ((unhide HB).trans (b7.mono (unhide HB).size))
          obtain ⟨u0, u4, hc7⟩ := unhide HCells w7 b7
          have HC7 := hide hc7
          clear b7 hc7 hne 
          go_wp2_with fail
          refine (unhide HC7).mono ?_
          rintro e9 w9 ⟨rfl, rfl⟩
          have HWS2 := hide ((unhide HWS).trans (show _ = wk + 1 by simp))
          clear HWS
          go_wp2
          go_roundw
          case rel => exact ⟨k + 1, _, by omega, by go_num, by rw [unhide HWS2]; first | done | go_num, rfl, unhide HK1, unhide B7⟩
          case measure => simp [intOf]; omega
        · subst hz
          have HJ := hide (unhide HJR j qq hje)
          have hjn : (j : Int) < n := by omega
          have hj0 : ¬ (j : Int) < 0 := by omega
          have hj1 : decide ((j : Int) < 0) = false := decide_eq_false hj0
          have HLU := hide (unhide HLO).up
          clear hje hjt u0 u4 HT1 HA1
          by_cases hlt2 : ra < qq.ra
          · have hd : decide (ra < qq.ra) = true := decide_eq_true hlt2
            go_wp2_with fail
            refine wp_region_grB (by kernel_rfl) (by kernel_rfl) ?_
            have hne := gb_ne wr
            have f0 : ∀ y : Gb wr, y.w.cell? ⟨g, o + k * 10 + 9, none⟩ = _ := fun y => gb_cell (unhide U9) y
            have f1 : ∀ y : Gb wr, y.w.cell? ⟨g, o + j * 10 + 9, none⟩ = _ := fun y => gb_cell (unhide HJ) y
            repeat (go_big_quiet_step (fail))
            refine wpQuiet_nil ?_
            rintro w7 ⟨⟨_, b7⟩, rfl⟩
            have B7 := hide ((unhide HB).trans (b7.mono (unhide HB).size))
            obtain ⟨u0, u4, hc7⟩ := unhide HCells w7 b7
            have HC7 := hide hc7
            clear b7 hc7 hne f0 f1
            go_wp2_with fail
            refine (unhide HC7).mono ?_
            rintro e9 w9 ⟨rfl, rfl⟩
            have HWS2 := hide ((unhide HWS).trans (show _ = wk + 1 by simp))
            clear HWS
            go_wp2
            go_roundw
            case rel => exact ⟨k + 1, _, by omega, by go_num, by rw [unhide HWS2]; first | done | go_num, rfl, unhide HK1, unhide B7⟩
            case measure => simp [intOf]; omega
          · have hd : decide (ra < qq.ra) = false := decide_eq_false hlt2
            go_wp2_with fail
            refine wp_region_grB (by kernel_rfl) (by kernel_rfl) ?_
            have hne := gb_ne wr
            have f0 : ∀ y : Gb wr, y.w.cell? ⟨g, o + k * 10 + 9, none⟩ = _ := fun y => gb_cell (unhide U9) y
            have f1 : ∀ y : Gb wr, y.w.cell? ⟨g, o + j * 10 + 9, none⟩ = _ := fun y => gb_cell (unhide HJ) y
            repeat (go_big_quiet_step (fail))
            refine wpQuiet_nil ?_
            rintro w7 ⟨⟨_, b7⟩, rfl⟩
            have B7 := hide ((unhide HB).trans (b7.mono (unhide HB).size))
            obtain ⟨u0, u4, hc7⟩ := unhide HCells w7 b7
            have HC7 := hide hc7
            clear b7 hc7 hne f0 f1
            go_wp2_with fail
            refine (unhide HC7).mono ?_
            rintro e9 w9 ⟨rfl, rfl⟩
            have HWS2 := hide ((unhide HWS).trans (show _ = wk + 1 by simp))
            clear HWS
            go_wp2
            go_roundw
            case rel => exact ⟨k + 1, _, by omega, by go_num, by rw [unhide HWS2]; first | done | go_num, rfl, unhide HLU, unhide B7⟩
            case measure => simp [intOf]; omega
      | false =>
        have HLU := hide (unhide HLO).up
        cases hA with
        | true =>
          have e2 := hs2 rfl
          subst e2
          clear hs1 hs2
          go_wp2_with fail
          refine (unhide HT1).mono ?_
          rintro e9 w9 ⟨rfl, rfl⟩
          go_wp2_with fail
          refine (unhide HA1).mono ?_
          rintro e9 w9 ⟨rfl, rfl⟩
          have HWS2 := hide ((unhide HWS).trans (show _ = wk + 1 by simp))
          clear HWS
          go_wp2
          go_roundw
          case rel => exact ⟨k + 1, _, by omega, by go_num, by rw [unhide HWS2]; first | done | go_num, rfl, unhide HLU, unhide HB⟩
          case measure => simp [intOf]; omega
        | false =>
          clear hs1 hs2
          cases wa with
          | true =>
            go_wp2_with fail
            refine (unhide HT1).mono ?_
            rintro e9 w9 ⟨rfl, rfl⟩
            go_wp2_with fail
            refine (unhide HA1).mono ?_
            rintro e9 w9 ⟨rfl, rfl⟩
            have HWS2 := hide ((unhide HWS).trans (show _ = wk + 1 by simp))
            clear HWS
            go_wp2
            go_roundw
            case rel => exact ⟨k + 1, _, by omega, by go_num, by rw [unhide HWS2]; first | done | go_num, rfl, unhide HLU, unhide HB⟩
            case measure => simp [intOf]; omega
          | false =>
            go_wp2_with fail
            refine (unhide HT1).mono ?_
            rintro e9 w9 ⟨rfl, rfl⟩
            go_wp2_with fail
            refine (unhide HA1).mono ?_
            rintro e9 w9 ⟨rfl, rfl⟩
            have HWS2 := hide ((unhide HWS).trans (show _ = wk by simp))
            clear HWS
            go_wp2
            go_roundw
            case rel => exact ⟨k + 1, _, by omega, by go_num, by rw [unhide HWS2]; first | done | go_num, rfl, unhide HLU, unhide HB⟩
            case measure => simp [intOf]; omega
    · have hkn : k = n := by omega
      have q1 : ¬ (k : Int) < n := by omega
      have HWK : Hid (wan (l.take k) = wl) := by
        show _ = _
        rw [unhide HWN, show l.take k = l by rw [hkn, unhide HN, List.take_length]]
      rw [unhide HWK]
      have HB4 := hide (unhide HB)
      obtain ⟨w4, rfl⟩ : ∃ z, z = wr := ⟨_, rfl⟩
      have HLO2 : Hid (LeastOk T l n z) := by rw [← hkn]; exact unhide HLO
      clear HLO HB HWK
      go_wp2_with fail
      go_loopw [12] (fun kv wr => ∃ i : Nat, i ≤ n ∧ kv = .int .i64 i ∧ Below w3.heap.size w3 wr) (fun kv _ => n - (intOf kv).toNat)
      case atStart => exact ⟨0, by omega, rfl, unhide HB4⟩
      case round =>
        clear HB4
        obtain ⟨i, hi, rfl, hB⟩ := hrel
        have HB := hide hB
        clear hB
        by_cases hli : i < n
        · have hlt' : i < l.length := by rw [← unhide HN]; exact hli
          obtain ⟨p, hp⟩ : ∃ p, p = l[i] := ⟨_, rfl⟩
          have hpm : p ∈ l := by rw [hp]; exact List.getElem_mem _
          have hpe : l[i]? = some p := by rw [hp]; exact List.getElem?_eq_getElem hlt'
          obtain ⟨g, o, ea, hgl, hra⟩ := prs_range (unhide HL) ((unhide B3).trans ((unhide HB).mono (unhide B3).size)) (i := i) (p := p) hpe
          have HJR : Hid (∀ (j : Nat) (q : Pr), l[j]? = some q → wr.cell? ⟨g, o + j * 10 + 9, none⟩ = some (.int .i64 q.ra)) := fun j q hq => by
            obtain ⟨g', o', e, _, h⟩ := prs_range (unhide HL) ((unhide B3).trans ((unhide HB).mono (unhide B3).size)) (i := j) (p := q) hq
            rw [ea] at e
            cases e
            exact h 9 _ rfl
          subst ea
          have U0 := hide (show wr.cell? ⟨g, o + i * 10, none⟩ = some (.int .i64 p.nd) from hra 0 _ rfl)
          have U4 := hide (show wr.cell? ⟨g, o + i * 10 + 4, none⟩ = some (.bool p.wa) from hra 4 _ rfl)
          have U9 := hide (show wr.cell? ⟨g, o + i * 10 + 9, none⟩ = some (.int .i64 p.ra) from hra 9 _ rfl)
          have qk : (i : Int) < n := by omega
          have HS3p := hide (fun q (hq : q ∈ l) h1 h2 h3 => unhide HS3 p q hpm hq h1 h2 h3)
          have HT1 : Hid (∀ W, Below wr.heap.size wr W → Calls Try.prog 19 #[.slice a3 r c3, .int .i64 p.nd] W (fun e w' => e = .returned (.bool (hasI T p.nd)) ∧ W = w')) := fun W hW => by
            have h := unhide HHx T (unhide HTL) a3 c3 p.nd W ((unhide J3).up ((unhide HB).trans (hW.mono (unhide HB).size)))
            rw [← unhide HR] at h
            exact h
          clear hra hp hpm hpe hlt' hgl
          generalize hasI T p.nd = hT at *
          generalize p.nd = nd at *
          generalize p.wa = wa at *
          generalize p.ra = ra at *
          cases wa with
          | false =>
            go_wp2_with fail
            refine wp_region_grB (by kernel_rfl) (by kernel_rfl) ?_
            have hne := gb_ne wr
            have f0 : ∀ y : Gb wr, y.w.cell? ⟨g, o + i * 10, none⟩ = _ := fun y => gb_cell (unhide U0) y
            have f1 : ∀ y : Gb wr, y.w.cell? ⟨g, o + i * 10 + 4, none⟩ = _ := fun y => gb_cell (unhide U4) y
            repeat (go_big_quiet_step ((go_at_call 19; exact gb_same (unhide HT1 _ (Gr.ok _)))))
            refine wpQuiet_nil ?_
            rintro w7 ⟨⟨_, b7⟩, rfl⟩
            have B7 := hide ((unhide HB).trans (b7.mono (unhide HB).size))
            clear b7 hne f0 f1
            go_wp2
            go_roundw
            case rel => exact ⟨i + 1, by omega, by go_num, unhide B7⟩
            case measure => simp [intOf]; omega
          | true =>
          cases hT with
          | true =>
            go_wp2_with fail
            refine wp_region_grB (by kernel_rfl) (by kernel_rfl) ?_
            have hne := gb_ne wr
            have f0 : ∀ y : Gb wr, y.w.cell? ⟨g, o + i * 10, none⟩ = _ := fun y => gb_cell (unhide U0) y
            have f1 : ∀ y : Gb wr, y.w.cell? ⟨g, o + i * 10 + 4, none⟩ = _ := fun y => gb_cell (unhide U4) y
            repeat (go_big_quiet_step ((go_at_call 19; exact gb_same (unhide HT1 _ (Gr.ok _)))))
            refine wpQuiet_nil ?_
            rintro w7 ⟨⟨_, b7⟩, rfl⟩
            have B7 := hide ((unhide HB).trans (b7.mono (unhide HB).size))
            clear b7 hne f0 f1
            go_wp2
            go_roundw
            case rel => exact ⟨i + 1, by omega, by go_num, unhide B7⟩
            case measure => simp [intOf]; omega
          | false =>
          rcases unhide HLO2 with hz | ⟨j, qq, hj, hz, hje, hjt⟩
          · subst hz
            go_wp2_with fail
            refine wp_region_grB (by kernel_rfl) (by kernel_rfl) ?_
            have hne := gb_ne wr
            have f0 : ∀ y : Gb wr, y.w.cell? ⟨g, o + i * 10, none⟩ = _ := fun y => gb_cell (unhide U0) y
            have f1 : ∀ y : Gb wr, y.w.cell? ⟨g, o + i * 10 + 4, none⟩ = _ := fun y => gb_cell (unhide U4) y
            repeat (go_big_quiet_step ((go_at_call 19; exact gb_same (unhide HT1 _ (Gr.ok _)))))
            refine wpQuiet_nil ?_
            rintro w7 ⟨⟨_, b7⟩, rfl⟩
            have B7 := hide ((unhide HB).trans (b7.mono (unhide HB).size))
            clear b7 hne f0 f1
            go_wp2
            go_roundw
            case rel => exact ⟨i + 1, by omega, by go_num, unhide B7⟩
            case measure => simp [intOf]; omega
          · subst hz
            have HJ := hide (unhide HJR j qq hje)
            have hjn : (j : Int) < n := by omega
            have hj0 : (0 : Int) ≤ (j : Int) := by omega
            have hno := unhide HS3p qq (List.mem_of_getElem? hje) rfl rfl hjt
            have hd : decide (qq.ra < ra) = false := decide_eq_false (by omega)
            clear hje hjt hno
            go_wp2_with fail
            refine wp_region_grB (by kernel_rfl) (by kernel_rfl) ?_
            have hne := gb_ne wr
            have f0 : ∀ y : Gb wr, y.w.cell? ⟨g, o + i * 10, none⟩ = _ := fun y => gb_cell (unhide U0) y
            have f1 : ∀ y : Gb wr, y.w.cell? ⟨g, o + i * 10 + 4, none⟩ = _ := fun y => gb_cell (unhide U4) y
            have f2 : ∀ y : Gb wr, y.w.cell? ⟨g, o + i * 10 + 9, none⟩ = _ := fun y => gb_cell (unhide U9) y
            have f3 : ∀ y : Gb wr, y.w.cell? ⟨g, o + j * 10 + 9, none⟩ = _ := fun y => gb_cell (unhide HJ) y
            repeat (go_big_quiet_step ((go_at_call 19; exact gb_same (unhide HT1 _ (Gr.ok _)))))
            refine wpQuiet_nil ?_
            rintro w7 ⟨⟨_, b7⟩, rfl⟩
            have B7 := hide ((unhide HB).trans (b7.mono (unhide HB).size))
            clear b7 hne f0 f1 f2 f3
            go_wp2
            go_roundw
            case rel => exact ⟨i + 1, by omega, by go_num, unhide B7⟩
            case measure => simp [intOf]; omega
        · have q2 : ¬ (i : Int) < n := by omega
          have HH := hide ((unhide H3).up (unhide HB))
          have BF := hide ((unhide B3).trans ((unhide HB).mono (unhide B3).size))
          go_wp2_with fail
          refine (cawake_any _).mono ?_
          rintro e w9 ⟨rfl, b9⟩
          have B9 := hide ((unhide BF).trans (b9.mono (unhide BF).size))
          obtain ⟨u0, u1, u2, u3, ul⟩ := ((unhide HH).up b9).cells
          have m1 : ((r : Int) == min (sn : Int) (wl : Int)) = true := by
            have := unhide HLT
            simp
            omega
          have m2 : (decide ((r : Int) < q) == decide ((r : Int) < wl)) = true := by
            have h1 := unhide HLC
            rw [beq_iff_eq]
            split at h1
            · rw [decide_eq_true (by omega), decide_eq_true (by omega)]
            · rw [decide_eq_false (by omega), decide_eq_false (by omega)]
          have m3 : (decide (r < q) == decide (r < wl)) = true := by
            have h1 := unhide HLC
            rw [beq_iff_eq]
            split at h1
            · rw [decide_eq_true (by omega), decide_eq_true (by omega)]
            · rw [decide_eq_false (by omega), decide_eq_false (by omega)]
          clear b9
          go_wp2
          go_ret
          exact ⟨by first | (simp; done) | (simp [m2]; done) | (simp [m3]; done), unhide B9⟩
end Go.Proofs.Ytjndgglbapghhaa

/- choke: ChokeLots. -/
import Derived.Test.YtjndgglbapghhaaClG
namespace Go.Proofs.Ytjndgglbapghhaa
open Go.RowKit Go.Sort
set_option linter.unusedVariables false
attribute [local go_sem] Oper.semAt_some

theorem otL_get {t : List Int} {l : List Pr} {k : Nat} (h : k < (otL t l).length) : ∃ p, (l.filter (otP t))[k]? = some p ∧ (otL t l)[k] = p.nd := by
  have h2 : k < (l.filter (otP t)).length := by unfold otL at h; rwa [ndL_len] at h
  refine ⟨(l.filter (otP t))[k], List.getElem?_eq_getElem h2, ?_⟩
  simp [otL, ndL]
theorem lots_same (x y : Int) (s k : Nat) (l : List Pr) : choL x y s (k + 3 * (otL (ndL (dTop x y s l)) l).length) l = choL x y s k l := by
  unfold choL
  have : luck (ndL (dTop x y s l)) (k + 3 * (otL (ndL (dTop x y s l)) l).length) l = luck (ndL (dTop x y s l)) k l := by
    unfold luck
    rw [show (otL (ndL (dTop x y s l)) l).length = (l.filter (otP (ndL (dTop x y s l)))).length by unfold otL; exact ndL_len _, Nat.add_mul_mod_self_right]
  rw [this]
theorem lots_has {x y : Int} {s k : Nat} {l : List Pr} (ha : arP 1 l = true) (h : k < (otL (ndL (dTop x y s l)) l).length) : hasI (choL x y s k l) (otL (ndL (dTop x y s l)) l)[k] = true := by
  obtain ⟨p, hp, e⟩ := otL_get h
  rw [e]
  have hm := List.mem_of_getElem? hp
  obtain ⟨hpl, _⟩ := List.mem_filter.1 hm
  rw [hasCho ha hpl]
  have hlt : k < (l.filter (otP (ndL (dTop x y s l)))).length := (List.getElem?_eq_some_iff.1 hp).1
  have : luck (ndL (dTop x y s l)) k l = p.nd := by
    unfold luck
    rw [Nat.mod_eq_of_lt hlt, hp]
  rw [this]
  simp
set_option maxRecDepth 100000 in
set_option maxHeartbeats 32000000 in
theorem chokeLots_any (a0 : Option Addr) (l : List Pr) (c : Nat) (s lot x y : Int) (w : World) (hl : PrsAt w a0 l) (hok : PrsOk l c) :
    Calls Try.prog 6 #[.slice a0 l.length c, howV s lot x y] w fun e w' => e = .returned (.bool true) ∧ Below w.heap.size w w' := by
  have hb0 : Below w.heap.size w (w.alloc (.cells #[.int .i64 s, .int .i64 lot, .int .i64 x, .int .i64 y] 26)) := (Below.refl _ w).alloc (Nat.le_refl _) _
  have HFw := hide (few_any a0 l c _ (hl.up hb0) (by have := hok.1; have := hok.2.1; omega) (fun p hp => (hok.2.2 p hp).1))
  have B0 := hide hb0
  have H0 : Hid (HowAt _ w.heap.size s lot x y) := heap_alloc_new w (.cells #[.int .i64 s, .int .i64 lot, .int .i64 x, .int .i64 y] 26)
  have HL := hide hl
  have HFL := hide (@fewB_yes l)
  clear hb0 hl hok
  unfold howV
  generalize fewB l = F at *
  obtain ⟨W0, hW0⟩ : ∃ W0, W0 = w.alloc (.cells #[.int .i64 s, .int .i64 lot, .int .i64 x, .int .i64 y] 26) := ⟨_, rfl⟩
  rw [← hW0] at HFw B0 H0
  have HW0 := hide hW0
  clear hW0
  obtain ⟨n, hn⟩ : ∃ n, n = l.length := ⟨_, rfl⟩
  rw [← hn] at HFw HFL ⊢
  have HN := hide hn
  clear hn
  cases F with
  | false =>
    go_enter Try.func6, Try.ntmps6
    go_wp2_with fail
    rw [← unhide HW0]
    refine (unhide HFw).mono ?_
    rintro e w1 ⟨rfl, rfl⟩
    go_wp2_with fail
    refine (cawake_any _).mono ?_
    rintro e w2 ⟨rfl, b2⟩
    have B2 := hide ((unhide B0).trans (b2.mono (unhide B0).size))
    clear b2
    go_wp2
    go_ret
    exact ⟨rfl, unhide B2⟩
  | true =>
  have hn20 : n ≤ 20 := unhide HFL rfl
  have hln : l.length ≤ 20 := by rw [← unhide HN]; exact hn20
  have HTp := hide (fun W (h : Below w.heap.size w W) => top_any a0 l c s x y W ((unhide HL).up h) (by omega))
  rw [← unhide HN] at HTp
  by_cases hM : mayB s x y l = true
  case neg =>
    have hV2 : mayB s x y l = false := by simpa using hM
    rw [topX_no hV2] at HTp
    clear hV2 hM hln HFL
    unfold rv at *
    dsimp only at HTp
    go_enter Try.func6, Try.ntmps6
    go_wp2_with fail
    rw [← unhide HW0]
    refine (unhide HFw).mono ?_
    rintro e w1 ⟨rfl, rfl⟩
    obtain ⟨u0, u1, u2, u3, ul⟩ := (unhide H0).cells
    clear HFw HW0
    go_wp2_with fail
    refine (unhide HTp _ (unhide B0)).mono ?_
    rintro e w3 ⟨v3, rfl, h3⟩
    obtain ⟨a3, c3, rfl, hI3⟩ := h3.ints
    have B3 := hide ((unhide B0).trans (h3.be.mono (unhide B0).size))
    clear h3 hI3 u0 u1 u2 u3 ul H0 B0 HTp
    go_wp2_with fail
    refine (cawake_any _).mono ?_
    rintro e w4 ⟨rfl, b4⟩
    have B4 := hide ((unhide B3).trans (b4.mono (unhide B3).size))
    clear b4
    go_wp2
    go_ret
    exact ⟨rfl, unhide B4⟩
  obtain ⟨⟨hs0, hs8⟩, hpl, har⟩ := mayB_parts hM
  rw [topX_yes hM] at HTp
  obtain ⟨sn, rfl⟩ : ∃ z : Nat, s = z := ⟨s.toNat, by omega⟩
  have HCh : Hid (∀ (k : Nat) W, Below w.heap.size w W → Calls Try.prog 9 #[.slice a0 n c, .int .i64 sn, .int .i64 k, rv x y] W fun e w' => ∃ v, e = .returned (.tuple #[v, .int .i64 0]) ∧ ChoR W v (choL x y sn k l) w') := fun k W h => by
    have := choose_good a0 l c sn k x y W ((unhide HL).up h) (by omega) (by omega) hpl har
    rwa [← unhide HN] at this
  have HRf := hide (fun W (h : Below w.heap.size w W) => refs_any a0 l c W ((unhide HL).up h) (by omega))
  rw [← unhide HN] at HRf
  have HLS := hide (fun k => lots_same x y sn k l)
  have HCL : Hid (∀ k, (choL x y sn k l).length ≤ 100) := fun k => by
    unfold choL chL
    rw [ndL_len]
    exact Nat.le_trans (List.length_filter_le _ _) (by omega)
  have HDO := hide (fun a9 c9 b0 d W (hp : PrsAt W a9 l) (hI : Ints W b0 (ndL (dTop x y sn l))) => dothers_any a9 l c9 b0 (ndL (dTop x y sn l)) d W hp (by omega) hI (by rw [ndL_len]; unfold dTop; have := List.length_filter_le (fun p => p.wa && decide ((l.filter fun q => q.wa && ahP x y q p).length < sn)) l; omega))
  simp only [Int.toNat_natCast] at HTp
  have HOL : Hid ((otL (ndL (dTop x y sn l)) l).length ≤ 20) := by
    show _ ≤ _
    unfold otL
    rw [ndL_len]
    exact Nat.le_trans (List.length_filter_le _ _) hln
  obtain ⟨O, hO⟩ : ∃ O, O = otL (ndL (dTop x y sn l)) l := ⟨_, rfl⟩
  have HLH : Hid (∀ k z, O[k]? = some z → hasI (choL x y sn k l) z = true) := fun k z hz => by
    subst hO
    obtain ⟨h1, h2⟩ := List.getElem?_eq_some_iff.1 hz
    rw [← h2]
    exact lots_has har h1
  rw [← hO] at HOL HLS HDO
  generalize ndL (dTop x y sn l) = T at *
  have HHx := hide (fun (T : List Int) (hT : T.length ≤ 100) (a9 : Option Addr) (c9 : Nat) (x : Int) (W : World) (h : Ints W a9 T) => rhas_any a9 T c9 x W h (by unfold maxLen; omega))
  have HSm := hide (fun (T : List Int) (hT : T.length ≤ 100) a8 c8 a9 c9 (W : World) (h8 : Ints W a8 T) (h9 : Ints W a9 T) => isame_any W T a8 a9 c8 c9 (by omega) h8 h9)
  generalize choL x y sn = CF at *
  obtain ⟨m, hm⟩ : ∃ m, m = O.length := ⟨_, rfl⟩
  rw [← hm] at HOL HLS
  have HMM := hide hm
  obtain ⟨r, hr⟩ : ∃ r, r = T.length := ⟨_, rfl⟩
  have HR := hide hr
  have hm20 : (m : Int) ≤ 20 := by have := unhide HOL; omega
  clear hO hm hr hM hs0 har hln HFL hpl hs8
  unfold rv at *
  go_enter Try.func6, Try.ntmps6
  go_wp2_with fail
  rw [← unhide HW0]
  refine (unhide HFw).mono ?_
  rintro e w1 ⟨rfl, rfl⟩
  obtain ⟨u0, u1, u2, u3, ul⟩ := (unhide H0).cells
  clear HFw HW0
  go_wp2_with fail
  refine (unhide HTp _ (unhide B0)).mono ?_
  rintro e w3 ⟨v3, rfl, h3⟩
  obtain ⟨a3, c3, rfl, hI3⟩ := h3.ints
  rw [← unhide HR]
  have J3 := hide hI3
  have H3 := hide ((unhide H0).up h3.be)
  have B3 := hide ((unhide B0).trans (h3.be.mono (unhide B0).size))
  clear h3 hI3 u0 u1 u2 u3 ul H0 B0 HTp
  go_wp2_with fail
  refine (unhide HRf _ (unhide B3)).mono ?_
  rintro e w4 ⟨v4, rfl, h4⟩
  obtain ⟨a4, c4, rfl, p4⟩ := h4.own.prs
  have B4 := hide ((unhide B3).trans (h4.be.mono (unhide B3).size))
  have H4 := hide ((unhide H3).up h4.be)
  have HX := hide (unhide HDO a4 c4 a3 c3 w4 p4 ((unhide J3).up h4.be))
  rw [← unhide HN, ← unhide HR] at HX
  rw [← unhide HN]
  clear h4 p4 J3 H3 B3 HRf HDO
  go_wp2_with fail
  refine (unhide HX).mono ?_
  rintro e w5 ⟨v5, rfl, o5, b5⟩
  obtain ⟨a5, c5, rfl, hI5, _, _⟩ := OwnI.ints o5
  rw [← unhide HMM]
  have J5 := hide hI5
  have H5 := hide ((unhide H4).up b5)
  have B5 := hide ((unhide B4).trans (b5.mono (unhide B4).size))
  clear o5 b5 hI5 H4 B4 HX
  go_wp2_with fail
  go_loopw [8] (fun kv wr => ∃ k : Nat, k ≤ m ∧ kv = .int .i64 k ∧ Below w5.heap.size w5 wr) (fun kv _ => m - (intOf kv).toNat)
  case atStart => exact ⟨0, by omega, rfl, Below.refl _ _⟩
  case round =>
    obtain ⟨k, hk, rfl, hB⟩ := hrel
    have HB := hide hB
    clear hB
    by_cases hlt : k < m
    · have hlt' : k < O.length := by rw [← unhide HMM]; exact hlt
      obtain ⟨g, o, ea, hc5⟩ := (unhide J5) k hlt'
      have HO5 := hide hc5
      have hhas := unhide HLH k O[k] (List.getElem?_eq_getElem hlt')
      generalize O[k] = z at *
      have hsame := unhide HLS k
      have BR := hide ((unhide B5).trans ((unhide HB).mono (unhide B5).size))
      obtain ⟨u0, u1, u2, u3, ul⟩ := ((unhide H5).up (unhide HB)).cells
      have HC1 := hide (unhide HCh k _ (unhide BR))
      have HCL1 := hide (unhide HCL k)
      have HC2 := hide (unhide HCh (k + 3 * m))
      rw [hsame] at HC2
      have hkm : ((k + 3 * m : Nat) : Int) = (k : Int) + 3 * (m : Int) := by omega
      rw [hkm] at HC2
      have HHAS := hide hhas
      have qk : (k : Int) < m := by omega
      subst ea
      generalize CF k l = A at *
      obtain ⟨q, hq⟩ : ∃ q, q = A.length := ⟨_, rfl⟩
      have HQ := hide hq
      clear hlt' hc5 hhas hsame hkm hq
      go_wp2_with fail
      refine (unhide HC1).mono ?_
      rintro e w6 ⟨v6, rfl, h6⟩
      obtain ⟨a6, c6, rfl, hI6⟩ := h6.ints
      rw [← unhide HQ]
      have I6 := hide hI6
      have BH := hide ((unhide HB).trans (h6.be.mono (unhide HB).size))
      have B6 := hide ((unhide BR).trans (h6.be.mono (unhide BR).size))
      clear h6 hI6 u0 u1 u2 u3 ul BR HB HC1
      obtain ⟨u0, u1, u2, u3, ul⟩ := ((unhide H5).up (unhide BH)).cells
      go_wp2_with fail
      refine (unhide HC2 _ (unhide B6)).mono ?_
      rintro e w7 ⟨v7, rfl, h7⟩
      obtain ⟨a7, c7, rfl, hI7⟩ := h7.ints
      have I7 := hide ((unhide I6).up h7.be)
      have BJ := hide ((unhide BH).trans (h7.be.mono (unhide BH).size))
      have HX := hide (unhide HSm A (unhide HCL1) a6 c6 a7 c7 w7 (unhide I7) hI7)
      rw [← unhide HQ] at HX ⊢
      clear h7 hI7 u0 u1 u2 u3 ul BH I6 HC2
      go_wp2_with fail
      refine (unhide HX).mono ?_
      rintro e w8 ⟨rfl, b8⟩
      have I8 := hide ((unhide I7).up b8)
      have BK := hide ((unhide BJ).trans (b8.mono (unhide BJ).size))
      have HX := hide (unhide HHx A (unhide HCL1) a6 c6 z w8 (unhide I8))
      rw [← unhide HQ, unhide HHAS] at HX
      have hz := cell_below (unhide HO5) (unhide BK)
      clear b8 BJ I7
      go_wp2_with fail
      refine (unhide HX).mono ?_
      rintro e w9 ⟨rfl, rfl⟩
      clear hz
      go_wp2
      go_roundw
      case rel => exact ⟨k + 1, by omega, by go_num, unhide BK⟩
      case measure => simp [intOf]; omega
    · have q2 : ¬ (k : Int) < m := by omega
      have BF := hide ((unhide B5).trans ((unhide HB).mono (unhide B5).size))
      go_wp2_with fail
      refine (cawake_any _).mono ?_
      rintro e w9 ⟨rfl, b9⟩
      have B9 := hide ((unhide BF).trans (b9.mono (unhide BF).size))
      clear b9
      go_wp2
      go_ret
      exact ⟨rfl, unhide B9⟩
end Go.Proofs.Ytjndgglbapghhaa

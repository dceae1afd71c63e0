/- choke: Choose. -/
import Derived.OneCell
import Derived.Test.YtjndgglbapghhaaCkT
namespace Go.Proofs.Ytjndgglbapghhaa
open Go.RowKit Go.Sort
set_option linter.unusedVariables false
attribute [local go_sem] Oper.semAt_some

/-- the number that the lot draws, 0 where there is none -/
def luck (t : List Int) (lot : Nat) (l : List Pr) : Int := match (l.filter (otP t))[lot % (l.filter (otP t)).length]? with
  | some p => p.nd
  | none => 0
/-- who is chosen -/
def choL (x y : Int) (s lot : Nat) (l : List Pr) : List Int := chL (ndL (dTop x y s l)) (luck (ndL (dTop x y s l)) lot l) l
theorem cho_none {x y : Int} {s lot : Nat} {l : List Pr} (ha : arP 1 l = true) (h : (l.filter (otP (ndL (dTop x y s l)))).length = 0) : srtI (ndL (dTop x y s l)) = choL x y s lot l := by
  unfold choL luck
  rw [List.length_eq_zero_iff.1 h]
  simp only [List.length_nil, Nat.mod_zero, List.getElem?_nil]
  exact ch_none (arP_ris ha).1 (fun p hp => ((arP_ris ha).2 p hp).1) _
theorem cho_some {x y : Int} {s lot : Nat} {l : List Pr} (ha : arP 1 l = true) (h : lot % (l.filter (otP (ndL (dTop x y s l)))).length < (l.filter (otP (ndL (dTop x y s l)))).length) :
    srtI (ndL (dTop x y s l) ++ [((l.filter (otP (ndL (dTop x y s l))))[lot % (l.filter (otP (ndL (dTop x y s l)))).length]).nd]) = choL x y s lot l := by
  unfold choL luck
  rw [List.getElem?_eq_getElem h]
  simp only
  exact ch_some (arP_ris ha).1 _ (List.getElem_mem h)
/-- what Choose leaves -/
structure ChoR (w : World) (v : Value) (t : List Int) (w' : World) : Prop where
  ints : ∃ a c, v = .slice a t.length c ∧ Ints w' a t
  be : Below w.heap.size w w'
set_option maxRecDepth 100000 in
set_option maxHeartbeats 4000000 in
theorem choose_bad (a0 : Option Addr) (l : List Pr) (c : Nat) (s lot x y : Int) (w : World) (hl : PrsAt w a0 l) (hm : l.length ≤ maxLen) (hb : (decide (0 ≤ s ∧ s ≤ 8) && okP x y && arP 1 l) = false) :
    Calls Try.prog 9 #[.slice a0 l.length c, .int .i64 s, .int .i64 lot, rv x y] w fun e w' => e = badTop ∧ Below w.heap.size w w' := by
  have hb0 : Below w.heap.size w (w.alloc (.cells #[.int .i64 x, .int .i64 y] 24)) := (Below.refl _ w).alloc (Nat.le_refl _) _
  have HT := hide (top_bad a0 l c s x y _ (hl.up hb0) hm hb)
  have B0 := hide hb0
  have f0 := (two_alloc w (.int .i64 x) (.int .i64 y) 24).c0
  have f1 := (two_alloc w (.int .i64 x) (.int .i64 y) 24).c1
  clear hl hm hb hb0
  generalize l.length = m at *
  unfold rv badTop at *
  go_enter Try.func9, Try.ntmps9
  go_wp2_with fail
  refine (unhide HT).mono ?_
  rintro e w1 ⟨rfl, b1⟩
  have B1 := hide (((unhide B0).trans (b1.mono (unhide B0).size)).alloc (by have := (unhide B0).size; have := b1.size; omega) (.cells #[.slice none 0 0] 29))
  clear b1 f0 f1
  go_wp2
  go_ret2
  exact ⟨rfl, unhide B1⟩
set_option maxRecDepth 100000 in
set_option maxHeartbeats 4000000 in
theorem choose_neg (a0 : Option Addr) (l : List Pr) (c s : Nat) (lot x y : Int) (w : World) (hl : PrsAt w a0 l) (hm : l.length ≤ 1000) (hs : s ≤ 8) (hp : okP x y = true) (ha : arP 1 l = true) (hn : lot < 0) :
    Calls Try.prog 9 #[.slice a0 l.length c, .int .i64 s, .int .i64 lot, rv x y] w fun e w' => e = badTop ∧ Below w.heap.size w w' := by
  have hb0 : Below w.heap.size w (w.alloc (.cells #[.int .i64 x, .int .i64 y] 24)) := (Below.refl _ w).alloc (Nat.le_refl _) _
  have HT := hide (top_good a0 l c s x y _ (hl.up hb0) hm hs hp ha)
  have B0 := hide hb0
  have f0 := (two_alloc w (.int .i64 x) (.int .i64 y) 24).c0
  have f1 := (two_alloc w (.int .i64 x) (.int .i64 y) 24).c1
  clear hl hm hb0 hs hp ha
  generalize ndL (dTop x y s l) = t at *
  generalize l.length = m at *
  unfold rv badTop at *
  go_enter Try.func9, Try.ntmps9
  go_wp2_with fail
  refine (unhide HT).mono ?_
  rintro e w1 ⟨v, rfl, h1⟩
  obtain ⟨a1, c1, rfl, _, _, _⟩ := OwnI.ints h1.own
  have B1 := hide (((unhide B0).trans (h1.be.mono (unhide B0).size)).alloc (by have := (unhide B0).size; have := h1.be.size; omega) (.cells #[.slice a1 t.length c1] 29))
  clear h1 f0 f1
  generalize t.length = tl at *
  go_wp2
  go_ret2
  exact ⟨rfl, unhide B1⟩
set_option maxRecDepth 100000 in
set_option maxHeartbeats 4000000 in
theorem choose_good (a0 : Option Addr) (l : List Pr) (c s lot : Nat) (x y : Int) (w : World) (hl : PrsAt w a0 l) (hm : l.length ≤ 1000) (hs : s ≤ 8) (hp : okP x y = true) (ha : arP 1 l = true) :
    Calls Try.prog 9 #[.slice a0 l.length c, .int .i64 s, .int .i64 lot, rv x y] w fun e w' => ∃ v, e = .returned (.tuple #[v, .int .i64 0]) ∧ ChoR w v (choL x y s lot l) w' := by
  have hb0 : Below w.heap.size w (w.alloc (.cells #[.int .i64 x, .int .i64 y] 24)) := (Below.refl _ w).alloc (Nat.le_refl _) _
  have HT := hide (top_good a0 l c s x y _ (hl.up hb0) hm hs hp ha)
  have B0 := hide hb0
  have f0 := (two_alloc w (.int .i64 x) (.int .i64 y) 24).c0
  have f1 := (two_alloc w (.int .i64 x) (.int .i64 y) 24).c1
  have HN := hide (fun h => cho_none (x := x) (y := y) (s := s) (lot := lot) ha h)
  have HS := hide (fun h => cho_some (x := x) (y := y) (s := s) (lot := lot) ha h)
  have HTL : Hid ((ndL (dTop x y s l)).length ≤ 1000) := by
    show _ ≤ _
    unfold ndL dTop
    rw [List.length_map]
    exact Nat.le_trans (List.length_filter_le _ _) hm
  clear hb0 hs hp ha
  generalize ndL (dTop x y s l) = t at *
  generalize choL x y s lot l = R at *
  have HL := hide hl
  have HM := hide hm
  have HTh := hide (fun g b0 d W (hW : Below w.heap.size w W) (h1 : W.cell? ⟨g, 0, none⟩ = some (.slice b0 t.length d)) (hI : Ints W b0 t) => those_ch g a0 l c (otP t) W (hl.up hW) (by omega) (fun p _ W' h' => ch1_any g b0 t d p W' (cell_below h1 h') (hI.up h') (by have := unhide HTL; omega)))
  obtain ⟨O, hO⟩ : ∃ O, O = l.filter (otP t) := ⟨_, rfl⟩
  rw [← hO] at HN HS HTh
  have HOL : Hid (O.length ≤ 1000) := by
    show _ ≤ _
    rw [hO]
    exact Nat.le_trans (List.length_filter_le _ _) hm
  clear hl hm hO
  generalize l.length = m at *
  obtain ⟨tl, htl⟩ : ∃ tl, tl = t.length := ⟨_, rfl⟩
  rw [← htl] at HTh HTL
  have HTT := hide htl
  clear htl
  unfold rv at *
  go_enter Try.func9, Try.ntmps9
  go_wp2_with fail
  refine (unhide HT).mono ?_
  rintro e w1 ⟨v, rfl, h1⟩
  have hv1 := h1.own
  obtain ⟨a1, c1, rfl, hI1, hc1, _⟩ := OwnI.ints h1.own
  rw [← unhide HTT] at hv1 hc1 ⊢
  have HV := hide hv1
  clear hv1
  have HI1 := hide hI1
  have B1 := hide ((unhide B0).trans (h1.be.mono (unhide B0).size))
  clear h1 f0 f1 hI1 hc1 HT
  have ho := one_alloc w1 (.slice a1 tl c1) 29
  have hb1 : Below w1.heap.size w1 (w1.alloc (.cells #[.slice a1 tl c1] 29)) := (Below.refl _ w1).alloc (Nat.le_refl _) _
  have B2 := hide ((unhide B1).trans (hb1.mono (unhide B1).size))
  have HX := hide (unhide HTh w1.heap.size a1 c1 _ (unhide B2) ho.c0 ((unhide HI1).up hb1))
  have HO2 := hide ho
  have HV2 := hide (own_i_up (unhide HV) hb1)
  clear ho hb1 HI1 HTh
  go_wp2_with fail
  refine (unhide HX).mono ?_
  rintro e w3 ⟨v3, rfl, o3, b3⟩
  obtain ⟨a3, c3, rfl, hc3, p3⟩ := ownPt_cap o3
  have P3 := hide p3
  have HO3 := hide ((unhide HO2).up b3)
  have HV3 := hide (own_i_up (unhide HV2) b3)
  have B3 := hide ((unhide B2).trans (b3.mono (unhide B2).size))
  have hob : w1.heap.size < w3.heap.size := (unhide HO3).lt
  have HVB : Hid (∀ k, (Value.slice a1 tl c1).ownBlock = some k → k < w1.heap.size) := fun k hk => by
    rcases (unhide HV).2 with ⟨h4, _⟩ | ⟨g, cap, cur, h4, h5, h6, _⟩
    · rw [h4] at hk; cases hk
    · rw [h4] at hk; cases hk; exact lt_of_block h6
  have oc := (unhide HO3).c0
  clear o3 p3 hc3 b3 HO2 HV2 HX B2 HV
  obtain ⟨n, hn⟩ : ∃ n, n = O.length := ⟨_, rfl⟩
  rw [← hn] at HN HOL ⊢
  have HS2 : Hid (∀ p, O[lot % n]? = some p → srtI (t ++ [p.nd]) = R) := fun p hp => by
    rw [hn] at hp
    obtain ⟨h1, rfl⟩ := List.getElem?_eq_some_iff.1 hp
    exact unhide HS h1
  have HNN := hide hn
  clear hn HS
  have qL : ¬ (lot : Int) < 0 := by omega
  rcases Nat.eq_zero_or_pos n with hz | hz
  · subst hz
    have HSo := hide (sortI_own w3 w.heap.size (.slice a1 tl c1) t (own_i_le (unhide HV3) (by have := (unhide B0).size; omega)) (by have := unhide HTL; have := unhide HTT; omega))
    go_wp2_with fail
    refine (unhide HSo).mono ?_
    rintro e w4 ⟨rfl, h4⟩
    have HO4 : Hid (One w4 w1.heap.size (.slice a1 tl c1) 29) := (h4.oth w1.heap.size hob (fun e => by have := unhide HVB _ e; omega)).trans (unhide HO3)
    have oc4 := (unhide HO4).c0
    have HR : Hid (ChoR w (.slice a1 tl c1) R w4) := by
      obtain ⟨a, cc, e1, e2⟩ := h4.ints
      rw [unhide HN trivial] at e2
      refine ⟨⟨a, cc, ?_, e2⟩, (unhide B3).trans (h4.be)⟩
      rw [e1, ← unhide HN trivial, srtI_len]
    clear h4 oc
    go_wp2_with fail
    go_ret2
    exact ⟨_, rfl, unhide HR⟩
  · have hkn : lot % n < n := Nat.mod_lt _ hz
    obtain ⟨e, he⟩ : ∃ e, O[lot % n]? = some e := ⟨_, List.getElem?_eq_getElem (by rw [← unhide HNN]; exact hkn)⟩
    obtain ⟨g, o, rfl, hgl, hra⟩ := prs_range (unhide P3) (Below.refl _ w3) he
    have HE := hide (unhide HS2 e he)
    have hmod : Int.tmod (lot : Int) (n : Int) = ((lot % n : Nat) : Int) := (Int.ofNat_tmod lot n).symm
    generalize lot % n = k at *
    clear he HS2 HN
    have hnd : w3.cell? ⟨g, o + k * 10, none⟩ = some (.int .i64 e.nd) := hra 0 _ rfl
    have HND := hide hnd
    have q1 : (0 : Int) < n := by omega
    have q2 : ¬ (n : Int) = 0 := by omega
    have q3 : ((k : Nat) : Int) < n := by omega
    have HW1 : Hid (w.heap.size ≤ w1.heap.size) := (by have := (unhide B0).size; have := (unhide B1).size; omega : w.heap.size ≤ w1.heap.size)
    generalize e.nd = en at *
    clear hra hnd hgl P3
    go_wp2_with fail
    refine wp_region_eff [false, false, false, false, false, false, false, false, false, true, true, true] [] 9 ?A0 _ _ (by kernel_rfl) (by kernel_rfl) rfl ?lex ?free ?_
    case lex =>
      intro X
      have hneX := gb_ne X.w
      have d0 : ∀ z : Gb X.w, z.w.cell? ⟨w1.heap.size, 0, none⟩ = some (.slice a1 tl c1) := fun z => gb_cell (cell_below (unhide HO3).c0 X.ok) z
      have d1 : ∀ z : Gb X.w, z.w.cell? ⟨g, o + k * 10, none⟩ = some (.int .i64 en) := fun z => gb_cell (cell_below (unhide HND) X.ok) z
      dsimp only [restM]
      repeat (go_big_quiet_step (fail))
      refine wpQuiet_nil ?_
      exact rfl
    case free => intro j hj; exact absurd hj (List.not_mem_nil)
    intro w5 b5
    have HO5 := hide ((unhide HO3).up b5)
    have HV5 := hide (own_i_up (unhide HV3) b5)
    have B5 := hide ((unhide B3).trans (b5.mono (unhide B3).size))
    have hV6 : ∀ ob, (w5.alloc ob).ownsRow w.heap.size 3 1 (.slice a1 tl c1) tl (ic t) := fun ob => by
      have h := own_i_le (own_i_up (unhide HV5) ((Below.refl w5.heap.size w5).alloc (Nat.le_refl _) ob)) (show w.heap.size ≤ _ by have := (unhide B0).size; omega)
      unfold OwnI at h
      rw [← unhide HTT] at h
      exact h
    have HV6 := hide hV6
    have hob5 : w1.heap.size < w5.heap.size := (unhide HO5).lt
    have hw1 := unhide HW1
    have htl := unhide HTL
    obtain ⟨k0, hki, hkz0, hkz1, hkz2⟩ := info_parts Try.infoI
    clear b5 hV6 HO3 HV3 B3 HND hmod oc
    go_wp2_with fail
    refine onlyN ⟨(Below.refl _ _).alloc (Nat.le_refl _) _, ?_⟩
    dsimp only [effM]
    go_wp2_with (at_builtin; refine wpList_append_lies _ rfl _ _ 29 rfl w.heap.size 3 k0 (.int .i64 0) 1 8 Try.undI hki hkz0 hkz1 hkz2 rfl (by decide) (.slice a1 tl c1) tl (ic t) rfl (unhide HV6 _) ⟨w5.heap.size, 0, none⟩ 1 1 [.int .i64 en] rfl rfl (news_lit w5 [.int .i64 en] 3) ?d2 (by decide) ?d3 ?d4 ?d5 (w5.heap.size + 1) ?d6 ?_)
    case d2 => intro u hu; simp at hu; subst hu; rfl
    case d3 => unfold maxLen; omega
    case d4 => omega
    case d5 => simp; omega
    case d6 => simp
    intro g7 cap7 w7 hown hgrow hl hgb
    have hO7 : One w7 w1.heap.size (.slice a1 tl c1) 29 := by
      refine (hgrow.block _ (by simp; omega) (fun e => by have := unhide HVB _ e.symm; omega)).trans ?_
      rw [Below.heap_alloc _ _ _ (by omega)]
      exact unhide HO5
    have hne : g7 ≠ w1.heap.size := by
      rcases hl with h | h
      · have := unhide HVB _ h; omega
      · omega
    have hown2 : OwnI (w7.setCell ⟨w1.heap.size, 0, none⟩ (.slice (some ⟨g7, 0, none⟩) (tl + 1) cap7)) w.heap.size (.slice (some ⟨g7, 0, none⟩) (tl + 1) cap7) (t ++ [en]) := by
      have h := ownsRow_setCell_other hown (a := ⟨w1.heap.size, 0, none⟩) (fun e => hne (by cases e; rfl)) (.slice (some ⟨g7, 0, none⟩) (tl + 1) cap7)
      show World.ownsRow _ _ _ _ _ _ _
      rw [List.length_append, ← unhide HTT, show ic (t ++ [en]) = ic t ++ [.int .i64 en] by simp [ic]]
      exact h
    have hO8 : One (w7.setCell ⟨w1.heap.size, 0, none⟩ (.slice (some ⟨g7, 0, none⟩) (tl + 1) cap7)) w1.heap.size (.slice (some ⟨g7, 0, none⟩) (tl + 1) cap7) 29 := heap_setCell_same w7 w1.heap.size 0 _ 29 _ hO7
    have HB8 : Hid (Below w.heap.size w (w7.setCell ⟨w1.heap.size, 0, none⟩ (.slice (some ⟨g7, 0, none⟩) (tl + 1) cap7))) := by
      refine below_set0 ?_ hw1 _
      exact ((unhide B5).alloc (by omega) (.cells #[.int .i64 en] 3)).grown hgrow (by simp; omega) (fun q hq => by
        have := own_i_ge (own_i_le (unhide HV5) (show w.heap.size ≤ _ by have := (unhide B0).size; omega)) hq
        omega)
    have HO8 := hide hO8
    have HSo := hide (sortI_own _ w.heap.size (.slice (some ⟨g7, 0, none⟩) (tl + 1) cap7) (t ++ [en]) hown2 (by rw [List.length_append, ← unhide HTT]; simp; omega))
    have f7 := hO7.free
    have e7 := hO7.c0
    have hl7 : w1.heap.size < w7.heap.size := hO7.lt
    clear hown hgrow hl hO7 hown2 hO8 HV6 HO5 HV5 B5
    go_wp2_with fail
    refine onlyN ?_
    have e8 := (unhide HO8).c0
    have hsz8 : (w7.setCell ⟨w1.heap.size, 0, none⟩ (.slice (some ⟨g7, 0, none⟩) (tl + 1) cap7)).heap.size = w7.heap.size := by simp
    have hl8 := (unhide HO8).lt
    generalize w7.setCell ⟨w1.heap.size, 0, none⟩ (.slice (some ⟨g7, 0, none⟩) (tl + 1) cap7) = w8 at *
    clear f7 e7 hl7 hsz8
    go_wp2_with fail
    refine (unhide HSo).mono ?_
    rintro e w9 ⟨rfl, h9⟩
    have HO9 : Hid (One w9 w1.heap.size (.slice (some ⟨g7, 0, none⟩) (tl + 1) cap7) 29) := (h9.oth w1.heap.size hl8 (fun e => hne (by cases e; rfl))).trans (unhide HO8)
    have oc9 := (unhide HO9).c0
    have HR : Hid (ChoR w (.slice (some ⟨g7, 0, none⟩) (tl + 1) cap7) R w9) := by
      obtain ⟨a, cc, e1, e2⟩ := h9.ints
      rw [unhide HE] at e2
      refine ⟨⟨a, cc, ?_, e2⟩, (unhide HB8).trans h9.be⟩
      rw [e1, ← unhide HE, srtI_len]
    clear h9 e8 HO8 HSo
    go_wp2_with fail
    go_ret2
    exact ⟨_, rfl, unhide HR⟩
end Go.Proofs.Ytjndgglbapghhaa

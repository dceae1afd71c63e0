/- Contract of merkle's Path. -/
import Derived.Test.YtiaohpkcncbdnabMkF
namespace Go.Proofs.Ytiaohpkcncbdnab
open Go.RowKit
set_option linter.unusedVariables false

/-- the path's error -/
def pathE (ss : List By) (i : Int) : Nat := if mayE ss = 0 then (if i < 0 ∨ (ss.length : Int) ≤ i then 1 else 0) else mayE ss
theorem mayE_cases (ss : List By) : mayE ss = 0 ∨ mayE ss = 1 ∨ mayE ss = 2 := by
  unfold mayE
  split
  · exact .inr (.inl rfl)
  split
  · exact .inr (.inr rfl)
  split
  · exact .inl rfl
  · exact .inr (.inr rfl)
theorem own_mono {w : World} {base base' n size : Nat} {e : TypeId} {v : Value} {xs : List Value} (h : w.ownsRow base e size v n xs) (hb : base' ≤ base) : w.ownsRow base' e size v n xs := by
  refine ⟨h.1, ?_⟩
  rcases h.2 with h2 | ⟨g, cap, cur, hv, hg, r⟩
  · exact .inl h2
  · exact .inr ⟨g, cap, cur, hv, Nat.le_trans hb hg, r⟩
/-- texts of the call's own -/
def OwnS (w : World) (base : Nat) (v : Value) (T : List By) : Prop := w.ownsRow base 9 1 v T.length (sc T)

set_option maxRecDepth 100000 in
theorem path_fault (ss : List By) (i : Int) (a0 : Option Addr) (c : Nat) (w : World) (hT : Txts w a0 ss) (h2 : ss.length ≤ 100000) (h3 : ∀ s ∈ ss, s.length ≤ 100000) (h0 : pathE ss i ≠ 0) :
    Calls Try.prog 17 #[.slice a0 ss.length c, .int .i64 i] w fun e w' => e = .returned (.tuple #[.slice none 0 0, .int .i64 (pathE ss i)]) ∧ Below w.heap.size w w' := by
  have hf := hide (fun w' (hb : Below w.heap.size w w') => fault_any ss a0 c w' (hT.below hb) h2 h3)
  clear hT h3
  rcases mayE_cases ss with hE | hE
  · have hp : pathE ss i = if i < 0 ∨ (ss.length : Int) ≤ i then 1 else 0 := by unfold pathE; rw [if_pos hE]
    rw [hp] at h0 ⊢
    rw [hE] at hf
    have hor : i < 0 ∨ (ss.length : Int) ≤ i := by
      by_cases h : i < 0 ∨ (ss.length : Int) ≤ i
      · exact h
      · rw [if_neg h] at h0; exact absurd rfl h0
    rw [if_pos hor]
    clear hp h0 hE
    generalize ss.length = n at *
    by_cases hi : i < 0
    · clear hor
      go_enter Try.func17, Try.ntmps17
      go_wp2_with fail
      refine (unhide hf _ (Below.refl _ _)).mono ?_
      rintro e w1 ⟨rfl, rfl⟩
      go_wp2
      go_ret2
      exact ⟨rfl, Below.refl _ _⟩
    · have hi2 : (n : Int) ≤ i := by omega
      clear hor
      go_enter Try.func17, Try.ntmps17
      go_wp2_with fail
      refine (unhide hf _ (Below.refl _ _)).mono ?_
      rintro e w1 ⟨rfl, rfl⟩
      go_wp2
      go_ret2
      exact ⟨rfl, Below.refl _ _⟩
  · have hp : pathE ss i = mayE ss := by unfold pathE; rw [if_neg (by omega)]
    rw [hp] at h0 ⊢
    clear hp
    generalize mayE ss = E at *
    rcases hE with rfl | rfl
    all_goals
      go_enter Try.func17, Try.ntmps17
      go_wp2_with fail
      refine (unhide hf _ (Below.refl _ _)).mono ?_
      rintro e w1 ⟨rfl, rfl⟩
      go_wp2
      go_ret2
      exact ⟨rfl, Below.refl _ _⟩

set_option maxRecDepth 100000 in
set_option maxHeartbeats 2000000 in
theorem path_any (ss : List By) (i : Nat) (a0 : Option Addr) (c : Nat) (w : World) (hT : Txts w a0 ss) (h0 : mayE ss = 0) (hi : i < ss.length) :
    Calls Try.prog 17 #[.slice a0 ss.length c, .int .i64 i] w fun e w' => ∃ v, e = .returned (.tuple #[v, .int .i64 0]) ∧ OwnS w' w.heap.size v (way shaSum (ss.map (leafP shaSum)) i) ∧ Below w.heap.size w w' := by
  obtain ⟨i0, hi0, hz0, hz1, hz2⟩ := info_parts Try.infoS
  obtain ⟨x1, x2, x3⟩ := mayE_ok h0
  have hf := hide (fun w' (hb : Below w.heap.size w w') => fault_any ss a0 c w' (hT.below hb) (by omega) (fun s hs => by have := x3 s hs; omega))
  rw [h0] at hf
  have hlv := hide (fun w' (hb : Below w.heap.size w w') => levels_any (Bq := 0) ss a0 c w' (Nat.zero_le _) (hT.below hb) x1 x2 x3)
  generalize hP : ss.map (leafP shaSum) = ps at *
  have hpl : ps.length = ss.length := by rw [← hP]; simp
  clear hT x3 hP h0
  generalize hn : ss.length = n at *
  have HN := hide hn
  clear hn
  have q0 : ¬ (i : Int) < 0 := by omega
  have q1 : ¬ (n : Int) ≤ i := by omega
  go_enter Try.func17, Try.ntmps17
  go_wp2_with fail
  refine (unhide hf _ (Below.refl _ _)).mono ?_
  rintro e w1 ⟨rfl, rfl⟩
  go_wp2_with fail
  refine (unhide hlv _ (Below.refl _ _)).mono ?_
  rintro e w2 ⟨v, d, rfl, ⟨vs, hown, hvl, hv⟩, hd1, hdj, b2⟩
  have h9 : ps.length ≤ 2 ^ 8 := by omega
  have e8 := abvN_tree shaSum 8 ps (by omega) h9
  have hd8 : d ≤ 8 := by
    rcases Nat.lt_or_ge 8 d with h | h
    · have := hdj 8 h
      rw [e8] at this
      simp at this
    · exact h
  rcases hown.2 with ⟨_, h0'⟩ | ⟨gl, cap', cur, rfl, _⟩
  · cases h0'
  have hcell : Hid (∀ j, j < d + 1 → ∃ aj cj, w2.cell? ⟨gl, j, none⟩ = some (.slice aj (abvN shaSum j ps).length cj) ∧ LvlAt 0 w2 aj (abvN shaSum j ps)) := by
    intro j hj
    obtain ⟨aj, cj, z1, z2, _⟩ := hv j hj
    exact ⟨aj, cj, (hown.cellAt j (by omega)).trans z1, z2⟩
  have hway : Hid (pathN shaSum (d + 1) ps i = way shaSum ps i) := by
    show _ = _
    refine pathN_way shaSum (d + 1) ps i (by omega) ?_
    rcases Nat.lt_or_ge (2 ^ (d + 1)) ps.length with h | h
    · have := cl_gt (d + 1) _ h
      rw [abvN_length] at hd1
      rw [cl, hd1] at this
      omega
    · exact h
  have HB2 := hide b2
  clear hown hvl hv hd1 hdj e8 b2 hf hlv
  go_wp2_with fail
  go_loopw [1, 7, 28] (fun iv v jv wr => ∃ j : Nat, j ≤ d + 1 ∧ iv = .int .i64 ((i / 2 ^ j : Nat) : Int) ∧ jv = .int .i64 j ∧ OwnS wr w2.heap.size v (pathN shaSum j ps i) ∧ Below w2.heap.size w2 wr ∧ (pathN shaSum j ps i).length ≤ j) (fun _ _ jv _ => d + 1 - (intOf jv).toNat)
  case atStart => exact ⟨0, Nat.zero_le _, by simp, rfl, World.ownsRow_nil _ _ _ _, Below.refl _ _, by simp [pathN]⟩
  case round =>
    obtain ⟨j, hj, rfl, rfl, hO, hb, hle⟩ := hrel
    obtain ⟨ao, cp, rfl⟩ := own_shapeN hO
    have hz := hb.size
    have hz2' := (unhide HB2).size
    by_cases hlt : j < d + 1
    · obtain ⟨aj, cj, z1, z2⟩ := unhide hcell j hlt
      have zc := cell_below z1 hb
      have zl := z2.below hb
      have hm : (abvN shaSum j ps).length ≤ 256 := by rw [abvN_length]; exact Nat.le_trans (cl_le _ _) (by omega)
      have hI : i / 2 ^ j < 256 := Nat.lt_of_le_of_lt (Nat.div_le_self _ _) (by omega)
      have hstep : Hid (pathN shaSum (j + 1) ps i = pathN shaSum j ps i ++ stepP (abvN shaSum j ps) (i / 2 ^ j)) := rfl
      have hI2 : Hid (i / 2 ^ (j + 1) = i / 2 ^ j / 2) := by
        show _ = _
        rw [Nat.pow_succ, Nat.div_div_eq_div_mul]
      have q2 : (j : Int) < (d : Int) + 1 := by omega
      obtain ⟨I2, hI2e⟩ : ∃ I2, I2 = i / 2 ^ j / 2 := ⟨_, rfl⟩
      rw [← hI2e] at hI2
      have hI2b : I2 < 256 := by omega
      have hpa := hide (fun w => partner_any (abvN shaSum j ps).length (i / 2 ^ j) w (by omega) (by omega))
      by_cases hlt2 : pt (i / 2 ^ j) < (abvN shaSum j ps).length
      · obtain ⟨g, t0, c0, rfl, y0, yy⟩ := zl (pt (i / 2 ^ j)) hlt2
        clear yy
        have hst : stepP (abvN shaSum j ps) (i / 2 ^ j) = [((abvN shaSum j ps)[pt (i / 2 ^ j)]).1] := by
          unfold stepP
          rw [List.getElem?_eq_getElem hlt2]
        rw [hst] at hstep
        clear hst zl z2
        rw [show decide (pt (i / 2 ^ j) < (abvN shaSum j ps).length) = true from decide_eq_true hlt2] at hpa
        generalize ((abvN shaSum j ps)[pt (i / 2 ^ j)]).1 = R at *
        generalize (abvN shaSum j ps).length = m at *
        generalize hI' : i / 2 ^ j = I at *
        generalize hJ' : pt I = J at *
        have q3 : (J : Int) < m := by omega
        have hq : (I : Int).tdiv 2 = I2 := by rw [hI2e]; rfl
        generalize hY : pathN shaSum j ps i = Y at *
        have HO := hide hO
        have HB := hide hb
        unfold OwnS at hO
        clear z1 hI' hJ' hb hI2e hY
        go_wp2_with fail
        refine (unhide hpa _).mono ?_
        rintro e w4 ⟨rfl, rfl⟩
        go_wp2_with (at_builtin; refine wpList_append_own _ rfl _ _ 22 rfl w2.heap.size 9 i0 (.string ⟨#[]⟩) 1 16 Try.undS hi0 hz0 hz1 hz2 rfl (by decide) _ _ _ rfl (hO.alloc _) ⟨wr.heap.size, 0, none⟩ 1 1 [.string (bs R)] rfl ?c0 (news_one' _ _ _) ?c2 ?c3 ?c4 ?c5 ?_)
        case c0 => rfl
        case c2 => intro u hu; simp at hu; subst hu; rfl
        case c3 => unfold maxLen; omega
        case c4 => omega
        case c5 => simp; omega
        intro v' w7 hown7 hgrow7 _
        obtain ⟨ao', cp', rfl⟩ := own_shapeN hown7
        have bA : Below wr.heap.size wr (wr.alloc (.cells #[.string (bs R)] 9)) := (Below.refl _ _).alloc (Nat.le_refl _) _
        have H7 : Hid (OwnS w7 w2.heap.size (.slice ao' (Y.length + 1) cp') (pathN shaSum (j + 1) ps i)) := by
          show World.ownsRow _ _ _ _ _ _ _
          rw [unhide hstep, sc_append, List.length_append]
          exact hown7
        have B7 := hide (((unhide HB).trans (bA.mono hz)).grown hgrow7 (by have := bA.size; omega) (fun q hq => (((unhide HO).lt q hq).1)))
        have hle2 : (pathN shaSum (j + 1) ps i).length ≤ j + 1 := by rw [unhide hstep, List.length_append]; exact Nat.succ_le_succ hle
        clear hown7 hgrow7 bA HO HB hpa hO
        go_wp2
        go_roundw
        case rel => exact ⟨j + 1, by omega, by rw [unhide hI2], by go_num, unhide H7, unhide B7, hle2⟩
        case measure => simp [intOf]; omega
      · have hst : stepP (abvN shaSum j ps) (i / 2 ^ j) = [] := by
          unfold stepP
          rw [List.getElem?_eq_none (by omega)]
        rw [hst, List.append_nil] at hstep
        rw [show decide (pt (i / 2 ^ j) < (abvN shaSum j ps).length) = false from decide_eq_false hlt2] at hpa
        clear hst zl z2
        generalize (abvN shaSum j ps).length = m at *
        generalize hI' : i / 2 ^ j = I at *
        generalize hJ' : pt I = J at *
        have hq : (I : Int).tdiv 2 = I2 := by rw [hI2e]; rfl
        have H7 : Hid (OwnS wr w2.heap.size (.slice ao (pathN shaSum j ps i).length cp) (pathN shaSum (j + 1) ps i)) := by
          show OwnS _ _ _ _
          rw [unhide hstep]
          exact hO
        have hle2 : (pathN shaSum (j + 1) ps i).length ≤ j + 1 := by rw [unhide hstep]; exact Nat.le_trans hle (Nat.le_succ j)
        generalize hY : pathN shaSum j ps i = Y at *
        have HB := hide hb
        clear z1 hI' hJ' hb hI2e hY hO
        go_wp2_with fail
        refine (unhide hpa _).mono ?_
        rintro e w4 ⟨rfl, rfl⟩
        go_wp2
        go_roundw
        case rel => exact ⟨j + 1, by omega, by rw [unhide hI2], by go_num, unhide H7, unhide HB, hle2⟩
        case measure => simp [intOf]; omega
    · have hjd : j = d + 1 := by omega
      subst hjd
      rw [unhide hway] at hO hle
      have HO := hide hO
      have HB := hide ((unhide HB2).trans (hb.mono (unhide HB2).size))
      have q2 : ¬ ((d : Int) + 1) < (d : Int) + 1 := by omega
      rw [unhide hway]
      generalize i / 2 ^ (d + 1) = I at *
      clear hO hb
      go_wp2
      go_ret2
      exact ⟨_, rfl, own_mono (unhide HO) (unhide HB2).size, unhide HB⟩

end Go.Proofs.Ytiaohpkcncbdnab

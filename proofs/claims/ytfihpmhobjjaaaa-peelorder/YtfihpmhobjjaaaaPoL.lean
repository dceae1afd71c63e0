/- The law PeelOrder, walked. -/
import Derived.Test.YtfihpmhobjjaaaaPoA
namespace Go.Proofs.Ytfihpmhobjjaaaa
open Go.RowKit
set_option linter.unusedVariables false
attribute [local go_sem] Oper.semAt_some

theorem Try.infoIs : (Try.prog.info? 23).map (fun i => (i.zero, i.size, i.bytes)) = some (some (.slice none 0 0), 1, 24) := by kernel_rfl
theorem Try.undIs : Try.prog.underlying 22 = some (.slice 23) := by kernel_rfl
theorem ints_own3 {w : World} {base l : Nat} {v : Value} {r : List Nat} (hl : r.length = l) (h : w.ownsRow base 3 1 v l (ic (zs r))) : ∃ a0 c, v = .slice a0 l c ∧ Ints w a0 (zs r) := by
  subst hl
  obtain ⟨a0, c, e, hi, h1, h2⟩ := OwnI.ints (l := zs r) (by show World.ownsRow _ _ _ _ _ _ _; rw [zs_length]; exact h)
  rw [zs_length] at e h1
  exact ⟨a0, c, e, hi⟩
theorem apart_turn {a b : Option Nat} (h : a = none ∨ a ≠ b) : b = none ∨ b ≠ a := by
  cases b with
  | none => exact .inl rfl
  | some y =>
    refine .inr ?_
    rcases h with h | h
    · rw [h]; simp
    · exact fun e => h e.symm
set_option maxRecDepth 100000 in
set_option maxHeartbeats 1000000 in
theorem peelOrder_off (n : Int) (Rs : List (List Int)) (Ks : List Int) (a0 k0 : Option Addr) (c kc : Nat) (hk : Rs.length ≤ maxLen) (hk2 : ∀ r ∈ Rs, r.length ≤ maxLen) (hk3 : Ks.length ≤ maxLen) (w : World) (hI : RowsA w a0 Rs) (hK : Ints w k0 Ks) (hno : (fewB n Rs && fewB n [Ks]) = false ∨ Rs.length = 0) :
    Calls Try.prog 5 #[.int .i64 n, .slice a0 Rs.length c, .slice k0 Ks.length kc] w fun e w' => e = .returned (.bool true) ∧ Below w.heap.size w w' := by
  have hf := hide (pfew_any n Rs Ks a0 k0 c kc hk hk2 hk3 w hI hK)
  have haw := hide (fun W => pawake_any W)
  cases hfe : (fewB n Rs && fewB n [Ks]) with
  | false =>
    rw [hfe] at hf
    generalize Rs.length = m at *
    generalize Ks.length = l at *
    clear hI hK hno hfe
    go_enter Try.func5, Try.ntmps5
    go_wp2_with fail
    refine (unhide hf).mono ?_
    rintro e w1 ⟨rfl, b1⟩
    have B1 := hide b1
    clear b1
    go_wp2_with fail
    refine (unhide haw _).mono ?_
    rintro e w2 ⟨rfl, b2⟩
    have B2 := hide ((unhide B1).trans (b2.mono (unhide B1).size))
    clear b2
    go_wp2
    go_ret
    exact ⟨rfl, unhide B2⟩
  | true =>
    rw [hfe] at hf hno
    have h0 : Rs.length = 0 := by rcases hno with h | h; cases h; exact h
    rw [h0] at hf
    rw [h0]
    generalize Ks.length = l at *
    clear hI hK hno hfe h0 hk
    go_enter Try.func5, Try.ntmps5
    go_wp2_with fail
    refine (unhide hf).mono ?_
    rintro e w1 ⟨rfl, b1⟩
    have B1 := hide b1
    clear b1
    go_wp2_with fail
    refine (unhide haw _).mono ?_
    rintro e w2 ⟨rfl, b2⟩
    have B2 := hide ((unhide B1).trans (b2.mono (unhide B1).size))
    clear b2
    go_wp2
    go_ret
    exact ⟨rfl, unhide B2⟩
set_option maxRecDepth 100000 in
set_option maxHeartbeats 2000000 in
theorem peelOrder_on (n : Int) (Rs : List (List Int)) (Ks : List Int) (a0 k0 : Option Addr) (c kc : Nat) (hn : -9223372036854775808 ≤ n ∧ n ≤ 9223372036854775807) (hk2 : ∀ r ∈ Rs, r.length ≤ maxLen) (hk3 : Ks.length ≤ maxLen) (w : World) (hI : RowsK w a0 Rs) (hK : Ints w k0 Ks) (hfe : (fewB n Rs && fewB n [Ks]) = true) (h0 : 0 < Rs.length) :
    Calls Try.prog 5 #[.int .i64 n, .slice a0 Rs.length c, .slice k0 Ks.length kc] w fun e w' => e = .returned (.bool true) ∧ Below w.heap.size w w' := by
  obtain ⟨i0, hi0, hz0, hz1, hz2⟩ := info_parts Try.infoIs
  have h40 : Rs.length ≤ 40 := by
    rw [Bool.and_eq_true] at hfe
    have := hfe.1
    unfold fewB at this
    exact (of_decide_eq_true this).2.1
  have hf := pfew_any n Rs Ks a0 k0 c kc (by unfold maxLen; omega) hk2 hk3 w hI.rowsA hK
  rw [hfe] at hf
  have hf := hide hf
  have haw := hide (fun W => pawake_any W)
  obtain ⟨g, o, V, rfl, hV0, hV⟩ := rowV_of hI h0
  have hA := hide (fun W (hb : Below w.heap.size w W) => known_all n Rs Ks (some ⟨g, o, none⟩) k0 c kc hn (by unfold maxLen; omega) hk2 hk3 W (fun i hi => by
    obtain ⟨g', o', e, b, cc, h1, h2, h3⟩ := hI i hi
    exact ⟨g', o', e, b, cc, cell_below h1 hb, h2.below hb, h3⟩) (hK.below hb))
  have hP : Hid (∀ (f : Nat → Nat), (∀ j, j < Rs.length → f j < Rs.length) → (∀ i, i < Rs.length → ∃ j, j < Rs.length ∧ f j = i) → ∀ W b d, Below w.heap.size w W → RowsK W b (pickR Rs f Rs.length) → Calls Try.prog 12 #[.int .i64 n, .slice b Rs.length d, .slice k0 Ks.length kc] W fun e w' => ∃ v, e = .returned (.tuple #[v, .int .i64 (kEr n Rs Ks)]) ∧ w'.ownsRow W.heap.size 3 1 v (kNi n Rs Ks).length (ic (zs (kNi n Rs Ks))) ∧ Below W.heap.size W w') := fun f h1 h2 W b d hb hr => by
    have hl := pickR_len Rs f Rs.length
    have hm := pick_members h1 h2
    have := known_all n (pickR Rs f Rs.length) Ks b k0 d kc hn (by rw [hl]; unfold maxLen; omega) (fun r hr => hk2 r ((hm r).1 hr)) hk3 W hr (hK.below hb)
    rwa [kEr_order hl hm, kNi_order hl hm, hl] at this
  have hk160 := kNi_len (n := n) (Rs := Rs) (Ks := Ks)
  have HV := hide hV
  have HV0 := hide hV0
  generalize kEr n Rs Ks = er at *
  generalize kNi n Rs Ks = KN at *
  generalize hLA : KN.length = la at *
  have HLA := hide hLA
  generalize hm : Rs.length = m at *
  have HM := hide hm
  generalize Ks.length = l at *
  clear hI hK hfe hV hV0 hLA hm hk2
  have t4 : (m : Int).tdiv 4 = ((m / 4 : Nat) : Int) := by rw [Int.tdiv_eq_ediv_of_nonneg (by omega)]; omega
  have hm4 : m / 4 ≤ m := Nat.div_le_self _ _
  generalize m / 4 = m4 at *
  have qe : ((er : Int) == er) = true := by simp
  have q0 : ¬ ((m : Int) = 0) := by omega
  have q0' : ((m : Int) == 0) = false := by simp; omega
  go_enter Try.func5, Try.ntmps5
  go_wp2_with fail
  refine (unhide hf).mono ?_
  rintro e w1 ⟨rfl, b1⟩
  have B1 := hide b1
  clear b1
  go_wp2_with fail
  refine (unhide hA _ (unhide B1)).mono ?_
  rintro e w2 ⟨v, rfl, hO2, b2⟩
  obtain ⟨pa, pc, rfl, hi2⟩ := ints_own3 (unhide HLA) hO2
  have B2 := hide ((unhide B1).trans (b2.mono (unhide B1).size))
  have HI2 := hide hi2
  clear hO2 b2 hi2
  go_wp2_with fail
  go_loopw [9] (fun v wr => ∃ d : Nat, d ≤ 2 * m ∧ v = .int .i64 d ∧ Below w2.heap.size w2 wr) (fun v _ => m - (intOf v).toNat)
  case atStart => exact ⟨0, by omega, rfl, Below.refl _ _⟩
  case round =>
    obtain ⟨d, hd, rfl, hb⟩ := hrel
    have B3 := hide ((unhide B2).trans (hb.mono (unhide B2).size))
    by_cases hlt : d < m
    · have q1 : (d : Int) < m := by omega
      have HBR := hide hb
      clear hb
      generalize wr = w3 at *
      go_wp2_with fail
      go_loopw [10, 11, 12] (fun v u x wr' => ∃ k : Nat, k ≤ m ∧ x = .int .i64 k ∧ wr'.ownsRow w3.heap.size 23 1 v k ((List.range k).map fun j => V ((j + d) % m)) ∧ wr'.ownsRow w3.heap.size 23 1 u k ((List.range k).map fun j => V (m - 1 - (j + d) % m)) ∧ (v.ownBlock = none ∨ v.ownBlock ≠ u.ownBlock) ∧ Below w3.heap.size w3 wr') (fun _ _ x _ => m - (intOf x).toNat)
      case atStart => exact ⟨0, by omega, rfl, World.ownsRow_nil _ _ _ _, World.ownsRow_nil _ _ _ _, .inl rfl, Below.refl _ _⟩
      case round =>
        obtain ⟨k, hk, rfl, hO1, hO2, hap, hbk⟩ := hrel
        obtain ⟨ta, tc, rfl⟩ := own_shape2 hO1
        obtain ⟨ua, uc, rfl⟩ := own_shape2 hO2
        by_cases hkl : k < m
        · have q2 : (k : Int) < m := by omega
          have t1 : ((k : Int) + (d : Int)).tmod m = (((k + d) % m : Nat) : Int) := by rw [Int.tmod_eq_emod_of_nonneg (by omega)]; simp
          have hf1 := turn_lt (d := d) hkl
          have t2 : (m : Int) - 1 - (((k + d) % m : Nat) : Int) = ((m - 1 - (k + d) % m : Nat) : Int) := by omega
          have HR1 : Hid ((List.range (k + 1)).map (fun j => V ((j + d) % m)) = (List.range k).map (fun j => V ((j + d) % m)) ++ [V ((k + d) % m)]) := by show _ = _; rw [List.range_succ, List.map_append]; rfl
          have HR2 : Hid ((List.range (k + 1)).map (fun j => V (m - 1 - (j + d) % m)) = (List.range k).map (fun j => V (m - 1 - (j + d) % m)) ++ [V (m - 1 - (k + d) % m)]) := by show _ = _; rw [List.range_succ, List.map_append]; rfl
          have hbb := (unhide B3).trans (hbk.mono (unhide B3).size)
          have c1 : wr.cell? ⟨g, o + (k + d) % m, none⟩ = some (V ((k + d) % m)) := cell_below (unhide HV0 _ hf1) hbb
          have c2 : wr.cell? ⟨g, o + (m - 1 - (k + d) % m), none⟩ = some (V (m - 1 - (k + d) % m)) := cell_below (unhide HV0 _ (by omega)) hbb
          obtain ⟨vb, vc, ve, _⟩ := (unhide HV).is ((k + d) % m) (by rw [unhide HM]; exact hf1)
          obtain ⟨xb, xc, xe, _⟩ := (unhide HV).is (m - 1 - (k + d) % m) (by rw [unhide HM]; omega)
          rw [ve] at c1 HR1
          rw [xe] at c2 HR2
          clear ve xe
          generalize (k + d) % m = f1 at *
          generalize m - 1 - f1 = f2 at *
          have HO1 := hide hO1
          have HO2 := hide hO2
          have HAP := hide hap
          have HBK := hide hbk
          have hbks := hbk.size
          have q5 : (f1 : Int) < m := by omega
          have q6 : (f2 : Int) < m := by omega
          have hf2 : f2 < m := by omega
          clear hO1 hO2 hap hbk hbb
          go_wp2_with (at_builtin; refine wpList_append_lies _ rfl _ _ 22 rfl w3.heap.size 23 i0 (.slice none 0 0) 1 24 Try.undIs hi0 hz0 hz1 hz2 rfl (by decide) _ _ _ rfl ((unhide HO1).alloc _) ⟨wr.heap.size, 0, none⟩ 1 1 [.slice vb (gtR Rs f1).length vc] ?cx rfl ?cn ?c2 (by omega) ?c3 ?c4 ?c5 _ rfl ?_)
          case cn => exact news_lit wr [.slice vb (gtR Rs f1).length vc] 23
          case c2 => intro u hu; simp at hu; rw [hu]; rfl
          case c3 => unfold maxLen; omega
          case c4 => omega
          case c5 => simp; omega
          all_goals try rfl
          intro g4 cap4 w4 hown4 hgrow4 hat4 hlt4
          have hu4 := ((unhide HO2).alloc (.cells #[.slice vb (gtR Rs f1).length vc] 23)).kept hgrow4 (apart_turn (unhide HAP))
          have hb4 : Below w3.heap.size wr w4 := ((Below.refl w3.heap.size _).alloc (by omega) _).grown hgrow4 (by simp; omega) (fun q hq => ((unhide HO1).lt q hq).1)
          have hne4 : (Value.slice ua k uc).ownBlock ≠ some g4 := by
            intro hu
            have hul := (unhide HO2).lt g4 hu
            rcases hat4 with h | h
            · rcases unhide HAP with h' | h'
              · rw [h'] at h; cases h
              · exact h' (by rw [h, hu])
            · omega
          have hbw : Below wr.heap.size wr w4 → True := fun _ => trivial
          have HB4 := hide ((unhide HBK).trans hb4)
          have hb4s := (unhide HB4).size
          have c2' : w4.cell? ⟨g, o + f2, none⟩ = some (.slice xb (gtR Rs f2).length xc) := by
            have hbb := (unhide B3).trans ((unhide HB4).mono (unhide B3).size)
            have := cell_below (unhide HV0 f2 hf2) hbb
            rw [this]
            have h2 := cell_below (unhide HV0 f2 hf2) ((unhide B3).trans ((unhide HBK).mono (unhide B3).size))
            rw [c2] at h2
            exact h2.symm
          have HO4 : Hid (w4.ownsRow w3.heap.size 23 1 (.slice (some ⟨g4, 0, none⟩) (k + 1) cap4) (k + 1) ((List.range (k + 1)).map fun j => V ((j + d) % m))) := by
            show World.ownsRow _ _ _ _ _ _ _
            rw [unhide HR1]
            exact hown4
          have HU4 := hide hu4
          have HNE4 := hide hne4
          clear hown4 hgrow4 hat4 hu4 hb4 hne4 hbw c1 c2
          go_wp2_with (at_builtin; refine wpList_append_lies _ rfl _ _ 22 rfl w3.heap.size 23 i0 (.slice none 0 0) 1 24 Try.undIs hi0 hz0 hz1 hz2 rfl (by decide) _ _ _ rfl ((unhide HU4).alloc _) ⟨w4.heap.size, 0, none⟩ 1 1 [.slice xb (gtR Rs f2).length xc] ?dx rfl ?dn ?d2 (by omega) ?d3 ?d4 ?d5 _ rfl ?_)
          case dn => exact news_lit w4 [.slice xb (gtR Rs f2).length xc] 23
          case d2 => intro u hu; simp at hu; rw [hu]; rfl
          case d3 => unfold maxLen; omega
          case d4 => omega
          case d5 => simp; omega
          all_goals try rfl
          intro g5 cap5 w5 hown5 hgrow5 hat5 hlt5
          have hv5 := ((unhide HO4).alloc (.cells #[.slice xb (gtR Rs f2).length xc] 23)).kept hgrow5 (.inr (fun e => (unhide HNE4) e.symm))
          have hb5 : Below w3.heap.size w4 w5 := ((Below.refl w3.heap.size _).alloc (by omega) _).grown hgrow5 (by simp; omega) (fun q hq => ((unhide HU4).lt q hq).1)
          have HNE5 : Hid ((Value.slice (some ⟨g4, 0, none⟩) (k + 1) cap4).ownBlock = none ∨ (Value.slice (some ⟨g4, 0, none⟩) (k + 1) cap4).ownBlock ≠ (Value.slice (some ⟨g5, 0, none⟩) (k + 1) cap5).ownBlock) := by
            refine .inr ?_
            intro e
            have e' : g4 = g5 := by simpa [Value.ownBlock] using e
            subst e'
            rcases hat5 with h | h
            · exact unhide HNE4 h
            · omega
          have HO5 : Hid (w5.ownsRow w3.heap.size 23 1 (.slice (some ⟨g5, 0, none⟩) (k + 1) cap5) (k + 1) ((List.range (k + 1)).map fun j => V (m - 1 - (j + d) % m))) := by
            show World.ownsRow _ _ _ _ _ _ _
            rw [unhide HR2]
            exact hown5
          have HV5 := hide hv5
          have HB5 := hide ((unhide HB4).trans hb5)
          clear hown5 hgrow5 hat5 hv5 hb5 c2'
          go_wp2
          go_roundw
          case rel => exact ⟨k + 1, by omega, by go_num, unhide HV5, unhide HO5, unhide HNE5, unhide HB5⟩
          case measure => simp [intOf]; omega
        · have hkm : k = m := by omega
          subst hkm
          have q2 : ¬ (k : Int) < k := by omega
          have hbb := (unhide B3).trans (hbk.mono (unhide B3).size)
          obtain ⟨ra, rc, re, hr1⟩ := rowsK_pick (Rs := Rs) hO1 ((unhide HV).below hbb) (fun j hj => by rw [unhide HM]; exact turn_lt hj)
          obtain ⟨sa, sc, se, hr2⟩ := rowsK_pick (Rs := Rs) hO2 ((unhide HV).below hbb) (fun j hj => by rw [unhide HM]; have := turn_lt (d := d) hj; omega)
          simp only [Value.slice.injEq, true_and] at re se
          obtain ⟨rfl, rfl⟩ := re
          obtain ⟨rfl, rfl⟩ := se
          have hp1 := hide (unhide hP (fun j => (j + d) % k) (fun j hj => turn_lt hj) (fun i hi => turn_onto hi))
          have hp2 := hide (unhide hP (fun j => k - 1 - (j + d) % k) (fun j hj => by omega) (fun i hi => back_onto hi))
          have HB5 := hide hbb
          have C5 := hide ((unhide HBR).trans (hbk.mono (unhide HBR).size))
          have HR1 := hide hr1
          have HR2 := hide hr2
          have HI5 := hide (((unhide HI2).below (unhide HBR)).below (hbk.mono (by
            exact Nat.le_refl _)))
          clear hO1 hO2 hap hbk hbb hr1 hr2
          go_wp2_with fail
          refine (unhide hp1 _ _ _ (unhide HB5) (unhide HR1)).mono ?_
          rintro e w6 ⟨v6, rfl, hO6, b6⟩
          obtain ⟨pa6, pc6, rfl, hi6⟩ := ints_own3 (unhide HLA) hO6
          have B6 := hide ((unhide HB5).trans (b6.mono (unhide HB5).size))
          have C6 := hide ((unhide C5).trans (b6.mono (unhide C5).size))
          have HI6 := hide hi6
          have HR2' : Hid (RowsK w6 ua (pickR Rs (fun j => k - 1 - (j + d) % k) k)) := fun i hi => by
            obtain ⟨g', o', e, b, cc, h1, h2, h3⟩ := unhide HR2 i hi
            exact ⟨g', o', e, b, cc, cell_below h1 b6, h2.below b6, h3⟩
          have HI5' := hide ((unhide HI5).below b6)
          clear hO6 b6 hi6
          go_wp2_with fail
          refine (unhide hp2 _ _ _ (unhide B6) (unhide HR2')).mono ?_
          rintro e w7 ⟨v7, rfl, hO7, b7⟩
          obtain ⟨pa7, pc7, rfl, hi7⟩ := ints_own3 (unhide HLA) hO7
          have B7 := hide ((unhide B6).trans (b7.mono (unhide B6).size))
          have C7 := hide ((unhide C6).trans (b7.mono (unhide C6).size))
          have h5 := (unhide HI5').below b7
          have h6 := (unhide HI6).below b7
          have hs1 : Hid (∀ W, Below w7.heap.size w7 W → Calls Try.prog 16 #[.slice pa la pc, .slice pa6 la pc6] W fun e w' => e = .returned (.bool true) ∧ Below W.heap.size W w') := fun W hb => by
            have := isame_any W (zs KN) pa pa6 pc pc6 (by rw [zs_length, unhide HLA]; omega) (h5.below hb) (h6.below hb)
            rwa [zs_length, unhide HLA] at this
          have hs2 : Hid (∀ W, Below w7.heap.size w7 W → Calls Try.prog 16 #[.slice pa la pc, .slice pa7 la pc7] W fun e w' => e = .returned (.bool true) ∧ Below W.heap.size W w') := fun W hb => by
            have := isame_any W (zs KN) pa pa7 pc pc7 (by rw [zs_length, unhide HLA]; omega) (h5.below hb) (hi7.below hb)
            rwa [zs_length, unhide HLA] at this
          clear hO7 b7 hi7 h5 h6
          go_wp2_with fail
          refine (unhide hs1 _ (Below.refl _ _)).mono ?_
          rintro e w8 ⟨rfl, b8⟩
          have B8 := hide b8
          clear b8
          go_wp2_with fail
          refine (unhide hs2 _ (unhide B8)).mono ?_
          rintro e w9 ⟨rfl, b9⟩
          have B9 := hide (((unhide C7).trans ((unhide B8).mono (unhide C7).size)).trans (b9.mono ((unhide C7).trans ((unhide B8).mono (unhide C7).size)).size))
          clear b9
          go_wp2
          case roundEnd =>
            refine ⟨⟨d + 1 + m4, by omega, by go_num, unhide B9⟩, ?_⟩
            simp [intOf]
            omega
    · have q1 : ¬ (d : Int) < m := by omega
      clear hb
      go_wp2_with fail
      refine (unhide haw _).mono ?_
      rintro e w7 ⟨rfl, b7⟩
      have B7 := hide ((unhide B3).trans (b7.mono (unhide B3).size))
      clear b7
      go_wp2
      go_ret
      exact ⟨rfl, unhide B7⟩
theorem peelOrder_law (n : Int) (a0 : Option Addr) (Rs : List (List Int)) (c : Nat) (k0 : Option Addr) (Ks : List Int) (kc : Nat) (w : World) (hn : (Lit.int .i64 n).wf = true) (hI : RowsK w a0 Rs) (hO : RowsOk Rs a0 c) (hK : Ints w k0 Ks) (hKO : IntsOk Ks kc) :
    Calls Try.prog 5 #[.int .i64 n, .slice a0 Rs.length c, .slice k0 Ks.length kc] w fun e w' => e = .returned (.bool true) ∧ Below w.heap.size w w' := by
  have h1 : Rs.length ≤ maxLen := Nat.le_trans hO.1 hO.2.1
  have h2 : Ks.length ≤ maxLen := Nat.le_trans hKO.1 hKO.2.1
  by_cases h : (fewB n Rs && fewB n [Ks]) = true ∧ 0 < Rs.length
  · exact peelOrder_on n Rs Ks a0 k0 c kc (wf64 hn) hO.2.2.1 h2 w hI hK h.1 h.2
  · refine peelOrder_off n Rs Ks a0 k0 c kc h1 hO.2.2.1 h2 w hI.rowsA hK ?_
    cases h3 : (fewB n Rs && fewB n [Ks]) with
    | false => exact .inl rfl
    | true => exact .inr (by
        rcases Nat.eq_zero_or_pos Rs.length with h4 | h4
        · exact h4
        · exact absurd ⟨h3, h4⟩ h)
end Go.Proofs.Ytfihpmhobjjaaaa

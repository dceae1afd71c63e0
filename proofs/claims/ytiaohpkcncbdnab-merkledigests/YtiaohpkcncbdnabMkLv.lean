/- Contract of merkle's levels. -/
import Derived.Test.YtiaohpkcncbdnabMkAb
namespace Go.Proofs.Ytiaohpkcncbdnab
open Go.RowKit
set_option linter.unusedVariables false
variable {Bq : Nat}

theorem Try.infoL : (Try.prog.info? 65).map (fun i => (i.zero, i.size, i.bytes)) = some (some (.slice none 0 0), 1, 24) := by kernel_rfl
theorem Try.undL : Try.prog.underlying 63 = some (.slice 65) := by kernel_rfl

theorem news_one' (w : World) (x : Value) (t : TypeId) : ∀ j u, [x][j]? = some u → (w.alloc (.cells #[x] t)).cell? ((⟨w.heap.size, 0, none⟩ : Addr).add j) = some u := by
  intro j u h
  rw [Addr.add_mid, Nat.zero_add, cell_of_row _ _ j _ t (0, 0) (heap_alloc_new w (.cells #[x] t))]
  simpa using h

set_option maxRecDepth 100000 in
set_option maxHeartbeats 2000000 in
theorem levels_any (ss : List By) (a0 : Option Addr) (c : Nat) (w : World) (hBq : Bq ≤ w.heap.size) (hT : Txts w a0 ss) (h1 : 1 ≤ ss.length) (h2 : ss.length ≤ 256) (h3 : ∀ s ∈ ss, s.length ≤ 1024) :
    Calls Try.prog 30 #[.slice a0 ss.length c] w fun e w' => ∃ v d, e = .returned v ∧ Levs Bq w' w.heap.size v (ss.map (leafP shaSum)) (d + 1) ∧ (abvN shaSum d (ss.map (leafP shaSum))).length = 1 ∧ (∀ t, t < d → 1 < (abvN shaSum t (ss.map (leafP shaSum))).length) ∧ Below w.heap.size w w' := by
  obtain ⟨i0, hi0, hz0, hz1, hz2⟩ := info_parts Try.infoP
  obtain ⟨j0, hj0, hy0, hy1, hy2⟩ := info_parts Try.infoL
  have HBq := hide hBq
  clear hBq
  have HT := hide hT
  have H3 := hide h3
  clear hT h3
  go_enter Try.func30, Try.ntmps30
  go_wp2
  refine wp_scope_jumps 0 (fun a' w' => ∃ (t : Nat) (v3 : Value) (a4 : Option Addr) (c4 : Nat) (u5 u6 u7 u8 u9 u10 u11 u12 u13 u14 u15 u16 u17 u18 u19 u20 u21 u22 u23 u24 u25 u26 u27 u28 u29 u30 u31 : Value), a' = { tmps := #[.slice a0 ss.length c, undef, .slice none 0 0, v3, .slice a4 (abvN shaSum t (ss.map (leafP shaSum))).length c4, u5, u6, u7, u8, u9, u10, u11, u12, u13, u14, u15, u16, u17, u18, u19, u20, u21, u22, u23, u24, u25, u26, u27, u28, u29, u30, u31], defers := [] } ∧ Levs Bq w' w.heap.size v3 (ss.map (leafP shaSum)) t ∧ LvlAt Bq w' a4 (abvN shaSum t (ss.map (leafP shaSum))) ∧ (abvN shaSum t (ss.map (leafP shaSum))).length ≤ c4 ∧ c4 ≤ maxLen ∧ (∀ j, j < t → 1 < (abvN shaSum j (ss.map (leafP shaSum))).length) ∧ Below w.heap.size w w') (fun a' _ => lenOf (a'.tmps.getD 4 undef)) rfl ?_ ?_
  · go_wp2_with (at_make; refine wpList_make_own _ rfl _ _ 65 rfl w.heap.size 49 i0 (.agg #[.string ⟨#[]⟩, .slice none 0 0]) 2 Try.undP hi0 hz0 hz1 .i64 .i64 _ ss.length rfl rfl rfl ?c2 ?c3 (Nat.le_refl _) ?_)
    case c2 => rw [hz2]; omega
    case c3 => unfold maxLen; omega
    intro w1 hown1 hgrow1
    have HO1 := hide hown1
    have HB1 := hide ((Below.refl w.heap.size w).grown hgrow1 (Nat.le_refl _) (fun q hq => by cases hq))
    clear hown1 hgrow1
    go_wp2_with fail
    go_loopw [4, 12] (fun v i wr => ∃ k : Nat, k ≤ ss.length ∧ i = .int .i64 k ∧ OwnP Bq wr w.heap.size v ((ss.take k).map (leafP shaSum)) ∧ Below w.heap.size w wr) (fun _ i _ => ss.length - (intOf i).toNat)
    case atStart => exact ⟨0, Nat.zero_le _, rfl, ⟨[], unhide HO1, PC.nil _⟩, unhide HB1⟩
    case round =>
      clear HO1 HB1
      obtain ⟨k, hk, rfl, hO, hb⟩ := hrel
      obtain ⟨xs, hown, hpc⟩ := hO
      obtain ⟨ao, cp, rfl⟩ := own_shapeN hown
      have hz := hb.size
      have hlen : ((ss.take k).map (leafP shaSum)).length = k := by simp; omega
      by_cases hlt : k < ss.length
      · obtain ⟨g, o, rfl, hc0⟩ := unhide HT k hlt
        have hcr := hb.cell (p := ⟨g, o + k, none⟩) (cell_lt hc0)
        rw [hc0] at hcr
        have q1 : (k : Int) < ss.length := by omega
        have hlp := hide (fun w' (hq' : Bq ≤ w'.heap.size) => leafPart_any (ss[k]) w' (by have := unhide H3 _ (List.getElem_mem hlt); omega) hq')
        have hsn : Hid ((ss.take (k + 1)).map (leafP shaSum) = (ss.take k).map (leafP shaSum) ++ [leafP shaSum ss[k]]) := by
          show _ = _
          rw [List.take_succ_eq_append_getElem hlt, List.map_append]; rfl
        generalize hJ : leafP shaSum ss[k] = J at *
        generalize bs ss[k] = B at *
        generalize hQ : (ss.take k).map (leafP shaSum) = Q at *
        rw [hlen] at hown
        have HPC := hide hpc
        have HB := hide hb
        have hob : ∀ q, (Value.slice ao Q.length cp).ownBlock = some q → w.heap.size ≤ q := fun q hq => by
          rw [hlen] at hq
          exact (hown.lt q hq).1
        have HO := hide hown
        rw [hlen]
        clear hJ hQ hown hpc hb hc0
        go_wp2_with fail
        refine (unhide hlp _ (Nat.le_trans (unhide HBq) hz)).mono ?_
        rintro e w5 ⟨v, rfl, ⟨t5, c5, rfl, hs5, hc5⟩, b5⟩
        have HO5 := hide (own_below2 (unhide HO) b5)
        have hz5 := b5.size
        go_wp2_with (at_builtin; refine wpList_append_own _ rfl _ _ 65 rfl w.heap.size 49 i0 (.agg #[.string ⟨#[]⟩, .slice none 0 0]) 2 40 Try.undP hi0 hz0 hz1 hz2 rfl (by decide) _ _ _ rfl ((unhide HO5).alloc _) ⟨w5.heap.size, 0, none⟩ 1 1 [.string (bs J.1), .slice t5 J.2.length c5] rfl ?c0 (news_two' _ _ _ _) ?c2 ?c3 ?c4 ?c5 ?_)
        case c0 => rfl
        case c2 => intro u hu; simp at hu; rcases hu with rfl | rfl <;> rfl
        case c3 => unfold maxLen; omega
        case c4 => omega
        case c5 => simp; omega
        intro v' w7 hown7 hgrow7 _
        obtain ⟨ao', cp', rfl⟩ := own_shapeN hown7
        have bA : Below w5.heap.size w5 (w5.alloc (.cells #[.string (bs J.1), .slice t5 J.2.length c5] 49)) := (Below.refl _ _).alloc (Nat.le_refl _) _
        have bW := b5.trans (bA.mono b5.size)
        rw [← hlen] at hown7 hgrow7
        have H7 : Hid (OwnP Bq w7 w.heap.size (.slice ao' (k + 1) cp') ((ss.take (k + 1)).map (leafP shaSum))) := by
          show OwnP _ _ _ _ _
          rw [unhide hsn]
          have ho := own_below2 (unhide HO) bW
          rw [← hlen] at ho
          have := OwnP.more ho ((unhide HPC).below bW) (hs5.below bA) hc5 hown7 hgrow7
          rw [hlen] at this
          exact this
        have B7 := hide (((unhide HB).trans (bW.mono hz)).grown hgrow7 (by have := bW.size; omega) (fun q hq => hob q hq))
        clear hown7 hgrow7 hs5 b5 bA bW HO HPC HB hlp HT HO5 hob
        go_wp2
        go_roundw
        case rel => exact ⟨k + 1, by omega, by go_num, unhide H7, unhide B7⟩
        case measure => simp [intOf]; omega
      · have hkl : k = ss.length := by omega
        subst hkl
        rw [List.take_length] at hown hpc hlen
        have hO : OwnP Bq wr w.heap.size _ (ss.map (leafP shaSum)) := ⟨xs, hown, hpc⟩
        obtain ⟨a4, c4, hv4, hL4, hc4, hm4⟩ := hO.lvl
        have q1 : ¬ (ss.length : Int) < ss.length := by omega
        have HL4 := hide hL4
        have HB := hide hb
        rw [List.take_length, hv4]
        have HM : Hid ((abvN shaSum 0 (ss.map (leafP shaSum))).length = (ss.map (leafP shaSum)).length) := rfl
        have HL4 := hide hL4
        have HO := hide (World.ownsRow_nil wr w.heap.size 65 1)
        have hvl : ([] : List Value).length = 0 := rfl
        have HV : Hid (∀ j, j < 0 → ∃ aj cj, ([] : List Value)[j]? = some (.slice aj (abvN shaSum j (ss.map (leafP shaSum))).length cj) ∧ LvlAt Bq wr aj (abvN shaSum j (ss.map (leafP shaSum))) ∧ (abvN shaSum j (ss.map (leafP shaSum))).length ≤ cj ∧ cj ≤ maxLen) := fun j hj => absurd hj (by omega)
        have HJ : Hid (∀ j, j < 0 → 1 < (abvN shaSum j (ss.map (leafP shaSum))).length) := fun j hj => absurd hj (by omega)
        have hpl : (ss.map (leafP shaSum)).length ≤ 256 := by rw [List.length_map]; exact h2
        have hp1 : 1 ≤ (ss.map (leafP shaSum)).length := by rw [List.length_map]; exact h1
        generalize (ss.map (leafP shaSum)).length = m at *
        clear hown hpc hO hL4 hb hv4 HT hlen
        go_wp2_with fail
        go_step3
        go_wp2_with (at_builtin; refine wpList_append_own _ rfl _ _ 63 rfl w.heap.size 65 j0 (.slice none 0 0) 1 24 Try.undL hj0 hy0 hy1 hy2 rfl (by decide) _ _ _ rfl ((unhide HO).alloc _) ⟨wr.heap.size, 0, none⟩ 1 1 [.slice a4 m c4] rfl ?c0 (news_one' _ _ _) ?c2 ?c3 ?c4 ?c5 ?_)
        case c0 => rfl
        case c2 => intro u hu; simp at hu; subst hu; rfl
        case c3 => unfold maxLen; omega
        case c4 => omega
        case c5 => simp; omega
        intro v' w7 hown7 hgrow7 _
        obtain ⟨ao', cp', rfl⟩ := own_shapeN hown7
        have bA : Below wr.heap.size wr (wr.alloc (.cells #[.slice a4 m c4] 65)) := (Below.refl _ _).alloc (Nat.le_refl _) _
        have hLv : Levs Bq w7 w.heap.size (.slice ao' (0 + 1) cp') (ss.map (leafP shaSum)) (0 + 1) := by
          have hm' := unhide HM
          subst hm'
          exact Levs.more (own_below2 (unhide HO) bA) hvl (fun j hj => by obtain ⟨aj, cj, z1, z2, z3⟩ := unhide HV j hj; exact ⟨aj, cj, z1, z2.below bA, z3⟩) ((unhide HL4).below bA) hc4 hm4 hown7 hgrow7
        have hL7 : LvlAt Bq w7 a4 (abvN shaSum 0 (ss.map (leafP shaSum))) := ((unhide HL4).below bA).grown hgrow7 (own_typed2 (own_below2 (unhide HO) bA) (by decide) (by decide))
        have hB7 := ((unhide HB).trans (bA.mono hz)).grown hgrow7 (by have := bA.size; omega) (fun q hq => ((unhide HO).lt q hq).1)
        have HLV := hide hLv
        have HL7 := hide hL7
        have HB7 := hide hB7
        clear hLv hL7 hB7 bA hown7 hgrow7 HO HV HL4 HB
        by_cases h1m : 1 < m
        · have q1m : (1 : Int) < m := by omega
          have hab : Hid (∀ w, Bq ≤ w.heap.size → LvlAt Bq w a4 (abvN shaSum 0 (ss.map (leafP shaSum))) → Calls Try.prog 41 #[.slice a4 m c4] w fun e w' => ∃ v, e = .returned v ∧ OwnP Bq w' w.heap.size v (abvN shaSum (0 + 1) (ss.map (leafP shaSum))) ∧ Below w.heap.size w w') := by
            intro w hq' hL
            have h := above_any _ a4 c4 w hq' ((Good.leaves ss h2).abvN 0) hL (by rw [unhide HM]; exact hc4) hm4
            rw [unhide HM] at h
            exact h
          go_wp2_with fail
          refine (unhide hab _ (Nat.le_trans (unhide HBq) (unhide HB7).size) (unhide HL7)).mono ?_
          rintro e w8 ⟨v, rfl, hO8, b8⟩
          obtain ⟨a8, c8, rfl, hL8, hc8, hm8⟩ := hO8.lvl
          have HLV8 := hide ((unhide HLV).below b8)
          have HB8 := hide ((unhide HB7).trans (b8.mono (unhide HB7).size))
          have HL8 := hide hL8
          have hdec : (abvN shaSum (0 + 1) (ss.map (leafP shaSum))).length < m := by
            have h := abv_length shaSum (abvN shaSum 0 (ss.map (leafP shaSum)))
            rw [unhide HM] at h
            show (abv shaSum _).length < m
            rw [h]; omega
          have HJ8 : Hid (∀ j, j < 0 + 1 → 1 < (abvN shaSum j (ss.map (leafP shaSum))).length) := by
            intro j hj
            by_cases e : j < 0
            · exact unhide HJ j e
            · obtain rfl : j = 0 := by omega
              rw [unhide HM]; exact h1m
          clear hO8 b8 HLV HB7 hab HL7 hL8
          go_wp2
          go_step3
          refine ⟨rfl, 0 + 1, .slice ao' (0 + 1) cp', a8, c8, _, _, _, _, _, _, _, _, _, _, _, _, _, _, _, _, _, _, _, _, _, _, _, _, _, _, _, rfl, unhide HLV8, unhide HL8, hc8, hm8, unhide HJ8, unhide HB8⟩
        · have hm1 : m = 1 := by omega
          have q1m : ¬ (1 : Int) < m := by omega
          go_wp2
          simp only [Exit.jump]
          go_ret
          exact ⟨_, 0, rfl, unhide HLV, by rw [unhide HM]; exact hm1, unhide HJ, unhide HB7⟩
  · rintro a' wr ⟨t, v3, a4, c4, u5, u6, u7, u8, u9, u10, u11, u12, u13, u14, u15, u16, u17, u18, u19, u20, u21, u22, u23, u24, u25, u26, u27, u28, u29, u30, u31, rfl, ⟨vs, hown, hvl, hv⟩, hL4, hc4, hm4, hj, hb⟩
    have ht8 : t ≤ 8 := by
      rcases Nat.lt_or_ge 8 t with h | h
      · have h' := hj 8 h
        rw [abvN_length, List.length_map, cl_one 8 _ h1 h2] at h'
        omega
      · exact h
    obtain ⟨ao, cp, rfl⟩ := own_shapeN hown
    have hz := hb.size
    have HO := hide hown
    have HV := hide hv
    have HL4 := hide hL4
    have HJ := hide hj
    have HB := hide hb
    have hp1 : 1 ≤ (abvN shaSum t (ss.map (leafP shaSum))).length := by rw [abvN_length, List.length_map]; exact cl_pos _ _ h1
    have hpl : (abvN shaSum t (ss.map (leafP shaSum))).length ≤ 256 := by rw [abvN_length, List.length_map]; exact Nat.le_trans (cl_le _ _) h2
    generalize hM : (abvN shaSum t (ss.map (leafP shaSum))).length = m at *
    have HM := hide hM
    clear hown hv hL4 hj hb hM
    go_wp2_with (at_builtin; refine wpList_append_own _ rfl _ _ 63 rfl w.heap.size 65 j0 (.slice none 0 0) 1 24 Try.undL hj0 hy0 hy1 hy2 rfl (by decide) _ _ _ rfl ((unhide HO).alloc _) ⟨wr.heap.size, 0, none⟩ 1 1 [.slice a4 m c4] rfl ?c0 (news_one' _ _ _) ?c2 ?c3 ?c4 ?c5 ?_)
    case c0 => rfl
    case c2 => intro u hu; simp at hu; subst hu; rfl
    case c3 => unfold maxLen; omega
    case c4 => omega
    case c5 => simp; omega
    intro v' w7 hown7 hgrow7 _
    obtain ⟨ao', cp', rfl⟩ := own_shapeN hown7
    have bA : Below wr.heap.size wr (wr.alloc (.cells #[.slice a4 m c4] 65)) := (Below.refl _ _).alloc (Nat.le_refl _) _
    have hLv : Levs Bq w7 w.heap.size (.slice ao' (t + 1) cp') (ss.map (leafP shaSum)) (t + 1) := by
      have hm' := unhide HM
      subst hm'
      exact Levs.more (own_below2 (unhide HO) bA) hvl (fun j hj => by obtain ⟨aj, cj, z1, z2, z3⟩ := unhide HV j hj; exact ⟨aj, cj, z1, z2.below bA, z3⟩) ((unhide HL4).below bA) hc4 hm4 hown7 hgrow7
    have hL7 : LvlAt Bq w7 a4 (abvN shaSum t (ss.map (leafP shaSum))) := ((unhide HL4).below bA).grown hgrow7 (own_typed2 (own_below2 (unhide HO) bA) (by decide) (by decide))
    have hB7 := ((unhide HB).trans (bA.mono hz)).grown hgrow7 (by have := bA.size; omega) (fun q hq => ((unhide HO).lt q hq).1)
    have HLV := hide hLv
    have HL7 := hide hL7
    have HB7 := hide hB7
    clear hLv hL7 hB7 bA hown7 hgrow7 HO HV HL4 HB
    by_cases h1m : 1 < m
    · have q1m : (1 : Int) < m := by omega
      have hab : Hid (∀ w, Bq ≤ w.heap.size → LvlAt Bq w a4 (abvN shaSum t (ss.map (leafP shaSum))) → Calls Try.prog 41 #[.slice a4 m c4] w fun e w' => ∃ v, e = .returned v ∧ OwnP Bq w' w.heap.size v (abvN shaSum (t + 1) (ss.map (leafP shaSum))) ∧ Below w.heap.size w w') := by
        intro w hq' hL
        have h := above_any _ a4 c4 w hq' ((Good.leaves ss h2).abvN t) hL (by rw [unhide HM]; exact hc4) hm4
        rw [unhide HM] at h
        exact h
      go_wp2_with fail
      refine (unhide hab _ (Nat.le_trans (unhide HBq) (unhide HB7).size) (unhide HL7)).mono ?_
      rintro e w8 ⟨v, rfl, hO8, b8⟩
      obtain ⟨a8, c8, rfl, hL8, hc8, hm8⟩ := hO8.lvl
      have HLV8 := hide ((unhide HLV).below b8)
      have HB8 := hide ((unhide HB7).trans (b8.mono (unhide HB7).size))
      have HL8 := hide hL8
      have hdec : (abvN shaSum (t + 1) (ss.map (leafP shaSum))).length < m := by
        have h := abv_length shaSum (abvN shaSum t (ss.map (leafP shaSum)))
        rw [unhide HM] at h
        show (abv shaSum _).length < m
        rw [h]; omega
      have HJ8 : Hid (∀ j, j < t + 1 → 1 < (abvN shaSum j (ss.map (leafP shaSum))).length) := by
        intro j hj
        by_cases e : j < t
        · exact unhide HJ j e
        · obtain rfl : j = t := by omega
          rw [unhide HM]; exact h1m
      clear hO8 b8 HLV HB7 hab HL7 hL8
      go_wp2
      go_step3
      refine ⟨rfl, ⟨t + 1, .slice ao' (t + 1) cp', a8, c8, _, _, _, _, _, _, _, _, _, _, _, _, _, _, _, _, _, _, _, _, _, _, _, _, _, _, _, rfl, unhide HLV8, unhide HL8, hc8, hm8, unhide HJ8, unhide HB8⟩, ?_⟩
      simp [lenOf]; omega
    · have hm1 : m = 1 := by omega
      have q1m : ¬ (1 : Int) < m := by omega
      go_wp2
      simp only [Exit.jump]
      go_ret
      exact ⟨_, t, rfl, unhide HLV, by rw [unhide HM]; exact hm1, unhide HJ, unhide HB7⟩

end Go.Proofs.Ytiaohpkcncbdnab

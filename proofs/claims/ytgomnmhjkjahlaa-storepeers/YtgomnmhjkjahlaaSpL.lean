/- What the law StorePeers does, whatever the world: it answers true and changes nothing that was there. -/
import Derived.Test.YtgomnmhjkjahlaaOpenEn
namespace Go.Proofs.Ytgomnmhjkjahlaa
open Go.RowKit
set_option linter.unusedVariables false
attribute [local go_sem] Oper.semAt_some

/-- who stands at a place of those that are so -/
theorem filter_at {α : Type} (q : α → Bool) : ∀ (l : List α) (i : Nat) (h : i < l.length), q l[i] = true → ∃ h' : ((l.take i).filter q).length < (l.filter q).length, (l.filter q)[((l.take i).filter q).length] = l[i]
  | [], i, h, _ => absurd h (by simp)
  | a :: l, 0, h, hq => by
    simp at hq
    simp [hq]
  | a :: l, i + 1, h, hq => by
    have h1 : i < l.length := by simpa using h
    obtain ⟨h2, h3⟩ := filter_at q l i h1 (by simpa using hq)
    by_cases hb : q a = true
    · simp only [List.take_succ_cons, List.filter_cons_of_pos hb, List.length_cons, List.getElem_cons_succ]
      exact ⟨by omega, h3⟩
    · simp only [List.take_succ_cons, List.filter_cons_of_neg hb, List.getElem_cons_succ]
      exact ⟨h2, h3⟩
theorem filter_le_take {α : Type} (q : α → Bool) (l : List α) (i : Nat) : ((l.take i).filter q).length ≤ (l.filter q).length := by
  have : ((l.take i).filter q).Sublist (l.filter q) := (List.take_sublist i l).filter q
  exact this.length_le
theorem filter_both {α : Type} (q : α → Bool) (l : List α) : (l.filter q).length + (l.filter fun x => !q x).length = l.length := by
  induction l with
  | nil => rfl
  | cons a l ih =>
    by_cases h : q a = true
    · simp [h]; omega
    · simp [h]; omega
theorem core_id {a b : List Raw} (h : a.map Raw.core = b.map Raw.core) (i : Nat) (ha : i < a.length) (hb : i < b.length) : a[i].core = b[i].core := by
  have h1 : (a.map Raw.core)[i]? = (b.map Raw.core)[i]? := by rw [h]
  simpa [ha, hb] using h1
theorem EntsA.k2 {p b : Nat} {w w' : World} {a0 : Option Addr} {rs : List Raw} (h : EntsA w a0 rs) (hk : K2 p b w w') (hp : ∀ a, a0 = some a → a.block ≠ p) (hb : ∃ es cl, w.heap[b]? = some (.map es cl)) : EntsA w' a0 rs := fun i hi => by
  obtain ⟨g, o, e, h1⟩ := h i hi
  refine ⟨g, o, e, h1.same (hk.block g (cell_lt h1.1) (hp _ e) ?_)⟩
  rintro rfl
  obtain ⟨es, cl, hm⟩ := hb
  have := h1.1
  simp [World.cell?, hm] at this
theorem EntsA.drewN {w : World} {a0 : Option Addr} {rs : List Raw} (h : EntsA w a0 rs) (z : Nat) : EntsA (w.drewN z) a0 rs := h.below (below_drawn (Below.refl _ _) z)
theorem Ints.drewN {w : World} {a0 : Option Addr} {l : List Int} (h : Ints w a0 l) (z : Nat) : Ints (w.drewN z) a0 l := h.below (below_drawn (Below.refl _ _) z)
set_option maxRecDepth 100000 in
set_option maxHeartbeats 4000000 in
theorem storePeers_any (a0 : Option Addr) (l : List Raw) (c : Nat) (peer : Int) (w : World) (hA : EntsA w a0 l) (hO : EntsOk w l c) : Calls Try.prog 6 #[.slice a0 l.length c, .int .i64 peer] w fun e w' => e = .returned (.bool true) ∧ Below w.heap.size w w' := by
  have hn := hide (new_any 30 w (by omega) (by omega))
  have HA := hide hA
  have HRO := hide hO.2.2
  have hlm : l.length ≤ maxLen := Nat.le_trans hO.1 hO.2.1
  unfold maxLen at hlm
  clear hA hO
  generalize hL : l.length = L at *
  have HL := hide hL
  clear hL
  go_enter Try.func6, Try.ntmps6
  go_wp2_with fail
  refine (unhide hn).mono ?_
  rintro e w1 ⟨⟨p, b, rfl, hp, hb, hS1⟩, hB1⟩
  have HS1 := hide hS1
  have HB1 := hide hB1
  clear hS1 hB1 hn
  go_wp2_with fail
  refine (sawake_any w1).mono ?_
  rintro e w2 ⟨rfl, hb2⟩
  have HS2 := hide ((unhide HS1).kept hb2)
  have HB2 := hide ((unhide HB1).trans (hb2.mono (unhide HB1).size))
  clear hb2 HS1 HB1
  go_wp2_with fail
  go_loopw [6] (fun v wr => ∃ (i : Nat) (last : Int) (rs : List Raw), i ≤ L ∧ i ≤ 30 ∧ v = .int .i64 i ∧ StAt wr p b 30 last rs ∧ last ≤ i ∧ Below w.heap.size w wr) (fun v _ => 30 - (intOf v).toNat)
  case atStart => exact ⟨0, 0, [], by omega, by omega, rfl, unhide HS2, by omega, unhide HB2⟩
  case round =>
    clear HS2 HB2
    obtain ⟨i, last, rs, hiL, hi30, rfl, hS, hlast, hB⟩ := hrel
    have hplt := hS.plt
    have HS := hide hS
    have HB := hide hB
    clear hS hB
    by_cases hlt : i < L ∧ i < 30
    · obtain ⟨hlt1, hlt2⟩ := hlt
      have hlt' : i < l.length := by rw [unhide HL]; exact hlt1
      obtain ⟨g, o, rfl, hE⟩ := (unhide HA).below (show Below w.heap.size w wr from unhide HB) i hlt'
      have hro := unhide HRO _ (List.getElem_mem hlt')
      generalize l[i] = x at *
      have hf := hide (fun w => few_any 0 0 x w)
      have hrow := hro.below (unhide HB)
      have HE := hide hE
      have hxlt : Hid (x.idx ≠ [] → ∀ a, x.a0 = some a → a.block ≠ p) := fun hne a ha => by have := hro.lt hne a ha; omega
      have HI := hide hrow.ints
      clear hE hro hrow hlt'
      have q1 : (i : Int) < L := by omega
      have q2 : (i : Int) < 30 := by omega
      obtain ⟨c0, c1, c2, c3, c4, c5, c6⟩ := unhide HE
      cases hfb : fewB x with
      | false =>
        rw [hfb] at hf
        go_wp2_with fail
        refine (unhide hf wr).mono ?_
        rintro e w3 ⟨rfl, hb3⟩
        have HS3 := hide ((unhide HS).kept hb3)
        have HB3 := hide ((unhide HB).trans (hb3.mono (unhide HB).size))
        clear hb3 c0 c1 c2 c3 c4 c5 c6
        go_wp2
        go_roundw
        case rel => exact ⟨i + 1, last, rs, by omega, by omega, by go_num, unhide HS3, by omega, unhide HB3⟩
        case measure => simp [intOf]; omega
      | true =>
        rw [hfb] at hf
        go_wp2_with fail
        refine (unhide hf wr).mono ?_
        rintro e w3 ⟨rfl, hb3⟩
        have hS3 := (unhide HS).kept hb3
        have HB3 := hide ((unhide HB).trans (hb3.mono (unhide HB).size))
        have hA3 := hide (add_spec p b 30 last rs x w3 hS3 ((unhide HI).below hb3) hfb (unhide hxlt) (by omega))
        have hg3 := hb3.block g (cell_lt c0)
        clear c0 c1 c2 c3 c4 c5 c6
        obtain ⟨c0, c1, c2, c3, c4, c5, c6⟩ := (unhide HE).same hg3
        clear hb3 hS3 hg3 hfb
        go_wp2_with fail
        refine (unhide hA3).mono ?_
        rintro e w4 ⟨rfl, hs4, hk4⟩
        have HB4 := hide ((unhide HB3).trans (hk4.below w.heap.size (unhide HB3).size hp hb))
        have hs5 : ∃ last' rs', StAt w4 p b 30 last' rs' ∧ last' ≤ (i : Int) + 1 := by
          rcases hs4 with ⟨_, _, a1, q1, hs⟩ | ⟨_, hs⟩
          · exact ⟨_, _, hs, by omega⟩
          · exact ⟨_, _, hs, by omega⟩
        obtain ⟨last', rs', hS5, hl5⟩ := hs5
        have HS5 := hide hS5
        clear hs4 hk4 hA3 hS5 c0 c1 c2 c3 c4 c5 c6
        go_wp2
        go_roundw
        case rel => exact ⟨i + 1, last', rs', by omega, by omega, by go_num, unhide HS5, by omega, unhide HB4⟩
        case measure => simp [intOf]; omega
    · have hq : (¬ (i : Int) < L) ∨ ((i : Int) < L ∧ ¬ (i : Int) < 30) := by omega
      clear hlt
      have hal := hide (all_any p b 30 last rs wr (unhide HS))
      have hnl : rs.length ≤ 30 := by have := (unhide HS).len; omega
      rcases hq with q1 | ⟨q1, q2⟩
      all_goals
        go_wp2_with fail
        refine (unhide hal).mono ?_
        rintro e w3 ⟨⟨v1, rfl, rs1, hO1⟩, hb3⟩
        have hn1 := core_len hO1.core
        have hrow1 := hO1.row
        rw [hn1] at hrow1
        obtain ⟨A1, C1, rfl, hE1⟩ := EntsA.own hn1 hrow1
        have hlt1 : ∀ a, A1 = some a → a.block ≠ p := fun a ha => by have := hrow1.lt a.block (by rw [ha]; rfl); omega
        have hS3 := (unhide HS).kept hb3
        have HB3 := hide ((unhide HB).trans (hb3.mono (unhide HB).size))
        have HC1 := hide hO1.core
        have hdp := hide (dropPeer_any p b 30 last rs peer w3 hS3)
        have HE1 := hide hE1
        have HLT1 := hide hlt1
        have HN1 := hide hn1
        have HIM := hide hS3.isMap
        clear hO1 hb3 hn1 hrow1 hE1 hlt1 hS3 hal HS HB
        obtain ⟨n, hn⟩ : ∃ n, rs.length = n := ⟨_, rfl⟩
        rw [hn] at hnl HN1
        simp only [hn]
        have HNN := hide hn
        clear hn
        obtain ⟨gl, hgl⟩ : ∃ gl, (rs.filter fun r => r.peer == peer).length = gl := ⟨_, rfl⟩
        obtain ⟨nl, hnl2⟩ : ∃ nl, (rs.filter fun r => !(r.peer == peer)).length = nl := ⟨_, rfl⟩
        have hsum : gl + nl = n := by have h := filter_both (fun r : Raw => r.peer == peer) rs; rw [hgl, hnl2, unhide HNN] at h; exact h
        rw [hgl] at hdp
        have HGL := hide hgl
        have HNL := hide hnl2
        have HSUM := hide hsum
        clear hgl hnl2 hsum
        go_wp2_with fail
        refine (unhide hdp).mono ?_
        rintro e w4 ⟨⟨ga, gc, rfl, hgI, hgge⟩, hS4, hk4⟩
        have HE4 := hide ((unhide HE1).k2 hk4 (unhide HLT1) (unhide HIM))
        have HB4 := hide ((unhide HB3).trans (hk4.below w.heap.size (unhide HB3).size hp hb))
        have hal2 := hide (all_any p b 30 last _ w4 hS4)
        have HS4 := hide hS4
        have HGI := hide hgI
        clear hgI hgge hS4 hk4 hdp HE1 HB3
        go_wp2_with fail
        refine (unhide hal2).mono ?_
        rintro e w5 ⟨⟨v2, rfl, rs2, hO2⟩, hb5⟩
        have hn2 := core_len hO2.core
        rw [unhide HNL] at hn2
        have hrow2 := hO2.row
        rw [hn2] at hrow2
        obtain ⟨A2, C2, rfl, hE2⟩ := EntsA.own hn2 hrow2
        have HC2 := hide hO2.core
        have HE2 := hide hE2
        have HN2 := hide hn2
        have HE5 := hide ((unhide HE4).below hb5)
        have HGI5 := hide ((unhide HGI).below hb5)
        have hof := hide (fun z => of_any p b 30 last _ peer (w5.drewN z) (((unhide HS4).kept hb5).kept (below_drawn (Below.refl _ _) z)))
        have HB5 := hide ((unhide HB4).trans (hb5.mono (unhide HB4).size))
        clear hO2 hn2 hrow2 hE2 hb5 hal2 HE4 HGI HS4 HB4
        go_wp2_with fail
        go_loopw [10, 11] (fun u v wr => ∃ i z : Nat, i ≤ n ∧ v = .int .i64 i ∧ u = .int .i64 ((rs.take i).filter fun r => !(r.peer == peer)).length ∧ w5.drewN z = wr) (fun _ v _ => n - (intOf v).toNat)
        case atStart => exact ⟨0, 0, by omega, rfl, rfl, rfl⟩
        case round =>
          obtain ⟨j, z, hjn, rfl, rfl, rfl⟩ := hrel
          obtain ⟨K, hK⟩ : ∃ K, ((rs.take j).filter fun r => !(r.peer == peer)).length = K := ⟨_, rfl⟩
          have hKn : K ≤ nl := by rw [← hK, ← unhide HNL]; exact filter_le_take _ _ _
          simp only [hK]
          have HK := hide hK
          clear hK
          have hsm := unhide HSUM
          by_cases hlt : j < n
          · have hltr : j < rs.length := by rw [unhide HNN]; exact hlt
            have hlt1 : j < rs1.length := by rw [unhide HN1]; exact hlt
            obtain ⟨g, o, hA1, hE⟩ := (unhide HE5) j hlt1
            have hco := core_id (unhide HC1) j hlt1 hltr
            have hid : rs1[j].id = rs[j].id := (show rs1[j].core.id = rs[j].core.id from congrArg Raw.id hco)
            have hpr : rs1[j].peer = rs[j].peer := (show rs1[j].core.peer = rs[j].core.peer from congrArg Raw.peer hco)
            have c0 := hE.1
            have c1 := hE.2.1
            rw [hid] at c0
            rw [hpr] at c1
            have hfa := hide (filter_at (fun r : Raw => !(r.peer == peer)) rs j hltr)
            have HTK := hide (List.take_succ_eq_append_getElem hltr)
            have hxm : Hid (rs[j].peer == peer → rs[j].id ∈ (rs.filter fun r => r.peer == peer).map Raw.id) := fun h => List.mem_map.2 ⟨_, List.mem_filter.2 ⟨List.getElem_mem hltr, h⟩, rfl⟩
            clear hE hco hid hpr
            generalize rs[j] = x at *
            subst hA1
            have q3 : (j : Int) < n := by omega
            have hgh := hide (ghas_any _ x.id ga gc (by rw [List.length_map, unhide HGL]; unfold maxLen; omega) (w5.drewN z) ((unhide HGI5).drewN z))
            rw [List.length_map, unhide HGL] at hgh
            cases hpe : (x.peer == peer) with
            | true =>
              rw [decide_eq_true (unhide hxm hpe)] at hgh
              have HT : Hid (((rs.take (j + 1)).filter fun r => !(r.peer == peer)).length = K) := by
                show _ = _
                rw [unhide HTK, List.filter_append, List.length_append, unhide HK]
                simp [hpe]
              go_wp2_with fail
              refine (unhide hgh).mono ?_
              rintro e w6 ⟨rfl, rfl⟩
              go_wp2
              go_roundw
              case rel => exact ⟨j + 1, z, by omega, by go_num, by rw [unhide HT], by first | rfl | trivial⟩
              case measure => simp [intOf]; omega
            | false =>
              have HT : Hid (((rs.take (j + 1)).filter fun r => !(r.peer == peer)).length = K + 1) := by
                show _ = _
                rw [unhide HTK, List.filter_append, List.length_append, unhide HK]
                simp [hpe]
              obtain ⟨h1, h2⟩ := unhide hfa (by simp [hpe])
              have hK1 : K < nl := by have := h1; rw [unhide HK, unhide HNL] at this; exact this
              have hK2 : K < rs2.length := by rw [unhide HN2]; exact hK1
              have hK3 : K < (rs.filter fun r => !(r.peer == peer)).length := by rw [unhide HNL]; exact hK1
              have h3 : (rs.filter fun r => !(r.peer == peer))[K] = x := by
                have hkk := unhide HK
                simp only [hkk] at h2
                exact h2
              obtain ⟨g2, o2, hA2, hE2⟩ := (unhide HE2) K hK2
              have hco := core_id (unhide HC2) K hK2 hK3
              rw [h3] at hco
              have hid : rs2[K].id = x.id := (show rs2[K].core.id = x.core.id from congrArg Raw.id hco)
              have e0 := hE2.1
              rw [hid] at e0
              subst hA2
              have q4 : ¬ (nl : Int) ≤ (K : Int) := by omega
              have d4 : decide ((nl : Int) ≤ (K : Int)) = false := decide_eq_false q4
              have q5 : (K : Int) < (nl : Int) := by omega
              clear h1 h2 h3 hco hid hE2 hK2 hK3 hfa hgh hxm
              go_wp2_with fail
              have d6 : decide ((nl : Int) ≤ (K : Int)) = false := decide_eq_false (by omega)
              have d7 : decide (nl ≤ K) = false := decide_eq_false (by omega)
              have d8 : ¬ nl ≤ K := by omega
              go_big_quiet ((fail))
              go_wp2
              go_roundw
              case rel => exact ⟨j + 1, z + nq, by omega, by go_num, by rw [unhide HT]; go_num, rfl⟩
              case measure => simp [intOf]; omega
          · have hje : j = n := by omega
            have q3 : ¬ (j : Int) < n := by omega
            have hKe : K = nl := by
              have h1 := unhide HK
              rw [List.take_of_length_le (by rw [unhide HNN]; omega), unhide HNL] at h1
              omega
            have q4 : ((K : Int) == (nl : Int)) = true := by simp [hKe]
            have q5 : ((gl : Int) + (nl : Int) == (n : Int)) = true := by simp; omega
            have hof0 := hide (unhide hof z)
            have hz : ((rs.filter fun r => !(r.peer == peer)).filter fun r => r.peer == peer).length = 0 := by
              rw [List.filter_filter]
              simp
            rw [hz] at hof0
            clear hz hKe hje hof
            go_wp2_with fail
            refine (unhide hof0).mono ?_
            rintro e w6 ⟨⟨a6, c6, rfl, _, _⟩, hb6⟩
            have HB6 := hide ((below_drawn (unhide HB5) z).trans (hb6.mono (by simpa using (unhide HB5).size)))
            clear hb6
            go_wp2
            go_ret
            exact ⟨rfl, unhide HB6⟩
end Go.Proofs.Ytgomnmhjkjahlaa

/- The law PeelGauss, walked. -/
import Derived.Test.YtfihpmhobjjaaaaPhM
import Derived.Room.AppendZeros
namespace Go.Proofs.Ytfihpmhobjjaaaa
open Go.RowKit
set_option linter.unusedVariables false
attribute [local go_sem] Oper.semAt_some

theorem ints_own4 {w : World} {base l : Nat} {v : Value} {r : List Nat} (hl : r.length = l) (h : w.ownsRow base 3 1 v l (ic (zs r))) : ∃ a0 c, v = .slice a0 l c ∧ Ints w a0 (zs r) := by
  subst hl
  obtain ⟨a0, c, e, hi, h1, h2⟩ := OwnI.ints (l := zs r) (by show World.ownsRow _ _ _ _ _ _ _; rw [zs_length]; exact h)
  rw [zs_length] at e h1
  exact ⟨a0, c, e, hi⟩
set_option maxRecDepth 100000 in
set_option maxHeartbeats 1000000 in
theorem peelGauss_off (n : Int) (Rs : List (List Int)) (Ks : List Int) (a0 k0 : Option Addr) (c kc : Nat) (hn : -9223372036854775808 ≤ n ∧ n ≤ 9223372036854775807) (hk : Rs.length ≤ maxLen) (hk2 : ∀ r ∈ Rs, r.length ≤ maxLen) (hk3 : Ks.length ≤ maxLen) (w : World) (hI : RowsA w a0 Rs) (hK : Ints w k0 Ks) (hno : (fewB n Rs && fewB n [Ks]) = false ∨ 30 < Rs.length ∨ (mayB n Rs && mayB n [Ks]) = false) :
    Calls Try.prog 7 #[.int .i64 n, .slice a0 Rs.length c, .slice k0 Ks.length kc] w fun e w' => e = .returned (.bool true) ∧ Below w.heap.size w w' := by
  have hf := hide (pfew_any n Rs Ks a0 k0 c kc hk hk2 hk3 w hI hK)
  have haw := hide (fun W => pawake_any W)
  unfold maxLen at hk
  cases hfe : (fewB n Rs && fewB n [Ks]) with
  | false =>
    rw [hfe] at hf
    generalize Rs.length = m at *
    generalize Ks.length = l at *
    clear hI hK hno hfe
    go_enter Try.func7, Try.ntmps7
    go_wp2_with fail
    refine (unhide hf).mono ?_
    rintro e w1 ⟨rfl, b1⟩
    have B1 := hide b1
    clear b1
    go_wp2_with fail
    refine (unhide haw _).mono ?_
    rintro e w2 ⟨rfl, b2⟩
    have B2 := hide ((unhide B1).trans (b2.mono (unhide B1).size))
    clear b2
    go_wp2
    go_ret
    exact ⟨rfl, unhide B2⟩
  | true =>
    rw [hfe] at hf hno
    by_cases h30 : 30 < Rs.length
    · generalize Rs.length = m at *
      generalize Ks.length = l at *
      have q1 : (30 : Int) < m := by omega
      clear hI hK hno hfe
      go_enter Try.func7, Try.ntmps7
      go_wp2_with fail
      refine (unhide hf).mono ?_
      rintro e w1 ⟨rfl, b1⟩
      have B1 := hide b1
      clear b1
      go_wp2_with fail
      refine (unhide haw _).mono ?_
      rintro e w2 ⟨rfl, b2⟩
      have B2 := hide ((unhide B1).trans (b2.mono (unhide B1).size))
      clear b2
      go_wp2
      go_ret
      exact ⟨rfl, unhide B2⟩
    · have hme : (mayB n Rs && mayB n [Ks]) = false := by
        rcases hno with h | h | h
        · cases h
        · exact absurd h h30
        · exact h
      have hkn := hide (fun W (hb : Below w.heap.size w W) => known_no n Rs Ks a0 k0 c kc hn (by unfold maxLen; exact hk) hk2 hk3 W (hI.below hb) (hK.below hb) hme)
      generalize Rs.length = m at *
      generalize Ks.length = l at *
      have q1 : ¬ (30 : Int) < m := by omega
      clear hI hK hno hfe hme
      go_enter Try.func7, Try.ntmps7
      go_wp2_with fail
      refine (unhide hf).mono ?_
      rintro e w1 ⟨rfl, b1⟩
      have B1 := hide b1
      clear b1
      go_wp2_with fail
      refine (unhide hkn _ (unhide B1)).mono ?_
      rintro e w2 ⟨rfl, b2⟩
      have B2 := hide ((unhide B1).trans (b2.mono (unhide B1).size))
      clear b2
      go_wp2_with fail
      refine (unhide haw _).mono ?_
      rintro e w3 ⟨rfl, b3⟩
      have B3 := hide ((unhide B2).trans (b3.mono (unhide B2).size))
      clear b3
      go_wp2
      go_ret
      exact ⟨rfl, unhide B3⟩
/-- rows of the call's own: those that were handed in, and one of a single number for each of the first k -/
structure MoreAt (W : World) (B : Nat) (v : Value) (m : Nat) (V : Nat → Value) (K : List Nat) (k : Nat) (Us : List Value) : Prop where
  own : W.ownsRow B 23 1 v (m + k) ((List.range m).map V ++ Us)
  len : Us.length = k
  one : ∀ j (h : j < K.length), j < k → ∃ gb, Us[j]? = some (.slice (some ⟨gb, 0, none⟩) 1 1) ∧ W.heap[gb]? = some (.cells #[.int .i64 (K[j] : Int)] 3 (0, 0))
theorem MoreAt.rows {w W : World} {B m : Nat} {v : Value} {V : Nat → Value} {R : List (List Nat)} {K : List Nat} {Us : List Value} (h : MoreAt W B v m V K K.length Us) (hV : RowV w (R.map zs) V) (hb : Below w.heap.size w W) (hm : R.length = m) : ∃ a c, v = .slice a (m + K.length) c ∧ RowsA W a ((moreR R K).map zs) := by
  obtain ⟨a0, c, rfl⟩ := own_shape2 h.own
  have hml : ((moreR R K).map zs).length = m + K.length := by unfold moreR; simp [hm]
  refine ⟨a0, c, rfl, fun i hi => ?_⟩
  rw [hml] at hi
  obtain ⟨g, c', e, _⟩ := h.own.form (by omega)
  simp only [Value.slice.injEq, true_and] at e
  obtain ⟨rfl, rfl⟩ := e
  have hc := h.own.cellAt i (by omega)
  refine ⟨g, 0, rfl, ?_⟩
  rw [Nat.zero_add, hc]
  by_cases hi2 : i < m
  · obtain ⟨b, cc, h1, h2, _⟩ := hV.is i (by simpa [hm] using hi2)
    have e1 : ((moreR R K).map zs)[i] = gtR (R.map zs) i := by
      rw [gtR_get _ _ (by simpa [hm] using hi2)]
      simp [moreR, hm, hi2]
    rw [e1]
    refine ⟨b, cc, ?_, h2.below hb⟩
    rw [List.getElem?_append_left (by simpa using hi2)]
    simp [hi2, h1]
  · have hj : i - m < K.length := by omega
    obtain ⟨gb, h1, h2⟩ := h.one (i - m) hj hj
    have e1 : ((moreR R K).map zs)[i] = [(K[i - m] : Int)] := by
      simp [moreR, List.getElem_append, hm, hi2, zs]
    rw [e1]
    refine ⟨some ⟨gb, 0, none⟩, 1, ?_, fun j hj => ?_⟩
    · rw [List.getElem?_append_right (by simp; omega)]
      simpa using h1
    · obtain rfl : j = 0 := by simp at hj; omega
      refine ⟨gb, 0, rfl, ?_⟩
      rw [cell_of_row _ _ _ _ _ _ h2]
      rfl
set_option maxRecDepth 100000 in
set_option maxHeartbeats 2000000 in
theorem peelGauss_on (n : Nat) (R : List (List Nat)) (K : List Nat) (h : Pl n R K) (a0 k0 : Option Addr) (c kc : Nat) (w : World) (hI : RowsK w a0 (R.map zs)) (hK : Ints w k0 (zs K)) (hfe : (fewB n (R.map zs) && fewB n [zs K]) = true) (h30 : R.length ≤ 30) :
    Calls Try.prog 7 #[.int .i64 n, .slice a0 R.length c, .slice k0 K.length kc] w fun e w' => e = .returned (.bool true) ∧ Below w.heap.size w w' := by
  obtain ⟨i0, hi0, hz0, hz1, hz2⟩ := info_parts Try.infoIx
  have h160 := h.n160
  have hf := pfew_any n (R.map zs) (zs K) a0 k0 c kc (by have := h.m400; rw [List.length_map]; unfold maxLen; omega) (fun r hr => by
    obtain ⟨x, hx, rfl⟩ := List.mem_map.1 hr
    have := h.rlen x hx
    rw [zs_length]; unfold maxLen; omega) (by have := h.klen; rw [zs_length]; unfold maxLen; omega) w hI.rowsA hK
  rw [hfe, List.length_map, zs_length] at hf
  have hf := hide hf
  have haw := hide (fun W => pawake_any W)
  have hA := hide (fun W (hb : Below w.heap.size w W) => known_yes n R K h a0 k0 c kc W (hI.rowsC.below hb) (hK.below hb))
  have hAp := hide (fun W (hb : Below w.heap.size w W) => append_rows w W a0 c (R.map zs) (by rw [List.length_map]; omega) hI hb 22)
  rw [List.length_map] at hAp
  have hmr := h.more (by omega)
  have hF := hide (fun W a d (hr : RowsA W a ((moreR R K).map zs)) => fixed_yes n _ _ hmr a d W hr)
  have hml : ((moreR R K).map zs).length = R.length + K.length := by unfold moreR; simp
  rw [hml] at hF
  have HSUB : Hid (∀ i ∈ knN n R K, i ∈ fixN (kep (gL (moreR R K)) n)) := fun i hi => known_fixed h (by omega) i hi
  have hl1 := knN_len n R K
  have hl2 : (fixN (kep (gL (moreR R K)) n)).length ≤ 160 := by
    have := fixN_len (kep (gL (moreR R K)) n)
    obtain ⟨_, _, h3, _, _, _, h7⟩ := kep_rd (n := n) (m := 0) (by omega) (gL_szd (moreR R K)) hmr.bd
    omega
  have hl4 := h.klen
  have HK := hide hK
  have HMR : Hid (∀ (W : World) (v : Value) (B : Nat) (V : Nat → Value) (Us : List Value), MoreAt W B v R.length V K K.length Us → RowV w (R.map zs) V → Below w.heap.size w W → ∃ a c, v = .slice a (R.length + K.length) c ∧ RowsA W a ((moreR R K).map zs)) := fun W v B V Us h1 h2 h3 => h1.rows h2 h3 rfl
  generalize knN n R K = KN at *
  generalize fixN (kep (gL (moreR R K)) n) = FX at *
  generalize hLA : KN.length = la at *
  have HLA := hide hLA
  generalize hLF : FX.length = lf at *
  have HLF := hide hLF
  generalize hLK : K.length = l at *
  have HLK := hide hLK
  generalize R.length = m at *
  clear hI hK hfe hLA hLF hLK h hmr hml
  have q30 : ¬ (30 : Int) < m := by omega
  go_enter Try.func7, Try.ntmps7
  go_wp2_with fail
  refine (unhide hf).mono ?_
  rintro e w1 ⟨rfl, b1⟩
  have B1 := hide b1
  clear b1
  go_wp2_with fail
  refine (unhide hA _ (unhide B1)).mono ?_
  rintro e w2 ⟨v, rfl, hO2, b2⟩
  obtain ⟨pa, pc, rfl, hi2⟩ := ints_own4 (unhide HLA) hO2
  have B2 := hide ((unhide B1).trans (b2.mono (unhide B1).size))
  have HI2 := hide hi2
  clear hO2 b2 hi2
  obtain ⟨V, v3, w3, hrun, hO3, hV, b3⟩ := unhide hAp w2 (unhide B2)
  obtain ⟨a3, c3, rfl⟩ := own_shape2 hO3
  have HRUN := hide hrun
  have HO3 := hide hO3
  have HV := hide hV
  have B3 := hide ((unhide B2).trans (b3.mono (unhide B2).size))
  have hsz3 := b3.size
  have B23' := hide b3
  clear hrun hO3 hV b3 hAp
  go_wp2_with (at_builtin; refine Lib.wpList_append_run _ rfl (.tmp 40) (.tmp 41) 22 22 rfl (.slice (some ⟨w2.heap.size, 0, none⟩) 0 0) (.slice a0 m c) rfl rfl (.slice a3 m c3) w3 (unhide HRUN) ?_)
  have B23 := hide (show Below w2.heap.size w2 w3 from unhide B23')
  go_loopw [9, 10] (fun v u wr => ∃ (k : Nat) (Us : List Value), k ≤ l ∧ u = .int .i64 k ∧ MoreAt wr w2.heap.size v m V K k Us ∧ Below w2.heap.size w2 wr) (fun _ u _ => l - (intOf u).toNat)
  case atStart => exact ⟨0, [], by omega, rfl, ⟨by rw [Nat.add_zero, List.append_nil]; exact unhide HO3, rfl, fun j _ hj => absurd hj (by omega)⟩, unhide B23⟩
  case round =>
    obtain ⟨k, Us, hk, rfl, hM, hb⟩ := hrel
    obtain ⟨a4, c4, rfl⟩ := own_shape2 hM.own
    have hbs := hb.size
    have HB := hide hb
    have BW := hide ((unhide B2).trans (hb.mono (unhide B2).size))
    by_cases hlt : k < l
    · have hltK : k < K.length := by rw [unhide HLK]; exact hlt
      obtain ⟨g, o, rfl, c0⟩ := ((unhide HK).below (unhide BW)) k (by rw [zs_length]; exact hltK)
      rw [zs_get K k hltK] at c0
      have HM := hide hM
      have q1 : (k : Int) < l := by omega
      have HY : Hid (∃ y, y = K[k]) := ⟨_, rfl⟩
      obtain ⟨y, hy⟩ := unhide HY
      rw [← hy] at c0
      have HYE := hide hy
      clear hM hb hy HY
      go_wp2_with (at_builtin; refine wpList_append_lies _ rfl _ _ 22 rfl w2.heap.size 23 i0 (.slice none 0 0) 1 24 Try.undIx hi0 hz0 hz1 hz2 rfl (by decide) _ _ _ rfl (((unhide HM).own.alloc _).alloc _) ⟨wr.heap.size + 1, 0, none⟩ 1 1 [.slice (some ⟨wr.heap.size, 0, none⟩) 1 1] ?cx rfl ?cn ?c2 (by omega) ?c3 ?c4 ?c5 _ rfl ?_)
      case cn =>
        have := news_lit (wr.alloc (.cells #[.int .i64 (y : Int)] 3)) [.slice (some ⟨wr.heap.size, 0, none⟩) 1 1] 23
        simpa using this
      case c2 => intro u hu; simp at hu; rw [hu]; rfl
      case c3 => unfold maxLen; omega
      case c4 => omega
      case c5 => simp; omega
      all_goals try rfl
      intro g7 cap7 w7 hown7 hgrow7 hat7 hlt7
      have hb7 : Below w2.heap.size wr w7 := (((Below.refl w2.heap.size _).alloc (by omega) _).alloc (by simp; omega) _).grown hgrow7 (by simp; omega) (fun q hq => ((unhide HM).own.lt q hq).1)
      have HM7 : Hid (MoreAt w7 w2.heap.size (.slice (some ⟨g7, 0, none⟩) (m + (k + 1)) cap7) m V K (k + 1) (Us ++ [.slice (some ⟨wr.heap.size, 0, none⟩) 1 1])) := by
        have hty : ∀ gb, (Value.slice a4 (m + k) c4).ownBlock = some gb → ∃ cur, wr.heap[gb]? = some (.cells cur 23 (0, 0)) := fun gb e => own_ty (unhide HM).own e
        have hkeep : ∀ (gb : Nat) (X : Array Value), wr.heap[gb]? = some (Obj.cells X 3 (0, 0)) → w7.heap[gb]? = some (Obj.cells X 3 (0, 0)) := fun gb X hX => by
          have hl := lt_of_block hX
          rw [hgrow7.block gb (by simp; omega) (fun e => by
            obtain ⟨cur, h2⟩ := hty gb e.symm
            rw [hX] at h2
            simp at h2)]
          rw [Below.heap_alloc _ _ _ (by simp; omega), Below.heap_alloc _ _ _ hl]
          exact hX
        refine ⟨?_, by simp [(unhide HM).len], fun j hj hjk => ?_⟩
        · exact hown7
        · by_cases e : j < k
          · obtain ⟨gb, h1, h2⟩ := (unhide HM).one j hj e
            refine ⟨gb, ?_, hkeep gb _ h2⟩
            rw [List.getElem?_append_left (by rw [(unhide HM).len]; exact e)]
            exact h1
          · obtain rfl : j = k := by omega
            refine ⟨wr.heap.size, ?_, ?_⟩
            · rw [List.getElem?_append_right (by rw [(unhide HM).len]; exact Nat.le_refl _), (unhide HM).len, Nat.sub_self]
              rfl
            · rw [hgrow7.block wr.heap.size (by simp; omega) (fun e => by
                have := ((unhide HM).own.lt _ e.symm).2
                omega), Below.heap_alloc _ _ _ (by simp), heap_alloc_new, unhide HYE]
      have HB7 := hide ((unhide HB).trans hb7)
      clear hown7 hgrow7 hat7 hb7 c0
      go_wp2
      go_roundw
      case rel => exact ⟨k + 1, _, by omega, by go_num, unhide HM7, unhide HB7⟩
      case measure => simp [intOf]; omega
    · have hkl : k = l := by omega
      subst hkl
      obtain ⟨a5, c5, e5, hr5⟩ := unhide HMR wr _ _ V Us hM (unhide HV) (unhide BW)
      simp only [Value.slice.injEq, true_and] at e5
      obtain ⟨rfl, _, rfl⟩ := e5
      have q1 : ¬ (k : Int) < k := by omega
      have HR5 := hide hr5
      have HI5 := hide ((unhide HI2).below hb)
      clear hM hb hr5
      go_wp2_with fail
      refine (unhide hF _ _ _ (unhide HR5)).mono ?_
      rintro e w6 ⟨v6, rfl, hO6, b6⟩
      obtain ⟨fa, fc, rfl, hi6⟩ := ints_own4 (unhide HLF) hO6
      have B6 := hide ((unhide BW).trans (b6.mono (unhide BW).size))
      have HI6 := hide hi6
      have HI7 := hide ((unhide HI5).below b6)
      clear hO6 b6 hi6
      go_wp2_with fail
      go_loopw [13] (fun v wr => w6 = wr ∧ ∃ i : Nat, i ≤ la ∧ v = .int .i64 i) (fun v _ => la - (intOf v).toNat)
      case atStart => exact ⟨rfl, 0, by omega, rfl⟩
      case round =>
        obtain ⟨rfl, i, hi, rfl⟩ := hrel
        by_cases hlt : i < la
        · have hltF : i < KN.length := by rw [unhide HLA]; exact hlt
          obtain ⟨g, o, rfl, c0⟩ := unhide HI7 i (by rw [zs_length]; exact hltF)
          rw [zs_get KN i hltF] at c0
          have hh := hide (ghas_any (zs FX) (KN[i] : Int) fa fc (by rw [zs_length, unhide HLF]; unfold maxLen; omega) w6 (unhide HI6))
          rw [zs_length, unhide HLF, decide_eq_true (show (KN[i] : Int) ∈ zs FX from List.mem_map.2 ⟨_, unhide HSUB _ (List.getElem_mem hltF), rfl⟩)] at hh
          have q8 : (i : Int) < la := by omega
          generalize KN[i] = y at *
          clear hltF
          go_wp2_with fail
          refine (unhide hh).mono ?_
          rintro e w7 ⟨rfl, rfl⟩
          go_wp2
          go_roundw
          case rel => exact ⟨trivial, i + 1, by omega, by go_num⟩
          case measure => simp [intOf]; omega
        · have q8 : ¬ (i : Int) < la := by omega
          go_wp2_with fail
          refine (unhide haw _).mono ?_
          rintro e w7 ⟨rfl, b7⟩
          have B7 := hide ((unhide B6).trans (b7.mono (unhide B6).size))
          clear b7
          go_wp2
          go_ret
          exact ⟨rfl, unhide B7⟩
theorem peelGauss_law (n : Int) (a0 : Option Addr) (Rs : List (List Int)) (c : Nat) (k0 : Option Addr) (Ks : List Int) (kc : Nat) (w : World) (hn : (Lit.int .i64 n).wf = true) (hI : RowsK w a0 Rs) (hO : RowsOk Rs a0 c) (hK : Ints w k0 Ks) (hKO : IntsOk Ks kc) :
    Calls Try.prog 7 #[.int .i64 n, .slice a0 Rs.length c, .slice k0 Ks.length kc] w fun e w' => e = .returned (.bool true) ∧ Below w.heap.size w w' := by
  have h1 : Rs.length ≤ maxLen := Nat.le_trans hO.1 hO.2.1
  have h2 : Ks.length ≤ maxLen := Nat.le_trans hKO.1 hKO.2.1
  by_cases h : (fewB n Rs && fewB n [Ks]) = true ∧ Rs.length ≤ 30 ∧ (mayB n Rs && mayB n [Ks]) = true
  · have hm := h.2.2
    rw [Bool.and_eq_true] at hm
    obtain ⟨k, R, K, rfl, rfl, rfl, hP⟩ := may_pl hm.1 hm.2
    have := peelGauss_on k R K hP a0 k0 c kc w hI hK h.1 (by have := h.2.1; rwa [List.length_map] at this)
    rw [List.length_map, zs_length]
    exact this
  · refine peelGauss_off n Rs Ks a0 k0 c kc (wf64 hn) h1 hO.2.2.1 h2 w hI.rowsA hK ?_
    cases h3 : (fewB n Rs && fewB n [Ks]) with
    | false => exact .inl rfl
    | true =>
      refine .inr ?_
      by_cases h5 : 30 < Rs.length
      · exact .inl h5
      · refine .inr ?_
        cases h4 : (mayB n Rs && mayB n [Ks]) with
        | false => rfl
        | true => exact absurd ⟨h3, by omega, h4⟩ h
end Go.Proofs.Ytfihpmhobjjaaaa

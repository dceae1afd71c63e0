/- gauss: equations; areEquations. -/
import Derived.Test.YtpcndjnhpjhjkaaDoorGaO
namespace Go.Proofs.YtpcndjnhpjhjkaaDoor
open Go.RowKit
set_option linter.unusedVariables false
attribute [local go_sem] Oper.semAt_some

theorem is_any (s : By) (size : Int) (w : World) (hs : s.length ≤ 100000) : Calls Tryd.prog 51 #[.string (bs s), .int .i64 size] w fun e w' => e = .returned (.bool (may size && decide ((s.length : Int) = size))) ∧ w = w' := by
  have hm := hide (isSize_any size)
  have h1 := bs_size s
  generalize bs s = S at *
  generalize s.length = n at *
  cases hM : may size with
  | false =>
    rw [hM] at hm
    clear hM
    go_enter Tryd.func51, Tryd.ntmps51
    go_wp2_with (go_at_call 46; refine (unhide hm _).mono ?_; rintro e w1 ⟨rfl, rfl⟩)
    go_ret
    exact ⟨rfl, rfl⟩
  | true =>
    rw [hM] at hm
    clear hM
    by_cases h : (n : Int) = size
    · rw [decide_eq_true h]
      have h' : ((n : Int) == size) = true := by simp [h]
      clear h
      go_enter Tryd.func51, Tryd.ntmps51
      go_wp2_with (go_at_call 46; refine (unhide hm _).mono ?_; rintro e w1 ⟨rfl, rfl⟩)
      go_ret
      exact ⟨rfl, rfl⟩
    · rw [decide_eq_false h]
      have h' : ((n : Int) == size) = false := by simp [h]
      go_enter Tryd.func51, Tryd.ntmps51
      go_wp2_with (go_at_call 46; refine (unhide hm _).mono ?_; rintro e w1 ⟨rfl, rfl⟩)
      go_ret
      exact ⟨rfl, rfl⟩
/-- equations: a row, and what its blocks add up to -/
abbrev Eq2 := List Int × By
/-- equations in a row of cells -/
def EqnsA (w : World) (a0 : Option Addr) (E : List Eq2) : Prop := ∀ i (h : i < E.length), ∃ g o, a0 = some ⟨g, o, none⟩ ∧ ∃ b c, w.cell? ⟨g, o + i * 2, none⟩ = some (.slice b E[i].1.length c) ∧ w.cell? ⟨g, o + i * 2 + 1, none⟩ = some (.string (bs E[i].2)) ∧ Ints w b E[i].1
theorem EqnsA.below {w w' : World} {a0 : Option Addr} {E : List Eq2} (h : EqnsA w a0 E) (hb : Below w.heap.size w w') : EqnsA w' a0 E := fun i hi => by
  obtain ⟨g, o, h1, b, c, h2, h3, h4⟩ := h i hi
  exact ⟨g, o, h1, b, c, cell_below h2 hb, cell_below h3 hb, h4.below hb⟩
/-- equations that may be -/
def eqB (n size : Int) (E : List Eq2) : Bool := may size && E.all (fun x => decide ((x.2.length : Int) = size)) && mayB n (E.map Prod.fst)
theorem zeroL_len (size : Int) : (zeroL size).length ≤ 64 := by
  by_cases h : may size = true
  · obtain ⟨h1, h2⟩ := may_iff.1 h
    obtain ⟨m, rfl⟩ : ∃ m : Nat, size = (m : Int) := ⟨size.toNat, by omega⟩
    rw [zeroL_nat m (by omega) (by omega), List.length_replicate]
    omega
  · unfold zeroL
    simp [h]
theorem zeroL_is {size : Int} (h : may size = true) : ((zeroL size).length : Int) = size := by
  obtain ⟨h1, h2⟩ := may_iff.1 h
  obtain ⟨m, rfl⟩ : ∃ m : Nat, size = (m : Int) := ⟨size.toNat, by omega⟩
  rw [zeroL_nat m (by omega) (by omega), List.length_replicate]
theorem made_rows (n : Nat) : (madeCells #[(Value.slice none 0 0)] n).toList = List.replicate n (Value.slice none 0 0) := toList_madeCells_one _ _
set_option maxRecDepth 100000 in
set_option maxHeartbeats 1000000 in
theorem areEq_any (n size : Int) (E : List Eq2) (a0 : Option Addr) (c : Nat) (hn : -9223372036854775808 ≤ n ∧ n ≤ 9223372036854775807) (hk : E.length ≤ 100000) (hk2 : ∀ x ∈ E, x.1.length ≤ maxLen ∧ x.2.length ≤ 100000) (w : World) (hE : EqnsA w a0 E) :
    Calls Tryd.prog 37 #[.int .i64 n, .int .i64 size, .slice a0 E.length c] w fun e w' => e = .returned (.bool (eqB n size E)) ∧ Below w.heap.size w w' := by
  have hz := hide (zero_any size)
  have hi0 := hide (fun W => is_any (zeroL size) size W (by have := zeroL_len size; omega))
  have hmy : Hid (∀ a0 c W, RowsA W a0 (E.map Prod.fst) → Calls Tryd.prog 16 #[.int .i64 n, .slice a0 E.length c] W fun e w' => e = .returned (.bool (mayB n (E.map Prod.fst))) ∧ W = w') := fun a0 c W h => by
    have := may_any n (E.map Prod.fst) a0 c hn (by rw [List.length_map]; unfold maxLen; omega) (fun r hr => by
      obtain ⟨x, hx, rfl⟩ := List.mem_map.1 hr
      exact (hk2 x hx).1) W h
    rwa [List.length_map] at this
  have his : Hid (∀ x ∈ E, ∀ W, Calls Tryd.prog 51 #[.string (bs x.2), .int .i64 size] W fun e w' => e = .returned (.bool (may size && decide ((x.2.length : Int) = size))) ∧ W = w') := fun x hx W => is_any x.2 size W (hk2 x hx).2
  have HE := hide hE
  cases hM : may size with
  | false =>
    have e : eqB n size E = false := by unfold eqB; rw [hM]; rfl
    rw [e]
    rw [hM] at hi0
    generalize E.length = m at *
    generalize bs (zeroL size) = Z at *
    clear hE hk2 e hM his
    go_enter Tryd.func37, Tryd.ntmps37
    go_wp2_with fail
    refine (unhide hz _).mono ?_
    rintro e w1 ⟨rfl, b1⟩
    have B1 := hide b1
    clear b1
    go_wp2_with fail
    refine (unhide hi0 _).mono ?_
    rintro e w2 ⟨rfl, rfl⟩
    go_wp2
    go_ret
    exact ⟨rfl, unhide B1⟩
  | true =>
    have HV : Hid (eqB n size E = (E.all (fun x => decide ((x.2.length : Int) = size)) && mayB n (E.map Prod.fst))) := by
      show _ = _
      unfold eqB
      rw [hM, Bool.true_and]
    generalize eqB n size E = V at *
    rw [hM, decide_eq_true (zeroL_is hM), Bool.true_and] at hi0
    simp only [hM, Bool.true_and] at his
    generalize hL : E.length = m at *
    have HL := hide hL
    generalize bs (zeroL size) = Z at *
    obtain ⟨i0, hi, hz0, hz1, hz2⟩ : ∃ i, Tryd.prog.info? 32 = some i ∧ i.zero = some (.slice none 0 0) ∧ i.size = 1 ∧ i.bytes = 24 := by
      have h := Tryd.infoR
      cases hh : Tryd.prog.info? 32 with
      | none => rw [hh] at h; cases h
      | some i =>
        rw [hh] at h
        simp only [Option.map_some, Option.some.injEq, Prod.mk.injEq] at h
        exact ⟨i, rfl, h.1, h.2.1, h.2.2⟩
    clear hE hk2 hM hL
    go_enter Tryd.func37, Tryd.ntmps37
    go_wp2_with fail
    refine (unhide hz _).mono ?_
    rintro e w1 ⟨rfl, b1⟩
    have B1 := hide b1
    clear b1
    go_wp2_with fail
    refine (unhide hi0 _).mono ?_
    rintro e w2 ⟨rfl, rfl⟩
    go_wp2_with (at_make; refine wpList_make_full _ rfl _ _ 22 rfl w1.heap.size 32 i0 (.slice none 0 0) 1 Tryd.undR hi hz0 hz1 .i64 .i64 _ _ m rfl rfl rfl rfl ?c2 ?c3 ?c4 ?_)
    case c2 => rw [hz2]; omega
    case c3 => unfold maxLen; omega
    case c4 => exact Nat.le_refl _
    intro w2 hown hgrow
    have hb2 := hide ((Below.refl _ _).grown hgrow (Nat.le_refl _) (by intro k hk; cases hk))
    rw [made_rows] at hown
    have HO2 := hide hown
    clear hown hgrow
    go_wp2_with fail
    go_loopw [20] (fun v wr => ∃ (k : Nat) (Vs : List Value), k ≤ m ∧ v = .int .i64 k ∧ (∀ x ∈ E.take k, (x.2.length : Int) = size) ∧ wr.ownsRow w1.heap.size 32 1 (.slice (some ⟨w1.heap.size, 0, none⟩) m m) m Vs ∧ (∀ j (h : j < E.length), j < k → ∃ b c, Vs[j]? = some (.slice b E[j].1.length c) ∧ Ints w b E[j].1) ∧ Below w1.heap.size w1 wr) (fun v _ => m - (intOf v).toNat)
    case atStart => exact ⟨0, _, by omega, rfl, by simp, unhide HO2, fun j _ h => absurd h (by omega), unhide hb2⟩
    case round =>
      obtain ⟨k, Vs, hk', rfl, ha, hO, hVs, hB⟩ := hrel
      have HO := hide hO
      have HB := hide hB
      have HVs := hide hVs
      have HA := hide ha
      have BW := hide ((unhide B1).trans (hB.mono (unhide B1).size))
      clear hO hB hVs ha
      by_cases hlt : k < m
      · have hlt' : k < E.length := by rw [unhide HL]; exact hlt
        obtain ⟨g, o, rfl, b, cc, d0, d1, hIk⟩ := unhide HE k hlt'
        have c0 := cell_below d0 (unhide BW)
        have c1 := cell_below d1 (unhide BW)
        have q1 : (k : Int) < m := by omega
        have hisk := hide (unhide his _ (List.getElem_mem hlt'))
        have HI := hide hIk
        clear d0 d1 hIk
        by_cases hsz : (E[k].2.length : Int) = size
        · rw [decide_eq_true hsz] at hisk
          have HA2 : Hid (∀ x ∈ E.take (k + 1), (x.2.length : Int) = size) := by
            intro x hx
            rw [List.take_succ_eq_append_getElem hlt', List.mem_append] at hx
            rcases hx with hx | hx
            · exact unhide HA x hx
            · simp at hx; rw [hx]; exact hsz
          have hVl : Vs.length = m := by have := (unhide HO).1; omega
          have hO3 := (unhide HO).alloc (.cells #[.slice b E[k].1.length cc, .string (bs E[k].2)] 58)
          have hfz := hO3.frozenAt k
          obtain ⟨u, hce⟩ : ∃ u, (wr.alloc (.cells #[.slice b E[k].1.length cc, .string (bs E[k].2)] 58)).cell? ⟨w1.heap.size, k, none⟩ = some u := ⟨_, (hO3.cellAt k (by omega)).trans (List.getElem?_eq_getElem (by omega))⟩
          have HST := hide ((hO3.stored k (.slice b E[k].1.length cc)).1)
          have HB2 := hide (((unhide HB).alloc (unhide HB).size (.cells #[.slice b E[k].1.length cc, .string (bs E[k].2)] 58)).setCell (p := ⟨w1.heap.size, k, none⟩) (Nat.le_refl _) (.slice b E[k].1.length cc))
          have HV2 : Hid (∀ j (h : j < E.length), j < k + 1 → ∃ b' c', (Vs.set k (.slice b E[k].1.length cc))[j]? = some (.slice b' E[j].1.length c') ∧ Ints w b' E[j].1) := by
            intro j hj hjk
            by_cases e : j = k
            · subst e
              exact ⟨b, cc, by rw [List.getElem?_set_self (by omega)], unhide HI⟩
            · obtain ⟨b', c', e1, e2⟩ := unhide HVs j hj (by omega)
              exact ⟨b', c', by rw [List.getElem?_set_ne (by omega)]; exact e1, e2⟩
          generalize E[k].1.length = rl at *
          generalize bs E[k].2 = S at *
          clear hO3 hsz hVl
          go_wp2_with fail
          refine (unhide hisk _).mono ?_
          rintro e w5 ⟨rfl, rfl⟩
          go_wp2
          go_roundw
          case rel => exact ⟨k + 1, _, by omega, by go_num, unhide HA2, unhide HST, unhide HV2, unhide HB2⟩
          case measure => simp [intOf]; omega
        · rw [decide_eq_false hsz] at hisk
          have e2 : V = false := by
            rw [unhide HV]
            have : E.all (fun x => decide ((x.2.length : Int) = size)) = false := by
              apply Bool.eq_false_iff.2
              intro h
              rw [List.all_eq_true] at h
              exact hsz (of_decide_eq_true (h _ (List.getElem_mem hlt')))
            rw [this]
            rfl
          subst e2
          have BN := hide ((unhide BW).alloc (unhide BW).size (.cells #[.slice b E[k].1.length cc, .string (bs E[k].2)] 58))
          generalize E[k].1.length = rl at *
          generalize bs E[k].2 = S at *
          clear hsz
          go_wp2_with fail
          refine (unhide hisk _).mono ?_
          rintro e w5 ⟨rfl, rfl⟩
          go_wp2
          go_ret
          exact ⟨rfl, unhide BN⟩
      · have hkm : k = m := by omega
        subst hkm
        have hRA : RowsA wr (some ⟨w1.heap.size, 0, none⟩) (E.map Prod.fst) := fun j hj => by
          have hj' : j < E.length := by simpa using hj
          obtain ⟨b', c', e1, e2⟩ := unhide HVs j hj' (by rw [← unhide HL]; exact hj')
          have e3 : (E.map Prod.fst)[j] = E[j].1 := by simp
          refine ⟨_, _, rfl, b', c', ?_, by rw [e3]; exact e2.below (unhide BW)⟩
          rw [Nat.zero_add, (unhide HO).cellAt j (by have := unhide HL; omega), e1, e3]
        have hmm := hide (unhide hmy _ k wr hRA)
        have e2 : V = mayB n (E.map Prod.fst) := by
          have h := unhide HV
          have h2 := unhide HA
          rw [List.take_of_length_le (by rw [unhide HL]; exact Nat.le_refl _)] at h2
          rw [List.all_eq_true.2 (fun x hx => decide_eq_true (h2 x hx)), Bool.true_and] at h
          exact h
        rw [← e2] at hmm
        have q1 : ¬ (k : Int) < k := by omega
        clear hRA e2
        go_wp2_with fail
        refine (unhide hmm).mono ?_
        rintro e w5 ⟨rfl, rfl⟩
        go_wp2
        go_ret
        exact ⟨rfl, unhide BW⟩
end Go.Proofs.YtpcndjnhpjhjkaaDoor

/- Contracts of the document's bits: Of, List, Set, Rank, Nth. -/
import Derived.Test.YtfcgbalcdnfmaaaBrA
import Derived.Test.YtfcgbalcdnfmaaaBtD
namespace Go.Proofs.Ytfcgbalcdnfmaaa
open Go.RowKit
set_option linter.unusedVariables false

set_option maxHeartbeats 2000000 in
theorem rlist_any (n : Int) (s : By) (w : World) (hs : s.length ≤ maxLen) : Calls Try.prog 13 #[.int .i64 n, .string (bs s)] w fun e w' => ∃ v, e = .returned (.tuple #[v, .int .i64 (listE n s)]) ∧ OwnI w' w.heap.size v (listR n s) ∧ Below w.heap.size w w' := by
  have hc := hide (fun w => rcheck_any n s w hs)
  unfold listE listR
  cases hC : chkI n s with
  | false =>
    rw [hC] at hc
    rw [if_neg (by simp), if_neg (by simp)]
    generalize bs s = S at *
    clear hC
    go_enter Try.func13, Try.ntmps13
    go_wp2_with fail
    refine (unhide hc _).mono ?_
    rintro e w1 ⟨rfl, rfl⟩
    go_wp2
    go_ret2
    exact ⟨_, rfl, World.ownsRow_nil _ _ _ _, Below.refl _ _⟩
  | true =>
    rw [hC] at hc
    rw [if_pos rfl, if_pos rfl]
    have h0 : 0 ≤ n := by
      unfold chkI at hC
      rw [Bool.and_eq_true, decide_eq_true_iff] at hC
      exact hC.1
    obtain ⟨m, rfl⟩ : ∃ m : Nat, n = m := ⟨n.toNat, by omega⟩
    rw [chkI_nat] at hC
    obtain ⟨c1, c2, c3⟩ := chk_iff.1 hC
    have hW := wid_le20 m c1
    rw [Int.toNat_natCast]
    have hhas := hide (fun (i : Nat) w (hi : i ≤ 1000000) => rhas_any s i w (by omega) (by omega))
    obtain ⟨i0, hi, hz0, hz1, hz2⟩ := info_parts Try.infoI
    clear hC c2 c3 hs
    go_enter Try.func13, Try.ntmps13
    go_wp2_with fail
    refine (unhide hc _).mono ?_
    rintro e w1 ⟨rfl, rfl⟩
    go_wp2
    go_loopw [6, 7] (fun v i wr => ∃ k : Nat, k ≤ m ∧ i = .int .i64 k ∧ wr.ownsRow w.heap.size 3 1 v (rankN s k) (ic (listN s k)) ∧ Below w.heap.size w wr) (fun _ i _ => m - (intOf i).toNat)
    case atStart => exact ⟨0, Nat.zero_le _, rfl, World.ownsRow_nil _ _ _ _, Below.refl _ _⟩
    case round =>
      obtain ⟨k, hk, rfl, hown, hb⟩ := hrel
      obtain ⟨ao, cap, rfl⟩ := own_shape' hown
      have HO := hide hown
      have HB := hide hb
      have hz := hb.size
      have hrk := rankN_le s k
      clear hown hb
      by_cases hlt : k < m
      · have q1 : (k : Int) < m := by omega
        have hq := hide (fun w => unhide hhas k w (by omega))
        rw [hasI_nat] at hq
        cases hv : bitAt s k with
        | true =>
          rw [hv] at hq
          have e1 := hide (listN_yes hv)
          have e2 := hide (rankN_yes hv)
          generalize rankN s k = rk at *
          clear hv
          go_wp2_with (first | (go_at_call 25; refine (unhide hq _).mono ?_; rintro e w2 ⟨rfl, rfl⟩) | (at_builtin; refine wpList_append_own _ rfl _ _ 22 rfl w.heap.size 3 i0 (.int .i64 0) 1 8 Try.undI hi hz0 hz1 hz2 rfl (by decide) _ _ _ rfl ((unhide HO).alloc _) ⟨wr.heap.size, 0, none⟩ 1 1 [.int .i64 k] rfl rfl (news_lit _ [_] _) ?d2 ?d3 ?d4 ?d5 ?_))
          case d2 => first | rfl | (intro u hu; simp at hu; subst hu; rfl)
          case d3 => unfold maxLen; omega
          case d4 => omega
          case d5 => first | omega | (simp; omega)
          intro v' w3 hown' hgrow _
          have hb' := hide ((((unhide HB).alloc (by omega) _)).grown hgrow (by simp; omega) (fun k hk => (((unhide HO).lt k hk).1)))
          have ho2 : Hid (w3.ownsRow w.heap.size 3 1 v' (rankN s (k + 1)) (ic (listN s (k + 1)))) := by
            show World.ownsRow _ _ _ _ _ _ _
            rw [unhide e1, unhide e2, ic_append]
            exact hown'
          obtain ⟨ao', cap', rfl⟩ := own_shape' hown'
          clear hown' hgrow HO HB
          go_wp2
          go_roundw
          case rel => exact ⟨k + 1, by omega, by go_num, unhide ho2, unhide hb'⟩
          case measure => simp [intOf]; omega
        | false =>
          rw [hv] at hq
          have e1 := listN_no hv
          have e2 := rankN_no hv
          rw [← e1, ← e2] at HO
          rw [← e2] at hrk ⊢
          generalize hrr : rankN s (k + 1) = rk at *
          have HRR := hide hrr
          clear hv e1 e2 hrr
          go_wp2_with (go_at_call 25; refine (unhide hq _).mono ?_; rintro e w2 ⟨rfl, rfl⟩)
          go_roundw
          case rel => exact ⟨k + 1, by omega, by go_num, by rw [unhide HRR]; exact unhide HO, unhide HB⟩
          case measure => simp [intOf]; omega
      · have hke : k = m := by omega
        subst hke
        have q1 : ¬ (k : Int) < k := by omega
        have ho2 : Hid (OwnI wr w.heap.size (.slice ao (rankN s k) cap) (listN s k)) := by
          show World.ownsRow _ _ _ _ _ _ _
          rw [listN_length]
          exact unhide HO
        generalize rankN s k = rk at *
        clear HO
        go_wp2
        go_ret2
        exact ⟨_, rfl, unhide ho2, unhide HB⟩

set_option maxRecDepth 100000 in
set_option maxHeartbeats 2000000 in
theorem rof_any (n : Int) (l : List Int) (a0 : Option Addr) (c : Nat) (w : World) (hT : Ints w a0 l) (h2 : l.length ≤ 100000) (hcc : l.length ≤ c) :
    Calls Try.prog 11 #[.int .i64 n, .slice a0 l.length c] w fun e w' => e = .returned (.tuple #[.string (bs (ofR n l)), .int .i64 (ofE n l)]) ∧ Below w.heap.size w w' := by
  by_cases hb0 : 0 ≤ n ∧ n < 161
  · obtain ⟨m, rfl⟩ : ∃ m : Nat, n = m := ⟨n.toNat, by omega⟩
    have hmk := hide (fun w' (hb : Below w.heap.size w w') => rmake_any m l a0 c w' (hT.below hb) (by omega) h2)
    have HMK : Hid (allLow l m → mkL m l = makeP (wid m) (fun i => decide ((i : Int) ∈ l))) := fun hal => makeP_congr (fun i hi => by
      rw [Bool.eq_iff_iff]
      simp
      intro h
      have := hal _ h
      omega)
    have hh := hide (fun (k : Nat) (x : Int) (hk : k ≤ l.length) w' (hb : Below w.heap.size w w') => rhasl_any (l.take k) x a0 c w' ((hT.below hb).take k) (by rw [List.length_take]; omega))
    have hE : Hid (ofE m l = if ¬ allLow l m then 1 else if ¬ l.Nodup then 5 else 0) := by
      show _ = _
      unfold ofE
      by_cases h : allLow l m
      · rw [if_neg (show ¬ ¬ ((0 ≤ (m : Int) ∧ (m : Int) < 161) ∧ allLow l m) from fun h' => h' ⟨by omega, h⟩), if_neg (show ¬ ¬ allLow l m from fun h' => h' h)]
      · rw [if_pos (fun h' => h h'.2), if_pos h]
    have hR : Hid (ofR m l = if ofE m l = 0 then makeP (wid m) (fun i => decide ((i : Int) ∈ l)) else []) := rfl
    generalize hRR : bs (ofR m l) = R
    have HRR := hide hRR
    generalize ofE m l = E at *
    generalize hMM : bs (mkL m l) = MK at *
    have HMM := hide hMM
    clear hMM
    have HT := hide hT
    generalize hn : l.length = ln at *
    have HN := hide hn
    have d0 : decide ((m : Int) < 0) = false := decide_eq_false (by omega)
    have d1 : decide ((160 : Int) < m) = false := decide_eq_false (by omega)
    clear hRR hT hn
    go_enter Try.func11, Try.ntmps11
    go_wp2_with fail
    go_loopw [6] (fun i wr => w = wr ∧ ∃ k : Nat, k ≤ ln ∧ i = .int .i64 k ∧ allLow (l.take k) m) (fun i _ => ln - (intOf i).toNat)
    case atStart => exact ⟨rfl, 0, Nat.zero_le _, rfl, fun s hs => by simp at hs⟩
    case round =>
      obtain ⟨rfl, k, hk, rfl, ha⟩ := hrel
      by_cases hlt : k < ln
      · have hlt' : k < l.length := by rw [unhide HN]; exact hlt
        obtain ⟨g, o, rfl, hc0⟩ := unhide HT k hlt'
        have q2 : (k : Int) < ln := by omega
        by_cases hl : 0 ≤ l[k] ∧ l[k] < m
        · have HA := hide (allLow_snoc hlt' ha hl)
          have g1 : ¬ l[k] < 0 := by omega
          have g2 : ¬ (m : Int) ≤ l[k] := by omega
          generalize l[k] = B at *
          clear ha hl hlt'
          go_wp2
          go_roundw
          case rel => exact ⟨trivial, k + 1, by omega, by go_num, unhide HA⟩
          case measure => simp [intOf]; omega
        · have hno : ¬ allLow l m := fun h => hl (h _ (List.getElem_mem hlt'))
          have hE1 : E = 1 := by rw [unhide hE, if_pos hno]
          have HE1 := hide hE1
          have HR0 : Hid (R = ⟨#[]⟩) := by
            show _ = _
            rw [← unhide HRR, unhide hR, if_neg (by rw [hE1]; decide)]; rfl
          by_cases hneg : l[k] < 0
          · generalize l[k] = B at *
            clear ha hl hlt' hno hE1
            go_wp2
            go_ret2
            exact ⟨by rw [unhide HE1, unhide HR0]; rfl, Below.refl _ _⟩
          · have g2 : (m : Int) ≤ l[k] := by omega
            generalize l[k] = B at *
            clear ha hl hlt' hno hE1
            go_wp2
            go_ret2
            exact ⟨by rw [unhide HE1, unhide HR0]; rfl, Below.refl _ _⟩
      · have hkl : k = ln := by omega
        subst hkl
        have q2 : ¬ (k : Int) < k := by omega
        rw [← unhide HN, List.take_length] at ha
        have HAL := hide ha
        have hEa := unhide hE
        rw [if_neg (fun h => h ha)] at hEa
        have HEA := hide hEa
        clear ha hEa
        go_wp2_with fail
        go_loopw [7] (fun i wr => ∃ q : Nat, q ≤ k ∧ i = .int .i64 q ∧ (l.take q).Nodup ∧ Below w.heap.size w wr) (fun i _ => k - (intOf i).toNat)
        case atStart => exact ⟨0, Nat.zero_le _, rfl, by simp, Below.refl _ _⟩
        case round =>
          obtain ⟨q, hq, rfl, hnd, hb⟩ := hrel
          have HB := hide hb
          by_cases hqk : q < k
          · have hlt' : q < l.length := by rw [unhide HN]; exact hqk
            obtain ⟨g, o, rfl, hc0⟩ := unhide HT q hlt'
            have hc := cell_below hc0 hb
            have q3 : (q : Int) < k := by omega
            have q4 : (q : Int) ≤ c := by omega
            have q5 : (q : Int) ≤ k := by omega
            have hcl := hide (fun (y : Gb wr) => unhide hh q l[q] (by omega) y.w ((unhide HB).trans (y.ok.mono (unhide HB).size)))
            rw [show (l.take q).length = q by rw [List.length_take]; omega] at hcl
            by_cases hin : l[q] ∈ l.take q
            · rw [decide_eq_true hin] at hcl
              have hnn : ¬ l.Nodup := fun h => by
                have h3 := List.Sublist.nodup (List.take_sublist (q + 1) l) h
                rw [List.take_succ_eq_append_getElem hlt', List.nodup_append] at h3
                exact h3.2.2 _ hin l[q] (by simp) rfl
              have hE5 : E = 5 := by rw [unhide HEA, if_pos hnn]
              have HE5 := hide hE5
              have HR0 : Hid (R = ⟨#[]⟩) := by
                show _ = _
                rw [← unhide HRR, unhide hR, if_neg (by rw [hE5]; decide)]; rfl
              generalize l[q] = B at *
              clear hnd hb hin hnn hE5 hc0 hlt'
              go_wp2_with fail
              have hne := gb_ne wr
              have hcX : ∀ y : Gb wr, y.w.cell? ⟨g, o + q, none⟩ = some (.int .i64 B) := fun y => gb_cell hc y
              refine wp_region_gr (fun x => Below wr.heap.size wr x) (by kernel_rfl) (by kernel_rfl) (gb_start wr) ?_
              repeat (go_big_quiet_step ((go_at_call 38; exact gb_same (unhide hcl _))))
              refine wpQuiet_nil ?_
              rintro w7 ⟨⟨_, b7⟩, rfl⟩
              have B7 := hide ((unhide HB).trans (b7.mono (unhide HB).size))
              clear b7 hne hcX
              go_wp2
              go_ret2
              exact ⟨by rw [unhide HE5, unhide HR0]; rfl, unhide B7⟩
            · rw [decide_eq_false hin] at hcl
              have HND := hide (nodup_take_snoc hlt' hnd hin)
              generalize l[q] = B at *
              clear hnd hb hin hc0 hlt'
              go_wp2_with fail
              have hne := gb_ne wr
              have hcX : ∀ y : Gb wr, y.w.cell? ⟨g, o + q, none⟩ = some (.int .i64 B) := fun y => gb_cell hc y
              refine wp_region_gr (fun x => Below wr.heap.size wr x) (by kernel_rfl) (by kernel_rfl) (gb_start wr) ?_
              repeat (go_big_quiet_step ((go_at_call 38; exact gb_same (unhide hcl _))))
              refine wpQuiet_nil ?_
              rintro w7 ⟨⟨_, b7⟩, rfl⟩
              have B7 := hide ((unhide HB).trans (b7.mono (unhide HB).size))
              clear b7 hne hcX
              go_wp2
              go_roundw
              case rel => exact ⟨q + 1, by omega, by go_num, unhide HND, unhide B7⟩
              case measure => simp [intOf]; omega
          · have hqe : q = k := by omega
            subst hqe
            have q3 : ¬ (q : Int) < q := by omega
            rw [← unhide HN, List.take_length] at hnd
            have hE0 : E = 0 := by rw [unhide HEA, if_neg (fun h => h hnd)]
            have HE0 := hide hE0
            have HR0 : Hid (R = MK) := by
              show _ = _
              rw [← unhide HRR, unhide hR, if_pos hE0, ← unhide HMK (unhide HAL), unhide HMM]
            clear hnd hb hE0
            go_wp2_with fail
            refine (unhide hmk _ (unhide HB)).mono ?_
            rintro e w8 ⟨rfl, b8⟩
            have B8 := hide ((unhide HB).trans (b8.mono (unhide HB).size))
            clear b8 HB
            go_wp2
            go_ret2
            exact ⟨by rw [unhide HE0, unhide HR0]; rfl, unhide B8⟩
  · have e1 : ofE n l = 1 := by unfold ofE; rw [if_pos (fun h => hb0 h.1)]
    have e2 : ofR n l = [] := by unfold ofR; rw [e1]; rfl
    rw [e1, e2]
    clear e1 e2 hT
    generalize l.length = ln at *
    by_cases h0 : n < 0
    · go_enter Try.func11, Try.ntmps11
      go_wp2
      go_ret2
      exact ⟨rfl, Below.refl _ _⟩
    · have h1 : 160 < n := by omega
      go_enter Try.func11, Try.ntmps11
      go_wp2
      go_ret2
      exact ⟨rfl, Below.refl _ _⟩

/-- Set's answer: with a number, or without -/
def setE (n : Int) (s : By) (i : Int) : Int := oneE n s i
def setR (n : Int) (s : By) (i : Int) (b : Bool) : By := if b then withR n s i else woutR n s i
theorem filter_snoc (l : List Int) (x : Int) (k : Nat) (hk : k < l.length) : (l.take (k + 1)).filter (fun y => decide (y ≠ x)) = if l[k] = x then (l.take k).filter (fun y => decide (y ≠ x)) else (l.take k).filter (fun y => decide (y ≠ x)) ++ [l[k]] := by
  rw [List.take_succ_eq_append_getElem hk, List.filter_append]
  split
  · rename_i h; simp [h]
  · rename_i h; simp [h]
theorem listE_cases (n : Int) (s : By) : (chkI n s = true ∧ listE n s = 0 ∧ listR n s = listN s n.toNat) ∨ (chkI n s = false ∧ listE n s = 3 ∧ listR n s = []) := by
  unfold listE listR
  cases h : chkI n s
  · exact .inr ⟨rfl, by simp, by simp⟩
  · exact .inl ⟨rfl, by simp, by simp⟩
theorem set_bits {m k : Nat} {s : By} (hm : m ≤ 160) (hk : k < m) (hc : chk m s = true) (b : Bool) (l : List Int) (hl : l = (listN s m).filter (fun y => decide (y ≠ (k : Int))) ++ (if b then [(k : Int)] else [])) : mkL m l = setR m s k b := by
  have hE : oneE m s k = 0 := by
    unfold oneE
    rw [chkI_nat, hc, if_neg (by simp), if_neg (fun h => h (by omega))]
  have hl' : ∀ i : Nat, i < 8 * wid m → (decide (i < m) && decide ((i : Int) ∈ l)) = (if b then bitAt s i || decide ((i : Int) = (k : Int)) else bitAt s i && !decide ((i : Int) = (k : Int))) := by
    intro i hi
    have hmem : ((i : Int) ∈ (listN s m).filter (fun y => decide (y ≠ (k : Int)))) ↔ i < m ∧ bitAt s i = true ∧ i ≠ k := by
      rw [List.mem_filter, listN_mem]
      constructor
      · rintro ⟨⟨j, h1, h2, h3⟩, h4⟩
        have : i = j := by omega
        subst this
        simp at h4
        exact ⟨h1, h2, by omega⟩
      · rintro ⟨h1, h2, h3⟩
        exact ⟨⟨i, h1, h2, rfl⟩, by simp; omega⟩
    have hhi := fun h => chk_hi hc i h
    rw [hl, Bool.eq_iff_iff]
    cases b
    · simp only [Bool.and_eq_true, decide_eq_true_iff, Bool.false_eq_true, if_false, List.append_nil, hmem, Bool.not_eq_true', decide_eq_false_iff_not]
      constructor
      · rintro ⟨_, _, h2, h3⟩; exact ⟨h2, by omega⟩
      · rintro ⟨h2, h3⟩
        have : i < m := by
          rcases Nat.lt_or_ge i m with h | h
          · exact h
          · rw [hhi h] at h2; cases h2
        exact ⟨this, this, h2, by omega⟩
    · simp only [Bool.and_eq_true, decide_eq_true_iff, if_true, List.mem_append, List.mem_singleton, hmem, Bool.or_eq_true]
      constructor
      · rintro ⟨_, ⟨_, h2, _⟩ | h⟩
        · exact .inl h2
        · exact .inr h
      · rintro (h2 | h)
        · have : i < m := by
            rcases Nat.lt_or_ge i m with h | h
            · exact h
            · rw [hhi h] at h2; cases h2
          by_cases e : i = k
          · exact ⟨this, .inr (by omega)⟩
          · exact ⟨this, .inl ⟨this, h2, e⟩⟩
        · exact ⟨by omega, .inr h⟩
  unfold mkL setR
  rw [makeP_congr hl']
  cases b
  · rw [if_neg (by simp)]
    unfold woutR
    rw [if_pos hE, Int.toNat_natCast]
    exact makeP_congr (fun i _ => by simp)
  · rw [if_pos rfl]
    unfold withR
    rw [if_pos hE, Int.toNat_natCast]
    exact makeP_congr (fun i _ => by simp)
set_option maxRecDepth 100000 in
set_option maxHeartbeats 4000000 in
theorem rset_any (n : Int) (s : By) (i : Int) (b : Bool) (w : World) (hs : s.length ≤ maxLen) :
    Calls Try.prog 22 #[.int .i64 n, .string (bs s), .int .i64 i, .bool b] w fun e w' => e = .returned (.tuple #[.string (bs (setR n s i b)), .int .i64 (oneE n s i)]) ∧ Below w.heap.size w w' := by
  have hli := hide (fun w => rlist_any n s w hs)
  have hRe : oneE n s i ≠ 0 → setR n s i b = [] := fun h => by
    unfold setR withR woutR
    rw [if_neg h, if_neg h]
    cases b <;> rfl
  rcases listE_cases n s with ⟨hC, hE, hL⟩ | ⟨hC, hE, hL⟩
  · rw [hE, hL] at hli
    have h0 : 0 ≤ n := by
      unfold chkI at hC
      rw [Bool.and_eq_true, decide_eq_true_iff] at hC
      exact hC.1
    obtain ⟨m, rfl⟩ : ∃ m : Nat, n = m := ⟨n.toNat, by omega⟩
    rw [Int.toNat_natCast] at hli hL
    rw [chkI_nat] at hC
    have hm := (chk_iff.1 hC).1
    have hone : oneE m s i = if ¬ (0 ≤ i ∧ i < m) then 1 else 0 := by unfold oneE; rw [chkI_nat, hC, if_neg (by simp)]
    by_cases hi : 0 ≤ i ∧ i < m
    · obtain ⟨k, rfl⟩ : ∃ k : Nat, i = k := ⟨i.toNat, by omega⟩
      rw [if_neg (fun h => h hi)] at hone
      rw [hone]
      have HSB := hide (fun l hl => set_bits (m := m) (k := k) (s := s) hm (by omega) hC b l hl)
      have hmk := hide (fun l w a0 c hT h2 => rmake_any m l a0 c w hT (by omega) h2)
      have hll : (listN s m).length ≤ 160 := by rw [listN_length]; have := rankN_le s m; omega
      generalize hRR : bs (setR m s k b) = R
      have HRR := hide hRR
      generalize hLL : listN s m = L at *
      have q0 : decide ((k : Int) < 0) = false := decide_eq_false (by omega)
      have q1 : decide ((m : Int) ≤ k) = false := decide_eq_false (by omega)
      have q2 : decide (m ≤ k) = false := decide_eq_false (by omega)
      clear hRe hE hL hC hone hRR hLL h0 hi
      obtain ⟨i0, hi0, hz0, hz1, hz2⟩ := info_parts Try.infoI
      generalize bs s = S at *
      generalize hln : L.length = ln at *
      have HLN := hide hln
      clear hln
      go_enter Try.func22, Try.ntmps22
      go_wp2_with fail
      refine (unhide hli _).mono ?_
      rintro e w1 ⟨v, rfl, ho1, b1⟩
      obtain ⟨a1, c1, rfl, hT1, k1, k2⟩ := ho1.ints
      rw [unhide HLN] at k1 ⊢
      unfold maxLen at k2
      have HT1 := hide hT1
      have B1 := hide b1
      clear ho1 hT1 b1 hli
      go_wp2_with fail
      go_loopw [12, 13] (fun v i wr => ∃ q : Nat, q ≤ ln ∧ i = .int .i64 q ∧ OwnI wr w1.heap.size v ((L.take q).filter (fun y => decide (y ≠ (k : Int)))) ∧ Below w1.heap.size w1 wr) (fun _ i _ => ln - (intOf i).toNat)
      case atStart => exact ⟨0, Nat.zero_le _, rfl, World.ownsRow_nil _ _ _ _, Below.refl _ _⟩
      case round =>
        obtain ⟨q, hq, rfl, hown, hb⟩ := hrel
        obtain ⟨ao, cap, rfl⟩ := own_shape' (show World.ownsRow _ _ _ _ _ _ _ from hown)
        have hfl : ((L.take q).filter (fun y => decide (y ≠ (k : Int)))).length ≤ q := by
          have h1 := List.length_filter_le (fun y => decide (y ≠ (k : Int))) (L.take q)
          rw [List.length_take] at h1
          omega
        have HO := hide hown
        have HB := hide hb
        have hz := hb.size
        clear hown
        by_cases hlt : q < ln
        · have hlt' : q < L.length := by rw [unhide HLN]; exact hlt
          obtain ⟨g, o, rfl, hc0⟩ := unhide HT1 q hlt'
          have hc := cell_below hc0 hb
          have q3 : (q : Int) < ln := by omega
          have HF := hide (filter_snoc L k q hlt')
          by_cases hx : L[q] = k
          · have HN2 : Hid ((L.take (q + 1)).filter (fun y => decide (y ≠ (k : Int))) = (L.take q).filter (fun y => decide (y ≠ (k : Int)))) := by show _ = _; rw [unhide HF, if_pos hx]
            rw [hx] at hc
            have q5 : ((k : Int) == k) = true := by simp
            generalize hFF : (L.take q).filter (fun y => decide (y ≠ (k : Int))) = FF at *
            generalize FF.length = fl at *
            clear hx hc0 hb HF hlt'
            go_wp2
            go_roundw
            case rel => exact ⟨q + 1, by omega, by go_num, by rw [unhide HN2]; exact unhide HO, unhide HB⟩
            case measure => simp [intOf]; omega
          · have HN2 : Hid ((L.take (q + 1)).filter (fun y => decide (y ≠ (k : Int))) = (L.take q).filter (fun y => decide (y ≠ (k : Int))) ++ [L[q]]) := by show _ = _; rw [unhide HF, if_neg hx]
            have q5 : (L[q] == (k : Int)) = false := by rw [beq_eq_false_iff_ne]; exact hx
            generalize hFF : (L.take q).filter (fun y => decide (y ≠ (k : Int))) = FF at *
            have HO' : Hid (wr.ownsRow w1.heap.size 3 1 (.slice ao FF.length cap) FF.length (ic FF)) := unhide HO
            generalize L[q] = X at *
            generalize hfx : FF.length = fl at *
            have HFX := hide hfx
            clear hc0 hb HF hlt' hfx HO
            go_wp2_with (at_builtin; refine wpList_append_own _ rfl _ _ 22 rfl w1.heap.size 3 i0 (.int .i64 0) 1 8 Try.undI hi0 hz0 hz1 hz2 rfl (by decide) _ _ _ rfl ((unhide HO').alloc _) ⟨wr.heap.size, 0, none⟩ 1 1 [.int .i64 X] rfl rfl (news_lit _ [_] _) ?d2 ?d3 ?d4 ?d5 ?_)
            case d2 => first | rfl | (intro u hu; simp at hu; subst hu; rfl)
            case d3 => unfold maxLen; omega
            case d4 => omega
            case d5 => first | omega | (simp; omega)
            intro v' w3 hown' hgrow _
            have hb' := hide ((((unhide HB).alloc (by omega) _)).grown hgrow (by simp; omega) (fun k hk => (((unhide HO').lt k hk).1)))
            have ho2 : Hid (OwnI w3 w1.heap.size v' ((L.take (q + 1)).filter (fun y => decide (y ≠ (k : Int))))) := by
              show World.ownsRow _ _ _ _ _ _ _
              rw [unhide HN2, ic_append, List.length_append, unhide HFX]
              exact hown'
            obtain ⟨ao', cap', rfl⟩ := own_shape' hown'
            clear hown' hgrow HO' HB
            go_wp2
            go_roundw
            case rel => exact ⟨q + 1, by omega, by go_num, unhide ho2, unhide hb'⟩
            case measure => simp [intOf]; omega
        · have hqe : q = ln := by omega
          have q3 : ¬ (q : Int) < ln := by omega
          have htk : L.take q = L := by rw [hqe, ← unhide HLN, List.take_length]
          rw [htk] at HO hfl ⊢
          have BB := hide ((unhide B1).trans (hb.mono (unhide B1).size))
          clear htk hb
          cases b with
          | false =>
            have hmL := unhide HSB (L.filter (fun y => decide (y ≠ (k : Int)))) (by simp)
            obtain ⟨a2, c2, hv2, hT2, _, _⟩ := (unhide HO).ints
            have hcall := hide (unhide hmk (L.filter (fun y => decide (y ≠ (k : Int)))) wr a2 c2 hT2 (by omega))
            rw [hmL, unhide HRR] at hcall
            simp only [Value.slice.injEq] at hv2
            obtain ⟨rfl, hx9, rfl⟩ := hv2
            generalize (L.filter (fun y => decide (y ≠ (k : Int)))).length = fl at *
            clear hx9 hmL hT2 hqe
            go_wp2_with fail
            refine (unhide hcall).mono ?_
            rintro e w8 ⟨rfl, b8⟩
            have B8 := hide ((unhide BB).trans (b8.mono (unhide BB).size))
            clear b8 BB
            go_wp2
            go_ret2
            exact ⟨rfl, unhide B8⟩
          | true =>
            have hmL := hide (unhide HSB (L.filter (fun y => decide (y ≠ (k : Int))) ++ [(k : Int)]) (by simp))
            have HO' : Hid (wr.ownsRow w1.heap.size 3 1 (.slice ao (L.filter (fun y => decide (y ≠ (k : Int)))).length cap) (L.filter (fun y => decide (y ≠ (k : Int)))).length (ic (L.filter (fun y => decide (y ≠ (k : Int)))))) := unhide HO
            generalize hFF : L.filter (fun y => decide (y ≠ (k : Int))) = FF at *
            generalize hfx : FF.length = fl at *
            have HFX := hide hfx
            clear hqe hfx HO hFF
            go_wp2_with (at_builtin; refine wpList_append_own _ rfl _ _ 22 rfl w1.heap.size 3 i0 (.int .i64 0) 1 8 Try.undI hi0 hz0 hz1 hz2 rfl (by decide) _ _ _ rfl ((unhide HO').alloc _) ⟨wr.heap.size, 0, none⟩ 1 1 [.int .i64 k] rfl rfl (news_lit _ [_] _) ?d2 ?d3 ?d4 ?d5 ?_)
            case d2 => first | rfl | (intro u hu; simp at hu; subst hu; rfl)
            case d3 => unfold maxLen; omega
            case d4 => omega
            case d5 => first | omega | (simp; omega)
            intro v' w3 hown' hgrow _
            have hb' := hide ((((unhide HB).alloc (by omega) _)).grown hgrow (by simp; omega) (fun k hk => (((unhide HO').lt k hk).1)))
            have ho2 : OwnI w3 w1.heap.size v' (FF ++ [(k : Int)]) := by
              show World.ownsRow _ _ _ _ _ _ _
              rw [ic_append, List.length_append, unhide HFX]
              exact hown'
            obtain ⟨a2, c2, rfl, hT2, _, _⟩ := ho2.ints
            have hfl2 : (FF ++ [(k : Int)]).length = fl + 1 := by rw [List.length_append, unhide HFX]; rfl
            have hcall := hide (unhide hmk (FF ++ [(k : Int)]) w3 a2 c2 hT2 (by omega))
            rw [unhide hmL, unhide HRR, hfl2] at hcall
            rw [hfl2]
            have B3 := hide ((unhide B1).trans ((unhide hb').mono (unhide B1).size))
            clear hown' hgrow HO' HB ho2 hT2 hfl2 BB
            go_wp2_with fail
            refine (unhide hcall).mono ?_
            rintro e w8 ⟨rfl, b8⟩
            have B8 := hide ((unhide B3).trans (b8.mono (unhide B3).size))
            clear b8 B3
            go_wp2
            go_ret2
            exact ⟨rfl, unhide B8⟩
    · rw [if_pos hi] at hone
      rw [hone, hRe (by rw [hone]; decide)]
      clear hRe hE hL hC
      generalize hLL : listN s m = L at *
      clear hLL
      generalize bs s = S at *
      by_cases hneg : i < 0
      · go_enter Try.func22, Try.ntmps22
        go_wp2_with fail
        refine (unhide hli _).mono ?_
        rintro e w1 ⟨v, rfl, ho1, b1⟩
        have B1 := hide b1
        clear ho1 b1 hli
        go_wp2
        go_ret2
        exact ⟨rfl, unhide B1⟩
      · have q1 : (m : Int) ≤ i := by omega
        go_enter Try.func22, Try.ntmps22
        go_wp2_with fail
        refine (unhide hli _).mono ?_
        rintro e w1 ⟨v, rfl, ho1, b1⟩
        have B1 := hide b1
        clear ho1 b1 hli
        go_wp2
        go_ret2
        exact ⟨rfl, unhide B1⟩
  · rw [hE, hL] at hli
    have hone : oneE n s i = 3 := by unfold oneE; rw [hC, if_pos rfl]
    rw [hone, hRe (by rw [hone]; decide)]
    clear hRe hE hL hC hone
    generalize bs s = S at *
    go_enter Try.func22, Try.ntmps22
    go_wp2_with fail
    refine (unhide hli _).mono ?_
    rintro e w1 ⟨v, rfl, ho1, b1⟩
    have B1 := hide b1
    clear ho1 b1 hli
    go_wp2
    go_ret2
    exact ⟨rfl, unhide B1⟩

end Go.Proofs.Ytfcgbalcdnfmaaa

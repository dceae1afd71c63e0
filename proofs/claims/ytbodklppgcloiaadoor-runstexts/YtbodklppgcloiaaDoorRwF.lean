/- Contracts of the document's Unpack, Patch, Apply. -/
import Derived.Test.YtbodklppgcloiaaDoorRwE
namespace Go.Proofs.YtbodklppgcloiaaDoor
open Go.RowKit Go.Shelf
set_option linter.unusedVariables false
attribute [local go_sem] Oper.semAt_some

theorem drop_two {t : By} {i : Nat} (h : i + 1 < t.length) : t.drop i = t[i] :: t[i + 1] :: t.drop (i + 2) := by
  rw [List.drop_eq_getElem_cons (by omega), List.drop_eq_getElem_cons (by omega)]
theorem dN_short (n e : Nat) (t : By) (i : Nat) (h : ¬ i + 1 < t.length) : dN n e (t.drop i) = [] := by
  have hl : (t.drop i).length ≤ 1 := by rw [List.length_drop]; omega
  match hd : t.drop i with
  | [] => rfl
  | [a] => rfl
  | a :: b :: r => rw [hd] at hl; simp at hl
theorem dN_past {n e : Nat} (t : By) (h : ¬ e ≤ n) : dN n e t = [] := by
  match t with
  | [] => rfl
  | [a] => rfl
  | a :: b :: r => show (if e ≤ n then _ else _) = _; rw [if_neg h]
set_option maxRecDepth 100000 in
set_option maxHeartbeats 4000000 in
theorem runpack_any (n : Int) (t : By) (ht : t.length ≤ 100000) (w : World) : Calls Tryd.prog 20 #[.int .i64 n, .string (bs t)] w fun e w' => e = .returned (.tuple #[.string (bs (unpR n t)), .int .i64 (unpE n t)]) ∧ Below w.heap.size w w' := by
  by_cases hr : 0 ≤ n ∧ n ≤ 160
  · obtain ⟨m, rfl⟩ : ∃ m : Nat, n = m := ⟨n.toNat, by omega⟩
    have hm : m ≤ 160 := by omega
    have hdoc := hide (doc_unp m hm t)
    obtain ⟨i0, hi, hz0, hz1, hz2⟩ := info_parts Tryd.infoI
    have hpk := hide (fun w => rpack_any m (mkL m (dN m 0 t)) w (by unfold mkL; rw [makeP_length]; have := wid_small hm; unfold maxLen; omega))
    have hmk := hide (fun w a0 c hT (hl : (dN m 0 t).length ≤ 100000) => rmake_any m (dN m 0 t) a0 c w hT (by omega) hl)
    have hT : ∀ i (h : i < t.length), (bs t)[i]'(by rw [bs_size]; exact h) = t[i] := fun i h => by simp [bs, ByteArray.getElem_eq_getElem_data]
    have HT := hide hT
    have hsz : (bs t).size = t.length := bs_size t
    have HEQ := hide (fun x => bs_eq x t)
    have hmq : ¬ (160 : Int) < (m : Int) := by omega
    obtain ⟨T, hTT⟩ : ∃ T, T = bs t := ⟨_, rfl⟩
    rw [← hTT] at hsz ⊢
    have HTT := hide hTT
    clear hT hr hTT
    have hsz' : T.size ≤ 100000 := by omega
    go_enter Tryd.func20, Tryd.ntmps20
    go_wp2_with fail
    go_loopw [6, 7, 8] (fun v at' i wr => ∃ (k e : Nat) (X : List Int), k ≤ T.size ∧ e ≤ 700 ∧ i = .int .i64 k ∧ at' = .int .i64 e ∧ X.length ≤ e ∧ OwnI wr w.heap.size v X ∧ X ++ dN m e (t.drop k) = dN m 0 t ∧ Below w.heap.size w wr) (fun _ _ i _ => T.size - (intOf i).toNat)
    case atStart => exact ⟨0, 0, [], Nat.zero_le _, by omega, rfl, rfl, by simp, World.ownsRow_nil _ _ _ _, by simp, Below.refl _ _⟩
    case round =>
      obtain ⟨k, e, X, hk, he, rfl, rfl, hXe, hown, hX, hb⟩ := hrel
      by_cases hgo : k + 1 < T.size ∧ e ≤ m
      · obtain ⟨g1, g2⟩ := hgo
        have q1 : (k : Int) + 1 < (T.size : Int) := by omega
        have q2 : (e : Int) ≤ (m : Int) := by omega
        have hd := drop_two (t := t) (i := k) (by omega)
        have t0 := unhide HT k (by omega)
        have t1 := unhide HT (k + 1) (by omega)
        have ha := T[k].toNat_lt
        have hbb := (T[k + 1]'g1).toNat_lt
        have e0 : T[k] = t[k]'(by omega) := by rw [← t0]; simp only [unhide HTT]
        have e1 : T[k + 1]'g1 = t[k + 1]'(by omega) := by rw [← t1]; simp only [unhide HTT]
        rw [hd, ← e0, ← e1] at hX
        have hX2 : X ++ (inN m (e + T[k].toNat) (T[k + 1]'g1).toNat ++ dN m (e + T[k].toNat + (T[k + 1]'g1).toNat) (t.drop (k + 2))) = dN m 0 t := by
          rw [← hX]
          show _ = X ++ (if e ≤ m then _ else _)
          rw [if_pos g2]
        have HX := hide hX2
        have h1k : ((k : Int) + 1).toNat = k + 1 := by omega
        have HO := hide hown
        have HB := hide hb
        have hz := hb.size
        obtain ⟨ao, c0, rfl, _⟩ := hown.ints
        clear hown hb hX hX2 hd t0 t1 e0 e1
        generalize hLX : X.length = LX at *
        have HLX := hide hLX
        clear hLX
        have hkk : (k : Int) < (T.size : Int) := by omega
        go_wp2
        have HOX : Hid (wr.ownsRow w.heap.size 3 1 (.slice ao LX c0) LX (ic X)) := by
          have h := unhide HO
          unfold OwnI at h
          rw [unhide HLX] at h
          exact h
        go_loopw [6, 7, 9] (fun v at' i wr2 => ∃ q z : Nat, q ≤ (T[k + 1]'g1).toNat ∧ i = .int .i64 q ∧ at' = .int .i64 z ∧ z = e + T[k].toNat + q ∧ OwnI wr2 w.heap.size v (X ++ inN m (e + T[k].toNat) q) ∧ Below w.heap.size w wr2) (fun _ _ i _ => (T[k + 1]'g1).toNat - (intOf i).toNat)
        case atStart => exact ⟨0, e + T[k].toNat, Nat.zero_le _, rfl, by go_num, rfl, by rw [show inN m (e + T[k].toNat) 0 = [] from rfl, List.append_nil]; unfold OwnI; rw [unhide HLX]; exact unhide HOX, unhide HB⟩
        case round =>
          obtain ⟨q, z, hq, rfl, rfl, hz9, hown2, hb2⟩ := hrel
          clear HO HOX
          have hil := inN_len m (e + T[k].toNat) q
          have hLN : (X ++ inN m (e + T[k].toNat) q).length ≤ 1000 := by rw [List.length_append, unhide HLX]; omega
          by_cases hlt : q < (T[k + 1]'g1).toNat
          · have s1 : (q : Int) < ((T[k + 1]'g1).toNat : Int) := by omega
            have hzz := hb2.size
            by_cases hn : z < m
            · have s2 : (z : Int) < (m : Int) := by omega
              have HS : Hid (X ++ inN m (e + T[k].toNat) (q + 1) = (X ++ inN m (e + T[k].toNat) q) ++ [(z : Int)]) := by
                show _ = _
                rw [List.append_assoc]
                congr 1
                show (if e + T[k].toNat + q < m then _ else _) = _
                rw [if_pos (by omega), hz9]
              generalize X ++ inN m (e + T[k].toNat) q = Y at *
              generalize hYL : Y.length = YL at *
              have HYL := hide hYL
              have hO : wr.ownsRow w.heap.size 3 1 u6 YL (ic Y) := by rw [← hYL]; exact hown2
              obtain ⟨ao2, cap2, rfl⟩ := own_shape' hO
              have HO := hide hO
              have HB2 := hide hb2
              have HZ := hide hz9
              clear hown2 hb2 hO hYL hz9
              go_wp2_with (at_builtin; refine wpList_append_own _ rfl _ _ 47 rfl w.heap.size 3 i0 (.int .i64 0) 1 8 Tryd.undI hi hz0 hz1 hz2 rfl (by decide) _ _ _ rfl ((unhide HO).alloc _) ⟨wr.heap.size, 0, none⟩ 1 1 [.int .i64 z] rfl rfl (news_lit _ [_] _) ?d2 ?d3 ?d4 ?d5 ?_)
              case d2 => first | rfl | (intro u hu; simp at hu; subst hu; rfl)
              case d3 => unfold maxLen; omega
              case d4 => omega
              case d5 => first | omega | (simp; omega)
              intro v' w3 hown' hgrow _
              have hb' := hide ((((unhide HB2).alloc (by omega) _)).grown hgrow (by simp; omega) (fun k hk => (((unhide HO).lt k hk).1)))
              have ho2 : Hid (OwnI w3 w.heap.size v' (X ++ inN m (e + T[k].toNat) (q + 1))) := by
                show World.ownsRow _ _ _ _ _ _ _
                rw [unhide HS, List.length_append, unhide HYL, ic_append]
                exact hown'
              obtain ⟨ao', cap', rfl⟩ := own_shape' hown'
              clear hown' hgrow HO HB2
              go_wp2
              go_roundw
              case rel => exact ⟨q + 1, z + 1, by omega, by go_num, by go_num, by have := unhide HZ; omega, unhide ho2, unhide hb'⟩
              case measure => simp [intOf]; omega
            · have s2 : ¬ (z : Int) < (m : Int) := by omega
              have hzb : (z : Int) ≤ 3000 := by omega
              have HS : Hid (X ++ inN m (e + T[k].toNat) (q + 1) = X ++ inN m (e + T[k].toNat) q) := by
                show _ = _
                congr 1
                show (if e + T[k].toNat + q < m then _ else _) = _
                rw [if_neg (by omega)]
              have HO := hide hown2
              have HB2 := hide hb2
              have HZ := hide hz9
              obtain ⟨ao2, cap2, rfl, _⟩ := hown2.ints
              clear hown2 hb2 hz9
              generalize X ++ inN m (e + T[k].toNat) q = Y at *
              generalize Y.length = YL at *
              go_wp2
              go_roundw
              case rel => exact ⟨q + 1, z + 1, by omega, by go_num, by go_num, by have := unhide HZ; omega, by rw [unhide HS]; exact unhide HO, unhide HB2⟩
              case measure => simp [intOf]; omega
          · have hqe : q = (T[k + 1]'g1).toNat := by omega
            have s1 : ¬ (q : Int) < ((T[k + 1]'g1).toNat : Int) := by omega
            have HO := hide hown2
            have HB2 := hide hb2
            have HZ := hide hz9
            have HQ := hide hqe
            have hfin : Hid ((X ++ inN m (e + T[k].toNat) q) ++ dN m z (t.drop (k + 2)) = dN m 0 t) := by
              show _ = _
              rw [← unhide HX, List.append_assoc, hz9, hqe]
            have hle : Hid ((X ++ inN m (e + T[k].toNat) q).length ≤ z) := by
              show _ ≤ _
              rw [List.length_append, unhide HLX, hz9]; omega
            obtain ⟨ao2, cap2, rfl, _⟩ := hown2.ints
            clear hown2 hb2 hz9 hqe
            generalize X ++ inN m (e + T[k].toNat) q = Y at *
            generalize hYL : Y.length = YL at *
            have HYL := hide hYL
            clear hYL
            go_wp2
            go_roundw
            case rel => exact ⟨k + 2, z, Y, by omega, by have := unhide HZ; omega, by go_num, rfl, by rw [unhide HYL]; exact unhide hle, unhide HO, unhide hfin, unhide HB2⟩
            case measure => simp [intOf]; omega
      · have hXX : X = dN m 0 t := by
          rw [← hX]
          by_cases h1 : k + 1 < T.size
          · rw [dN_past _ (fun h => hgo ⟨h1, h⟩), List.append_nil]
          · rw [dN_short _ _ _ _ (by omega), List.append_nil]
        subst hXX
        have hl9 : (dN m 0 t).length ≤ 100000 := by omega
        obtain ⟨a1, c1, rfl, hT1, _, _⟩ := hown.ints
        have HT1 := hide hT1
        have HB := hide hb
        have hst : ¬ (k : Int) + 1 < (T.size : Int) ∨ ((k : Int) + 1 < (T.size : Int) ∧ ¬ (e : Int) ≤ (m : Int)) := by omega
        have HMK := hide (fun w hT => unhide hmk w a1 c1 hT hl9)
        generalize (dN m 0 t).length = LL at *
        clear hT1 hown hb hgo hX hmk hl9 hXe
        obtain ⟨S, hS⟩ : ∃ S, S = mkL m (dN m 0 t) := ⟨_, rfl⟩
        rw [← hS] at HMK hpk hdoc
        obtain ⟨U, hU⟩ : ∃ U, U = packR m S := ⟨_, rfl⟩
        have HU := hide hU
        rw [← hU] at hpk hdoc
        clear hS hU
        generalize packE m S = PE at *
        have hres : Hid ((((bs U).toList == T.toList) = true ∧ bs (unpR m t) = bs S ∧ unpE m t = 0) ∨ (((bs U).toList == T.toList) = false ∧ bs (unpR m t) = ⟨#[]⟩ ∧ unpE m t = 3)) := by
          show _ ∨ _
          rw [unhide HTT, ByteArray.toList_eq, ByteArray.toList_eq, bs_list, bs_list]
          rcases unhide hdoc with ⟨d1, d2, d3⟩ | ⟨d1, d2, d3⟩
          · exact .inl ⟨by rw [d1]; simp, by rw [d2], d3⟩
          · exact .inr ⟨by simpa using d1, by rw [d2]; rfl, d3⟩
        clear hdoc HU
        generalize bs U = UU at *
        generalize bs S = SS at *
        rcases hst with p1 | ⟨p1, p2⟩
        all_goals
          go_wp2_with fail
          refine (unhide HMK _ (unhide HT1)).mono ?_
          rintro e1 w1 ⟨rfl, b1⟩
          have B1 := hide ((unhide HB).trans (b1.mono (unhide HB).size))
          clear b1
          go_wp2_with fail
          refine (unhide hpk _).mono ?_
          rintro e2 w2 ⟨rfl, b2⟩
          have B2 := hide ((unhide B1).trans (b2.mono (unhide B1).size))
          clear b2 B1
          rcases unhide hres with ⟨d1, d2, d3⟩ | ⟨d1, d2, d3⟩
          · have D2 := hide d2
            have D3 := hide d3
            clear d2 d3
            go_wp2
            go_ret2
            exact ⟨by rw [unhide D2, unhide D3]; rfl, unhide B2⟩
          · have D2 := hide d2
            have D3 := hide d3
            clear d2 d3
            go_wp2
            go_ret2
            exact ⟨by rw [unhide D2, unhide D3]; rfl, unhide B2⟩
  · have hr1 := unp_out hr t
    rw [hr1.1, hr1.2, show bs [] = (⟨#[]⟩ : ByteArray) from rfl]
    clear hr1
    generalize bs t = T at *
    have q : n < 0 ∨ (¬ n < 0 ∧ 160 < n) := by omega
    clear hr
    go_enter Tryd.func20, Tryd.ntmps20
    rcases q with q | ⟨q, q'⟩
    · go_wp2
      go_ret2
      exact ⟨rfl, Below.refl _ _⟩
    · go_wp2
      go_ret2
      exact ⟨rfl, Below.refl _ _⟩
end Go.Proofs.YtbodklppgcloiaaDoor

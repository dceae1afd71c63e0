/- Contract of the document's Read. -/
import Derived.Test.YtbodklppgcloiaaDoorTxE
import Derived.Test.YtbodklppgcloiaaDoorTxC
namespace Go.Proofs.YtbodklppgcloiaaDoor
open Go.RowKit Go.Shelf
set_option linter.unusedVariables false
attribute [local go_sem] Oper.semAt_some

theorem flP_le {n : Nat} (hn : n ≤ 160) (lo x : Int) (hl : -1 ≤ lo) (hx : 0 ≤ x) : ((flP n lo x).length : Int) ≤ x + 1 ∧ (flP n lo x).length ≤ 160 := by
  unfold flP flC
  rw [flN_len]
  split <;> omega
theorem rdS_fine {n : Nat} (hn : n ≤ 160) (t : By) : (rdS n t).1.length + (if 10 ≤ (rdS n t).2.2 then 80 else 0) ≤ 80 * t.length := by
  have key : ∀ k, k ≤ t.length → (rdS n (t.take k)).1.length + (if 10 ≤ (rdS n (t.take k)).2.2 then 80 else 0) ≤ 80 * k := by
    intro k
    induction k with
    | zero => intro _; simp [rdS]
    | succ k ih =>
      intro hk
      have h0 := ih (by omega)
      obtain ⟨_, h2, h3⟩ := rdS_bound hn (t.take k)
      rw [List.take_succ_eq_append_getElem (by omega), rdS_snoc]
      generalize rdS n (t.take k) = q at *
      unfold stp
      split
      · rename_i hc
        simp only
        split
        · split at h0 <;> omega
        · split at h0 <;> omega
      · split
        · simp only
          rw [if_neg (by omega)]
          split at h0 <;> omega
        · obtain ⟨f1, f2⟩ := flP_le hn q.2.1 q.2.2 h2.1 h3.1
          simp only [List.length_append]
          rw [if_neg (by omega)]
          split at h0 <;> omega
  have := key t.length (Nat.le_refl _)
  rwa [List.take_length] at this
theorem rdN_len {n : Nat} (hn : n ≤ 160) (t : By) : (rdN n t).length ≤ 80 * t.length + 80 := by
  have h := rdS_fine hn t
  obtain ⟨_, h2, h3⟩ := rdS_bound hn t
  obtain ⟨f1, f2⟩ := flP_le hn (rdS n t).2.1 (rdS n t).2.2 h2.1 h3.1
  unfold rdN
  rw [List.length_append]
  split at h <;> omega
theorem docN_len {n : Nat} (hn : n ≤ 160) (t : By) : (docN n t).length ≤ 80 * t.length + 80 := by
  unfold docN
  split
  · simp
  · exact rdN_len hn t
theorem red_out {n : Int} (h : ¬ (0 ≤ n ∧ n ≤ 160)) (t : By) : redR n t = [] ∧ redE n t = 1 := by
  unfold redR redE gatR gatE
  rw [if_neg (fun h' => h h'.1), if_pos h]
  exact ⟨rfl, rfl⟩
set_option maxRecDepth 100000 in
set_option maxHeartbeats 16000000 in
theorem rread_any (n : Int) (t : By) (ht : t.length ≤ 1000) (w : World) : Calls Tryd.prog 24 #[.int .i64 n, .string (bs t)] w fun e w' => e = .returned (.tuple #[.string (bs (redR n t)), .int .i64 (redE n t)]) ∧ Below w.heap.size w w' := by
  by_cases hr : 0 ≤ n ∧ n ≤ 160
  · obtain ⟨m, rfl⟩ : ∃ m : Nat, n = m := ⟨n.toNat, by omega⟩
    have hm : m ≤ 160 := by omega
    have hdoc := hide (doc_read m hm t)
    obtain ⟨i0, hi, hz0, hz1, hz2⟩ := info_parts Tryd.infoI
    have hpk := hide (fun w => rtext_any m (mkL m (docN m t)) w (by unfold mkL; rw [makeP_length]; have := wid_small hm; unfold maxLen; omega))
    have hdl := docN_len hm t
    have hmk := hide (fun w a0 c hT => rmake_any m (docN m t) a0 c w hT (by omega) (by omega))
    have hT : ∀ i (h : i < t.length), (bs t)[i]'(by rw [bs_size]; exact h) = t[i] := fun i h => by simp [bs, ByteArray.getElem_eq_getElem_data]
    have HT := hide hT
    have hsz : (bs t).size = t.length := bs_size t
    have hcmp : ((bs t).toList == [45]) = decide (t = [45]) := by
      rw [ByteArray.toList_eq, bs_list]
      by_cases h : t = [45]
      · rw [decide_eq_true h, h]; rfl
      · rw [decide_eq_false h]; simpa using h
    have hmq : ¬ (160 : Int) < (m : Int) := by omega
    obtain ⟨T, hTT⟩ : ∃ T, T = bs t := ⟨_, rfl⟩
    rw [← hTT] at hsz hcmp ⊢
    have HTT := hide hTT
    have HCMP := hide hcmp
    clear hT hr hTT hdl hcmp
    have hsz' : T.size ≤ 1000 := by omega
    have HSZ := hide hsz
    have hbd := hide (fun k => rdS_bound hm (t.take k))
    have hstep : Hid (∀ k (h : k < T.size), rdS m (t.take (k + 1)) = stp m (rdS m (t.take k)) T[k]) := by
      intro k h
      have e0 : T[k] = t[k]'(by have := unhide HSZ; omega) := by
        have := unhide HT k (by have := unhide HSZ; omega)
        rw [← this]; simp only [unhide HTT]
      rw [e0, List.take_succ_eq_append_getElem (by have := unhide HSZ; omega), rdS_snoc]
    clear hsz
    go_enter Tryd.func24, Tryd.ntmps24
    go_wp2_with fail
    go_loopw [6, 7, 8, 9] (fun v lo x i wr => ∃ (k : Nat) (N : List Int) (L X : Int), k ≤ T.size + 1 ∧ i = .int .i64 k ∧ lo = .int .i64 L ∧ x = .int .i64 X ∧ OwnI wr w.heap.size v N ∧ (k ≤ T.size → rdS m (t.take k) = (N, L, X)) ∧ (k = T.size + 1 → N = rdN m t) ∧ Below w.heap.size w wr) (fun _ _ _ i _ => T.size + 1 - (intOf i).toNat)
    case atStart => exact ⟨0, [], -1, 0, by omega, rfl, rfl, rfl, World.ownsRow_nil _ _ _ _, fun _ => rfl, fun h => by omega, Below.refl _ _⟩
    case round =>
      obtain ⟨k, N, L, X, hk, rfl, rfl, rfl, hown, hS, hE, hb⟩ := hrel
      by_cases hgo : k ≤ T.size
      · have q1 : (k : Int) ≤ (T.size : Int) := by omega
        have hS' := hS hgo
        clear hS hE
        obtain ⟨n1, n2, n3⟩ := unhide hbd k
        rw [hS'] at n1 n2 n3
        simp only at n1 n2 n3
        have hN1 : N.length ≤ 160000 := by
          rw [List.length_take] at n1; omega
        have HS := hide hS'
        have HO := hide hown
        have HB := hide hb
        have hz := hb.size
        have ho2 := hown
        obtain ⟨ao, c0, rfl, _⟩ := ho2.ints
        clear ho2 hS' n1
        generalize hLN : N.length = LN at *
        have HLN := hide hLN
        have HOX : Hid (wr.ownsRow w.heap.size 3 1 (.slice ao LN c0) LN (ic N)) := by
          have h := unhide HO
          unfold OwnI at h
          rw [unhide HLN] at h
          exact h
        clear hown hb hLN
        by_cases hend : k < T.size
        · have q2 : (k : Int) < (T.size : Int) := by omega
          have hcb := T[k].toNat_lt
          by_cases hd1 : 48 ≤ T[k].toNat
          · have d1 : (48 : Int) ≤ (T[k].toNat : Int) := by omega
            by_cases hd2 : T[k].toNat ≤ 57
            · have d2 : (T[k].toNat : Int) ≤ 57 := by omega
              by_cases hx : X ≤ 160
              · have hnx : Hid (rdS m (t.take (k + 1)) = (N, L, 10 * X + (T[k].toNat : Int) - 48)) := by
                  show _ = _
                  rw [unhide hstep k hend, unhide HS]
                  unfold stp
                  rw [if_pos ⟨⟨hd1, hd2⟩, hx⟩]
                have w1 : 10 * X ≤ 2000 := by omega
                go_wp2
                go_roundw
                case rel => exact ⟨k + 1, N, L, 10 * X + (T[k].toNat : Int) - 48, by omega, by go_num, rfl, by go_num, unhide HO, fun _ => unhide hnx, fun h => by omega, unhide HB⟩
                case measure => simp [intOf]; omega
              · have hnd : Hid (¬ ((48 ≤ T[k].toNat ∧ T[k].toNat ≤ 57) ∧ X ≤ 160)) := fun h => hx h.2
                have hn45 : Hid (¬ T[k].toNat = 45) := by show ¬ _; omega
                have hne : ((T[k].toNat : Int) == 45) = false := by simp; omega
                by_cases hL : L < 0
                · have hfl : Hid (flP m L X = flN m X (flC m X X)) := by
                    show _ = _
                    unfold flP
                    rw [if_pos hL]
                  have hnx : Hid (rdS m (t.take (k + 1)) = (N ++ flN m X (flC m X X), -1, 0)) := by
                    show _ = _
                    rw [unhide hstep k hend, unhide HS]
                    unfold stp
                    rw [if_neg (unhide hnd), if_neg (unhide hn45)]
                    simp only
                    rw [unhide hfl]
                  go_wp2
                  go_loopw [6, 10] (fun v i wr2 => ∃ q : Nat, q ≤ flC m X X ∧ i = .int .i64 (X + (q : Int)) ∧ OwnI wr2 w.heap.size v (N ++ flN m X q) ∧ Below w.heap.size w wr2) (fun _ i _ => (161 - (intOf i)).toNat)
                  case atStart => exact ⟨0, Nat.zero_le _, by go_num, by rw [show flN m X 0 = [] from rfl, List.append_nil]; unfold OwnI; rw [unhide HLN]; exact unhide HOX, unhide HB⟩
                  case round =>
                    obtain ⟨q, hq, rfl, hown2, hb2⟩ := hrel
                    have hfc : flC m X X ≤ 160 := by unfold flC; omega
                    have hlq := flN_len m X q
                    have hfd : q < flC m X X ↔ (X + (q : Int) ≤ X ∧ X + (q : Int) < m) := by unfold flC; omega
                    by_cases hlt : q < flC m X X
                    · obtain ⟨s1, s2⟩ := hfd.1 hlt
                      have HSN : Hid (N ++ flN m X (q + 1) = (N ++ flN m X q) ++ [X + (q : Int)]) := by
                        show _ = _
                        rw [flN, List.append_assoc]
                      have hYb : (N ++ flN m X q).length ≤ 161000 := by rw [List.length_append, unhide HLN, hlq]; omega
                      have hzz := hb2.size
                      generalize N ++ flN m X q = Y at *
                      generalize hYL : Y.length = YL at *
                      have HYL := hide hYL
                      have hO : wr.ownsRow w.heap.size 3 1 u6 YL (ic Y) := by rw [← hYL]; exact hown2
                      obtain ⟨ao2, cap2, rfl⟩ := own_shape' hO
                      have HO2 := hide hO
                      have HB2 := hide hb2
                      clear hown2 hb2 hO hYL hfd HOX HO
                      obtain ⟨z, hz9⟩ : ∃ z, z = X + (q : Int) := ⟨_, rfl⟩
                      rw [← hz9] at HSN s1 s2 ⊢
                      have HZ := hide hz9
                      have z1 : -1 ≤ z := by omega
                      have z2 : z ≤ 3000 := by omega
                      clear hz9
                      go_wp2_with (at_builtin; refine wpList_append_own _ rfl _ _ 47 rfl w.heap.size 3 i0 (.int .i64 0) 1 8 Tryd.undI hi hz0 hz1 hz2 rfl (by decide) _ _ _ rfl ((unhide HO2).alloc _) ⟨wr.heap.size, 0, none⟩ 1 1 [.int .i64 z] rfl rfl (news_lit _ [_] _) ?d2 ?d3 ?d4 ?d5 ?_)
                      case d2 => first | rfl | (intro u hu; simp at hu; subst hu; rfl)
                      case d3 => unfold maxLen; omega
                      case d4 => omega
                      case d5 => first | omega | (simp; omega)
                      intro v' w3 hown' hgrow _
                      have hb' := hide ((((unhide HB2).alloc (by omega) _)).grown hgrow (by simp; omega) (fun k hk => (((unhide HO2).lt k hk).1)))
                      have ho2 : Hid (OwnI w3 w.heap.size v' (N ++ flN m X (q + 1))) := by
                        show World.ownsRow _ _ _ _ _ _ _
                        rw [unhide HSN, List.length_append, unhide HYL, ic_append]
                        exact hown'
                      obtain ⟨ao', cap', rfl⟩ := own_shape' hown'
                      clear hown' hgrow HO2 HB2
                      go_wp2
                      go_roundw
                      case rel => exact ⟨q + 1, by omega, by have := unhide HZ; go_num, unhide ho2, unhide hb'⟩
                      case measure => have := unhide HZ; simp [intOf]; omega
                    · have hqe : q = flC m X X := by omega
                      have hst : X + (q : Int) ≤ X → ¬ X + (q : Int) < m := fun h1 h2 => hlt (hfd.2 ⟨h1, h2⟩)
                      have HO2 := hide hown2
                      have HB2 := hide hb2
                      have HQ := hide hqe
                      obtain ⟨ao2, cap2, rfl, _⟩ := hown2.ints
                      clear hown2 hb2 hqe hfd HOX HO
                      have HNX := unhide hnx
                      rw [← unhide HQ] at HNX
                      have HNX2 := hide HNX
                      clear HNX
                      generalize N ++ flN m X q = Y at *
                      generalize Y.length = YL at *
                      obtain ⟨z, hz9⟩ : ∃ z, z = X + (q : Int) := ⟨_, rfl⟩
                      rw [← hz9] at hst ⊢
                      have z1 : -1 ≤ z := by omega
                      have z2 : z ≤ 3000 := by omega
                      clear hz9
                      have hcs : ¬ z ≤ X ∨ (z ≤ X ∧ ¬ z < (m : Int)) := by
                        by_cases h : z ≤ X
                        · exact .inr ⟨h, hst h⟩
                        · exact .inl h
                      clear hst
                      rcases hcs with p1 | ⟨p1, p2⟩
                      all_goals
                        go_wp2
                        go_roundw
                        case rel => exact ⟨k + 1, Y, -1, 0, by omega, by go_num, rfl, rfl, unhide HO2, fun _ => unhide HNX2, fun h => (by omega), unhide HB2⟩
                        case measure => simp [intOf]; omega
                · have hfl : Hid (flP m L X = flN m L (flC m L X)) := by
                    show _ = _
                    unfold flP
                    rw [if_neg hL]
                  have hnx : Hid (rdS m (t.take (k + 1)) = (N ++ flN m L (flC m L X), -1, 0)) := by
                    show _ = _
                    rw [unhide hstep k hend, unhide HS]
                    unfold stp
                    rw [if_neg (unhide hnd), if_neg (unhide hn45)]
                    simp only
                    rw [unhide hfl]
                  go_wp2
                  go_loopw [6, 10] (fun v i wr2 => ∃ q : Nat, q ≤ flC m L X ∧ i = .int .i64 (L + (q : Int)) ∧ OwnI wr2 w.heap.size v (N ++ flN m L q) ∧ Below w.heap.size w wr2) (fun _ i _ => (161 - (intOf i)).toNat)
                  case atStart => exact ⟨0, Nat.zero_le _, by go_num, by rw [show flN m L 0 = [] from rfl, List.append_nil]; unfold OwnI; rw [unhide HLN]; exact unhide HOX, unhide HB⟩
                  case round =>
                    obtain ⟨q, hq, rfl, hown2, hb2⟩ := hrel
                    have hfc : flC m L X ≤ 160 := by unfold flC; omega
                    have hlq := flN_len m L q
                    have hfd : q < flC m L X ↔ (L + (q : Int) ≤ X ∧ L + (q : Int) < m) := by unfold flC; omega
                    by_cases hlt : q < flC m L X
                    · obtain ⟨s1, s2⟩ := hfd.1 hlt
                      have HSN : Hid (N ++ flN m L (q + 1) = (N ++ flN m L q) ++ [L + (q : Int)]) := by
                        show _ = _
                        rw [flN, List.append_assoc]
                      have hYb : (N ++ flN m L q).length ≤ 161000 := by rw [List.length_append, unhide HLN, hlq]; omega
                      have hzz := hb2.size
                      generalize N ++ flN m L q = Y at *
                      generalize hYL : Y.length = YL at *
                      have HYL := hide hYL
                      have hO : wr.ownsRow w.heap.size 3 1 u6 YL (ic Y) := by rw [← hYL]; exact hown2
                      obtain ⟨ao2, cap2, rfl⟩ := own_shape' hO
                      have HO2 := hide hO
                      have HB2 := hide hb2
                      clear hown2 hb2 hO hYL hfd HOX HO
                      obtain ⟨z, hz9⟩ : ∃ z, z = L + (q : Int) := ⟨_, rfl⟩
                      rw [← hz9] at HSN s1 s2 ⊢
                      have HZ := hide hz9
                      have z1 : -1 ≤ z := by omega
                      have z2 : z ≤ 3000 := by omega
                      clear hz9
                      go_wp2_with (at_builtin; refine wpList_append_own _ rfl _ _ 47 rfl w.heap.size 3 i0 (.int .i64 0) 1 8 Tryd.undI hi hz0 hz1 hz2 rfl (by decide) _ _ _ rfl ((unhide HO2).alloc _) ⟨wr.heap.size, 0, none⟩ 1 1 [.int .i64 z] rfl rfl (news_lit _ [_] _) ?d2 ?d3 ?d4 ?d5 ?_)
                      case d2 => first | rfl | (intro u hu; simp at hu; subst hu; rfl)
                      case d3 => unfold maxLen; omega
                      case d4 => omega
                      case d5 => first | omega | (simp; omega)
                      intro v' w3 hown' hgrow _
                      have hb' := hide ((((unhide HB2).alloc (by omega) _)).grown hgrow (by simp; omega) (fun k hk => (((unhide HO2).lt k hk).1)))
                      have ho2 : Hid (OwnI w3 w.heap.size v' (N ++ flN m L (q + 1))) := by
                        show World.ownsRow _ _ _ _ _ _ _
                        rw [unhide HSN, List.length_append, unhide HYL, ic_append]
                        exact hown'
                      obtain ⟨ao', cap', rfl⟩ := own_shape' hown'
                      clear hown' hgrow HO2 HB2
                      go_wp2
                      go_roundw
                      case rel => exact ⟨q + 1, by omega, by have := unhide HZ; go_num, unhide ho2, unhide hb'⟩
                      case measure => have := unhide HZ; simp [intOf]; omega
                    · have hqe : q = flC m L X := by omega
                      have hst : L + (q : Int) ≤ X → ¬ L + (q : Int) < m := fun h1 h2 => hlt (hfd.2 ⟨h1, h2⟩)
                      have HO2 := hide hown2
                      have HB2 := hide hb2
                      have HQ := hide hqe
                      obtain ⟨ao2, cap2, rfl, _⟩ := hown2.ints
                      clear hown2 hb2 hqe hfd HOX HO
                      have HNX := unhide hnx
                      rw [← unhide HQ] at HNX
                      have HNX2 := hide HNX
                      clear HNX
                      generalize N ++ flN m L q = Y at *
                      generalize Y.length = YL at *
                      obtain ⟨z, hz9⟩ : ∃ z, z = L + (q : Int) := ⟨_, rfl⟩
                      rw [← hz9] at hst ⊢
                      have z1 : -1 ≤ z := by omega
                      have z2 : z ≤ 3000 := by omega
                      clear hz9
                      have hcs : ¬ z ≤ X ∨ (z ≤ X ∧ ¬ z < (m : Int)) := by
                        by_cases h : z ≤ X
                        · exact .inr ⟨h, hst h⟩
                        · exact .inl h
                      clear hst
                      rcases hcs with p1 | ⟨p1, p2⟩
                      all_goals
                        go_wp2
                        go_roundw
                        case rel => exact ⟨k + 1, Y, -1, 0, by omega, by go_num, rfl, rfl, unhide HO2, fun _ => unhide HNX2, fun h => (by omega), unhide HB2⟩
                        case measure => simp [intOf]; omega
            · have d2 : ¬ (T[k].toNat : Int) ≤ 57 := by omega
              have hnd : Hid (¬ ((48 ≤ T[k].toNat ∧ T[k].toNat ≤ 57) ∧ X ≤ 160)) := fun h => hd2 h.1.2
              have hn45 : Hid (¬ T[k].toNat = 45) := by show ¬ _; omega
              have hne : ((T[k].toNat : Int) == 45) = false := by simp; omega
              by_cases hL : L < 0
              · have hfl : Hid (flP m L X = flN m X (flC m X X)) := by
                  show _ = _
                  unfold flP
                  rw [if_pos hL]
                have hnx : Hid (rdS m (t.take (k + 1)) = (N ++ flN m X (flC m X X), -1, 0)) := by
                  show _ = _
                  rw [unhide hstep k hend, unhide HS]
                  unfold stp
                  rw [if_neg (unhide hnd), if_neg (unhide hn45)]
                  simp only
                  rw [unhide hfl]
                go_wp2
                go_loopw [6, 10] (fun v i wr2 => ∃ q : Nat, q ≤ flC m X X ∧ i = .int .i64 (X + (q : Int)) ∧ OwnI wr2 w.heap.size v (N ++ flN m X q) ∧ Below w.heap.size w wr2) (fun _ i _ => (161 - (intOf i)).toNat)
                case atStart => exact ⟨0, Nat.zero_le _, by go_num, by rw [show flN m X 0 = [] from rfl, List.append_nil]; unfold OwnI; rw [unhide HLN]; exact unhide HOX, unhide HB⟩
                case round =>
                  obtain ⟨q, hq, rfl, hown2, hb2⟩ := hrel
                  have hfc : flC m X X ≤ 160 := by unfold flC; omega
                  have hlq := flN_len m X q
                  have hfd : q < flC m X X ↔ (X + (q : Int) ≤ X ∧ X + (q : Int) < m) := by unfold flC; omega
                  by_cases hlt : q < flC m X X
                  · obtain ⟨s1, s2⟩ := hfd.1 hlt
                    have HSN : Hid (N ++ flN m X (q + 1) = (N ++ flN m X q) ++ [X + (q : Int)]) := by
                      show _ = _
                      rw [flN, List.append_assoc]
                    have hYb : (N ++ flN m X q).length ≤ 161000 := by rw [List.length_append, unhide HLN, hlq]; omega
                    have hzz := hb2.size
                    generalize N ++ flN m X q = Y at *
                    generalize hYL : Y.length = YL at *
                    have HYL := hide hYL
                    have hO : wr.ownsRow w.heap.size 3 1 u6 YL (ic Y) := by rw [← hYL]; exact hown2
                    obtain ⟨ao2, cap2, rfl⟩ := own_shape' hO
                    have HO2 := hide hO
                    have HB2 := hide hb2
                    clear hown2 hb2 hO hYL hfd HOX HO
                    obtain ⟨z, hz9⟩ : ∃ z, z = X + (q : Int) := ⟨_, rfl⟩
                    rw [← hz9] at HSN s1 s2 ⊢
                    have HZ := hide hz9
                    have z1 : -1 ≤ z := by omega
                    have z2 : z ≤ 3000 := by omega
                    clear hz9
                    go_wp2_with (at_builtin; refine wpList_append_own _ rfl _ _ 47 rfl w.heap.size 3 i0 (.int .i64 0) 1 8 Tryd.undI hi hz0 hz1 hz2 rfl (by decide) _ _ _ rfl ((unhide HO2).alloc _) ⟨wr.heap.size, 0, none⟩ 1 1 [.int .i64 z] rfl rfl (news_lit _ [_] _) ?d2 ?d3 ?d4 ?d5 ?_)
                    case d2 => first | rfl | (intro u hu; simp at hu; subst hu; rfl)
                    case d3 => unfold maxLen; omega
                    case d4 => omega
                    case d5 => first | omega | (simp; omega)
                    intro v' w3 hown' hgrow _
                    have hb' := hide ((((unhide HB2).alloc (by omega) _)).grown hgrow (by simp; omega) (fun k hk => (((unhide HO2).lt k hk).1)))
                    have ho2 : Hid (OwnI w3 w.heap.size v' (N ++ flN m X (q + 1))) := by
                      show World.ownsRow _ _ _ _ _ _ _
                      rw [unhide HSN, List.length_append, unhide HYL, ic_append]
                      exact hown'
                    obtain ⟨ao', cap', rfl⟩ := own_shape' hown'
                    clear hown' hgrow HO2 HB2
                    go_wp2
                    go_roundw
                    case rel => exact ⟨q + 1, by omega, by have := unhide HZ; go_num, unhide ho2, unhide hb'⟩
                    case measure => have := unhide HZ; simp [intOf]; omega
                  · have hqe : q = flC m X X := by omega
                    have hst : X + (q : Int) ≤ X → ¬ X + (q : Int) < m := fun h1 h2 => hlt (hfd.2 ⟨h1, h2⟩)
                    have HO2 := hide hown2
                    have HB2 := hide hb2
                    have HQ := hide hqe
                    obtain ⟨ao2, cap2, rfl, _⟩ := hown2.ints
                    clear hown2 hb2 hqe hfd HOX HO
                    have HNX := unhide hnx
                    rw [← unhide HQ] at HNX
                    have HNX2 := hide HNX
                    clear HNX
                    generalize N ++ flN m X q = Y at *
                    generalize Y.length = YL at *
                    obtain ⟨z, hz9⟩ : ∃ z, z = X + (q : Int) := ⟨_, rfl⟩
                    rw [← hz9] at hst ⊢
                    have z1 : -1 ≤ z := by omega
                    have z2 : z ≤ 3000 := by omega
                    clear hz9
                    have hcs : ¬ z ≤ X ∨ (z ≤ X ∧ ¬ z < (m : Int)) := by
                      by_cases h : z ≤ X
                      · exact .inr ⟨h, hst h⟩
                      · exact .inl h
                    clear hst
                    rcases hcs with p1 | ⟨p1, p2⟩
                    all_goals
                      go_wp2
                      go_roundw
                      case rel => exact ⟨k + 1, Y, -1, 0, by omega, by go_num, rfl, rfl, unhide HO2, fun _ => unhide HNX2, fun h => (by omega), unhide HB2⟩
                      case measure => simp [intOf]; omega
              · have hfl : Hid (flP m L X = flN m L (flC m L X)) := by
                  show _ = _
                  unfold flP
                  rw [if_neg hL]
                have hnx : Hid (rdS m (t.take (k + 1)) = (N ++ flN m L (flC m L X), -1, 0)) := by
                  show _ = _
                  rw [unhide hstep k hend, unhide HS]
                  unfold stp
                  rw [if_neg (unhide hnd), if_neg (unhide hn45)]
                  simp only
                  rw [unhide hfl]
                go_wp2
                go_loopw [6, 10] (fun v i wr2 => ∃ q : Nat, q ≤ flC m L X ∧ i = .int .i64 (L + (q : Int)) ∧ OwnI wr2 w.heap.size v (N ++ flN m L q) ∧ Below w.heap.size w wr2) (fun _ i _ => (161 - (intOf i)).toNat)
                case atStart => exact ⟨0, Nat.zero_le _, by go_num, by rw [show flN m L 0 = [] from rfl, List.append_nil]; unfold OwnI; rw [unhide HLN]; exact unhide HOX, unhide HB⟩
                case round =>
                  obtain ⟨q, hq, rfl, hown2, hb2⟩ := hrel
                  have hfc : flC m L X ≤ 160 := by unfold flC; omega
                  have hlq := flN_len m L q
                  have hfd : q < flC m L X ↔ (L + (q : Int) ≤ X ∧ L + (q : Int) < m) := by unfold flC; omega
                  by_cases hlt : q < flC m L X
                  · obtain ⟨s1, s2⟩ := hfd.1 hlt
                    have HSN : Hid (N ++ flN m L (q + 1) = (N ++ flN m L q) ++ [L + (q : Int)]) := by
                      show _ = _
                      rw [flN, List.append_assoc]
                    have hYb : (N ++ flN m L q).length ≤ 161000 := by rw [List.length_append, unhide HLN, hlq]; omega
                    have hzz := hb2.size
                    generalize N ++ flN m L q = Y at *
                    generalize hYL : Y.length = YL at *
                    have HYL := hide hYL
                    have hO : wr.ownsRow w.heap.size 3 1 u6 YL (ic Y) := by rw [← hYL]; exact hown2
                    obtain ⟨ao2, cap2, rfl⟩ := own_shape' hO
                    have HO2 := hide hO
                    have HB2 := hide hb2
                    clear hown2 hb2 hO hYL hfd HOX HO
                    obtain ⟨z, hz9⟩ : ∃ z, z = L + (q : Int) := ⟨_, rfl⟩
                    rw [← hz9] at HSN s1 s2 ⊢
                    have HZ := hide hz9
                    have z1 : -1 ≤ z := by omega
                    have z2 : z ≤ 3000 := by omega
                    clear hz9
                    go_wp2_with (at_builtin; refine wpList_append_own _ rfl _ _ 47 rfl w.heap.size 3 i0 (.int .i64 0) 1 8 Tryd.undI hi hz0 hz1 hz2 rfl (by decide) _ _ _ rfl ((unhide HO2).alloc _) ⟨wr.heap.size, 0, none⟩ 1 1 [.int .i64 z] rfl rfl (news_lit _ [_] _) ?d2 ?d3 ?d4 ?d5 ?_)
                    case d2 => first | rfl | (intro u hu; simp at hu; subst hu; rfl)
                    case d3 => unfold maxLen; omega
                    case d4 => omega
                    case d5 => first | omega | (simp; omega)
                    intro v' w3 hown' hgrow _
                    have hb' := hide ((((unhide HB2).alloc (by omega) _)).grown hgrow (by simp; omega) (fun k hk => (((unhide HO2).lt k hk).1)))
                    have ho2 : Hid (OwnI w3 w.heap.size v' (N ++ flN m L (q + 1))) := by
                      show World.ownsRow _ _ _ _ _ _ _
                      rw [unhide HSN, List.length_append, unhide HYL, ic_append]
                      exact hown'
                    obtain ⟨ao', cap', rfl⟩ := own_shape' hown'
                    clear hown' hgrow HO2 HB2
                    go_wp2
                    go_roundw
                    case rel => exact ⟨q + 1, by omega, by have := unhide HZ; go_num, unhide ho2, unhide hb'⟩
                    case measure => have := unhide HZ; simp [intOf]; omega
                  · have hqe : q = flC m L X := by omega
                    have hst : L + (q : Int) ≤ X → ¬ L + (q : Int) < m := fun h1 h2 => hlt (hfd.2 ⟨h1, h2⟩)
                    have HO2 := hide hown2
                    have HB2 := hide hb2
                    have HQ := hide hqe
                    obtain ⟨ao2, cap2, rfl, _⟩ := hown2.ints
                    clear hown2 hb2 hqe hfd HOX HO
                    have HNX := unhide hnx
                    rw [← unhide HQ] at HNX
                    have HNX2 := hide HNX
                    clear HNX
                    generalize N ++ flN m L q = Y at *
                    generalize Y.length = YL at *
                    obtain ⟨z, hz9⟩ : ∃ z, z = L + (q : Int) := ⟨_, rfl⟩
                    rw [← hz9] at hst ⊢
                    have z1 : -1 ≤ z := by omega
                    have z2 : z ≤ 3000 := by omega
                    clear hz9
                    have hcs : ¬ z ≤ X ∨ (z ≤ X ∧ ¬ z < (m : Int)) := by
                      by_cases h : z ≤ X
                      · exact .inr ⟨h, hst h⟩
                      · exact .inl h
                    clear hst
                    rcases hcs with p1 | ⟨p1, p2⟩
                    all_goals
                      go_wp2
                      go_roundw
                      case rel => exact ⟨k + 1, Y, -1, 0, by omega, by go_num, rfl, rfl, unhide HO2, fun _ => unhide HNX2, fun h => (by omega), unhide HB2⟩
                      case measure => simp [intOf]; omega
          · have d1 : ¬ (48 : Int) ≤ (T[k].toNat : Int) := by omega
            have hnd : Hid (¬ ((48 ≤ T[k].toNat ∧ T[k].toNat ≤ 57) ∧ X ≤ 160)) := fun h => hd1 h.1.1
            by_cases h45 : T[k].toNat = 45
            · have hnx : Hid (rdS m (t.take (k + 1)) = (N, X, 0)) := by
                show _ = _
                rw [unhide hstep k hend, unhide HS]
                unfold stp
                rw [if_neg (unhide hnd), if_pos h45]
              have heq : ((T[k].toNat : Int) == 45) = true := by simp; omega
              go_wp2
              go_roundw
              case rel => exact ⟨k + 1, N, X, 0, by omega, by go_num, rfl, rfl, unhide HO, fun _ => unhide hnx, fun h => by omega, unhide HB⟩
              case measure => simp [intOf]; omega
            · have hn45 : Hid (¬ T[k].toNat = 45) := h45
              have hne : ((T[k].toNat : Int) == 45) = false := by simp; omega
              by_cases hL : L < 0
              · have hfl : Hid (flP m L X = flN m X (flC m X X)) := by
                  show _ = _
                  unfold flP
                  rw [if_pos hL]
                have hnx : Hid (rdS m (t.take (k + 1)) = (N ++ flN m X (flC m X X), -1, 0)) := by
                  show _ = _
                  rw [unhide hstep k hend, unhide HS]
                  unfold stp
                  rw [if_neg (unhide hnd), if_neg (unhide hn45)]
                  simp only
                  rw [unhide hfl]
                go_wp2
                go_loopw [6, 10] (fun v i wr2 => ∃ q : Nat, q ≤ flC m X X ∧ i = .int .i64 (X + (q : Int)) ∧ OwnI wr2 w.heap.size v (N ++ flN m X q) ∧ Below w.heap.size w wr2) (fun _ i _ => (161 - (intOf i)).toNat)
                case atStart => exact ⟨0, Nat.zero_le _, by go_num, by rw [show flN m X 0 = [] from rfl, List.append_nil]; unfold OwnI; rw [unhide HLN]; exact unhide HOX, unhide HB⟩
                case round =>
                  obtain ⟨q, hq, rfl, hown2, hb2⟩ := hrel
                  have hfc : flC m X X ≤ 160 := by unfold flC; omega
                  have hlq := flN_len m X q
                  have hfd : q < flC m X X ↔ (X + (q : Int) ≤ X ∧ X + (q : Int) < m) := by unfold flC; omega
                  by_cases hlt : q < flC m X X
                  · obtain ⟨s1, s2⟩ := hfd.1 hlt
                    have HSN : Hid (N ++ flN m X (q + 1) = (N ++ flN m X q) ++ [X + (q : Int)]) := by
                      show _ = _
                      rw [flN, List.append_assoc]
                    have hYb : (N ++ flN m X q).length ≤ 161000 := by rw [List.length_append, unhide HLN, hlq]; omega
                    have hzz := hb2.size
                    generalize N ++ flN m X q = Y at *
                    generalize hYL : Y.length = YL at *
                    have HYL := hide hYL
                    have hO : wr.ownsRow w.heap.size 3 1 u6 YL (ic Y) := by rw [← hYL]; exact hown2
                    obtain ⟨ao2, cap2, rfl⟩ := own_shape' hO
                    have HO2 := hide hO
                    have HB2 := hide hb2
                    clear hown2 hb2 hO hYL hfd HOX HO
                    obtain ⟨z, hz9⟩ : ∃ z, z = X + (q : Int) := ⟨_, rfl⟩
                    rw [← hz9] at HSN s1 s2 ⊢
                    have HZ := hide hz9
                    have z1 : -1 ≤ z := by omega
                    have z2 : z ≤ 3000 := by omega
                    clear hz9
                    go_wp2_with (at_builtin; refine wpList_append_own _ rfl _ _ 47 rfl w.heap.size 3 i0 (.int .i64 0) 1 8 Tryd.undI hi hz0 hz1 hz2 rfl (by decide) _ _ _ rfl ((unhide HO2).alloc _) ⟨wr.heap.size, 0, none⟩ 1 1 [.int .i64 z] rfl rfl (news_lit _ [_] _) ?d2 ?d3 ?d4 ?d5 ?_)
                    case d2 => first | rfl | (intro u hu; simp at hu; subst hu; rfl)
                    case d3 => unfold maxLen; omega
                    case d4 => omega
                    case d5 => first | omega | (simp; omega)
                    intro v' w3 hown' hgrow _
                    have hb' := hide ((((unhide HB2).alloc (by omega) _)).grown hgrow (by simp; omega) (fun k hk => (((unhide HO2).lt k hk).1)))
                    have ho2 : Hid (OwnI w3 w.heap.size v' (N ++ flN m X (q + 1))) := by
                      show World.ownsRow _ _ _ _ _ _ _
                      rw [unhide HSN, List.length_append, unhide HYL, ic_append]
                      exact hown'
                    obtain ⟨ao', cap', rfl⟩ := own_shape' hown'
                    clear hown' hgrow HO2 HB2
                    go_wp2
                    go_roundw
                    case rel => exact ⟨q + 1, by omega, by have := unhide HZ; go_num, unhide ho2, unhide hb'⟩
                    case measure => have := unhide HZ; simp [intOf]; omega
                  · have hqe : q = flC m X X := by omega
                    have hst : X + (q : Int) ≤ X → ¬ X + (q : Int) < m := fun h1 h2 => hlt (hfd.2 ⟨h1, h2⟩)
                    have HO2 := hide hown2
                    have HB2 := hide hb2
                    have HQ := hide hqe
                    obtain ⟨ao2, cap2, rfl, _⟩ := hown2.ints
                    clear hown2 hb2 hqe hfd HOX HO
                    have HNX := unhide hnx
                    rw [← unhide HQ] at HNX
                    have HNX2 := hide HNX
                    clear HNX
                    generalize N ++ flN m X q = Y at *
                    generalize Y.length = YL at *
                    obtain ⟨z, hz9⟩ : ∃ z, z = X + (q : Int) := ⟨_, rfl⟩
                    rw [← hz9] at hst ⊢
                    have z1 : -1 ≤ z := by omega
                    have z2 : z ≤ 3000 := by omega
                    clear hz9
                    have hcs : ¬ z ≤ X ∨ (z ≤ X ∧ ¬ z < (m : Int)) := by
                      by_cases h : z ≤ X
                      · exact .inr ⟨h, hst h⟩
                      · exact .inl h
                    clear hst
                    rcases hcs with p1 | ⟨p1, p2⟩
                    all_goals
                      go_wp2
                      go_roundw
                      case rel => exact ⟨k + 1, Y, -1, 0, by omega, by go_num, rfl, rfl, unhide HO2, fun _ => unhide HNX2, fun h => (by omega), unhide HB2⟩
                      case measure => simp [intOf]; omega
              · have hfl : Hid (flP m L X = flN m L (flC m L X)) := by
                  show _ = _
                  unfold flP
                  rw [if_neg hL]
                have hnx : Hid (rdS m (t.take (k + 1)) = (N ++ flN m L (flC m L X), -1, 0)) := by
                  show _ = _
                  rw [unhide hstep k hend, unhide HS]
                  unfold stp
                  rw [if_neg (unhide hnd), if_neg (unhide hn45)]
                  simp only
                  rw [unhide hfl]
                go_wp2
                go_loopw [6, 10] (fun v i wr2 => ∃ q : Nat, q ≤ flC m L X ∧ i = .int .i64 (L + (q : Int)) ∧ OwnI wr2 w.heap.size v (N ++ flN m L q) ∧ Below w.heap.size w wr2) (fun _ i _ => (161 - (intOf i)).toNat)
                case atStart => exact ⟨0, Nat.zero_le _, by go_num, by rw [show flN m L 0 = [] from rfl, List.append_nil]; unfold OwnI; rw [unhide HLN]; exact unhide HOX, unhide HB⟩
                case round =>
                  obtain ⟨q, hq, rfl, hown2, hb2⟩ := hrel
                  have hfc : flC m L X ≤ 160 := by unfold flC; omega
                  have hlq := flN_len m L q
                  have hfd : q < flC m L X ↔ (L + (q : Int) ≤ X ∧ L + (q : Int) < m) := by unfold flC; omega
                  by_cases hlt : q < flC m L X
                  · obtain ⟨s1, s2⟩ := hfd.1 hlt
                    have HSN : Hid (N ++ flN m L (q + 1) = (N ++ flN m L q) ++ [L + (q : Int)]) := by
                      show _ = _
                      rw [flN, List.append_assoc]
                    have hYb : (N ++ flN m L q).length ≤ 161000 := by rw [List.length_append, unhide HLN, hlq]; omega
                    have hzz := hb2.size
                    generalize N ++ flN m L q = Y at *
                    generalize hYL : Y.length = YL at *
                    have HYL := hide hYL
                    have hO : wr.ownsRow w.heap.size 3 1 u6 YL (ic Y) := by rw [← hYL]; exact hown2
                    obtain ⟨ao2, cap2, rfl⟩ := own_shape' hO
                    have HO2 := hide hO
                    have HB2 := hide hb2
                    clear hown2 hb2 hO hYL hfd HOX HO
                    obtain ⟨z, hz9⟩ : ∃ z, z = L + (q : Int) := ⟨_, rfl⟩
                    rw [← hz9] at HSN s1 s2 ⊢
                    have HZ := hide hz9
                    have z1 : -1 ≤ z := by omega
                    have z2 : z ≤ 3000 := by omega
                    clear hz9
                    go_wp2_with (at_builtin; refine wpList_append_own _ rfl _ _ 47 rfl w.heap.size 3 i0 (.int .i64 0) 1 8 Tryd.undI hi hz0 hz1 hz2 rfl (by decide) _ _ _ rfl ((unhide HO2).alloc _) ⟨wr.heap.size, 0, none⟩ 1 1 [.int .i64 z] rfl rfl (news_lit _ [_] _) ?d2 ?d3 ?d4 ?d5 ?_)
                    case d2 => first | rfl | (intro u hu; simp at hu; subst hu; rfl)
                    case d3 => unfold maxLen; omega
                    case d4 => omega
                    case d5 => first | omega | (simp; omega)
                    intro v' w3 hown' hgrow _
                    have hb' := hide ((((unhide HB2).alloc (by omega) _)).grown hgrow (by simp; omega) (fun k hk => (((unhide HO2).lt k hk).1)))
                    have ho2 : Hid (OwnI w3 w.heap.size v' (N ++ flN m L (q + 1))) := by
                      show World.ownsRow _ _ _ _ _ _ _
                      rw [unhide HSN, List.length_append, unhide HYL, ic_append]
                      exact hown'
                    obtain ⟨ao', cap', rfl⟩ := own_shape' hown'
                    clear hown' hgrow HO2 HB2
                    go_wp2
                    go_roundw
                    case rel => exact ⟨q + 1, by omega, by have := unhide HZ; go_num, unhide ho2, unhide hb'⟩
                    case measure => have := unhide HZ; simp [intOf]; omega
                  · have hqe : q = flC m L X := by omega
                    have hst : L + (q : Int) ≤ X → ¬ L + (q : Int) < m := fun h1 h2 => hlt (hfd.2 ⟨h1, h2⟩)
                    have HO2 := hide hown2
                    have HB2 := hide hb2
                    have HQ := hide hqe
                    obtain ⟨ao2, cap2, rfl, _⟩ := hown2.ints
                    clear hown2 hb2 hqe hfd HOX HO
                    have HNX := unhide hnx
                    rw [← unhide HQ] at HNX
                    have HNX2 := hide HNX
                    clear HNX
                    generalize N ++ flN m L q = Y at *
                    generalize Y.length = YL at *
                    obtain ⟨z, hz9⟩ : ∃ z, z = L + (q : Int) := ⟨_, rfl⟩
                    rw [← hz9] at hst ⊢
                    have z1 : -1 ≤ z := by omega
                    have z2 : z ≤ 3000 := by omega
                    clear hz9
                    have hcs : ¬ z ≤ X ∨ (z ≤ X ∧ ¬ z < (m : Int)) := by
                      by_cases h : z ≤ X
                      · exact .inr ⟨h, hst h⟩
                      · exact .inl h
                    clear hst
                    rcases hcs with p1 | ⟨p1, p2⟩
                    all_goals
                      go_wp2
                      go_roundw
                      case rel => exact ⟨k + 1, Y, -1, 0, by omega, by go_num, rfl, rfl, unhide HO2, fun _ => unhide HNX2, fun h => (by omega), unhide HB2⟩
                      case measure => simp [intOf]; omega
        · have q2 : ¬ (k : Int) < (T.size : Int) := by omega
          by_cases hL : L < 0
          · have hfl : Hid (flP m L X = flN m X (flC m X X)) := by
              show _ = _
              unfold flP
              rw [if_pos hL]
            have hnx : Hid (rdN m t = N ++ flN m X (flC m X X)) := by
              show _ = _
              have h := unhide HS
              rw [show t.take k = t from List.take_of_length_le (by have := unhide HSZ; omega)] at h
              unfold rdN
              rw [h]
              show N ++ flP m L X = _
              rw [unhide hfl]
            go_wp2
            go_loopw [6, 10] (fun v i wr2 => ∃ q : Nat, q ≤ flC m X X ∧ i = .int .i64 (X + (q : Int)) ∧ OwnI wr2 w.heap.size v (N ++ flN m X q) ∧ Below w.heap.size w wr2) (fun _ i _ => (161 - (intOf i)).toNat)
            case atStart => exact ⟨0, Nat.zero_le _, by go_num, by rw [show flN m X 0 = [] from rfl, List.append_nil]; unfold OwnI; rw [unhide HLN]; exact unhide HOX, unhide HB⟩
            case round =>
              obtain ⟨q, hq, rfl, hown2, hb2⟩ := hrel
              have hfc : flC m X X ≤ 160 := by unfold flC; omega
              have hlq := flN_len m X q
              have hfd : q < flC m X X ↔ (X + (q : Int) ≤ X ∧ X + (q : Int) < m) := by unfold flC; omega
              by_cases hlt : q < flC m X X
              · obtain ⟨s1, s2⟩ := hfd.1 hlt
                have HSN : Hid (N ++ flN m X (q + 1) = (N ++ flN m X q) ++ [X + (q : Int)]) := by
                  show _ = _
                  rw [flN, List.append_assoc]
                have hYb : (N ++ flN m X q).length ≤ 161000 := by rw [List.length_append, unhide HLN, hlq]; omega
                have hzz := hb2.size
                generalize N ++ flN m X q = Y at *
                generalize hYL : Y.length = YL at *
                have HYL := hide hYL
                have hO : wr.ownsRow w.heap.size 3 1 u6 YL (ic Y) := by rw [← hYL]; exact hown2
                obtain ⟨ao2, cap2, rfl⟩ := own_shape' hO
                have HO2 := hide hO
                have HB2 := hide hb2
                clear hown2 hb2 hO hYL hfd HOX HO
                obtain ⟨z, hz9⟩ : ∃ z, z = X + (q : Int) := ⟨_, rfl⟩
                rw [← hz9] at HSN s1 s2 ⊢
                have HZ := hide hz9
                have z1 : -1 ≤ z := by omega
                have z2 : z ≤ 3000 := by omega
                clear hz9
                go_wp2_with (at_builtin; refine wpList_append_own _ rfl _ _ 47 rfl w.heap.size 3 i0 (.int .i64 0) 1 8 Tryd.undI hi hz0 hz1 hz2 rfl (by decide) _ _ _ rfl ((unhide HO2).alloc _) ⟨wr.heap.size, 0, none⟩ 1 1 [.int .i64 z] rfl rfl (news_lit _ [_] _) ?d2 ?d3 ?d4 ?d5 ?_)
                case d2 => first | rfl | (intro u hu; simp at hu; subst hu; rfl)
                case d3 => unfold maxLen; omega
                case d4 => omega
                case d5 => first | omega | (simp; omega)
                intro v' w3 hown' hgrow _
                have hb' := hide ((((unhide HB2).alloc (by omega) _)).grown hgrow (by simp; omega) (fun k hk => (((unhide HO2).lt k hk).1)))
                have ho2 : Hid (OwnI w3 w.heap.size v' (N ++ flN m X (q + 1))) := by
                  show World.ownsRow _ _ _ _ _ _ _
                  rw [unhide HSN, List.length_append, unhide HYL, ic_append]
                  exact hown'
                obtain ⟨ao', cap', rfl⟩ := own_shape' hown'
                clear hown' hgrow HO2 HB2
                go_wp2
                go_roundw
                case rel => exact ⟨q + 1, by omega, by have := unhide HZ; go_num, unhide ho2, unhide hb'⟩
                case measure => have := unhide HZ; simp [intOf]; omega
              · have hqe : q = flC m X X := by omega
                have hst : X + (q : Int) ≤ X → ¬ X + (q : Int) < m := fun h1 h2 => hlt (hfd.2 ⟨h1, h2⟩)
                have HO2 := hide hown2
                have HB2 := hide hb2
                have HQ := hide hqe
                obtain ⟨ao2, cap2, rfl, _⟩ := hown2.ints
                clear hown2 hb2 hqe hfd HOX HO
                have HNX := unhide hnx
                rw [← unhide HQ] at HNX
                have HNX2 := hide HNX
                clear HNX
                generalize N ++ flN m X q = Y at *
                generalize Y.length = YL at *
                obtain ⟨z, hz9⟩ : ∃ z, z = X + (q : Int) := ⟨_, rfl⟩
                rw [← hz9] at hst ⊢
                have z1 : -1 ≤ z := by omega
                have z2 : z ≤ 3000 := by omega
                clear hz9
                have hcs : ¬ z ≤ X ∨ (z ≤ X ∧ ¬ z < (m : Int)) := by
                  by_cases h : z ≤ X
                  · exact .inr ⟨h, hst h⟩
                  · exact .inl h
                clear hst
                rcases hcs with p1 | ⟨p1, p2⟩
                all_goals
                  go_wp2
                  go_roundw
                  case rel => exact ⟨k + 1, Y, -1, 0, by omega, by go_num, rfl, rfl, unhide HO2, fun h => (by omega), fun _ => (unhide HNX2).symm, unhide HB2⟩
                  case measure => simp [intOf]; omega
          · have hfl : Hid (flP m L X = flN m L (flC m L X)) := by
              show _ = _
              unfold flP
              rw [if_neg hL]
            have hnx : Hid (rdN m t = N ++ flN m L (flC m L X)) := by
              show _ = _
              have h := unhide HS
              rw [show t.take k = t from List.take_of_length_le (by have := unhide HSZ; omega)] at h
              unfold rdN
              rw [h]
              show N ++ flP m L X = _
              rw [unhide hfl]
            go_wp2
            go_loopw [6, 10] (fun v i wr2 => ∃ q : Nat, q ≤ flC m L X ∧ i = .int .i64 (L + (q : Int)) ∧ OwnI wr2 w.heap.size v (N ++ flN m L q) ∧ Below w.heap.size w wr2) (fun _ i _ => (161 - (intOf i)).toNat)
            case atStart => exact ⟨0, Nat.zero_le _, by go_num, by rw [show flN m L 0 = [] from rfl, List.append_nil]; unfold OwnI; rw [unhide HLN]; exact unhide HOX, unhide HB⟩
            case round =>
              obtain ⟨q, hq, rfl, hown2, hb2⟩ := hrel
              have hfc : flC m L X ≤ 160 := by unfold flC; omega
              have hlq := flN_len m L q
              have hfd : q < flC m L X ↔ (L + (q : Int) ≤ X ∧ L + (q : Int) < m) := by unfold flC; omega
              by_cases hlt : q < flC m L X
              · obtain ⟨s1, s2⟩ := hfd.1 hlt
                have HSN : Hid (N ++ flN m L (q + 1) = (N ++ flN m L q) ++ [L + (q : Int)]) := by
                  show _ = _
                  rw [flN, List.append_assoc]
                have hYb : (N ++ flN m L q).length ≤ 161000 := by rw [List.length_append, unhide HLN, hlq]; omega
                have hzz := hb2.size
                generalize N ++ flN m L q = Y at *
                generalize hYL : Y.length = YL at *
                have HYL := hide hYL
                have hO : wr.ownsRow w.heap.size 3 1 u6 YL (ic Y) := by rw [← hYL]; exact hown2
                obtain ⟨ao2, cap2, rfl⟩ := own_shape' hO
                have HO2 := hide hO
                have HB2 := hide hb2
                clear hown2 hb2 hO hYL hfd HOX HO
                obtain ⟨z, hz9⟩ : ∃ z, z = L + (q : Int) := ⟨_, rfl⟩
                rw [← hz9] at HSN s1 s2 ⊢
                have HZ := hide hz9
                have z1 : -1 ≤ z := by omega
                have z2 : z ≤ 3000 := by omega
                clear hz9
                go_wp2_with (at_builtin; refine wpList_append_own _ rfl _ _ 47 rfl w.heap.size 3 i0 (.int .i64 0) 1 8 Tryd.undI hi hz0 hz1 hz2 rfl (by decide) _ _ _ rfl ((unhide HO2).alloc _) ⟨wr.heap.size, 0, none⟩ 1 1 [.int .i64 z] rfl rfl (news_lit _ [_] _) ?d2 ?d3 ?d4 ?d5 ?_)
                case d2 => first | rfl | (intro u hu; simp at hu; subst hu; rfl)
                case d3 => unfold maxLen; omega
                case d4 => omega
                case d5 => first | omega | (simp; omega)
                intro v' w3 hown' hgrow _
                have hb' := hide ((((unhide HB2).alloc (by omega) _)).grown hgrow (by simp; omega) (fun k hk => (((unhide HO2).lt k hk).1)))
                have ho2 : Hid (OwnI w3 w.heap.size v' (N ++ flN m L (q + 1))) := by
                  show World.ownsRow _ _ _ _ _ _ _
                  rw [unhide HSN, List.length_append, unhide HYL, ic_append]
                  exact hown'
                obtain ⟨ao', cap', rfl⟩ := own_shape' hown'
                clear hown' hgrow HO2 HB2
                go_wp2
                go_roundw
                case rel => exact ⟨q + 1, by omega, by have := unhide HZ; go_num, unhide ho2, unhide hb'⟩
                case measure => have := unhide HZ; simp [intOf]; omega
              · have hqe : q = flC m L X := by omega
                have hst : L + (q : Int) ≤ X → ¬ L + (q : Int) < m := fun h1 h2 => hlt (hfd.2 ⟨h1, h2⟩)
                have HO2 := hide hown2
                have HB2 := hide hb2
                have HQ := hide hqe
                obtain ⟨ao2, cap2, rfl, _⟩ := hown2.ints
                clear hown2 hb2 hqe hfd HOX HO
                have HNX := unhide hnx
                rw [← unhide HQ] at HNX
                have HNX2 := hide HNX
                clear HNX
                generalize N ++ flN m L q = Y at *
                generalize Y.length = YL at *
                obtain ⟨z, hz9⟩ : ∃ z, z = L + (q : Int) := ⟨_, rfl⟩
                rw [← hz9] at hst ⊢
                have z1 : -1 ≤ z := by omega
                have z2 : z ≤ 3000 := by omega
                clear hz9
                have hcs : ¬ z ≤ X ∨ (z ≤ X ∧ ¬ z < (m : Int)) := by
                  by_cases h : z ≤ X
                  · exact .inr ⟨h, hst h⟩
                  · exact .inl h
                clear hst
                rcases hcs with p1 | ⟨p1, p2⟩
                all_goals
                  go_wp2
                  go_roundw
                  case rel => exact ⟨k + 1, Y, -1, 0, by omega, by go_num, rfl, rfl, unhide HO2, fun h => (by omega), fun _ => (unhide HNX2).symm, unhide HB2⟩
                  case measure => simp [intOf]; omega
      · have hke : k = T.size + 1 := by omega
        have q1 : ¬ (k : Int) ≤ (T.size : Int) := by omega
        have hNN := hE hke
        subst hNN
        clear hS hE hgo hke
        have HB := hide hb
        have hNl : (rdN m t).length ≤ 100000 := by have := rdN_len hm t; omega
        obtain ⟨a1, c1, rfl, hT1, _, _⟩ := hown.ints
        have HT1 := hide hT1
        clear hT1 hown hb
        obtain ⟨S, hS⟩ : ∃ S, S = mkL m (docN m t) := ⟨_, rfl⟩
        rw [← hS] at hmk hpk hdoc
        have hres : Hid ((((bs (textR m S)).toList == T.toList) = true ∧ bs (redR m t) = bs S ∧ redE m t = 0) ∨ (((bs (textR m S)).toList == T.toList) = false ∧ bs (redR m t) = ⟨#[]⟩ ∧ redE m t = 3)) := by
          show _ ∨ _
          rw [unhide HTT, ByteArray.toList_eq, ByteArray.toList_eq, bs_list, bs_list]
          rcases unhide hdoc with ⟨d1, d2, d3⟩ | ⟨d1, d2, d3⟩
          · exact .inl ⟨by rw [d1]; simp, by unfold redR; rw [d2], d3⟩
          · exact .inr ⟨by simpa using d1, by unfold redR; rw [d2]; rfl, d3⟩
        have hof : ofsE m S = ofsE m S := rfl
        clear hdoc hof
        generalize ofsE m S = PE at *
        generalize bs (textR m S) = UU at *
        generalize bs S = SS at *
        have hcc := unhide HCMP
        clear hS
        by_cases h45 : t = [45]
        · rw [decide_eq_true h45] at hcc
          have hdn : docN m t = [] := by unfold docN; rw [if_pos h45]
          have HMK := hide (fun w => unhide hmk w none 0 (by rw [hdn]; intro i hi; simp at hi))
          rw [hdn, show ([] : List Int).length = 0 from rfl] at HMK
          clear hmk hdn
          generalize (rdN m t).length = LL at *
          go_wp2_with fail
          refine (unhide HMK _).mono ?_
          rintro e1 w1 ⟨rfl, b1⟩
          have B1 := hide ((unhide HB).trans (b1.mono (unhide HB).size))
          clear b1
          go_wp2_with fail
          refine (unhide hpk _).mono ?_
          rintro e2 w2 ⟨rfl, b2⟩
          have B2 := hide ((unhide B1).trans (b2.mono (unhide B1).size))
          clear b2 B1
          rcases unhide hres with ⟨d1, d2, d3⟩ | ⟨d1, d2, d3⟩
          all_goals
            have D2 := hide d2
            have D3 := hide d3
            clear d2 d3
            go_wp2
            go_ret2
            exact ⟨by rw [unhide D2, unhide D3]; rfl, unhide B2⟩
        · rw [decide_eq_false h45] at hcc
          have hdn : docN m t = rdN m t := by unfold docN; rw [if_neg h45]
          rw [hdn] at hmk
          have HMK := hide (fun w hT => unhide hmk w a1 c1 hT)
          clear hmk hdn
          generalize (rdN m t).length = LL at *
          go_wp2_with fail
          refine (unhide HMK _ (unhide HT1)).mono ?_
          rintro e1 w1 ⟨rfl, b1⟩
          have B1 := hide ((unhide HB).trans (b1.mono (unhide HB).size))
          clear b1
          go_wp2_with fail
          refine (unhide hpk _).mono ?_
          rintro e2 w2 ⟨rfl, b2⟩
          have B2 := hide ((unhide B1).trans (b2.mono (unhide B1).size))
          clear b2 B1
          rcases unhide hres with ⟨d1, d2, d3⟩ | ⟨d1, d2, d3⟩
          all_goals
            have D2 := hide d2
            have D3 := hide d3
            clear d2 d3
            go_wp2
            go_ret2
            exact ⟨by rw [unhide D2, unhide D3]; rfl, unhide B2⟩
  · have hr1 := red_out hr t
    rw [hr1.1, hr1.2, show bs [] = (⟨#[]⟩ : ByteArray) from rfl]
    clear hr1
    generalize bs t = T at *
    have q : n < 0 ∨ (¬ n < 0 ∧ 160 < n) := by omega
    clear hr
    go_enter Tryd.func24, Tryd.ntmps24
    rcases q with q | ⟨q, q'⟩
    · go_wp2
      go_ret2
      exact ⟨rfl, Below.refl _ _⟩
    · go_wp2
      go_ret2
      exact ⟨rfl, Below.refl _ _⟩
end Go.Proofs.YtbodklppgcloiaaDoor

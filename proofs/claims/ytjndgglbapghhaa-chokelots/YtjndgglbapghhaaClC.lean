/- choke: the document's Choose. -/
import Derived.Test.YtjndgglbapghhaaClB
import Derived.Test.YtjndgglbapghhaaCkU
namespace Go.Proofs.Ytjndgglbapghhaa
open Go.RowKit Go.Sort
set_option linter.unusedVariables false
attribute [local go_sem] Oper.semAt_some

set_option maxRecDepth 100000 in
set_option maxHeartbeats 4000000 in
theorem dchoose_bad (a0 : Option Addr) (l : List Pr) (c : Nat) (s lot x y : Int) (w : World) (hl : PrsAt w a0 l) (hm : l.length ≤ 100000) (hb : mayB s x y l = false ∨ lot < 0) :
    Calls Try.prog 10 #[.slice a0 l.length c, .int .i64 s, .int .i64 lot, rv x y] w fun e w' => e = badTop ∧ Below w.heap.size w w' := by
  have hb0 : Below w.heap.size w (w.alloc (.cells #[.int .i64 x, .int .i64 y] 37)) := (Below.refl _ w).alloc (Nat.le_refl _) _
  have HM := hide (dmay_any a0 l c s x y _ (hl.up hb0) hm)
  have B0 := hide hb0
  have f0 := (two_alloc w (.int .i64 x) (.int .i64 y) 37).c0
  have f1 := (two_alloc w (.int .i64 x) (.int .i64 y) 37).c1
  clear hl hm hb0
  generalize l.length = m at *
  generalize mayB s x y l = V at *
  unfold rv badTop at *
  cases V with
  | false =>
    clear hb
    go_enter Try.func10, Try.ntmps10
    go_wp2_with fail
    refine (unhide HM).mono ?_
    rintro e w1 ⟨rfl, b1⟩
    have B1 := hide ((unhide B0).trans (b1.mono (unhide B0).size))
    clear b1 f0 f1
    go_wp2
    go_ret2
    exact ⟨rfl, unhide B1⟩
  | true =>
    have q0 : lot < 0 := by
      rcases hb with h | h
      · cases h
      · exact h
    clear hb
    go_enter Try.func10, Try.ntmps10
    go_wp2_with fail
    refine (unhide HM).mono ?_
    rintro e w1 ⟨rfl, b1⟩
    have B1 := hide ((unhide B0).trans (b1.mono (unhide B0).size))
    clear b1 f0 f1
    go_wp2
    go_ret2
    exact ⟨rfl, unhide B1⟩
theorem chL_snoc (t : List Int) (n : Int) (l : List Pr) (k : Nat) (h : k < l.length) : chL t n (l.take (k + 1)) = chL t n (l.take k) ++ (if chP t n l[k] then [l[k].nd] else []) := fl_snoc _ l k h
set_option maxRecDepth 100000 in
set_option maxHeartbeats 8000000 in
theorem dchoose_good (a0 : Option Addr) (l : List Pr) (c s lot : Nat) (x y : Int) (w : World) (hl : PrsAt w a0 l) (hm : l.length ≤ 1000) (hs : s ≤ 8) (hv : mayB s x y l = true) :
    Calls Try.prog 10 #[.slice a0 l.length c, .int .i64 s, .int .i64 lot, rv x y] w fun e w' => ∃ v, e = .returned (.tuple #[v, .int .i64 0]) ∧ TopR w v (choL x y s lot l) w' := by
  have hb0 : Below w.heap.size w (w.alloc (.cells #[.int .i64 x, .int .i64 y] 37)) := (Below.refl _ w).alloc (Nat.le_refl _) _
  have hmy := dmay_any a0 l c s x y _ (hl.up hb0) (by omega)
  rw [hv] at hmy
  have HM := hide hmy
  have HL := hide hl
  have HT := hide (fun W (h : Below w.heap.size w W) => dtop_any a0 l c s x y W (hl.up h) hm hs)
  have HO := hide (fun b0 d W (h : Below w.heap.size w W) (hI : Ints W b0 (ndL (dTop x y s l))) => dothers_any a0 l c b0 (ndL (dTop x y s l)) d W (hl.up h) (by omega) hI (by unfold ndL dTop; rw [List.length_map]; have := List.length_filter_le (fun p => p.wa && decide ((l.filter fun q => q.wa && ahP x y q p).length < s)) l; omega))
  have HH := hide (fun (n : Int) b0 d W (hI : Ints W b0 (ndL (dTop x y s l))) => rhas_any b0 (ndL (dTop x y s l)) d n W hI (by unfold maxLen ndL dTop; rw [List.length_map]; have := List.length_filter_le (fun p => p.wa && decide ((l.filter fun q => q.wa && ahP x y q p).length < s)) l; omega))
  have hch : choL x y s lot l = chL (ndL (dTop x y s l)) (luck (ndL (dTop x y s l)) lot l) l := rfl
  rw [hch]
  have B0 := hide hb0
  have T0 := hide (two_alloc w (.int .i64 x) (.int .i64 y) 37)
  have f0 := (unhide T0).c0
  have f1 := (unhide T0).c1
  have HOL : Hid (∀ t, (otL t l).length ≤ 1000) := fun t => by
    unfold otL ndL
    rw [List.length_map]
    exact Nat.le_trans (List.length_filter_le _ _) hm
  clear hl hmy hb0 hv hs hch
  generalize ndL (dTop x y s l) = t at *
  obtain ⟨k0, hki, hkz0, hkz1, hkz2⟩ := info_parts Try.infoI
  obtain ⟨n, hn⟩ : ∃ n, n = l.length := ⟨_, rfl⟩
  rw [← hn] at hm HM HT HO ⊢
  have HN := hide hn
  clear hn
  obtain ⟨tl, htl⟩ : ∃ tl, tl = t.length := ⟨_, rfl⟩
  rw [← htl] at HO HH
  have HTL := hide htl
  clear htl
  have qL : ¬ (lot : Int) < 0 := by omega
  unfold rv at *
  obtain ⟨R, hRR⟩ : ∃ R, R = luck t lot l := ⟨_, rfl⟩
  rw [← hRR]
  have HRR := hide hRR
  clear hRR
  go_enter Try.func10, Try.ntmps10
  go_wp2_with fail
  refine (unhide HM).mono ?_
  rintro e w1 ⟨rfl, b1⟩
  have T1 := hide ((unhide T0).up b1)
  have B1 := hide ((unhide B0).trans (b1.mono (unhide B0).size))
  clear b1 f0 f1 T0 B0 HM
  have f0 := (unhide T1).c0
  have f1 := (unhide T1).c1
  go_wp2_with fail
  refine (unhide HT _ (unhide B1)).mono ?_
  rintro e w2 ⟨v2, rfl, h2⟩
  obtain ⟨a2, ct, rfl, hI2, _, _⟩ := OwnI.ints h2.own
  rw [← unhide HTL] at *
  have HI2 := hide hI2
  have B2 := hide ((unhide B1).trans (h2.be.mono (unhide B1).size))
  clear h2 hI2 f0 f1 T1 B1 HT
  go_wp2_with fail
  refine (unhide HO _ _ _ (unhide B2) (unhide HI2)).mono ?_
  rintro e w3 ⟨v3, rfl, o3, b3⟩
  obtain ⟨a3, c3, rfl, hI3, _, _⟩ := OwnI.ints o3
  have HI3 := hide hI3
  have HI2b := hide ((unhide HI2).up b3)
  have B3 := hide ((unhide B2).trans (b3.mono (unhide B2).size))
  have HLU : Hid (R = match (otL t l)[lot % (otL t l).length]? with | some z => z | none => 0) := by
    show _ = _
    rw [unhide HRR]
    unfold luck otL ndL
    rw [List.length_map, List.getElem?_map]
    cases (l.filter (otP t))[lot % (l.filter (otP t)).length]? <;> rfl
  have hol := unhide HOL t
  clear o3 b3 hI3 HO HI2 B2 HOL HRR
  generalize otL t l = O at *
  obtain ⟨ol, hoo⟩ : ∃ ol, ol = O.length := ⟨_, rfl⟩
  rw [← hoo] at hol HLU ⊢
  have HOO := hide hoo
  clear hoo
  rcases Nat.eq_zero_or_pos ol with hz | hz
  · subst hz
    have hR : R = 0 := (unhide HLU).trans (by rw [List.length_eq_zero_iff.1 (unhide HOO).symm]; rfl)
    subst hR
    clear HLU HI3
    go_wp2_with fail
    go_loopw [13, 14] (fun lv kv wr => ∃ (k m : Nat) (a : Option Addr) (c : Nat), k ≤ n ∧ m ≤ k ∧ kv = .int .i64 k ∧ lv = .slice a m c ∧ (chL t 0 (l.take k)).length = m ∧ OwnI wr w3.heap.size lv (chL t 0 (l.take k)) ∧ Below w3.heap.size w3 wr) (fun _ kv _ => n - (intOf kv).toNat)
    case atStart => exact ⟨0, 0, none, 0, by omega, by omega, rfl, rfl, rfl, World.ownsRow_nil _ _ _ _, Below.refl _ _⟩
    case round =>
      obtain ⟨k, m, a, c2, hk, hmk, rfl, rfl, hlen, hO, hB⟩ := hrel
      have HTL2 := hide hlen
      have HR := hide hO
      have HB := hide hB
      clear hO hB hlen
      by_cases hlt : k < n
      · have hlt' : k < l.length := by rw [← unhide HN]; exact hlt
        obtain ⟨e, he⟩ : ∃ e, e = l[k] := ⟨_, rfl⟩
        obtain ⟨g, o, rfl, hgl, hra⟩ := prs_range (unhide HL) ((unhide B3).trans ((unhide HB).mono (unhide B3).size)) (i := k) (p := e) (by rw [he]; exact List.getElem?_eq_getElem hlt')
        have hes := chL_snoc t 0 l k hlt'
        rw [← he] at hes
        have q1 : (k : Int) < n := by omega
        have u0 : wr.cell? ⟨g, o + k * 10, none⟩ = some (.int .i64 e.nd) := hra 0 _ rfl
        have HX := hide (unhide HH e.nd a2 ct wr ((unhide HI2b).up (unhide HB)))
        have HCP : Hid (chP t 0 e = (hasI t e.nd || decide (e.nd = 0))) := rfl
        rw [unhide HCP] at hes
        obtain ⟨T1, hT1⟩ : ∃ T, T = chL t 0 (l.take (k + 1)) := ⟨_, rfl⟩
        rw [← hT1] at hes
        have HT1 := hide hT1
        have HE := hide hes
        have hww : w3.heap.size ≤ wr.heap.size := (unhide HB).size
        have HO2 : Hid (∀ o, (wr.alloc o).ownsRow w3.heap.size 3 1 (.slice a m c2) m (ic (chL t 0 (l.take k)))) := fun o => by
          have := own_i_up (unhide HR) ((Below.refl wr.heap.size wr).alloc (Nat.le_refl _) o)
          unfold OwnI at this
          rw [unhide HTL2] at this
          exact this
        have HG2 := hide (fun z (hz : (Value.slice a m c2).ownBlock = some z) => own_i_ge (unhide HR) hz)
        clear hra he hlt' hes hT1 HCP hgl
        generalize hasI t e.nd = H at *
        generalize e.nd = nd at *
        go_wp2_with fail
        refine (unhide HX).mono ?_
        rintro e9 w9 ⟨rfl, rfl⟩
        clear HX
        cases H with
        | true =>
          have HE2 : Hid (T1 = chL t 0 (l.take k) ++ [nd]) := (unhide HE).trans (by simp)
          clear HE
          go_wp2_with (refine wpList_append_lies _ rfl (.tmp 63) (.tmp 69) 29 rfl w3.heap.size 3 k0 (.int .i64 0) 1 8 Try.undI hki hkz0 hkz1 hkz2 rfl (by decide) (.slice a m c2) m _ (by rfl) (unhide HO2 _) ⟨wr.heap.size, 0, none⟩ 1 1 [.int .i64 nd] (by rfl) (by rfl) (news_lit wr [.int .i64 nd] 3) (by intro u hu; simp at hu; subst hu; rfl) (by decide) (by unfold maxLen; omega) (by omega) (by simp; omega) (wr.heap.size + 1) (by simp) ?_)
          intro g2 cap2 w4 hown hgrow hat hlt2
          have HF : Hid (OwnI w4 w3.heap.size (.slice (some ⟨g2, 0, none⟩) (m + 1) cap2) T1) := by
            show OwnI _ _ _ _
            rw [unhide HE2]
            unfold OwnI
            rw [ic_append, List.length_append, unhide HTL2]
            exact hown
          have HB4 := hide (((unhide HB).alloc hww (.cells #[.int .i64 nd] 3)).grown hgrow (by simp; omega) (fun z hz => unhide HG2 z hz))
          have HL4 : Hid (T1.length = m + 1) := by
            show _ = _
            rw [unhide HE2, List.length_append, unhide HTL2]
            rfl
          clear hown hgrow hat hlt2 HO2 HB HG2
          go_wp2
          go_roundw
          case rel => exact ⟨k + 1, m + 1, _, _, by omega, by omega, by go_num, rfl, by rw [← unhide HT1]; exact unhide HL4, by rw [← unhide HT1]; exact unhide HF, unhide HB4⟩
          case measure => simp [intOf]; omega
        | false =>
          by_cases hq : nd = 0
          · have qq : (nd == 0) = true := by simpa using hq
            have HQ := hide hq
            clear hq
            have HE2 : Hid (T1 = chL t 0 (l.take k) ++ [nd]) := (unhide HE).trans (by simp [unhide HQ])
            clear HE
            go_wp2_with (refine wpList_append_lies _ rfl (.tmp 63) (.tmp 69) 29 rfl w3.heap.size 3 k0 (.int .i64 0) 1 8 Try.undI hki hkz0 hkz1 hkz2 rfl (by decide) (.slice a m c2) m _ (by rfl) (unhide HO2 _) ⟨wr.heap.size, 0, none⟩ 1 1 [.int .i64 nd] (by rfl) (by rfl) (news_lit wr [.int .i64 nd] 3) (by intro u hu; simp at hu; subst hu; rfl) (by decide) (by unfold maxLen; omega) (by omega) (by simp; omega) (wr.heap.size + 1) (by simp) ?_)
            intro g2 cap2 w4 hown hgrow hat hlt2
            have HF : Hid (OwnI w4 w3.heap.size (.slice (some ⟨g2, 0, none⟩) (m + 1) cap2) T1) := by
              show OwnI _ _ _ _
              rw [unhide HE2]
              unfold OwnI
              rw [ic_append, List.length_append, unhide HTL2]
              exact hown
            have HB4 := hide (((unhide HB).alloc hww (.cells #[.int .i64 nd] 3)).grown hgrow (by simp; omega) (fun z hz => unhide HG2 z hz))
            have HL4 : Hid (T1.length = m + 1) := by
              show _ = _
              rw [unhide HE2, List.length_append, unhide HTL2]
              rfl
            clear hown hgrow hat hlt2 HO2 HB HG2
            go_wp2
            go_roundw
            case rel => exact ⟨k + 1, m + 1, _, _, by omega, by omega, by go_num, rfl, by rw [← unhide HT1]; exact unhide HL4, by rw [← unhide HT1]; exact unhide HF, unhide HB4⟩
            case measure => simp [intOf]; omega
          · have qq : (nd == 0) = false := by simpa using hq
            have HQ := hide hq
            clear hq
            have HE2 : Hid (T1 = chL t 0 (l.take k)) := (unhide HE).trans (by simp [show ¬ nd = 0 from unhide HQ])
            clear HE HO2 HG2
            go_wp2
            go_roundw
            case rel => exact ⟨k + 1, m, _, _, by omega, by omega, by go_num, rfl, by rw [← unhide HT1, unhide HE2]; exact unhide HTL2, by rw [← unhide HT1, unhide HE2]; exact unhide HR, unhide HB⟩
            case measure => simp [intOf]; omega
      · have hkn : k = n := by omega
        have q1 : ¬ (k : Int) < n := by omega
        have HF : Hid (TopR w (.slice a m c2) (chL t 0 l) wr) := by
          have h1 := unhide HR
          rw [show l.take k = l by rw [hkn, unhide HN, List.take_length]] at h1
          exact ⟨own_i_le h1 (unhide B3).size, (unhide B3).trans ((unhide HB).mono (unhide B3).size)⟩
        clear hkn HR
        go_wp2
        go_ret2
        exact ⟨_, rfl, unhide HF⟩
  · have hkn : lot % ol < ol := Nat.mod_lt _ hz
    obtain ⟨g3, o3, rfl, hc3⟩ := unhide HI3 (lot % ol) (by rw [← unhide HOO]; exact hkn)
    have hR : R = O[lot % ol]'(by rw [← unhide HOO]; exact hkn) := (unhide HLU).trans (by rw [List.getElem?_eq_getElem])
    rw [← hR] at hc3
    have hmod : Int.tmod (lot : Int) (ol : Int) = ((lot % ol : Nat) : Int) := (Int.ofNat_tmod lot ol).symm
    clear hR HLU HI3
    generalize lot % ol = kk at *
    have qz : (0 : Int) < ol := by omega
    have qz2 : decide (0 < ol) = true := decide_eq_true hz
    have qy : ¬ (ol : Int) = 0 := by omega
    have qx : ((kk : Nat) : Int) < ol := by omega
    clear hz
    go_wp2_with fail
    clear hc3 hmod hkn qz qy qx
    go_loopw [13, 14] (fun lv kv wr => ∃ (k m : Nat) (a : Option Addr) (c : Nat), k ≤ n ∧ m ≤ k ∧ kv = .int .i64 k ∧ lv = .slice a m c ∧ (chL t R (l.take k)).length = m ∧ OwnI wr w3.heap.size lv (chL t R (l.take k)) ∧ Below w3.heap.size w3 wr) (fun _ kv _ => n - (intOf kv).toNat)
    case atStart => exact ⟨0, 0, none, 0, by omega, by omega, rfl, rfl, rfl, World.ownsRow_nil _ _ _ _, Below.refl _ _⟩
    case round =>
      obtain ⟨k, m, a, c2, hk, hmk, rfl, rfl, hlen, hO, hB⟩ := hrel
      have HTL2 := hide hlen
      have HR := hide hO
      have HB := hide hB
      clear hO hB hlen
      by_cases hlt : k < n
      · have hlt' : k < l.length := by rw [← unhide HN]; exact hlt
        obtain ⟨e, he⟩ : ∃ e, e = l[k] := ⟨_, rfl⟩
        obtain ⟨g, o, rfl, hgl, hra⟩ := prs_range (unhide HL) ((unhide B3).trans ((unhide HB).mono (unhide B3).size)) (i := k) (p := e) (by rw [he]; exact List.getElem?_eq_getElem hlt')
        have hes := chL_snoc t R l k hlt'
        rw [← he] at hes
        have q1 : (k : Int) < n := by omega
        have u0 : wr.cell? ⟨g, o + k * 10, none⟩ = some (.int .i64 e.nd) := hra 0 _ rfl
        have HX := hide (unhide HH e.nd a2 ct wr ((unhide HI2b).up (unhide HB)))
        have HCP : Hid (chP t R e = (hasI t e.nd || decide (e.nd = R))) := rfl
        rw [unhide HCP] at hes
        obtain ⟨T1, hT1⟩ : ∃ T, T = chL t R (l.take (k + 1)) := ⟨_, rfl⟩
        rw [← hT1] at hes
        have HT1 := hide hT1
        have HE := hide hes
        have hww : w3.heap.size ≤ wr.heap.size := (unhide HB).size
        have HO2 : Hid (∀ o, (wr.alloc o).ownsRow w3.heap.size 3 1 (.slice a m c2) m (ic (chL t R (l.take k)))) := fun o => by
          have := own_i_up (unhide HR) ((Below.refl wr.heap.size wr).alloc (Nat.le_refl _) o)
          unfold OwnI at this
          rw [unhide HTL2] at this
          exact this
        have HG2 := hide (fun z (hz : (Value.slice a m c2).ownBlock = some z) => own_i_ge (unhide HR) hz)
        clear hra he hlt' hes hT1 HCP hgl
        generalize hasI t e.nd = H at *
        generalize e.nd = nd at *
        go_wp2_with fail
        refine (unhide HX).mono ?_
        rintro e9 w9 ⟨rfl, rfl⟩
        clear HX
        cases H with
        | true =>
          have HE2 : Hid (T1 = chL t R (l.take k) ++ [nd]) := (unhide HE).trans (by simp)
          clear HE
          go_wp2_with (refine wpList_append_lies _ rfl (.tmp 63) (.tmp 69) 29 rfl w3.heap.size 3 k0 (.int .i64 0) 1 8 Try.undI hki hkz0 hkz1 hkz2 rfl (by decide) (.slice a m c2) m _ (by rfl) (unhide HO2 _) ⟨wr.heap.size, 0, none⟩ 1 1 [.int .i64 nd] (by rfl) (by rfl) (news_lit wr [.int .i64 nd] 3) (by intro u hu; simp at hu; subst hu; rfl) (by decide) (by unfold maxLen; omega) (by omega) (by simp; omega) (wr.heap.size + 1) (by simp) ?_)
          intro g2 cap2 w4 hown hgrow hat hlt2
          have HF : Hid (OwnI w4 w3.heap.size (.slice (some ⟨g2, 0, none⟩) (m + 1) cap2) T1) := by
            show OwnI _ _ _ _
            rw [unhide HE2]
            unfold OwnI
            rw [ic_append, List.length_append, unhide HTL2]
            exact hown
          have HB4 := hide (((unhide HB).alloc hww (.cells #[.int .i64 nd] 3)).grown hgrow (by simp; omega) (fun z hz => unhide HG2 z hz))
          have HL4 : Hid (T1.length = m + 1) := by
            show _ = _
            rw [unhide HE2, List.length_append, unhide HTL2]
            rfl
          clear hown hgrow hat hlt2 HO2 HB HG2
          go_wp2
          go_roundw
          case rel => exact ⟨k + 1, m + 1, _, _, by omega, by omega, by go_num, rfl, by rw [← unhide HT1]; exact unhide HL4, by rw [← unhide HT1]; exact unhide HF, unhide HB4⟩
          case measure => simp [intOf]; omega
        | false =>
          by_cases hq : nd = R
          · have qq : (nd == R) = true := by simpa using hq
            have HQ := hide hq
            clear hq
            have HE2 : Hid (T1 = chL t R (l.take k) ++ [nd]) := (unhide HE).trans (by simp [unhide HQ])
            clear HE
            go_wp2_with (refine wpList_append_lies _ rfl (.tmp 63) (.tmp 69) 29 rfl w3.heap.size 3 k0 (.int .i64 0) 1 8 Try.undI hki hkz0 hkz1 hkz2 rfl (by decide) (.slice a m c2) m _ (by rfl) (unhide HO2 _) ⟨wr.heap.size, 0, none⟩ 1 1 [.int .i64 nd] (by rfl) (by rfl) (news_lit wr [.int .i64 nd] 3) (by intro u hu; simp at hu; subst hu; rfl) (by decide) (by unfold maxLen; omega) (by omega) (by simp; omega) (wr.heap.size + 1) (by simp) ?_)
            intro g2 cap2 w4 hown hgrow hat hlt2
            have HF : Hid (OwnI w4 w3.heap.size (.slice (some ⟨g2, 0, none⟩) (m + 1) cap2) T1) := by
              show OwnI _ _ _ _
              rw [unhide HE2]
              unfold OwnI
              rw [ic_append, List.length_append, unhide HTL2]
              exact hown
            have HB4 := hide (((unhide HB).alloc hww (.cells #[.int .i64 nd] 3)).grown hgrow (by simp; omega) (fun z hz => unhide HG2 z hz))
            have HL4 : Hid (T1.length = m + 1) := by
              show _ = _
              rw [unhide HE2, List.length_append, unhide HTL2]
              rfl
            clear hown hgrow hat hlt2 HO2 HB HG2
            go_wp2
            go_roundw
            case rel => exact ⟨k + 1, m + 1, _, _, by omega, by omega, by go_num, rfl, by rw [← unhide HT1]; exact unhide HL4, by rw [← unhide HT1]; exact unhide HF, unhide HB4⟩
            case measure => simp [intOf]; omega
          · have qq : (nd == R) = false := by simpa using hq
            have HQ := hide hq
            clear hq
            have HE2 : Hid (T1 = chL t R (l.take k)) := (unhide HE).trans (by simp [show ¬ nd = R from unhide HQ])
            clear HE HO2 HG2
            go_wp2
            go_roundw
            case rel => exact ⟨k + 1, m, _, _, by omega, by omega, by go_num, rfl, by rw [← unhide HT1, unhide HE2]; exact unhide HTL2, by rw [← unhide HT1, unhide HE2]; exact unhide HR, unhide HB⟩
            case measure => simp [intOf]; omega
      · have hkn : k = n := by omega
        have q1 : ¬ (k : Int) < n := by omega
        have HF : Hid (TopR w (.slice a m c2) (chL t R l) wr) := by
          have h1 := unhide HR
          rw [show l.take k = l by rw [hkn, unhide HN, List.take_length]] at h1
          exact ⟨own_i_le h1 (unhide B3).size, (unhide B3).trans ((unhide HB).mono (unhide B3).size)⟩
        clear hkn HR
        go_wp2
        go_ret2
        exact ⟨_, rfl, unhide HF⟩
end Go.Proofs.Ytjndgglbapghhaa

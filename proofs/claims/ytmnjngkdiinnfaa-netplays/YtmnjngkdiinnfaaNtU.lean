/- net: the document's Lose. -/
import Derived.Test.YtmnjngkdiinnfaaNtS
namespace Go.Proofs.Ytmnjngkdiinnfaa
open Go.RowKit
set_option linter.unusedVariables false
attribute [local go_sem] Oper.semAt_some

/-- two blocks of nets -/
structure LsS (w : World) (a z : Array Value) (x : World) : Prop where
  nb : x.heap[w.heap.size]? = some (.cells a 28 (0, 0))
  zb : x.heap[w.heap.size + 1]? = some (.cells z 28 (0, 0))
  be : Below w.heap.size w x
theorem LsS.up {w : World} {a z : Array Value} {x y : World} (h : LsS w a z x) (hb : Below x.heap.size x y) : LsS w a z y :=
  ⟨(hb.block _ (lt_of_block h.nb)).trans h.nb, (hb.block _ (lt_of_block h.zb)).trans h.zb, h.be.trans (hb.mono h.be.size)⟩
theorem lsS (w : World) (a z : Array Value) : LsS w a z ((w.alloc (.cells a 28)).alloc (.cells z 28)) := by
  refine ⟨?_, heap2_b _ _ _, ((Below.refl _ _).alloc (Nat.le_refl _) _).alloc (by simp) _⟩
  rw [Below.heap_alloc _ _ _ (by simp)]
  exact heap_alloc_new w _
theorem LsS.setz {w : World} {a z : Array Value} {x : World} (h : LsS w a z x) (c : Array Value) : LsS w a c (x.setRow (w.heap.size + 1) c) :=
  ⟨(setRow_other _ _ _ _ (by omega)).trans h.nb, setRow_heap _ _ _ _ _ _ h.zb, ⟨h.be.os, h.be.tape, h.be.output, by simpa [World.setRow] using h.be.size, fun i hi => (setRow_other _ _ i _ (by omega)).trans (h.be.block i hi)⟩⟩
theorem LsS.setn {w : World} {a z : Array Value} {x : World} (h : LsS w a z x) (j : Nat) (v : Value) : LsS w (a.setIfInBounds j v) z (x.setCell ⟨w.heap.size, j, none⟩ v) :=
  ⟨heap_setCell_same x _ j _ _ _ h.nb, (Below.heap_setCell _ _ _ _ (by show _ ≠ w.heap.size; omega)).trans h.zb, h.be.setCell (p := ⟨w.heap.size, j, none⟩) (Nat.le_refl _) v⟩
/-- the answer's block, the mails -/
structure FsL (w : World) (B : Nat) (v : Value) (l : List Mg) (nC : Array Value) (x : World) : Prop where
  zb : x.heap[w.heap.size + 1]? = some (.cells nC 28 (0, 0))
  be : Below w.heap.size w x
  o : OwnR x B v l
theorem tk_fI (rs : List Mg) (k : Int) : (fI rs k = -1 ∧ tkE rs k = 4 ∧ tkL rs k = rs) ∨ (∃ i : Nat, fI rs k = i ∧ tkE rs k = 0) := by
  rcases fI_ways rs k with ⟨i, x, h1, h2, h3⟩ | ⟨h1, h2⟩
  · right
    exact ⟨i, h1, by unfold tkE; rw [h3]; rfl⟩
  · left
    refine ⟨h1, by unfold tkE; rw [h2]; rfl, ?_⟩
    unfold tkL
    rw [List.filter_eq_self]
    intro r hr
    simpa using fM_none h2 r hr
set_option maxRecDepth 100000 in
set_option maxHeartbeats 4000000 in
theorem dlose_any (B : Nat) (room last k : Int) (v : Value) (rs : List Mg) (w : World) (hO : OwnR w B v rs) (hB : B ≤ w.heap.size) (hlen : rs.length ≤ 600) :
    Calls Try.prog 15 #[dnV room last v, .int .i64 k] w fun e w' => (∃ v', e = .returned (.tuple #[dnV room last v', .int .i64 (tkE rs k)]) ∧ OwnR w' B v' (tkL rs k)) ∧ Below w.heap.size w w' := by
  have hp0 := lsS w (dnC room last v) zDn
  have hO2 : OwnR ((w.alloc (.cells (dnC room last v) 28)).alloc (.cells zDn 28)) B v rs := hO.below hp0.be
  have hfi := hide (dfind_any B room last k v rs _ hO2 hlen)
  obtain ⟨aM, cM, rfl, _⟩ := hO.mls
  have hway := tk_fI rs k
  obtain ⟨n, hn⟩ : ∃ n, rs.length = n := ⟨_, rfl⟩
  have hln : n ≤ 600 := by rw [← hn]; exact hlen
  have HO2 := hide hO2
  have P0 := hide hp0
  rw [hn] at hfi HO2 P0 ⊢
  have HN := hide hn
  obtain ⟨c0, c1, c2, cf⟩ := cells3 (unhide P0).nb
  rcases hway with ⟨h1, h2, h3⟩ | ⟨i, h1, h2⟩
  · rw [h1] at hfi
    rw [h2, h3]
    have HI := hide (dn_info room last (.slice aM n cM))
    have HA := hide (dn_all (room := room) (last := last) (a0 := aM) (n := n) (c := cM))
    clear hO hO2 hp0 h1 h2 h3 hn
    go_enter Try.func15, Try.ntmps15
    go_wp2_with fail
    refine (unhide hfi).mono ?_
    rintro e w1 ⟨rfl, b1⟩
    have P1 := hide ((unhide P0).up b1)
    have Z1 := hide (unhide P1).zb
    have HO1 := hide ((unhide HO2).below b1)
    have HF : Hid (FsL w B (.slice aM n cM) rs (dnC room last (.slice aM n cM)) (w1.setRow (w.heap.size + 1) (dnC room last (.slice aM n cM)))) := ⟨((unhide P1).setz _).zb, ((unhide P1).setz _).be, ownR_row (unhide HO1) (unhide Z1) (by decide) _⟩
    clear b1 hfi c0 c1 c2 cf
    obtain ⟨c0, c1, c2, cf⟩ := cells3 (unhide P1).nb
    go_wp2_with (refine wpList_store_row_to rfl 28 (.tmp 4) (.tmp 12) rfl (w.heap.size + 1) (dnC room last (.slice aM n cM)) rfl rfl 28 zDn (unhide Z1) (unhide HI) rfl (unhide HA) (FsL w B (.slice aM n cM) rs (dnC room last (.slice aM n cM))) (unhide HF) ?_)
    intro w2 h2'
    have H2 := hide h2'
    clear h2'
    go_wp2
    exact ret_row2 (p := 4) (q := 5) (ty := 28) (by kernel_rfl) (w.heap.size + 1) 28 (dnC room last (.slice aM n cM)) (0, 0) _ _ rfl rfl (unhide H2).zb rfl Try.underlying28 (unhide HI) ⟨⟨_, rfl, (unhide H2).o⟩, (unhide H2).be⟩
  · rw [h1] at hfi
    rw [h2]
    obtain ⟨k0, hki, hkz0, hkz1, hkz2⟩ := info_parts Try.infoMr
    have q0 : ¬ (i : Int) < 0 := by omega
    clear hO hO2 hp0 h1 h2 hn
    go_enter Try.func15, Try.ntmps15
    go_wp2_with fail
    refine (unhide hfi).mono ?_
    rintro e w1 ⟨rfl, b1⟩
    have P1 := hide ((unhide P0).up b1)
    have HO1 := hide ((unhide HO2).below b1)
    obtain ⟨aQ, cQ, hq, hml⟩ := (unhide HO1).mls
    rw [unhide HN] at hq
    simp only [Value.slice.injEq, true_and] at hq
    obtain ⟨rfl, rfl⟩ := hq
    have HML := hide hml
    clear b1 hfi c0 c1 c2 cf hml q0
    go_wp2_with fail
    go_loopw [6, 7] (fun lv kv wr => ∃ j : Nat, j ≤ n ∧ kv = .int .i64 j ∧ OwnR wr w1.heap.size lv (tkL (rs.take j) k) ∧ Below w1.heap.size w1 wr) (fun _ kv _ => n - (intOf kv).toNat)
    case atStart => exact ⟨0, by omega, rfl, by rw [List.take_zero]; exact World.ownsRow_nil _ _ _ _, Below.refl _ _⟩
    case round =>
      obtain ⟨j, hj, rfl, ho, hb⟩ := hrel
      obtain ⟨aL, cL, rfl, _⟩ := ho.mls
      have htl : (tkL (rs.take j) k).length ≤ 600 := by
        have h1 : (tkL (rs.take j) k).length ≤ (rs.take j).length := List.length_filter_le _ _
        rw [List.length_take] at h1
        omega
      obtain ⟨m, hm⟩ : ∃ m, (tkL (rs.take j) k).length = m := ⟨_, rfl⟩
      rw [hm] at ho htl ⊢
      have HM := hide hm
      have HO := hide ho
      have HB := hide hb
      have PR := hide ((unhide P1).up hb)
      obtain ⟨c0, c1, c2, cf⟩ := cells3 (unhide PR).nb
      have hwx : w1.heap.size ≤ wr.heap.size := hb.size
      clear ho hb hm
      by_cases hlt : j < n
      · have q1 : (j : Int) < n := by omega
        have hkl : j < rs.length := by rw [unhide HN]; exact hlt
        obtain ⟨x, hx⟩ : ∃ x, x = rs[j] := ⟨_, rfl⟩
        have hxk : rs[j]? = some x := by rw [hx]; exact List.getElem?_eq_getElem hkl
        have HTK : Hid (rs.take (j + 1) = rs.take j ++ [x]) := by rw [hx]; exact List.take_succ_eq_append_getElem hkl
        obtain ⟨gM, rfl, hrg⟩ := ((unhide HML).up (unhide HB)) j x hxk
        obtain ⟨yi, yf, yt, yx⟩ := x
        have y0 : wr.cell? ⟨gM, j * 4, none⟩ = some (.int .i64 yi) := hrg 0 _ rfl
        have y1 : wr.cell? ⟨gM, j * 4 + 1, none⟩ = some (.int .i64 yf) := hrg 1 _ rfl
        have y2 : wr.cell? ⟨gM, j * 4 + 2, none⟩ = some (.int .i64 yt) := hrg 2 _ rfl
        have y3 : wr.cell? ⟨gM, j * 4 + 3, none⟩ = some (.string yx) := hrg 3 _ rfl
        clear hkl hx hxk hrg
        by_cases he : yi = k
        · have q3 : (yi == k) = true := by simp [he]
          have q4 : (yi != k) = false := by simp [he]
          have HT : Hid (OwnR wr w1.heap.size (.slice aL m cL) (tkL (rs.take (j + 1)) k)) := by
            show OwnM _ _ _ _ _
            have h := unhide HO
            rw [unhide HTK]
            unfold tkL at h ⊢
            rw [List.filter_append]
            simpa [he] using h
          clear he
          go_wp2
          go_roundw
          case rel => exact ⟨j + 1, by omega, by go_num, unhide HT, unhide HB⟩
          case measure => simp [intOf]; omega
        · have q3 : (yi == k) = false := by simp [he]
          have q4 : (yi != k) = true := by simp [he]
          have HT : Hid (tkL (rs.take (j + 1)) k = tkL (rs.take j) k ++ [⟨yi, yf, yt, yx⟩]) := by
            show _ = _
            rw [unhide HTK]
            unfold tkL
            rw [List.filter_append]
            simp [he]
          have HR : Hid (wr.ownsRow w1.heap.size 37 4 (.slice aL m cL) m (mlF (tkL (rs.take j) k))) := by
            have := unhide HO
            unfold OwnR OwnM at this
            rw [unhide HM] at this
            exact this
          clear he
          go_wp2_with (refine wpList_append_lies _ rfl (.tmp 28) (.tmp 34) 26 rfl w1.heap.size 37 k0 (.agg #[.int .i64 0, .int .i64 0, .int .i64 0, .string ⟨#[]⟩]) 4 40 Try.undMr hki hkz0 hkz1 hkz2 rfl (by decide) (.slice aL m cL) m _ (by rfl) (own_m_alloc (unhide HR) _) ⟨wr.heap.size, 0, none⟩ 1 1 [.int .i64 yi, .int .i64 yf, .int .i64 yt, .string yx] (by rfl) (by rfl) (World.news_of_block (heap_alloc_new wr _)) (mlL_one ⟨yi, yf, yt, yx⟩) (by decide) (by unfold maxLen; omega) (by omega) (by simp; omega) _ rfl ?_)
          intro g2 cap2 w5 hown hgrow hat hlt2
          have hO5 : OwnR w5 w1.heap.size (.slice (some ⟨g2, 0, none⟩) (m + 1) cap2) (tkL (rs.take (j + 1)) k) := by
            unfold OwnR OwnM
            rw [unhide HT, mlF_append, List.length_append, unhide HM]
            exact hown
          have hB5 : Below w1.heap.size w1 w5 := ((unhide HB).alloc hwx _).grown hgrow (by simp; omega) (fun z hz => own_m_ge (unhide HO) hz)
          have HO5 := hide hO5
          have HB5 := hide hB5
          clear hown hgrow hat hlt2 hO5 hB5 HO HB HR c0 c1 c2 cf y0 y1 y2 y3
          go_wp2
          go_roundw
          case rel => exact ⟨j + 1, by omega, by go_num, unhide HO5, unhide HB5⟩
          case measure => simp [intOf]; omega
      · obtain rfl : j = n := by omega
        have q1 : ¬ (j : Int) < j := by omega
        have hfull : rs.take j = rs := List.take_of_length_le (by rw [unhide HN]; exact Nat.le_refl _)
        have hO9 : OwnR wr w1.heap.size (.slice aL m cL) (tkL rs k) := by
          have := unhide HO
          rw [hfull] at this
          exact this
        have S6 := (unhide PR).setn 2 (.slice aL m cL)
        have hO6 := ownR_set hO9 (unhide PR).nb (show 28 ≠ 37 by decide) 2 (.slice aL m cL)
        have hn6 := S6.nb
        unfold dnC at hn6
        simp only [List.setIfInBounds_toArray, List.set_cons_succ, List.set_cons_zero] at hn6
        have HZ6 := hide S6.zb
        have hBw : B ≤ w1.heap.size := by have := (unhide P1).be.size; omega
        have HF : Hid (FsL w B (.slice aL m cL) (tkL rs k) (dnC room last (.slice aL m cL)) ((wr.setCell ⟨w.heap.size, 2, none⟩ (.slice aL m cL)).setRow (w.heap.size + 1) (dnC room last (.slice aL m cL)))) := ⟨(S6.setz _).zb, (S6.setz _).be, ownR_row (hO6.le hBw) S6.zb (by decide) _⟩
        have HN6 := hide hn6
        have HI := hide (dn_info room last (.slice aL m cL))
        have HA := hide (dn_all (room := room) (last := last) (a0 := aL) (n := m) (c := cL))
        obtain ⟨RS, hRS⟩ : ∃ RS, RS = tkL rs k := ⟨_, rfl⟩
        rw [← hRS] at HF
        have HRS := hide hRS
        clear hfull hO9 hO6 hn6 S6 HO hRS hBw
        go_wp2_with (refine wpList_store_row_to rfl 28 (.tmp 4) (.tmp 38) rfl (w.heap.size + 1) (dnC room last (.slice aL m cL)) rfl rfl 28 zDn (unhide HZ6) (unhide HI) rfl (unhide HA) (FsL w B (.slice aL m cL) RS (dnC room last (.slice aL m cL))) (unhide HF) ?_)
        intro w2 h2'
        have H2 := hide h2'
        clear h2'
        go_wp2
        exact ret_row2 (p := 4) (q := 5) (ty := 28) (by kernel_rfl) (w.heap.size + 1) 28 (dnC room last (.slice aL m cL)) (0, 0) _ _ rfl rfl (unhide H2).zb rfl Try.underlying28 (unhide HI) ⟨⟨_, rfl, by have h := (unhide H2).o; rw [unhide HRS] at h; exact h⟩, (unhide H2).be⟩
end Go.Proofs.Ytmnjngkdiinnfaa

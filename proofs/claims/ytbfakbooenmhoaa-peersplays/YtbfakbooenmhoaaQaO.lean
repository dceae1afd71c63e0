/- PeersHeard. -/
import Derived.Test.YtbfakbooenmhoaaQaN
namespace Go.Proofs.Ytbfakbooenmhoaa
open Go.RowKit
set_option linter.unusedVariables false
attribute [local go_sem] Oper.semAt_some

set_option maxRecDepth 100000 in
theorem new_no (room tmo : Int) (w : World) (h : ¬ ((1 ≤ room ∧ room ≤ 15) ∧ (1 ≤ tmo ∧ tmo ≤ 1099511627776))) :
    Calls Try.prog 8 #[.int .i64 room, .int .i64 tmo] w fun e w' => e = .returned (.pointer none) ∧ w = w' := by
  have g1 := hide (isFrom_any 1 room 15 w)
  have g2 := hide (isFrom_any 1 tmo 1099511627776 w)
  by_cases h1 : 1 ≤ room ∧ room ≤ 15
  · rw [decide_eq_true h1] at g1
    rw [decide_eq_false (fun h2 => h ⟨h1, h2⟩)] at g2
    clear h1 h
    go_enter Try.func8, Try.ntmps8
    go_wp2_with fail
    refine (unhide g1).mono ?_
    rintro e w1 ⟨rfl, rfl⟩
    go_wp2_with fail
    refine (unhide g2).mono ?_
    rintro e w1 ⟨rfl, rfl⟩
    go_wp2
    go_ret
    exact ⟨rfl, rfl⟩
  · rw [decide_eq_false h1] at g1
    clear h1 h g2
    go_enter Try.func8, Try.ntmps8
    go_wp2_with fail
    refine (unhide g1).mono ?_
    rintro e w1 ⟨rfl, rfl⟩
    go_wp2
    go_ret
    exact ⟨rfl, rfl⟩
/-- two peers: the first is there or not, heard at s; the second is there up to its time -/
structure HI (w : World) (b : Nat) (tmo now s : Int) (th : Bool) (wr : World) : Prop where
  tb : ∃ P C, Tb w.heap.size wr b 2 tmo P C noB ∧ (∀ p, p ≠ 1 → p ≠ 2 → P p = none) ∧ (P 1).isSome = th ∧ (th = true → (C 1).se = s) ∧ (P 2).isSome = decide (now ≤ tmo) ∧ (C 2).se = 0
  be : Below w.heap.size w wr
theorem HI.up {w : World} {b : Nat} {tmo now s : Int} {th : Bool} {x y : World} (h : HI w b tmo now s th x) (hb : Below x.heap.size x y) : HI w b tmo now s th y := by
  obtain ⟨P, C, h1, h2⟩ := h.tb
  exact ⟨⟨P, C, h1.up hb, h2⟩, h.be.trans (hb.mono h.be.size)⟩
theorem ns_two {P : Nat → Option Nat} (h : ∀ p, p ≠ 1 → p ≠ 2 → P p = none) : (ns P).length ≤ 2 := by
  have e : ns P = [1, 2].filter fun p => (P p).isSome := by
    unfold ns
    have h0 := h 0 (by omega) (by omega)
    have h3 := h 3 (by omega) (by omega)
    have h4 := h 4 (by omega) (by omega)
    have h5 := h 5 (by omega) (by omega)
    have h6 := h 6 (by omega) (by omega)
    have h7 := h 7 (by omega) (by omega)
    have h8 := h 8 (by omega) (by omega)
    have h9 := h 9 (by omega) (by omega)
    have h10 := h 10 (by omega) (by omega)
    have h11 := h 11 (by omega) (by omega)
    have h12 := h 12 (by omega) (by omega)
    have h13 := h 13 (by omega) (by omega)
    have h14 := h 14 (by omega) (by omega)
    have h15 := h 15 (by omega) (by omega)
    rw [show List.range 16 = [0, 1, 2, 3, 4, 5, 6, 7, 8, 9, 10, 11, 12, 13, 14, 15] from rfl]
    simp [List.filter, h0, h3, h4, h5, h6, h7, h8, h9, h10, h11, h12, h13, h14, h15]
  rw [e]
  exact Nat.le_trans (List.length_filter_le _ _) (by simp)
theorem exP_at (P : Nat → Option Nat) (C : Nat → Pr) (tmo now : Int) (p : Nat) (hp : p < 16) : (exP P C tmo now 16 p).isSome = ((P p).isSome && !late C tmo now p) := by
  unfold exP
  rw [List.take_of_length_le (ns_len P)]
  cases hP : P p with
  | none =>
    split <;> simp
  | some g =>
    have hm : p ∈ ns P := ns_mem.2 ⟨hp, g, hP⟩
    cases hl : late C tmo now p <;> simp [hm]
theorem HI.expire {w : World} {b : Nat} {tmo now : Int} {th : Bool} {x : World} (h : HI w b tmo now now th x) (gap : Int) (hg : 0 ≤ gap) (hn : 0 ≤ now ∧ now + gap ≤ 1099511627776) :
    Calls Try.prog 19 #[.pointer (some ⟨b, 0, none⟩), .int .i64 (now + gap)] x fun e w' => ∃ a m c, e = .returned (.slice a m c) ∧ m ≤ 2 ∧ HI w b tmo (now + gap) now (th && !decide (tmo < gap)) w' := by
  obtain ⟨P, C, h1, h2, h3, h4, h5, h6⟩ := h.tb
  refine (expire_any w.heap.size b 2 tmo (now + gap) P C noB x h1 (by omega)).mono ?_
  rintro e w' ⟨v, he, t, ow, kt⟩
  obtain ⟨a0, c, hv, _⟩ := OwnI.ints ow
  subst hv
  have hl : (exG P C tmo (now + gap) 16).length ≤ 2 := by
    unfold exG
    rw [List.length_map]
    exact Nat.le_trans (List.length_filter_le _ _) (Nat.le_trans (List.length_take_le' _ _) (ns_two h2))
  refine ⟨a0, _, c, he, hl, ⟨⟨_, C, t, ?_, ?_, ?_, ?_, h6⟩, h.be.trans (h1.below kt)⟩⟩
  · intro p p1 p2
    unfold exP
    split
    · rfl
    · exact h2 p p1 p2
  · rw [exP_at _ _ _ _ _ (by omega), h3]
    cases th with
    | false => rfl
    | true =>
      unfold late
      rw [h4 rfl, show now + gap - now = gap by omega]
  · intro ht
    refine h4 ?_
    cases th with
    | false => cases ht
    | true => rfl
  · rw [exP_at _ _ _ _ _ (by omega), h5]
    unfold late
    rw [h6]
    by_cases c1 : now ≤ tmo
    · by_cases c2 : now + gap ≤ tmo
      · rw [decide_eq_true c1, decide_eq_true c2, decide_eq_false (by omega)]
        rfl
      · rw [decide_eq_true c1, decide_eq_false c2, decide_eq_true (by omega)]
        rfl
    · rw [decide_eq_false c1, decide_eq_false (show ¬ now + gap ≤ tmo by omega)]
      rfl
/-- what Get tells, whatever it is -/
structure Gw (v : Value) : Prop where
  ex : ∃ (nd px py : Int) (hv : ByteArray) (wa op os : Bool) (se nw ra : Int), v = .agg #[.int .i64 nd, .int .i64 px, .int .i64 py, .string hv, .bool wa, .bool op, .bool os, .int .i64 se, .int .i64 nw, .int .i64 ra]
theorem gw_pr (c : Pr) : Gw (.agg c.cl.toArray) := ⟨c.nd, c.x, c.y, c.hv, c.wa, c.op, c.os, c.se, c.nw, c.ra, rfl⟩
theorem get_is (p b : Nat) (room tmo : Int) (P : Nat → Option Nat) (C : Nat → Pr) (Bn : Nat → Bool) (w : World) (h : TbAt w b room tmo P C Bn) (hp : 1 ≤ p ∧ p ≤ 15) :
    Calls Try.prog 16 #[.pointer (some ⟨b, 0, none⟩), .int .i64 p] w fun e w' => ∃ v, e = .returned (.tuple #[v, .bool (P p).isSome]) ∧ Gw v ∧ Below w.heap.size w w' := by
  cases hP : P p with
  | none => exact (get_no p b room tmo P C Bn w h (.inr ⟨p, rfl, hp.1, hp.2, hP⟩)).mono fun e w' ⟨h1, h2⟩ => ⟨_, h1, gw_pr zP, h2⟩
  | some g => exact (get_yes p g b room tmo P C Bn w h hp hP).mono fun e w' ⟨h1, h2⟩ => ⟨_, h1, gw_pr _, h2⟩
theorem HI.get1 {w : World} {b : Nat} {tmo now s : Int} {th : Bool} {x : World} (h : HI w b tmo now s th x) :
    Calls Try.prog 16 #[.pointer (some ⟨b, 0, none⟩), .int .i64 1] x fun e w' => ∃ v, e = .returned (.tuple #[v, .bool th]) ∧ Gw v ∧ HI w b tmo now s th w' := by
  obtain ⟨P, C, h1, h2, h3, h4, h5, h6⟩ := h.tb
  refine (get_is 1 b 2 tmo P C noB x h1.tb (by decide)).mono ?_
  rintro e w' ⟨v, he, hv, hb⟩
  rw [h3] at he
  exact ⟨v, he, hv, h.up hb⟩
theorem HI.get2 {w : World} {b : Nat} {tmo now s : Int} {th : Bool} {x : World} (h : HI w b tmo now s th x) :
    Calls Try.prog 16 #[.pointer (some ⟨b, 0, none⟩), .int .i64 2] x fun e w' => ∃ v, e = .returned (.tuple #[v, .bool (decide (now ≤ tmo))]) ∧ Gw v ∧ HI w b tmo now s th w' := by
  obtain ⟨P, C, h1, h2, h3, h4, h5, h6⟩ := h.tb
  refine (get_is 2 b 2 tmo P C noB x h1.tb (by decide)).mono ?_
  rintro e w' ⟨v, he, hv, hb⟩
  rw [h5] at he
  exact ⟨v, he, hv, h.up hb⟩
theorem HI.hear {w : World} {b : Nat} {tmo now s : Int} {x : World} (h : HI w b tmo now s true x) (hs : s ≤ now) (hn : 0 ≤ now ∧ now ≤ 1099511627776) :
    Calls Try.prog 20 #[.pointer (some ⟨b, 0, none⟩), .int .i64 1, .int .i64 now] x fun e w' => e = .returned (.int .i64 0) ∧ HI w b tmo now now true w' := by
  obtain ⟨P, C, h1, h2, h3, h4, h5, h6⟩ := h.tb
  obtain ⟨g, hg⟩ := Option.isSome_iff_exists.1 h3
  refine (hear_yes 1 g w.heap.size b now 2 tmo P C noB x h1 (by decide) hg hn).mono ?_
  rintro e w' ⟨he, t, k⟩
  refine ⟨he, ⟨⟨P, _, t, h2, h3, fun _ => ?_, h5, h6⟩, h.be.trans (h1.below k)⟩⟩
  show max (C 1).se now = now
  rw [h4 rfl]
  omega
theorem HI.deaf {w : World} {b : Nat} {tmo now s : Int} {x : World} (h : HI w b tmo now s false x) (hn : 0 ≤ now ∧ now ≤ 1099511627776) :
    Calls Try.prog 20 #[.pointer (some ⟨b, 0, none⟩), .int .i64 1, .int .i64 now] x fun e w' => e = .returned (.int .i64 4) ∧ HI w b tmo now now false w' := by
  obtain ⟨P, C, h1, h2, h3, h4, h5, h6⟩ := h.tb
  have hP : P 1 = none := by
    cases hh : P 1 with
    | none => rfl
    | some g => rw [hh] at h3; cases h3
  refine (hear_no 1 b now 2 tmo P C noB x h1.tb (.inr ⟨1, rfl, by omega, by omega, hP⟩) hn).mono ?_
  rintro e w' ⟨he, hb⟩
  exact ⟨he, ⟨⟨P, C, h1.up hb, h2, h3, fun e => (by cases e), h5, h6⟩, h.be.trans (hb.mono h.be.size)⟩⟩
set_option maxRecDepth 100000 in
set_option maxHeartbeats 4000000 in
theorem peersHeard_bad (tmo : Int) (gs : Value) (w : World) (ht : ¬ (1 ≤ tmo ∧ tmo ≤ 1099511627776)) :
    Calls Try.prog 5 #[.int .i64 tmo, gs] w fun e w' => e = .returned (.bool true) ∧ Below w.heap.size w w' := by
  have h1 := hide (new_no 2 tmo w (fun h => ht h.2))
  have hc : tmo < 1 ∨ 1099511627776 < tmo := by omega
  clear ht
  rcases hc with hc | hc
  · go_enter Try.func5, Try.ntmps5
    go_wp2_with fail
    refine (unhide h1).mono ?_
    rintro e w1 ⟨rfl, rfl⟩
    go_wp2_with fail
    refine (pawake_any w).mono ?_
    rintro e w2 ⟨rfl, b2⟩
    have B2 := hide b2
    clear b2
    go_wp2_with fail
    refine (pawake_any w2).mono ?_
    rintro e w3 ⟨rfl, b3⟩
    have B3 := hide ((unhide B2).trans (b3.mono (unhide B2).size))
    clear b3 B2
    go_wp2
    go_ret
    exact ⟨rfl, unhide B3⟩
  · go_enter Try.func5, Try.ntmps5
    go_wp2_with fail
    refine (unhide h1).mono ?_
    rintro e w1 ⟨rfl, rfl⟩
    go_wp2_with fail
    refine (pawake_any w).mono ?_
    rintro e w2 ⟨rfl, b2⟩
    have B2 := hide b2
    clear b2
    go_wp2_with fail
    refine (pawake_any w2).mono ?_
    rintro e w3 ⟨rfl, b3⟩
    have B3 := hide ((unhide B2).trans (b3.mono (unhide B2).size))
    clear b3 B2
    go_wp2
    go_ret
    exact ⟨rfl, unhide B3⟩
set_option maxRecDepth 100000 in
set_option maxHeartbeats 8000000 in
theorem peersHeard_ok (tmo : Int) (a0 : Option Addr) (A : List Int) (cA : Nat) (w : World) (hA : Ints w a0 A) (kA : A.length ≤ maxLen) (ht : 1 ≤ tmo ∧ tmo ≤ 1099511627776) :
    Calls Try.prog 5 #[.int .i64 tmo, .slice a0 A.length cA] w fun e w' => e = .returned (.bool true) ∧ Below w.heap.size w w' := by
  have HA := hide hA
  obtain ⟨n, hn⟩ : ∃ n, n = A.length := ⟨_, rfl⟩
  rw [← hn]
  have hnl : n ≤ maxLen := by rw [hn]; exact kA
  have HN := hide hn
  have h1 := hide (new_yes 2 tmo w (by decide) ht)
  have T1 := hide (newTb w.heap.size 2 tmo w (Nat.le_refl _))
  have B1 := hide ((Below.refl w.heap.size w).alloc (Nat.le_refl _) (.cells (newT 2 tmo) 67))
  have MO : Hid (MeetOk 1 0 0 0 ∧ MeetOk 2 0 0 0) := ⟨⟨by decide, by decide, by decide, by decide⟩, ⟨by decide, by decide, by decide, by decide⟩⟩
  obtain ⟨ht1, ht2⟩ := ht
  clear hA kA hn
  go_enter Try.func5, Try.ntmps5
  go_wp2_with fail
  refine (unhide h1).mono ?_
  rintro e w1 ⟨rfl, hw1⟩
  rw [← hw1] at T1 B1
  clear h1 hw1
  go_wp2_with fail
  refine (pawake_any w1).mono ?_
  rintro e w2 ⟨rfl, b2⟩
  have T2 := hide ((unhide T1).up b2)
  have B2 := hide ((unhide B1).trans (b2.mono (unhide B1).size))
  clear b2 T1 B1
  go_wp2_with fail
  refine (meetTb 1 w.heap.size w.heap.size 0 0 0 2 tmo noP (fun _ => zP) noB w2 (unhide MO).1 (unhide T2) rfl rfl (by rw [lst_none]; decide)).mono ?_
  rintro e w3 ⟨rfl, g, hg, t3, k3⟩
  have T3 := hide t3
  have B3 := hide ((unhide B2).trans ((unhide T2).below k3))
  clear t3 k3 hg T2 B2
  go_wp2_with fail
  refine (meetTb 2 w.heap.size w.heap.size 0 0 0 2 tmo _ _ noB w3 (unhide MO).2 (unhide T3) rfl rfl (by rw [show (lst (tup noP 1 (some g)) (tup (fun _ => zP) 1 ⟨(1 : Nat), 0, 0, ⟨#[]⟩, false, false, false, 0, 0, 0⟩) 16).length = 1 from rfl]; decide)).mono ?_
  rintro e w4 ⟨rfl, g2, hg2, t4, k4⟩
  have R4 : Hid (HI w w.heap.size tmo 0 0 true w4) := ⟨⟨_, _, t4, by
    intro p p1 p2
    unfold tup noP
    rw [if_neg p2, if_neg p1], rfl, fun _ => rfl, by rw [decide_eq_true (by omega)]; rfl, rfl⟩, (unhide B3).trans ((unhide T3).below k4)⟩
  clear t4 k4 hg2 T3 B3 MO
  go_wp2_with fail
  obtain ⟨bb, hbb⟩ : ∃ bb, bb = w.heap.size := ⟨_, rfl⟩
  rw [← hbb]
  rw [← hbb] at R4
  have HBB := hide hbb
  clear hbb
  go_loopw [6, 9, 10] (fun a c i wr => ∃ (k : Nat) (now : Int) (th : Bool), a = .int .i64 now ∧ c = .bool th ∧ i = .int .i64 k ∧ k ≤ n ∧ k ≤ 30 ∧ (0 ≤ now ∧ now ≤ k * 17179869184) ∧ HI w bb tmo now now th wr) (fun _ _ i _ => 30 - (intOf i).toNat)
  case atStart => exact ⟨0, 0, true, rfl, rfl, rfl, by omega, by omega, by omega, unhide R4⟩
  case round =>
    clear R4
    obtain ⟨k, now, th, rfl, rfl, rfl, hkn, hk30, ⟨hb1, hb2⟩, hI⟩ := hrel
    have R := hide hI
    clear hI
    by_cases hlt : k < n ∧ k < 30
    · obtain ⟨hlt1, hlt2⟩ := hlt
      have q1 : (k : Int) < n := by omega
      have q2 : (k : Int) < 30 := by omega
      have hkA : k < A.length := by rw [← unhide HN]; exact hlt1
      obtain ⟨ga, oa, rfl, hca⟩ := unhide HA k hkA
      obtain ⟨v, hv⟩ : ∃ v, v = A[k] := ⟨_, rfl⟩
      rw [← hv] at hca
      have ca := cell_below hca (unhide R).be
      clear hv hkA hca
      by_cases hv0 : v < 0
      · go_wp2
        go_roundw
        case rel => exact ⟨k + 1, now, th, rfl, rfl, by go_num, by omega, by omega, by omega, unhide R⟩
        case measure => simp [intOf]; omega
      · by_cases hv1 : 17179869184 < v
        · go_wp2
          go_roundw
          case rel => exact ⟨k + 1, now, th, rfl, rfl, by go_num, by omega, by omega, by omega, unhide R⟩
          case measure => simp [intOf]; omega
        · have he := hide ((unhide R).expire v (by omega) (by omega))
          have hw1 : now + v ≤ 1099511627776 := by omega
          clear R
          by_cases hvt : tmo < v
          · rw [decide_eq_true hvt, Bool.not_true, Bool.and_false] at he
            have hnt : ¬ now + v ≤ tmo := by omega
            go_wp2_with fail
            refine (unhide he).mono ?_
            rintro e w5 ⟨ae, me, ce, rfl, hme, hI5⟩
            have R5 := hide hI5
            have hme2 : ¬ (2 : Int) < me := by omega
            clear hI5 he
            go_wp2_with fail
            refine (unhide R5).get1.mono ?_
            rintro e w6 ⟨gv, rfl, hgv, hI6⟩
            obtain ⟨nd, px, py, hv, wa, op, os, se, nw, ra, rfl⟩ := hgv.ex
            have R6 := hide (hI6.up ((Below.refl _ _).alloc (Nat.le_refl _) (.cells #[.int .i64 nd, .int .i64 px, .int .i64 py, .string hv, .bool wa, .bool op, .bool os, .int .i64 se, .int .i64 nw, .int .i64 ra] 46)))
            clear hgv hI6 R5
            go_wp2_with fail
            refine (unhide R6).get2.mono ?_
            rintro e w7 ⟨gv, rfl, hgv, hI7⟩
            rw [decide_eq_false (show ¬ now + v ≤ tmo by omega)]
            obtain ⟨nd2, px2, py2, hv2, wa2, op2, os2, se2, nw2, ra2, rfl⟩ := hgv.ex
            have R7 := hide (hI7.up ((Below.refl _ _).alloc (Nat.le_refl _) (.cells #[.int .i64 nd2, .int .i64 px2, .int .i64 py2, .string hv2, .bool wa2, .bool op2, .bool os2, .int .i64 se2, .int .i64 nw2, .int .i64 ra2] 46)))
            clear hgv hI7 R6
            go_wp2_with fail
            refine ((unhide R7).deaf (by omega)).mono ?_
            rintro e w8 ⟨rfl, hI8⟩
            have R8 := hide hI8
            clear hI8 R7
            go_wp2
            go_roundw
            case rel => exact ⟨k + 1, now + v, false, rfl, rfl, by go_num, by omega, by omega, by omega, unhide R8⟩
            case measure => simp [intOf]; omega
          · rw [decide_eq_false hvt, Bool.not_false, Bool.and_true] at he
            by_cases hnt : now + v ≤ tmo
            · cases th with
              | false =>
                go_wp2_with fail
                refine (unhide he).mono ?_
                rintro e w5 ⟨ae, me, ce, rfl, hme, hI5⟩
                have R5 := hide hI5
                have hme2 : ¬ (2 : Int) < me := by omega
                clear hI5 he
                go_wp2_with fail
                refine (unhide R5).get1.mono ?_
                rintro e w6 ⟨gv, rfl, hgv, hI6⟩
                obtain ⟨nd, px, py, hv, wa, op, os, se, nw, ra, rfl⟩ := hgv.ex
                have R6 := hide (hI6.up ((Below.refl _ _).alloc (Nat.le_refl _) (.cells #[.int .i64 nd, .int .i64 px, .int .i64 py, .string hv, .bool wa, .bool op, .bool os, .int .i64 se, .int .i64 nw, .int .i64 ra] 46)))
                clear hgv hI6 R5
                go_wp2_with fail
                refine (unhide R6).get2.mono ?_
                rintro e w7 ⟨gv, rfl, hgv, hI7⟩
                rw [decide_eq_true (show now + v ≤ tmo by omega)]
                obtain ⟨nd2, px2, py2, hv2, wa2, op2, os2, se2, nw2, ra2, rfl⟩ := hgv.ex
                have R7 := hide (hI7.up ((Below.refl _ _).alloc (Nat.le_refl _) (.cells #[.int .i64 nd2, .int .i64 px2, .int .i64 py2, .string hv2, .bool wa2, .bool op2, .bool os2, .int .i64 se2, .int .i64 nw2, .int .i64 ra2] 46)))
                clear hgv hI7 R6
                go_wp2_with fail
                refine ((unhide R7).deaf (by omega)).mono ?_
                rintro e w8 ⟨rfl, hI8⟩
                have R8 := hide hI8
                clear hI8 R7
                go_wp2
                go_roundw
                case rel => exact ⟨k + 1, now + v, false, rfl, rfl, by go_num, by omega, by omega, by omega, unhide R8⟩
                case measure => simp [intOf]; omega
              | true =>
                go_wp2_with fail
                refine (unhide he).mono ?_
                rintro e w5 ⟨ae, me, ce, rfl, hme, hI5⟩
                have R5 := hide hI5
                have hme2 : ¬ (2 : Int) < me := by omega
                clear hI5 he
                go_wp2_with fail
                refine (unhide R5).get1.mono ?_
                rintro e w6 ⟨gv, rfl, hgv, hI6⟩
                obtain ⟨nd, px, py, hv, wa, op, os, se, nw, ra, rfl⟩ := hgv.ex
                have R6 := hide (hI6.up ((Below.refl _ _).alloc (Nat.le_refl _) (.cells #[.int .i64 nd, .int .i64 px, .int .i64 py, .string hv, .bool wa, .bool op, .bool os, .int .i64 se, .int .i64 nw, .int .i64 ra] 46)))
                clear hgv hI6 R5
                go_wp2_with fail
                refine (unhide R6).get2.mono ?_
                rintro e w7 ⟨gv, rfl, hgv, hI7⟩
                rw [decide_eq_true (show now + v ≤ tmo by omega)]
                obtain ⟨nd2, px2, py2, hv2, wa2, op2, os2, se2, nw2, ra2, rfl⟩ := hgv.ex
                have R7 := hide (hI7.up ((Below.refl _ _).alloc (Nat.le_refl _) (.cells #[.int .i64 nd2, .int .i64 px2, .int .i64 py2, .string hv2, .bool wa2, .bool op2, .bool os2, .int .i64 se2, .int .i64 nw2, .int .i64 ra2] 46)))
                clear hgv hI7 R6
                go_wp2_with fail
                refine ((unhide R7).hear (by omega) (by omega)).mono ?_
                rintro e w8 ⟨rfl, hI8⟩
                have R8 := hide hI8
                clear hI8 R7
                go_wp2
                go_roundw
                case rel => exact ⟨k + 1, now + v, true, rfl, rfl, by go_num, by omega, by omega, by omega, unhide R8⟩
                case measure => simp [intOf]; omega
            · cases th with
              | false =>
                go_wp2_with fail
                refine (unhide he).mono ?_
                rintro e w5 ⟨ae, me, ce, rfl, hme, hI5⟩
                have R5 := hide hI5
                have hme2 : ¬ (2 : Int) < me := by omega
                clear hI5 he
                go_wp2_with fail
                refine (unhide R5).get1.mono ?_
                rintro e w6 ⟨gv, rfl, hgv, hI6⟩
                obtain ⟨nd, px, py, hv, wa, op, os, se, nw, ra, rfl⟩ := hgv.ex
                have R6 := hide (hI6.up ((Below.refl _ _).alloc (Nat.le_refl _) (.cells #[.int .i64 nd, .int .i64 px, .int .i64 py, .string hv, .bool wa, .bool op, .bool os, .int .i64 se, .int .i64 nw, .int .i64 ra] 46)))
                clear hgv hI6 R5
                go_wp2_with fail
                refine (unhide R6).get2.mono ?_
                rintro e w7 ⟨gv, rfl, hgv, hI7⟩
                rw [decide_eq_false (show ¬ now + v ≤ tmo by omega)]
                obtain ⟨nd2, px2, py2, hv2, wa2, op2, os2, se2, nw2, ra2, rfl⟩ := hgv.ex
                have R7 := hide (hI7.up ((Below.refl _ _).alloc (Nat.le_refl _) (.cells #[.int .i64 nd2, .int .i64 px2, .int .i64 py2, .string hv2, .bool wa2, .bool op2, .bool os2, .int .i64 se2, .int .i64 nw2, .int .i64 ra2] 46)))
                clear hgv hI7 R6
                go_wp2_with fail
                refine ((unhide R7).deaf (by omega)).mono ?_
                rintro e w8 ⟨rfl, hI8⟩
                have R8 := hide hI8
                clear hI8 R7
                go_wp2
                go_roundw
                case rel => exact ⟨k + 1, now + v, false, rfl, rfl, by go_num, by omega, by omega, by omega, unhide R8⟩
                case measure => simp [intOf]; omega
              | true =>
                go_wp2_with fail
                refine (unhide he).mono ?_
                rintro e w5 ⟨ae, me, ce, rfl, hme, hI5⟩
                have R5 := hide hI5
                have hme2 : ¬ (2 : Int) < me := by omega
                clear hI5 he
                go_wp2_with fail
                refine (unhide R5).get1.mono ?_
                rintro e w6 ⟨gv, rfl, hgv, hI6⟩
                obtain ⟨nd, px, py, hv, wa, op, os, se, nw, ra, rfl⟩ := hgv.ex
                have R6 := hide (hI6.up ((Below.refl _ _).alloc (Nat.le_refl _) (.cells #[.int .i64 nd, .int .i64 px, .int .i64 py, .string hv, .bool wa, .bool op, .bool os, .int .i64 se, .int .i64 nw, .int .i64 ra] 46)))
                clear hgv hI6 R5
                go_wp2_with fail
                refine (unhide R6).get2.mono ?_
                rintro e w7 ⟨gv, rfl, hgv, hI7⟩
                rw [decide_eq_false (show ¬ now + v ≤ tmo by omega)]
                obtain ⟨nd2, px2, py2, hv2, wa2, op2, os2, se2, nw2, ra2, rfl⟩ := hgv.ex
                have R7 := hide (hI7.up ((Below.refl _ _).alloc (Nat.le_refl _) (.cells #[.int .i64 nd2, .int .i64 px2, .int .i64 py2, .string hv2, .bool wa2, .bool op2, .bool os2, .int .i64 se2, .int .i64 nw2, .int .i64 ra2] 46)))
                clear hgv hI7 R6
                go_wp2_with fail
                refine ((unhide R7).hear (by omega) (by omega)).mono ?_
                rintro e w8 ⟨rfl, hI8⟩
                have R8 := hide hI8
                clear hI8 R7
                go_wp2
                go_roundw
                case rel => exact ⟨k + 1, now + v, true, rfl, rfl, by go_num, by omega, by omega, by omega, unhide R8⟩
                case measure => simp [intOf]; omega
    · have HF := hide (unhide R).be
      clear R
      by_cases hk : k < n
      · have q1 : (k : Int) < n := by omega
        have q2 : ¬ (k : Int) < 30 := by omega
        go_wp2
        go_ret
        exact ⟨rfl, unhide HF⟩
      · have q1 : ¬ (k : Int) < n := by omega
        go_wp2
        go_ret
        exact ⟨rfl, unhide HF⟩
theorem peersHeard_any (tmo : Int) (a0 : Option Addr) (A : List Int) (cA : Nat) (w : World) (hA : Ints w a0 A) (kA : A.length ≤ maxLen) :
    Calls Try.prog 5 #[.int .i64 tmo, .slice a0 A.length cA] w fun e w' => e = .returned (.bool true) ∧ Below w.heap.size w w' := by
  by_cases ht : 1 ≤ tmo ∧ tmo ≤ 1099511627776
  · exact peersHeard_ok tmo a0 A cA w hA kA ht
  · exact peersHeard_bad tmo _ w ht
end Go.Proofs.Ytbfakbooenmhoaa

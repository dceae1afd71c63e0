/- PeersRates. -/
import Derived.Test.YtbklkihcdkcagaaQaK
import Derived.Test.YtbklkihcdkcagaaOpenB
namespace Go.Proofs.Ytbklkihcdkcagaa
open Go.RowKit
set_option linter.unusedVariables false
attribute [local go_sem] Oper.semAt_some

/-- the one peer's table, in the midst of the law -/
structure RI (w : World) (b g : Nat) (nw ra : Int) (wr : World) : Prop where
  tb : ∃ C, Tb w.heap.size wr b 3 9 (tup noP 2 (some g)) C noB ∧ (C 2).nw = nw ∧ (C 2).ra = ra
  be : Below w.heap.size w wr
theorem RI.up {w : World} {b g : Nat} {nw ra : Int} {x y : World} (h : RI w b g nw ra x) (hb : Below x.heap.size x y) : RI w b g nw ra y := by
  obtain ⟨C, h1, h2⟩ := h.tb
  exact ⟨⟨C, h1.up hb, h2⟩, h.be.trans (hb.mono h.be.size)⟩
theorem RI.count {w : World} {b g : Nat} {nw ra : Int} {x : World} (h : RI w b g nw ra x) (v : Int) (hv : 0 ≤ v ∧ v ≤ 1099511627776) :
    Calls Try.prog 21 #[.pointer (some ⟨b, 0, none⟩), .int .i64 2, .int .i64 v] x fun e w' => e = .returned (.int .i64 0) ∧ RI w b g (min (nw + v) 1099511627776) ra w' := by
  obtain ⟨C, h1, h2, h3⟩ := h.tb
  refine (count_yes 2 g w.heap.size b v 3 9 _ C noB x h1 (by decide) rfl hv).mono ?_
  rintro e w' ⟨he, t, k⟩
  refine ⟨he, ⟨_, t, ?_, ?_⟩, h.be.trans (h1.below k)⟩
  · show min ((C 2).nw + v) 1099511627776 = _
    rw [h2]
  · exact h3
theorem RI.bad {w : World} {b g : Nat} {nw ra : Int} {x : World} (h : RI w b g nw ra x) (v : Int) (hv : ¬ (0 ≤ v ∧ v ≤ 1099511627776)) :
    Calls Try.prog 21 #[.pointer (some ⟨b, 0, none⟩), .int .i64 2, .int .i64 v] x fun e w' => e = .returned (.int .i64 1) ∧ RI w b g nw ra w' :=
  (count_arg 2 _ v x hv).mono fun e w' ⟨he, hb⟩ => ⟨he, h.up hb⟩
theorem RI.roll {w : World} {b g : Nat} {nw ra : Int} {x : World} (h : RI w b g nw ra x) :
    Calls Try.prog 22 #[.pointer (some ⟨b, 0, none⟩)] x fun e w' => e = .returned (.tuple #[]) ∧ RI w b g 0 nw w' := by
  obtain ⟨C, h1, h2, h3⟩ := h.tb
  refine (roll_any w.heap.size b 3 9 _ C noB x h1).mono ?_
  rintro e w' ⟨he, t, k⟩
  exact ⟨he, ⟨_, t, rfl, h2⟩, h.be.trans (h1.below k)⟩
/-- what Get tells -/
structure Gv (nw ra : Int) (v : Value) : Prop where
  ex : ∃ (nd px py : Int) (hv : ByteArray) (wa op os : Bool) (se : Int), v = .agg #[.int .i64 nd, .int .i64 px, .int .i64 py, .string hv, .bool wa, .bool op, .bool os, .int .i64 se, .int .i64 nw, .int .i64 ra]
theorem RI.get {w : World} {b g : Nat} {nw ra : Int} {x : World} (h : RI w b g nw ra x) :
    Calls Try.prog 16 #[.pointer (some ⟨b, 0, none⟩), .int .i64 2] x fun e w' => ∃ v, e = .returned (.tuple #[v, .bool true]) ∧ Gv nw ra v ∧ RI w b g nw ra w' := by
  obtain ⟨C, h1, h2, h3⟩ := h.tb
  refine (get_yes 2 g b 3 9 _ C noB x h1.tb (by decide) rfl).mono ?_
  rintro e w' ⟨he, hb⟩
  refine ⟨_, he, ?_, h.up hb⟩
  rw [← h2, ← h3]
  generalize C 2 = c
  obtain ⟨nd, px, py, hv, wa, op, os, se, nw', ra'⟩ := c
  exact ⟨nd, px, py, hv, wa, op, os, se, rfl⟩
set_option maxRecDepth 100000 in
set_option maxHeartbeats 8000000 in
theorem peersRates_any (a0 : Option Addr) (A : List Int) (cA : Nat) (b0 : Option Addr) (Bl : List Bool) (cB : Nat) (w : World) (hA : Ints w a0 A) (kA : A.length ≤ maxLen) (hB : Bools w b0 Bl) (kB : Bl.length ≤ maxLen) :
    Calls Try.prog 6 #[.slice a0 A.length cA, .slice b0 Bl.length cB] w fun e w' => e = .returned (.bool true) ∧ Below w.heap.size w w' := by
  have HA := hide hA
  have HB := hide hB
  obtain ⟨n, hn⟩ : ∃ n, n = A.length := ⟨_, rfl⟩
  obtain ⟨m, hm⟩ : ∃ m, m = Bl.length := ⟨_, rfl⟩
  rw [← hn, ← hm]
  have hnl : n ≤ maxLen := by rw [hn]; exact kA
  have hml : m ≤ maxLen := by rw [hm]; exact kB
  have HN := hide hn
  have HM := hide hm
  have h1 := hide (new_yes 3 9 w (by decide) (by decide))
  have T1 := hide (newTb w.heap.size 3 9 w (Nat.le_refl _))
  have B1 := hide ((Below.refl w.heap.size w).alloc (Nat.le_refl _) (.cells (newT 3 9) 67))
  have MO : Hid (MeetOk 2 1 0 0) := ⟨by decide, by decide, by decide, by decide⟩
  clear hA hB kA kB hn hm
  go_enter Try.func6, Try.ntmps6
  go_wp2_with fail
  refine (unhide h1).mono ?_
  rintro e w1 ⟨rfl, hw1⟩
  rw [← hw1] at T1 B1
  clear h1 hw1
  go_wp2_with fail
  refine (pawake_any w1).mono ?_
  rintro e w2 ⟨rfl, b2⟩
  have T2 := hide ((unhide T1).up b2)
  have B2 := hide ((unhide B1).trans (b2.mono (unhide B1).size))
  clear b2 T1 B1
  go_wp2_with fail
  refine (meetTb 2 w.heap.size w.heap.size 1 0 0 3 9 noP (fun _ => zP) noB w2 (unhide MO) (unhide T2) rfl rfl (by rw [lst_none]; decide)).mono ?_
  rintro e w3 ⟨rfl, g, hg, t3, k3⟩
  have R3 : Hid (RI w w.heap.size g 0 0 w3) := ⟨⟨_, t3, rfl, rfl⟩, (unhide B2).trans ((unhide T2).below k3)⟩
  clear t3 k3 hg T2 B2 MO
  go_wp2_with fail
  obtain ⟨bb, hbb⟩ : ∃ bb, bb = w.heap.size := ⟨_, rfl⟩
  rw [← hbb]
  rw [← hbb] at R3
  have HBB := hide hbb
  clear hbb
  go_loopw [6, 7, 8] (fun a c i wr => ∃ (k : Nat) (nw ra : Int), a = .int .i64 nw ∧ c = .int .i64 ra ∧ i = .int .i64 k ∧ k ≤ n ∧ k ≤ 40 ∧ (0 ≤ nw ∧ nw ≤ 1099511627776) ∧ RI w bb g nw ra wr) (fun _ _ i _ => 40 - (intOf i).toNat)
  case atStart => exact ⟨0, 0, 0, rfl, rfl, rfl, by omega, by omega, by omega, unhide R3⟩
  case round =>
    clear R3
    obtain ⟨k, nw, ra, rfl, rfl, rfl, hkn, hk40, ⟨hb1, hb2⟩, hI⟩ := hrel
    have R := hide hI
    clear hI
    by_cases hlt : k < n ∧ k < 40
    · obtain ⟨hlt1, hlt2⟩ := hlt
      have q1 : (k : Int) < n := by omega
      have q2 : (k : Int) < 40 := by omega
      have hkA : k < A.length := by rw [← unhide HN]; exact hlt1
      obtain ⟨ga, oa, rfl, hca⟩ := unhide HA k hkA
      obtain ⟨v, hv⟩ : ∃ v, v = A[k] := ⟨_, rfl⟩
      rw [← hv] at hca
      have HCA := hide hca
      have ca := cell_below hca (unhide R).be
      clear hv hkA hca

      by_cases hv : 0 ≤ v ∧ v ≤ 1099511627776
      · have hc := hide ((unhide R).count v hv)
        obtain ⟨hv1, hv2⟩ := hv
        by_cases hs : nw + v ≤ 1099511627776
        · rw [show min (nw + v) 1099511627776 = nw + v by omega] at hc
          go_wp2_with fail
          refine (unhide hc).mono ?_
          rintro e w4 ⟨rfl, hI4⟩
          have R4 := hide hI4
          have ca4 := cell_below (unhide HCA) hI4.be
          clear hI4 hc
          by_cases hm1 : k < m
          · have q3 : (k : Int) < m := by omega
            obtain ⟨gb, ob, rfl, hcb⟩ := unhide HB k (by rw [← unhide HM]; exact hm1)
            have cb := cell_below hcb (unhide R4).be
            cases hbk : Bl[k]'(by rw [← unhide HM]; exact hm1) with
            | false =>
              rw [hbk] at cb
              clear hbk hcb
              go_wp2_with fail
              refine (unhide R4).get.mono ?_
              rintro e w6 ⟨gv, rfl, hgv, hI6⟩
              obtain ⟨nd, px, py, hv, wa, op, os, se, rfl⟩ := hgv.ex
              have R6 := hide (hI6.up ((Below.refl _ _).alloc (Nat.le_refl _) (.cells #[.int .i64 nd, .int .i64 px, .int .i64 py, .string hv, .bool wa, .bool op, .bool os, .int .i64 se, .int .i64 (nw + v), .int .i64 ra] 46)))
              clear hgv hI6
              go_wp2
              go_roundw
              case rel => exact ⟨k + 1, nw + v, ra, rfl, rfl, by go_num, by omega, by omega, by omega, unhide R6⟩
              case measure => simp [intOf]; omega
            | true =>
              rw [hbk] at cb
              clear hbk hcb
              go_wp2_with fail
              refine (unhide R4).roll.mono ?_
              rintro e w5 ⟨rfl, hI5⟩
              have R5 := hide hI5
              clear hI5
              go_wp2_with fail
              refine (unhide R5).get.mono ?_
              rintro e w6 ⟨gv, rfl, hgv, hI6⟩
              obtain ⟨nd, px, py, hv, wa, op, os, se, rfl⟩ := hgv.ex
              have R6 := hide (hI6.up ((Below.refl _ _).alloc (Nat.le_refl _) (.cells #[.int .i64 nd, .int .i64 px, .int .i64 py, .string hv, .bool wa, .bool op, .bool os, .int .i64 se, .int .i64 (0), .int .i64 (nw + v)] 46)))
              clear hgv hI6
              go_wp2
              go_roundw
              case rel => exact ⟨k + 1, 0, (nw + v), rfl, rfl, by go_num, by omega, by omega, by omega, unhide R6⟩
              case measure => simp [intOf]; omega
          · have q3 : ¬ (k : Int) < m := by omega
            go_wp2_with fail
            refine (unhide R4).get.mono ?_
            rintro e w6 ⟨gv, rfl, hgv, hI6⟩
            obtain ⟨nd, px, py, hv, wa, op, os, se, rfl⟩ := hgv.ex
            have R6 := hide (hI6.up ((Below.refl _ _).alloc (Nat.le_refl _) (.cells #[.int .i64 nd, .int .i64 px, .int .i64 py, .string hv, .bool wa, .bool op, .bool os, .int .i64 se, .int .i64 (nw + v), .int .i64 ra] 46)))
            clear hgv hI6
            go_wp2
            go_roundw
            case rel => exact ⟨k + 1, nw + v, ra, rfl, rfl, by go_num, by omega, by omega, by omega, unhide R6⟩
            case measure => simp [intOf]; omega
        · rw [show min (nw + v) 1099511627776 = 1099511627776 by omega] at hc
          go_wp2_with fail
          refine (unhide hc).mono ?_
          rintro e w4 ⟨rfl, hI4⟩
          have R4 := hide hI4
          have ca4 := cell_below (unhide HCA) hI4.be
          clear hI4 hc
          by_cases hm1 : k < m
          · have q3 : (k : Int) < m := by omega
            obtain ⟨gb, ob, rfl, hcb⟩ := unhide HB k (by rw [← unhide HM]; exact hm1)
            have cb := cell_below hcb (unhide R4).be
            cases hbk : Bl[k]'(by rw [← unhide HM]; exact hm1) with
            | false =>
              rw [hbk] at cb
              clear hbk hcb
              go_wp2_with fail
              refine (unhide R4).get.mono ?_
              rintro e w6 ⟨gv, rfl, hgv, hI6⟩
              obtain ⟨nd, px, py, hv, wa, op, os, se, rfl⟩ := hgv.ex
              have R6 := hide (hI6.up ((Below.refl _ _).alloc (Nat.le_refl _) (.cells #[.int .i64 nd, .int .i64 px, .int .i64 py, .string hv, .bool wa, .bool op, .bool os, .int .i64 se, .int .i64 (1099511627776), .int .i64 ra] 46)))
              clear hgv hI6
              go_wp2
              go_roundw
              case rel => exact ⟨k + 1, 1099511627776, ra, rfl, rfl, by go_num, by omega, by omega, by omega, unhide R6⟩
              case measure => simp [intOf]; omega
            | true =>
              rw [hbk] at cb
              clear hbk hcb
              go_wp2_with fail
              refine (unhide R4).roll.mono ?_
              rintro e w5 ⟨rfl, hI5⟩
              have R5 := hide hI5
              clear hI5
              go_wp2_with fail
              refine (unhide R5).get.mono ?_
              rintro e w6 ⟨gv, rfl, hgv, hI6⟩
              obtain ⟨nd, px, py, hv, wa, op, os, se, rfl⟩ := hgv.ex
              have R6 := hide (hI6.up ((Below.refl _ _).alloc (Nat.le_refl _) (.cells #[.int .i64 nd, .int .i64 px, .int .i64 py, .string hv, .bool wa, .bool op, .bool os, .int .i64 se, .int .i64 (0), .int .i64 1099511627776] 46)))
              clear hgv hI6
              go_wp2
              go_roundw
              case rel => exact ⟨k + 1, 0, 1099511627776, rfl, rfl, by go_num, by omega, by omega, by omega, unhide R6⟩
              case measure => simp [intOf]; omega
          · have q3 : ¬ (k : Int) < m := by omega
            go_wp2_with fail
            refine (unhide R4).get.mono ?_
            rintro e w6 ⟨gv, rfl, hgv, hI6⟩
            obtain ⟨nd, px, py, hv, wa, op, os, se, rfl⟩ := hgv.ex
            have R6 := hide (hI6.up ((Below.refl _ _).alloc (Nat.le_refl _) (.cells #[.int .i64 nd, .int .i64 px, .int .i64 py, .string hv, .bool wa, .bool op, .bool os, .int .i64 se, .int .i64 (1099511627776), .int .i64 ra] 46)))
            clear hgv hI6
            go_wp2
            go_roundw
            case rel => exact ⟨k + 1, 1099511627776, ra, rfl, rfl, by go_num, by omega, by omega, by omega, unhide R6⟩
            case measure => simp [intOf]; omega
      · have hc := hide ((unhide R).bad v hv)
        have hvv : v < 0 ∨ 1099511627776 < v := by omega
        clear hv
        rcases hvv with hv | hv
        · go_wp2_with fail
          refine (unhide hc).mono ?_
          rintro e w4 ⟨rfl, hI4⟩
          have R4 := hide hI4
          have ca4 := cell_below (unhide HCA) hI4.be
          clear hI4 hc
          by_cases hm1 : k < m
          · have q3 : (k : Int) < m := by omega
            obtain ⟨gb, ob, rfl, hcb⟩ := unhide HB k (by rw [← unhide HM]; exact hm1)
            have cb := cell_below hcb (unhide R4).be
            cases hbk : Bl[k]'(by rw [← unhide HM]; exact hm1) with
            | false =>
              rw [hbk] at cb
              clear hbk hcb
              go_wp2_with fail
              refine (unhide R4).get.mono ?_
              rintro e w6 ⟨gv, rfl, hgv, hI6⟩
              obtain ⟨nd, px, py, hv, wa, op, os, se, rfl⟩ := hgv.ex
              have R6 := hide (hI6.up ((Below.refl _ _).alloc (Nat.le_refl _) (.cells #[.int .i64 nd, .int .i64 px, .int .i64 py, .string hv, .bool wa, .bool op, .bool os, .int .i64 se, .int .i64 (nw), .int .i64 ra] 46)))
              clear hgv hI6
              go_wp2
              go_roundw
              case rel => exact ⟨k + 1, nw, ra, rfl, rfl, by go_num, by omega, by omega, by omega, unhide R6⟩
              case measure => simp [intOf]; omega
            | true =>
              rw [hbk] at cb
              clear hbk hcb
              go_wp2_with fail
              refine (unhide R4).roll.mono ?_
              rintro e w5 ⟨rfl, hI5⟩
              have R5 := hide hI5
              clear hI5
              go_wp2_with fail
              refine (unhide R5).get.mono ?_
              rintro e w6 ⟨gv, rfl, hgv, hI6⟩
              obtain ⟨nd, px, py, hv, wa, op, os, se, rfl⟩ := hgv.ex
              have R6 := hide (hI6.up ((Below.refl _ _).alloc (Nat.le_refl _) (.cells #[.int .i64 nd, .int .i64 px, .int .i64 py, .string hv, .bool wa, .bool op, .bool os, .int .i64 se, .int .i64 (0), .int .i64 nw] 46)))
              clear hgv hI6
              go_wp2
              go_roundw
              case rel => exact ⟨k + 1, 0, nw, rfl, rfl, by go_num, by omega, by omega, by omega, unhide R6⟩
              case measure => simp [intOf]; omega
          · have q3 : ¬ (k : Int) < m := by omega
            go_wp2_with fail
            refine (unhide R4).get.mono ?_
            rintro e w6 ⟨gv, rfl, hgv, hI6⟩
            obtain ⟨nd, px, py, hv, wa, op, os, se, rfl⟩ := hgv.ex
            have R6 := hide (hI6.up ((Below.refl _ _).alloc (Nat.le_refl _) (.cells #[.int .i64 nd, .int .i64 px, .int .i64 py, .string hv, .bool wa, .bool op, .bool os, .int .i64 se, .int .i64 (nw), .int .i64 ra] 46)))
            clear hgv hI6
            go_wp2
            go_roundw
            case rel => exact ⟨k + 1, nw, ra, rfl, rfl, by go_num, by omega, by omega, by omega, unhide R6⟩
            case measure => simp [intOf]; omega
        · go_wp2_with fail
          refine (unhide hc).mono ?_
          rintro e w4 ⟨rfl, hI4⟩
          have R4 := hide hI4
          have ca4 := cell_below (unhide HCA) hI4.be
          clear hI4 hc
          by_cases hm1 : k < m
          · have q3 : (k : Int) < m := by omega
            obtain ⟨gb, ob, rfl, hcb⟩ := unhide HB k (by rw [← unhide HM]; exact hm1)
            have cb := cell_below hcb (unhide R4).be
            cases hbk : Bl[k]'(by rw [← unhide HM]; exact hm1) with
            | false =>
              rw [hbk] at cb
              clear hbk hcb
              go_wp2_with fail
              refine (unhide R4).get.mono ?_
              rintro e w6 ⟨gv, rfl, hgv, hI6⟩
              obtain ⟨nd, px, py, hv, wa, op, os, se, rfl⟩ := hgv.ex
              have R6 := hide (hI6.up ((Below.refl _ _).alloc (Nat.le_refl _) (.cells #[.int .i64 nd, .int .i64 px, .int .i64 py, .string hv, .bool wa, .bool op, .bool os, .int .i64 se, .int .i64 (nw), .int .i64 ra] 46)))
              clear hgv hI6
              go_wp2
              go_roundw
              case rel => exact ⟨k + 1, nw, ra, rfl, rfl, by go_num, by omega, by omega, by omega, unhide R6⟩
              case measure => simp [intOf]; omega
            | true =>
              rw [hbk] at cb
              clear hbk hcb
              go_wp2_with fail
              refine (unhide R4).roll.mono ?_
              rintro e w5 ⟨rfl, hI5⟩
              have R5 := hide hI5
              clear hI5
              go_wp2_with fail
              refine (unhide R5).get.mono ?_
              rintro e w6 ⟨gv, rfl, hgv, hI6⟩
              obtain ⟨nd, px, py, hv, wa, op, os, se, rfl⟩ := hgv.ex
              have R6 := hide (hI6.up ((Below.refl _ _).alloc (Nat.le_refl _) (.cells #[.int .i64 nd, .int .i64 px, .int .i64 py, .string hv, .bool wa, .bool op, .bool os, .int .i64 se, .int .i64 (0), .int .i64 nw] 46)))
              clear hgv hI6
              go_wp2
              go_roundw
              case rel => exact ⟨k + 1, 0, nw, rfl, rfl, by go_num, by omega, by omega, by omega, unhide R6⟩
              case measure => simp [intOf]; omega
          · have q3 : ¬ (k : Int) < m := by omega
            go_wp2_with fail
            refine (unhide R4).get.mono ?_
            rintro e w6 ⟨gv, rfl, hgv, hI6⟩
            obtain ⟨nd, px, py, hv, wa, op, os, se, rfl⟩ := hgv.ex
            have R6 := hide (hI6.up ((Below.refl _ _).alloc (Nat.le_refl _) (.cells #[.int .i64 nd, .int .i64 px, .int .i64 py, .string hv, .bool wa, .bool op, .bool os, .int .i64 se, .int .i64 (nw), .int .i64 ra] 46)))
            clear hgv hI6
            go_wp2
            go_roundw
            case rel => exact ⟨k + 1, nw, ra, rfl, rfl, by go_num, by omega, by omega, by omega, unhide R6⟩
            case measure => simp [intOf]; omega
    · have HF := hide (unhide R).be
      clear R
      by_cases hk : k < n
      · have q1 : (k : Int) < n := by omega
        have q2 : ¬ (k : Int) < 40 := by omega
        go_wp2
        go_ret
        exact ⟨rfl, unhide HF⟩
      · have q1 : ¬ (k : Int) < n := by omega
        go_wp2
        go_ret
        exact ⟨rfl, unhide HF⟩
end Go.Proofs.Ytbklkihcdkcagaa

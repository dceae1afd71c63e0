/- The law RunsOf, walked. -/
import Derived.Test.YtdelkacoidangaaDoorRwC
import Derived.Test.YtdelkacoidangaaDoorRuL
namespace Go.Proofs.YtdelkacoidangaaDoor
open Go.RowKit
set_option linter.unusedVariables false

theorem doc_true (n : Int) (s : By) : docR n s true = ofsR n s := by
  unfold docR ofsR
  split
  · rfl
  · rfl
theorem doc_false (n : Int) (s : By) : docR n s false = gapR n s ∧ gapE n s = ofsE n s := by
  unfold docR gapR gapE ofsE ofsR
  cases hC : chkI n s with
  | false => exact ⟨rfl, rfl⟩
  | true =>
    obtain ⟨m, rfl, hch, hm, hl, hl20⟩ := chkI_facts hC
    have hC2 : chkI m (restL m s) = true := by rw [chkI_nat]; exact (rest_facts hch).1
    rw [if_pos rfl, if_pos rfl, if_pos rfl, hC2, if_pos rfl, if_pos rfl]
    exact ⟨rfl, rfl⟩
theorem ofsR_len (n : Int) (s : By) : (ofsR n s).length ≤ 161 := by
  unfold ofsR
  split
  · rename_i hC
    obtain ⟨m, rfl, _, hm, _⟩ := chkI_facts hC
    exact Nat.le_trans (rl_le s _).2 (by rw [Int.toNat_natCast]; omega)
  · simp
theorem gapR_len (n : Int) (s : By) : (gapR n s).length ≤ 161 := by
  unfold gapR
  split
  · exact ofsR_len _ _
  · simp
set_option maxRecDepth 100000 in
set_option maxHeartbeats 4000000 in
theorem runsOf_by (n : Int) (s : By) (xs : List (Int × Int)) (a0 : Option Addr) (c : Nat) (w : World) (hs : s.length ≤ maxLen) (hS : SpansAt w.heap.size w a0 xs) : Calls Tryd.prog 3 #[.int .i64 n, .string (bs s), .slice a0 xs.length c] w fun e w' => e = .returned (.bool true) ∧ Below w.heap.size w w' := by
  have haw := hide ruawake_any
  have hsz := bs_size s
  by_cases hbig : 30 < s.length ∨ (¬ 30 < s.length ∧ 100 < xs.length)
  · generalize hXL : xs.length = XL at *
    clear hS hXL
    go_enter Tryd.func3, Tryd.ntmps3
    rcases hbig with h | ⟨h0, h⟩
    · have i1 : (30 : Int) < ((bs s).size : Int) := by rw [hsz]; omega
      generalize bs s = S at *
      clear hsz
      go_wp2_with fail
      refine (unhide haw _).mono ?_
      rintro e w1 ⟨rfl, b1⟩
      have B1 := hide b1
      clear b1
      go_wp2
      go_ret
      exact ⟨rfl, unhide B1⟩
    · have i1 : ¬ (30 : Int) < ((bs s).size : Int) := by rw [hsz]; omega
      have i2 : (100 : Int) < (XL : Int) := by omega
      generalize bs s = S at *
      clear hsz
      go_wp2_with fail
      refine (unhide haw _).mono ?_
      rintro e w1 ⟨rfl, b1⟩
      have B1 := hide b1
      clear b1
      go_wp2
      go_ret
      exact ⟨rfl, unhide B1⟩
  · have i1 : ¬ (30 : Int) < ((bs s).size : Int) := by rw [hsz]; omega
    have i2 : ¬ (100 : Int) < (xs.length : Int) := by omega
    have hxl : xs.length ≤ 100 := by omega
    have h1 := hide (fun w => rof_any n s w hs)
    have h2 := hide (fun w => rsof_any n s true w hs)
    have h3 := hide (fun w => gaps_any n s w hs)
    have h4 := hide (fun w => rsof_any n s false w hs)
    have h5 := hide (fun w (hT : SpansAt w.heap.size w a0 xs) => set_any n xs (by omega) a0 c w hT)
    have h6 := hide (fun w (hT : SpR w a0 xs) => refs_any xs a0 c w hT (by omega))
    have h7 := hide (fun b0 d w (hT : SpR w b0 xs) => rset25_any n xs b0 d w hT (by omega))
    rw [doc_true] at h2
    rw [(doc_false n s).1] at h4
    rw [(doc_false n s).2] at h3
    have l1 := ofsR_len n s
    have l2 := gapR_len n s
    have h8 := hide (fun b0 d w (hT : SpR w b0 (toI (ofsR n s))) => refs_any (toI (ofsR n s)) b0 d w hT (by rw [toI_length]; omega))
    have h9 := hide (fun b0 d w (hT : SpR w b0 (toI (gapR n s))) => refs_any (toI (gapR n s)) b0 d w hT (by rw [toI_length]; omega))
    have k1 := hide (fun a0 b0 c d w (hA : SpR w a0 (toI (ofsR n s))) (hB : SpR w b0 (toI (ofsR n s))) => same_spans _ _ a0 b0 c d w hA hB (by rw [toI_length]; omega) (by rw [toI_length]; omega))
    have k2 := hide (fun a0 b0 c d w (hA : SpR w a0 (toI (gapR n s))) (hB : SpR w b0 (toI (gapR n s))) => same_spans _ _ a0 b0 c d w hA hB (by rw [toI_length]; omega) (by rw [toI_length]; omega))
    simp only [decide_true] at k1 k2
    have HS := hide hS
    clear hsz hbig l1 l2 hS hs
    generalize ofsE n s = OE at *
    generalize gatE n 1 xs = GE at *
    generalize bs (gatR n xs) = GR at *
    generalize bs s = S at *
    go_enter Tryd.func3, Tryd.ntmps3
    go_wp2_with fail
    refine (unhide h1 _).mono ?_
    rintro e w1 ⟨v1, rfl, o1, b1⟩
    obtain ⟨a1, c1, rfl, t1⟩ := o1.spans
    have T1 := hide t1.spr
    have B1 := hide b1
    clear b1 o1 t1
    go_wp2_with fail
    refine (unhide h2 _).mono ?_
    rintro e w2 ⟨v2, rfl, o2, b2⟩
    obtain ⟨a2, c2, rfl, t2⟩ := o2.own.spr
    have T12 := hide ((unhide T1).below b2)
    have T2 := hide t2
    have B2 := hide ((unhide B1).trans (b2.mono (unhide B1).size))
    clear b2 o2 t2 T1 B1
    go_wp2_with fail
    refine (unhide h3 _).mono ?_
    rintro e w3 ⟨v3, rfl, o3, b3⟩
    obtain ⟨a3, c3, rfl, t3⟩ := o3.spans
    have T13 := hide ((unhide T12).below b3)
    have T23 := hide ((unhide T2).below b3)
    have T3 := hide t3.spr
    have B3 := hide ((unhide B2).trans (b3.mono (unhide B2).size))
    clear b3 o3 t3 T12 T2 B2
    go_wp2_with fail
    refine (unhide h4 _).mono ?_
    rintro e w4 ⟨v4, rfl, o4, b4⟩
    obtain ⟨a4, c4, rfl, t4⟩ := o4.own.spr
    have T14 := hide ((unhide T13).below b4)
    have T24 := hide ((unhide T23).below b4)
    have T34 := hide ((unhide T3).below b4)
    have T4 := hide t4
    have B4 := hide ((unhide B3).trans (b4.mono (unhide B3).size))
    clear b4 o4 t4 T13 T23 T3 B3
    have g5 := hide (unhide h5 w4 (((unhide HS).below (unhide B4)).mono (unhide B4).size))
    go_wp2_with fail
    refine (unhide g5).mono ?_
    rintro e w5 ⟨rfl, b5⟩
    have T15 := hide ((unhide T14).below b5)
    have T25 := hide ((unhide T24).below b5)
    have T35 := hide ((unhide T34).below b5)
    have T45 := hide ((unhide T4).below b5)
    have B5 := hide ((unhide B4).trans (b5.mono (unhide B4).size))
    clear b5 T14 T24 T34 T4 B4 g5
    have g6 := hide (unhide h6 w5 ((unhide HS).spr.below (unhide B5)))
    go_wp2_with fail
    refine (unhide g6).mono ?_
    rintro e w6 ⟨v6, rfl, o6, b6⟩
    obtain ⟨a6, c6, rfl, t6⟩ := OwnRI.spr o6
    have T16 := hide ((unhide T15).below b6)
    have T26 := hide ((unhide T25).below b6)
    have T36 := hide ((unhide T35).below b6)
    have T46 := hide ((unhide T45).below b6)
    have B6 := hide ((unhide B5).trans (b6.mono (unhide B5).size))
    have g7 := hide (unhide h7 a6 c6 w6 t6)
    clear b6 T15 T25 T35 T45 B5 g6 o6 t6
    go_wp2_with fail
    refine (unhide g7).mono ?_
    rintro e w7 ⟨rfl, b7⟩
    have T17 := hide ((unhide T16).below b7)
    have T27 := hide ((unhide T26).below b7)
    have T37 := hide ((unhide T36).below b7)
    have T47 := hide ((unhide T46).below b7)
    have B7 := hide ((unhide B6).trans (b7.mono (unhide B6).size))
    clear b7 T16 T26 T36 T46 B6 g7
    go_wp2_with fail
    refine (unhide haw _).mono ?_
    rintro e w8 ⟨rfl, b8⟩
    have g8 := hide (unhide h8 a1 c1 w8 ((unhide T17).below b8))
    have T28 := hide ((unhide T27).below b8)
    have T38 := hide ((unhide T37).below b8)
    have T48 := hide ((unhide T47).below b8)
    have B8 := hide ((unhide B7).trans (b8.mono (unhide B7).size))
    clear b8 T17 T27 T37 T47 B7
    go_wp2_with fail
    refine (unhide g8).mono ?_
    rintro e w9 ⟨v9, rfl, o9, b9⟩
    obtain ⟨a9, c9, rfl, t9⟩ := OwnRI.spr o9
    have g9 := hide (unhide k1 a9 a2 c9 c2 w9 t9 ((unhide T28).below b9))
    have T39 := hide ((unhide T38).below b9)
    have T49 := hide ((unhide T48).below b9)
    have B9 := hide ((unhide B8).trans (b9.mono (unhide B8).size))
    clear b9 T28 T38 T48 B8 g8 o9 t9
    go_wp2_with fail
    refine (unhide g9).mono ?_
    rintro e u1 ⟨rfl, b10⟩
    have g10 := hide (unhide h9 a3 c3 u1 ((unhide T39).below b10))
    have T4A := hide ((unhide T49).below b10)
    have BA := hide ((unhide B9).trans (b10.mono (unhide B9).size))
    clear b10 T39 T49 B9 g9
    go_wp2_with fail
    refine (unhide g10).mono ?_
    rintro e u2 ⟨vb, rfl, ob, b11⟩
    obtain ⟨ab, cb, rfl, tb⟩ := OwnRI.spr ob
    have g11 := hide (unhide k2 ab a4 cb c4 u2 tb ((unhide T4A).below b11))
    have BB := hide ((unhide BA).trans (b11.mono (unhide BA).size))
    clear b11 T4A BA g10 ob tb
    go_wp2_with fail
    refine (unhide g11).mono ?_
    rintro e u3 ⟨rfl, b12⟩
    have BC := hide ((unhide BB).trans (b12.mono (unhide BB).size))
    clear b12 BB g11
    go_wp2
    go_ret
    exact ⟨rfl, unhide BC⟩
end Go.Proofs.YtdelkacoidangaaDoor

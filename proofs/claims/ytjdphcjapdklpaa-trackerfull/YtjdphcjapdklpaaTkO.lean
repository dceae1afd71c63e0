/- TrackerFull. -/
import Derived.Test.YtjdphcjapdklpaaTkN
namespace Go.Proofs.Ytjdphcjapdklpaa
open Go.RowKit
set_option linter.unusedVariables false
attribute [local go_sem] Oper.semAt_some

/-- an announcement of a new name to a full table -/
theorem ann_full (b mb : Nat) (f : Names) (N : Nat) (room now : Int) (x : Nt) (w : World) (L : List By) (hT : TbAt w b mb f N room) (hN : N ≤ 10000) (hx : x.nm.length ≤ maxLen) (hi : isT now = true) (hmy : mayN x now = true) (h0 : (ndF f x.nm now).length = 0) (hL : L.Nodup) (hm : ∀ k, k ∈ L ↔ 0 < (ndF f k now).length) (hr : room ≤ L.length) :
    Calls Try.prog 8 #[.pointer (some ⟨b, 0, none⟩), .agg x.cl.toArray, .int .i64 now] w fun e w' => e = .returned (.int .i64 6) ∧ Below w.heap.size w w' := by
  obtain ⟨ss, hss, hl⟩ := tb_keys hT
  refine (ann_good b mb f N room now x ss w hT hN hx hi hmy hss).mono ?_
  rw [cnt_of hss hL hm]
  rintro e w' (⟨_, _, h3, h4⟩ | ⟨h2, _⟩)
  · exact ⟨h3, h4⟩
  · exact absurd ⟨h0, hr⟩ h2
/-- an announcement of a name that is there, or to a table that is not full -/
theorem ann_room (b mb : Nat) (f : Names) (N : Nat) (room now : Int) (x : Nt) (w : World) (L : List By) (hT : TbAt w b mb f N room) (hN : N ≤ 10000) (hx : x.nm.length ≤ maxLen) (hi : isT now = true) (hmy : mayN x now = true) (hL : L.Nodup) (hm : ∀ k, k ∈ L ↔ 0 < (ndF f k now).length) (hr : 0 < (ndF f x.nm now).length ∨ (L.length : Int) < room) :
    Calls Try.prog 8 #[.pointer (some ⟨b, 0, none⟩), .agg x.cl.toArray, .int .i64 now] w fun e w' => e = .returned (.int .i64 0) ∧ TbAt w' b mb (annF f x now) (N + 1) room ∧ w.grownBy w' (some mb) := by
  obtain ⟨ss, hss, hl⟩ := tb_keys hT
  refine (ann_good b mb f N room now x ss w hT hN hx hi hmy hss).mono ?_
  rw [cnt_of hss hL hm]
  rintro e w' (⟨h1, h2, _⟩ | ⟨_, h3, h4, h5⟩)
  · rcases hr with hr | hr <;> omega
  · exact ⟨h3, h4, h5⟩
set_option maxRecDepth 100000 in
set_option maxHeartbeats 8000000 in
theorem trackerFull_any (room : Int) (hr : -9223372036854775808 ≤ room ∧ room ≤ 9223372036854775807) (w : World) :
    Calls Try.prog 5 #[.int .i64 room] w fun e w' => e = .returned (.bool true) ∧ Below w.heap.size w w' := by
  obtain ⟨u, hu⟩ : ∃ u, room.tmod 64 = u := ⟨_, rfl⟩
  have hu1 : -64 < u ∧ u < 64 := by rw [← hu]; exact ⟨by have := Int.lt_tmod_of_pos room (b := 64) (by omega); omega, by have := Int.tmod_lt_of_pos room (b := 64) (by omega); omega⟩
  obtain ⟨v, hv⟩ : ∃ v, (u + 64).tmod 64 = v := ⟨_, rfl⟩
  have hv1 : 0 ≤ v ∧ v < 64 := by rw [← hv]; exact ⟨Int.tmod_nonneg _ (by omega), Int.tmod_lt_of_pos _ (by omega)⟩
  obtain ⟨R, hR⟩ : ∃ R : Nat, 1 + v = (R : Int) := ⟨(1 + v).toNat, by omega⟩
  have hR1 : 1 ≤ R ∧ R ≤ 64 := by omega
  have h1 := hide (fun W => tnew_any R W (by omega))
  have HA := hide (fun W => tawake_any W)
  have HNM := hide (fun (n : Nat) (h : n < 256) W => lname_any n W h)
  have hl : ∀ n, (nmL n).length ≤ maxLen := fun n => by rw [nmL_len]; unfold maxLen; omega
  have HL := hide hl
  clear hl
  go_enter Try.func5, Try.ntmps5
  go_wp2_with fail
  refine (unhide h1 _).mono ?_
  rintro e w1 ⟨⟨b, mb, hb, hmb, rfl, hT⟩, b1⟩
  have HT1 := hide hT
  have HB1 := hide b1
  have HMB := hide hmb
  clear hT b1 h1 hb hmb hu hv hr hv1 hu1
  go_wp2_with fail
  refine (unhide HA _).mono ?_
  rintro e w2 ⟨rfl, b2⟩
  have HT2 := hide ((unhide HT1).up b2)
  have HB2 := hide ((unhide HB1).trans (b2.mono (unhide HB1).size))
  clear b2 HT1 HB1 HA
  go_wp2_with fail
  go_loopw [4] (fun iv wr => ∃ (i : Nat) (f : Names), i ≤ R ∧ iv = .int .i64 i ∧ Tab f (T0 i) ∧ TbAt wr b mb f i R ∧ Below w.heap.size w wr) (fun iv _ => R - (intOf iv).toNat)
  case atStart => exact ⟨0, _, by omega, rfl, tab_nil, unhide HT2, unhide HB2⟩
  case round =>
    clear HT2 HB2
    obtain ⟨i, f, hi, rfl, ht, hT, hB⟩ := hrel
    have HTB := hide ht
    have HT := hide hT
    have HB := hide hB
    clear ht hT hB
    by_cases hlt : i < R
    · have q1 : (i : Int) < R := by omega
      have HN := hide (unhide HNM i (by omega))
      have HAN : Hid (∀ W, TbAt W b mb f i R → Calls Try.prog 8 #[.pointer (some ⟨b, 0, none⟩), .agg #[.string (bs (nmL i)), .int .i64 1, .int .i64 0, .int .i64 0, .int .i64 (10 + (i : Nat))], .int .i64 0] W fun e w' => e = .returned (.int .i64 0) ∧ TbAt w' b mb (annF f (fj i) 0) (i + 1) R ∧ W.grownBy w' (some mb)) :=
        fun W hW => ann_ok b mb f i R 0 (fj i) W hW (by omega) (by omega) (unhide HL i) rfl (by
          unfold mayN fj
          have e1 := nmL_len i
          have e2 : ((0 : Int) ≤ 10 + (i : Nat) ∧ (10 + (i : Nat) : Int) ≤ 1099511627776) := by omega
          dsimp only
          rw [decide_eq_true e1, decide_eq_true e2]
          rfl)
      have HST := hide (tab_step (unhide HTB) (by omega))
      generalize bs (nmL i) = nm at *
      generalize annF f (fj i) 0 = f' at *
      go_wp2_with fail
      refine (unhide HN _).mono ?_
      rintro e w3 ⟨rfl, b3⟩
      have HT3 := hide ((unhide HT).up b3)
      have HB3 := hide ((unhide HB).trans (b3.mono (unhide HB).size))
      clear b3 HN HT HB
      go_wp2_with fail
      refine (unhide HAN _ (unhide HT3)).mono ?_
      rintro e w4 ⟨rfl, hT4, hg4⟩
      have HT4 := hide hT4
      have HB4 := hide (below_tab (unhide HB3) hg4 (unhide HB3).size (unhide HB3).size (unhide HMB))
      clear hT4 hg4 HT3 HB3 HAN
      go_wp2
      go_roundw
      case rel => exact ⟨i + 1, f', by omega, by go_num, unhide HST, unhide HT4, unhide HB4⟩
      case measure => simp [intOf]; omega
    · have hin : i = R := by omega
      subst hin
      have q1 : ¬ (i : Int) < i := by omega
      have HN0 := hide (unhide HNM 0 (by omega))
      have HN1 := hide (unhide HNM 100 (by omega))
      have hn100 : (ndF f (nmL 100) 5).length = 0 := by
        rw [(unhide HTB).nd (by omega) rfl, T0_len i 100 5 (by omega), if_neg (by omega)]
      have hn0 : 0 < (ndF f (nmL 0) 5).length := by
        rw [(unhide HTB).nd (by omega) rfl, T0_len i 0 5 (by omega), if_pos (by omega)]
        omega
      have hca := cnt_a (unhide HTB) hR1.2
      have HA1 : Hid (∀ W, TbAt W b mb f i i → Calls Try.prog 8 #[.pointer (some ⟨b, 0, none⟩), .agg #[.string (bs (nmL 100)), .int .i64 1, .int .i64 0, .int .i64 0, .int .i64 90], .int .i64 5] W fun e w' => e = .returned (.int .i64 6) ∧ Below W.heap.size W w') :=
        fun W hW => ann_full b mb f i i 5 zc W _ hW (by omega) (unhide HL 100) rfl rfl hn100 hca.1 hca.2 (by simp)
      have HA2 : Hid (∀ W, TbAt W b mb f i i → Calls Try.prog 8 #[.pointer (some ⟨b, 0, none⟩), .agg #[.string (bs (nmL 0)), .int .i64 2, .int .i64 0, .int .i64 0, .int .i64 10], .int .i64 5] W fun e w' => e = .returned (.int .i64 0) ∧ TbAt w' b mb (annF f yb 5) (i + 1) i ∧ W.grownBy w' (some mb)) :=
        fun W hW => ann_room b mb f i i 5 yb W _ hW (by omega) (unhide HL 0) rfl rfl hca.1 hca.2 (.inl hn0)
      have hT3 := tab_3 (unhide HTB) hR1.1
      have hcc := cnt_c hT3 hR1.2
      have hT4 := tab_4 hT3 hR1.2
      have hcd := cnt_d hT4 hR1.2
      have hn5 : (ndF (annF (annF f yb 5) zc 11) (nmL 0) 5).length = 0 := by
        rw [hT4.nd (by omega) rfl]
        rfl
      generalize annF f yb 5 = f3 at *
      have HA3 : Hid (∀ W, TbAt W b mb f3 (i + 1) i → Calls Try.prog 8 #[.pointer (some ⟨b, 0, none⟩), .agg #[.string (bs (nmL 100)), .int .i64 1, .int .i64 0, .int .i64 0, .int .i64 90], .int .i64 11] W fun e w' => e = .returned (.int .i64 0) ∧ TbAt w' b mb (annF f3 zc 11) (i + 1 + 1) i ∧ W.grownBy w' (some mb)) :=
        fun W hW => ann_room b mb f3 (i + 1) i 11 zc W _ hW (by omega) (unhide HL 100) rfl rfl hcc.1 hcc.2 (.inr (by simp; omega))
      generalize annF f3 zc 11 = f4 at *
      have HLN : Hid (∀ W, TbAt W b mb f4 (i + 1 + 1) i → Calls Try.prog 9 #[.pointer (some ⟨b, 0, none⟩), .int .i64 11] W fun e w' => e = .returned (.int .i64 (i : Nat)) ∧ Below W.heap.size W w') :=
        fun W hW => by
          have h := len_is b mb f4 (i + 1 + 1) i 11 W _ hW (by omega) hcd.1 hcd.2
          have e : ((100 :: List.range' 1 (i - 1)).map nmL).length = i := by simp; omega
          rw [e] at h
          exact h
      have HND : Hid (∀ W, TbAt W b mb f4 (i + 1 + 1) i → Calls Try.prog 10 #[.pointer (some ⟨b, 0, none⟩), .string (bs (nmL 0)), .int .i64 5] W fun e w' => ∃ a c, e = .returned (.slice a 0 c) ∧ Below W.heap.size W w') :=
        fun W hW => nodes_len b mb f4 (i + 1 + 1) i (nmL 0) 5 W 0 hW (unhide HL 0) hn5
      clear hn100 hn0 hca hT3 hcc hT4 hcd hn5 HNM HTB HL
      generalize bs (nmL 100) = n1 at *
      generalize bs (nmL 0) = n0 at *
      go_wp2_with fail
      refine (unhide HN1 _).mono ?_
      rintro e w3 ⟨rfl, b3⟩
      have HT2 := hide ((unhide HT).up b3)
      have HB2 := hide ((unhide HB).trans (b3.mono (unhide HB).size))
      clear b3 HT HB
      go_wp2_with fail
      refine (unhide HA1 _ (unhide HT2)).mono ?_
      rintro e w4 ⟨rfl, b3⟩
      have HT := hide ((unhide HT2).up b3)
      have HB := hide ((unhide HB2).trans (b3.mono (unhide HB2).size))
      clear b3 HT2 HB2
      go_wp2_with fail
      refine (unhide HN0 _).mono ?_
      rintro e w5 ⟨rfl, b3⟩
      have HT2 := hide ((unhide HT).up b3)
      have HB2 := hide ((unhide HB).trans (b3.mono (unhide HB).size))
      clear b3 HT HB
      go_wp2_with fail
      refine (unhide HA2 _ (unhide HT2)).mono ?_
      rintro e w6 ⟨rfl, hT3, hg3⟩
      have HT := hide hT3
      have HB := hide (below_tab (unhide HB2) hg3 (unhide HB2).size (unhide HB2).size (unhide HMB))
      clear hT3 hg3 HT2 HB2
      go_wp2_with fail
      refine (unhide HN1 _).mono ?_
      rintro e w7 ⟨rfl, b3⟩
      have HT2 := hide ((unhide HT).up b3)
      have HB2 := hide ((unhide HB).trans (b3.mono (unhide HB).size))
      clear b3 HT HB
      go_wp2_with fail
      refine (unhide HA3 _ (unhide HT2)).mono ?_
      rintro e w8 ⟨rfl, hT3, hg3⟩
      have HT := hide hT3
      have HB := hide (below_tab (unhide HB2) hg3 (unhide HB2).size (unhide HB2).size (unhide HMB))
      clear hT3 hg3 HT2 HB2
      go_wp2_with fail
      refine (unhide HLN _ (unhide HT)).mono ?_
      rintro e w9 ⟨rfl, b3⟩
      have HT2 := hide ((unhide HT).up b3)
      have HB2 := hide ((unhide HB).trans (b3.mono (unhide HB).size))
      clear b3 HT HB
      go_wp2_with fail
      refine (unhide HN0 _).mono ?_
      rintro e w10 ⟨rfl, b3⟩
      have HT := hide ((unhide HT2).up b3)
      have HB := hide ((unhide HB2).trans (b3.mono (unhide HB2).size))
      clear b3 HT2 HB2
      go_wp2_with fail
      refine (unhide HND _ (unhide HT)).mono ?_
      rintro e w11 ⟨a, c, rfl, b3⟩
      have HB2 := hide ((unhide HB).trans (b3.mono (unhide HB).size))
      clear b3 HT HB
      go_wp2
      go_ret
      exact ⟨rfl, unhide HB2⟩
end Go.Proofs.Ytjdphcjapdklpaa

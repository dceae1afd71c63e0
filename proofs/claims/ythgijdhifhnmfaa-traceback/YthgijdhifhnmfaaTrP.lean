/- TraceBack. -/
import Derived.Test.YthgijdhifhnmfaaTrH
import Derived.Test.YthgijdhifhnmfaaTrN
import Derived.Test.YthgijdhifhnmfaaOpenEv
namespace Go.Proofs.Ythgijdhifhnmfaa
open Go.RowKit
set_option linter.unusedVariables false
attribute [local go_sem] Oper.semAt_some

set_option maxRecDepth 100000 in
set_option maxHeartbeats 4000000 in
theorem traceBack_few (a0 : Option Addr) (l : List Ev) (c : Nat) (s : ByteArray) (w : World) (hl : EvsAt w a0 l) (hk : EvsOk l c) (hf : fewB l 100 = false ∨ (10000 : Int) < s.size) :
    Calls Try.prog 4 #[.slice a0 l.length c, .string s] w fun e w' => e = .returned (.bool true) ∧ Below w.heap.size w w' := by
  have h1 := hide (few_any a0 l c 100 w hl (by have := hk.1; have := hk.2.1; omega))
  generalize l.length = n at *
  cases hb : fewB l 100 with
  | false =>
    rw [hb] at h1
    clear hl hk hf hb
    go_enter Try.func4, Try.ntmps4
    go_wp2_with fail
    refine (unhide h1).mono ?_
    rintro e w1 ⟨rfl, rfl⟩
    go_wp2_with fail
    refine (tawake_any w).mono ?_
    rintro e w1 ⟨rfl, b1⟩
    have HB := hide b1
    clear b1
    go_wp2
    go_ret
    exact ⟨rfl, unhide HB⟩
  | true =>
    rw [hb] at h1
    have hs : (10000 : Int) < s.size := by
      rcases hf with h | h
      · rw [hb] at h; cases h
      · exact h
    clear hl hk hf hb
    go_enter Try.func4, Try.ntmps4
    go_wp2_with fail
    refine (unhide h1).mono ?_
    rintro e w1 ⟨rfl, rfl⟩
    go_wp2_with fail
    refine (tawake_any w).mono ?_
    rintro e w1 ⟨rfl, b1⟩
    have HB := hide b1
    clear b1
    go_wp2
    go_ret
    exact ⟨rfl, unhide HB⟩
set_option maxRecDepth 100000 in
set_option maxHeartbeats 8000000 in
theorem traceBack_main (a0 : Option Addr) (l : List Ev) (c : Nat) (s : ByteArray) (w : World) (hl : EvsAt w a0 l) (hk : EvsOk l c) (hf : fewB l 100 = true) (hs : ¬ (10000 : Int) < s.size) :
    Calls Try.prog 4 #[.slice a0 l.length c, .string s] w fun e w' => e = .returned (.bool true) ∧ Below w.heap.size w w' := by
  have hn100 : l.length ≤ 100 := by
    unfold fewB at hf
    simp at hf
    omega
  have h1 := hide (few_any a0 l c 100 w hl (by have := hk.1; have := hk.2.1; omega))
  rw [hf] at h1
  have HL := hide hl
  have HUS := hide (fun w => unpack_any s w (by unfold maxLen; omega))
  cases hc : chkB l with
  | false =>
    have HP := hide (pack_bad a0 l c w hl (by omega) hc)
    obtain ⟨n, hn⟩ : ∃ n, n = l.length := ⟨_, rfl⟩
    rw [← hn] at h1 HP ⊢
    clear hl hk hf hn hn100 hc
    go_enter Try.func4, Try.ntmps4
    go_wp2_with fail
    refine (unhide h1).mono ?_
    rintro e wz ⟨rfl, rfl⟩
    go_wp2_with fail
    refine (unhide HP).mono ?_
    rintro e w1 ⟨rfl, b1⟩
    have HB1 := hide b1
    clear b1 HP h1
    go_wp2_with fail
    refine (unhide HUS w1).mono ?_
    rintro e wa ⟨va, rfl, hRa⟩
    have HBa := hide ((unhide HB1).trans (hRa.be.mono (unhide HB1).size))
    cases hun : unp s with
    | none =>
      have e3 : unE s = 3 := by unfold unE; rw [hun]
      rw [e3]
      clear hRa hun e3
      go_wp2_with fail
      refine (tawake_any wa).mono ?_
      rintro e wb ⟨rfl, bb⟩
      have HBb := hide ((unhide HBa).trans (bb.mono (unhide HBa).size))
      clear bb
      go_wp2
      go_ret
      exact ⟨rfl, unhide HBb⟩
    | some m =>
      have e3 : unE s = 0 := by unfold unE; rw [hun]
      rw [e3]
      have hown := hRa.own
      rw [hun, Option.getD_some] at hown
      obtain ⟨aa, ca, hva, hea, _⟩ := hown.evs
      obtain ⟨hcm, _⟩ := unp_inv s m hun
      have hm5 : m.length ≤ 500 := by
        have h := hcm
        unfold chkB at h
        rw [Bool.and_eq_true] at h
        exact of_decide_eq_true h.1
      have hpk := pack_any aa m ca wa hea (by omega) hcm
      rw [pk_unp s m hun (by omega)] at hpk
      rw [if_pos rfl] at hpk
      have HPK : Hid (Calls Try.prog 8 #[.slice aa m.length ca] wa fun e w' => e = .returned (.tuple #[.string s, .int .i64 0]) ∧ Below wa.heap.size wa w') := hpk
      obtain ⟨mm, hmm⟩ : ∃ mm, mm = m.length := ⟨_, rfl⟩
      rw [← hmm] at HPK hva
      subst hva
      clear hRa hun e3 hown hea hcm hm5 hpk hmm
      go_wp2_with fail
      refine (unhide HPK).mono ?_
      rintro e wb ⟨rfl, bb⟩
      have HBb := hide ((unhide HBa).trans (bb.mono (unhide HBa).size))
      clear bb HPK
      go_wp2_with fail
      refine (tawake_any wb).mono ?_
      rintro e wc ⟨rfl, bc⟩
      have HBc := hide ((unhide HBb).trans (bc.mono (unhide HBb).size))
      clear bc
      go_wp2
      go_ret
      exact ⟨rfl, unhide HBc⟩
  | true =>
    have hmay : ∀ e ∈ l, mayB e = true := by
      have h := hc
      unfold chkB at h
      rw [Bool.and_eq_true] at h
      exact List.all_eq_true.1 h.2
    have hfl := flat_len l hmay
    have hpk := pack_any a0 l c w hl (by omega) hc
    rw [pkS_ok l l.length (by omega) hmay (by omega)] at hpk
    rw [if_pos rfl] at hpk
    have HP : Hid (Calls Try.prog 8 #[.slice a0 l.length c] w fun e w' => e = .returned (.tuple #[.string (bs (hd l.length ++ l.flatMap encE)), .int .i64 0]) ∧ Below w.heap.size w w') := hpk
    have hup := unp_pk l hc (by omega)
    obtain ⟨t, ht⟩ : ∃ t, t = bs (hd l.length ++ l.flatMap encE) := ⟨_, rfl⟩
    rw [← ht] at HP hup
    have hts : t.size ≤ maxLen := by
      rw [ht, bs_size, List.length_append, hd_len]
      unfold maxLen
      omega
    have hue : unE t = 0 := by unfold unE; rw [hup]
    have hun := fun w => unpack_any t w hts
    rw [hue] at hun
    have HUT := hide hun
    have HUP := hide hup
    have HRL := hide (fun w hl => refs_any a0 l c w hl (by omega))
    have HN100 := hide hn100
    obtain ⟨n, hn⟩ : ∃ n, n = l.length := ⟨_, rfl⟩
    rw [← hn] at h1 HP HRL ⊢
    have HN := hide hn
    clear hl hk hf hn hn100 hc hmay hfl hpk hup ht hts hue hun
    go_enter Try.func4, Try.ntmps4
    go_wp2_with fail
    refine (unhide h1).mono ?_
    rintro e wz ⟨rfl, rfl⟩
    go_wp2_with fail
    refine (unhide HP).mono ?_
    rintro e w1 ⟨rfl, b1⟩
    have HB1 := hide b1
    clear b1 HP h1
    go_wp2_with fail
    refine (unhide HUT w1).mono ?_
    rintro e w2 ⟨v2, rfl, hR2⟩
    have hown2 := hR2.own
    rw [unhide HUP, Option.getD_some] at hown2
    obtain ⟨a2, c2, hv2, he2, _⟩ := hown2.evs
    have HB2 := hide ((unhide HB1).trans (hR2.be.mono (unhide HB1).size))
    have hr2 := refs_any a2 l c2 w2 he2 (by have := unhide HN100; omega)
    rw [← unhide HN] at hv2 hr2
    subst hv2
    have HR2 := hide hr2
    clear hR2 hown2 he2 hr2 HUT HB1
    go_wp2_with fail
    refine (unhide HR2).mono ?_
    rintro e w3 ⟨v3, rfl, hR3⟩
    obtain ⟨a3, c3, hv3, he3, _⟩ := hR3.own.evs
    rw [← unhide HN] at hv3
    subst hv3
    have hb3 := (unhide HB2).trans (hR3.be.mono (unhide HB2).size)
    have HB3 := hide hb3
    have HE3 := hide he3
    have HR3 := hide (unhide HRL w3 ((unhide HL).below hb3))
    clear hR3 he3 hb3 HR2 HB2
    go_wp2_with fail
    refine (unhide HR3).mono ?_
    rintro e w4 ⟨v4, rfl, hR4⟩
    obtain ⟨a4, c4, hv4, he4, _⟩ := hR4.own.evs
    rw [← unhide HN] at hv4
    subst hv4
    have HB4 := hide ((unhide HB3).trans (hR4.be.mono (unhide HB3).size))
    have hs4 := same_eq a3 a4 l c3 c4 w4 ((unhide HE3).below hR4.be) he4 (by have := unhide HN100; omega)
    rw [← unhide HN] at hs4
    have HS4 := hide hs4
    clear hR4 he4 hs4 HR3 HB3 HE3
    go_wp2_with fail
    refine (unhide HS4).mono ?_
    rintro e w5 ⟨rfl, b5⟩
    have HB5 := hide ((unhide HB4).trans (b5.mono (unhide HB4).size))
    clear b5 HS4 HB4
    go_wp2_with fail
    refine (unhide HUS w5).mono ?_
    rintro e wa ⟨va, rfl, hRa⟩
    have HBa := hide ((unhide HB5).trans (hRa.be.mono (unhide HB5).size))
    cases hun : unp s with
    | none =>
      have e3 : unE s = 3 := by unfold unE; rw [hun]
      rw [e3]
      clear hRa hun e3
      go_wp2_with fail
      refine (tawake_any wa).mono ?_
      rintro e wb ⟨rfl, bb⟩
      have HBb := hide ((unhide HBa).trans (bb.mono (unhide HBa).size))
      clear bb
      go_wp2
      go_ret
      exact ⟨rfl, unhide HBb⟩
    | some m =>
      have e3 : unE s = 0 := by unfold unE; rw [hun]
      rw [e3]
      have hown := hRa.own
      rw [hun, Option.getD_some] at hown
      obtain ⟨aa, ca, hva, hea, _⟩ := hown.evs
      obtain ⟨hcm, _⟩ := unp_inv s m hun
      have hm5 : m.length ≤ 500 := by
        have h := hcm
        unfold chkB at h
        rw [Bool.and_eq_true] at h
        exact of_decide_eq_true h.1
      have hpk := pack_any aa m ca wa hea (by omega) hcm
      rw [pk_unp s m hun (by omega)] at hpk
      rw [if_pos rfl] at hpk
      have HPK : Hid (Calls Try.prog 8 #[.slice aa m.length ca] wa fun e w' => e = .returned (.tuple #[.string s, .int .i64 0]) ∧ Below wa.heap.size wa w') := hpk
      obtain ⟨mm, hmm⟩ : ∃ mm, mm = m.length := ⟨_, rfl⟩
      rw [← hmm] at HPK hva
      subst hva
      clear hRa hun e3 hown hea hcm hm5 hpk hmm
      go_wp2_with fail
      refine (unhide HPK).mono ?_
      rintro e wb ⟨rfl, bb⟩
      have HBb := hide ((unhide HBa).trans (bb.mono (unhide HBa).size))
      clear bb HPK
      go_wp2_with fail
      refine (tawake_any wb).mono ?_
      rintro e wc ⟨rfl, bc⟩
      have HBc := hide ((unhide HBb).trans (bc.mono (unhide HBb).size))
      clear bc
      go_wp2
      go_ret
      exact ⟨rfl, unhide HBc⟩
theorem traceBack_any (a0 : Option Addr) (l : List Ev) (c : Nat) (s : ByteArray) (w : World) (hl : EvsAt w a0 l) (hk : EvsOk l c) :
    Calls Try.prog 4 #[.slice a0 l.length c, .string s] w fun e w' => e = .returned (.bool true) ∧ Below w.heap.size w w' := by
  by_cases hs : (10000 : Int) < s.size
  · exact traceBack_few a0 l c s w hl hk (.inr hs)
  · cases hf : fewB l 100 with
    | false => exact traceBack_few a0 l c s w hl hk (.inl hf)
    | true => exact traceBack_main a0 l c s w hl hk hf hs
end Go.Proofs.Ythgijdhifhnmfaa

/- TracePacks. -/
import Derived.Test.YthgijdhifhnmfaaTrH
import Derived.Test.YthgijdhifhnmfaaTrU
import Derived.Test.YthgijdhifhnmfaaOpenEv
namespace Go.Proofs.Ythgijdhifhnmfaa
open Go.RowKit
set_option linter.unusedVariables false
attribute [local go_sem] Oper.semAt_some

set_option maxRecDepth 100000 in
set_option maxHeartbeats 4000000 in
theorem tracePacks_few (a0 : Option Addr) (l : List Ev) (c : Nat) (s : ByteArray) (w : World) (hl : EvsAt w a0 l) (hk : EvsOk l c) (hf : fewB l 100 = false ∨ (10000 : Int) < s.size) :
    Calls Try.prog 3 #[.slice a0 l.length c, .string s] w fun e w' => e = .returned (.bool true) ∧ Below w.heap.size w w' := by
  have h1 := hide (few_any a0 l c 100 w hl (by have := hk.1; have := hk.2.1; omega))
  generalize l.length = n at *
  cases hb : fewB l 100 with
  | false =>
    rw [hb] at h1
    clear hl hk hf hb
    go_enter Try.func3, Try.ntmps3
    go_wp2_with fail
    refine (unhide h1).mono ?_
    rintro e w1 ⟨rfl, rfl⟩
    go_wp2_with fail
    refine (tawake_any w).mono ?_
    rintro e w1 ⟨rfl, b1⟩
    have HB := hide b1
    clear b1
    go_wp2
    go_ret
    exact ⟨rfl, unhide HB⟩
  | true =>
    rw [hb] at h1
    have hs : (10000 : Int) < s.size := by
      rcases hf with h | h
      · rw [hb] at h; cases h
      · exact h
    clear hl hk hf hb
    go_enter Try.func3, Try.ntmps3
    go_wp2_with fail
    refine (unhide h1).mono ?_
    rintro e w1 ⟨rfl, rfl⟩
    go_wp2_with fail
    refine (tawake_any w).mono ?_
    rintro e w1 ⟨rfl, b1⟩
    have HB := hide b1
    clear b1
    go_wp2
    go_ret
    exact ⟨rfl, unhide HB⟩
/-- what Pack, and the document's, answer -/
def pkV (l : List Ev) : ByteArray := if chkB l = true then bs (hd l.length ++ l.flatMap encE) else ⟨#[]⟩
def pkN (l : List Ev) : Int := if chkB l = true then 0 else 1
theorem pack_all (a0 : Option Addr) (l : List Ev) (c : Nat) (w : World) (hl : EvsAt w a0 l) (hm : l.length ≤ 100) :
    Calls Try.prog 8 #[.slice a0 l.length c] w fun e w' => e = .returned (.tuple #[.string (pkV l), .int .i64 (pkN l)]) ∧ Below w.heap.size w w' := by
  unfold pkV pkN
  cases hc : chkB l with
  | false => exact pack_bad a0 l c w hl (by omega) hc
  | true =>
    have hmay : ∀ e ∈ l, mayB e = true := by
      have h := hc
      unfold chkB at h
      rw [Bool.and_eq_true] at h
      exact List.all_eq_true.1 h.2
    have hfl := flat_len l hmay
    have hpk := pack_any a0 l c w hl (by omega) hc
    rw [pkS_ok l l.length (by omega) hmay (by omega)] at hpk
    rw [if_pos rfl] at hpk
    exact hpk
theorem rpack_all (a0 : Option Addr) (l : List Ev) (c : Nat) (w : World) (hl : EvsAt w a0 l) (hm : l.length ≤ 100) :
    Calls Try.prog 9 #[.slice a0 l.length c] w fun e w' => e = .returned (.tuple #[.string (pkV l), .int .i64 (pkN l)]) ∧ Below w.heap.size w w' := by
  unfold pkV pkN
  cases hc : chkB l with
  | false => exact rpack_bad a0 l c w hl (by omega) hc
  | true => exact rpack_any a0 l c w hl hc
theorem unp_len (s : ByteArray) : ((unp s).getD []).length ≤ 500 := by
  cases h : unp s with
  | none => simp
  | some m =>
    have h1 := (unp_inv s m h).1
    unfold chkB at h1
    rw [Bool.and_eq_true] at h1
    exact of_decide_eq_true h1.1
set_option maxRecDepth 100000 in
set_option maxHeartbeats 8000000 in
theorem tracePacks_main (a0 : Option Addr) (l : List Ev) (c : Nat) (s : ByteArray) (w : World) (hl : EvsAt w a0 l) (hk : EvsOk l c) (hf : fewB l 100 = true) (hs : ¬ (10000 : Int) < s.size) :
    Calls Try.prog 3 #[.slice a0 l.length c, .string s] w fun e w' => e = .returned (.bool true) ∧ Below w.heap.size w w' := by
  have hn100 : l.length ≤ 100 := by
    unfold fewB at hf
    simp at hf
    omega
  have h1 := hide (few_any a0 l c 100 w hl (by have := hk.1; have := hk.2.1; omega))
  rw [hf] at h1
  have HL := hide hl
  have HUS := hide (fun w => unpack_any s w (by unfold maxLen; omega))
  have HDS := hide (fun w => runpack_any s w (by omega))
  have HP := hide (pack_all a0 l c w hl hn100)
  have HRF := hide (fun w hl => refs_any a0 l c w hl (by omega))
  have HRP := hide (fun a c w hl => rpack_all a l c w hl hn100)
  have HCK := hide (fun w hl => tcheck_any a0 l c w hl (by omega))
  have HRC := hide (fun a c w hl => rcheck_any a l c w hl (by omega))
  obtain ⟨m, hm⟩ : ∃ m, m = (unp s).getD [] := ⟨_, rfl⟩
  have hml : m.length ≤ 500 := by rw [hm]; exact unp_len s
  have HMM := hide hm
  obtain ⟨mm, hmm⟩ : ∃ mm, mm = m.length := ⟨_, rfl⟩
  have HML := hide hmm
  obtain ⟨n, hn⟩ : ∃ n, n = l.length := ⟨_, rfl⟩
  rw [← hn] at h1 HP HRF HRP HCK HRC ⊢
  have HN := hide hn
  rw [← hmm] at hml
  generalize pkV l = T at *
  generalize pkN l = E at *
  generalize chkB l = B at *
  generalize unE s = U at *
  clear hl hk hf hn hn100 hm hmm
  go_enter Try.func3, Try.ntmps3
  go_wp2_with fail
  refine (unhide h1).mono ?_
  rintro e wz ⟨rfl, rfl⟩
  go_wp2_with fail
  refine (unhide HP).mono ?_
  rintro e w1 ⟨rfl, b1⟩
  have HB1 := hide b1
  have HL1 := hide ((unhide HL).below b1)
  clear b1 HP h1
  go_wp2_with fail
  refine (unhide HRF w1 (unhide HL1)).mono ?_
  rintro e w2 ⟨v2, rfl, hR2⟩
  obtain ⟨a2, c2, hv2, he2, _⟩ := hR2.own.evs
  rw [← unhide HN] at hv2
  subst hv2
  have HB2 := hide ((unhide HB1).trans (hR2.be.mono (unhide HB1).size))
  have HE2 := hide he2
  clear hR2 he2 HB1 HL1
  go_wp2_with fail
  refine (unhide HRP a2 c2 w2 (unhide HE2)).mono ?_
  rintro e w3 ⟨rfl, b3⟩
  have HB3 := hide ((unhide HB2).trans (b3.mono (unhide HB2).size))
  clear b3 HB2 HE2 HRP
  go_wp2_with fail
  refine (unhide HUS w3).mono ?_
  rintro e w4 ⟨v4, rfl, hR4⟩
  have ho4 := hR4.own
  rw [← unhide HMM] at ho4
  obtain ⟨a4, c4, hv4, he4, _⟩ := ho4.evs
  rw [← unhide HML] at hv4
  subst hv4
  have HB4 := hide ((unhide HB3).trans (hR4.be.mono (unhide HB3).size))
  have HE4 := hide he4
  clear hR4 ho4 he4 HB3 HUS
  go_wp2_with fail
  refine (unhide HDS w4).mono ?_
  rintro e w5 ⟨v5, rfl, hR5⟩
  have ho5 := hR5.own
  rw [← unhide HMM] at ho5
  obtain ⟨a5, c5, hv5, he5, _⟩ := ho5.evs
  rw [← unhide HML] at hv5
  subst hv5
  have HB5 := hide ((unhide HB4).trans (hR5.be.mono (unhide HB4).size))
  have HE4b := hide ((unhide HE4).below hR5.be)
  have HE5 := hide he5
  clear hR5 ho5 he5 HB4 HE4 HDS
  go_wp2_with fail
  refine (tawake_any w5).mono ?_
  rintro e w6 ⟨rfl, b6⟩
  have HB6 := hide ((unhide HB5).trans (b6.mono (unhide HB5).size))
  have HE4c := (unhide HE4b).below b6
  have HE5b := hide ((unhide HE5).below b6)
  have hr6 := refs_any a4 m c4 w6 HE4c (by rw [← unhide HML]; omega)
  rw [← unhide HML] at hr6
  have HR6 := hide hr6
  clear b6 HB5 HE4b HE5 HE4c hr6
  go_wp2_with fail
  refine (unhide HR6).mono ?_
  rintro e w7 ⟨v7, rfl, hR7⟩
  obtain ⟨a7, c7, hv7, he7, _⟩ := hR7.own.evs
  rw [← unhide HML] at hv7
  subst hv7
  have HB7 := hide ((unhide HB6).trans (hR7.be.mono (unhide HB6).size))
  have hs7 := same_eq a7 a5 m c7 c5 w7 he7 ((unhide HE5b).below hR7.be) (by rw [← unhide HML]; omega)
  rw [← unhide HML] at hs7
  have HS7 := hide hs7
  clear hR7 he7 hs7 HB6 HE5b HR6
  go_wp2_with fail
  refine (unhide HS7).mono ?_
  rintro e w8 ⟨rfl, b8⟩
  have hb8 := (unhide HB7).trans (b8.mono (unhide HB7).size)
  have HB8 := hide hb8
  have HL8 := hide ((unhide HL).below hb8)
  clear b8 hb8 HB7 HS7
  go_wp2_with fail
  refine (unhide HCK w8 (unhide HL8)).mono ?_
  rintro e w9 ⟨rfl, b9⟩
  have hb9 := (unhide HB8).trans (b9.mono (unhide HB8).size)
  have HB9 := hide hb9
  have HL9 := hide ((unhide HL).below hb9)
  clear b9 hb9 HB8 HL8
  go_wp2_with fail
  refine (unhide HRF w9 (unhide HL9)).mono ?_
  rintro e wa ⟨va, rfl, hRa⟩
  obtain ⟨aa, ca, hva, hea, _⟩ := hRa.own.evs
  rw [← unhide HN] at hva
  subst hva
  have HBa := hide ((unhide HB9).trans (hRa.be.mono (unhide HB9).size))
  have HEa := hide hea
  clear hRa hea HB9 HL9
  go_wp2_with fail
  refine (unhide HRC aa ca wa (unhide HEa)).mono ?_
  rintro e wb ⟨rfl, bb⟩
  have HBb := hide ((unhide HBa).trans (bb.mono (unhide HBa).size))
  clear bb HBa
  go_wp2
  go_ret
  exact ⟨rfl, unhide HBb⟩
theorem tracePacks_any (a0 : Option Addr) (l : List Ev) (c : Nat) (s : ByteArray) (w : World) (hl : EvsAt w a0 l) (hk : EvsOk l c) :
    Calls Try.prog 3 #[.slice a0 l.length c, .string s] w fun e w' => e = .returned (.bool true) ∧ Below w.heap.size w w' := by
  by_cases hs : (10000 : Int) < s.size
  · exact tracePacks_few a0 l c s w hl hk (.inr hs)
  · cases hf : fewB l 100 with
    | false => exact tracePacks_few a0 l c s w hl hk (.inl hf)
    | true => exact tracePacks_main a0 l c s w hl hk hf hs
end Go.Proofs.Ythgijdhifhnmfaa

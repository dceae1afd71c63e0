/- choke: ChokeTurns. -/
import Derived.Test.YtjndgglbapghhaaClE
namespace Go.Proofs.Ytjndgglbapghhaa
open Go.RowKit Go.Sort
set_option linter.unusedVariables false
attribute [local go_sem] Oper.semAt_some

theorem hasI_tuL {ch : List Int} {on : Bool} {l : List Pr} {n : Int} : hasI (tuL ch on l) n = true ↔ ∃ p ∈ l, tuP ch on p = true ∧ p.nd = n := by
  rw [hasI_mem]
  exact mem_ndL
theorem turns_fact (ch : List Int) (l : List Pr) (p : Pr) (hp : p ∈ l) : (p.op && !(hasI (tuL ch false l) p.nd) || hasI (tuL ch true l) p.nd) = hasI ch p.nd := by
  cases hc : hasI ch p.nd with
  | true =>
    cases ho : p.op with
    | true =>
      have : hasI (tuL ch false l) p.nd = false := by
        cases hh : hasI (tuL ch false l) p.nd with
        | false => rfl
        | true =>
          obtain ⟨q, _, h1, h2⟩ := hasI_tuL.1 hh
          unfold tuP at h1
          rw [h2, hc] at h1
          simp at h1
      rw [this]; rfl
    | false =>
      have : hasI (tuL ch true l) p.nd = true := hasI_tuL.2 ⟨p, hp, by unfold tuP; rw [hc, ho]; rfl, rfl⟩
      rw [this]; rfl
  | false =>
    have h0 : hasI (tuL ch true l) p.nd = false := by
      cases hh : hasI (tuL ch true l) p.nd with
      | false => rfl
      | true =>
        obtain ⟨q, _, h1, h2⟩ := hasI_tuL.1 hh
        unfold tuP at h1
        rw [h2, hc] at h1
        simp at h1
    rw [h0]
    cases ho : p.op with
    | false => rfl
    | true =>
      have : hasI (tuL ch false l) p.nd = true := hasI_tuL.2 ⟨p, hp, by unfold tuP; rw [hc, ho]; rfl, rfl⟩
      rw [this]; rfl
theorem tuL_len (ch : List Int) (on : Bool) (l : List Pr) : (tuL ch on l).length ≤ l.length := by
  unfold tuL ndL
  rw [List.length_map]
  exact List.length_filter_le _ _
set_option maxRecDepth 100000 in
set_option maxHeartbeats 16000000 in
theorem chokeTurns_any (a0 : Option Addr) (l : List Pr) (c : Nat) (b0 : Option Addr) (ch : List Int) (d : Nat) (w : World) (hl : PrsAt w a0 l) (hok : PrsOk l c) (hI : Ints w b0 ch) (hik : IntsOk ch d) :
    Calls Try.prog 4 #[.slice a0 l.length c, .slice b0 ch.length d] w fun e w' => e = .returned (.bool true) ∧ Below w.heap.size w w' := by
  have HFw := hide (few_any a0 l c _ hl (by have := hok.1; have := hok.2.1; omega) (fun p hp => (hok.2.2 p hp).1))
  have HL := hide hl
  have HI := hide hI
  have HFL := hide (@fewB_yes l)
  have HOK := hide hok
  have HIK := hide hik
  clear hl hok hI hik
  generalize fewB l = F at *
  obtain ⟨n, hn⟩ : ∃ n, n = l.length := ⟨_, rfl⟩
  obtain ⟨q, hq⟩ : ∃ q, q = ch.length := ⟨_, rfl⟩
  rw [← hn] at HFw HFL ⊢
  rw [← hq]
  have HN := hide hn
  have HQ := hide hq
  clear hn hq
  cases F with
  | false =>
    go_enter Try.func4, Try.ntmps4
    go_wp2_with fail
    refine (unhide HFw).mono ?_
    rintro e w1 ⟨rfl, rfl⟩
    go_wp2_with fail
    refine (cawake_any _).mono ?_
    rintro e w2 ⟨rfl, b2⟩
    have B2 := hide b2
    clear b2
    go_wp2
    go_ret
    exact ⟨rfl, unhide B2⟩
  | true =>
  by_cases hq20 : 20 < q
  · have q1 : (20 : Int) < q := by omega
    go_enter Try.func4, Try.ntmps4
    go_wp2_with fail
    refine (unhide HFw).mono ?_
    rintro e w1 ⟨rfl, rfl⟩
    go_wp2_with fail
    refine (cawake_any _).mono ?_
    rintro e w2 ⟨rfl, b2⟩
    have B2 := hide b2
    clear b2
    go_wp2
    go_ret
    exact ⟨rfl, unhide B2⟩
  have q1 : ¬ (20 : Int) < q := by omega
  have hn20 : n ≤ 20 := unhide HFL rfl
  have hln : l.length ≤ 20 := by rw [← unhide HN]; exact hn20
  have hqn : ch.length ≤ 20 := by rw [← unhide HQ]; omega
  have HTu := hide (turns_any a0 l c b0 ch d w (unhide HL) (by omega) (fun p hp => ((unhide HOK).2.2 p hp).2.1) (unhide HI) (by omega) (unhide HIK).2.2)
  have HRf := hide (fun W (h : Below w.heap.size w W) => refs_any a0 l c W ((unhide HL).up h) (by omega))
  have HOn := hide (fun a9 c9 W (h : Below w.heap.size w W) (hp : PrsAt W a9 l) => dturns_on a9 l c9 b0 ch d W hp (by omega) ((unhide HI).up h) (by omega))
  have HOff := hide (fun a9 c9 W (h : Below w.heap.size w W) (hp : PrsAt W a9 l) => dturns_off a9 l c9 b0 ch d W hp (by omega) ((unhide HI).up h) (by omega))
  have HHc := hide (fun (x : Int) W (h : Below w.heap.size w W) => rhas_any b0 ch d x W ((unhide HI).up h) (by unfold maxLen; omega))
  have HFa := hide (turns_fact ch l)
  have HLA : Hid ((tuL ch true l).length ≤ 20) := Nat.le_trans (tuL_len _ _ _) hln
  have HLB : Hid ((tuL ch false l).length ≤ 20) := Nat.le_trans (tuL_len _ _ _) hln
  rw [← unhide HN] at HTu HRf
  rw [← unhide HQ] at HTu HHc
  clear hln hqn HFL HOK HIK
  generalize tuL ch true l = A at *
  generalize tuL ch false l = B at *
  have HHx := hide (fun (T : List Int) (hT : T.length ≤ 20) (a9 : Option Addr) (c9 : Nat) (x : Int) (W : World) (h : Ints W a9 T) => rhas_any a9 T c9 x W h (by unfold maxLen; omega))
  have HSm := hide (fun (T : List Int) (hT : T.length ≤ 20) a8 c8 a9 c9 (W : World) (h8 : Ints W a8 T) (h9 : Ints W a9 T) => isame_any W T a8 a9 c8 c9 (by omega) h8 h9)
  go_enter Try.func4, Try.ntmps4
  go_wp2_with fail
  refine (unhide HFw).mono ?_
  rintro e w1 ⟨rfl, rfl⟩
  clear HFw
  go_wp2_with fail
  refine (unhide HTu).mono ?_
  rintro e w2 ⟨va, vb, rfl, h2⟩
  obtain ⟨aa, ca, rfl, hIA, _, _⟩ := OwnI.ints h2.on
  obtain ⟨ab, cb, rfl, hIB, _, _⟩ := OwnI.ints h2.off
  have IA2 := hide hIA
  have IB2 := hide hIB
  have B2 := hide h2.be
  clear h2 hIA hIB HTu
  obtain ⟨x1, hx1⟩ : ∃ x1, x1 = A.length := ⟨_, rfl⟩
  obtain ⟨x2, hx2⟩ : ∃ x2, x2 = B.length := ⟨_, rfl⟩
  rw [← hx1, ← hx2]
  have HX1 := hide hx1
  have HX2 := hide hx2
  clear hx1 hx2
  go_wp2_with fail
  refine (unhide HRf _ (unhide B2)).mono ?_
  rintro e w3 ⟨v3, rfl, h3⟩
  obtain ⟨a3, c3, rfl, p3⟩ := h3.own.prs
  have B3 := hide ((unhide B2).trans (h3.be.mono (unhide B2).size))
  have IA3 := hide ((unhide IA2).up h3.be)
  have IB3 := hide ((unhide IB2).up h3.be)
  have HX := hide (unhide HOn a3 c3 w3 (unhide B3) p3)
  rw [← unhide HN, ← unhide HQ] at HX
  rw [← unhide HN]
  clear h3 p3 IA2 IB2
  go_wp2_with fail
  refine (unhide HX).mono ?_
  rintro e w4 ⟨v4, rfl, o4, b4⟩
  obtain ⟨a4, c4, rfl, hI4, _, _⟩ := OwnI.ints o4
  have B4 := hide ((unhide B3).trans (b4.mono (unhide B3).size))
  have IA4 := hide ((unhide IA3).up b4)
  have IB4 := hide ((unhide IB3).up b4)
  have HX := hide (unhide HSm A (unhide HLA) aa ca a4 c4 w4 (unhide IA4) hI4)
  rw [← unhide HX1] at HX ⊢
  clear o4 b4 hI4 IA3 IB3
  go_wp2_with fail
  refine (unhide HX).mono ?_
  rintro e w5 ⟨rfl, b5⟩
  have B5 := hide ((unhide B4).trans (b5.mono (unhide B4).size))
  have IA5 := hide ((unhide IA4).up b5)
  have IB5 := hide ((unhide IB4).up b5)
  clear b5 IA4 IB4 HX
  go_wp2_with fail
  refine (unhide HRf _ (unhide B5)).mono ?_
  rintro e w6 ⟨v6, rfl, h6⟩
  obtain ⟨a6, c6, rfl, p6⟩ := h6.own.prs
  have B6 := hide ((unhide B5).trans (h6.be.mono (unhide B5).size))
  have IA6 := hide ((unhide IA5).up h6.be)
  have IB6 := hide ((unhide IB5).up h6.be)
  have HX := hide (unhide HOff a6 c6 w6 (unhide B6) p6)
  rw [← unhide HN, ← unhide HQ] at HX
  rw [← unhide HN]
  clear h6 p6 IA5 IB5
  go_wp2_with fail
  refine (unhide HX).mono ?_
  rintro e w7 ⟨v7, rfl, o7, b7⟩
  obtain ⟨a7, c7, rfl, hI7, _, _⟩ := OwnI.ints o7
  have B7 := hide ((unhide B6).trans (b7.mono (unhide B6).size))
  have IA7 := hide ((unhide IA6).up b7)
  have IB7 := hide ((unhide IB6).up b7)
  have HX := hide (unhide HSm B (unhide HLB) ab cb a7 c7 w7 (unhide IB7) hI7)
  rw [← unhide HX2] at HX ⊢
  clear o7 b7 hI7 IA6 IB6
  go_wp2_with fail
  refine (unhide HX).mono ?_
  rintro e w8 ⟨rfl, b8⟩
  have B8 := hide ((unhide B7).trans (b8.mono (unhide B7).size))
  have IA8 := hide ((unhide IA7).up b8)
  have IB8 := hide ((unhide IB7).up b8)
  clear b8 IA7 IB7 HX HRf HOn HOff HSm
  go_wp2_with fail
  go_loopw [7] (fun v wr => ∃ k q : Nat, k ≤ n ∧ v = .int .i64 k ∧ Below w8.heap.size w8 wr) (fun v _ => n - (intOf v).toNat)
  case atStart => exact ⟨0, 0, by omega, rfl, Below.refl _ _⟩
  case round =>
    obtain ⟨k, _, hk, rfl, hB⟩ := hrel
    have HB := hide hB
    clear hB
    by_cases hlt : k < n
    · have hlt' : k < l.length := by rw [← unhide HN]; exact hlt
      obtain ⟨p, hp⟩ : ∃ p, p = l[k] := ⟨_, rfl⟩
      obtain ⟨g, o, rfl, hgl, hra⟩ := prs_range (unhide HL) ((unhide B8).trans ((unhide HB).mono (unhide B8).size)) (i := k) (p := p) (by rw [hp]; exact List.getElem?_eq_getElem hlt')
      have hfa := unhide HFa p (by rw [hp]; exact List.getElem_mem _)
      have u0 : wr.cell? ⟨g, o + k * 10, none⟩ = some (.int .i64 p.nd) := hra 0 _ rfl
      have u5 : wr.cell? ⟨g, o + k * 10 + 5, none⟩ = some (.bool p.op) := hra 5 _ rfl
      have q2 : (k : Int) < n := by omega
      have HA1 := hide (unhide HHx A (unhide HLA) aa ca p.nd wr ((unhide IA8).up (unhide HB)))
      have HB1 := hide (unhide HHx B (unhide HLB) ab cb p.nd wr ((unhide IB8).up (unhide HB)))
      have HC1 := hide (unhide HHc p.nd wr ((unhide B8).trans ((unhide HB).mono (unhide B8).size)))
      rw [← unhide HX1] at HA1
      rw [← unhide HX2] at HB1
      generalize hasI A p.nd = hA at *
      generalize hasI B p.nd = hB at *
      generalize hasI ch p.nd = hC at *
      generalize p.nd = nd at *
      generalize p.op = op at *
      clear hp hlt' hra hgl
      subst hfa
      cases op <;> cases hB <;> cases hA
      · skip
        go_wp2_with fail
        refine (unhide HA1).mono ?_
        rintro e9 w9 ⟨rfl, rfl⟩
        go_wp2_with fail
        refine (unhide HC1).mono ?_
        rintro e9 w9 ⟨rfl, rfl⟩
        go_wp2
        go_roundw
        case rel => exact ⟨k + 1, 0, by omega, by go_num, unhide HB⟩
        case measure => simp [intOf]; omega
      · skip
        go_wp2_with fail
        refine (unhide HA1).mono ?_
        rintro e9 w9 ⟨rfl, rfl⟩
        go_wp2_with fail
        refine (unhide HC1).mono ?_
        rintro e9 w9 ⟨rfl, rfl⟩
        go_wp2
        go_roundw
        case rel => exact ⟨k + 1, 0, by omega, by go_num, unhide HB⟩
        case measure => simp [intOf]; omega
      · skip
        go_wp2_with fail
        refine (unhide HA1).mono ?_
        rintro e9 w9 ⟨rfl, rfl⟩
        go_wp2_with fail
        refine (unhide HC1).mono ?_
        rintro e9 w9 ⟨rfl, rfl⟩
        go_wp2
        go_roundw
        case rel => exact ⟨k + 1, 0, by omega, by go_num, unhide HB⟩
        case measure => simp [intOf]; omega
      · skip
        go_wp2_with fail
        refine (unhide HA1).mono ?_
        rintro e9 w9 ⟨rfl, rfl⟩
        go_wp2_with fail
        refine (unhide HC1).mono ?_
        rintro e9 w9 ⟨rfl, rfl⟩
        go_wp2
        go_roundw
        case rel => exact ⟨k + 1, 0, by omega, by go_num, unhide HB⟩
        case measure => simp [intOf]; omega
      · skip
        go_wp2_with fail
        refine (unhide HB1).mono ?_
        rintro e9 w9 ⟨rfl, rfl⟩
        go_wp2_with fail
        refine (unhide HC1).mono ?_
        rintro e9 w9 ⟨rfl, rfl⟩
        go_wp2
        go_roundw
        case rel => exact ⟨k + 1, 0, by omega, by go_num, unhide HB⟩
        case measure => simp [intOf]; omega
      · skip
        go_wp2_with fail
        refine (unhide HB1).mono ?_
        rintro e9 w9 ⟨rfl, rfl⟩
        go_wp2_with fail
        refine (unhide HC1).mono ?_
        rintro e9 w9 ⟨rfl, rfl⟩
        go_wp2
        go_roundw
        case rel => exact ⟨k + 1, 0, by omega, by go_num, unhide HB⟩
        case measure => simp [intOf]; omega
      · skip
        go_wp2_with fail
        refine (unhide HB1).mono ?_
        rintro e9 w9 ⟨rfl, rfl⟩
        go_wp2_with fail
        refine (unhide HA1).mono ?_
        rintro e9 w9 ⟨rfl, rfl⟩
        go_wp2_with fail
        refine (unhide HC1).mono ?_
        rintro e9 w9 ⟨rfl, rfl⟩
        go_wp2
        go_roundw
        case rel => exact ⟨k + 1, 0, by omega, by go_num, unhide HB⟩
        case measure => simp [intOf]; omega
      · skip
        go_wp2_with fail
        refine (unhide HB1).mono ?_
        rintro e9 w9 ⟨rfl, rfl⟩
        go_wp2_with fail
        refine (unhide HA1).mono ?_
        rintro e9 w9 ⟨rfl, rfl⟩
        go_wp2_with fail
        refine (unhide HC1).mono ?_
        rintro e9 w9 ⟨rfl, rfl⟩
        go_wp2
        go_roundw
        case rel => exact ⟨k + 1, 0, by omega, by go_num, unhide HB⟩
        case measure => simp [intOf]; omega
    · have q2 : ¬ (k : Int) < n := by omega
      have HF := hide ((unhide B8).trans ((unhide HB).mono (unhide B8).size))
      go_wp2_with fail
      refine (cawake_any _).mono ?_
      rintro e w9 ⟨rfl, b9⟩
      have B9 := hide ((unhide HF).trans (b9.mono (unhide HF).size))
      clear b9
      go_wp2
      go_ret
      exact ⟨rfl, unhide B9⟩
end Go.Proofs.Ytjndgglbapghhaa

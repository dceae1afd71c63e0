/- trace: the document's Pack. -/
import Derived.Test.YthgijdhifhnmfaaTrQ
import Derived.Test.YthgijdhifhnmfaaGr
namespace Go.Proofs.Ythgijdhifhnmfaa
open Go.RowKit
set_option linter.unusedVariables false
attribute [local go_sem] Oper.semAt_some

theorem putS_fit (x : Int) (s : Nat) (h1 : 1 ≤ s) (h7 : s ≤ 7) (hx : Fit x s) : putS x (s : Nat) = (putB x s, 0) := by
  unfold putS
  rw [if_neg (by omega), if_neg (by rw [Int.toNat_natCast]; have := hx.1; have := hx.2; omega), Int.toNat_natCast]
theorem rnumF (x : Int) (s : Nat) (h1 : 1 ≤ s) (h7 : s ≤ 7) (hx : Fit x s) (w : World) :
    Calls Try.prog 25 #[.int .i64 x, .int .i64 (s : Nat)] w fun e w' => e = .returned (.string (bs (putB x s))) ∧ Below w.heap.size w w' := by
  have := vnumF_any x (s : Nat) w
  rw [putS_fit x s h1 h7 hx] at this
  exact this
theorem rtextF (s : ByteArray) (hs : s.size ≤ 400) (w : World) :
    Calls Try.prog 26 #[.string s] w fun e w' => e = .returned (.string (bs (putB s.size 2 ++ s.data.toList))) ∧ Below w.heap.size w w' := by
  have := vtextF_any s w (by omega)
  have e := putS_fit (s.size : Int) 2 (by omega) (by omega) (fit_of (by omega) (by show (s.size : Int) < 65536; omega))
  rw [show ((2 : Nat) : Int) = 2 from rfl] at e
  rw [e] at this
  have e2 : ((⟨(putB (s.size : Int) 2).toArray⟩ : ByteArray) ++ s) = bs (putB s.size 2 ++ s.data.toList) := by
    rw [← bs_append]
    rfl
  rw [e2] at this
  exact this
set_option maxRecDepth 100000 in
theorem rpack_bad (a0 : Option Addr) (l : List Ev) (c : Nat) (w : World) (hl : EvsAt w a0 l) (hm : l.length ≤ 100000) (hc : chkB l = false) :
    Calls Try.prog 9 #[.slice a0 l.length c] w fun e w' => e = .returned (.tuple #[.string ⟨#[]⟩, .int .i64 1]) ∧ Below w.heap.size w w' := by
  have h1 := hide (rcheck_any a0 l c w hl hm)
  rw [hc] at h1
  generalize l.length = n at *
  clear hl hc
  go_enter Try.func9, Try.ntmps9
  go_wp2_with fail
  refine (unhide h1).mono ?_
  rintro e w1 ⟨rfl, b1⟩
  have HB1 := hide b1
  clear b1
  go_wp2
  go_ret2
  exact ⟨rfl, unhide HB1⟩
theorem flat_take (l : List Ev) (k : Nat) (hm : ∀ e ∈ l, mayB e = true) (hk : k ≤ 500) : ((l.take k).flatMap encE).length ≤ 202500 := by
  have h1 := flat_len (l.take k) (fun e he => hm e (List.mem_of_mem_take he))
  have h2 : (l.take k).length ≤ k := by rw [List.length_take]; omega
  omega
set_option maxRecDepth 100000 in
set_option maxHeartbeats 4000000 in
theorem rpack_any (a0 : Option Addr) (l : List Ev) (c : Nat) (w : World) (hl : EvsAt w a0 l) (hc : chkB l = true) :
    Calls Try.prog 9 #[.slice a0 l.length c] w fun e w' => e = .returned (.tuple #[.string (bs (hd l.length ++ l.flatMap encE)), .int .i64 0]) ∧ Below w.heap.size w w' := by
  have hm5 : l.length ≤ 500 := by
    have h := hc
    unfold chkB at h
    rw [Bool.and_eq_true] at h
    exact of_decide_eq_true h.1
  have HMay : Hid (∀ e ∈ l, mayB e = true) := by
    have h := hc
    unfold chkB at h
    rw [Bool.and_eq_true] at h
    exact List.all_eq_true.1 h.2
  have h1 := hide (rcheck_any a0 l c w hl (by omega))
  rw [hc] at h1
  have HL := hide hl
  have HN0 := hide (fun w => rnumF l.length 2 (by omega) (by omega) (fit_of (by omega) (by show (l.length : Int) < 65536; omega)) w)
  obtain ⟨Z, hZ⟩ : ∃ Z, Z = bs (hd l.length ++ l.flatMap encE) := ⟨_, rfl⟩
  rw [← hZ]
  have HZ := hide hZ
  obtain ⟨n, hn⟩ : ∃ n, n = l.length := ⟨_, rfl⟩
  rw [← hn] at hm5 h1 HN0 HZ ⊢
  have HN := hide hn
  obtain ⟨A0, hA0⟩ : ∃ A0, A0 = bs (putB n 2) := ⟨_, rfl⟩
  rw [← hA0] at HN0
  have hA0s : A0.size = 2 := by rw [hA0, bs_size, putB_length]
  have HH : Hid ((⟨#[116, 114, 99, 49]⟩ : ByteArray) ++ A0 = bs (hd n)) := by
    show _ = _
    rw [hA0]
    exact bs_append _ _
  clear hl hc hn hZ hA0
  go_enter Try.func9, Try.ntmps9
  go_wp2_with fail
  refine (unhide h1).mono ?_
  rintro e w1 ⟨rfl, b1⟩
  have HB1 := hide b1
  clear b1 h1
  go_wp2_with fail
  refine (unhide HN0 w1).mono ?_
  rintro e w2 ⟨rfl, b2⟩
  have HB2 := hide ((unhide HB1).trans (b2.mono (unhide HB1).size))
  clear b2 HB1 HN0
  have hsum : (4 : Nat) + A0.size ≤ 100 := by omega
  go_wp2_with fail
  go_loopw [4, 5] (fun u v wr => ∃ (k : Nat) (S : ByteArray), k ≤ n ∧ v = .int .i64 k ∧ u = .string S ∧ S = bs (hd n ++ (l.take k).flatMap encE) ∧ Below w.heap.size w wr) (fun _ v _ => n - (intOf v).toNat)
  case atStart => exact ⟨0, _, by omega, rfl, rfl, by rw [unhide HH]; simp, unhide HB2⟩
  case round =>
    clear HB2
    obtain ⟨k, S, hk, rfl, rfl, hS, hB⟩ := hrel
    have HS := hide hS
    have HB := hide hB
    have hSs : S.size ≤ 203000 := by
      rw [hS, bs_size, List.length_append, hd_len]
      have := flat_take l k (unhide HMay) (by omega)
      omega
    clear hS
    by_cases hlt : k < n
    · have hlt' : k < l.length := by rw [← unhide HN]; exact hlt
      obtain ⟨e, he⟩ : ∃ e, e = l[k] := ⟨_, rfl⟩
      obtain ⟨g, o, rfl, d0, d1, d2⟩ := unhide HL k e (by rw [he]; exact List.getElem?_eq_getElem hlt')
      have c0 := cell_below d0 hB
      have c1 := cell_below d1 hB
      have c2 := cell_below d2 hB
      have hmay := unhide HMay e (by rw [he]; exact List.getElem_mem _)
      have HE : Hid (bs (hd n ++ (l.take (k + 1)).flatMap encE) = S ++ bs (encE e)) := by
        show _ = _
        rw [unhide HS, List.take_succ_eq_append_getElem hlt', he, List.flatMap_append, bs_append]
        simp [List.append_assoc]
      have q1 : (k : Int) < n := by omega
      have hf := may_facts hmay
      clear he hlt' d0 d1 d2 hB
      obtain ⟨ek, en, et⟩ := e
      dsimp only at c0 c1 c2 hf
      have hkb : 1 ≤ ek ∧ ek ≤ 3 := by rcases hf with h | h <;> omega
      have hnb : 0 ≤ en ∧ en ≤ 65535 := by rcases hf with h | h <;> omega
      have HA := hide (fun w => rnumF ek 1 (by omega) (by omega) (fit_of (by omega) (by show ek < 256; omega)) w)
      have HBn := hide (fun w => rnumF en 2 (by omega) (by omega) (fit_of (by omega) (by show en < 65536; omega)) w)
      rw [show ((1 : Nat) : Int) = 1 from rfl] at HA
      rw [show ((2 : Nat) : Int) = 2 from rfl] at HBn
      obtain ⟨A, hA⟩ : ∃ A, A = bs (putB ek 1) := ⟨_, rfl⟩
      obtain ⟨Bq, hBq⟩ : ∃ Bq, Bq = bs (putB en 2) := ⟨_, rfl⟩
      rw [← hA] at HA
      rw [← hBq] at HBn
      have hAs : A.size = 1 := by rw [hA, bs_size, putB_length]
      have hBs : Bq.size = 2 := by rw [hBq, bs_size, putB_length]
      have HAE := hide hA
      have HBE := hide hBq
      have s1 : S.size + A.size ≤ 203010 := by omega
      have s2 : S.size + A.size + Bq.size ≤ 203020 := by omega
      have s3 : (S ++ A).size + Bq.size ≤ 203020 := by rw [ByteArray.size_append]; omega
      have s4 : (S ++ A ++ Bq).size ≤ 203020 := by rw [ByteArray.size_append, ByteArray.size_append]; omega
      clear hA hBq
      go_wp2_with fail
      refine wp_region_gr (fun x => Below wr.heap.size wr x) (by kernel_rfl) (by kernel_rfl) (gb_start wr) ?_
      have hneZ : Nonempty (Gb wr) := gb_ne wr
      have p0 : ∀ y : Gb wr, y.w.cell? ⟨g, o + k * 3, none⟩ = some (.int .i64 ek) := fun y => gb_cell c0 y
      have p1 : ∀ y : Gb wr, y.w.cell? ⟨g, o + k * 3 + 1, none⟩ = some (.int .i64 en) := fun y => gb_cell c1 y
      iterate 8 (go_big_quiet_step ((go_at_call 25; exact gb_call (unhide HA _))))
      repeat (go_big_quiet_step ((go_at_call 25; exact gb_call (unhide HBn _))))
      refine wpQuiet_nil ?_
      rintro w3 ⟨x3, rfl⟩
      have b3 := x3.ok
      have HB3 := hide ((unhide HB).trans (b3.mono (unhide HB).size))
      have e0 := cell_below c0 b3
      have e2 := cell_below c2 b3
      generalize x3.w = w3 at *
      clear b3 p0 p1 c0 c1 c2 HA HBn
      by_cases h1 : ek = 1
      · subst h1
        have hts : et.size ≤ 400 := by rcases hf with h | h <;> omega
        have HT := hide (fun w => rtextF et hts w)
        obtain ⟨T, hT⟩ : ∃ T, T = bs (putB et.size 2 ++ et.data.toList) := ⟨_, rfl⟩
        rw [← hT] at HT
        have hTs : T.size ≤ 402 := by
          rw [hT, bs_size, List.length_append, putB_length]
          have : et.data.toList.length = et.size := by simp
          omega
        have s5 : (S ++ A ++ Bq).size + T.size ≤ 203500 := by omega
        have HS2 : Hid (S ++ A ++ Bq ++ T = bs (hd n ++ (l.take (k + 1)).flatMap encE)) := by
          show _ = _
          rw [unhide HE]
          unfold encE
          dsimp only
          rw [if_pos rfl, unhide HAE, unhide HBE, hT]
          simp only [← bs_append, ByteArray.append_assoc]
        clear hT hf hkb hnb hmay
        go_wp2_with fail
        refine (unhide HT w3).mono ?_
        rintro e w4 ⟨rfl, b4⟩
        have HB4 := hide ((unhide HB3).trans (b4.mono (unhide HB3).size))
        clear b4
        go_wp2
        go_roundw
        case rel => exact ⟨k + 1, _, by omega, by go_num, rfl, unhide HS2, unhide HB4⟩
        case measure => simp [intOf]; omega
      · have h1' : (ek == 1) = false := by simp [h1]
        have HS2 : Hid (S ++ A ++ Bq = bs (hd n ++ (l.take (k + 1)).flatMap encE)) := by
          show _ = _
          rw [unhide HE]
          unfold encE
          dsimp only
          rw [if_neg h1, List.append_nil, unhide HAE, unhide HBE]
          simp only [← bs_append, ByteArray.append_assoc]
        clear hf hkb hnb hmay
        go_wp2
        go_roundw
        case rel => exact ⟨k + 1, _, by omega, by go_num, rfl, unhide HS2, unhide HB3⟩
        case measure => simp [intOf]; omega
    · have hkn : k = n := by omega
      have q1 : ¬ (k : Int) < n := by omega
      have e2 : S = Z := by
        rw [unhide HS, unhide HZ, hkn, unhide HN, List.take_length]
      subst e2
      clear hkn hB
      go_wp2
      go_ret2
      exact ⟨rfl, unhide HB⟩
end Go.Proofs.Ythgijdhifhnmfaa

/- The law GaussMore, walked. -/
import Derived.Test.YtpcndjnhpjhjkaaDoorOpenRw
namespace Go.Proofs.YtpcndjnhpjhjkaaDoor
open Go.RowKit
set_option linter.unusedVariables false
attribute [local go_sem] Oper.semAt_some

theorem Rws.take {n : Nat} {Rs : List (List Int)} {R : List (List Nat)} (h : Rws n Rs R) (k : Nat) : Rws n (Rs.take k) (R.take k) :=
  ⟨by rw [h.eq, List.map_take], fun r hr => h.lt r (List.mem_of_mem_take hr), fun r hr => h.ord r (List.mem_of_mem_take hr), h.n160, by have := h.m400; rw [List.length_take]; omega⟩
theorem gL_split (R : List (List Nat)) (k : Nat) : gL R = gL (R.take k) ++ gL (R.drop k) := by
  unfold gL
  rw [← List.map_append, List.take_append_drop]
theorem rank_more {n k : Nat} {Rs : List (List Int)} {R : List (List Nat)} (h : Rws n Rs R) (hk : k ≤ R.length) :
    (kep (gL (R.take k)) n).length ≤ (kep (gL R) n).length ∧ (kep (gL R) n).length ≤ (kep (gL (R.take k)) n).length + (R.length - k) := by
  have h160 := h.n160
  rw [kep_doc (by omega) (gL_szd R) h.bd (nocontra0 (gL_szd R)), kep_doc (by omega) (gL_szd (R.take k)) (h.take k).bd (nocontra0 (gL_szd _)), gL_split R k]
  have := docN_len (gL (R.take k)) (gL (R.drop k))
  rw [gL_length, List.length_drop] at this
  exact this
theorem mem_fixN {K : List Ln} {t : Nat} : t ∈ fixN K ↔ ∃ x ∈ K, x.1 ≠ 0 ∧ x.1 = 2 ^ fb x.1 ∧ fb x.1 = t := by
  unfold fixN
  rw [List.mem_map]
  constructor
  · rintro ⟨x, hx, rfl⟩
    rw [List.mem_filter] at hx
    have := hx.2
    unfold onlyB at this
    rw [decide_eq_true_eq] at this
    exact ⟨x, hx.1, this.1, this.2, rfl⟩
  · rintro ⟨x, hx, h1, h2, rfl⟩
    exact ⟨x, by rw [List.mem_filter]; exact ⟨hx, by unfold onlyB; exact decide_eq_true ⟨h1, h2⟩⟩, rfl⟩
/-- what is a sum of some is fixed by whoever has these sums -/
theorem fix_sub {m n : Nat} {A B : List Ln} (hn : n ≤ 200) (sA : Szd m A) (bA : ∀ x ∈ A, x.1 < 2 ^ n) (sB : Szd m B) (bB : ∀ x ∈ B, x.1 < 2 ^ n) (cA : ¬ Contra m A) (cB : ¬ Contra m B) (h : ∀ v, Spn m A v → Spn m B v) {t : Nat} (ht : t ∈ fixN (kep A n)) : t ∈ fixN (kep B n) := by
  obtain ⟨x, hx, h1, h2, h3⟩ := mem_fixN.1 ht
  obtain ⟨k1, k2, _⟩ := kep_rd hn sA bA
  obtain ⟨l1, l2, _⟩ := kep_rd hn sB bB
  have hs : Spn m (kep B n) x := ((kep_same hn sB bB cB).1 x).1 (h x (((kep_same hn sA bA cA).1 x).2 (Spn.mem k2 hx)))
  exact mem_fixN.2 ⟨x, l1.single l2 hs h2, h1, h2, h3⟩
theorem fix_more {n k : Nat} {Rs : List (List Int)} {R : List (List Nat)} (h : Rws n Rs R) {t : Nat} (ht : t ∈ fixN (kep (gL (R.take k)) n)) : t ∈ fixN (kep (gL R) n) := by
  have h160 := h.n160
  refine fix_sub (m := 0) (by omega) (gL_szd _) (h.take k).bd (gL_szd R) h.bd (nocontra0 (gL_szd _)) (nocontra0 (gL_szd _)) (fun v hv => hv.sub (fun x hx => ?_)) ht
  rw [gL_split R k]
  exact List.mem_append_left _ hx
theorem mod_pick (f : Int) (m : Nat) : ∃ k : Nat, k ≤ m ∧ (f.tmod ((m : Int) + 1) + m + 1).tmod ((m : Int) + 1) = k ∧ -((m : Int) + 1) < f.tmod ((m : Int) + 1) ∧ f.tmod ((m : Int) + 1) < (m : Int) + 1 := by
  have h1 : f.tmod ((m : Int) + 1) < (m : Int) + 1 := Int.tmod_lt_of_pos _ (by omega)
  have h2 : -((m : Int) + 1) < f.tmod ((m : Int) + 1) := by
    have := Int.lt_tmod_of_pos f (show (0 : Int) < (m : Int) + 1 by omega)
    omega
  refine ⟨((f.tmod ((m : Int) + 1) + m + 1).tmod ((m : Int) + 1)).toNat, ?_, ?_, h2, h1⟩
  · have := Int.tmod_lt_of_pos (f.tmod ((m : Int) + 1) + m + 1) (show (0 : Int) < (m : Int) + 1 by omega)
    omega
  · have := Int.tmod_nonneg ((m : Int) + 1) (show 0 ≤ f.tmod ((m : Int) + 1) + m + 1 by omega)
    omega
set_option maxRecDepth 100000 in
set_option maxHeartbeats 1000000 in
theorem gaussMore_off (n : Int) (Rs : List (List Int)) (a0 : Option Addr) (c : Nat) (first : Int) (w : World) (hT : Tz w) (hn : -9223372036854775808 ≤ n ∧ n ≤ 9223372036854775807) (hI : RowsA w a0 Rs) (hO : RowsOk Rs a0 c) (hno : fewB n Rs = false ∨ mayB n Rs = false) :
    Calls Tryd.prog 7 #[.int .i64 n, .slice a0 Rs.length c, .int .i64 first] w fun e w' => e = .returned (.bool true) ∧ Below w.heap.size w w' := by
  have hf := hide (gfew_any n Rs a0 c (by have := hO.1; have := hO.2.1; omega) hO.2.2.1 w hI)
  have hm := hide (may_any n Rs a0 c hn (by have := hO.1; have := hO.2.1; omega) hO.2.2.1 w hI)
  have haw := hide (gawake_any w hT)
  cases hfe : fewB n Rs with
  | false =>
    rw [hfe] at hf
    generalize Rs.length = m at *
    clear hI hO hno hfe
    go_enter Tryd.func7, Tryd.ntmps7
    go_wp2_with fail
    refine (unhide hf).mono ?_
    rintro e w1 ⟨rfl, rfl⟩
    go_wp2_with fail
    refine (unhide haw).mono ?_
    rintro e w2 ⟨rfl, b2⟩
    have B2 := hide b2
    clear b2
    go_wp2
    go_ret
    exact ⟨rfl, unhide B2⟩
  | true =>
    rw [hfe] at hf hno
    have hme : mayB n Rs = false := by rcases hno with h | h; cases h; exact h
    rw [hme] at hm
    generalize Rs.length = m at *
    clear hI hO hno hfe hme
    go_enter Tryd.func7, Tryd.ntmps7
    go_wp2_with fail
    refine (unhide hf).mono ?_
    rintro e w1 ⟨rfl, rfl⟩
    go_wp2_with fail
    refine (unhide hm).mono ?_
    rintro e w1 ⟨rfl, rfl⟩
    go_wp2_with fail
    refine (unhide haw).mono ?_
    rintro e w2 ⟨rfl, b2⟩
    have B2 := hide b2
    clear b2
    go_wp2
    go_ret
    exact ⟨rfl, unhide B2⟩
set_option maxRecDepth 100000 in
set_option maxHeartbeats 1000000 in
theorem gaussMore_on (n : Nat) (Rs : List (List Int)) (R : List (List Nat)) (hR : Rws n Rs R) (a0 : Option Addr) (c : Nat) (first : Int) (w : World) (hT : Tz w) (hI : RowsA w a0 Rs) (hO : RowsOk Rs a0 c) (hfe : fewB n Rs = true) :
    Calls Tryd.prog 7 #[.int .i64 n, .slice a0 Rs.length c, .int .i64 first] w fun e w' => e = .returned (.bool true) ∧ Below w.heap.size w w' := by
  have h160 := hR.n160
  have hf := hide (gfew_any n Rs a0 c (by have := hO.1; have := hO.2.1; omega) hO.2.2.1 w hI)
  have hm := hide (may_any n Rs a0 c ⟨by omega, by omega⟩ (by have := hO.1; have := hO.2.1; omega) hO.2.2.1 w hI)
  rw [hfe] at hf
  rw [rws_may hR] at hm
  have haw := hide (fun W (hb : Below w.heap.size w W) => gawake_any W (hT.below hb))
  have h40 : Rs.length ≤ 40 := by
    unfold fewB at hfe
    exact (of_decide_eq_true hfe).2.1
  have hlen : Rs.length = R.length := by rw [hR.eq, List.length_map]
  obtain ⟨k, hk, hkm, hm1, hm2⟩ := mod_pick first Rs.length
  have hRk := hR.take k
  have hIk := hI.take k
  have hkl : (Rs.take k).length = k := by rw [List.length_take]; omega
  have hfa : Hid (∀ W, Below w.heap.size w W → Calls Tryd.prog 14 #[.int .i64 n, .slice a0 k c] W fun e w' => ∃ v, e = .returned (.tuple #[v, .int .i64 0]) ∧ w'.ownsRow W.heap.size 3 1 v (fixN (kep (gL (R.take k)) n)).length (ic (zs (fixN (kep (gL (R.take k)) n)))) ∧ Below W.heap.size W w') := fun W hb => by
    have := fixed_yes n _ _ hRk a0 c W (hIk.below hb)
    rwa [hkl] at this
  have hfb : Hid (∀ W, Below w.heap.size w W → Calls Tryd.prog 14 #[.int .i64 n, .slice a0 Rs.length c] W fun e w' => ∃ v, e = .returned (.tuple #[v, .int .i64 0]) ∧ w'.ownsRow W.heap.size 3 1 v (fixN (kep (gL R) n)).length (ic (zs (fixN (kep (gL R) n)))) ∧ Below W.heap.size W w') := fun W hb => fixed_yes n _ _ hR a0 c W (hI.below hb)
  have hra : Hid (∀ W, Below w.heap.size w W → Calls Tryd.prog 13 #[.int .i64 n, .slice a0 k c] W fun e w' => e = .returned (.tuple #[.int .i64 ((kep (gL (R.take k)) n).length : Nat), .int .i64 0]) ∧ Below W.heap.size W w') := fun W hb => by
    have := rank_yes n _ _ hRk a0 c W (hIk.below hb)
    rwa [hkl] at this
  have hrb : Hid (∀ W, Below w.heap.size w W → Calls Tryd.prog 13 #[.int .i64 n, .slice a0 Rs.length c] W fun e w' => e = .returned (.tuple #[.int .i64 ((kep (gL R) n).length : Nat), .int .i64 0]) ∧ Below W.heap.size W w') := fun W hb => rank_yes n _ _ hR a0 c W (hI.below hb)
  obtain ⟨r1, r2⟩ := rank_more hR (k := k) (by omega)
  rw [← hlen] at r2
  have HSUB : Hid (∀ t ∈ fixN (kep (gL (R.take k)) n), t ∈ fixN (kep (gL R) n)) := fun t ht => fix_more hR ht
  have hx160 : (kep (gL R) n).length ≤ 160 := by
    obtain ⟨_, _, h3, _, _, _, h7⟩ := kep_rd (n := n) (m := 0) (by omega) (gL_szd R) hR.bd
    omega
  have hF1 : (fixN (kep (gL (R.take k)) n)).length ≤ 160 := by have := fixN_len (kep (gL (R.take k)) n); omega
  have hF2 : (fixN (kep (gL R) n)).length ≤ 160 := by have := fixN_len (kep (gL R) n); omega
  have hc1 : Rs.length ≤ c := hO.1
  have hc2 : c ≤ maxLen := hO.2.1
  have hc3 := hO.2.2.2.2.1
  unfold maxLen at hc2
  generalize fixN (kep (gL (R.take k)) n) = F1 at *
  generalize fixN (kep (gL R) n) = F2 at *
  generalize (kep (gL (R.take k)) n).length = x1 at *
  generalize (kep (gL R) n).length = x2 at *
  generalize Rs.length = m at *
  clear hI hO hT hR hRk hIk hkl hfe hlen
  generalize hfm : first.tmod ((m : Int) + 1) = fm at *
  have w1 : wrap64 (fm + m) = fm + m := by unfold wrap64; omega
  have w2 : wrap64 (fm + m + 1) = fm + m + 1 := by unfold wrap64; omega
  have q1 : ¬ ((m : Int) + 1 = 0) := by omega
  have q2 : (k : Int) ≤ m := by omega
  have q3 : (k : Int) ≤ c := by omega
  cases a0 with
  | none =>
    obtain rfl := hc3 rfl
    obtain rfl : m = 0 := by omega
    obtain rfl : k = 0 := by omega
    simp only [Int.natCast_zero, Int.zero_add, Int.add_zero] at *
    clear hc3
    go_enter Tryd.func7, Tryd.ntmps7
    go_wp2_with fail
    refine (unhide hf).mono ?_
    rintro e w1 ⟨rfl, rfl⟩
    go_wp2_with fail
    refine (unhide hm).mono ?_
    rintro e w1 ⟨rfl, rfl⟩
    go_wp2_with fail
    refine (unhide hfa _ (Below.refl _ _)).mono ?_
    rintro e w2 ⟨v, rfl, hO2, b2⟩
    obtain ⟨f1a, f1c, rfl, hi1⟩ := ints_own (r := zs F1) (by rw [zs_length]; exact hO2)
    have B2 := hide b2
    have HI1 := hide hi1
    clear hO2 b2 hi1
    go_wp2_with fail
    refine (unhide hfb _ (unhide B2)).mono ?_
    rintro e w3 ⟨v, rfl, hO3, b3⟩
    obtain ⟨f2a, f2c, rfl, hi2⟩ := ints_own (r := zs F2) (by rw [zs_length]; exact hO3)
    have B3 := hide ((unhide B2).trans (b3.mono (unhide B2).size))
    have HI1' := hide ((unhide HI1).below b3)
    have HI2 := hide hi2
    clear hO3 b3 hi2
    go_wp2_with fail
    refine (unhide hra _ (unhide B3)).mono ?_
    rintro e w4 ⟨rfl, b4⟩
    have B4 := hide ((unhide B3).trans (b4.mono (unhide B3).size))
    have HI1'' := hide ((unhide HI1').below b4)
    have HI2' := hide ((unhide HI2).below b4)
    clear b4
    go_wp2_with fail
    refine (unhide hrb _ (unhide B4)).mono ?_
    rintro e w5 ⟨rfl, b5⟩
    have B5 := hide ((unhide B4).trans (b5.mono (unhide B4).size))
    have J1 := hide ((unhide HI1'').below b5)
    have J2 := hide ((unhide HI2').below b5)
    clear b5
    have q4 : ¬ (x2 : Int) < x1 := by omega
    have d4 : decide ((x2 : Int) < x1) = false := decide_eq_false q4
    have d4' : decide (x2 < x1) = false := decide_eq_false (by omega)
    have q5 : ¬ (0 : Int) < x2 - x1 := by omega
    have d5 : decide ((0 : Int) < x2 - x1) = false := decide_eq_false q5
    have q6 : ¬ (x1 : Int) < x2 := by omega
    have q7 : ¬ x1 < x2 := by omega
    have hz1 : (zs F1).length = F1.length := zs_length F1
    have hz2 : (zs F2).length = F2.length := zs_length F2
    generalize hL1 : (zs F1).length = l1 at *
    generalize hL2 : (zs F2).length = l2 at *
    have HL1 := hide hL1
    have HL2 := hide hL2
    have HZ1 := hide hz1
    have HZ2 := hide hz2
    have hl160 : l1 ≤ 160 := by omega
    have hl160' : l2 ≤ 160 := by omega
    clear hz1 hz2 hL1 hL2
    go_wp2_with fail
    go_loopw [16] (fun v wr => w5 = wr ∧ ∃ i : Nat, i ≤ l1 ∧ v = .int .i64 i) (fun v _ => l1 - (intOf v).toNat)
    case atStart => exact ⟨rfl, 0, by omega, rfl⟩
    case round =>
      obtain ⟨rfl, i, hi, rfl⟩ := hrel
      by_cases hlt : i < l1
      · have hlt' : i < (zs F1).length := by rw [unhide HL1]; exact hlt
        have hltF : i < F1.length := by rw [← unhide HZ1]; exact hlt
        obtain ⟨g, o, rfl, c0⟩ := unhide J1 i hlt'
        rw [zs_get F1 i hltF] at c0
        have hh := hide (ghas_any (zs F2) (F1[i] : Int) f2a f2c (by rw [unhide HL2]; unfold maxLen; omega) w5 (unhide J2))
        rw [unhide HL2, decide_eq_true (show (F1[i] : Int) ∈ zs F2 from List.mem_map.2 ⟨_, unhide HSUB _ (List.getElem_mem hltF), rfl⟩)] at hh
        have q8 : (i : Int) < l1 := by omega
        generalize F1[i] = y at *
        clear hlt' hltF
        go_wp2_with fail
        refine (unhide hh).mono ?_
        rintro e w6 ⟨rfl, rfl⟩
        go_wp2
        go_roundw
        case rel => exact ⟨trivial, i + 1, by omega, by go_num⟩
        case measure => simp [intOf]; omega
      · have q8 : ¬ (i : Int) < l1 := by omega
        go_wp2_with fail
        refine (unhide haw _ (unhide B5)).mono ?_
        rintro e w6 ⟨rfl, b6⟩
        have B6 := hide ((unhide B5).trans (b6.mono (unhide B5).size))
        clear b6
        go_wp2
        go_ret
        exact ⟨rfl, unhide B6⟩
  | some a =>
    clear hc3
    go_enter Tryd.func7, Tryd.ntmps7
    go_wp2_with fail
    refine (unhide hf).mono ?_
    rintro e w1 ⟨rfl, rfl⟩
    go_wp2_with fail
    refine (unhide hm).mono ?_
    rintro e w1 ⟨rfl, rfl⟩
    go_wp2_with fail
    refine (unhide hfa _ (Below.refl _ _)).mono ?_
    rintro e w2 ⟨v, rfl, hO2, b2⟩
    obtain ⟨f1a, f1c, rfl, hi1⟩ := ints_own (r := zs F1) (by rw [zs_length]; exact hO2)
    have B2 := hide b2
    have HI1 := hide hi1
    clear hO2 b2 hi1
    go_wp2_with fail
    refine (unhide hfb _ (unhide B2)).mono ?_
    rintro e w3 ⟨v, rfl, hO3, b3⟩
    obtain ⟨f2a, f2c, rfl, hi2⟩ := ints_own (r := zs F2) (by rw [zs_length]; exact hO3)
    have B3 := hide ((unhide B2).trans (b3.mono (unhide B2).size))
    have HI1' := hide ((unhide HI1).below b3)
    have HI2 := hide hi2
    clear hO3 b3 hi2
    go_wp2_with fail
    refine (unhide hra _ (unhide B3)).mono ?_
    rintro e w4 ⟨rfl, b4⟩
    have B4 := hide ((unhide B3).trans (b4.mono (unhide B3).size))
    have HI1'' := hide ((unhide HI1').below b4)
    have HI2' := hide ((unhide HI2).below b4)
    clear b4
    go_wp2_with fail
    refine (unhide hrb _ (unhide B4)).mono ?_
    rintro e w5 ⟨rfl, b5⟩
    have B5 := hide ((unhide B4).trans (b5.mono (unhide B4).size))
    have J1 := hide ((unhide HI1'').below b5)
    have J2 := hide ((unhide HI2').below b5)
    clear b5
    have q4 : ¬ (x2 : Int) < x1 := by omega
    have d4 : decide ((x2 : Int) < x1) = false := decide_eq_false q4
    have d4' : decide (x2 < x1) = false := decide_eq_false (by omega)
    have q5 : ¬ (m : Int) - k < x2 - x1 := by omega
    have d5 : decide ((m : Int) - k < x2 - x1) = false := decide_eq_false q5
    have hz1 : (zs F1).length = F1.length := zs_length F1
    have hz2 : (zs F2).length = F2.length := zs_length F2
    generalize hL1 : (zs F1).length = l1 at *
    generalize hL2 : (zs F2).length = l2 at *
    have HL1 := hide hL1
    have HL2 := hide hL2
    have HZ1 := hide hz1
    have HZ2 := hide hz2
    have hl160 : l1 ≤ 160 := by omega
    have hl160' : l2 ≤ 160 := by omega
    clear hz1 hz2 hL1 hL2
    go_wp2_with fail
    go_loopw [16] (fun v wr => w5 = wr ∧ ∃ i : Nat, i ≤ l1 ∧ v = .int .i64 i) (fun v _ => l1 - (intOf v).toNat)
    case atStart => exact ⟨rfl, 0, by omega, rfl⟩
    case round =>
      obtain ⟨rfl, i, hi, rfl⟩ := hrel
      by_cases hlt : i < l1
      · have hlt' : i < (zs F1).length := by rw [unhide HL1]; exact hlt
        have hltF : i < F1.length := by rw [← unhide HZ1]; exact hlt
        obtain ⟨g, o, rfl, c0⟩ := unhide J1 i hlt'
        rw [zs_get F1 i hltF] at c0
        have hh := hide (ghas_any (zs F2) (F1[i] : Int) f2a f2c (by rw [unhide HL2]; unfold maxLen; omega) w5 (unhide J2))
        rw [unhide HL2, decide_eq_true (show (F1[i] : Int) ∈ zs F2 from List.mem_map.2 ⟨_, unhide HSUB _ (List.getElem_mem hltF), rfl⟩)] at hh
        have q8 : (i : Int) < l1 := by omega
        generalize F1[i] = y at *
        clear hlt' hltF
        go_wp2_with fail
        refine (unhide hh).mono ?_
        rintro e w6 ⟨rfl, rfl⟩
        go_wp2
        go_roundw
        case rel => exact ⟨trivial, i + 1, by omega, by go_num⟩
        case measure => simp [intOf]; omega
      · have q8 : ¬ (i : Int) < l1 := by omega
        go_wp2_with fail
        refine (unhide haw _ (unhide B5)).mono ?_
        rintro e w6 ⟨rfl, b6⟩
        have B6 := hide ((unhide B5).trans (b6.mono (unhide B5).size))
        clear b6
        go_wp2
        go_ret
        exact ⟨rfl, unhide B6⟩
theorem gaussMore_any (n : Int) (Rs : List (List Int)) (a0 : Option Addr) (c : Nat) (first : Int) (w : World) (hT : Tz w) (hn : -9223372036854775808 ≤ n ∧ n ≤ 9223372036854775807) (hI : RowsA w a0 Rs) (hO : RowsOk Rs a0 c) :
    Calls Tryd.prog 7 #[.int .i64 n, .slice a0 Rs.length c, .int .i64 first] w fun e w' => e = .returned (.bool true) ∧ Below w.heap.size w w' := by
  by_cases h : fewB n Rs = true ∧ mayB n Rs = true
  · obtain ⟨k, R, rfl, hR⟩ := may_rws h.2
    exact gaussMore_on k Rs R hR a0 c first w hT hI hO h.1
  · refine gaussMore_off n Rs a0 c first w hT hn hI hO ?_
    cases h1 : fewB n Rs with
    | false => exact .inl rfl
    | true =>
      refine .inr ?_
      cases h2 : mayB n Rs with
      | false => rfl
      | true => exact absurd ⟨h1, h2⟩ h
theorem gaussMore_law (n : Int) (a0 : Option Addr) (Rs : List (List Int)) (c : Nat) (first : Int) (w : World) (hn : (Lit.int .i64 n).wf = true) (hI : RowsA w a0 Rs) (hO : RowsOk Rs a0 c) (hf : (Lit.int .i64 first).wf = true) (hT : Tz w) :
    Calls Tryd.prog 7 #[.int .i64 n, .slice a0 Rs.length c, .int .i64 first] w fun e w' => e = .returned (.bool true) ∧ Below w.heap.size w w' :=
  gaussMore_any n Rs a0 c first w hT (wf64 hn) hI hO
end Go.Proofs.YtpcndjnhpjhjkaaDoor

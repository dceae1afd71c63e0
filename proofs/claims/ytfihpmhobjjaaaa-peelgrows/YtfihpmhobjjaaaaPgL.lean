/- The law PeelGrows, walked. -/
import Derived.Test.YtfihpmhobjjaaaaPeR
namespace Go.Proofs.Ytfihpmhobjjaaaa
open Go.RowKit
set_option linter.unusedVariables false
attribute [local go_sem] Oper.semAt_some

theorem Pl.take {n : Nat} {R : List (List Nat)} {K : List Nat} (h : Pl n R K) (k : Nat) : Pl n (R.take k) K :=
  ⟨h.n160, by have := h.m400; rw [List.length_take]; omega, fun r hr => h.lt r (List.mem_of_mem_take hr), fun r hr => h.ord r (List.mem_of_mem_take hr), h.klt, h.kord⟩
theorem Pl.dropK {n : Nat} {R : List (List Nat)} {K : List Nat} (h : Pl n R K) (k : Nat) : Pl n R (K.drop k) :=
  ⟨h.n160, h.m400, h.lt, h.ord, fun x hx => h.klt x (List.mem_of_mem_drop hx), h.kord.sublist (List.drop_sublist _ _)⟩
theorem Pl.again {n : Nat} {R : List (List Nat)} {K : List Nat} (h : Pl n R K) : Pl n R (knN n R K) :=
  ⟨h.n160, h.m400, h.lt, h.ord, fun x hx => (mem_knN.1 hx).1, knN_sorted _ _ _⟩
theorem ints_own2 {w : World} {base l : Nat} {v : Value} {r : List Nat} (hl : r.length = l) (h : w.ownsRow base 3 1 v l (ic (zs r))) : ∃ a0 c, v = .slice a0 l c ∧ Ints w a0 (zs r) ∧ l ≤ c ∧ c ≤ maxLen := by
  subst hl
  obtain ⟨a0, c, e, hi, h1, h2⟩ := OwnI.ints (l := zs r) (by show World.ownsRow _ _ _ _ _ _ _; rw [zs_length]; exact h)
  rw [zs_length] at e h1
  exact ⟨a0, c, e, hi, h1, h2⟩
set_option maxRecDepth 100000 in
set_option maxHeartbeats 1000000 in
theorem peelGrows_off (n : Int) (Rs : List (List Int)) (Ks : List Int) (a0 k0 : Option Addr) (c kc : Nat) (hn : -9223372036854775808 ≤ n ∧ n ≤ 9223372036854775807) (hk : Rs.length ≤ maxLen) (hk2 : ∀ r ∈ Rs, r.length ≤ maxLen) (hk3 : Ks.length ≤ maxLen) (w : World) (hI : RowsA w a0 Rs) (hK : Ints w k0 Ks) (hno : (fewB n Rs && fewB n [Ks]) = false ∨ (mayB n Rs && mayB n [Ks]) = false) :
    Calls Try.prog 6 #[.int .i64 n, .slice a0 Rs.length c, .slice k0 Ks.length kc] w fun e w' => e = .returned (.bool true) ∧ Below w.heap.size w w' := by
  have hf := hide (pfew_any n Rs Ks a0 k0 c kc hk hk2 hk3 w hI hK)
  have haw := hide (fun W => pawake_any W)
  cases hfe : (fewB n Rs && fewB n [Ks]) with
  | false =>
    rw [hfe] at hf
    generalize Rs.length = m at *
    generalize Ks.length = l at *
    clear hI hK hno hfe
    go_enter Try.func6, Try.ntmps6
    go_wp2_with fail
    refine (unhide hf).mono ?_
    rintro e w1 ⟨rfl, b1⟩
    have B1 := hide b1
    clear b1
    go_wp2_with fail
    refine (unhide haw _).mono ?_
    rintro e w2 ⟨rfl, b2⟩
    have B2 := hide ((unhide B1).trans (b2.mono (unhide B1).size))
    clear b2
    go_wp2
    go_ret
    exact ⟨rfl, unhide B2⟩
  | true =>
    rw [hfe] at hf hno
    have hme : (mayB n Rs && mayB n [Ks]) = false := by rcases hno with h | h; cases h; exact h
    have hkn := hide (fun W (hb : Below w.heap.size w W) => known_no n Rs Ks a0 k0 c kc hn hk hk2 hk3 W (hI.below hb) (hK.below hb) hme)
    generalize Rs.length = m at *
    generalize Ks.length = l at *
    clear hI hK hno hfe hme
    go_enter Try.func6, Try.ntmps6
    go_wp2_with fail
    refine (unhide hf).mono ?_
    rintro e w1 ⟨rfl, b1⟩
    have B1 := hide b1
    clear b1
    go_wp2_with fail
    refine (unhide hkn _ (unhide B1)).mono ?_
    rintro e w2 ⟨rfl, b2⟩
    have B2 := hide ((unhide B1).trans (b2.mono (unhide B1).size))
    clear b2
    go_wp2_with fail
    refine (unhide haw _).mono ?_
    rintro e w3 ⟨rfl, b3⟩
    have B3 := hide ((unhide B2).trans (b3.mono (unhide B2).size))
    clear b3
    go_wp2
    go_ret
    exact ⟨rfl, unhide B3⟩
set_option maxRecDepth 100000 in
set_option maxHeartbeats 2000000 in
theorem peelGrows_on (n : Nat) (R : List (List Nat)) (K : List Nat) (h : Pl n R K) (a0 k0 : Option Addr) (c kc : Nat) (hc : R.length ≤ c) (hcm : c ≤ maxLen) (hc0 : a0 = none → c = 0) (hkc : K.length ≤ kc) (hkcm : kc ≤ maxLen) (w : World) (hI : RowsC w a0 R) (hK : Ints w k0 (zs K)) (hfe : (fewB n (R.map zs) && fewB n [zs K]) = true) :
    Calls Try.prog 6 #[.int .i64 n, .slice a0 R.length c, .slice k0 K.length kc] w fun e w' => e = .returned (.bool true) ∧ Below w.heap.size w w' := by
  have h160 := h.n160
  have hf := pfew_any n (R.map zs) (zs K) a0 k0 c kc (by have := h.m400; rw [List.length_map]; unfold maxLen; omega) (fun r hr => by
    obtain ⟨x, hx, rfl⟩ := List.mem_map.1 hr
    have := h.rlen x hx
    rw [zs_length]; unfold maxLen; omega) (by have := h.klen; rw [zs_length]; unfold maxLen; omega) w hI.rowsA hK
  rw [hfe, List.length_map, zs_length] at hf
  have hf := hide hf
  have haw := hide (fun W => pawake_any W)
  have hA := hide (fun W (hb : Below w.heap.size w W) => known_yes n R K h a0 k0 c kc W (hI.below hb) (hK.below hb))
  have hB := hide (fun W b d (hb : Below w.heap.size w W) (hi : Ints W b (zs (knN n R K))) => known_yes n R (knN n R K) h.again a0 b c d W (hI.below hb) hi)
  rw [known_again h.lt h.nodup] at hB
  have hC := hide (fun W (hb : Below w.heap.size w W) => known_yes n (R.take (R.length / 2)) K (h.take _) a0 k0 c kc W ((hI.take _).below hb) (hK.below hb))
  rw [List.length_take, Nat.min_eq_left (Nat.div_le_self _ _)] at hC
  have hD : Hid (∀ (g o : Nat) W, Below w.heap.size w W → k0 = some ⟨g, o, none⟩ → ∀ (A : Addr) (C : Nat), A = ⟨g, o + 1, none⟩ ∨ kc = 1 → Calls Try.prog 12 #[.int .i64 n, .slice a0 R.length c, .slice (some A) (K.length - 1) C] W fun e w' => ∃ v, e = .returned (.tuple #[v, .int .i64 0]) ∧ w'.ownsRow W.heap.size 3 1 v (knN n R (K.drop 1)).length (ic (zs (knN n R (K.drop 1)))) ∧ Below W.heap.size W w') := fun g o W hb hk A C hA => by
    have := known_yes n R (K.drop 1) (h.dropK 1) a0 (some A) c C W (hI.below hb) (by
      rcases hA with rfl | hA
      · subst hk
        have := (hK.below hb).drop 1
        unfold zs at *
        rwa [← List.map_drop] at this
      · have : K.drop 1 = [] := List.drop_of_length_le (by omega)
        rw [this]
        intro i hi
        simp [zs] at hi)
    rwa [List.length_drop] at this
  have HS1 : Hid (∀ i ∈ knN n (R.take (R.length / 2)) K, i ∈ knN n R K) := fun i hi => known_more h.lt h.nodup (fun r hr => List.mem_of_mem_take hr) (fun i hi => hi) i hi
  have HS2 : Hid (∀ i ∈ K, i ∈ knN n R K) := fun i hi => known_own h.klt i hi
  have HS3 : Hid (∀ i ∈ knN n R (K.drop 1), i ∈ knN n R K) := fun i hi => known_more h.lt h.nodup (fun r hr => hr) (fun i hi => List.mem_of_mem_drop hi) i hi
  have hl1 := knN_len n R K
  have hl2 := knN_len n (R.take (R.length / 2)) K
  have hl3 := knN_len n R (K.drop 1)
  have hl4 := h.klen
  have hl5 := h.m400
  have HK := hide hK
  generalize knN n (R.take (R.length / 2)) K = SM at *
  generalize knN n R (K.drop 1) = LS at *
  generalize knN n R K = KN at *
  generalize hLA : KN.length = la at *
  have HLA := hide hLA
  generalize hLS : SM.length = ls at *
  have HLS := hide hLS
  generalize hLL : LS.length = ll at *
  have HLL := hide hLL
  generalize hLK : K.length = l at *
  have HLK := hide hLK
  generalize R.length = m at *
  clear hI hK hfe hLA hLS hLL hLK h
  unfold maxLen at hcm hkcm
  have t1 : (m : Int).tdiv 2 = ((m / 2 : Nat) : Int) := by rw [Int.tdiv_eq_ediv_of_nonneg (by omega)]; omega
  have hm2 : m / 2 ≤ m := Nat.div_le_self _ _
  generalize m / 2 = mh at *
  have q1 : (mh : Int) ≤ m := by omega
  have q2 : (mh : Int) ≤ c := by omega
  cases a0 with
  | none =>
    obtain rfl := hc0 rfl
    obtain rfl : m = 0 := by omega
    obtain rfl : mh = 0 := by omega
    clear hc0
    go_enter Try.func6, Try.ntmps6
    go_wp2_with fail
    refine (unhide hf).mono ?_
    rintro e w1 ⟨rfl, b1⟩
    have B1 := hide b1
    clear b1
    go_wp2_with fail
    refine (unhide hA _ (unhide B1)).mono ?_
    rintro e w2 ⟨v, rfl, hO2, b2⟩
    obtain ⟨pa, pc, rfl, hi2, hp1, hp2⟩ := ints_own2 (unhide HLA) hO2
    have B2 := hide ((unhide B1).trans (b2.mono (unhide B1).size))
    have HI2 := hide hi2
    clear hO2 b2 hi2 hp1 hp2
    go_wp2_with fail
    refine (unhide hB _ _ _ (unhide B2) (unhide HI2)).mono ?_
    rintro e w3 ⟨v, rfl, hO3, b3⟩
    obtain ⟨qa, qc, rfl, hi3, hp1, hp2⟩ := ints_own2 (unhide HLA) hO3
    have B3 := hide ((unhide B2).trans (b3.mono (unhide B2).size))
    have HI2b := hide ((unhide HI2).below b3)
    have HI3 := hide hi3
    clear hO3 b3 hi3 hp1 hp2
    go_wp2_with fail
    refine (unhide hC _ (unhide B3)).mono ?_
    rintro e w4 ⟨v, rfl, hO4, b4⟩
    obtain ⟨ra, rc, rfl, hi4, hp1, hp2⟩ := ints_own2 (unhide HLS) hO4
    have B4 := hide ((unhide B3).trans (b4.mono (unhide B3).size))
    have hsm := isame_any w4 (zs KN) pa qa pc qc (by rw [zs_length, unhide HLA]; omega) ((unhide HI2b).below b4) ((unhide HI3).below b4)
    have HI2c := hide ((unhide HI2b).below b4)
    rw [zs_length, unhide HLA] at hsm
    have HSM := hide hsm
    have HI4 := hide hi4
    clear hO4 b4 hi4 hp1 hp2 hsm
    go_wp2_with fail
    refine (unhide HSM).mono ?_
    rintro e w5 ⟨rfl, b5⟩
    have B5 := hide ((unhide B4).trans (b5.mono (unhide B4).size))
    have HI2d := hide ((unhide HI2c).below b5)
    have HI4d := hide ((unhide HI4).below b5)
    have HK5 := hide ((unhide HK).below (unhide B5))
    clear b5 HI2 HI2b HI2c HI3 HI4
    go_wp2_with fail
    go_loopw [13] (fun v wr => w5 = wr ∧ ∃ i : Nat, i ≤ ls ∧ v = .int .i64 i) (fun v _ => ls - (intOf v).toNat)
    case atStart => exact ⟨rfl, 0, by omega, rfl⟩
    case round =>
      obtain ⟨rfl, i, hi, rfl⟩ := hrel
      by_cases hlt : i < ls
      · have hltF : i < SM.length := by rw [unhide HLS]; exact hlt
        obtain ⟨g, o, rfl, c0⟩ := unhide HI4d i (by rw [zs_length]; exact hltF)
        rw [zs_get SM i hltF] at c0
        have hh := hide (ghas_any (zs KN) (SM[i] : Int) pa pc (by rw [zs_length, unhide HLA]; unfold maxLen; omega) w5 (unhide HI2d))
        rw [zs_length, unhide HLA, decide_eq_true (show (SM[i] : Int) ∈ zs KN from List.mem_map.2 ⟨_, unhide HS1 _ (List.getElem_mem hltF), rfl⟩)] at hh
        have q8 : (i : Int) < ls := by omega
        generalize SM[i] = y at *
        clear hltF
        go_wp2_with fail
        refine (unhide hh).mono ?_
        rintro e w6 ⟨rfl, rfl⟩
        go_wp2
        go_roundw
        case rel => exact ⟨trivial, i + 1, by omega, by go_num⟩
        case measure => simp [intOf]; omega
      · have q8 : ¬ (i : Int) < ls := by omega
        go_wp2_with fail
        go_loopw [14] (fun v wr => w5 = wr ∧ ∃ i : Nat, i ≤ l ∧ v = .int .i64 i) (fun v _ => l - (intOf v).toNat)
        case atStart => exact ⟨rfl, 0, by omega, rfl⟩
        case round =>
          obtain ⟨rfl, i, hi, rfl⟩ := hrel
          by_cases hlt : i < l
          · have hltF : i < K.length := by rw [unhide HLK]; exact hlt
            obtain ⟨g, o, rfl, c0⟩ := unhide HK5 i (by rw [zs_length]; exact hltF)
            rw [zs_get K i hltF] at c0
            have hh := hide (ghas_any (zs KN) (K[i] : Int) pa pc (by rw [zs_length, unhide HLA]; unfold maxLen; omega) w5 (unhide HI2d))
            rw [zs_length, unhide HLA, decide_eq_true (show (K[i] : Int) ∈ zs KN from List.mem_map.2 ⟨_, unhide HS2 _ (List.getElem_mem hltF), rfl⟩)] at hh
            have q8 : (i : Int) < l := by omega
            generalize K[i] = y at *
            clear hltF
            go_wp2_with fail
            refine (unhide hh).mono ?_
            rintro e w6 ⟨rfl, rfl⟩
            go_wp2
            go_roundw
            case rel => exact ⟨trivial, i + 1, by omega, by go_num⟩
            case measure => simp [intOf]; omega
          · have q9 : ¬ (i : Int) < l := by omega
            by_cases hl0 : 0 < l
            · have q10 : (0 : Int) < l := by omega
              obtain ⟨g, o, rfl, _⟩ := unhide HK5 0 (by rw [zs_length, unhide HLK]; exact hl0)
              have q11 : (1 : Int) ≤ l := by omega
              have q12 : (l : Int) ≤ kc := by omega
              have hD1 := hide (unhide hD g o w5 (unhide B5) rfl)
              go_wp2_with fail
              case inl =>
                refine (unhide hD1 _ _ (.inr (by first | assumption | omega))).mono ?_
                rintro e w6 ⟨v, rfl, hO6, b6⟩
                obtain ⟨sa, sc, rfl, hi6, hp1, hp2⟩ := ints_own2 (unhide HLL) hO6
                have B6 := hide ((unhide B5).trans (b6.mono (unhide B5).size))
                have HI6 := hide hi6
                have HI2e := hide ((unhide HI2d).below b6)
                clear hO6 b6 hi6 hp1 hp2
                go_wp2_with fail
                go_loopw [17] (fun v wr => w6 = wr ∧ ∃ i : Nat, i ≤ ll ∧ v = .int .i64 i) (fun v _ => ll - (intOf v).toNat)
                case atStart => exact ⟨rfl, 0, by omega, rfl⟩
                case round =>
                  obtain ⟨rfl, i, hi, rfl⟩ := hrel
                  by_cases hlt : i < ll
                  · have hltF : i < LS.length := by rw [unhide HLL]; exact hlt
                    obtain ⟨g, o, rfl, c0⟩ := unhide HI6 i (by rw [zs_length]; exact hltF)
                    rw [zs_get LS i hltF] at c0
                    have hh := hide (ghas_any (zs KN) (LS[i] : Int) pa pc (by rw [zs_length, unhide HLA]; unfold maxLen; omega) w6 (unhide HI2e))
                    rw [zs_length, unhide HLA, decide_eq_true (show (LS[i] : Int) ∈ zs KN from List.mem_map.2 ⟨_, unhide HS3 _ (List.getElem_mem hltF), rfl⟩)] at hh
                    have q8 : (i : Int) < ll := by omega
                    generalize LS[i] = y at *
                    clear hltF
                    go_wp2_with fail
                    refine (unhide hh).mono ?_
                    rintro e w6 ⟨rfl, rfl⟩
                    go_wp2
                    go_roundw
                    case rel => exact ⟨trivial, i + 1, by omega, by go_num⟩
                    case measure => simp [intOf]; omega
                  · have q8 : ¬ (i : Int) < ll := by omega
                    go_wp2_with fail
                    refine (unhide haw _).mono ?_
                    rintro e w7 ⟨rfl, b7⟩
                    have B7 := hide ((unhide B6).trans (b7.mono (unhide B6).size))
                    clear b7
                    go_wp2
                    go_ret
                    exact ⟨rfl, unhide B7⟩
              case inr =>
                refine (unhide hD1 _ _ (.inl rfl)).mono ?_
                rintro e w6 ⟨v, rfl, hO6, b6⟩
                obtain ⟨sa, sc, rfl, hi6, hp1, hp2⟩ := ints_own2 (unhide HLL) hO6
                have B6 := hide ((unhide B5).trans (b6.mono (unhide B5).size))
                have HI6 := hide hi6
                have HI2e := hide ((unhide HI2d).below b6)
                clear hO6 b6 hi6 hp1 hp2
                go_wp2_with fail
                go_loopw [17] (fun v wr => w6 = wr ∧ ∃ i : Nat, i ≤ ll ∧ v = .int .i64 i) (fun v _ => ll - (intOf v).toNat)
                case atStart => exact ⟨rfl, 0, by omega, rfl⟩
                case round =>
                  obtain ⟨rfl, i, hi, rfl⟩ := hrel
                  by_cases hlt : i < ll
                  · have hltF : i < LS.length := by rw [unhide HLL]; exact hlt
                    obtain ⟨g, o, rfl, c0⟩ := unhide HI6 i (by rw [zs_length]; exact hltF)
                    rw [zs_get LS i hltF] at c0
                    have hh := hide (ghas_any (zs KN) (LS[i] : Int) pa pc (by rw [zs_length, unhide HLA]; unfold maxLen; omega) w6 (unhide HI2e))
                    rw [zs_length, unhide HLA, decide_eq_true (show (LS[i] : Int) ∈ zs KN from List.mem_map.2 ⟨_, unhide HS3 _ (List.getElem_mem hltF), rfl⟩)] at hh
                    have q8 : (i : Int) < ll := by omega
                    generalize LS[i] = y at *
                    clear hltF
                    go_wp2_with fail
                    refine (unhide hh).mono ?_
                    rintro e w6 ⟨rfl, rfl⟩
                    go_wp2
                    go_roundw
                    case rel => exact ⟨trivial, i + 1, by omega, by go_num⟩
                    case measure => simp [intOf]; omega
                  · have q8 : ¬ (i : Int) < ll := by omega
                    go_wp2_with fail
                    refine (unhide haw _).mono ?_
                    rintro e w7 ⟨rfl, b7⟩
                    have B7 := hide ((unhide B6).trans (b7.mono (unhide B6).size))
                    clear b7
                    go_wp2
                    go_ret
                    exact ⟨rfl, unhide B7⟩
            · have q10 : ¬ (0 : Int) < l := by omega
              go_wp2_with fail
              refine (unhide haw _).mono ?_
              rintro e w7 ⟨rfl, b7⟩
              have B7 := hide ((unhide B5).trans (b7.mono (unhide B5).size))
              clear b7
              go_wp2
              go_ret
              exact ⟨rfl, unhide B7⟩
  | some a =>
    clear hc0
    go_enter Try.func6, Try.ntmps6
    go_wp2_with fail
    refine (unhide hf).mono ?_
    rintro e w1 ⟨rfl, b1⟩
    have B1 := hide b1
    clear b1
    go_wp2_with fail
    refine (unhide hA _ (unhide B1)).mono ?_
    rintro e w2 ⟨v, rfl, hO2, b2⟩
    obtain ⟨pa, pc, rfl, hi2, hp1, hp2⟩ := ints_own2 (unhide HLA) hO2
    have B2 := hide ((unhide B1).trans (b2.mono (unhide B1).size))
    have HI2 := hide hi2
    clear hO2 b2 hi2 hp1 hp2
    go_wp2_with fail
    refine (unhide hB _ _ _ (unhide B2) (unhide HI2)).mono ?_
    rintro e w3 ⟨v, rfl, hO3, b3⟩
    obtain ⟨qa, qc, rfl, hi3, hp1, hp2⟩ := ints_own2 (unhide HLA) hO3
    have B3 := hide ((unhide B2).trans (b3.mono (unhide B2).size))
    have HI2b := hide ((unhide HI2).below b3)
    have HI3 := hide hi3
    clear hO3 b3 hi3 hp1 hp2
    go_wp2_with fail
    refine (unhide hC _ (unhide B3)).mono ?_
    rintro e w4 ⟨v, rfl, hO4, b4⟩
    obtain ⟨ra, rc, rfl, hi4, hp1, hp2⟩ := ints_own2 (unhide HLS) hO4
    have B4 := hide ((unhide B3).trans (b4.mono (unhide B3).size))
    have hsm := isame_any w4 (zs KN) pa qa pc qc (by rw [zs_length, unhide HLA]; omega) ((unhide HI2b).below b4) ((unhide HI3).below b4)
    have HI2c := hide ((unhide HI2b).below b4)
    rw [zs_length, unhide HLA] at hsm
    have HSM := hide hsm
    have HI4 := hide hi4
    clear hO4 b4 hi4 hp1 hp2 hsm
    go_wp2_with fail
    refine (unhide HSM).mono ?_
    rintro e w5 ⟨rfl, b5⟩
    have B5 := hide ((unhide B4).trans (b5.mono (unhide B4).size))
    have HI2d := hide ((unhide HI2c).below b5)
    have HI4d := hide ((unhide HI4).below b5)
    have HK5 := hide ((unhide HK).below (unhide B5))
    clear b5 HI2 HI2b HI2c HI3 HI4
    go_wp2_with fail
    go_loopw [13] (fun v wr => w5 = wr ∧ ∃ i : Nat, i ≤ ls ∧ v = .int .i64 i) (fun v _ => ls - (intOf v).toNat)
    case atStart => exact ⟨rfl, 0, by omega, rfl⟩
    case round =>
      obtain ⟨rfl, i, hi, rfl⟩ := hrel
      by_cases hlt : i < ls
      · have hltF : i < SM.length := by rw [unhide HLS]; exact hlt
        obtain ⟨g, o, rfl, c0⟩ := unhide HI4d i (by rw [zs_length]; exact hltF)
        rw [zs_get SM i hltF] at c0
        have hh := hide (ghas_any (zs KN) (SM[i] : Int) pa pc (by rw [zs_length, unhide HLA]; unfold maxLen; omega) w5 (unhide HI2d))
        rw [zs_length, unhide HLA, decide_eq_true (show (SM[i] : Int) ∈ zs KN from List.mem_map.2 ⟨_, unhide HS1 _ (List.getElem_mem hltF), rfl⟩)] at hh
        have q8 : (i : Int) < ls := by omega
        generalize SM[i] = y at *
        clear hltF
        go_wp2_with fail
        refine (unhide hh).mono ?_
        rintro e w6 ⟨rfl, rfl⟩
        go_wp2
        go_roundw
        case rel => exact ⟨trivial, i + 1, by omega, by go_num⟩
        case measure => simp [intOf]; omega
      · have q8 : ¬ (i : Int) < ls := by omega
        go_wp2_with fail
        go_loopw [14] (fun v wr => w5 = wr ∧ ∃ i : Nat, i ≤ l ∧ v = .int .i64 i) (fun v _ => l - (intOf v).toNat)
        case atStart => exact ⟨rfl, 0, by omega, rfl⟩
        case round =>
          obtain ⟨rfl, i, hi, rfl⟩ := hrel
          by_cases hlt : i < l
          · have hltF : i < K.length := by rw [unhide HLK]; exact hlt
            obtain ⟨g, o, rfl, c0⟩ := unhide HK5 i (by rw [zs_length]; exact hltF)
            rw [zs_get K i hltF] at c0
            have hh := hide (ghas_any (zs KN) (K[i] : Int) pa pc (by rw [zs_length, unhide HLA]; unfold maxLen; omega) w5 (unhide HI2d))
            rw [zs_length, unhide HLA, decide_eq_true (show (K[i] : Int) ∈ zs KN from List.mem_map.2 ⟨_, unhide HS2 _ (List.getElem_mem hltF), rfl⟩)] at hh
            have q8 : (i : Int) < l := by omega
            generalize K[i] = y at *
            clear hltF
            go_wp2_with fail
            refine (unhide hh).mono ?_
            rintro e w6 ⟨rfl, rfl⟩
            go_wp2
            go_roundw
            case rel => exact ⟨trivial, i + 1, by omega, by go_num⟩
            case measure => simp [intOf]; omega
          · have q9 : ¬ (i : Int) < l := by omega
            by_cases hl0 : 0 < l
            · have q10 : (0 : Int) < l := by omega
              obtain ⟨g, o, rfl, _⟩ := unhide HK5 0 (by rw [zs_length, unhide HLK]; exact hl0)
              have q11 : (1 : Int) ≤ l := by omega
              have q12 : (l : Int) ≤ kc := by omega
              have hD1 := hide (unhide hD g o w5 (unhide B5) rfl)
              go_wp2_with fail
              case inl =>
                refine (unhide hD1 _ _ (.inr (by first | assumption | omega))).mono ?_
                rintro e w6 ⟨v, rfl, hO6, b6⟩
                obtain ⟨sa, sc, rfl, hi6, hp1, hp2⟩ := ints_own2 (unhide HLL) hO6
                have B6 := hide ((unhide B5).trans (b6.mono (unhide B5).size))
                have HI6 := hide hi6
                have HI2e := hide ((unhide HI2d).below b6)
                clear hO6 b6 hi6 hp1 hp2
                go_wp2_with fail
                go_loopw [17] (fun v wr => w6 = wr ∧ ∃ i : Nat, i ≤ ll ∧ v = .int .i64 i) (fun v _ => ll - (intOf v).toNat)
                case atStart => exact ⟨rfl, 0, by omega, rfl⟩
                case round =>
                  obtain ⟨rfl, i, hi, rfl⟩ := hrel
                  by_cases hlt : i < ll
                  · have hltF : i < LS.length := by rw [unhide HLL]; exact hlt
                    obtain ⟨g, o, rfl, c0⟩ := unhide HI6 i (by rw [zs_length]; exact hltF)
                    rw [zs_get LS i hltF] at c0
                    have hh := hide (ghas_any (zs KN) (LS[i] : Int) pa pc (by rw [zs_length, unhide HLA]; unfold maxLen; omega) w6 (unhide HI2e))
                    rw [zs_length, unhide HLA, decide_eq_true (show (LS[i] : Int) ∈ zs KN from List.mem_map.2 ⟨_, unhide HS3 _ (List.getElem_mem hltF), rfl⟩)] at hh
                    have q8 : (i : Int) < ll := by omega
                    generalize LS[i] = y at *
                    clear hltF
                    go_wp2_with fail
                    refine (unhide hh).mono ?_
                    rintro e w6 ⟨rfl, rfl⟩
                    go_wp2
                    go_roundw
                    case rel => exact ⟨trivial, i + 1, by omega, by go_num⟩
                    case measure => simp [intOf]; omega
                  · have q8 : ¬ (i : Int) < ll := by omega
                    go_wp2_with fail
                    refine (unhide haw _).mono ?_
                    rintro e w7 ⟨rfl, b7⟩
                    have B7 := hide ((unhide B6).trans (b7.mono (unhide B6).size))
                    clear b7
                    go_wp2
                    go_ret
                    exact ⟨rfl, unhide B7⟩
              case inr =>
                refine (unhide hD1 _ _ (.inl rfl)).mono ?_
                rintro e w6 ⟨v, rfl, hO6, b6⟩
                obtain ⟨sa, sc, rfl, hi6, hp1, hp2⟩ := ints_own2 (unhide HLL) hO6
                have B6 := hide ((unhide B5).trans (b6.mono (unhide B5).size))
                have HI6 := hide hi6
                have HI2e := hide ((unhide HI2d).below b6)
                clear hO6 b6 hi6 hp1 hp2
                go_wp2_with fail
                go_loopw [17] (fun v wr => w6 = wr ∧ ∃ i : Nat, i ≤ ll ∧ v = .int .i64 i) (fun v _ => ll - (intOf v).toNat)
                case atStart => exact ⟨rfl, 0, by omega, rfl⟩
                case round =>
                  obtain ⟨rfl, i, hi, rfl⟩ := hrel
                  by_cases hlt : i < ll
                  · have hltF : i < LS.length := by rw [unhide HLL]; exact hlt
                    obtain ⟨g, o, rfl, c0⟩ := unhide HI6 i (by rw [zs_length]; exact hltF)
                    rw [zs_get LS i hltF] at c0
                    have hh := hide (ghas_any (zs KN) (LS[i] : Int) pa pc (by rw [zs_length, unhide HLA]; unfold maxLen; omega) w6 (unhide HI2e))
                    rw [zs_length, unhide HLA, decide_eq_true (show (LS[i] : Int) ∈ zs KN from List.mem_map.2 ⟨_, unhide HS3 _ (List.getElem_mem hltF), rfl⟩)] at hh
                    have q8 : (i : Int) < ll := by omega
                    generalize LS[i] = y at *
                    clear hltF
                    go_wp2_with fail
                    refine (unhide hh).mono ?_
                    rintro e w6 ⟨rfl, rfl⟩
                    go_wp2
                    go_roundw
                    case rel => exact ⟨trivial, i + 1, by omega, by go_num⟩
                    case measure => simp [intOf]; omega
                  · have q8 : ¬ (i : Int) < ll := by omega
                    go_wp2_with fail
                    refine (unhide haw _).mono ?_
                    rintro e w7 ⟨rfl, b7⟩
                    have B7 := hide ((unhide B6).trans (b7.mono (unhide B6).size))
                    clear b7
                    go_wp2
                    go_ret
                    exact ⟨rfl, unhide B7⟩
            · have q10 : ¬ (0 : Int) < l := by omega
              go_wp2_with fail
              refine (unhide haw _).mono ?_
              rintro e w7 ⟨rfl, b7⟩
              have B7 := hide ((unhide B5).trans (b7.mono (unhide B5).size))
              clear b7
              go_wp2
              go_ret
              exact ⟨rfl, unhide B7⟩
theorem peelGrows_law (n : Int) (a0 : Option Addr) (Rs : List (List Int)) (c : Nat) (k0 : Option Addr) (Ks : List Int) (kc : Nat) (w : World) (hn : (Lit.int .i64 n).wf = true) (hI : RowsK w a0 Rs) (hO : RowsOk Rs a0 c) (hK : Ints w k0 Ks) (hKO : IntsOk Ks kc) :
    Calls Try.prog 6 #[.int .i64 n, .slice a0 Rs.length c, .slice k0 Ks.length kc] w fun e w' => e = .returned (.bool true) ∧ Below w.heap.size w w' := by
  have h1 : Rs.length ≤ maxLen := Nat.le_trans hO.1 hO.2.1
  have h2 : Ks.length ≤ maxLen := Nat.le_trans hKO.1 hKO.2.1
  by_cases h : (fewB n Rs && fewB n [Ks]) = true ∧ (mayB n Rs && mayB n [Ks]) = true
  · have hm := h.2
    rw [Bool.and_eq_true] at hm
    obtain ⟨k, R, K, rfl, rfl, rfl, hP⟩ := may_pl hm.1 hm.2
    have := peelGrows_on k R K hP a0 k0 c kc (by have := hO.1; rwa [List.length_map] at this) hO.2.1 hO.2.2.2.2.1 (by have := hKO.1; rwa [zs_length] at this) hKO.2.1 w hI.rowsC hK h.1
    rw [List.length_map, zs_length]
    exact this
  · refine peelGrows_off n Rs Ks a0 k0 c kc (wf64 hn) h1 hO.2.2.1 h2 w hI.rowsA hK ?_
    cases h3 : (fewB n Rs && fewB n [Ks]) with
    | false => exact .inl rfl
    | true =>
      refine .inr ?_
      cases h4 : (mayB n Rs && mayB n [Ks]) with
      | false => rfl
      | true => exact absurd ⟨h3, h4⟩ h
end Go.Proofs.Ytfihpmhobjjaaaa

/- The law GaussForm, walked. -/
import Derived.Test.YtpcndjnhpjhjkaaDoorGaQ
namespace Go.Proofs.YtpcndjnhpjhjkaaDoor
open Go.RowKit
set_option linter.unusedVariables false
attribute [local go_sem] Oper.semAt_some

theorem getD_mem'' {α : Type} {L : List α} {i : Nat} {d : α} (h : i < L.length) : L.getD i d ∈ L := by simp [List.getD, h]
theorem first_num {n r : Nat} (hn : n ≤ 200) (h0 : r ≠ 0) (hb : r < 2 ^ n) : ∃ t, numsR n r = fb r :: t := by
  have hb2 : r < 2 ^ 200 := Nat.lt_of_lt_of_le hb (Nat.pow_le_pow_right (by omega) hn)
  obtain ⟨h1, h2⟩ := fb_spec h0 hb2
  have hlt : fb r < n := (Nat.pow_lt_pow_iff_right (show 1 < 2 by omega)).1 (Nat.lt_of_le_of_lt (Nat.ge_two_pow_of_testBit h1) hb)
  have hm : fb r ∈ numsR n r := numsR_mem.2 ⟨hlt, h1⟩
  have hp : (numsR n r).Pairwise (· < ·) := List.Pairwise.filter _ List.pairwise_lt_range
  cases hl : numsR n r with
  | nil => rw [hl] at hm; cases hm
  | cons x t =>
    rw [hl] at hm hp
    have hx : x ∈ numsR n r := by rw [hl]; simp
    have h3 := fb_le hb2 (numsR_mem.1 hx).2
    rcases List.mem_cons.1 hm with e | e
    · exact ⟨t, by rw [e]⟩
    · have := (List.pairwise_cons.1 hp).1 _ e
      omega
/-- a row, and those of the reduced added whose first numbers it has -/
def accN (r : Nat) (K : List Ln) : Nat := K.foldl (fun acc y => if r.testBit (fb y.1) then acc ^^^ y.1 else acc) r
theorem accN_succ (r : Nat) (K : List Ln) (k : Nat) (h : k < K.length) : accN r (K.take (k + 1)) = if r.testBit (fb (gt K k).1) = true then accN r (K.take k) ^^^ (gt K k).1 else accN r (K.take k) := by
  have e : gt K k = K[k] := by simp [gt, List.getD, h]
  unfold accN
  rw [List.take_succ_eq_append_getElem h, List.foldl_append, e]
  rfl
theorem accN_fold (r : Nat) : ∀ (K : List Ln) (a : Ln), (K.foldl (fun acc y => if r.testBit (fb y.1) then addV acc y else acc) a).1 = K.foldl (fun acc y => if r.testBit (fb y.1) then acc ^^^ y.1 else acc) a.1
  | [], _ => rfl
  | y :: K, a => by
    rw [List.foldl_cons, List.foldl_cons, accN_fold r K]
    congr 1
    split <;> rfl
theorem accN_lt {n r : Nat} : ∀ (K : List Ln), (∀ x ∈ K, x.1 < 2 ^ n) → ∀ a, a < 2 ^ n → K.foldl (fun acc y => if r.testBit (fb y.1) then acc ^^^ y.1 else acc) a < 2 ^ n
  | [], _, a, ha => ha
  | y :: K, h, a, ha => by
    rw [List.foldl_cons]
    refine accN_lt K (fun x hx => h x (by simp [hx])) _ ?_
    split
    · exact Nat.xor_lt_two_pow ha (h y (by simp))
    · exact ha
theorem accN_zero {n : Nat} {Rs : List (List Int)} {R : List (List Nat)} (h : Rws n Rs R) {r : List Nat} (hr : r ∈ R) : accN (rowN r) (kep (gL R) n) = 0 := by
  have h160 := h.n160
  obtain ⟨k1, k2, _⟩ := kep_rd (n := n) (m := 0) (by omega) (gL_szd R) h.bd
  have hs : Spn 0 (kep (gL R) n) (rowN r, []) := ((kep_same (by omega) (gL_szd R) h.bd (nocontra0 (gL_szd R))).1 _).1 (Spn.mem (gL_szd R) (List.mem_map.2 ⟨r, hr, rfl⟩))
  have := congrArg Prod.fst (k1.back k2 hs)
  rw [accN_fold] at this
  exact this
theorem red_again {n : Nat} {Rs : List (List Int)} {R : List (List Nat)} (h : Rws n Rs R) : Rws n ((redR n (kep (gL R) n)).map zs) (redR n (kep (gL R) n)) ∧ kep (gL (redR n (kep (gL R) n))) n = kep (gL R) n := by
  have h160 := h.n160
  obtain ⟨k1, k2, k3, _, k5, k6, k7⟩ := kep_rd (n := n) (m := 0) (by omega) (gL_szd R) h.bd
  generalize kep (gL R) n = K at *
  have eg : gL (redR n K) = K := by
    unfold gL redR
    rw [List.map_map]
    conv => rhs; rw [← List.map_id K]
    refine List.map_congr_left (fun x hx => ?_)
    obtain ⟨a, b⟩ := x
    have e1 := k2 _ hx
    simp only at e1
    obtain rfl := List.eq_nil_of_length_eq_zero e1
    show (rowN (numsR n a), []) = (a, [])
    rw [rowN_nums (k6 _ hx)]
  refine ⟨⟨rfl, fun r hr => ?_, fun r hr => ?_, h160, ?_⟩, ?_⟩
  · obtain ⟨x, _, rfl⟩ := List.mem_map.1 hr
    exact fun y hy => (numsR_mem.1 hy).1
  · obtain ⟨x, _, rfl⟩ := List.mem_map.1 hr
    exact List.Pairwise.filter _ List.pairwise_lt_range
  · simp [redR]; omega
  · rw [eg]
    obtain ⟨l1, l2, _⟩ := kep_rd (n := n) (m := 0) (by omega) k2 k6
    exact (k1.uniq l1 k2 l2 (kep_same (by omega) k2 k6 (nocontra0 k2)).1).symm
/-- the rows that are reduced, as the law asks -/
structure Fm (n : Nat) (K : List Ln) : Prop where
  nz : ∀ i, i < K.length → ∃ t, numsR n (gt K i).1 = fb (gt K i).1 :: t
  up : ∀ i, i + 1 < K.length → fb (gt K i).1 < fb (gt K (i + 1)).1
  no : ∀ i k, i < K.length → k < K.length → k ≠ i → (gt K k).1.testBit (fb (gt K i).1) = false
theorem fm_of {n : Nat} {K : List Ln} (hn : n ≤ 200) (h : Rd K) (hb : ∀ x ∈ K, x.1 < 2 ^ n) : Fm n K := by
  have ho := List.pairwise_iff_getElem.1 h.ord
  have e : ∀ t (ht : t < K.length), K[t] = gt K t := fun t ht => by simp [gt, List.getD, ht]
  refine ⟨fun i hi => first_num hn (h.nz _ (gt_mem hi)) (hb _ (gt_mem hi)), fun i hi => ?_, fun i k hi hk hne => ?_⟩
  · have := ho i (i + 1) (by omega) hi (by omega)
    rwa [e i (by omega), e (i + 1) hi] at this
  · cases hc : (gt K k).1.testBit (fb (gt K i).1) with
    | false => rfl
    | true =>
      have h1 := h.one _ (gt_mem hi) _ (gt_mem hk) hc
      rcases Nat.lt_trichotomy i k with h2 | h2 | h2
      · have := ho i k hi hk h2
        rw [e i hi, e k hk] at this
        omega
      · exact absurd h2.symm hne
      · have := ho k i hk hi h2
        rw [e i hi, e k hk] at this
        omega
set_option maxRecDepth 100000 in
set_option maxHeartbeats 1000000 in
theorem gaussForm_off (n : Int) (Rs : List (List Int)) (a0 : Option Addr) (c : Nat) (w : World) (hT : Tz w) (hn : -9223372036854775808 ≤ n ∧ n ≤ 9223372036854775807) (hI : RowsA w a0 Rs) (hO : RowsOk Rs a0 c) (hno : fewB n Rs = false ∨ mayB n Rs = false) :
    Calls Tryd.prog 5 #[.int .i64 n, .slice a0 Rs.length c] w fun e w' => e = .returned (.bool true) ∧ Below w.heap.size w w' := by
  have hf := hide (gfew_any n Rs a0 c (by have := hO.1; have := hO.2.1; omega) hO.2.2.1 w hI)
  have haw := hide (gawake_any w hT)
  cases hfe : fewB n Rs with
  | false =>
    rw [hfe] at hf
    generalize Rs.length = m at *
    clear hI hO hno hfe
    go_enter Tryd.func5, Tryd.ntmps5
    go_wp2_with fail
    refine (unhide hf).mono ?_
    rintro e w1 ⟨rfl, rfl⟩
    go_wp2_with fail
    refine (unhide haw).mono ?_
    rintro e w2 ⟨rfl, b2⟩
    have B2 := hide b2
    clear b2
    go_wp2
    go_ret
    exact ⟨rfl, unhide B2⟩
  | true =>
    rw [hfe] at hf hno
    have hme : mayB n Rs = false := by rcases hno with h | h; cases h; exact h
    have hr := hide (reduce_no n Rs a0 c hn (by have := hO.1; have := hO.2.1; omega) hO.2.2.1 w hI hme)
    generalize Rs.length = m at *
    clear hI hO hno hfe hme
    go_enter Tryd.func5, Tryd.ntmps5
    go_wp2_with fail
    refine (unhide hf).mono ?_
    rintro e w1 ⟨rfl, rfl⟩
    go_wp2_with fail
    refine (unhide hr).mono ?_
    rintro e w1 ⟨rfl, rfl⟩
    go_wp2_with fail
    refine (unhide haw).mono ?_
    rintro e w2 ⟨rfl, b2⟩
    have B2 := hide b2
    clear b2
    go_wp2
    go_ret
    exact ⟨rfl, unhide B2⟩
set_option maxRecDepth 100000 in
set_option maxHeartbeats 1000000 in
theorem gaussForm_on (n : Nat) (Rs : List (List Int)) (R : List (List Nat)) (hR : Rws n Rs R) (a0 : Option Addr) (c : Nat) (w : World) (hT : Tz w) (hI : RowsA w a0 Rs) (hO : RowsOk Rs a0 c) (hfe : fewB n Rs = true) :
    Calls Tryd.prog 5 #[.int .i64 n, .slice a0 Rs.length c] w fun e w' => e = .returned (.bool true) ∧ Below w.heap.size w w' := by
  have h160 := hR.n160
  have hf := hide (gfew_any n Rs a0 c (by have := hO.1; have := hO.2.1; omega) hO.2.2.1 w hI)
  rw [hfe] at hf
  have haw := hide (fun W (hb : Below w.heap.size w W) => gawake_any W (hT.below hb))
  have h40 : Rs.length ≤ 40 := by
    unfold fewB at hfe
    exact (of_decide_eq_true hfe).2.1
  have hlen : Rs.length = R.length := by rw [hR.eq, List.length_map]
  have hred := hide (reduce_yes n Rs R hR a0 c w hT hI)
  obtain ⟨hRg, hkk⟩ := red_again hR
  have hred2 : Hid (∀ W (x0 : Option Addr) (xc : Nat), Below w.heap.size w W → RowsA W x0 ((redR n (kep (gL R) n)).map zs) → Calls Tryd.prog 11 #[.int .i64 n, .slice x0 ((redR n (kep (gL R) n)).map zs).length xc] W fun e w' => ∃ v, e = .returned (.tuple #[v, .int .i64 0]) ∧ RowsO w' W.heap.size v ((redR n (kep (gL R) n)).map zs) ∧ Below W.heap.size W w') := fun W x0 xc hW hx => by
    have h := reduce_yes n _ _ hRg x0 xc W (hT.below hW) hx
    rwa [hkk] at h
  obtain ⟨hrd, hsz, hk3, _, hk5, hbd, hk7⟩ := kep_rd (n := n) (m := 0) (by omega) (gL_szd R) hR.bd
  have hkl1 : (kep (gL R) n).length ≤ Rs.length := by rw [gL_length] at hk5; omega
  have hkl2 : (kep (gL R) n).length ≤ n := by omega
  have HFM := hide (fm_of (n := n) (by omega) hrd hbd)
  have HACC : Hid (∀ r ∈ R, accN (rowN r) (kep (gL R) n) = 0) := fun r hr => accN_zero hR hr
  have HBD := hide hbd
  have HRow : Hid (∀ i (h : i < Rs.length), ∃ g o b cc, a0 = some ⟨g, o, none⟩ ∧ w.cell? ⟨g, o + i, none⟩ = some (.slice b (R.getD i []).length cc) ∧ Ints w b (zs (R.getD i [])) ∧ R.getD i [] ∈ R) := fun i h => by
    obtain ⟨g, o, e, b, cc, h1, h2⟩ := hI i h
    have hrow : Rs[i] = zs (R.getD i []) := by
      have := hR.eq
      subst this
      simp [List.getD, show i < R.length by omega]
    rw [hrow, zs_length] at h1
    rw [hrow] at h2
    exact ⟨g, o, b, cc, e, h1, h2, getD_mem'' (by omega)⟩
  have HNR : Hid (∀ r ∈ R, numsR n (rowN r) = r ∧ rowN r < 2 ^ n) := fun r hr => ⟨nums_rowN (hR.lt r hr) (hR.ord r hr), rowN_lt r n (hR.lt r hr)⟩
  have hLL : ((redR n (kep (gL R) n)).map zs).length = (kep (gL R) n).length := by simp [redR]
  have HGET : Hid (∀ i (h : i < ((redR n (kep (gL R) n)).map zs).length), ((redR n (kep (gL R) n)).map zs)[i] = zs (numsR n (gt (kep (gL R) n) i).1)) := fun i h => by
    rw [hLL] at h
    simp [redR, gt, List.getD, h]
  generalize kep (gL R) n = K at *
  have hsl : Hid (∀ r ∈ (redR n K).map zs, r.length ≤ 100000) := fun r hr => by
    obtain ⟨x, hx, rfl⟩ := List.mem_map.1 hr
    obtain ⟨y, hy, rfl⟩ := List.mem_map.1 hx
    rw [zs_length]
    have := numsR_len n y.1
    omega
  generalize (redR n K).map zs = LL at *
  generalize hKL : K.length = kl at *
  generalize hML : Rs.length = m at *
  have HKL := hide hKL
  have HLL := hide hLL
  clear hI hO hT hR hRg hkk hrd hsz hk3 hk5 hbd hk7 hfe hlen hKL hML
  go_enter Tryd.func5, Tryd.ntmps5
  go_wp2_with fail
  refine (unhide hf).mono ?_
  rintro e w1 ⟨rfl, rfl⟩
  go_wp2_with fail
  refine (unhide hred).mono ?_
  rintro e w1 ⟨v1, rfl, hO1, b1⟩
  obtain ⟨la, lc', rfl, hla⟩ := hO1.rows
  rw [hLL]
  have HLA := hide hla
  have B1 := hide b1
  clear hO1 b1 hla hLL
  have HROW : Hid (∀ i, i < kl → ∃ g o gb ob cc len, la = some ⟨g, o, none⟩ ∧ w1.cell? ⟨g, o + i, none⟩ = some (.slice (some ⟨gb, ob, none⟩) (len + 1) cc) ∧ w1.cell? ⟨gb, ob, none⟩ = some (.int .i64 (fb (gt K i).1 : Nat)) ∧ Ints w1 (some ⟨gb, ob, none⟩) (zs (numsR n (gt K i).1)) ∧ (numsR n (gt K i).1).length = len + 1) := fun i hi => by
    have hi' : i < LL.length := by rw [unhide HLL]; exact hi
    obtain ⟨g, o, e, b, cc, h1, h2⟩ := unhide HLA i hi'
    rw [unhide HGET i hi', zs_length] at h1
    rw [unhide HGET i hi'] at h2
    obtain ⟨t, ht⟩ := (unhide HFM).nz i (by rw [unhide HKL]; exact hi)
    obtain ⟨gb, ob, e2, h3⟩ := h2 0 (by rw [zs_length, ht]; simp)
    subst e2
    have e3 : (zs (numsR n (gt K i).1))[0]'(by rw [zs_length, ht]; simp) = (fb (gt K i).1 : Int) := by
      have := zs_get (numsR n (gt K i).1) 0 (by rw [ht]; simp)
      rw [this]
      simp [ht]
    rw [e3, Nat.add_zero] at h3
    have hl : (numsR n (gt K i).1).length = t.length + 1 := by rw [ht]; simp
    rw [hl] at h1
    exact ⟨g, o, gb, ob, cc, t.length, e, h1, h3, h2, hl⟩
  go_wp2_with fail
  go_loopw [7] (fun v wr => ∃ i q : Nat, i ≤ kl ∧ v = .int .i64 i ∧ w1.drewN q = wr) (fun v _ => kl - (intOf v).toNat)
  case atStart => exact ⟨0, 0, by omega, rfl, rfl⟩
  case round =>
    obtain ⟨i, q, hi, rfl, rfl⟩ := hrel
    by_cases hlt : i < kl
    · obtain ⟨g, o, gb, ob, cc, len, rfl, c0, c1, iI, hl⟩ := unhide HROW i hlt
      have q1 : (i : Int) < kl := by omega
      have q2 : ¬ ((len + 1 : Nat) : Int) = 0 := by omega
      have q2' : ((((len + 1 : Nat) : Int)) == 0) = false := by simp; omega
      have HNO : Hid (∀ k, k < kl → k ≠ i → (gt K k).1.testBit (fb (gt K i).1) = false) := fun k hk hne => (unhide HFM).no i k (by rw [unhide HKL]; exact hlt) (by rw [unhide HKL]; exact hk) hne
      have HUP : Hid (∀ j, i = j + 1 → fb (gt K j).1 < fb (gt K i).1) := fun j hj => by subst hj; exact (unhide HFM).up j (by rw [unhide HKL]; exact hlt)
      have hfbn : fb (gt K i).1 ≤ 160 := by
        obtain ⟨t, ht⟩ := (unhide HFM).nz i (by rw [unhide HKL]; exact hlt)
        have : fb (gt K i).1 ∈ numsR n (gt K i).1 := by rw [ht]; simp
        have := (numsR_mem.1 this).1
        omega
      generalize hle : len + 1 = le at *
      clear hle hl
      by_cases hi0 : 0 < i
      · obtain ⟨j, hj⟩ : ∃ j, i = j + 1 := ⟨i - 1, by omega⟩
        have hup := unhide HUP j hj
        obtain ⟨g3, o3, gb3, ob3, cc3, len3, e3, j0, j1, _, _⟩ := unhide HROW j (by omega)
        simp only [Option.some.injEq, Addr.mk.injEq, and_true] at e3
        obtain ⟨rfl, rfl⟩ := e3
        have d3 : (0 : Int) < i := by omega
        have hij : (i : Int) - 1 = (j : Int) := by omega
        have r9 : (j : Int) < kl := by omega
        have q3 : ¬ ((len3 + 1 : Nat) : Int) = 0 := by omega
        generalize len3 + 1 = le3 at *
        have HI := hide hi0
        have HJ := hide hj
        have r8 : ¬ (fb (gt K i).1 : Int) ≤ (fb (gt K j).1 : Int) := by omega
        generalize hfi : fb (gt K i).1 = fi at *
        generalize hfj : fb (gt K j).1 = fj at *
        have HFI := hide hfi
        clear hj hup hfi hfj
        go_wp2
        have d1 : ((le : Int) == 0) = false := by simp; omega
        have d4 : decide ((0 : Int) < i) = true := decide_eq_true (by have := unhide HI; omega)
        have d4' : decide (0 < i) = true := decide_eq_true (unhide HI)
        have d5 : decide ((fi : Int) ≤ fj) = false := decide_eq_false (by omega)
        have d5' : decide (fi ≤ fj) = false := decide_eq_false (by omega)
        go_big_quiet (fail)
        have hfi := unhide HFI
        subst hfi
        clear HFI
        go_wp2_with fail
        go_loopw [8] (fun v wr => ∃ k q' : Nat, k ≤ kl ∧ v = .int .i64 k ∧ w1.drewN q' = wr) (fun v _ => kl - (intOf v).toNat)
        case atStart => exact ⟨0, _, by omega, rfl, by first | rfl | exact (World.drewN_drewN _ _ _).symm | exact World.drewN_drewN _ _ _⟩
        case round =>
          obtain ⟨k, q', hk, rfl, rfl⟩ := hrel
          by_cases hkl : k < kl
          · have r1 : (k : Int) < kl := by omega
            by_cases hki : k = i
            · subst hki
              go_wp2
              go_big_quiet (fail)
              go_wp2
              go_roundw
              case rel => exact ⟨k + 1, _, by omega, by go_num, by first | rfl | exact (World.drewN_drewN _ _ _).symm | exact World.drewN_drewN _ _ _⟩
              case measure => simp [intOf]; omega
            · obtain ⟨g2, o2, gb2, ob2, cc2, len2, e2, f0, f1, fI, fl⟩ := unhide HROW k hkl
              simp only [Option.some.injEq, Addr.mk.injEq, and_true] at e2
              obtain ⟨rfl, rfl⟩ := e2
              have hh : Hid (∀ x, Calls Tryd.prog 25 #[.slice (some ⟨gb2, ob2, none⟩) (len2 + 1) cc2, .int .i64 (fb (gt K i).1 : Nat)] (w1.drewN (q' + x)) fun e w'' => e = .returned (.bool false) ∧ ∃ m, w'' = w1.drewN (q' + m)) := fun x => by
                have h := ghas_any (zs (numsR n (gt K k).1)) ((fb (gt K i).1 : Nat) : Int) (some ⟨gb2, ob2, none⟩) cc2 (by rw [zs_length, fl]; have := numsR_len n (gt K k).1; unfold maxLen; omega) (w1.drewN (q' + x)) (fI.below ⟨rfl, rfl, rfl, Nat.le_refl _, fun _ _ => rfl⟩)
                rw [zs_length, fl, decide_eq_false (fun hm => by
                  have h1 := (numsR_mem.1 (mem_zs.1 hm)).2
                  rw [unhide HNO k hkl hki] at h1
                  cases h1)] at h
                exact h.mono fun _ _ ⟨he, hw⟩ => ⟨he, x, hw.symm⟩
              generalize len2 + 1 = le2 at *
              have d5 : ¬ (k : Int) = i := by omega
              have d6 : ((k : Int) == i) = false := by simp; omega
              generalize fb (gt K i).1 = fi at *
              clear fI fl
              go_wp2
              have d7 : ((k : Int) != (i : Int)) = true := by simp; omega
              go_big_quiet ((go_at_call 25; exact unhide hh _))
              go_wp2
              go_roundw
              case rel => exact ⟨k + 1, _, by omega, by go_num, by first | rfl | exact (World.drewN_drewN _ _ _).symm | exact World.drewN_drewN _ _ _⟩
              case measure => simp [intOf]; omega
          · have r1 : ¬ (k : Int) < kl := by omega
            go_wp2
            go_roundw
            case rel => exact ⟨i + 1, _, by omega, by go_num, rfl⟩
            case measure => simp [intOf]; omega
      · have HI0 := hide hi0
        have d3' : ¬ (0 : Int) < i := by omega
        go_wp2
        have d1 : ((le : Int) == 0) = false := by simp; omega
        have d3 : decide ((0 : Int) < i) = false := decide_eq_false (by have := unhide HI0; omega)
        have d4 : decide (0 < i) = false := decide_eq_false (unhide HI0)
        go_big_quiet (fail)
        go_wp2_with fail
        go_loopw [8] (fun v wr => ∃ k q' : Nat, k ≤ kl ∧ v = .int .i64 k ∧ w1.drewN q' = wr) (fun v _ => kl - (intOf v).toNat)
        case atStart => exact ⟨0, _, by omega, rfl, by first | rfl | exact (World.drewN_drewN _ _ _).symm | exact World.drewN_drewN _ _ _⟩
        case round =>
          obtain ⟨k, q', hk, rfl, rfl⟩ := hrel
          by_cases hkl : k < kl
          · have r1 : (k : Int) < kl := by omega
            by_cases hki : k = i
            · subst hki
              go_wp2
              go_big_quiet (fail)
              go_wp2
              go_roundw
              case rel => exact ⟨k + 1, _, by omega, by go_num, by first | rfl | exact (World.drewN_drewN _ _ _).symm | exact World.drewN_drewN _ _ _⟩
              case measure => simp [intOf]; omega
            · obtain ⟨g2, o2, gb2, ob2, cc2, len2, e2, f0, f1, fI, fl⟩ := unhide HROW k hkl
              simp only [Option.some.injEq, Addr.mk.injEq, and_true] at e2
              obtain ⟨rfl, rfl⟩ := e2
              have hh : Hid (∀ x, Calls Tryd.prog 25 #[.slice (some ⟨gb2, ob2, none⟩) (len2 + 1) cc2, .int .i64 (fb (gt K i).1 : Nat)] (w1.drewN (q' + x)) fun e w'' => e = .returned (.bool false) ∧ ∃ m, w'' = w1.drewN (q' + m)) := fun x => by
                have h := ghas_any (zs (numsR n (gt K k).1)) ((fb (gt K i).1 : Nat) : Int) (some ⟨gb2, ob2, none⟩) cc2 (by rw [zs_length, fl]; have := numsR_len n (gt K k).1; unfold maxLen; omega) (w1.drewN (q' + x)) (fI.below ⟨rfl, rfl, rfl, Nat.le_refl _, fun _ _ => rfl⟩)
                rw [zs_length, fl, decide_eq_false (fun hm => by
                  have h1 := (numsR_mem.1 (mem_zs.1 hm)).2
                  rw [unhide HNO k hkl hki] at h1
                  cases h1)] at h
                exact h.mono fun _ _ ⟨he, hw⟩ => ⟨he, x, hw.symm⟩
              generalize len2 + 1 = le2 at *
              have d5 : ¬ (k : Int) = i := by omega
              have d6 : ((k : Int) == i) = false := by simp; omega
              generalize fb (gt K i).1 = fi at *
              clear fI fl
              go_wp2
              have d7 : ((k : Int) != (i : Int)) = true := by simp; omega
              go_big_quiet ((go_at_call 25; exact unhide hh _))
              go_wp2
              go_roundw
              case rel => exact ⟨k + 1, _, by omega, by go_num, by first | rfl | exact (World.drewN_drewN _ _ _).symm | exact World.drewN_drewN _ _ _⟩
              case measure => simp [intOf]; omega
          · have r1 : ¬ (k : Int) < kl := by omega
            go_wp2
            go_roundw
            case rel => exact ⟨i + 1, _, by omega, by go_num, rfl⟩
            case measure => simp [intOf]; omega
    · have q1 : ¬ (i : Int) < kl := by omega
      have hB2 : Below w1.heap.size w1 (w1.drewN q) := ⟨rfl, rfl, rfl, Nat.le_refl _, fun _ _ => rfl⟩
      have HB2 := hide hB2
      clear hB2
      go_wp2_with fail
      go_loopw [9] (fun v wr => ∃ i : Nat, i ≤ m ∧ v = .int .i64 i ∧ Below w1.heap.size w1 wr) (fun v _ => m - (intOf v).toNat)
      case atStart => exact ⟨0, by omega, rfl, unhide HB2⟩
      case round =>
        obtain ⟨t, ht, rfl, hW⟩ := hrel
        have hz1 := (unhide B1).size
        by_cases htl : t < m
        · obtain ⟨g, o, b, cc, rfl, c0, hI, hmem⟩ := unhide HRow t htl
          have r1 : (t : Int) < m := by omega
          obtain ⟨hnr, hrb⟩ := unhide HNR _ hmem
          have hac := unhide HACC _ hmem
          generalize hrr : R.getD t [] = r at *
          have hw0 : ∀ W, Below w1.heap.size w1 W → Below w.heap.size w W := fun W h => (unhide B1).trans (h.mono hz1)
          have HW0 := hide hw0
          have c1 := cell_below c0 (hw0 _ hW)
          have HI := hide hI
          have HW := hide hW
          have HC0 := hide c0
          have HAC := hide hac
          have HRB := hide hrb
          have hrl : r.length ≤ 160 := by rw [← hnr]; have := numsR_len n (rowN r); omega
          have HNR0 := hide hnr
          clear hI hW c0 hac hrb hnr hmem hrr hw0
          go_wp2_with fail
          go_loopw [10, 11] (fun v u wr2 => ∃ k : Nat, k ≤ kl ∧ u = .int .i64 k ∧ ∃ xa xc, v = .slice xa (numsR n (accN (rowN r) (K.take k))).length xc ∧ Ints wr2 xa (zs (numsR n (accN (rowN r) (K.take k)))) ∧ Below w1.heap.size w1 wr2) (fun _ u _ => kl - (intOf u).toNat)
          case atStart =>
            refine ⟨0, by omega, rfl, b, cc, ?_, ?_, unhide HW⟩
            · show _ = Value.slice b (numsR n (rowN r)).length cc
              rw [unhide HNR0]
            · show Ints _ b (zs (numsR n (rowN r)))
              rw [unhide HNR0]
              exact (unhide HI).below (unhide HW0 _ (unhide HW))
          case round =>
            obtain ⟨k, hk, rfl, xa, xc, rfl, hx, hW2⟩ := hrel
            by_cases hkl : k < kl
            · obtain ⟨g2, o2, gb2, ob2, cc2, len2, rfl, f0, f1, fI, fl⟩ := unhide HROW k hkl
              have hkK : k < K.length := by rw [unhide HKL]; exact hkl
              have e0 := cell_below (unhide HC0) (unhide HW0 _ hW2)
              have e1 := cell_below f0 hW2
              have e2 := cell_below f1 hW2
              have HI2 := hide (fI.below hW2)
              have hh : Hid (∀ x, Calls Tryd.prog 25 #[.slice b r.length cc, .int .i64 (fb (gt K k).1 : Nat)] (World.drewN _ x) fun e w'' => e = .returned (.bool ((rowN r).testBit (fb (gt K k).1))) ∧ ∃ m, w'' = World.drewN _ m) := fun x => by
                have h := ghas_any (zs r) ((fb (gt K k).1 : Nat) : Int) b cc (by rw [zs_length]; unfold maxLen; omega) (World.drewN _ x) (((unhide HI).below (unhide HW0 _ hW2)).below ⟨rfl, rfl, rfl, Nat.le_refl _, fun _ _ => rfl⟩)
                rw [zs_length, show decide (((fb (gt K k).1 : Nat) : Int) ∈ zs r) = (rowN r).testBit (fb (gt K k).1) by rw [rowN_bit]; simp [mem_zs]] at h
                exact h.mono fun _ _ ⟨he, hw⟩ => ⟨he, x, hw.symm⟩
              have HS := hide (accN_succ (rowN r) K k hkK)
              have hal : accN (rowN r) (K.take k) < 2 ^ n := accN_lt _ (fun x hx => unhide HBD x (List.mem_of_mem_take hx)) _ (unhide HRB)
              have hgl := unhide HBD _ (gt_mem hkK)
              have HAD : Hid (∀ W, Below _ _ W → Calls Tryd.prog 26 #[.int .i64 n, .slice xa (numsR n (accN (rowN r) (K.take k))).length xc, .slice (some ⟨gb2, ob2, none⟩) (len2 + 1) cc2] W fun e w' => ∃ v, e = .returned v ∧ w'.ownsRow W.heap.size 3 1 v (numsR n (accN (rowN r) (K.take k) ^^^ (gt K k).1)).length (ic (zs (numsR n (accN (rowN r) (K.take k) ^^^ (gt K k).1)))) ∧ Below W.heap.size W w') := fun W hb => by
                have h := radd_any n (numsR n (accN (rowN r) (K.take k))) (numsR n (gt K k).1) xa (some ⟨gb2, ob2, none⟩) xc cc2 h160 (by have := numsR_len n (accN (rowN r) (K.take k)); omega) (by have := numsR_len n (gt K k).1; omega) W (hx.below hb) ((unhide HI2).below hb)
                rw [rowN_nums hal, rowN_nums hgl, fl] at h
                exact h
              have HX := hide hx
              have HW2 := hide hW2
              have q3 : ¬ ((len2 + 1 : Nat) : Int) = 0 := by omega
              have r2 : (k : Int) < kl := by omega
              generalize len2 + 1 = le2 at *
              generalize hxl : (numsR n (accN (rowN r) (K.take k))).length = xl at *
              have HXL := hide hxl
              generalize r.length = rl at *
              clear hx hW2 fI fl f0 f1 hal hgl hkK hxl
              cases hb : (rowN r).testBit (fb (gt K k).1) with
              | true =>
                rw [hb] at hh HS
                rw [if_pos rfl] at HS
                generalize fb (gt K k).1 = fk at *
                generalize hA2 : accN (rowN r) (K.take k) ^^^ (gt K k).1 = A2 at *
                clear hb hA2
                go_wp2
                go_big_quiet ((go_at_call 25; exact unhide hh _))
                go_wp2_with fail
                have hd : Below wr.heap.size wr (wr.drewN nq) := ⟨rfl, rfl, rfl, Nat.le_refl _, fun _ _ => rfl⟩
                refine (unhide HAD (wr.drewN nq) hd).mono ?_
                rintro e w5 ⟨v5, rfl, hO5, b5⟩
                obtain ⟨ya, yc, rfl, hy⟩ := ints_own (r := zs (numsR n A2)) (by rw [zs_length]; exact hO5)
                have HY := hide hy
                have b5' : Below wr.heap.size (wr.drewN nq) w5 := b5
                have HW5 := hide ((unhide HW2).trans ((hd.trans b5').mono (unhide HW2).size))
                clear hO5 b5 b5' hy hd
                rw [zs_length]
                go_wp2
                go_roundw
                case rel => exact ⟨k + 1, by omega, by go_num, ya, yc, by rw [unhide HS], by rw [unhide HS]; exact unhide HY, unhide HW5⟩
                case measure => simp [intOf]; omega
              | false =>
                rw [hb] at hh HS
                rw [if_neg (by simp)] at HS
                generalize fb (gt K k).1 = fk at *
                clear hb
                go_wp2
                go_big_quiet ((go_at_call 25; exact unhide hh _))
                go_wp2
                go_roundw
                case rel => exact ⟨k + 1, by omega, by go_num, xa, xc, by rw [unhide HS, unhide HXL], by rw [unhide HS]; exact (unhide HX).below ⟨rfl, rfl, rfl, Nat.le_refl _, fun _ _ => rfl⟩, (unhide HW2).trans ⟨rfl, rfl, rfl, Nat.le_refl _, fun _ _ => rfl⟩⟩
                case measure => simp [intOf]; omega
            · have hkk : k = kl := by omega
              subst hkk
              have e9 : numsR n (accN (rowN r) (K.take k)) = [] := by
                rw [List.take_of_length_le (by rw [unhide HKL]; exact Nat.le_refl _), unhide HAC]
                unfold numsR
                rw [List.filter_eq_nil_iff]
                simp
              rw [e9]
              have r2 : ¬ (k : Int) < k := by omega
              have HW2 := hide hW2
              clear hx hW2 e9
              rw [List.length_nil]
              go_wp2
              go_roundw
              case rel => exact ⟨t + 1, by omega, by go_num, unhide HW2⟩
              case measure => simp [intOf]; omega
        · have r1 : ¬ (t : Int) < m := by omega
          have hBW := (unhide B1).trans (hW.mono hz1)
          have hR2 := hide (unhide hred2 _ la lc' hBW ((unhide HLA).below hW))
          rw [unhide HLL] at hR2
          have HBW := hide hBW
          have HLW := hide ((unhide HLA).below hW)
          have q5 : (kl : Int) ≤ m := by omega
          have q6 : (kl : Int) ≤ n := by omega
          clear hBW hW
          go_wp2_with fail
          refine (unhide hR2).mono ?_
          rintro e w6 ⟨v6, rfl, hO6, b6⟩
          obtain ⟨ya, yc, rfl, hy⟩ := hO6.rows
          rw [unhide HLL]
          have HB6 := hide ((unhide HBW).trans (b6.mono (unhide HBW).size))
          have HL6 := hide ((unhide HLW).below b6)
          have HY6 := hide hy
          clear hO6 b6 hy
          go_wp2_with fail
          refine (unhide haw _ (unhide HB6)).mono ?_
          rintro e w7 ⟨rfl, b7⟩
          have HB7 := hide ((unhide HB6).trans (b7.mono (unhide HB6).size))
          have hsm := hide (sameRows_any LL la ya lc' yc (by rw [unhide HLL]; omega) (unhide hsl) w7 ((unhide HL6).below b7) ((unhide HY6).below b7))
          rw [unhide HLL] at hsm
          clear b7
          go_wp2_with fail
          refine (unhide hsm).mono ?_
          rintro e w8 ⟨rfl, b8⟩
          have HB8 := hide ((unhide HB7).trans (b8.mono (unhide HB7).size))
          clear b8
          go_wp2
          go_ret
          exact ⟨rfl, unhide HB8⟩
theorem gaussForm_law (n : Int) (a0 : Option Addr) (Rs : List (List Int)) (c : Nat) (w : World) (hn : (Lit.int .i64 n).wf = true) (hI : RowsA w a0 Rs) (hO : RowsOk Rs a0 c) (hT : Tz w) :
    Calls Tryd.prog 5 #[.int .i64 n, .slice a0 Rs.length c] w fun e w' => e = .returned (.bool true) ∧ Below w.heap.size w w' := by
  by_cases h : fewB n Rs = true ∧ mayB n Rs = true
  · obtain ⟨k, R, rfl, hR⟩ := may_rws h.2
    exact gaussForm_on k Rs R hR a0 c w hT hI hO h.1
  · refine gaussForm_off n Rs a0 c w hT (wf64 hn) hI hO ?_
    cases h1 : fewB n Rs with
    | false => exact .inl rfl
    | true =>
      refine .inr ?_
      cases h2 : mayB n Rs with
      | false => rfl
      | true => exact absurd ⟨h1, h2⟩ h
end Go.Proofs.YtpcndjnhpjhjkaaDoor

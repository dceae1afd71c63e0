/- Contracts of merkle's foldFault, climbed, Fold, Check, Climb. Contract of merkle's climbed. Contracts of merkle's Fold, Check, Climb, Road. -/
import Derived.Test.YtiaohpkcncbdnabMkTt
import Derived.Laws.AppendOwnNone
namespace Go.Proofs.Ytiaohpkcncbdnab
open Go.RowKit
set_option linter.unusedVariables false

/-- whether there is an i-th of n -/
def there (n i : Int) : Bool := decide (1 ≤ n ∧ n ≤ 256 ∧ 0 ≤ i ∧ i < n)
/-- how long its path is, or -1 -/
def depI (n i : Int) : Int := if there n i = true then ((plan n.toNat i.toNat).length : Nat) else -1
/-- why a digest can't be folded by a path -/
def foldE (n i : Int) (d : By) (path : List By) : Nat := if depI n i < 0 ∨ d.length ≠ 32 then 1 else if (path.length : Int) ≠ depI n i then 3 else if ∀ p ∈ path, p.length = 32 then 0 else 3
theorem there_of {n i : Int} (h : there n i = true) : 1 ≤ n ∧ n ≤ 256 ∧ 0 ≤ i ∧ i < n := of_decide_eq_true h
theorem depI_pos {n i : Int} (h : there n i = true) : depI n i = ((plan n.toNat i.toNat).length : Nat) := by unfold depI; rw [if_pos h]
theorem depI_neg {n i : Int} (h : there n i = false) : depI n i = -1 := by unfold depI; rw [if_neg (by rw [h]; simp)]
theorem depI_bound (n i : Int) : -1 ≤ depI n i ∧ depI n i ≤ 8 := by
  cases h : there n i with
  | true =>
    obtain ⟨h1, h2, h3, h4⟩ := there_of h
    have := plan_length n.toNat i.toNat 8 (by omega) (by omega)
    rw [depI_pos h]
    omega
  | false => rw [depI_neg h]; omega
theorem mdepth_any (n i : Int) (w : World) : Calls Try.prog 36 #[.int .i64 n, .int .i64 i] w fun e w' => e = .returned (.int .i64 (depI n i)) ∧ w = w' := by
  cases h : there n i with
  | true =>
    obtain ⟨h1, h2, h3, h4⟩ := there_of h
    rw [depI_pos h]
    have := depth_any n.toNat i.toNat w (by omega) (by omega) (by omega)
    rwa [show ((n.toNat : Nat) : Int) = n by omega, show ((i.toNat : Nat) : Int) = i by omega] at this
  | false =>
    rw [depI_neg h]
    have : ¬ (1 ≤ n ∧ n ≤ 256 ∧ 0 ≤ i ∧ i < n) := of_decide_eq_false h
    exact depth_bad n i w (by omega)
theorem foldE_ok {n i : Int} {d : By} {path : List By} (h : foldE n i d path = 0) : there n i = true ∧ d.length = 32 ∧ path.length = (plan n.toNat i.toNat).length ∧ ∀ p ∈ path, p.length = 32 := by
  unfold foldE at h
  split at h
  · cases h
  rename_i h1
  split at h
  · cases h
  rename_i h2
  split at h
  · rename_i h3
    cases ht : there n i with
    | false => rw [depI_neg ht] at h1; omega
    | true =>
      rw [depI_pos ht] at h2
      exact ⟨rfl, by omega, by omega, h3⟩
  · cases h
theorem foldE_cases (n i : Int) (d : By) (path : List By) : foldE n i d path = 0 ∨ foldE n i d path = 1 ∨ foldE n i d path = 3 := by
  unfold foldE
  split
  · exact .inr (.inl rfl)
  split
  · exact .inr (.inr rfl)
  split
  · exact .inl rfl
  · exact .inr (.inr rfl)

set_option maxRecDepth 100000 in
set_option maxHeartbeats 1000000 in
theorem foldFault_any (n i : Int) (d : By) (path : List By) (a0 : Option Addr) (c : Nat) (w : World) (hT : Txts w a0 path) (h1 : path.length ≤ 100000) (h2 : ∀ p ∈ path, p.length ≤ 100000) (h3 : d.length ≤ 100000) :
    Calls Try.prog 25 #[.int .i64 n, .int .i64 i, .string (bs d), .slice a0 path.length c] w fun e w' => e = .returned (.int .i64 (foldE n i d path)) ∧ w = w' := by
  have hdp := hide (fun w => mdepth_any n i w)
  have hdb := depI_bound n i
  have hE : foldE n i d path = if depI n i < 0 ∨ d.length ≠ 32 then 1 else if (path.length : Int) ≠ depI n i then 3 else if ∀ p ∈ path, p.length = 32 then 0 else 3 := rfl
  have hds := bs_size d
  generalize foldE n i d path = E at *
  generalize depI n i = D at *
  by_cases c1 : D < 0
  · rw [if_pos (.inl c1)] at hE
    subst hE
    clear hT h2
    have q0 : decide (D < 0) = true := decide_eq_true c1
    generalize bs d = B at *
    generalize path.length = m at *
    go_enter Try.func25, Try.ntmps25
    go_wp2_with fail
    refine (unhide hdp _).mono ?_
    rintro e w1 ⟨rfl, rfl⟩
    go_wp2
    go_ret
    exact ⟨rfl, rfl⟩
  have q0 : decide (D < 0) = false := decide_eq_false c1
  by_cases c2 : d.length = 32
  case neg =>
    rw [if_pos (.inr c2)] at hE
    subst hE
    have q1 : ((bs d).size : Int) ≠ 32 := by omega
    have q2 : (bs d).size ≠ 32 := by omega
    have q3 : (bs d).size ≤ 100000 := by omega
    clear hT h2 hds c2 h3
    generalize bs d = B at *
    generalize path.length = m at *
    go_enter Try.func25, Try.ntmps25
    go_wp2_with fail
    refine (unhide hdp _).mono ?_
    rintro e w1 ⟨rfl, rfl⟩
    go_wp2
    go_ret
    exact ⟨rfl, rfl⟩
  rw [if_neg (by omega)] at hE
  have q1 : ((bs d).size : Int) = 32 := by omega
  clear hds c2 h3
  generalize bs d = B at *
  by_cases c3 : (path.length : Int) = D
  case neg =>
    rw [if_pos c3] at hE
    subst hE
    clear hT h2
    generalize path.length = m at *
    go_enter Try.func25, Try.ntmps25
    go_wp2_with fail
    refine (unhide hdp _).mono ?_
    rintro e w1 ⟨rfl, rfl⟩
    go_wp2
    go_ret
    exact ⟨rfl, rfl⟩
  rw [if_neg (fun h => h c3)] at hE
  have HE := hide hE
  have HT := hide hT
  have H2 := hide h2
  subst c3
  generalize hm : path.length = m at *
  have HM := hide hm
  clear hE hT h2 hm
  go_enter Try.func25, Try.ntmps25
  go_wp2_with fail
  refine (unhide hdp _).mono ?_
  rintro e w1 ⟨rfl, rfl⟩
  go_wp2_with fail
  go_loopw [28] (fun v wr => w = wr ∧ ∃ k : Nat, k ≤ m ∧ v = .int .i64 k ∧ ∀ s ∈ path.take k, s.length = 32) (fun v _ => m - (intOf v).toNat)
  case atStart => exact ⟨rfl, 0, Nat.zero_le _, rfl, by simp⟩
  case round =>
    obtain ⟨rfl, k, hk, rfl, ha⟩ := hrel
    by_cases hlt : k < m
    · have hlt' : k < path.length := by rw [unhide HM]; exact hlt
      obtain ⟨g, o, rfl, hc0⟩ := unhide HT k hlt'
      have q2 : (k : Int) < m := by omega
      have hB := bs_size path[k]
      have hB2 := unhide H2 path[k] (List.getElem_mem hlt')
      by_cases hl : path[k].length = 32
      · have HA : Hid (∀ s ∈ path.take (k + 1), s.length = 32) := by
          intro s hs
          rw [List.take_succ_eq_append_getElem hlt', List.mem_append] at hs
          rcases hs with hs | hs
          · exact ha s hs
          · simp at hs; rw [hs]; exact hl
        have q3 : ((bs path[k]).size : Int) = 32 := by omega
        generalize bs path[k] = S at *
        clear ha hB2 hB hl hlt'
        go_wp2
        go_roundw
        case rel => exact ⟨trivial, k + 1, by omega, by go_num, unhide HA⟩
        case measure => simp [intOf]; omega
      · have hn : ¬ ∀ p ∈ path, p.length = 32 := fun h => hl (h _ (List.getElem_mem hlt'))
        have hE := unhide HE
        rw [if_neg hn] at hE
        have HE3 := hide hE
        have q3 : ((bs path[k]).size : Int) ≠ 32 := by omega
        have q4 : (bs path[k]).size ≠ 32 := by omega
        have q5 : (bs path[k]).size ≤ 100000 := by omega
        generalize bs path[k] = S at *
        clear ha hB2 hB hl hlt' hn hE
        go_wp2
        go_ret
        exact ⟨by rw [unhide HE3]; rfl, rfl⟩
    · have hkm : k = m := by omega
      have hall : ∀ p ∈ path, p.length = 32 := by
        have := ha
        rwa [hkm, ← unhide HM, List.take_length] at this
      have hE := unhide HE
      rw [if_pos hall] at hE
      have HE3 := hide hE
      have q2 : ¬ (k : Int) < m := by omega
      clear ha hkm hall hE
      go_wp2
      go_ret
      exact ⟨by rw [unhide HE3]; rfl, rfl⟩

end Go.Proofs.Ytiaohpkcncbdnab
namespace Go.Proofs.Ytiaohpkcncbdnab
open Go.RowKit
set_option linter.unusedVariables false

theorem planN_grow (j k n i : Nat) : (planN j n i).length ≤ (planN (j + k) n i).length := by
  induction k with
  | zero => exact Nat.le_refl _
  | succ k ih =>
    refine Nat.le_trans ih ?_
    show _ ≤ (planN (j + k) n i ++ _).length
    rw [List.length_append]
    omega
theorem planN_upto (j n i : Nat) (h : j ≤ 8) (hn : n ≤ 256) (hi : i < n) : (planN j n i).length ≤ (plan n i).length := by
  have := planN_grow j (8 - j) n i
  rwa [show j + (8 - j) = 8 by omega, planN_plan 8 n i hi hn] at this
theorem planN_done (j n i : Nat) (hi : i < n) (h : ¬ 1 < cl j n) : planN j n i = plan n i := by
  refine planN_plan j n i hi ?_
  rcases Nat.lt_or_ge (2 ^ j) n with h' | h'
  · exact absurd (cl_gt j n h') h
  · exact h'
theorem take_more {α : Type} (l : List α) (L : Nat) (h : L < l.length) : l.take (L + 1) = l.take L ++ [l[L]] := List.take_succ_eq_append_getElem h

set_option maxRecDepth 100000 in
set_option maxHeartbeats 4000000 in
theorem climbed_any (n i : Nat) (d : By) (path : List By) (a0 : Option Addr) (c : Nat) (w : World) (hT : Txts w a0 path) (hc : path.length ≤ c) (hcm : c ≤ maxLen) (h1 : 1 ≤ n) (h2 : n ≤ 256) (h3 : i < n) (hl : path.length = (plan n i).length) (hp : ∀ p ∈ path, p.length = 32) (hd : d.length = 32) :
    Calls Try.prog 26 #[.int .i64 n, .int .i64 i, .string (bs d), .slice a0 path.length c] w fun e w' => ∃ v, e = .returned (.tuple #[.string (bs (climbP shaSum (plan n i) d path).1), v]) ∧ OwnS w' w.heap.size v (climbP shaSum (plan n i) d path).2 ∧ Below w.heap.size w w' := by
  obtain ⟨i0, hi0, hz0, hz1, hz2⟩ := info_parts Try.infoS
  have hm8 := plan_length n i 8 h3 h2
  have HT := hide hT
  have HP := hide hp
  have HLL := hide hl
  have hm : path.length ≤ 8 := by omega
  clear hT hp hl hm8
  unfold maxLen at hcm
  go_enter Try.func26, Try.ntmps26
  go_wp2_with fail
  go_loopw [0, 1, 2, 3, 9] (fun nv iv dv pv tv wr => ∃ (j : Nat) (ap : Option Addr), j ≤ 8 ∧ nv = .int .i64 (cl j n : Nat) ∧ iv = .int .i64 (i / 2 ^ j : Nat) ∧ dv = .string (bs (climbP shaSum (planN j n i) d (path.take (planN j n i).length)).1) ∧ pv = .slice ap (path.length - (planN j n i).length) (c - (planN j n i).length) ∧ ((planN j n i).length < path.length → ∃ g o, a0 = some ⟨g, o, none⟩ ∧ ap = some ⟨g, o + (planN j n i).length, none⟩) ∧ OwnS wr w.heap.size tv (climbP shaSum (planN j n i) d (path.take (planN j n i).length)).2 ∧ (climbP shaSum (planN j n i) d (path.take (planN j n i).length)).1.length = 32 ∧ Below w.heap.size w wr) (fun nv _ _ _ _ _ => (intOf nv).toNat)
  case atStart =>
    refine ⟨0, a0, by omega, rfl, by simp, by simp [planN, climbP], by simp [planN], fun h => ?_, by simp [planN, climbP]; exact World.ownsRow_nil _ _ _ _, by simpa [planN, climbP] using hd, Below.refl _ _⟩
    obtain ⟨g, o, h', _⟩ := unhide HT 0 (by simpa [planN] using h)
    exact ⟨g, o, h', by simp [planN, h']⟩
  case round =>
    obtain ⟨j, ap, hj, rfl, rfl, rfl, rfl, hap, hown, hlen, hb⟩ := hrel
    obtain ⟨at9, c9, rfl⟩ := own_shapeN (show World.ownsRow _ _ _ _ _ _ _ from hown)
    have hzs := hb.size
    have hup := planN_upto j n i hj h2 h3
    rw [← unhide HLL] at hup
    have hI : i / 2 ^ j < 256 := Nat.lt_of_le_of_lt (Nat.div_le_self _ _) (by omega)
    have hcb := cl_le j n
    by_cases hlt : 1 < cl j n
    · have hj8 : j < 8 := by
        rcases Nat.lt_or_ge j 8 with h | h
        · exact h
        · rw [cl_one j n h1 (Nat.le_trans h2 (pow_mono8 h))] at hlt
          omega
      have hpa := hide (fun w => partner_any (cl j n) (i / 2 ^ j) w (by omega) (by omega))
      have hI2 : Hid (i / 2 ^ (j + 1) = i / 2 ^ j / 2) := by
        show _ = _
        rw [Nat.pow_succ, Nat.div_div_eq_div_mul]
      have hc2 : Hid (cl (j + 1) n = (cl j n + 1) / 2) := rfl
      obtain ⟨I2, hI2e⟩ : ∃ I2, I2 = i / 2 ^ j / 2 := ⟨_, rfl⟩
      obtain ⟨c2, hc2e⟩ : ∃ c2, c2 = (cl j n + 1) / 2 := ⟨_, rfl⟩
      rw [← hI2e] at hI2
      rw [← hc2e] at hc2
      have hst : Hid (planN (j + 1) n i = planN j n i ++ (if pt (i / 2 ^ j) < cl j n then [decide ((i / 2 ^ j) % 2 = 1)] else [])) := rfl
      have hup2 := planN_upto (j + 1) n i (by omega) h2 h3
      rw [← unhide HLL] at hup2
      by_cases hlt2 : pt (i / 2 ^ j) < cl j n
      · rw [if_pos hlt2] at hst
        rw [unhide hst, List.length_append, List.length_singleton] at hup2
        obtain ⟨g, o, rfl, rfl⟩ := hap (by omega)
        have hcell : ∃ h : (planN j n i).length < path.length, wr.cell? ⟨g, o + (planN j n i).length, none⟩ = some (.string (bs path[(planN j n i).length])) := by
          refine ⟨by omega, ?_⟩
          obtain ⟨g', o', eg, hcc⟩ := ((unhide HT).below hb) _ (show (planN j n i).length < path.length by omega)
          simp only [Option.some.injEq, Addr.mk.injEq, and_true] at eg
          obtain ⟨rfl, rfl⟩ := eg
          exact hcc
        obtain ⟨hLm, y1⟩ := hcell
        have hx32 := unhide HP _ (List.getElem_mem hLm)
        have hsn : Hid (climbP shaSum (planN (j + 1) n i) d (path.take (planN (j + 1) n i).length) = knotS shaSum (climbP shaSum (planN j n i) d (path.take (planN j n i).length)) (decide ((i / 2 ^ j) % 2 = 1), path[(planN j n i).length])) := by
          show _ = _
          rw [unhide hst, List.length_append, List.length_singleton, take_more path _ hLm, climbP_snoc]
          rw [List.length_take]
          omega
        have hln : Hid ((planN (j + 1) n i).length = (planN j n i).length + 1) := by
          show _ = _
          rw [unhide hst, List.length_append]; rfl
        rw [show decide (pt (i / 2 ^ j) < cl j n) = true from decide_eq_true hlt2] at hpa
        have hTl : (climbP shaSum (planN j n i) d (path.take (planN j n i).length)).2.length ≤ 8 := by
          rw [climbP_len shaSum _ _ _ (by rw [List.length_take]; omega), List.length_take]
          omega
        generalize climbP shaSum (planN j n i) d (path.take (planN j n i).length) = P at *
        generalize hxx : path[(planN j n i).length] = x at *
        generalize (planN j n i).length = L at *
        clear hxx hst hap
        obtain ⟨D, T⟩ := P
        simp only at hown hlen hTl ⊢
        obtain ⟨M, hM⟩ : ∃ M, M = path.length - L := ⟨_, rfl⟩
        obtain ⟨C, hC⟩ : ∃ C, C = c - L := ⟨_, rfl⟩
        rw [← hM, ← hC]
        have m1 : 1 ≤ M ∧ M ≤ C ∧ C ≤ 9223372036854775807 := by omega
        have hq : ((i / 2 ^ j : Nat) : Int).tdiv 2 = I2 := by rw [hI2e]; rfl
        have hq2 : ((cl j n : Int) + 1).tdiv 2 = c2 := by rw [hc2e]; rfl
        have hI2b : I2 < 256 := by omega
        have hc2b : c2 ≤ 256 ∧ c2 < cl j n := by omega
        have k1 := hide (fun w => knotText_any D x w (by omega) (by omega))
        have k2 := hide (fun w => knotText_any x D w (by omega) (by omega))
        have k3 := hide (fun w => msum_any (knotT D x) w (by simp [knotT]; omega))
        have k4 := hide (fun w => msum_any (knotT x D) w (by simp [knotT]; omega))
        have HO := hide (show World.ownsRow _ _ _ _ _ _ _ from hown)
        have HB := hide hb
        have HM := hide hM
        have HCe := hide hC
        clear hM hC hown hb
        have hpt : Hid (pt (i / 2 ^ j) = if (i / 2 ^ j) % 2 = 0 then (i / 2 ^ j) + 1 else (i / 2 ^ j) - 1) := rfl
        by_cases hodd : (i / 2 ^ j) % 2 = 1
        · rw [decide_eq_true hodd] at hsn
          have hjI : (pt (i / 2 ^ j) : Int) < ((i / 2 ^ j : Nat) : Int) := by
            have := unhide hpt
            rw [if_neg (by omega)] at this
            omega
          have hjN : decide (pt (i / 2 ^ j) < i / 2 ^ j) = true := decide_eq_true (by omega)
          clear hpt
          generalize cl j n = cc at *
          generalize i / 2 ^ j = I at *
          generalize pt I = J at *
          go_wp2_with fail
          refine (unhide hpa _).mono ?_
          rintro e w1 ⟨rfl, rfl⟩
          go_wp2_with fail
          go_region
          go_wp2_with fail
          refine (unhide k2 _).mono ?_
          rintro e w1 ⟨rfl, rfl⟩
          generalize hKT : knotT x D = KT at *
          have HKT := hide hKT
          clear hKT
          go_wp2_with (at_builtin; refine wpList_append_own _ rfl _ _ 22 rfl w.heap.size 9 i0 (.string ⟨#[]⟩) 1 16 Try.undS hi0 hz0 hz1 hz2 rfl (by decide) _ _ _ rfl ((unhide HO).alloc _) ⟨wr.heap.size, 0, none⟩ 1 1 [.string (bs KT)] rfl rfl (news_one' _ _ _) ?d2 ?d3 ?d4 ?d5 ?_)
          case d2 => first | rfl | (intro u hu; simp at hu; subst hu; rfl)
          case d3 => unfold maxLen; omega
          case d4 => omega
          case d5 => first | omega | (simp; omega)
          intro v9 w9 hown9 hgrow9 _
          have B9 := hide (((unhide HB).alloc hzs (.cells #[.string (bs KT)] 9)).drew.grown hgrow9 (by simp; omega) (fun q hq => ((unhide HO).lt q hq).1))
          have H9 : Hid (w9.ownsRow w.heap.size 9 1 v9 (T ++ [KT]).length (sc (T ++ [KT]))) := by
            show World.ownsRow _ _ _ _ _ _ _
            rw [sc_append, List.length_append, List.length_singleton]
            exact hown9
          obtain ⟨a9, c9, rfl⟩ := own_shapeN hown9
          clear hown9 hgrow9 HO HB
          go_wp2_with fail
          refine (unhide k4 _).mono ?_
          rintro e w8 ⟨rfl, b8⟩
          have H8 := hide (own_below2 (unhide H9) b8)
          have B8 := hide ((unhide B9).trans (b8.mono (unhide B9).size))
          have hD2 := shaSum_length KT
          clear H9 B9 b8
          go_wp2
          go_roundw
          case rel =>
            refine ⟨j + 1, if C = 1 then some ⟨g, o + L, none⟩ else some ⟨g, o + L + 1, none⟩, by omega, ?n1, ?n2, ?r1, ?r2, fun h => ?r5, ?r3, ?r4, unhide B8⟩
            case n1 => rw [unhide hc2]; congr 1
            case n2 => rw [unhide hI2]; congr 1
            case r1 => rw [unhide hsn, ← unhide HKT]; rfl
            case r2 =>
              have h1 := unhide HM
              have h2 := unhide HCe
              have h3 := unhide hln
              rw [h3, show path.length - (L + 1) = M - 1 by omega, show c - (L + 1) = C - 1 by omega]
            case r5 =>
              have h1 := unhide HM
              have h2 := unhide HCe
              rw [unhide hln] at h ⊢
              rw [if_neg (by omega)]
              exact ⟨g, o, rfl, rfl⟩
            case r3 => rw [unhide hsn]; have := unhide H8; rw [← unhide HKT] at this; exact this
            case r4 => rw [unhide hsn]; exact shaSum_length _
          case measure => simp [intOf]; omega
        · rw [decide_eq_false hodd] at hsn
          have hjI : ¬ (pt (i / 2 ^ j) : Int) < ((i / 2 ^ j : Nat) : Int) := by
            have := unhide hpt
            rw [if_pos (by omega)] at this
            omega
          have hjN : decide (pt (i / 2 ^ j) < i / 2 ^ j) = false := decide_eq_false (by omega)
          clear hpt
          generalize cl j n = cc at *
          generalize i / 2 ^ j = I at *
          generalize pt I = J at *
          go_wp2_with fail
          refine (unhide hpa _).mono ?_
          rintro e w1 ⟨rfl, rfl⟩
          go_wp2_with fail
          go_region
          go_wp2_with fail
          refine (unhide k1 _).mono ?_
          rintro e w1 ⟨rfl, rfl⟩
          generalize hKT : knotT D x = KT at *
          have HKT := hide hKT
          clear hKT
          go_wp2_with (at_builtin; refine wpList_append_own _ rfl _ _ 22 rfl w.heap.size 9 i0 (.string ⟨#[]⟩) 1 16 Try.undS hi0 hz0 hz1 hz2 rfl (by decide) _ _ _ rfl ((unhide HO).alloc _) ⟨wr.heap.size, 0, none⟩ 1 1 [.string (bs KT)] rfl rfl (news_one' _ _ _) ?d2 ?d3 ?d4 ?d5 ?_)
          case d2 => first | rfl | (intro u hu; simp at hu; subst hu; rfl)
          case d3 => unfold maxLen; omega
          case d4 => omega
          case d5 => first | omega | (simp; omega)
          intro v9 w9 hown9 hgrow9 _
          have B9 := hide (((unhide HB).alloc hzs (.cells #[.string (bs KT)] 9)).drew.grown hgrow9 (by simp; omega) (fun q hq => ((unhide HO).lt q hq).1))
          have H9 : Hid (w9.ownsRow w.heap.size 9 1 v9 (T ++ [KT]).length (sc (T ++ [KT]))) := by
            show World.ownsRow _ _ _ _ _ _ _
            rw [sc_append, List.length_append, List.length_singleton]
            exact hown9
          obtain ⟨a9, c9, rfl⟩ := own_shapeN hown9
          clear hown9 hgrow9 HO HB
          go_wp2_with fail
          refine (unhide k3 _).mono ?_
          rintro e w8 ⟨rfl, b8⟩
          have H8 := hide (own_below2 (unhide H9) b8)
          have B8 := hide ((unhide B9).trans (b8.mono (unhide B9).size))
          have hD2 := shaSum_length KT
          clear H9 B9 b8
          go_wp2
          go_roundw
          case rel =>
            refine ⟨j + 1, if C = 1 then some ⟨g, o + L, none⟩ else some ⟨g, o + L + 1, none⟩, by omega, ?n1, ?n2, ?r1, ?r2, fun h => ?r5, ?r3, ?r4, unhide B8⟩
            case n1 => rw [unhide hc2]; congr 1
            case n2 => rw [unhide hI2]; congr 1
            case r1 => rw [unhide hsn, ← unhide HKT]; rfl
            case r2 =>
              have h1 := unhide HM
              have h2 := unhide HCe
              have h3 := unhide hln
              rw [h3, show path.length - (L + 1) = M - 1 by omega, show c - (L + 1) = C - 1 by omega]
            case r5 =>
              have h1 := unhide HM
              have h2 := unhide HCe
              rw [unhide hln] at h ⊢
              rw [if_neg (by omega)]
              exact ⟨g, o, rfl, rfl⟩
            case r3 => rw [unhide hsn]; have := unhide H8; rw [← unhide HKT] at this; exact this
            case r4 => rw [unhide hsn]; exact shaSum_length _
          case measure => simp [intOf]; omega
      · rw [if_neg hlt2, List.append_nil] at hst
        rw [show decide (pt (i / 2 ^ j) < cl j n) = false from decide_eq_false hlt2] at hpa
        have HI : Hid (∃ (ap' : Option Addr), ((planN (j + 1) n i).length < path.length → ∃ g o, a0 = some ⟨g, o, none⟩ ∧ ap' = some ⟨g, o + (planN (j + 1) n i).length, none⟩) ∧ ap' = ap) := ⟨ap, by rw [unhide hst]; exact hap, rfl⟩
        have hq : ((i / 2 ^ j : Nat) : Int).tdiv 2 = I2 := by rw [hI2e]; rfl
        have hq2 : ((cl j n : Int) + 1).tdiv 2 = c2 := by rw [hc2e]; rfl
        have hI2b : I2 < 256 := by omega
        have hc2b : c2 ≤ 256 ∧ c2 < cl j n := by omega
        have HO := hide hown
        have HB := hide hb
        have HLn := hide hlen
        clear hown hb hlen hap
        have hst2 := hide (show planN (j + 1) n i = planN j n i from unhide hst)
        clear hst
        rw [unhide hst2] at HI
        generalize hPe : climbP shaSum (planN j n i) d (path.take (planN j n i).length) = P at *
        have HPe := hide hPe
        clear hPe
        generalize cl j n = cc at *
        generalize i / 2 ^ j = I at *
        generalize pt I = J at *
        go_wp2_with fail
        refine (unhide hpa _).mono ?_
        rintro e w1 ⟨rfl, rfl⟩
        go_wp2
        go_roundw
        case rel =>
          obtain ⟨ap', h6, rfl⟩ := unhide HI
          refine ⟨j + 1, ap', by omega, ?n1, ?n2, ?r1, ?r2, ?r5, ?r3, ?r4, unhide HB⟩
          case n1 => rw [unhide hc2]; congr 1
          case n2 => rw [unhide hI2]; congr 1
          case r1 => rw [unhide hst2, unhide HPe]
          case r2 => rw [unhide hst2]
          case r5 => rw [unhide hst2]; exact h6
          case r3 => rw [unhide hst2, unhide HPe]; exact unhide HO
          case r4 => rw [unhide hst2, unhide HPe]; exact unhide HLn
        case measure => simp [intOf]; omega
    · have hpd := planN_done j n i h3 hlt
      have hfull : path.take (planN j n i).length = path := by rw [hpd, ← unhide HLL, List.take_length]
      rw [hfull, hpd] at hown
      rw [hfull, hpd]
      have HO := hide hown
      have HB := hide hb
      have hq : ¬ (1 : Int) < (cl j n : Nat) := by omega
      have hqn : decide (1 < cl j n) = false := decide_eq_false hlt
      clear hown hb hlen hap hfull hpd hlt
      generalize cl j n = cc at *
      generalize i / 2 ^ j = I at *
      generalize hPe : climbP shaSum (plan n i) d path = P at *
      have HPe := hide hPe
      clear hPe
      generalize (plan n i).length = L at *
      go_wp2
      go_ret2
      exact ⟨.slice at9 P.2.length c9, by rw [unhide HPe]; rfl, by rw [unhide HPe]; exact unhide HO, unhide HB⟩

end Go.Proofs.Ytiaohpkcncbdnab
namespace Go.Proofs.Ytiaohpkcncbdnab
open Go.RowKit
set_option linter.unusedVariables false

/-- what a digest folds to; the texts on the way; those on the road of a leaf -/
def foldR (n i : Int) (d : By) (path : List By) : By := if foldE n i d path = 0 then (climbP shaSum (plan n.toNat i.toNat) d path).1 else []
def climbR (n i : Int) (d : By) (path : List By) : List By := if foldE n i d path = 0 then (climbP shaSum (plan n.toNat i.toNat) d path).2 else []
def roadR (n i : Int) (s : By) (path : List By) : List By := if foldE n i (shaSum (leafT s)) path = 0 then leafT s :: (climbP shaSum (plan n.toNat i.toNat) (shaSum (leafT s)) path).2 else []

theorem climbedI_any (n i : Int) (d : By) (path : List By) (a0 : Option Addr) (c : Nat) (w : World) (hT : Txts w a0 path) (hc : path.length ≤ c) (hcm : c ≤ maxLen) (h0 : foldE n i d path = 0) :
    Calls Try.prog 26 #[.int .i64 n, .int .i64 i, .string (bs d), .slice a0 path.length c] w fun e w' => ∃ v, e = .returned (.tuple #[.string (bs (climbP shaSum (plan n.toNat i.toNat) d path).1), v]) ∧ OwnS w' w.heap.size v (climbP shaSum (plan n.toNat i.toNat) d path).2 ∧ Below w.heap.size w w' := by
  obtain ⟨h1, h2, h3, h4⟩ := foldE_ok h0
  obtain ⟨t1, t2, t3, t4⟩ := there_of h1
  have := climbed_any n.toNat i.toNat d path a0 c w hT hc hcm (by omega) (by omega) (by omega) h3 h4 h2
  rwa [show ((n.toNat : Nat) : Int) = n by omega, show ((i.toNat : Nat) : Int) = i by omega] at this

set_option maxRecDepth 100000 in
theorem fold_any (n i : Int) (d : By) (path : List By) (a0 : Option Addr) (c : Nat) (w : World) (hT : Txts w a0 path) (hc : path.length ≤ c) (hcm : c ≤ maxLen) (h1 : path.length ≤ 100000) (h2 : ∀ p ∈ path, p.length ≤ 100000) (h3 : d.length ≤ 100000) :
    Calls Try.prog 21 #[.int .i64 n, .int .i64 i, .string (bs d), .slice a0 path.length c] w fun e w' => e = .returned (.tuple #[.string (bs (foldR n i d path)), .int .i64 (foldE n i d path)]) ∧ Below w.heap.size w w' := by
  have hf := hide (fun w' (hb : Below w.heap.size w w') => foldFault_any n i d path a0 c w' (hT.below hb) h1 h2 h3)
  unfold foldR
  by_cases h0 : foldE n i d path = 0
  · have hcl := hide (climbedI_any n i d path a0 c w hT hc hcm h0)
    rw [if_pos h0, h0]
    rw [h0] at hf
    clear hT h2 h3
    generalize climbP shaSum (plan n.toNat i.toNat) d path = P at *
    generalize bs d = B at *
    generalize path.length = m at *
    go_enter Try.func21, Try.ntmps21
    go_wp2_with fail
    refine (unhide hf _ (Below.refl _ _)).mono ?_
    rintro e w1 ⟨rfl, rfl⟩
    go_wp2_with fail
    refine (unhide hcl).mono ?_
    rintro e w2 ⟨v, rfl, ho, b2⟩
    go_wp2
    go_ret2
    exact ⟨rfl, b2⟩
  · rw [if_neg h0]
    have hE := foldE_cases n i d path
    clear hT h2 h3
    generalize foldE n i d path = E at *
    generalize bs d = B at *
    generalize path.length = m at *
    rcases hE with rfl | rfl | rfl
    · exact absurd rfl h0
    all_goals
      go_enter Try.func21, Try.ntmps21
      go_wp2_with fail
      refine (unhide hf _ (Below.refl _ _)).mono ?_
      rintro e w1 ⟨rfl, rfl⟩
      go_wp2
      go_ret2
      exact ⟨rfl, Below.refl _ _⟩

theorem bl_ne {A B : ByteArray} (h : A ≠ B) : (A.toList == B.toList) = false := by
  rw [beq_eq_false_iff_ne]
  intro e
  rw [ByteArray.toList_eq, ByteArray.toList_eq] at e
  cases A
  cases B
  simp at e h
  exact h e
set_option maxRecDepth 100000 in
theorem check_any (r : By) (n i : Int) (d : By) (path : List By) (a0 : Option Addr) (c : Nat) (w : World) (hT : Txts w a0 path) (hc : path.length ≤ c) (hcm : c ≤ maxLen) (h1 : path.length ≤ 100000) (h2 : ∀ p ∈ path, p.length ≤ 100000) (h3 : d.length ≤ 100000) :
    Calls Try.prog 9 #[.string (bs r), .int .i64 n, .int .i64 i, .string (bs d), .slice a0 path.length c] w fun e w' => e = .returned (.bool (decide (foldE n i d path = 0 ∧ foldR n i d path = r))) ∧ Below w.heap.size w w' := by
  have hf := hide (fold_any n i d path a0 c w hT hc hcm h1 h2 h3)
  clear hT h2 h3
  by_cases h0 : foldE n i d path = 0
  · rw [h0] at hf ⊢
    by_cases hr : foldR n i d path = r
    · rw [show decide ((0 : Nat) = 0 ∧ foldR n i d path = r) = true from decide_eq_true ⟨rfl, hr⟩]
      subst hr
      clear h0
      generalize bs (foldR n i d path) = R at *
      generalize bs d = B at *
      generalize path.length = m at *
      go_enter Try.func9, Try.ntmps9
      go_wp2_with fail
      refine (unhide hf).mono ?_
      rintro e w1 ⟨rfl, b1⟩
      go_wp2
      go_ret
      exact ⟨rfl, b1⟩
    · rw [show decide ((0 : Nat) = 0 ∧ foldR n i d path = r) = false from decide_eq_false (fun h => hr h.2)]
      have hne := bl_ne (fun h : bs (foldR n i d path) = bs r => hr (bs_inj h))
      clear h0 hr
      generalize bs (foldR n i d path) = R at *
      generalize bs r = R' at *
      generalize bs d = B at *
      generalize path.length = m at *
      go_enter Try.func9, Try.ntmps9
      go_wp2_with fail
      refine (unhide hf).mono ?_
      rintro e w1 ⟨rfl, b1⟩
      go_wp2
      go_ret
      exact ⟨rfl, b1⟩
  · rw [show decide (foldE n i d path = 0 ∧ foldR n i d path = r) = false from decide_eq_false (fun h => h0 h.1)]
    have hE := foldE_cases n i d path
    generalize foldE n i d path = E at *
    generalize bs (foldR n i d path) = R at *
    generalize bs r = R' at *
    generalize bs d = B at *
    generalize path.length = m at *
    rcases hE with rfl | rfl | rfl
    · exact absurd rfl h0
    all_goals
      go_enter Try.func9, Try.ntmps9
      go_wp2_with fail
      refine (unhide hf).mono ?_
      rintro e w1 ⟨rfl, b1⟩
      go_wp2
      go_ret
      exact ⟨rfl, b1⟩

set_option maxRecDepth 100000 in
theorem climb_any (n i : Int) (d : By) (path : List By) (a0 : Option Addr) (c : Nat) (w : World) (hT : Txts w a0 path) (hc : path.length ≤ c) (hcm : c ≤ maxLen) (h1 : path.length ≤ 100000) (h2 : ∀ p ∈ path, p.length ≤ 100000) (h3 : d.length ≤ 100000) :
    Calls Try.prog 15 #[.int .i64 n, .int .i64 i, .string (bs d), .slice a0 path.length c] w fun e w' => ∃ v, e = .returned v ∧ OwnS w' w.heap.size v (climbR n i d path) ∧ Below w.heap.size w w' := by
  have hf := hide (fun w' (hb : Below w.heap.size w w') => foldFault_any n i d path a0 c w' (hT.below hb) h1 h2 h3)
  unfold climbR
  by_cases h0 : foldE n i d path = 0
  · have hcl := hide (climbedI_any n i d path a0 c w hT hc hcm h0)
    rw [if_pos h0]
    rw [h0] at hf
    clear hT h2 h3
    generalize climbP shaSum (plan n.toNat i.toNat) d path = P at *
    generalize bs d = B at *
    generalize path.length = m at *
    go_enter Try.func15, Try.ntmps15
    go_wp2_with fail
    refine (unhide hf _ (Below.refl _ _)).mono ?_
    rintro e w1 ⟨rfl, rfl⟩
    go_wp2_with fail
    refine (unhide hcl).mono ?_
    rintro e w2 ⟨v, rfl, ho, b2⟩
    have HO := hide ho
    obtain ⟨a9, c9, rfl⟩ := own_shapeN (show World.ownsRow _ _ _ _ _ _ _ from ho)
    clear ho
    go_wp2
    go_ret
    exact ⟨_, rfl, unhide HO, b2⟩
  · rw [if_neg h0]
    have hE := foldE_cases n i d path
    clear hT h2 h3
    generalize foldE n i d path = E at *
    generalize bs d = B at *
    generalize path.length = m at *
    rcases hE with rfl | rfl | rfl
    · exact absurd rfl h0
    all_goals
      go_enter Try.func15, Try.ntmps15
      go_wp2_with fail
      refine (unhide hf _ (Below.refl _ _)).mono ?_
      rintro e w1 ⟨rfl, rfl⟩
      go_wp2
      go_ret
      exact ⟨_, rfl, World.ownsRow_nil _ _ _ _, Below.refl _ _⟩

theorem oneCell_sc (T : List By) : ∀ u ∈ sc T, u.oneCell' = true := by
  intro u hu
  obtain ⟨x, _, rfl⟩ := List.mem_map.1 hu
  rfl
theorem OwnS.two {w : World} {base : Nat} {v : Value} {T : List By} (h : OwnS w base v T) : (v = .slice none 0 0 ∧ T = []) ∨ ∃ g c, v = .slice (some ⟨g, 0, none⟩) T.length c ∧ base ≤ g ∧ g < w.heap.size ∧ ∀ j u, (sc T)[j]? = some u → w.cell? ((⟨g, 0, none⟩ : Addr).add j) = some u := by
  cases T with
  | nil =>
    rcases (show World.ownsRow _ _ _ _ _ _ _ from h).2 with ⟨h', h0⟩ | ⟨g, cap', cur, h', hb, hc, _⟩
    · exact .inl ⟨h', rfl⟩
    · refine .inr ⟨g, cap', h', hb, ?_, fun j u hj => by simp [sc] at hj⟩
      exact (Array.getElem?_eq_some_iff.1 hc).1
  | cons t T =>
    obtain ⟨g, c, h1, h2, h3⟩ := h.form (by simp)
    subst h1
    exact .inr ⟨g, c, rfl, h2, h3, fun j u hj => World.ownsRow.cells (h : World.ownsRow _ _ _ _ _ _ _) rfl j u hj⟩

set_option maxRecDepth 100000 in
set_option maxHeartbeats 1000000 in
theorem road_any (n i : Int) (s : By) (path : List By) (a0 : Option Addr) (c : Nat) (w : World) (hT : Txts w a0 path) (hc : path.length ≤ c) (hcm : c ≤ maxLen) (h1 : path.length ≤ 100000) (h2 : ∀ p ∈ path, p.length ≤ 100000) (h3 : s.length ≤ 65000) :
    Calls Try.prog 13 #[.int .i64 n, .int .i64 i, .string (bs s), .slice a0 path.length c] w fun e w' => ∃ v, e = .returned v ∧ OwnS w' w.heap.size v (roadR n i s path) ∧ Below w.heap.size w w' := by
  obtain ⟨i0, hi0, hz0, hz1, hz2⟩ := info_parts Try.infoS
  have hlt := hide (fun w => leafText_any s w h3)
  have hsm := hide (fun w => msum_any (leafT s) w (by simp [leafT]; omega))
  have hdl := shaSum_length (leafT s)
  unfold roadR
  generalize hDe : shaSum (leafT s) = D at *
  have HDe := hide hDe
  clear hDe
  have hf := hide (fun w' (hb : Below w.heap.size w w') => foldFault_any n i D path a0 c w' (hT.below hb) h1 h2 (by omega))
  by_cases h0 : foldE n i D path = 0
  · have hcl := hide (fun w' (hb : Below w.heap.size w w') => climbedI_any n i D path a0 c w' (hT.below hb) hc hcm h0)
    rw [if_pos h0]
    rw [h0] at hf
    have hpl : (climbP shaSum (plan n.toNat i.toNat) D path).2.length ≤ 100000 := by
      obtain ⟨_, _, x3, _⟩ := foldE_ok h0
      rw [climbP_len shaSum _ _ _ x3.symm]
      exact h1
    clear hT h2 h3 hdl h0
    generalize climbP shaSum (plan n.toNat i.toNat) D path = P at *
    generalize bs s = B at *
    generalize leafT s = LT at *
    generalize path.length = m at *
    obtain ⟨R, T⟩ := P
    simp only at hcl hpl ⊢
    go_enter Try.func13, Try.ntmps13
    go_wp2_with fail
    refine (unhide hlt _).mono ?_
    rintro e w1 ⟨rfl, rfl⟩
    go_wp2_with fail
    refine (unhide hsm _).mono ?_
    rintro e w1 ⟨rfl, b1⟩
    go_wp2_with fail
    refine (unhide hf _ b1).mono ?_
    rintro e w2 ⟨rfl, rfl⟩
    go_wp2_with fail
    refine (unhide hcl _ b1).mono ?_
    rintro e w3 ⟨v, rfl, ho, b3⟩
    have B3 := hide (b1.trans (b3.mono b1.size))
    have hz3 := (unhide B3).size
    have hown : Hid (World.ownsRow (w3.alloc (.cells #[.string (bs LT)] 9)) w3.heap.size 9 1 (.slice (some ⟨w3.heap.size, 0, none⟩) 1 1) 1 (sc [LT])) := by
      show World.ownsRow _ _ _ _ _ _ _
      refine ⟨rfl, .inr ⟨w3.heap.size, 1, #[.string (bs LT)], rfl, Nat.le_refl _, heap_alloc_new w3 _, by omega, by unfold maxLen; omega, rfl, rfl⟩⟩
    rcases ho.two with ⟨rfl, rfl⟩ | ⟨g, cg, rfl, hg1, hg2, hcells⟩
    · clear ho b1 b3
      go_wp2_with (at_builtin; refine wpList_append_own_none rfl _ _ 22 rfl w3.heap.size 9 i0 1 Try.undS hi0 _ _ _ rfl (unhide hown) rfl ?_)
      go_wp2
      go_ret
      exact ⟨_, rfl, own_mono (unhide hown) hz3, (unhide B3).alloc hz3 _⟩
    · have hnews : Hid (∀ j u, (sc T)[j]? = some u → (w3.alloc (.cells #[.string (bs LT)] 9)).cell? ((⟨g, 0, none⟩ : Addr).add j) = some u) := fun j u hj => by
        rw [((Below.refl w3.heap.size w3).alloc (Nat.le_refl _) _).cell (by rw [Addr.add_mid]; exact hg2)]
        exact hcells j u hj
      clear ho b1 b3 hcells
      go_wp2_with (at_builtin; refine wpList_append_own _ rfl _ _ 22 rfl w3.heap.size 9 i0 (.string ⟨#[]⟩) 1 16 Try.undS hi0 hz0 hz1 hz2 rfl (by decide) _ _ _ rfl (unhide hown) ⟨g, 0, none⟩ T.length cg (sc T) rfl ?d1 (unhide hnews) ?d2 ?d3 ?d4 ?d5 ?_)
      case d1 => simp [sc]
      case d2 => first | exact oneCell_sc T | (intro u hu; exact oneCell_sc T u hu) | simp [sc]
      case d3 => unfold maxLen; omega
      case d4 => omega
      case d5 => first | omega | (simp; done) | (simp; omega)
      intro v9 w9 hown9 hgrow9 _
      have B9 := hide (((unhide B3).alloc hz3 (.cells #[.string (bs LT)] 9)).grown hgrow9 (by simp; omega) (fun q hq => by have := ((unhide hown).lt q hq).1; omega))
      have H9 : Hid (OwnS w9 w.heap.size v9 (LT :: T)) := by
        refine own_mono (base := w3.heap.size) ?_ hz3
        show World.ownsRow _ _ _ _ _ _ _
        rw [List.length_cons, Nat.add_comm T.length 1]
        exact hown9
      obtain ⟨a9, c9, rfl⟩ := own_shapeN hown9
      clear hown9 hgrow9
      go_wp2
      go_ret
      exact ⟨_, rfl, unhide H9, unhide B9⟩
  · rw [if_neg h0]
    have hE := foldE_cases n i D path
    clear hT h2 h3
    generalize foldE n i D path = E at *
    generalize bs s = B at *
    generalize leafT s = LT at *
    generalize path.length = m at *
    rcases hE with rfl | rfl | rfl
    · exact absurd rfl h0
    all_goals
      go_enter Try.func13, Try.ntmps13
      go_wp2_with fail
      refine (unhide hlt _).mono ?_
      rintro e w1 ⟨rfl, rfl⟩
      go_wp2_with fail
      refine (unhide hsm _).mono ?_
      rintro e w1 ⟨rfl, b1⟩
      go_wp2_with fail
      refine (unhide hf _ b1).mono ?_
      rintro e w2 ⟨rfl, rfl⟩
      go_wp2
      go_ret
      exact ⟨_, rfl, World.ownsRow_nil _ _ _ _, b1⟩

end Go.Proofs.Ytiaohpkcncbdnab

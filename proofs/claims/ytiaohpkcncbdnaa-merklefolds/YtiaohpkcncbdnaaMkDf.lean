/- Contracts of the document's folds, Fold, Check, Climb, Road. -/
import Derived.Test.YtiaohpkcncbdnaaMkDc
import Derived.Test.YtiaohpkcncbdnaaMkTt
namespace Go.Proofs.Ytiaohpkcncbdnaa
open Go.RowKit
set_option linter.unusedVariables false

set_option maxRecDepth 100000 in
set_option maxHeartbeats 1000000 in
theorem rfolds_any (n i : Int) (d : By) (path : List By) (a0 : Option Addr) (c : Nat) (w : World) (hT : Txts w a0 path) (h1 : path.length ≤ 100000) (h2 : ∀ p ∈ path, p.length ≤ 100000) (h3 : d.length ≤ 100000) :
    Calls Try.prog 49 #[.int .i64 n, .int .i64 i, .string (bs d), .slice a0 path.length c] w fun e w' => e = .returned (.int .i64 (foldE n i d path)) ∧ w = w' := by
  have hdp := hide (fun w => rdepthI_any n i w)
  have hdb := depI_bound n i
  have hE : foldE n i d path = if depI n i < 0 ∨ d.length ≠ 32 then 1 else if (path.length : Int) ≠ depI n i then 3 else if ∀ p ∈ path, p.length = 32 then 0 else 3 := rfl
  have hds := bs_size d
  generalize foldE n i d path = E at *
  generalize depI n i = D at *
  by_cases c1 : D < 0
  · rw [if_pos (.inl c1)] at hE
    subst hE
    clear hT h2
    have q0 : decide (D < 0) = true := decide_eq_true c1
    generalize bs d = B at *
    generalize path.length = m at *
    go_enter Try.func49, Try.ntmps49
    go_wp2_with fail
    refine (unhide hdp _).mono ?_
    rintro e w1 ⟨rfl, rfl⟩
    go_wp2
    go_ret
    exact ⟨rfl, rfl⟩
  have q0 : decide (D < 0) = false := decide_eq_false c1
  by_cases c2 : d.length = 32
  case neg =>
    rw [if_pos (.inr c2)] at hE
    subst hE
    have q1 : ((bs d).size : Int) ≠ 32 := by omega
    have q2 : (bs d).size ≠ 32 := by omega
    have q3 : (bs d).size ≤ 100000 := by omega
    clear hT h2 hds c2 h3
    generalize bs d = B at *
    generalize path.length = m at *
    go_enter Try.func49, Try.ntmps49
    go_wp2_with fail
    refine (unhide hdp _).mono ?_
    rintro e w1 ⟨rfl, rfl⟩
    go_wp2
    go_ret
    exact ⟨rfl, rfl⟩
  rw [if_neg (by omega)] at hE
  have q1 : ((bs d).size : Int) = 32 := by omega
  clear hds c2 h3
  generalize bs d = B at *
  by_cases c3 : (path.length : Int) = D
  case neg =>
    rw [if_pos c3] at hE
    subst hE
    clear hT h2
    generalize path.length = m at *
    go_enter Try.func49, Try.ntmps49
    go_wp2_with fail
    refine (unhide hdp _).mono ?_
    rintro e w1 ⟨rfl, rfl⟩
    go_wp2_with fail
    refine (unhide hdp _).mono ?_
    rintro e w1 ⟨rfl, rfl⟩
    go_wp2
    go_ret
    exact ⟨rfl, rfl⟩
  rw [if_neg (fun h => h c3)] at hE
  have HE := hide hE
  have HT := hide hT
  have H2 := hide h2
  subst c3
  generalize hm : path.length = m at *
  have HM := hide hm
  clear hE hT h2 hm
  go_enter Try.func49, Try.ntmps49
  go_wp2_with fail
  refine (unhide hdp _).mono ?_
  rintro e w1 ⟨rfl, rfl⟩
  go_wp2_with fail
  refine (unhide hdp _).mono ?_
  rintro e w1 ⟨rfl, rfl⟩
  go_wp2_with fail
  go_loopw [9] (fun v wr => w = wr ∧ ∃ k : Nat, k ≤ m ∧ v = .int .i64 k ∧ ∀ s ∈ path.take k, s.length = 32) (fun v _ => m - (intOf v).toNat)
  case atStart => exact ⟨rfl, 0, Nat.zero_le _, rfl, by simp⟩
  case round =>
    obtain ⟨rfl, k, hk, rfl, ha⟩ := hrel
    by_cases hlt : k < m
    · have hlt' : k < path.length := by rw [unhide HM]; exact hlt
      obtain ⟨g, o, rfl, hc0⟩ := unhide HT k hlt'
      have q2 : (k : Int) < m := by omega
      have hB := bs_size path[k]
      have hB2 := unhide H2 path[k] (List.getElem_mem hlt')
      by_cases hl : path[k].length = 32
      · have HA : Hid (∀ s ∈ path.take (k + 1), s.length = 32) := by
          intro s hs
          rw [List.take_succ_eq_append_getElem hlt', List.mem_append] at hs
          rcases hs with hs | hs
          · exact ha s hs
          · simp at hs; rw [hs]; exact hl
        have q3 : ((bs path[k]).size : Int) = 32 := by omega
        generalize bs path[k] = S at *
        clear ha hB2 hB hl hlt'
        go_wp2
        go_roundw
        case rel => exact ⟨trivial, k + 1, by omega, by go_num, unhide HA⟩
        case measure => simp [intOf]; omega
      · have hn : ¬ ∀ p ∈ path, p.length = 32 := fun h => hl (h _ (List.getElem_mem hlt'))
        have hE := unhide HE
        rw [if_neg hn] at hE
        have HE3 := hide hE
        have q3 : ((bs path[k]).size : Int) ≠ 32 := by omega
        have q4 : (bs path[k]).size ≠ 32 := by omega
        have q5 : (bs path[k]).size ≤ 100000 := by omega
        generalize bs path[k] = S at *
        clear ha hB2 hB hl hlt' hn hE
        go_wp2
        go_ret
        exact ⟨by rw [unhide HE3]; rfl, rfl⟩
    · have hkm : k = m := by omega
      have hall : ∀ p ∈ path, p.length = 32 := by
        have := ha
        rwa [hkm, ← unhide HM, List.take_length] at this
      have hE := unhide HE
      rw [if_pos hall] at hE
      have HE3 := hide hE
      have q2 : ¬ (k : Int) < m := by omega
      clear ha hkm hall hE
      go_wp2
      go_ret
      exact ⟨by rw [unhide HE3]; rfl, rfl⟩

theorem field_croot (x y : Value) (w : World) : Sem.run Try.prog (Instr.field 74 (.agg #[x, y]) 0) w = .ok x w := by kernel_rfl
theorem field_ctexts (x y : Value) (w : World) : Sem.run Try.prog (Instr.field 74 (.agg #[x, y]) 1) w = .ok y w := by kernel_rfl
theorem rclimbI_any (n i : Int) (d : By) (path : List By) (a0 : Option Addr) (c : Nat) (w : World) (hT : Txts w a0 path) (hc : path.length ≤ c) (hcm : c ≤ maxLen) (h0 : foldE n i d path = 0) :
    Calls Try.prog 50 #[.int .i64 n, .int .i64 i, .string (bs d), .slice a0 path.length c] w fun e w' => ∃ v, e = .returned (.agg #[.string (bs (climbP shaSum (plan n.toNat i.toNat) d path).1), v]) ∧ OwnS w' w.heap.size v (climbP shaSum (plan n.toNat i.toNat) d path).2 ∧ Below w.heap.size w w' := by
  obtain ⟨h1, h2, h3, h4⟩ := foldE_ok h0
  obtain ⟨t1, t2, t3, t4⟩ := there_of h1
  have := rclimb_any path.length n.toNat i.toNat d path a0 c w rfl hT hc hcm (by omega) (by omega) (by omega) h3 h4 h2
  rwa [show ((n.toNat : Nat) : Int) = n by omega, show ((i.toNat : Nat) : Int) = i by omega] at this

set_option maxRecDepth 100000 in
theorem rfold_any (n i : Int) (d : By) (path : List By) (a0 : Option Addr) (c : Nat) (w : World) (hT : Txts w a0 path) (hc : path.length ≤ c) (hcm : c ≤ maxLen) (h1 : path.length ≤ 100000) (h2 : ∀ p ∈ path, p.length ≤ 100000) (h3 : d.length ≤ 100000) :
    Calls Try.prog 24 #[.int .i64 n, .int .i64 i, .string (bs d), .slice a0 path.length c] w fun e w' => e = .returned (.tuple #[.string (bs (foldR n i d path)), .int .i64 (foldE n i d path)]) ∧ Below w.heap.size w w' := by
  have hf := hide (fun w' (hb : Below w.heap.size w w') => rfolds_any n i d path a0 c w' (hT.below hb) h1 h2 h3)
  unfold foldR
  by_cases h0 : foldE n i d path = 0
  · have hcl := hide (rclimbI_any n i d path a0 c w hT hc hcm h0)
    rw [if_pos h0, h0]
    rw [h0] at hf
    clear hT h2 h3
    generalize climbP shaSum (plan n.toNat i.toNat) d path = P at *
    generalize bs d = B at *
    generalize path.length = m at *
    go_enter Try.func24, Try.ntmps24
    go_wp2_with fail
    refine (unhide hf _ (Below.refl _ _)).mono ?_
    rintro e w1 ⟨rfl, rfl⟩
    go_wp2_with fail
    refine (unhide hcl).mono ?_
    rintro e w2 ⟨v, rfl, ho, b2⟩
    go_wp2
    rw [field_croot]
    go_wp2
    go_ret2
    exact ⟨rfl, b2⟩
  · rw [if_neg h0]
    have hE := foldE_cases n i d path
    clear hT h2 h3
    generalize foldE n i d path = E at *
    generalize bs d = B at *
    generalize path.length = m at *
    rcases hE with rfl | rfl | rfl
    · exact absurd rfl h0
    all_goals
      go_enter Try.func24, Try.ntmps24
      go_wp2_with fail
      refine (unhide hf _ (Below.refl _ _)).mono ?_
      rintro e w1 ⟨rfl, rfl⟩
      go_wp2
      go_ret2
      exact ⟨rfl, Below.refl _ _⟩

set_option maxRecDepth 100000 in
theorem rcheck_any (r : By) (n i : Int) (d : By) (path : List By) (a0 : Option Addr) (c : Nat) (w : World) (hT : Txts w a0 path) (hc : path.length ≤ c) (hcm : c ≤ maxLen) (h1 : path.length ≤ 100000) (h2 : ∀ p ∈ path, p.length ≤ 100000) (h3 : d.length ≤ 100000) :
    Calls Try.prog 28 #[.string (bs r), .int .i64 n, .int .i64 i, .string (bs d), .slice a0 path.length c] w fun e w' => e = .returned (.bool (decide (foldE n i d path = 0 ∧ foldR n i d path = r))) ∧ Below w.heap.size w w' := by
  have hf := hide (rfold_any n i d path a0 c w hT hc hcm h1 h2 h3)
  clear hT h2 h3
  by_cases h0 : foldE n i d path = 0
  · rw [h0] at hf ⊢
    by_cases hr : foldR n i d path = r
    · rw [show decide ((0 : Nat) = 0 ∧ foldR n i d path = r) = true from decide_eq_true ⟨rfl, hr⟩]
      subst hr
      clear h0
      generalize bs (foldR n i d path) = R at *
      generalize bs d = B at *
      generalize path.length = m at *
      go_enter Try.func28, Try.ntmps28
      go_wp2_with fail
      refine (unhide hf).mono ?_
      rintro e w1 ⟨rfl, b1⟩
      go_wp2
      go_ret
      exact ⟨rfl, b1⟩
    · rw [show decide ((0 : Nat) = 0 ∧ foldR n i d path = r) = false from decide_eq_false (fun h => hr h.2)]
      have hne := bl_ne (fun h : bs (foldR n i d path) = bs r => hr (bs_inj h))
      clear h0 hr
      generalize bs (foldR n i d path) = R at *
      generalize bs r = R' at *
      generalize bs d = B at *
      generalize path.length = m at *
      go_enter Try.func28, Try.ntmps28
      go_wp2_with fail
      refine (unhide hf).mono ?_
      rintro e w1 ⟨rfl, b1⟩
      go_wp2
      go_ret
      exact ⟨rfl, b1⟩
  · rw [show decide (foldE n i d path = 0 ∧ foldR n i d path = r) = false from decide_eq_false (fun h => h0 h.1)]
    have hE := foldE_cases n i d path
    generalize foldE n i d path = E at *
    generalize bs (foldR n i d path) = R at *
    generalize bs r = R' at *
    generalize bs d = B at *
    generalize path.length = m at *
    rcases hE with rfl | rfl | rfl
    · exact absurd rfl h0
    all_goals
      go_enter Try.func28, Try.ntmps28
      go_wp2_with fail
      refine (unhide hf).mono ?_
      rintro e w1 ⟨rfl, b1⟩
      go_wp2
      go_ret
      exact ⟨rfl, b1⟩

set_option maxRecDepth 100000 in
theorem rclimbL_any (n i : Int) (d : By) (path : List By) (a0 : Option Addr) (c : Nat) (w : World) (hT : Txts w a0 path) (hc : path.length ≤ c) (hcm : c ≤ maxLen) (h1 : path.length ≤ 100000) (h2 : ∀ p ∈ path, p.length ≤ 100000) (h3 : d.length ≤ 100000) :
    Calls Try.prog 26 #[.int .i64 n, .int .i64 i, .string (bs d), .slice a0 path.length c] w fun e w' => ∃ v, e = .returned v ∧ OwnS w' w.heap.size v (climbR n i d path) ∧ Below w.heap.size w w' := by
  have hf := hide (fun w' (hb : Below w.heap.size w w') => rfolds_any n i d path a0 c w' (hT.below hb) h1 h2 h3)
  unfold climbR
  by_cases h0 : foldE n i d path = 0
  · have hcl := hide (rclimbI_any n i d path a0 c w hT hc hcm h0)
    rw [if_pos h0]
    rw [h0] at hf
    clear hT h2 h3
    generalize climbP shaSum (plan n.toNat i.toNat) d path = P at *
    generalize bs d = B at *
    generalize path.length = m at *
    go_enter Try.func26, Try.ntmps26
    go_wp2_with fail
    refine (unhide hf _ (Below.refl _ _)).mono ?_
    rintro e w1 ⟨rfl, rfl⟩
    go_wp2_with fail
    refine (unhide hcl).mono ?_
    rintro e w2 ⟨v, rfl, ho, b2⟩
    have HO := hide ho
    obtain ⟨a9, c9, rfl⟩ := own_shapeN (show World.ownsRow _ _ _ _ _ _ _ from ho)
    clear ho
    go_wp2
    rw [field_ctexts]
    go_wp2
    go_ret
    exact ⟨_, rfl, unhide HO, b2⟩
  · rw [if_neg h0]
    have hE := foldE_cases n i d path
    clear hT h2 h3
    generalize foldE n i d path = E at *
    generalize bs d = B at *
    generalize path.length = m at *
    rcases hE with rfl | rfl | rfl
    · exact absurd rfl h0
    all_goals
      go_enter Try.func26, Try.ntmps26
      go_wp2_with fail
      refine (unhide hf _ (Below.refl _ _)).mono ?_
      rintro e w1 ⟨rfl, rfl⟩
      go_wp2
      go_ret
      exact ⟨_, rfl, World.ownsRow_nil _ _ _ _, Below.refl _ _⟩

set_option maxRecDepth 100000 in
set_option maxHeartbeats 4000000 in
theorem rroad_any (n i : Int) (s : By) (path : List By) (a0 : Option Addr) (c : Nat) (w : World) (hT : Txts w a0 path) (hc : path.length ≤ c) (hcm : c ≤ maxLen) (h1 : path.length ≤ 100000) (h2 : ∀ p ∈ path, p.length ≤ 100000) (h3 : s.length ≤ 65000) :
    Calls Try.prog 30 #[.int .i64 n, .int .i64 i, .string (bs s), .slice a0 path.length c] w fun e w' => ∃ v, e = .returned v ∧ OwnS w' w.heap.size v (roadR n i s path) ∧ Below w.heap.size w w' := by
  obtain ⟨i0, hi0, hz0, hz1, hz2⟩ := info_parts Try.infoS
  have hlt := hide (fun w => rleafText_any s w h3)
  have hsm := hide (fun w => rsum_t (leafT s) w (by simp [leafT]; omega))
  have hdl := shaSum_length (leafT s)
  unfold roadR
  generalize hDe : shaSum (leafT s) = D at *
  have HDe := hide hDe
  clear hDe
  have hf := hide (fun w' (hb : Below w.heap.size w w') => rfolds_any n i D path a0 c w' (hT.below hb) h1 h2 (by omega))
  by_cases h0 : foldE n i D path = 0
  · have hcl := hide (fun w' (hb : Below w.heap.size w w') => rclimbI_any n i D path a0 c w' (hT.below hb) hc hcm h0)
    rw [if_pos h0]
    rw [h0] at hf
    have hpl : (climbP shaSum (plan n.toNat i.toNat) D path).2.length ≤ 100000 := by
      obtain ⟨_, _, x3, _⟩ := foldE_ok h0
      rw [climbP_len shaSum _ _ _ x3.symm]
      exact h1
    clear hT h2 h3 hdl h0
    generalize climbP shaSum (plan n.toNat i.toNat) D path = P at *
    generalize bs s = B at *
    generalize leafT s = LT at *
    generalize path.length = m at *
    obtain ⟨R, T⟩ := P
    simp only at hcl hpl ⊢
    go_enter Try.func30, Try.ntmps30
    go_wp2_with fail
    refine (unhide hlt _).mono ?_
    rintro e w1 ⟨rfl, rfl⟩
    go_wp2_with fail
    refine (unhide hsm _).mono ?_
    rintro e w1 ⟨rfl, b1⟩
    go_wp2_with fail
    refine (unhide hf _ b1).mono ?_
    rintro e w2 ⟨rfl, rfl⟩
    go_wp2_with fail
    refine (unhide hlt _).mono ?_
    rintro e w2 ⟨rfl, rfl⟩
    go_wp2_with fail
    generalize hW : World.alloc _ _ = W
    have hown : Hid (World.ownsRow W w.heap.size 9 1 (.slice (some ⟨w1.heap.size, 0, none⟩) 1 1) 1 (sc [LT])) := by
      show World.ownsRow _ _ _ _ _ _ _
      rw [← hW]
      refine ⟨rfl, .inr ⟨w1.heap.size, 1, #[.string (bs LT)], rfl, b1.size, heap_alloc_new w1 _, by omega, by unfold maxLen; omega, rfl, rfl⟩⟩
    have bW : Below w.heap.size w W := by rw [← hW]; exact b1.alloc b1.size _
    clear hW
    refine (unhide hcl _ bW).mono ?_
    rintro e w3 ⟨v, rfl, ho, b3⟩
    have HO := hide (own_below2 (unhide hown) b3)
    have hg1 : w1.heap.size < W.heap.size := ((unhide hown).lt _ rfl).2
    have hg3 := hide (Nat.lt_of_lt_of_le hg1 b3.size)
    obtain ⟨a2, c2, rfl, t2⟩ := ho.txts
    have HT := hide t2
    have B3 := hide (bW.trans (b3.mono bW.size))
    have hz3 := (unhide B3).size
    have hne2 : Hid (∀ g o, a2 = some ⟨g, o, none⟩ → W.heap.size ≤ g ∨ T.length = 0) := by
      intro g o hgo
      rcases ho.two with ⟨hv, hT0⟩ | ⟨g', c', hv, hg', _⟩
      · right; rw [hT0]; rfl
      · left
        cases hv
        cases hgo
        exact hg'
    have hcx : Hid (∀ j (hj : j < T.length), ∃ g o, a2 = some ⟨g, o, none⟩ ∧ w1.heap.size ≠ g ∧ g < w3.heap.size ∧ w3.cell? ⟨g, o + j, none⟩ = some (.string (bs T[j]))) := by
      intro j hj
      obtain ⟨g, o, h1, h2⟩ := t2 j hj
      refine ⟨g, o, h1, ?_, cell_lt h2, h2⟩
      have := unhide hne2 g o h1
      omega
    clear ho t2 b1 b3 bW hown hne2 HT hlt hsm hf hcl
    go_wp2_with fail
    generalize hV : World.alloc _ _ = V
    have rV : V.heap[w3.heap.size]? = some (.cells #[.string (bs R), .slice a2 T.length c2] 74 (0, 0)) := by rw [← hV]; exact heap_alloc_new _ _
    have bV : Below w3.heap.size w3 V := by rw [← hV]; exact (Below.refl _ _).alloc (Nat.le_refl _) _
    have HOV := hide (own_below2 (unhide HO) bV)
    have HBV := hide ((unhide B3).trans (bV.mono (unhide B3).size))
    have hcV : Hid (∀ j (hj : j < T.length), ∃ g o, a2 = some ⟨g, o, none⟩ ∧ w1.heap.size ≠ g ∧ g < V.heap.size ∧ V.cell? ⟨g, o + j, none⟩ = some (.string (bs T[j]))) := by
      intro j hj
      obtain ⟨g, o, h1, h2, h3, h4⟩ := unhide hcx j hj
      exact ⟨g, o, h1, h2, Nat.lt_of_lt_of_le h3 bV.size, cell_below h4 bV⟩
    have hgG : w1.heap.size ≠ w3.heap.size := Nat.ne_of_lt (unhide hg3)
    clear hV bV hcx HO B3
    generalize w1.heap.size = g1 at *
    generalize w3.heap.size = G at *
    go_loopw [10, 12] (fun ov iv wr => ∃ (j gx cx : Nat), j ≤ T.length ∧ iv = .int .i64 j ∧ ov = .slice (some ⟨gx, 0, none⟩) (1 + j) cx ∧ gx ≠ G ∧ wr.ownsRow w.heap.size 9 1 (.slice (some ⟨gx, 0, none⟩) (1 + j) cx) (1 + j) (sc ([LT] ++ T.take j)) ∧ wr.heap[G]? = some (.cells #[.string (bs R), .slice a2 T.length c2] 74 (0, 0)) ∧ (∀ j (hj : j < T.length), ∃ g o, a2 = some ⟨g, o, none⟩ ∧ gx ≠ g ∧ g < wr.heap.size ∧ wr.cell? ⟨g, o + j, none⟩ = some (.string (bs T[j]))) ∧ Below w.heap.size w wr) (fun _ iv _ => T.length - (intOf iv).toNat)
    case atStart => exact ⟨0, g1, 1, Nat.zero_le _, rfl, rfl, hgG, by simpa using unhide HOV, rV, unhide hcV, unhide HBV⟩
    case round =>
      clear HOV HBV hcV rV
      obtain ⟨j, gx, cx, hj, rfl, rfl, hgx, hown, hG, hcells, hb⟩ := hrel
      have hzs := hb.size
      have z1 := cell1_of_two hG
      by_cases hlt : j < T.length
      · obtain ⟨g, o, rfl, hgxg, hgl, y1⟩ := hcells j hlt
        have qi : (j : Int) < T.length := by omega
        have hts : Hid (LT :: T.take (j + 1) = [LT] ++ T.take j ++ [T[j]]) := by
          show _ = _
          rw [List.take_succ_eq_append_getElem hlt]
          simp
        generalize hTe : bs T[j] = Ti at *
        have HTe := hide hTe
        have HO := hide hown
        have HC := hide hcells
        have HB := hide hb
        have HG := hide hG
        have hGl := lt_of_block hG
        clear hown hcells hb hTe hG
        go_wp2_with (at_builtin; refine wpList_append_lies _ rfl _ _ 22 rfl w.heap.size 9 i0 (.string ⟨#[]⟩) 1 16 Try.undS hi0 hz0 hz1 hz2 rfl (by decide) _ _ _ rfl ((unhide HO).alloc _) ⟨wr.heap.size, 0, none⟩ 1 1 [.string Ti] rfl rfl (news_one' _ _ _) ?c2 (by decide) ?c3 ?c4 ?c5 (wr.heap.size + 1) ?c6 ?_)
        case c2 => first | rfl | (intro u hu; simp at hu; subst hu; rfl)
        case c3 => unfold maxLen; omega
        case c4 => omega
        case c5 => first | omega | (simp; omega)
        case c6 => simp
        intro g7 c7 w7 hown7 hgrow7 hat hlt7
        have hat' : g7 = gx ∨ g7 = wr.heap.size + 1 := by
          rcases hat with h | h
          · left
            have : gx = g7 := by simpa [Value.ownBlock] using h
            omega
          · exact .inr h
        have blk : ∀ q, q < wr.heap.size → q ≠ gx → w7.heap[q]? = wr.heap[q]? := by
          intro q hq hqx
          rw [hgrow7.block q (by simp; omega) (by simp [Value.ownBlock]; omega)]
          exact Below.heap_alloc _ _ _ hq
        have hsz7 : wr.heap.size ≤ w7.heap.size := by have := hgrow7.size; simp at this; omega
        have H7 : Hid (w7.ownsRow w.heap.size 9 1 (.slice (some ⟨g7, 0, none⟩) (1 + (j + 1)) c7) (1 + (j + 1)) (sc ([LT] ++ T.take (j + 1)))) := by
          show World.ownsRow _ _ _ _ _ _ _
          rw [show [LT] ++ T.take (j + 1) = LT :: T.take (j + 1) from rfl, unhide hts, sc_append ([LT] ++ T.take j), show sc [T[j]] = [.string Ti] by rw [← unhide HTe]; rfl]
          exact hown7
        have HC7 : Hid (∀ j (hj : j < T.length), ∃ g' o', some (⟨g, o, none⟩ : Addr) = some ⟨g', o', none⟩ ∧ g7 ≠ g' ∧ g' < w7.heap.size ∧ w7.cell? ⟨g', o' + j, none⟩ = some (.string (bs T[j]))) := by
          intro j' hj'
          obtain ⟨g', o', e1, e2, e3, e4⟩ := unhide HC j' hj'
          refine ⟨g', o', e1, by omega, by omega, ?_⟩
          exact (cell_same (blk g' e3 (fun h => e2 h.symm))).trans e4
        have HG7 : Hid (w7.heap[G]? = some (.cells #[.string (bs R), .slice (some ⟨g, o, none⟩) T.length c2] 74 (0, 0))) := (blk G hGl (fun h => hgx h.symm)).trans (unhide HG)
        have hg7 : g7 ≠ G := by omega
        have B7 := hide (((unhide HB).alloc hzs (.cells #[.string Ti] 9)).grown hgrow7 (by simp; omega) (fun q hq => ((unhide HO).lt q hq).1))
        clear hown7 hgrow7 hat hat' blk y1 z1 HO HC HB HG hts
        obtain ⟨I, hI⟩ : ∃ I, I = j + 1 := ⟨_, rfl⟩
        have e2 : 1 + j + 1 = 1 + I := by omega
        rw [e2]
        rw [← hI] at H7
        have HI := hide hI
        clear hI e2
        go_wp2
        go_roundw
        case rel => exact ⟨I, g7, c7, by have := unhide HI; omega, by have := unhide HI; subst this; go_num, rfl, hg7, unhide H7, unhide HG7, unhide HC7, unhide B7⟩
        case measure => have := unhide HI; simp [intOf]; omega
      · have hjT : j = T.length := by omega
        subst hjT
        have qi : ¬ (T.length : Int) < T.length := by omega
        rw [List.take_length] at hown
        have H9 : Hid (OwnS wr w.heap.size (.slice (some ⟨gx, 0, none⟩) (1 + T.length) cx) (LT :: T)) := by
          show World.ownsRow _ _ _ _ _ _ _
          rw [List.length_cons, Nat.add_comm T.length 1]
          exact hown
        have HB := hide hb
        clear hown hb hcells hG
        obtain ⟨M, hM⟩ : ∃ M, M = 1 + T.length := ⟨_, rfl⟩
        rw [← hM] at H9 ⊢
        clear hM
        go_wp2
        go_ret
        exact ⟨_, rfl, unhide H9, unhide HB⟩
  · rw [if_neg h0]
    have hE := foldE_cases n i D path
    clear hT h2 h3
    generalize foldE n i D path = E at *
    generalize bs s = B at *
    generalize leafT s = LT at *
    generalize path.length = m at *
    rcases hE with rfl | rfl | rfl
    · exact absurd rfl h0
    all_goals
      go_enter Try.func30, Try.ntmps30
      go_wp2_with fail
      refine (unhide hlt _).mono ?_
      rintro e w1 ⟨rfl, rfl⟩
      go_wp2_with fail
      refine (unhide hsm _).mono ?_
      rintro e w1 ⟨rfl, b1⟩
      go_wp2_with fail
      refine (unhide hf _ b1).mono ?_
      rintro e w2 ⟨rfl, rfl⟩
      go_wp2
      go_ret
      exact ⟨_, rfl, World.ownsRow_nil _ _ _ _, b1⟩

end Go.Proofs.Ytiaohpkcncbdnaa

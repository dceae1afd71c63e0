/- The document's Path and Same; the law MerklePaths, walked. -/
import Derived.Test.YtiaohpkcncbdnaaMkW
namespace Go.Proofs.Ytiaohpkcncbdnaa
open Go.RowKit
set_option linter.unusedVariables false

theorem below_drawn {B : Nat} {a w : World} (h : Below B a w) (n : Nat) : Below B a (w.drewN n) := h.trans ⟨rfl, rfl, rfl, Nat.le_refl _, fun _ _ => rfl⟩
set_option maxRecDepth 100000 in
set_option maxHeartbeats 1000000 in
theorem msame_any (w : World) (T : List By) (a0 b0 : Option Addr) (c d : Nat) (hk : T.length ≤ 100000) (hA : Txts w a0 T) (hB : Txts w b0 T) :
    Calls Try.prog 20 #[.slice a0 T.length c, .slice b0 T.length d] w fun e w' => e = .returned (.bool true) ∧ Below w.heap.size w w' := by
  have HA := hide hA
  have HB := hide hB
  clear hA hB
  generalize hk' : T.length = k at *
  have HK := hide hk'
  clear hk'
  go_enter Try.func20, Try.ntmps20
  go_wp2_with fail
  go_loopw [5] (fun v wr => ∃ i q : Nat, i ≤ k ∧ v = .int .i64 i ∧ w.drewN q = wr) (fun v _ => k - (intOf v).toNat)
  case atStart => exact ⟨0, 0, Nat.zero_le _, rfl, rfl⟩
  case round =>
    obtain ⟨i, q, hi, rfl, rfl⟩ := hrel
    by_cases hlt : i < k
    · have hlt' : i < T.length := by rw [unhide HK]; exact hlt
      obtain ⟨g, o, rfl, c1⟩ := unhide HA i hlt'
      obtain ⟨g', o', rfl, c2⟩ := unhide HB i hlt'
      generalize bs T[i] = B at *
      clear hlt'
      have q1 : (i : Int) < k := by omega
      go_wp2
      go_quiet (fail)
      go_wp2
      go_roundw
      case rel => exact ⟨i + 1, q + nq, by omega, by go_num, rfl⟩
      case measure => simp [intOf]; omega
    · have q1 : ¬ (i : Int) < k := by omega
      go_wp2
      go_ret
      exact ⟨rfl, below_drawn (Below.refl _ _) _⟩

set_option maxRecDepth 100000 in
theorem rpath_fault (ss : List By) (i : Int) (a0 : Option Addr) (c : Nat) (w : World) (hT : Txts w a0 ss) (h2 : ss.length ≤ 100000) (h3 : ∀ s ∈ ss, s.length ≤ 100000) (h0 : pathE ss i ≠ 0) :
    Calls Try.prog 19 #[.slice a0 ss.length c, .int .i64 i] w fun e w' => e = .returned (.tuple #[.slice none 0 0, .int .i64 (pathE ss i)]) ∧ Below w.heap.size w w' := by
  have hf := hide (fun w' (hb : Below w.heap.size w w') => rmay_any ss a0 c w' (hT.below hb) h2 h3)
  clear hT h3
  rcases mayE_cases ss with hE | hE
  · have hp : pathE ss i = if i < 0 ∨ (ss.length : Int) ≤ i then 1 else 0 := by unfold pathE; rw [if_pos hE]
    rw [hp] at h0 ⊢
    rw [hE] at hf
    have hor : i < 0 ∨ (ss.length : Int) ≤ i := by
      by_cases h : i < 0 ∨ (ss.length : Int) ≤ i
      · exact h
      · rw [if_neg h] at h0; exact absurd rfl h0
    rw [if_pos hor]
    clear hp h0 hE
    generalize ss.length = n at *
    by_cases hi : i < 0
    · clear hor
      go_enter Try.func19, Try.ntmps19
      go_wp2_with fail
      refine (unhide hf _ (Below.refl _ _)).mono ?_
      rintro e w1 ⟨rfl, rfl⟩
      go_wp2
      go_ret2
      exact ⟨rfl, Below.refl _ _⟩
    · have hi2 : (n : Int) ≤ i := by omega
      clear hor
      go_enter Try.func19, Try.ntmps19
      go_wp2_with fail
      refine (unhide hf _ (Below.refl _ _)).mono ?_
      rintro e w1 ⟨rfl, rfl⟩
      go_wp2
      go_ret2
      exact ⟨rfl, Below.refl _ _⟩
  · have hp : pathE ss i = mayE ss := by unfold pathE; rw [if_neg (by omega)]
    rw [hp] at h0 ⊢
    clear hp
    generalize mayE ss = E at *
    rcases hE with rfl | rfl
    all_goals
      go_enter Try.func19, Try.ntmps19
      go_wp2_with fail
      refine (unhide hf _ (Below.refl _ _)).mono ?_
      rintro e w1 ⟨rfl, rfl⟩
      go_wp2
      go_ret2
      exact ⟨rfl, Below.refl _ _⟩

set_option maxRecDepth 100000 in
theorem rpath_any (ss : List By) (i : Nat) (a0 : Option Addr) (c : Nat) (w : World) (hT : Txts w a0 ss) (hc : ss.length ≤ c) (hcm : c ≤ maxLen) (h0 : mayE ss = 0) (hi : i < ss.length) :
    Calls Try.prog 19 #[.slice a0 ss.length c, .int .i64 i] w fun e w' => ∃ v, e = .returned (.tuple #[v, .int .i64 0]) ∧ OwnS w' w.heap.size v (way shaSum (ss.map (leafP shaSum)) i) ∧ Below w.heap.size w w' := by
  obtain ⟨x1, x2, x3⟩ := mayE_ok h0
  have hf := hide (fun w' (hb : Below w.heap.size w w') => rmay_any ss a0 c w' (hT.below hb) (by omega) (fun s hs => by have := x3 s hs; omega))
  rw [h0] at hf
  obtain ⟨g, o, rfl, hcc⟩ := hT 0 (by omega)
  clear hcc
  have hw := hide (rway_any ss.length ss g o c i w rfl hT hi x2 hc hcm (fun s hs => Nat.le_trans (x3 s hs) (by omega)))
  generalize way shaSum (ss.map (leafP shaSum)) i = Y at *
  clear hT x3 h0
  generalize ss.length = n at *
  unfold maxLen at hcm
  have q0 : ¬ (i : Int) < 0 := by omega
  have q1 : ¬ (n : Int) ≤ i := by omega
  go_enter Try.func19, Try.ntmps19
  go_wp2_with fail
  refine (unhide hf _ (Below.refl _ _)).mono ?_
  rintro e w1 ⟨rfl, rfl⟩
  go_wp2_with fail
  refine (unhide hw).mono ?_
  rintro e w2 ⟨v, rfl, ho, b2⟩
  have HO := hide ho
  clear ho
  go_wp2
  go_ret2
  exact ⟨_, rfl, unhide HO, b2⟩

theorem OwnS.txts {w : World} {base : Nat} {v : Value} {T : List By} (h : OwnS w base v T) : ∃ a0 c, v = .slice a0 T.length c ∧ Txts w a0 T := by
  obtain ⟨a0, c, h1, h2, _⟩ := own_strs h
  exact ⟨a0, c, h1, h2.txts⟩

set_option maxRecDepth 100000 in
set_option maxHeartbeats 2000000 in
theorem merklePaths_any (a0 : Option Addr) (ss : List By) (c : Nat) (i : Int) (w : World) (hT : Txts w a0 ss) (hm : TxtsOk ss c) :
    Calls Try.prog 4 #[.slice a0 ss.length c, .int .i64 i] w fun e w' => e = .returned (.bool true) ∧ Below w.heap.size w w' := by
  obtain ⟨m1, m2, m3⟩ := hm
  have haw := hide mawake_any
  have hfew := hide (fun w' (hb : Below w.heap.size w w') => few_any ss a0 c 30 1100 w' (hT.below hb) (by omega) (by omega) (by omega) m3)
  cases hF : fewB ss 30 1100 with
  | false =>
    rw [hF] at hfew
    clear hT m3 hF
    generalize ss.length = n at *
    go_enter Try.func4, Try.ntmps4
    go_wp2_with fail
    refine (unhide hfew _ (Below.refl _ _)).mono ?_
    rintro e w1 ⟨rfl, rfl⟩
    go_wp2_with fail
    refine (unhide haw _).mono ?_
    rintro e w1 ⟨rfl, b1⟩
    go_wp2
    go_ret
    exact ⟨rfl, b1⟩
  | true =>
    rw [hF] at hfew
    obtain ⟨f1, f2⟩ := of_decide_eq_true hF
    by_cases hp : pathE ss i = 0
    · have h0 : mayE ss = 0 := by
        unfold pathE at hp
        split at hp
        · assumption
        · exact hp
      have hi : ¬ (i < 0 ∨ (ss.length : Int) ≤ i) := by
        intro h
        unfold pathE at hp
        rw [if_pos h0, if_pos h] at hp
        cases hp
      obtain ⟨I, rfl⟩ : ∃ I : Nat, i = I := ⟨i.toNat, by omega⟩
      have hI : I < ss.length := by omega
      have hr := hide (fun w' (hb : Below w.heap.size w w') => path_any ss I a0 c w' (hT.below hb) h0 hI)
      have hr2 := hide (fun w' (hb : Below w.heap.size w w') => rpath_any ss I a0 c w' (hT.below hb) m1 m2 h0 hI)
      have hd := hide (fun w => depth_any ss.length I w (by omega) (by omega) hI)
      have hwl : (way shaSum (ss.map (leafP shaSum)) I).length = (plan ss.length I).length := by
        rw [way_length shaSum _ _ (by rw [List.length_map]; exact hI), List.length_map]
      have hpl := plan_length ss.length I 8 hI (by omega)
      rw [← hwl] at hd hpl
      generalize way shaSum (ss.map (leafP shaSum)) I = Y at *
      clear hT m3 hF f2 h0 hp hwl hi
      generalize ss.length = n at *
      go_enter Try.func4, Try.ntmps4
      go_wp2_with fail
      refine (unhide hfew _ (Below.refl _ _)).mono ?_
      rintro e w1 ⟨rfl, rfl⟩
      go_wp2_with fail
      refine (unhide hr _ (Below.refl _ _)).mono ?_
      rintro e w1 ⟨v, rfl, ho1, b1⟩
      obtain ⟨a1, c1, rfl, t1⟩ := ho1.txts
      go_wp2_with fail
      refine (unhide hr2 _ b1).mono ?_
      rintro e w2 ⟨v, rfl, ho2, b2⟩
      obtain ⟨a2, c2, rfl, t2⟩ := ho2.txts
      have T1 := hide (t1.below b2)
      have T2 := hide t2
      have B2 := hide (b1.trans (b2.mono b1.size))
      clear ho1 ho2 t1 t2 b1 b2 hr hr2 hfew
      go_wp2_with fail
      refine (unhide haw _).mono ?_
      rintro e w3 ⟨rfl, b3⟩
      have hs := hide (msame_any w3 Y a1 a2 c1 c2 (by omega) ((unhide T1).below b3) ((unhide T2).below b3))
      have B3 := hide ((unhide B2).trans (b3.mono (unhide B2).size))
      clear T1 T2 b3 B2
      generalize Y.length = y at *
      go_wp2_with fail
      refine (unhide hs).mono ?_
      rintro e w4 ⟨rfl, b4⟩
      have B4 := hide ((unhide B3).trans (b4.mono (unhide B3).size))
      clear b4 B3 hs
      go_wp2_with fail
      refine (unhide hd _).mono ?_
      rintro e w5 ⟨rfl, rfl⟩
      go_wp2
      go_ret
      exact ⟨rfl, unhide B4⟩
    · have hr := hide (fun w' (hb : Below w.heap.size w w') => path_fault ss i a0 c w' (hT.below hb) (by omega) (fun s hs => Nat.le_trans (f2 s hs) (by omega)) hp)
      have hr2 := hide (fun w' (hb : Below w.heap.size w w') => rpath_fault ss i a0 c w' (hT.below hb) (by omega) (fun s hs => Nat.le_trans (f2 s hs) (by omega)) hp)
      have hE : pathE ss i = 1 ∨ pathE ss i = 2 := by
        have h1 := mayE_cases ss
        unfold pathE at hp ⊢
        split
        · rename_i h; rw [if_pos h] at hp
          split
          · exact .inl rfl
          · rename_i h'; rw [if_neg h'] at hp; exact absurd rfl hp
        · omega
      have hs := hide (fun w' => msame_any w' [] none none 0 0 (by simp) (fun i hi => absurd hi (by simp)) (fun i hi => absurd hi (by simp)))
      simp only [List.length_nil] at hs
      generalize pathE ss i = E at *
      clear hT m3 hF f2
      generalize ss.length = n at *
      rcases hE with rfl | rfl
      all_goals
        go_enter Try.func4, Try.ntmps4
        go_wp2_with fail
        refine (unhide hfew _ (Below.refl _ _)).mono ?_
        rintro e w1 ⟨rfl, rfl⟩
        go_wp2_with fail
        refine (unhide hr _ (Below.refl _ _)).mono ?_
        rintro e w1 ⟨rfl, b1⟩
        go_wp2_with fail
        refine (unhide hr2 _ b1).mono ?_
        rintro e w2 ⟨rfl, b2⟩
        have B2 := hide (b1.trans (b2.mono b1.size))
        clear b1 b2
        go_wp2_with fail
        refine (unhide haw _).mono ?_
        rintro e w3 ⟨rfl, b3⟩
        have B3 := hide ((unhide B2).trans (b3.mono (unhide B2).size))
        clear b3 B2
        go_wp2_with fail
        refine (unhide hs _).mono ?_
        rintro e w4 ⟨rfl, b4⟩
        have B4 := hide ((unhide B3).trans (b4.mono (unhide B3).size))
        clear b4 B3
        go_wp2
        go_ret
        exact ⟨rfl, unhide B4⟩

end Go.Proofs.Ytiaohpkcncbdnaa

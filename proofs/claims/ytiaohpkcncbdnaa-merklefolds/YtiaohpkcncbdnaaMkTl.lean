/- The document's Texts; what the law MerkleTexts does, whatever the world: it answers true and changes nothing that was there. -/
import Derived.Test.YtiaohpkcncbdnaaMkTt
namespace Go.Proofs.Ytiaohpkcncbdnaa
open Go.RowKit
set_option linter.unusedVariables false

set_option maxRecDepth 100000 in
theorem rtextsL_any (ss : List By) (a0 : Option Addr) (c : Nat) (w : World) (hT : Txts w a0 ss) (hc : ss.length ≤ c) (hcm : c ≤ maxLen) (h2 : ss.length ≤ 100000) (h3 : ∀ s ∈ ss, s.length ≤ 100000) :
    Calls Try.prog 32 #[.slice a0 ss.length c] w fun e w' => ∃ a1 c1, e = .returned (.slice a1 (textsOf ss).length c1) ∧ Txts w' a1 (textsOf ss) ∧ Below w.heap.size w w' := by
  have hf := hide (fun w' (hb : Below w.heap.size w w') => rmay_any ss a0 c w' (hT.below hb) h2 h3)
  rcases mayE_cases ss with h0 | hE
  · obtain ⟨x1, x2, x3⟩ := mayE_ok h0
    obtain ⟨g, o, rfl, hcc⟩ := hT 0 (by omega)
    clear hcc
    have ht := hide (rtexts_any ss.length ss g o c w rfl hT x1 x2 hc hcm (fun s hs => Nat.le_trans (x3 s hs) (by omega)))
    rw [show textsOf ss = (treeP shaSum (ss.map (leafP shaSum))).2 from if_pos h0]
    rw [h0] at hf
    clear hT h3 x3 h0
    generalize (treeP shaSum (ss.map (leafP shaSum))).2 = P at *
    generalize ss.length = n at *
    go_enter Try.func32, Try.ntmps32
    go_wp2_with fail
    refine (unhide hf _ (Below.refl _ _)).mono ?_
    rintro e w1 ⟨rfl, rfl⟩
    go_wp2_with fail
    refine (unhide ht).mono ?_
    rintro e w2 ⟨v, rfl, ho, b2⟩
    obtain ⟨a5, c5, rfl, hs⟩ := ho.txts
    have HS := hide hs
    clear hs ho
    go_wp2
    go_ret
    exact ⟨_, _, rfl, unhide HS, b2⟩
  · rw [show textsOf ss = [] from if_neg (by omega)]
    clear hT h3
    generalize ss.length = n at *
    generalize mayE ss = E at *
    rcases hE with rfl | rfl
    all_goals
      go_enter Try.func32, Try.ntmps32
      go_wp2_with fail
      refine (unhide hf _ (Below.refl _ _)).mono ?_
      rintro e w1 ⟨rfl, rfl⟩
      go_wp2
      go_ret
      exact ⟨_, _, rfl, fun i hi => absurd hi (by simp), Below.refl _ _⟩

theorem tree_end (ss : List By) (h : 1 ≤ ss.length) : ∃ hl : 2 * ss.length - 2 < (treeP shaSum (ss.map (leafP shaSum))).2.length, shaSum ((treeP shaSum (ss.map (leafP shaSum))).2[2 * ss.length - 2]) = (treeP shaSum (ss.map (leafP shaSum))).1 := by
  have hlen := tree_texts_len ss h
  obtain ⟨t, h1, h2⟩ := tree_last shaSum (ss.map (leafP shaSum)) (by rw [List.length_map]; exact h) (fun p hp => by obtain ⟨s, _, rfl⟩ := List.mem_map.1 hp; exact ⟨leafT s, rfl, rfl⟩)
  refine ⟨by omega, ?_⟩
  rw [List.getLast?_eq_getElem?, hlen, show 2 * ss.length - 1 - 1 = 2 * ss.length - 2 by omega, List.getElem?_eq_getElem (by omega)] at h1
  rw [Option.some.inj h1]
  exact h2
theorem knotT_len (a b : By) : (knotT a b).length = a.length + b.length + 1 := by
  simp [knotT]
theorem texts_short (ss : List By) (h : 1 ≤ ss.length) (hs : ∀ s ∈ ss, s.length ≤ 1024) : ∀ t ∈ (treeP shaSum (ss.map (leafP shaSum))).2, t.length ≤ 1100 := by
  suffices H : ∀ (N : Nat) (ss : List By), ss.length = N → 1 ≤ N → (∀ s ∈ ss, s.length ≤ 1024) → ∀ t ∈ (treeP shaSum (ss.map (leafP shaSum))).2, t.length ≤ 1100 from H _ ss rfl h hs
  intro N
  induction N using Nat.strongRecOn with
  | ind N ih =>
    intro ss hN h1 hs t ht
    by_cases e : N = 1
    · subst e
      obtain ⟨s, rfl⟩ : ∃ s, ss = [s] := by
        match ss, hN with
        | [s], _ => exact ⟨s, rfl⟩
      rw [show ([s].map (leafP shaSum)) = [leafP shaSum s] from rfl, treeP_one] at ht
      simp only [leafP, List.mem_singleton] at ht
      have := hs s (by simp)
      rw [ht]
      simp [leafT]
      omega
    · have hk1 := half_lt N (by omega)
      have hk2 := half_pos N
      have L1 : (treeP shaSum ((ss.take (half N)).map (leafP shaSum))).1.length = 32 := tree_len32 shaSum shaSum_length _ (by rw [List.length_map, List.length_take]; omega) (fun p hp => by obtain ⟨s, _, rfl⟩ := List.mem_map.1 hp; exact shaSum_length _)
      have L2 : (treeP shaSum ((ss.drop (half N)).map (leafP shaSum))).1.length = 32 := tree_len32 shaSum shaSum_length _ (by rw [List.length_map, List.length_drop]; omega) (fun p hp => by obtain ⟨s, _, rfl⟩ := List.mem_map.1 hp; exact shaSum_length _)
      rw [treeP_more shaSum _ (by rw [List.length_map]; omega), List.length_map, hN, ← List.map_take, ← List.map_drop] at ht
      simp only [joinP, List.mem_append, List.mem_singleton] at ht
      rcases ht with (ht | ht) | ht
      · exact ih (half N) hk1 (ss.take (half N)) (by rw [List.length_take]; omega) (by omega) (fun s h' => hs s (List.mem_of_mem_take h')) t ht
      · exact ih (N - half N) (by omega) (ss.drop (half N)) (by rw [List.length_drop]; omega) (by omega) (fun s h' => hs s (List.mem_of_mem_drop h')) t ht
      · rw [ht, knotT_len, L1, L2]
        omega

set_option maxRecDepth 100000 in
set_option maxHeartbeats 2000000 in
theorem merkleTexts_any (a0 : Option Addr) (ss : List By) (c : Nat) (w : World) (hT : Txts w a0 ss) (hm : TxtsOk ss c) :
    Calls Try.prog 7 #[.slice a0 ss.length c] w fun e w' => e = .returned (.bool true) ∧ Below w.heap.size w w' := by
  obtain ⟨m1, m2, m3⟩ := hm
  have haw := hide mawake_any
  have hfew := hide (fun w' (hb : Below w.heap.size w w') => few_any ss a0 c 25 1100 w' (hT.below hb) (by omega) (by omega) (by omega) m3)
  cases hF : fewB ss 25 1100 with
  | false =>
    rw [hF] at hfew
    clear hT m3 hF
    generalize ss.length = n at *
    go_enter Try.func7, Try.ntmps7
    go_wp2_with fail
    refine (unhide hfew _ (Below.refl _ _)).mono ?_
    rintro e w1 ⟨rfl, rfl⟩
    go_wp2_with fail
    refine (unhide haw _).mono ?_
    rintro e w1 ⟨rfl, b1⟩
    go_wp2
    go_ret
    exact ⟨rfl, b1⟩
  | true =>
    rw [hF] at hfew
    obtain ⟨f1, f2⟩ := of_decide_eq_true hF
    have f3 : ∀ s ∈ ss, s.length ≤ 100000 := fun s hs => Nat.le_trans (f2 s hs) (by omega)
    have h1 := hide (fun w' (hb : Below w.heap.size w w') => mtexts_any ss a0 c w' (hT.below hb) (by omega) f3)
    have h2 := hide (fun w' (hb : Below w.heap.size w w') => rtextsL_any ss a0 c w' (hT.below hb) m1 m2 (by omega) f3)
    have h3 := hide (fun w' (hb : Below w.heap.size w w') => root_any ss a0 c w' (hT.below hb) (by omega) f3)
    rcases mayE_cases ss with h0 | hE
    · obtain ⟨x1, x2, x3⟩ := mayE_ok h0
      have hte : textsOf ss = (treeP shaSum (ss.map (leafP shaSum))).2 := if_pos h0
      obtain ⟨hl, hsum⟩ := tree_end ss x1
      have hlen := tree_texts_len ss x1
      have hsh := texts_short ss x1 x3
      rw [if_pos h0, h0] at h3
      rw [hte] at h1 h2
      generalize (treeP shaSum (ss.map (leafP shaSum))).2 = T at *
      generalize (treeP shaSum (ss.map (leafP shaSum))).1 = R at *
      have hs := hide (fun w' a1 a2 c1 c2 (t1 : Txts w' a1 T) (t2 : Txts w' a2 T) => msame_any w' T a1 a2 c1 c2 (by omega) t1 t2)
      have hrs := fun w' => rsum_t (T[2 * ss.length - 2]) w' (by have := hsh _ (List.getElem_mem hl); omega)
      rw [hsum] at hrs
      have hrs := hide hrs
      have hget : Hid (∀ w' a1, Txts w' a1 T → ∃ g o, a1 = some ⟨g, o, none⟩ ∧ w'.cell? ⟨g, o + (2 * ss.length - 2), none⟩ = some (.string (bs T[2 * ss.length - 2]))) := fun w' a1 h => h _ hl
      generalize bs T[2 * ss.length - 2] = LT at *
      obtain ⟨J, hJ⟩ : ∃ J, 2 * ss.length - 2 = J := ⟨_, rfl⟩
      rw [hJ] at hget
      have x4 : 2 * (ss.length : Int) - 1 - 1 = (J : Int) := by omega
      have hnl : ((2 * ss.length - 1 : Nat) : Int) = 2 * (ss.length : Int) - 1 := by omega
      have x5 : (J : Int) < 2 * (ss.length : Int) - 1 := by omega
      have x6 : 0 ≤ 2 * (ss.length : Int) - 1 := by omega
      rw [hlen] at h1 h2 hs
      obtain ⟨M, hM⟩ : ∃ M, 2 * ss.length - 1 = M := ⟨_, rfl⟩
      rw [hM] at h1 h2 hs hnl
      have hMJ : (M : Int) - 1 = (J : Int) := by omega
      have hJM : (J : Int) < M := by omega
      have hM50 : M ≤ 50 := by omega
      have hMn : (M : Int) = 2 * (ss.length : Int) - 1 := hnl
      have HMn := hide hMn
      generalize bs R = RB at *
      clear hT m3 hF f2 f3 h0 x3 hte hlen hsh hl hsum hJ hM hnl x4 x5 x6 hMn
      generalize ss.length = n at *
      go_enter Try.func7, Try.ntmps7
      go_wp2_with fail
      refine (unhide hfew _ (Below.refl _ _)).mono ?_
      rintro e w1 ⟨rfl, rfl⟩
      go_wp2_with fail
      refine (unhide h1 _ (Below.refl _ _)).mono ?_
      rintro e w1 ⟨a1, c1, rfl, t1, _, b1⟩
      go_wp2_with fail
      refine (unhide h2 _ b1).mono ?_
      rintro e w2 ⟨a2, c2, rfl, t2, b2⟩
      have T1 := hide (t1.below b2)
      have T2 := hide t2
      have B2 := hide (b1.trans (b2.mono b1.size))
      clear t1 t2 b1 b2 h1 h2 hfew
      go_wp2_with fail
      refine (unhide hs _ _ _ _ _ (unhide T1) (unhide T2)).mono ?_
      rintro e w3 ⟨rfl, b3⟩
      have T1n := hide ((unhide T1).below b3)
      have B3 := hide ((unhide B2).trans (b3.mono (unhide B2).size))
      clear T1 T2 b3 B2
      go_wp2_with fail
      refine (unhide h3 _ (unhide B3)).mono ?_
      rintro e w4 ⟨rfl, b4⟩
      have T1 := hide ((unhide T1n).below b4)
      have B4 := hide ((unhide B3).trans (b4.mono (unhide B3).size))
      clear T1n b4 B3
      go_wp2_with fail
      refine (unhide haw _).mono ?_
      rintro e w5 ⟨rfl, b5⟩
      obtain ⟨g, o, rfl, y1⟩ := unhide hget _ _ ((unhide T1).below b5)
      have B5 := hide ((unhide B4).trans (b5.mono (unhide B4).size))
      have hMn := (unhide HMn).symm
      clear T1 b5 B4
      go_wp2_with fail
      refine (unhide hrs _).mono ?_
      rintro e w6 ⟨rfl, b6⟩
      have B6 := hide ((unhide B5).trans (b6.mono (unhide B5).size))
      clear b6 B5
      go_wp2
      go_ret
      exact ⟨rfl, unhide B6⟩
    · have hte : textsOf ss = [] := if_neg (by omega)
      rw [if_neg (by omega)] at h3
      rw [hte] at h1 h2
      simp only [List.length_nil] at h1 h2
      have hs := hide (fun w' a1 a2 c1 c2 => msame_any w' [] a1 a2 c1 c2 (by simp) (fun i hi => absurd hi (by simp)) (fun i hi => absurd hi (by simp)))
      simp only [List.length_nil] at hs
      generalize mayE ss = E at *
      clear hT m3 hF f2 f3 hte
      generalize ss.length = n at *
      rcases hE with rfl | rfl
      all_goals
        go_enter Try.func7, Try.ntmps7
        go_wp2_with fail
        refine (unhide hfew _ (Below.refl _ _)).mono ?_
        rintro e w1 ⟨rfl, rfl⟩
        go_wp2_with fail
        refine (unhide h1 _ (Below.refl _ _)).mono ?_
        rintro e w1 ⟨a1, c1, rfl, t1, _, b1⟩
        go_wp2_with fail
        refine (unhide h2 _ b1).mono ?_
        rintro e w2 ⟨a2, c2, rfl, t2, b2⟩
        have B2 := hide (b1.trans (b2.mono b1.size))
        clear t1 t2 b1 b2
        go_wp2_with fail
        refine (unhide hs _ _ _ _ _).mono ?_
        rintro e w3 ⟨rfl, b3⟩
        have B3 := hide ((unhide B2).trans (b3.mono (unhide B2).size))
        clear b3 B2
        go_wp2_with fail
        refine (unhide h3 _ (unhide B3)).mono ?_
        rintro e w4 ⟨rfl, b4⟩
        have B4 := hide ((unhide B3).trans (b4.mono (unhide B3).size))
        clear b4 B3
        go_wp2_with fail
        refine (unhide haw _).mono ?_
        rintro e w5 ⟨rfl, b5⟩
        have B5 := hide ((unhide B4).trans (b5.mono (unhide B4).size))
        clear b5 B4
        go_wp2
        go_ret
        exact ⟨rfl, unhide B5⟩

end Go.Proofs.Ytiaohpkcncbdnaa

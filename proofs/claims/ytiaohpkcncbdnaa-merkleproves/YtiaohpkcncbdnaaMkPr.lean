/- What the law MerkleProves does, whatever the world: it answers true and changes nothing that was there. -/
import Derived.Test.YtiaohpkcncbdnaaMkFo
import Derived.Test.YtiaohpkcncbdnaaMkTl
namespace Go.Proofs.Ytiaohpkcncbdnaa
open Go.RowKit
set_option linter.unusedVariables false

theorem way_32 (l : List Prt) (i : Nat) (hi : i < l.length) (hl : ∀ p ∈ l, p.1.length = 32) : ∀ x ∈ way shaSum l i, x.length = 32 := by
  induction hn : l.length using Nat.strongRecOn generalizing l i with
  | _ n ih =>
    intro x hx
    by_cases h1 : l.length ≤ 1
    · rw [way_one shaSum l i h1] at hx; cases hx
    · have hlt := half_lt l.length (by omega)
      have hps := half_pos l.length
      have hta : (l.take (half l.length)).length = half l.length := by rw [List.length_take]; omega
      have hdr : (l.drop (half l.length)).length = l.length - half l.length := List.length_drop ..
      by_cases hk : i < half l.length
      · rw [way_left shaSum l i (by omega) hk, List.mem_append] at hx
        rcases hx with hx | hx
        · exact ih _ (by omega) _ i (by omega) (fun p hp => hl p (List.mem_of_mem_take hp)) hta x hx
        · simp only [List.mem_singleton] at hx
          rw [hx]
          exact tree_len32 shaSum shaSum_length _ (by omega) (fun p hp => hl p (List.mem_of_mem_drop hp))
      · rw [way_right shaSum l i (by omega) hk, List.mem_append] at hx
        rcases hx with hx | hx
        · exact ih _ (by omega) _ (i - half l.length) (by omega) (fun p hp => hl p (List.mem_of_mem_drop hp)) hdr x hx
        · simp only [List.mem_singleton] at hx
          rw [hx]
          exact tree_len32 shaSum shaSum_length _ (by omega) (fun p hp => hl p (List.mem_of_mem_take hp))

/-- what is proved of a leaf's path -/
theorem proves (ss : List By) (K : Nat) (hK : K < ss.length) (h256 : ss.length ≤ 256) : foldE ss.length K (shaSum (leafT ss[K])) (way shaSum (ss.map (leafP shaSum)) K) = 0 ∧
    foldR ss.length K (shaSum (leafT ss[K])) (way shaSum (ss.map (leafP shaSum)) K) = (treeP shaSum (ss.map (leafP shaSum))).1 ∧
    ∃ t, (roadR ss.length K ss[K] (way shaSum (ss.map (leafP shaSum)) K)).getLast? = some t ∧ (treeP shaSum (ss.map (leafP shaSum))).2.getLast? = some t := by
  have hml : (ss.map (leafP shaSum)).length = ss.length := List.length_map ..
  have hel : (ss.map (leafP shaSum))[K]'(by omega) = leafP shaSum ss[K] := List.getElem_map ..
  have hwl := way_length shaSum (ss.map (leafP shaSum)) K (by omega)
  rw [hml] at hwl
  have h32 := way_32 (ss.map (leafP shaSum)) K (by omega) (fun p hp => by obtain ⟨s, _, rfl⟩ := List.mem_map.1 hp; exact shaSum_length _)
  have hth : there ss.length K = true := decide_eq_true (by omega)
  have hE : foldE ss.length K (shaSum (leafT ss[K])) (way shaSum (ss.map (leafP shaSum)) K) = 0 := by
    unfold foldE
    rw [depI_pos hth, shaSum_length, if_neg (by simp), if_neg (by simp [hwl]), if_pos h32]
  have hf := way_folds shaSum (ss.map (leafP shaSum)) K (by omega)
  rw [hel, hml] at hf
  refine ⟨hE, ?_, ?_⟩
  · unfold foldR
    rw [if_pos hE, Int.toNat_natCast, Int.toNat_natCast]
    exact hf
  · unfold roadR
    rw [if_pos hE, Int.toNat_natCast, Int.toNat_natCast]
    by_cases h2 : 2 ≤ ss.length
    · obtain ⟨t, h3, h4⟩ := way_last shaSum (ss.map (leafP shaSum)) K (by omega) (by omega)
      rw [hel, hml] at h3
      refine ⟨t, ?_, h4⟩
      have h5 : (climbP shaSum (plan ss.length K) (shaSum (leafT ss[K])) (way shaSum (ss.map (leafP shaSum)) K)).2.getLast? = some t := h3
      generalize (climbP shaSum (plan ss.length K) (shaSum (leafT ss[K])) (way shaSum (ss.map (leafP shaSum)) K)).2 = C at *
      cases C with
      | nil => cases h5
      | cons x C => rw [List.getLast?_cons_cons]; exact h5
    · obtain ⟨s, rfl⟩ : ∃ s, ss = [s] := by
        match ss, hK, h2 with
        | [s], _, _ => exact ⟨s, rfl⟩
        | a :: b :: r, _, h2 => simp at h2
      have hK0 : K = 0 := by simp at hK; exact hK
      subst hK0
      refine ⟨leafT s, ?_, ?_⟩
      · rw [way_one shaSum _ _ (by simp), climbP_nil]; rfl
      · rw [show [s].map (leafP shaSum) = [leafP shaSum s] from rfl, treeP_one]; rfl

theorem OwnS.caps {w : World} {base : Nat} {a0 : Option Addr} {c n : Nat} {T : List By} (h : OwnS w base (.slice a0 n c) T) : T.length ≤ c ∧ c ≤ maxLen := by
  rcases (show World.ownsRow _ _ _ _ _ _ _ from h).2 with ⟨h', h0⟩ | ⟨g, cap', cur, h', _, _, h2, h3, _⟩
  · cases h'; omega
  · cases h'; exact ⟨h2, h3⟩

set_option maxRecDepth 100000 in
set_option maxHeartbeats 4000000 in
theorem merkleProves_any (a0 : Option Addr) (ss : List By) (c : Nat) (i : Int) (w : World) (hT : Txts w a0 ss) (hm : TxtsOk ss c) :
    Calls Try.prog 8 #[.slice a0 ss.length c, .int .i64 i] w fun e w' => e = .returned (.bool true) ∧ Below w.heap.size w w' := by
  obtain ⟨m1, m2, m3⟩ := hm
  have haw := hide mawake_any
  have hfew := hide (fun w' (hb : Below w.heap.size w w') => few_any ss a0 c 30 1024 w' (hT.below hb) (by omega) (by omega) (by omega) m3)
  cases hF : fewB ss 30 1024 with
  | false =>
    rw [hF] at hfew
    clear hT m3 hF
    generalize ss.length = n at *
    go_enter Try.func8, Try.ntmps8
    go_wp2_with fail
    refine (unhide hfew _ (Below.refl _ _)).mono ?_
    rintro e w1 ⟨rfl, rfl⟩
    go_wp2_with fail
    refine (unhide haw _).mono ?_
    rintro e w1 ⟨rfl, b1⟩
    go_wp2
    go_ret
    exact ⟨rfl, b1⟩
  | true =>
    rw [hF] at hfew
    obtain ⟨f1, f2⟩ := of_decide_eq_true hF
    by_cases hz : ss.length = 0
    · rw [hz] at hfew ⊢
      clear hT m3 hF f1 f2 hz
      go_enter Try.func8, Try.ntmps8
      go_wp2_with fail
      refine (unhide hfew _ (Below.refl _ _)).mono ?_
      rintro e w1 ⟨rfl, rfl⟩
      go_wp2_with fail
      refine (unhide haw _).mono ?_
      rintro e w1 ⟨rfl, b1⟩
      go_wp2
      go_ret
      exact ⟨rfl, b1⟩
    have hE0 : mayE ss = 0 := by unfold mayE; rw [if_neg hz, if_neg (by omega), if_pos f2]
    obtain ⟨u, hu⟩ : ∃ u, u = i.tmod ss.length := ⟨_, rfl⟩
    have hub : -(ss.length : Int) < u ∧ u < ss.length := by
      have h1 := Int.tmod_lt_of_pos i (show (0 : Int) < ss.length by omega)
      have h2 := Int.lt_tmod_of_pos i (show (0 : Int) < ss.length by omega)
      omega
    obtain ⟨K, hKe⟩ : ∃ K : Nat, (u + ss.length).tmod ss.length = K := ⟨((u + ss.length).tmod ss.length).toNat, by have := Int.tmod_nonneg (ss.length : Int) (show 0 ≤ u + ss.length by omega); omega⟩
    have hK : K < ss.length := by
      have h1 := Int.tmod_lt_of_pos (u + ss.length) (show (0 : Int) < ss.length by omega)
      omega
    obtain ⟨hE, hR, t, ht1, ht2⟩ := proves ss K hK (by omega)
    have hroot := hide (fun w' (hb : Below w.heap.size w w') => root_any ss a0 c w' (hT.below hb) (by omega) (fun s hs => Nat.le_trans (f2 s hs) (by omega)))
    have hpath := hide (fun w' (hb : Below w.heap.size w w') => path_any ss K a0 c w' (hT.below hb) hE0 hK)
    have htx := hide (fun w' (hb : Below w.heap.size w w') => mtexts_any ss a0 c w' (hT.below hb) (by omega) (fun s hs => Nat.le_trans (f2 s hs) (by omega)))
    rw [show textsOf ss = (treeP shaSum (ss.map (leafP shaSum))).2 from if_pos hE0] at htx
    rw [if_pos hE0, hE0] at hroot
    have hTlen := tree_texts_len ss (by omega)
    have hml : (ss.map (leafP shaSum)).length = ss.length := List.length_map ..
    have hwl := way_length shaSum (ss.map (leafP shaSum)) K (by omega)
    rw [hml] at hwl
    have hpl := plan_length ss.length K 8 hK (by omega)
    have h32 := way_32 (ss.map (leafP shaSum)) K (by omega) (fun p hp => by obtain ⟨s, _, rfl⟩ := List.mem_map.1 hp; exact shaSum_length _)
    have hRlen : (roadR ss.length K ss[K] (way shaSum (ss.map (leafP shaSum)) K)).length = (way shaSum (ss.map (leafP shaSum)) K).length + 1 := by
      unfold roadR
      rw [if_pos hE, Int.toNat_natCast, Int.toNat_natCast, List.length_cons, climbP_len shaSum _ _ _ hwl.symm]
    have hsK := f2 ss[K] (List.getElem_mem hK)
    have hroad := hide (fun w' a1 c1 (hx : Txts w' a1 (way shaSum (ss.map (leafP shaSum)) K)) h1 h2 => road_any ss.length K ss[K] _ a1 c1 w' hx h1 h2 (by omega) (fun p hp => by have := h32 p hp; omega) (by omega))
    have hcheck := hide (fun w' a1 c1 (hx : Txts w' a1 (way shaSum (ss.map (leafP shaSum)) K)) h1 h2 => check_any (treeP shaSum (ss.map (leafP shaSum))).1 ss.length K (shaSum (leafT ss[K])) _ a1 c1 w' hx h1 h2 (by omega) (fun p hp => by have := h32 p hp; omega) (by rw [shaSum_length]; omega))
    rw [show decide (foldE ss.length K (shaSum (leafT ss[K])) (way shaSum (ss.map (leafP shaSum)) K) = 0 ∧ foldR ss.length K (shaSum (leafT ss[K])) (way shaSum (ss.map (leafP shaSum)) K) = (treeP shaSum (ss.map (leafP shaSum))).1) = true from decide_eq_true ⟨hE, hR⟩] at hcheck
    have hleaf := hide (fun w => mleaf_any ss[K] w (by omega))
    generalize way shaSum (ss.map (leafP shaSum)) K = Y at *
    obtain ⟨J, hJ⟩ : ∃ J, (treeP shaSum (ss.map (leafP shaSum))).2.length = J + 1 := ⟨2 * ss.length - 2, by omega⟩
    have hY : Y.length ≤ 8 := by omega
    have hJb : J ≤ 60 := by omega
    have ltx : Hid (∀ w' a1, Txts w' a1 (treeP shaSum (ss.map (leafP shaSum))).2 → ∃ g o, a1 = some ⟨g, o, none⟩ ∧ w'.cell? ⟨g, o + J, none⟩ = some (.string (bs t))) := by
      intro w' a1 h
      obtain ⟨g, o, h1, h2⟩ := h J (by omega)
      refine ⟨g, o, h1, ?_⟩
      rw [List.getLast?_eq_getElem?, hJ, Nat.add_sub_cancel, List.getElem?_eq_getElem (by omega)] at ht2
      rw [h2, Option.some.inj ht2]
    have lrd : Hid (∀ w' a1, Txts w' a1 (roadR ss.length K ss[K] Y) → ∃ g o, a1 = some ⟨g, o, none⟩ ∧ w'.cell? ⟨g, o + Y.length, none⟩ = some (.string (bs t))) := by
      intro w' a1 h
      obtain ⟨g, o, h1, h2⟩ := h Y.length (by omega)
      refine ⟨g, o, h1, ?_⟩
      rw [List.getLast?_eq_getElem?, hRlen, Nat.add_sub_cancel, List.getElem?_eq_getElem (by omega)] at ht1
      rw [h2, Option.some.inj ht1]
    generalize roadR ss.length K ss[K] Y = RD at *
    generalize (treeP shaSum (ss.map (leafP shaSum))).2 = T at *
    generalize bs (treeP shaSum (ss.map (leafP shaSum))).1 = RB at *
    rw [hJ] at htx
    have hget : Hid (∀ w', Below w.heap.size w w' → ∃ g o, a0 = some ⟨g, o, none⟩ ∧ w'.cell? ⟨g, o + K, none⟩ = some (.string (bs ss[K]))) := fun w' hb => (hT.below hb) K hK
    generalize bs ss[K] = SK at *
    generalize bs (shaSum (leafT ss[K])) = DK at *
    generalize bs t = LT at *
    have hRl := hide hRlen
    have q1 : ¬ (ss.length : Int) = 0 := by omega
    have q2 : (K : Int) < ss.length := by omega
    have HU := hide hu
    clear hT m3 hF f2 hz hE0 hE hR ht1 ht2 hTlen hml hwl hpl h32 hRlen hsK hJ hu
    generalize ss.length = n at *
    go_enter Try.func8, Try.ntmps8
    go_wp2_with fail
    refine (unhide hfew _ (Below.refl _ _)).mono ?_
    rintro e w1 ⟨rfl, rfl⟩
    have hu := (unhide HU).symm
    go_wp2_with fail
    refine (unhide hroot _ (Below.refl _ _)).mono ?_
    rintro e w1 ⟨rfl, b1⟩
    go_wp2_with fail
    refine (unhide hpath _ b1).mono ?_
    rintro e w2 ⟨v, rfl, ho2, b2⟩
    obtain ⟨a2, c2, rfl, t2⟩ := ho2.txts
    obtain ⟨k1, k2⟩ := ho2.caps
    obtain ⟨g, o, rfl, y1⟩ := unhide hget _ (b1.trans (b2.mono b1.size))
    have hr' := hide (unhide hroad _ _ _ t2 k1 k2)
    have T2 := hide t2
    have B2 := hide (b1.trans (b2.mono b1.size))
    clear ho2 t2 b1 b2 hpath hroot hroad hget
    go_wp2_with fail
    refine (unhide hr').mono ?_
    rintro e w3 ⟨v, rfl, ho3, b3⟩
    obtain ⟨a3, c3, rfl, t3⟩ := ho3.txts
    rw [unhide hRl]
    have T3 := hide t3
    have T2' := hide ((unhide T2).below b3)
    have y1' := cell_below y1 b3
    have B3 := hide ((unhide B2).trans (b3.mono (unhide B2).size))
    clear ho3 t3 hr' y1 T2 B2 b3
    go_wp2_with fail
    refine (unhide htx _ (unhide B3)).mono ?_
    rintro e w4 ⟨a4, c4, rfl, t4, _, b4⟩
    have T4 := hide t4
    have T3' := hide ((unhide T3).below b4)
    have T2 := hide ((unhide T2').below b4)
    have y1 := cell_below y1' b4
    have B4 := hide ((unhide B3).trans (b4.mono (unhide B3).size))
    clear t4 y1' T3 T2' B3 b4 htx
    go_wp2_with fail
    refine (unhide hleaf _).mono ?_
    rintro e w5 ⟨rfl, b5⟩
    have hc' := hide (unhide hcheck _ _ _ ((unhide T2).below b5) k1 k2)
    have T4' := hide ((unhide T4).below b5)
    have T3 := hide ((unhide T3').below b5)
    have B5 := hide ((unhide B4).trans (b5.mono (unhide B4).size))
    clear T2 T4 T3' B4 b5 y1 hcheck
    go_wp2_with fail
    refine (unhide hc').mono ?_
    rintro e w6 ⟨rfl, b6⟩
    obtain ⟨g4, o4, rfl, z4⟩ := unhide ltx _ _ ((unhide T4').below b6)
    obtain ⟨g3, o3, rfl, z3⟩ := unhide lrd _ _ ((unhide T3).below b6)
    have B6 := hide ((unhide B5).trans (b6.mono (unhide B5).size))
    clear T3 T4' B5 b6 hc' ltx lrd
    generalize Y.length = y at *
    go_wp2_with fail
    have hc3 : ∀ x : Gb w6, x.w.cell? ⟨g3, o3 + y, none⟩ = some (.string LT) := fun x => gb_cell z3 x
    have hc4 : ∀ x : Gb w6, x.w.cell? ⟨g4, o4 + J, none⟩ = some (.string LT) := fun x => gb_cell z4 x
    have hne := gb_ne w6
    clear z3 z4
    refine wp_region_gr (fun x => Below w6.heap.size w6 x) (by kernel_rfl) (by kernel_rfl) (gb_start w6) ?_
    repeat (go_big_quiet_step ((go_at_call 10; exact gb_call (unhide haw _))))
    refine wpQuiet_nil ?_
    rintro w7 ⟨⟨_, b7⟩, rfl⟩
    have B7 := hide ((unhide B6).trans (b7.mono (unhide B6).size))
    clear b7 hc3 hc4 hne
    go_wp2
    go_ret
    exact ⟨rfl, unhide B7⟩

end Go.Proofs.Ytiaohpkcncbdnaa

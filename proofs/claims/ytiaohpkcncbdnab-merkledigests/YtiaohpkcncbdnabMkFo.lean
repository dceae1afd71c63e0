/- Contracts of merkle's Fold, Check, Climb, Road. -/
import Derived.Test.YtiaohpkcncbdnabMkCm
import Derived.Laws.AppendOwnNone
namespace Go.Proofs.Ytiaohpkcncbdnab
open Go.RowKit
set_option linter.unusedVariables false

/-- what a digest folds to; the texts on the way; those on the road of a leaf -/
def foldR (n i : Int) (d : By) (path : List By) : By := if foldE n i d path = 0 then (climbP shaSum (plan n.toNat i.toNat) d path).1 else []
def climbR (n i : Int) (d : By) (path : List By) : List By := if foldE n i d path = 0 then (climbP shaSum (plan n.toNat i.toNat) d path).2 else []
def roadR (n i : Int) (s : By) (path : List By) : List By := if foldE n i (shaSum (leafT s)) path = 0 then leafT s :: (climbP shaSum (plan n.toNat i.toNat) (shaSum (leafT s)) path).2 else []

theorem climbedI_any (n i : Int) (d : By) (path : List By) (a0 : Option Addr) (c : Nat) (w : World) (hT : Txts w a0 path) (hc : path.length ≤ c) (hcm : c ≤ maxLen) (h0 : foldE n i d path = 0) :
    Calls Try.prog 26 #[.int .i64 n, .int .i64 i, .string (bs d), .slice a0 path.length c] w fun e w' => ∃ v, e = .returned (.tuple #[.string (bs (climbP shaSum (plan n.toNat i.toNat) d path).1), v]) ∧ OwnS w' w.heap.size v (climbP shaSum (plan n.toNat i.toNat) d path).2 ∧ Below w.heap.size w w' := by
  obtain ⟨h1, h2, h3, h4⟩ := foldE_ok h0
  obtain ⟨t1, t2, t3, t4⟩ := there_of h1
  have := climbed_any n.toNat i.toNat d path a0 c w hT hc hcm (by omega) (by omega) (by omega) h3 h4 h2
  rwa [show ((n.toNat : Nat) : Int) = n by omega, show ((i.toNat : Nat) : Int) = i by omega] at this

set_option maxRecDepth 100000 in
theorem fold_any (n i : Int) (d : By) (path : List By) (a0 : Option Addr) (c : Nat) (w : World) (hT : Txts w a0 path) (hc : path.length ≤ c) (hcm : c ≤ maxLen) (h1 : path.length ≤ 100000) (h2 : ∀ p ∈ path, p.length ≤ 100000) (h3 : d.length ≤ 100000) :
    Calls Try.prog 21 #[.int .i64 n, .int .i64 i, .string (bs d), .slice a0 path.length c] w fun e w' => e = .returned (.tuple #[.string (bs (foldR n i d path)), .int .i64 (foldE n i d path)]) ∧ Below w.heap.size w w' := by
  have hf := hide (fun w' (hb : Below w.heap.size w w') => foldFault_any n i d path a0 c w' (hT.below hb) h1 h2 h3)
  unfold foldR
  by_cases h0 : foldE n i d path = 0
  · have hcl := hide (climbedI_any n i d path a0 c w hT hc hcm h0)
    rw [if_pos h0, h0]
    rw [h0] at hf
    clear hT h2 h3
    generalize climbP shaSum (plan n.toNat i.toNat) d path = P at *
    generalize bs d = B at *
    generalize path.length = m at *
    go_enter Try.func21, Try.ntmps21
    go_wp2_with fail
    refine (unhide hf _ (Below.refl _ _)).mono ?_
    rintro e w1 ⟨rfl, rfl⟩
    go_wp2_with fail
    refine (unhide hcl).mono ?_
    rintro e w2 ⟨v, rfl, ho, b2⟩
    go_wp2
    go_ret2
    exact ⟨rfl, b2⟩
  · rw [if_neg h0]
    have hE := foldE_cases n i d path
    clear hT h2 h3
    generalize foldE n i d path = E at *
    generalize bs d = B at *
    generalize path.length = m at *
    rcases hE with rfl | rfl | rfl
    · exact absurd rfl h0
    all_goals
      go_enter Try.func21, Try.ntmps21
      go_wp2_with fail
      refine (unhide hf _ (Below.refl _ _)).mono ?_
      rintro e w1 ⟨rfl, rfl⟩
      go_wp2
      go_ret2
      exact ⟨rfl, Below.refl _ _⟩

theorem bl_ne {A B : ByteArray} (h : A ≠ B) : (A.toList == B.toList) = false := by
  rw [beq_eq_false_iff_ne]
  intro e
  rw [ByteArray.toList_eq, ByteArray.toList_eq] at e
  cases A
  cases B
  simp at e h
  exact h e
set_option maxRecDepth 100000 in
theorem check_any (r : By) (n i : Int) (d : By) (path : List By) (a0 : Option Addr) (c : Nat) (w : World) (hT : Txts w a0 path) (hc : path.length ≤ c) (hcm : c ≤ maxLen) (h1 : path.length ≤ 100000) (h2 : ∀ p ∈ path, p.length ≤ 100000) (h3 : d.length ≤ 100000) :
    Calls Try.prog 9 #[.string (bs r), .int .i64 n, .int .i64 i, .string (bs d), .slice a0 path.length c] w fun e w' => e = .returned (.bool (decide (foldE n i d path = 0 ∧ foldR n i d path = r))) ∧ Below w.heap.size w w' := by
  have hf := hide (fold_any n i d path a0 c w hT hc hcm h1 h2 h3)
  clear hT h2 h3
  by_cases h0 : foldE n i d path = 0
  · rw [h0] at hf ⊢
    by_cases hr : foldR n i d path = r
    · rw [show decide ((0 : Nat) = 0 ∧ foldR n i d path = r) = true from decide_eq_true ⟨rfl, hr⟩]
      subst hr
      clear h0
      generalize bs (foldR n i d path) = R at *
      generalize bs d = B at *
      generalize path.length = m at *
      go_enter Try.func9, Try.ntmps9
      go_wp2_with fail
      refine (unhide hf).mono ?_
      rintro e w1 ⟨rfl, b1⟩
      go_wp2
      go_ret
      exact ⟨rfl, b1⟩
    · rw [show decide ((0 : Nat) = 0 ∧ foldR n i d path = r) = false from decide_eq_false (fun h => hr h.2)]
      have hne := bl_ne (fun h : bs (foldR n i d path) = bs r => hr (bs_inj h))
      clear h0 hr
      generalize bs (foldR n i d path) = R at *
      generalize bs r = R' at *
      generalize bs d = B at *
      generalize path.length = m at *
      go_enter Try.func9, Try.ntmps9
      go_wp2_with fail
      refine (unhide hf).mono ?_
      rintro e w1 ⟨rfl, b1⟩
      go_wp2
      go_ret
      exact ⟨rfl, b1⟩
  · rw [show decide (foldE n i d path = 0 ∧ foldR n i d path = r) = false from decide_eq_false (fun h => h0 h.1)]
    have hE := foldE_cases n i d path
    generalize foldE n i d path = E at *
    generalize bs (foldR n i d path) = R at *
    generalize bs r = R' at *
    generalize bs d = B at *
    generalize path.length = m at *
    rcases hE with rfl | rfl | rfl
    · exact absurd rfl h0
    all_goals
      go_enter Try.func9, Try.ntmps9
      go_wp2_with fail
      refine (unhide hf).mono ?_
      rintro e w1 ⟨rfl, b1⟩
      go_wp2
      go_ret
      exact ⟨rfl, b1⟩

set_option maxRecDepth 100000 in
theorem climb_any (n i : Int) (d : By) (path : List By) (a0 : Option Addr) (c : Nat) (w : World) (hT : Txts w a0 path) (hc : path.length ≤ c) (hcm : c ≤ maxLen) (h1 : path.length ≤ 100000) (h2 : ∀ p ∈ path, p.length ≤ 100000) (h3 : d.length ≤ 100000) :
    Calls Try.prog 15 #[.int .i64 n, .int .i64 i, .string (bs d), .slice a0 path.length c] w fun e w' => ∃ v, e = .returned v ∧ OwnS w' w.heap.size v (climbR n i d path) ∧ Below w.heap.size w w' := by
  have hf := hide (fun w' (hb : Below w.heap.size w w') => foldFault_any n i d path a0 c w' (hT.below hb) h1 h2 h3)
  unfold climbR
  by_cases h0 : foldE n i d path = 0
  · have hcl := hide (climbedI_any n i d path a0 c w hT hc hcm h0)
    rw [if_pos h0]
    rw [h0] at hf
    clear hT h2 h3
    generalize climbP shaSum (plan n.toNat i.toNat) d path = P at *
    generalize bs d = B at *
    generalize path.length = m at *
    go_enter Try.func15, Try.ntmps15
    go_wp2_with fail
    refine (unhide hf _ (Below.refl _ _)).mono ?_
    rintro e w1 ⟨rfl, rfl⟩
    go_wp2_with fail
    refine (unhide hcl).mono ?_
    rintro e w2 ⟨v, rfl, ho, b2⟩
    have HO := hide ho
    obtain ⟨a9, c9, rfl⟩ := own_shapeN (show World.ownsRow _ _ _ _ _ _ _ from ho)
    clear ho
    go_wp2
    go_ret
    exact ⟨_, rfl, unhide HO, b2⟩
  · rw [if_neg h0]
    have hE := foldE_cases n i d path
    clear hT h2 h3
    generalize foldE n i d path = E at *
    generalize bs d = B at *
    generalize path.length = m at *
    rcases hE with rfl | rfl | rfl
    · exact absurd rfl h0
    all_goals
      go_enter Try.func15, Try.ntmps15
      go_wp2_with fail
      refine (unhide hf _ (Below.refl _ _)).mono ?_
      rintro e w1 ⟨rfl, rfl⟩
      go_wp2
      go_ret
      exact ⟨_, rfl, World.ownsRow_nil _ _ _ _, Below.refl _ _⟩

theorem oneCell_sc (T : List By) : ∀ u ∈ sc T, u.oneCell' = true := by
  intro u hu
  obtain ⟨x, _, rfl⟩ := List.mem_map.1 hu
  rfl
theorem OwnS.two {w : World} {base : Nat} {v : Value} {T : List By} (h : OwnS w base v T) : (v = .slice none 0 0 ∧ T = []) ∨ ∃ g c, v = .slice (some ⟨g, 0, none⟩) T.length c ∧ base ≤ g ∧ g < w.heap.size ∧ ∀ j u, (sc T)[j]? = some u → w.cell? ((⟨g, 0, none⟩ : Addr).add j) = some u := by
  cases T with
  | nil =>
    rcases (show World.ownsRow _ _ _ _ _ _ _ from h).2 with ⟨h', h0⟩ | ⟨g, cap', cur, h', hb, hc, _⟩
    · exact .inl ⟨h', rfl⟩
    · refine .inr ⟨g, cap', h', hb, ?_, fun j u hj => by simp [sc] at hj⟩
      exact (Array.getElem?_eq_some_iff.1 hc).1
  | cons t T =>
    obtain ⟨g, c, h1, h2, h3⟩ := h.form (by simp)
    subst h1
    exact .inr ⟨g, c, rfl, h2, h3, fun j u hj => World.ownsRow.cells (h : World.ownsRow _ _ _ _ _ _ _) rfl j u hj⟩

set_option maxRecDepth 100000 in
set_option maxHeartbeats 1000000 in
theorem road_any (n i : Int) (s : By) (path : List By) (a0 : Option Addr) (c : Nat) (w : World) (hT : Txts w a0 path) (hc : path.length ≤ c) (hcm : c ≤ maxLen) (h1 : path.length ≤ 100000) (h2 : ∀ p ∈ path, p.length ≤ 100000) (h3 : s.length ≤ 65000) :
    Calls Try.prog 13 #[.int .i64 n, .int .i64 i, .string (bs s), .slice a0 path.length c] w fun e w' => ∃ v, e = .returned v ∧ OwnS w' w.heap.size v (roadR n i s path) ∧ Below w.heap.size w w' := by
  obtain ⟨i0, hi0, hz0, hz1, hz2⟩ := info_parts Try.infoS
  have hlt := hide (fun w => leafText_any s w h3)
  have hsm := hide (fun w => msum_any (leafT s) w (by simp [leafT]; omega))
  have hdl := shaSum_length (leafT s)
  unfold roadR
  generalize hDe : shaSum (leafT s) = D at *
  have HDe := hide hDe
  clear hDe
  have hf := hide (fun w' (hb : Below w.heap.size w w') => foldFault_any n i D path a0 c w' (hT.below hb) h1 h2 (by omega))
  by_cases h0 : foldE n i D path = 0
  · have hcl := hide (fun w' (hb : Below w.heap.size w w') => climbedI_any n i D path a0 c w' (hT.below hb) hc hcm h0)
    rw [if_pos h0]
    rw [h0] at hf
    have hpl : (climbP shaSum (plan n.toNat i.toNat) D path).2.length ≤ 100000 := by
      obtain ⟨_, _, x3, _⟩ := foldE_ok h0
      rw [climbP_len shaSum _ _ _ x3.symm]
      exact h1
    clear hT h2 h3 hdl h0
    generalize climbP shaSum (plan n.toNat i.toNat) D path = P at *
    generalize bs s = B at *
    generalize leafT s = LT at *
    generalize path.length = m at *
    obtain ⟨R, T⟩ := P
    simp only at hcl hpl ⊢
    go_enter Try.func13, Try.ntmps13
    go_wp2_with fail
    refine (unhide hlt _).mono ?_
    rintro e w1 ⟨rfl, rfl⟩
    go_wp2_with fail
    refine (unhide hsm _).mono ?_
    rintro e w1 ⟨rfl, b1⟩
    go_wp2_with fail
    refine (unhide hf _ b1).mono ?_
    rintro e w2 ⟨rfl, rfl⟩
    go_wp2_with fail
    refine (unhide hcl _ b1).mono ?_
    rintro e w3 ⟨v, rfl, ho, b3⟩
    have B3 := hide (b1.trans (b3.mono b1.size))
    have hz3 := (unhide B3).size
    have hown : Hid (World.ownsRow (w3.alloc (.cells #[.string (bs LT)] 9)) w3.heap.size 9 1 (.slice (some ⟨w3.heap.size, 0, none⟩) 1 1) 1 (sc [LT])) := by
      show World.ownsRow _ _ _ _ _ _ _
      refine ⟨rfl, .inr ⟨w3.heap.size, 1, #[.string (bs LT)], rfl, Nat.le_refl _, heap_alloc_new w3 _, by omega, by unfold maxLen; omega, rfl, rfl⟩⟩
    rcases ho.two with ⟨rfl, rfl⟩ | ⟨g, cg, rfl, hg1, hg2, hcells⟩
    · clear ho b1 b3
      go_wp2_with (at_builtin; refine wpList_append_own_none rfl _ _ 22 rfl w3.heap.size 9 i0 1 Try.undS hi0 _ _ _ rfl (unhide hown) rfl ?_)
      go_wp2
      go_ret
      exact ⟨_, rfl, own_mono (unhide hown) hz3, (unhide B3).alloc hz3 _⟩
    · have hnews : Hid (∀ j u, (sc T)[j]? = some u → (w3.alloc (.cells #[.string (bs LT)] 9)).cell? ((⟨g, 0, none⟩ : Addr).add j) = some u) := fun j u hj => by
        rw [((Below.refl w3.heap.size w3).alloc (Nat.le_refl _) _).cell (by rw [Addr.add_mid]; exact hg2)]
        exact hcells j u hj
      clear ho b1 b3 hcells
      go_wp2_with (at_builtin; refine wpList_append_own _ rfl _ _ 22 rfl w3.heap.size 9 i0 (.string ⟨#[]⟩) 1 16 Try.undS hi0 hz0 hz1 hz2 rfl (by decide) _ _ _ rfl (unhide hown) ⟨g, 0, none⟩ T.length cg (sc T) rfl ?d1 (unhide hnews) ?d2 ?d3 ?d4 ?d5 ?_)
      case d1 => simp [sc]
      case d2 => first | exact oneCell_sc T | (intro u hu; exact oneCell_sc T u hu) | simp [sc]
      case d3 => unfold maxLen; omega
      case d4 => omega
      case d5 => first | omega | (simp; done) | (simp; omega)
      intro v9 w9 hown9 hgrow9 _
      have B9 := hide (((unhide B3).alloc hz3 (.cells #[.string (bs LT)] 9)).grown hgrow9 (by simp; omega) (fun q hq => by have := ((unhide hown).lt q hq).1; omega))
      have H9 : Hid (OwnS w9 w.heap.size v9 (LT :: T)) := by
        refine own_mono (base := w3.heap.size) ?_ hz3
        show World.ownsRow _ _ _ _ _ _ _
        rw [List.length_cons, Nat.add_comm T.length 1]
        exact hown9
      obtain ⟨a9, c9, rfl⟩ := own_shapeN hown9
      clear hown9 hgrow9
      go_wp2
      go_ret
      exact ⟨_, rfl, unhide H9, unhide B9⟩
  · rw [if_neg h0]
    have hE := foldE_cases n i D path
    clear hT h2 h3
    generalize foldE n i D path = E at *
    generalize bs s = B at *
    generalize leafT s = LT at *
    generalize path.length = m at *
    rcases hE with rfl | rfl | rfl
    · exact absurd rfl h0
    all_goals
      go_enter Try.func13, Try.ntmps13
      go_wp2_with fail
      refine (unhide hlt _).mono ?_
      rintro e w1 ⟨rfl, rfl⟩
      go_wp2_with fail
      refine (unhide hsm _).mono ?_
      rintro e w1 ⟨rfl, b1⟩
      go_wp2_with fail
      refine (unhide hf _ b1).mono ?_
      rintro e w2 ⟨rfl, rfl⟩
      go_wp2
      go_ret
      exact ⟨_, rfl, World.ownsRow_nil _ _ _ _, b1⟩

end Go.Proofs.Ytiaohpkcncbdnab

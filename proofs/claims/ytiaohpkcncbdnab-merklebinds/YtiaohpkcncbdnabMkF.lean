/- Contracts of merkle's fault, top, Root, Texts. -/
import Derived.Test.YtiaohpkcncbdnabMkLv
namespace Go.Proofs.Ytiaohpkcncbdnab
open Go.RowKit
set_option linter.unusedVariables false
variable {Bq : Nat}

/-- why a list may not be -/
def mayE (ss : List By) : Nat := if ss.length = 0 then 1 else if 256 < ss.length then 2 else if ∀ s ∈ ss, s.length ≤ 1024 then 0 else 2
theorem mayE_ok {ss : List By} (h : mayE ss = 0) : 1 ≤ ss.length ∧ ss.length ≤ 256 ∧ ∀ s ∈ ss, s.length ≤ 1024 := by
  unfold mayE at h
  split at h
  · cases h
  split at h
  · cases h
  split at h
  · exact ⟨by omega, by omega, by assumption⟩
  · cases h

set_option maxRecDepth 100000 in
set_option maxHeartbeats 1000000 in
theorem fault_any (ss : List By) (a0 : Option Addr) (c : Nat) (w : World) (hT : Txts w a0 ss) (h2 : ss.length ≤ 100000) (h3 : ∀ s ∈ ss, s.length ≤ 100000) :
    Calls Try.prog 19 #[.slice a0 ss.length c] w fun e w' => e = .returned (.int .i64 (mayE ss)) ∧ w = w' := by
  by_cases h0 : ss.length = 0
  · have e : mayE ss = 1 := by unfold mayE; rw [if_pos h0]
    rw [e]
    have q0 : (ss.length : Int) = 0 := by omega
    clear e hT h3
    generalize ss.length = n at *
    go_enter Try.func19, Try.ntmps19
    go_wp2
    go_ret
    exact ⟨rfl, rfl⟩
  by_cases h1 : 256 < ss.length
  · have e : mayE ss = 2 := by unfold mayE; rw [if_neg h0, if_pos h1]
    rw [e]
    have q0 : ¬ (ss.length : Int) = 0 := by omega
    have q1 : (256 : Int) < ss.length := by omega
    clear e hT h3
    generalize ss.length = n at *
    go_enter Try.func19, Try.ntmps19
    go_wp2
    go_ret
    exact ⟨rfl, rfl⟩
  have HE : Hid (mayE ss = if ∀ s ∈ ss, s.length ≤ 1024 then 0 else 2) := by
    show _ = _
    unfold mayE; rw [if_neg h0, if_neg h1]
  have HT := hide hT
  have H3 := hide h3
  generalize mayE ss = E at *
  generalize hn : ss.length = n at *
  have HN := hide hn
  have q0 : ¬ (n : Int) = 0 := by omega
  have q1 : ¬ (256 : Int) < n := by omega
  clear hT h3 hn
  go_enter Try.func19, Try.ntmps19
  go_wp2_with fail
  go_loopw [13] (fun i wr => w = wr ∧ ∃ k : Nat, k ≤ n ∧ i = .int .i64 k ∧ ∀ s ∈ ss.take k, s.length ≤ 1024) (fun i _ => n - (intOf i).toNat)
  case atStart => exact ⟨rfl, 0, Nat.zero_le _, rfl, by simp⟩
  case round =>
    obtain ⟨rfl, k, hk, rfl, ha⟩ := hrel
    by_cases hlt : k < n
    · have hlt' : k < ss.length := by rw [unhide HN]; exact hlt
      obtain ⟨g, o, rfl, hc0⟩ := unhide HT k hlt'
      have q2 : (k : Int) < n := by omega
      have hB := bs_size ss[k]
      have hB2 := unhide H3 ss[k] (List.getElem_mem hlt')
      by_cases hl : ss[k].length ≤ 1024
      · have HA : Hid (∀ s ∈ ss.take (k + 1), s.length ≤ 1024) := by
          intro s hs
          rw [List.take_succ_eq_append_getElem hlt', List.mem_append] at hs
          rcases hs with hs | hs
          · exact ha s hs
          · simp at hs; rw [hs]; exact hl
        have q3 : ¬ (1024 : Int) < (bs ss[k]).size := by omega
        generalize bs ss[k] = B at *
        clear ha hB2 hB hl hlt'
        go_wp2
        go_roundw
        case rel => exact ⟨trivial, k + 1, by omega, by go_num, unhide HA⟩
        case measure => simp [intOf]; omega
      · have he : E = 2 := by rw [unhide HE, if_neg (fun h => hl (h _ (List.getElem_mem hlt')))]
        subst he
        have q3 : (1024 : Int) < (bs ss[k]).size := by omega
        generalize bs ss[k] = B at *
        clear ha hB2 hB hl hlt'
        go_wp2
        go_ret
        exact ⟨rfl, rfl⟩
    · have hkl : k = n := by omega
      subst hkl
      rw [← unhide HN, List.take_length] at ha
      have he : E = 0 := by rw [unhide HE, if_pos ha]
      subst he
      have q2 : ¬ (k : Int) < k := by omega
      clear ha
      go_wp2
      go_ret
      exact ⟨rfl, rfl⟩

theorem Strs.set {w : World} {a0 : Option Addr} {T : List By} {c : Nat} {b : Nat} {cur : Array Value} {e : TypeId} {fr : Nat × Nat} (h : Strs Bq w a0 T c) (hb : w.heap[b]? = some (.cells cur e fr)) (he : e ≠ 9) (o : Nat) (v : Value) : Strs Bq (w.setCell ⟨b, o, none⟩ v) a0 T c := fun i hi => by
  obtain ⟨g, q, h1, h2, cur', fr', h3, h9⟩ := h i hi
  have hne : g ≠ b := fun hx => by
    subst hx
    rw [h3] at hb
    simp at hb
    exact he hb.2.1.symm
  have hx := Below.heap_setCell w ⟨b, o, none⟩ v _ hne
  exact ⟨g, q, h1, (cell_same hx).trans h2, cur', fr', hx.trans h3, h9⟩

set_option maxRecDepth 100000 in
set_option maxHeartbeats 1000000 in
theorem top_any (ss : List By) (a0 : Option Addr) (c : Nat) (w : World) (hT : Txts w a0 ss) (h1 : 1 ≤ ss.length) (h2 : ss.length ≤ 256) (h3 : ∀ s ∈ ss, s.length ≤ 1024) :
    Calls Try.prog 20 #[.slice a0 ss.length c] w fun e w' => ∃ v, e = .returned v ∧ PartIs w.heap.size w' v (treeP shaSum (ss.map (leafP shaSum))) ∧ Below w.heap.size w w' := by
  have hlv := hide (fun w' (hb : Below w.heap.size w w') => levels_any (Bq := w.heap.size) ss a0 c w' hb.size (hT.below hb) h1 h2 h3)
  generalize hP : ss.map (leafP shaSum) = ps at *
  have hpl : ps.length = ss.length := by rw [← hP]; simp
  clear hT h3 hP
  go_enter Try.func20, Try.ntmps20
  go_wp2_with fail
  generalize hW : World.alloc _ _ = W
  have r0 : W.heap[w.heap.size]? = some (.cells #[.string ⟨#[]⟩, .slice none 0 0] 49 (0, 0)) := by rw [← hW]; exact heap_alloc_new _ _
  have b0 : Below w.heap.size w W := by rw [← hW]; exact (Below.refl _ _).alloc (Nat.le_refl _) _
  refine (unhide hlv W b0).mono ?_
  rintro e w2 ⟨v, d, rfl, ⟨vs, hown, hvl, hv⟩, hd1, hdj, b2⟩
  have r2 : w2.heap[w.heap.size]? = some (.cells #[.string ⟨#[]⟩, .slice none 0 0] 49 (0, 0)) := (b2.block _ (lt_of_block r0)).trans r0
  have B2 := hide (b0.trans (b2.mono b0.size))
  obtain ⟨aj, cj, z1, z2, z3, z4⟩ := hv d (by omega)
  have h9 : ps.length ≤ 2 ^ 8 := by omega
  have e8 := abvN_tree shaSum 8 ps (by omega) h9
  have hd8 : d ≤ 8 := by
    rcases Nat.lt_or_ge 8 d with h | h
    · have := hdj 8 h
      rw [e8] at this
      simp at this
    · exact h
  have htr : abvN shaSum d ps = [treeP shaSum ps] := by
    · have hst : ∀ j, abvN shaSum (d + j) ps = abvN shaSum d ps := fun j => by
        induction j with
        | zero => rfl
        | succ j ih =>
          show abv shaSum (abvN shaSum (d + j) ps) = _
          rw [ih]
          match hq : abvN shaSum d ps, hd1 with
          | [a], _ => rfl
      have := hst (8 - d)
      rw [show d + (8 - d) = 8 by omega, e8] at this
      exact this.symm
  rw [htr] at z1 z2 z3
  generalize hJ : treeP shaSum ps = J at *
  have HJ := hide hJ
  clear hJ
  obtain ⟨g, t0, c0, rfl, y0, y1, y2, y3, _⟩ := z2 0 (by simp)
  obtain ⟨ao, cp, rfl⟩ := own_shapeN hown
  rcases hown.2 with ⟨h', h0⟩ | ⟨gl, cap', cur, h', _⟩
  · cases h0
  simp only [Value.slice.injEq] at h'
  obtain ⟨rfl, _, rfl⟩ := h'
  have hcell := hown.cellAt d (by omega)
  rw [z1] at hcell
  have c0' := cell0_of_two r2
  have c1' := cell1_of_two r2
  have f0 := free_of_two (j := 0) r2
  have f1 := free_of_two (j := 1) r2
  have R2 := hide r2
  have hl := lt_of_block r2
  simp only [List.getElem_cons_zero, Nat.zero_mul, Nat.zero_add] at y0 y1 y2 y3
  simp only [List.length_cons, List.length_nil, Nat.zero_add] at hcell z3
  have hwd : wrap64 (d : Int) = d := by unfold wrap64; omega
  have Y2 := hide y2
  clear htr e8 hdj hd1 z1 z2 hv hvl hown r2 hW r0 b0 b2 hlv y2
  go_wp2
  have hbw := ((unhide B2).setCell (p := ⟨w.heap.size, 0, none⟩) (Nat.le_refl _) (.string (bs J.1))).setCell (p := ⟨w.heap.size, 1, none⟩) (Nat.le_refl _) (.slice t0 J.2.length c0)
  have s1 := (unhide Y2).set (unhide R2) (by decide) 0 (.string (bs J.1))
  have s2 := s1.set (set_row (unhide R2) 0 (.string (bs J.1))) (by decide) 1 (.slice t0 J.2.length c0)
  refine ret_cell rfl w.heap.size 49 #[.string (bs J.1), .slice t0 J.2.length c0] (0, 0) _ rfl (set_row (set_row (unhide R2) 0 _) 1 _) rfl Try.underlying49 (by kernel_rfl) ⟨_, rfl, ?_, hbw⟩
  rw [unhide HJ]
  exact ⟨t0, c0, rfl, s2, y3⟩

theorem field_root (x y : Value) (w : World) : Sem.run Try.prog (Instr.field 49 (.agg #[x, y]) 0) w = .ok x w := by kernel_rfl
theorem field_texts (x y : Value) (w : World) : Sem.run Try.prog (Instr.field 49 (.agg #[x, y]) 1) w = .ok y w := by kernel_rfl
set_option maxRecDepth 100000 in
theorem root_any (ss : List By) (a0 : Option Addr) (c : Nat) (w : World) (hT : Txts w a0 ss) (h2 : ss.length ≤ 100000) (h3 : ∀ s ∈ ss, s.length ≤ 100000) :
    Calls Try.prog 8 #[.slice a0 ss.length c] w fun e w' => e = .returned (.tuple #[.string (bs (if mayE ss = 0 then (treeP shaSum (ss.map (leafP shaSum))).1 else [])), .int .i64 (mayE ss)]) ∧ Below w.heap.size w w' := by
  have hf := hide (fun w' (hb : Below w.heap.size w w') => fault_any ss a0 c w' (hT.below hb) h2 h3)
  by_cases h0 : mayE ss = 0
  · obtain ⟨x1, x2, x3⟩ := mayE_ok h0
    have ht := hide (fun w' (hb : Below w.heap.size w w') => top_any ss a0 c w' (hT.below hb) x1 x2 x3)
    rw [if_pos h0]
    rw [h0] at hf ⊢
    clear hT h3 x3 h0
    go_enter Try.func8, Try.ntmps8
    go_wp2_with fail
    refine (unhide hf _ (Below.refl _ _)).mono ?_
    rintro e w1 ⟨rfl, rfl⟩
    go_wp2_with fail
    refine (unhide ht _ (Below.refl _ _)).mono ?_
    rintro e w2 ⟨v, rfl, ⟨a5, c5, rfl, _, _⟩, b2⟩
    go_wp2
    rw [field_root]
    go_wp2
    go_ret2
    exact ⟨rfl, b2⟩
  · rw [if_neg h0]
    have hE : mayE ss = 1 ∨ mayE ss = 2 := by
      unfold mayE at h0 ⊢
      split
      · exact .inl rfl
      split
      · exact .inr rfl
      split
      · rename_i h1 h2 h3; rw [if_neg h1, if_neg h2, if_pos h3] at h0; exact absurd rfl h0
      · exact .inr rfl
    clear hT h3 h0
    generalize mayE ss = E at *
    rcases hE with rfl | rfl
    all_goals
      go_enter Try.func8, Try.ntmps8
      go_wp2_with fail
      refine (unhide hf _ (Below.refl _ _)).mono ?_
      rintro e w1 ⟨rfl, rfl⟩
      go_wp2
      go_ret2
      exact ⟨rfl, Below.refl _ _⟩

end Go.Proofs.Ytiaohpkcncbdnab

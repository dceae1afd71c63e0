/- merkle's Texts: the row is the call's own. Mathematics of what binds. -/
import Derived.Test.YtiaohpkcncbdnabMkT
import Derived.Test.YtiaohpkcncbdnabMkTl
import Derived.Test.YtiaohpkcncbdnabCfZ
import Derived.Test.YtiaohpkcncbdnabWit
namespace Go.Proofs.Ytiaohpkcncbdnab
open Go.RowKit
set_option linter.unusedVariables false

theorem strs_own {B : Nat} {w : World} {a0 : Option Addr} {T : List By} {c : Nat} (h : Strs B w a0 T c) (h1 : 1 ≤ T.length) (hc : T.length ≤ c) : OwnS w B (.slice a0 T.length c) T := by
  obtain ⟨g, o, rfl, h2, cur, fr, h3, rfl, h5, rfl, h7, h8⟩ := h 0 (by omega)
  refine ⟨by simp [sc], .inr ⟨g, c, cur, rfl, h5, h3, hc, h8, by omega, ?_⟩⟩
  have hcell : ∀ j (hj : j < T.length), cur[j]? = some (.string (bs T[j])) := by
    intro j hj
    obtain ⟨g', o', e, hcc, _, _, _, e0, _⟩ := h j hj
    simp only [Option.some.injEq, Addr.mk.injEq, and_true] at e
    obtain ⟨rfl, rfl⟩ := e
    rw [cell_of_row _ _ _ _ _ _ h3] at hcc
    rwa [Nat.zero_add] at hcc
  refine List.ext_getElem? fun j => ?_
  rw [Nat.mul_one, List.getElem?_take]
  by_cases hj : j < T.length
  · rw [if_pos hj, sc_get T j hj, Array.getElem?_toList]
    exact hcell j hj
  · rw [if_neg hj, List.getElem?_eq_none (by rw [sc_length]; omega)]

set_option maxRecDepth 100000 in
theorem mtexts_own (ss : List By) (a0 : Option Addr) (c : Nat) (w : World) (hT : Txts w a0 ss) (h0 : mayE ss = 0) :
    Calls Try.prog 12 #[.slice a0 ss.length c] w fun e w' => ∃ v, e = .returned v ∧ OwnS w' w.heap.size v (treeP shaSum (ss.map (leafP shaSum))).2 ∧ Below w.heap.size w w' := by
  obtain ⟨x1, x2, x3⟩ := mayE_ok h0
  have hf := hide (fault_any ss a0 c w hT (by omega) (fun s hs => Nat.le_trans (x3 s hs) (by omega)))
  have ht := hide (top_any ss a0 c w hT x1 x2 x3)
  have hl := tree_texts_len ss x1
  rw [h0] at hf
  clear hT x3 h0
  generalize treeP shaSum (ss.map (leafP shaSum)) = P at *
  have hl1 : 1 ≤ P.2.length := by omega
  generalize ss.length = n at *
  go_enter Try.func12, Try.ntmps12
  go_wp2_with fail
  refine (unhide hf).mono ?_
  rintro e w1 ⟨rfl, rfl⟩
  go_wp2_with fail
  refine (unhide ht).mono ?_
  rintro e w2 ⟨v, rfl, ⟨a5, c5, rfl, hs, hc⟩, b2⟩
  have HS := hide (strs_own hs hl1 hc)
  clear hs hl hl1
  go_wp2
  rw [field_texts]
  go_wp2
  go_ret
  exact ⟨_, rfl, unhide HS, b2⟩

/-- a leaf's text is among the list's texts -/
theorem leaf_in (l : List Prt) (i : Nat) (hi : i < l.length) : ∀ t ∈ (l[i]).2, t ∈ (treeP shaSum l).2 := by
  induction hn : l.length using Nat.strongRecOn generalizing l i with
  | _ n ih =>
    intro t ht
    by_cases h1 : l.length ≤ 1
    · match l, hi, h1 with
      | [p], hi, _ =>
        simp at hi
        subst hi
        rw [treeP_one]
        exact ht
    · have hlt := half_lt l.length (by omega)
      have hps := half_pos l.length
      rw [treeP_more shaSum l (by omega)]
      simp only [joinP, List.mem_append]
      by_cases hk : i < half l.length
      · refine .inl (.inl (ih (half l.length) (by omega) (l.take (half l.length)) i (by rw [List.length_take]; omega) (by rw [List.length_take]; omega) t ?_))
        rw [List.getElem_take]
        exact ht
      · refine .inl (.inr (ih (l.length - half l.length) (by omega) (l.drop (half l.length)) (i - half l.length) (by rw [List.length_drop]; omega) (List.length_drop ..) t ?_))
        rw [List.getElem_drop]
        have e : half l.length + (i - half l.length) = i := by omega
        simp only [e]
        exact ht
theorem climb_short (pl : List Bool) (d : By) (path : List By) (hd : d.length = 32) (hp : ∀ p ∈ path, p.length = 32) : ∀ t ∈ (climbP shaSum pl d path).2, t.length ≤ 100 := by
  have key : ∀ (l : List (Bool × By)) (q : By × List By), (∀ x ∈ l, x.2.length = 32) → q.1.length = 32 → (∀ t ∈ q.2, t.length ≤ 100) → ∀ t ∈ (l.foldl (knotS shaSum) q).2, t.length ≤ 100 := by
    intro l
    induction l with
    | nil => intro q _ _ h; exact h
    | cons x l ih =>
      intro q hx hq h
      rw [List.foldl_cons]
      refine ih _ (fun y hy => hx y (by simp [hy])) (shaSum_length _) (fun t ht => ?_)
      simp only [knotS, List.mem_append, List.mem_singleton] at ht
      rcases ht with ht | ht
      · exact h t ht
      · have := hx x (by simp)
        rw [ht]
        split <;> rw [knotT_len] <;> omega
  exact key _ _ (fun x hx => hp x.2 (List.of_mem_zip (a := x.1) (b := x.2) hx).2) hd (by simp)
/-- two texts of two lists, in one -/
theorem bad_of {T R : List By} {a b : By} (ha : a ∈ T) (hb : b ∈ R) (hne : a ≠ b) (hs : shaSum a = shaSum b) : ∃ i k, Bad (T ++ R) i k := by
  obtain ⟨i, hi, rfl⟩ := List.getElem_of_mem ha
  obtain ⟨k, hk, rfl⟩ := List.getElem_of_mem hb
  refine ⟨i, T.length + k, by rw [List.length_append]; omega, by rw [List.length_append]; omega, by omega, ?_, ?_⟩
  · rw [List.getElem_append_left hi, List.getElem_append_right (by omega)]
    simpa using hne
  · rw [List.getElem_append_left hi, List.getElem_append_right (by omega)]
    simpa using hs
theorem wit_told {L : List By} {l r : Nat} (h : WitAt L L.length l r) (hb : ∃ i k, Bad L i k) : l < L.length ∧ r < L.length ∧ Bad L l r := by
  obtain ⟨i, k, hb⟩ := hb
  rcases h with ⟨_, h2⟩ | ⟨h1, h2, h3, _⟩
  · exact absurd hb (h2 i k hb.2.1)
  · exact ⟨h1, h2, h3⟩
/-- a digest that folds to the root is the leaf's, or a pair is there -/
theorem binds_digest (ss : List By) (K : Nat) (hK : K < ss.length) (d : By) (path : List By) (h0 : foldE ss.length K d path = 0) (hr : foldR ss.length K d path = (treeP shaSum (ss.map (leafP shaSum))).1) (hne : d ≠ shaSum (leafT ss[K])) :
    ∃ i k, Bad ((treeP shaSum (ss.map (leafP shaSum))).2 ++ climbR ss.length K d path) i k := by
  obtain ⟨_, h2, h3, h4⟩ := foldE_ok h0
  unfold foldR at hr
  rw [if_pos h0] at hr
  unfold climbR
  rw [if_pos h0]
  simp only [Int.toNat_natCast] at hr h3 ⊢
  have hml : (ss.map (leafP shaSum)).length = ss.length := List.length_map ..
  have hel : (ss.map (leafP shaSum))[K]'(by omega) = leafP shaSum ss[K] := List.getElem_map ..
  obtain ⟨a, b, ha, hb, h5, h6⟩ := binds shaSum shaSum_length (ss.map (leafP shaSum)) (fun p hp => by obtain ⟨s, _, rfl⟩ := List.mem_map.1 hp; exact shaSum_length _) K (by omega) d path h2 h4 (by rw [hml]; exact h3) (by rw [hml]; exact hr) (by rw [hel]; exact hne)
  rw [hml] at hb
  exact bad_of ha hb h5 h6
theorem binds_text (ss : List By) (K : Nat) (hK : K < ss.length) (s : By) (path : List By) (h0 : foldE ss.length K (shaSum (leafT s)) path = 0) (hr : foldR ss.length K (shaSum (leafT s)) path = (treeP shaSum (ss.map (leafP shaSum))).1) (hne : s ≠ ss[K]) :
    ∃ i k, Bad ((treeP shaSum (ss.map (leafP shaSum))).2 ++ roadR ss.length K s path) i k := by
  have hml : (ss.map (leafP shaSum)).length = ss.length := List.length_map ..
  have hel : (ss.map (leafP shaSum))[K]'(by omega) = leafP shaSum ss[K] := List.getElem_map ..
  unfold roadR
  rw [if_pos h0]
  by_cases hd : shaSum (leafT s) = shaSum (leafT ss[K])
  · refine bad_of (a := leafT ss[K]) (b := leafT s) ?_ (by simp) (fun h => hne ?_) hd.symm
    · exact leaf_in (ss.map (leafP shaSum)) K (by omega) _ (by rw [hel]; simp [leafP])
    · unfold leafT at h
      exact (List.cons.inj h).2.symm
  · obtain ⟨_, h2, h3, h4⟩ := foldE_ok h0
    unfold foldR at hr
    rw [if_pos h0] at hr
    simp only [Int.toNat_natCast] at hr h3 ⊢
    obtain ⟨a, b, ha, hb, h5, h6⟩ := binds shaSum shaSum_length (ss.map (leafP shaSum)) (fun p hp => by obtain ⟨s, _, rfl⟩ := List.mem_map.1 hp; exact shaSum_length _) K (by omega) (shaSum (leafT s)) path h2 h4 (by rw [hml]; exact h3) (by rw [hml]; exact hr) (by rw [hel]; exact hd)
    rw [hml] at hb
    exact bad_of ha (List.mem_cons_of_mem _ hb) h5 h6

end Go.Proofs.Ytiaohpkcncbdnab

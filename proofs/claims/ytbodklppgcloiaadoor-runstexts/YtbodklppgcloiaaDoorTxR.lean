/- Texts of runs: what a text says, and whose text it is (mathematics). -/
import Derived.Test.YtbodklppgcloiaaDoorRwG
namespace Go.Proofs.YtbodklppgcloiaaDoor
open Go.RowKit Go.Shelf
set_option linter.unusedVariables false

/-- what stands ahead of the first c, what behind it, and whether there is one -/
def cutC (c : UInt8) : By → By × By × Bool
  | [] => ([], [], false)
  | x :: s => if x = c then ([], s, true) else (x :: (cutC c s).1, (cutC c s).2.1, (cutC c s).2.2)
theorem cutC_app {c : UInt8} : ∀ (a b : By), c ∉ a → cutC c (a ++ c :: b) = (a, b, true)
  | [], b, _ => by simp [cutC]
  | x :: a, b, h => by
    have h1 : ¬ x = c := fun e => h (List.mem_cons.2 (.inl e.symm))
    have ih := cutC_app a b (fun e => h (List.mem_cons_of_mem _ e))
    show (if x = c then _ else (x :: (cutC c (a ++ c :: b)).1, (cutC c (a ++ c :: b)).2.1, (cutC c (a ++ c :: b)).2.2)) = _
    rw [if_neg h1, ih]
theorem cutC_none {c : UInt8} : ∀ (a : By), c ∉ a → cutC c a = (a, [], false)
  | [], _ => rfl
  | x :: a, h => by
    have h1 : ¬ x = c := fun e => h (List.mem_cons.2 (.inl e.symm))
    have ih := cutC_none a (fun e => h (List.mem_cons_of_mem _ e))
    show (if x = c then _ else _) = _
    rw [if_neg h1, ih]
theorem cutC_cases (c : UInt8) (s : By) : (∃ a b, s = a ++ c :: b ∧ c ∉ a ∧ cutC c s = (a, b, true)) ∨ (c ∉ s ∧ cutC c s = (s, [], false)) := by
  by_cases h : c ∈ s
  · obtain ⟨a, b, h1, h2⟩ := List.eq_append_cons_of_mem h
    exact .inl ⟨a, b, h1, h2, by rw [h1]; exact cutC_app a b h2⟩
  · exact .inr ⟨h, cutC_none s h⟩
theorem index_app {c : UInt8} : ∀ (a b : By), c ∉ a → Lib.index (a ++ c :: b) [c] = a.length
  | [], b, _ => by simp [Lib.index, List.isPrefixOf]
  | x :: a, b, h => by
    have h1 : (c == x) = false := by rw [beq_eq_false_iff_ne]; intro e; exact h (List.mem_cons.2 (.inl e))
    have ih := index_app a b (fun e => h (List.mem_cons_of_mem _ e))
    show (if [c].isPrefixOf (x :: (a ++ c :: b)) then (0 : Int) else if Lib.index (a ++ c :: b) [c] == -1 then -1 else Lib.index (a ++ c :: b) [c] + 1) = _
    have h2 : [c].isPrefixOf (x :: (a ++ c :: b)) = false := by simp [List.isPrefixOf, h1]
    rw [h2, ih, if_neg (by simp), if_neg (by simp)]
    simp
theorem index_not {c : UInt8} : ∀ (a : By), c ∉ a → Lib.index a [c] = -1
  | [], _ => rfl
  | x :: a, h => by
    have h1 : (c == x) = false := by rw [beq_eq_false_iff_ne]; intro e; exact h (List.mem_cons.2 (.inl e))
    have ih := index_not a (fun e => h (List.mem_cons_of_mem _ e))
    show (if [c].isPrefixOf (x :: a) then (0 : Int) else if Lib.index a [c] == -1 then -1 else Lib.index a [c] + 1) = _
    have h2 : [c].isPrefixOf (x :: a) = false := by simp [List.isPrefixOf, h1]
    rw [h2, ih, if_neg (by simp), if_pos (by simp)]
theorem cut_eq (c : UInt8) (s : By) : Lib.cut s [c] = cutC c s := by
  rcases cutC_cases c s with ⟨a, b, rfl, h1, h2⟩ | ⟨h1, h2⟩
  · rw [h2]
    unfold Lib.cut
    rw [index_app a b h1, if_pos (by omega)]
    simp
  · rw [h2]
    unfold Lib.cut
    rw [index_not s h1, if_neg (by omega)]
/-- digits, as they are reckoned -/
def dd (k : Nat) : By := if k < 10 then [UInt8.ofNat (48 + k)] else if k < 100 then [UInt8.ofNat (48 + k / 10), UInt8.ofNat (48 + k % 10)] else [UInt8.ofNat (48 + k / 10 / 10), UInt8.ofNat (48 + k / 10 % 10), UInt8.ofNat (48 + k % 10)]
theorem dec_dd {k : Nat} (h : k < 1000) : Lib.decDigits k = dd k := by
  unfold dd
  by_cases h1 : k < 10
  · rw [Lib.decDigits, dif_pos h1, if_pos h1]
  · rw [if_neg h1]
    by_cases h2 : k < 100
    · rw [if_pos h2, Lib.decDigits, dif_neg h1, Lib.decDigits, dif_pos (by omega)]
      rfl
    · rw [if_neg h2, Lib.decDigits, dif_neg h1, Lib.decDigits, dif_neg (by omega), Lib.decDigits, dif_pos (by omega)]
      rfl
theorem dd_facts : ∀ k, k < 161 → (Lib.atoiAll (dd k) = .ok (k : Int)) ∧ (45 ∉ dd k) ∧ (44 ∉ dd k) ∧ (∃ x r, dd k = x :: r ∧ x ≠ 45) := by
  intro k hk
  have h : ∀ k : Fin 161, (Lib.atoiAll (dd k.1) = .ok (k.1 : Int)) ∧ (45 ∉ dd k.1) ∧ (44 ∉ dd k.1) ∧ (dd k.1).head? ≠ some 45 ∧ dd k.1 ≠ [] := by decide +kernel
  obtain ⟨h1, h2, h3, h4, h5⟩ := h ⟨k, hk⟩
  refine ⟨h1, h2, h3, ?_⟩
  cases hd : dd k with
  | nil => exact absurd hd h5
  | cons x r => exact ⟨x, r, rfl, fun e => by simp only [hd] at h4; subst e; exact h4 rfl⟩
/-- the number of digits, or -1 -/
def numB (d : By) : Int := match Lib.atoiAll d with
  | .ok v => if 0 ≤ v ∧ v < 160 ∧ Lib.itoa v = d then v else -1
  | _ => -1
theorem num_dec {k : Nat} (h : k < 160) : numB (Lib.decDigits k) = k := by
  have h1 := (dd_facts k (by omega)).1
  rw [← dec_dd (by omega)] at h1
  unfold numB
  rw [h1]
  simp only
  rw [if_pos ⟨by omega, by omega, by unfold Lib.itoa; rw [if_neg (by omega), Int.toNat_natCast]⟩]
theorem num_back (d : By) : numB d = -1 ∨ ∃ k : Nat, k < 160 ∧ numB d = k ∧ Lib.decDigits k = d := by
  unfold numB
  split
  · rename_i v hv
    split
    · rename_i h
      obtain ⟨h1, h2, h3⟩ := h
      refine .inr ⟨v.toNat, by omega, by omega, ?_⟩
      unfold Lib.itoa at h3
      rw [if_neg (by omega)] at h3
      exact h3
    · exact .inl rfl
  · exact .inl rfl
/-- the run of a text -/
def spanB (p : By) : Int × Int :=
  if (cutC 45 p).2.2 then (if numB (cutC 45 p).2.1 = numB (cutC 45 p).1 then (0, 0) else (numB (cutC 45 p).1, numB (cutC 45 p).2.1 + 1)) else (numB (cutC 45 p).1, numB (cutC 45 p).1 + 1)
/-- what a text says, part by part -/
def wrL : Nat → By → List (Int × Int)
  | 0, _ => []
  | f + 1, s => spanB (cutC 44 s).1 :: (if (cutC 44 s).2.2 then wrL f (cutC 44 s).2.1 else [])
def wrB (t : By) : List (Int × Int) := if t = [45] then [] else wrL (t.length + 1) t
theorem dec_no {k : Nat} (h : k < 161) : 45 ∉ Lib.decDigits k ∧ 44 ∉ Lib.decDigits k ∧ ∃ x r, Lib.decDigits k = x :: r ∧ x ≠ 45 := by
  rw [dec_dd (by omega)]
  exact (dd_facts k h).2
theorem span_part {x : Nat × Nat} (h1 : x.1 < x.2) (h2 : x.2 ≤ 160) : spanB (partL x) = ((x.1 : Int), (x.2 : Int)) ∧ 44 ∉ partL x ∧ ∃ y r, partL x = y :: r ∧ y ≠ 45 := by
  obtain ⟨a1, a2, a3⟩ := dec_no (k := x.1) (by omega)
  obtain ⟨b1, b2, b3⟩ := dec_no (k := x.2 - 1) (by omega)
  unfold spanB partL
  by_cases he : x.1 + 1 = x.2
  · rw [if_pos he, cutC_none _ a1]
    simp only [Bool.false_eq_true, if_false]
    rw [num_dec (by omega)]
    exact ⟨by rw [← he]; rfl, a2, a3⟩
  · rw [if_neg he, cutC_app _ _ a1]
    simp only [if_true]
    rw [num_dec (by omega), num_dec (by omega), if_neg (by omega)]
    refine ⟨by congr 1; omega, ?_, ?_⟩
    · intro hm
      rcases List.mem_append.1 hm with h | h
      · exact a2 h
      · rcases List.mem_cons.1 h with h | h
        · cases h
        · exact b2 h
    · obtain ⟨y, r, e, hy⟩ := a3
      exact ⟨y, r ++ 45 :: Lib.decDigits (x.2 - 1), by rw [e]; rfl, hy⟩
theorem span_back (p : By) (h0 : 0 ≤ (spanB p).1) (h1 : (spanB p).1 < (spanB p).2) : ∃ x : Nat × Nat, x.1 < x.2 ∧ x.2 ≤ 160 ∧ spanB p = ((x.1 : Int), (x.2 : Int)) ∧ partL x = p := by
  unfold spanB at h0 h1 ⊢
  rcases cutC_cases 45 p with ⟨a, b, rfl, hn, hc⟩ | ⟨hn, hc⟩
  · rw [hc] at h0 h1 ⊢
    simp only [if_true] at h0 h1 ⊢
    by_cases he : numB b = numB a
    · rw [if_pos he] at h1; simp at h1
    · rw [if_neg he] at h0 h1 ⊢
      simp only at h0 h1
      rcases num_back a with ha | ⟨k, hk, ha, hd⟩
      · omega
      rcases num_back b with hb | ⟨j, hj, hb, hd2⟩
      · omega
      refine ⟨(k, j + 1), by simp only; omega, by simp only; omega, by rw [ha, hb]; rfl, ?_⟩
      unfold partL
      simp only
      rw [if_neg (by omega), hd, show j + 1 - 1 = j by omega, hd2]
  · rw [hc] at h0 h1 ⊢
    simp only [Bool.false_eq_true, if_false] at h0 h1 ⊢
    rcases num_back p with ha | ⟨k, hk, ha, hd⟩
    · omega
    refine ⟨(k, k + 1), by simp only; omega, by simp only; omega, by rw [ha]; rfl, ?_⟩
    unfold partL
    rw [if_pos rfl, hd]
theorem join_more (x y : By) (l : List By) : Lib.join (x :: y :: l) [44] = x ++ 44 :: Lib.join (y :: l) [44] := by
  simp [Lib.join, List.intercalate, List.intersperse]
theorem wr_join : ∀ (l : List (Nat × Nat)) (f : Nat), l ≠ [] → (∀ x ∈ l, x.1 < x.2 ∧ x.2 ≤ 160) → l.length ≤ f → wrL f (Lib.join (l.map partL) [44]) = toI l
  | [], f, h, _, _ => absurd rfl h
  | [x], 0, _, _, hf => by simp at hf
  | x :: y :: l, 0, _, _, hf => by simp at hf
  | [x], f + 1, _, hx, _ => by
    obtain ⟨h1, h2, _⟩ := span_part (hx x (by simp)).1 (hx x (by simp)).2
    show spanB (cutC 44 (Lib.join [partL x] [44])).1 :: (if (cutC 44 (Lib.join [partL x] [44])).2.2 then _ else []) = _
    rw [Lib.join_one, cutC_none _ h2]
    simp only [Bool.false_eq_true, if_false, h1]
    rfl
  | x :: y :: l, f + 1, _, hx, hf => by
    obtain ⟨h1, h2, _⟩ := span_part (hx x (by simp)).1 (hx x (by simp)).2
    have ih := wr_join (y :: l) f (by simp) (fun z hz => hx z (by simp [List.mem_cons.1 hz])) (by simpa using hf)
    show spanB (cutC 44 (Lib.join (partL x :: partL y :: l.map partL) [44])).1 :: (if (cutC 44 (Lib.join (partL x :: partL y :: l.map partL) [44])).2.2 then wrL f (cutC 44 (Lib.join (partL x :: partL y :: l.map partL) [44])).2.1 else []) = _
    rw [join_more, cutC_app _ _ h2]
    simp only [if_true, h1]
    rw [show Lib.join (partL y :: l.map partL) [44] = Lib.join ((y :: l).map partL) [44] from rfl, ih]
    rfl
theorem wr_back : ∀ (f : Nat) (s : By), s.length < f → (∀ y ∈ wrL f s, 0 ≤ y.1 ∧ y.1 < y.2) → ∃ l : List (Nat × Nat), l ≠ [] ∧ toI l = wrL f s ∧ Lib.join (l.map partL) [44] = s
  | 0, s, h, _ => by omega
  | f + 1, s, h, hy => by
    have h0 := hy (spanB (cutC 44 s).1) (by unfold wrL; simp)
    obtain ⟨x, x1, x2, x3, x4⟩ := span_back _ h0.1 h0.2
    rcases cutC_cases 44 s with ⟨a, b, rfl, hn, hc⟩ | ⟨hn, hc⟩
    · rw [hc] at x3 x4
      simp only at x3 x4
      obtain ⟨l, l1, l2, l3⟩ := wr_back f b (by simp at h; omega) (fun y hm => hy y (by unfold wrL; rw [hc]; simp [hm]))
      cases l with
      | nil => exact absurd rfl l1
      | cons y l =>
        refine ⟨x :: y :: l, by simp, ?_, ?_⟩
        · rw [toI_cons]
          unfold wrL
          rw [hc]
          simp only [if_true]
          rw [← l2, x3]
        · show Lib.join (partL x :: partL y :: l.map partL) [44] = _
          rw [join_more, x4]
          rw [show Lib.join (partL y :: l.map partL) [44] = Lib.join ((y :: l).map partL) [44] from rfl, l3]
    · rw [hc] at x3 x4
      simp only at x3 x4
      refine ⟨[x], by simp, ?_, ?_⟩
      · unfold wrL
        rw [hc]
        simp only [Bool.false_eq_true, if_false]
        rw [x3]
        rfl
      · show Lib.join [partL x] [44] = _
        rw [Lib.join_one, x4]
theorem join_len : ∀ (l : List (Nat × Nat)), (∀ x ∈ l, x.1 < x.2 ∧ x.2 ≤ 160) → l.length ≤ (Lib.join (l.map partL) [44]).length
  | [], _ => by simp
  | [x], hx => by
    obtain ⟨_, _, y, r, e, _⟩ := span_part (hx x (by simp)).1 (hx x (by simp)).2
    show 1 ≤ (Lib.join [partL x] [44]).length
    rw [Lib.join_one, e]; simp
  | x :: y :: l, hx => by
    have ih := join_len (y :: l) (fun z hz => hx z (by simp [List.mem_cons.1 hz]))
    show l.length + 1 + 1 ≤ (Lib.join (partL x :: partL y :: l.map partL) [44]).length
    rw [join_more, List.length_append, List.length_cons]
    have : (l.length + 1) ≤ (Lib.join (partL y :: l.map partL) [44]).length := ih
    omega
theorem ok_part {n : Nat} (hn : n ≤ 160) {l : List (Nat × Nat)} (h : gOk n (toI l)) (x : Nat × Nat) (hx : x ∈ l) : x.1 < x.2 ∧ x.2 ≤ 160 := by
  have := ok_all h ((x.1 : Int), (x.2 : Int)) (List.mem_map.2 ⟨x, hx, rfl⟩)
  simp only at this
  omega
/-- what is written is read -/
theorem wr_text {n : Nat} (hn : n ≤ 160) {l : List (Nat × Nat)} (h : gOk n (toI l)) : wrB (textL l) = toI l := by
  have hp := ok_part hn h
  unfold wrB textL
  by_cases hl : l = []
  · rw [if_pos hl, if_pos rfl, hl]; rfl
  · rw [if_neg hl, if_neg ?_]
    · exact wr_join l _ hl hp (Nat.le_succ_of_le (join_len l hp))
    · cases l with
      | nil => exact absurd rfl hl
      | cons x l =>
        obtain ⟨_, _, y, r, e, hy⟩ := span_part (hp x (by simp)).1 (hp x (by simp)).2
        intro he
        cases l with
        | nil => rw [show Lib.join ([x].map partL) [44] = partL x from Lib.join_one _ _, e] at he; simp at he; exact hy he.1
        | cons z l =>
          rw [show Lib.join ((x :: z :: l).map partL) [44] = partL x ++ 44 :: Lib.join (partL z :: l.map partL) [44] from join_more _ _ _, e] at he
          simp at he
/-- what is read was written so -/
theorem wr_read {n : Nat} (hn : n ≤ 160) {t : By} (h : gOk n (wrB t)) : ∃ l, toI l = wrB t ∧ textL l = t := by
  unfold wrB at h ⊢
  by_cases ht : t = [45]
  · rw [if_pos ht]
    exact ⟨[], rfl, by rw [ht]; rfl⟩
  · rw [if_neg ht] at h ⊢
    obtain ⟨l, l1, l2, l3⟩ := wr_back (t.length + 1) t (Nat.lt_succ_self _) (fun y hy => by
      obtain ⟨k, hk⟩ := List.getElem?_of_mem hy
      have h1 := gNext_iff.1 (h k y hk)
      have h2 := (gEnd_ge (gOk_pre h (List.take_prefix k _))).1
      omega)
    exact ⟨l, l2, by unfold textL; rw [if_neg l1, l3]⟩
end Go.Proofs.YtbodklppgcloiaaDoor

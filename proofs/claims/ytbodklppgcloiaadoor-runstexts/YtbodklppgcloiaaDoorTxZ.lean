/- Texts of runs: what a text says, and whose text it is (mathematics). What the document reads of a text (mathematics). Contracts of number, span, written, Read; what they ask of the library's variables. Contracts of the document's digits and Text. Contract of the document's Text. Contracts of span, written, Read. The iterator of texts; Read. Contract of the document's Read. -/
import Derived.Test.YtbodklppgcloiaaDoorRwG
import Derived.Lib.LaidTab
import Derived.Stop.LaidErr
namespace Go.Proofs.YtbodklppgcloiaaDoor
open Go.RowKit Go.Shelf
set_option linter.unusedVariables false

/-- what stands ahead of the first c, what behind it, and whether there is one -/
def cutC (c : UInt8) : By → By × By × Bool
  | [] => ([], [], false)
  | x :: s => if x = c then ([], s, true) else (x :: (cutC c s).1, (cutC c s).2.1, (cutC c s).2.2)
theorem cutC_app {c : UInt8} : ∀ (a b : By), c ∉ a → cutC c (a ++ c :: b) = (a, b, true)
  | [], b, _ => by simp [cutC]
  | x :: a, b, h => by
    have h1 : ¬ x = c := fun e => h (List.mem_cons.2 (.inl e.symm))
    have ih := cutC_app a b (fun e => h (List.mem_cons_of_mem _ e))
    show (if x = c then _ else (x :: (cutC c (a ++ c :: b)).1, (cutC c (a ++ c :: b)).2.1, (cutC c (a ++ c :: b)).2.2)) = _
    rw [if_neg h1, ih]
theorem cutC_none {c : UInt8} : ∀ (a : By), c ∉ a → cutC c a = (a, [], false)
  | [], _ => rfl
  | x :: a, h => by
    have h1 : ¬ x = c := fun e => h (List.mem_cons.2 (.inl e.symm))
    have ih := cutC_none a (fun e => h (List.mem_cons_of_mem _ e))
    show (if x = c then _ else _) = _
    rw [if_neg h1, ih]
theorem cutC_cases (c : UInt8) (s : By) : (∃ a b, s = a ++ c :: b ∧ c ∉ a ∧ cutC c s = (a, b, true)) ∨ (c ∉ s ∧ cutC c s = (s, [], false)) := by
  by_cases h : c ∈ s
  · obtain ⟨a, b, h1, h2⟩ := List.eq_append_cons_of_mem h
    exact .inl ⟨a, b, h1, h2, by rw [h1]; exact cutC_app a b h2⟩
  · exact .inr ⟨h, cutC_none s h⟩
theorem index_app {c : UInt8} : ∀ (a b : By), c ∉ a → Lib.index (a ++ c :: b) [c] = a.length
  | [], b, _ => by simp [Lib.index, List.isPrefixOf]
  | x :: a, b, h => by
    have h1 : (c == x) = false := by rw [beq_eq_false_iff_ne]; intro e; exact h (List.mem_cons.2 (.inl e))
    have ih := index_app a b (fun e => h (List.mem_cons_of_mem _ e))
    show (if [c].isPrefixOf (x :: (a ++ c :: b)) then (0 : Int) else if Lib.index (a ++ c :: b) [c] == -1 then -1 else Lib.index (a ++ c :: b) [c] + 1) = _
    have h2 : [c].isPrefixOf (x :: (a ++ c :: b)) = false := by simp [List.isPrefixOf, h1]
    rw [h2, ih, if_neg (by simp), if_neg (by simp)]
    simp
theorem index_not {c : UInt8} : ∀ (a : By), c ∉ a → Lib.index a [c] = -1
  | [], _ => rfl
  | x :: a, h => by
    have h1 : (c == x) = false := by rw [beq_eq_false_iff_ne]; intro e; exact h (List.mem_cons.2 (.inl e))
    have ih := index_not a (fun e => h (List.mem_cons_of_mem _ e))
    show (if [c].isPrefixOf (x :: a) then (0 : Int) else if Lib.index a [c] == -1 then -1 else Lib.index a [c] + 1) = _
    have h2 : [c].isPrefixOf (x :: a) = false := by simp [List.isPrefixOf, h1]
    rw [h2, ih, if_neg (by simp), if_pos (by simp)]
theorem cut_eq (c : UInt8) (s : By) : Lib.cut s [c] = cutC c s := by
  rcases cutC_cases c s with ⟨a, b, rfl, h1, h2⟩ | ⟨h1, h2⟩
  · rw [h2]
    unfold Lib.cut
    rw [index_app a b h1, if_pos (by omega)]
    simp
  · rw [h2]
    unfold Lib.cut
    rw [index_not s h1, if_neg (by omega)]
/-- digits, as they are reckoned -/
def dd (k : Nat) : By := if k < 10 then [UInt8.ofNat (48 + k)] else if k < 100 then [UInt8.ofNat (48 + k / 10), UInt8.ofNat (48 + k % 10)] else [UInt8.ofNat (48 + k / 10 / 10), UInt8.ofNat (48 + k / 10 % 10), UInt8.ofNat (48 + k % 10)]
theorem dec_dd {k : Nat} (h : k < 1000) : Lib.decDigits k = dd k := by
  unfold dd
  by_cases h1 : k < 10
  · rw [Lib.decDigits, dif_pos h1, if_pos h1]
  · rw [if_neg h1]
    by_cases h2 : k < 100
    · rw [if_pos h2, Lib.decDigits, dif_neg h1, Lib.decDigits, dif_pos (by omega)]
      rfl
    · rw [if_neg h2, Lib.decDigits, dif_neg h1, Lib.decDigits, dif_neg (by omega), Lib.decDigits, dif_pos (by omega)]
      rfl
theorem dd_facts : ∀ k, k < 161 → (Lib.atoiAll (dd k) = .ok (k : Int)) ∧ (45 ∉ dd k) ∧ (44 ∉ dd k) ∧ (∃ x r, dd k = x :: r ∧ x ≠ 45) := by
  intro k hk
  have h : ∀ k : Fin 161, (Lib.atoiAll (dd k.1) = .ok (k.1 : Int)) ∧ (45 ∉ dd k.1) ∧ (44 ∉ dd k.1) ∧ (dd k.1).head? ≠ some 45 ∧ dd k.1 ≠ [] := by decide +kernel
  obtain ⟨h1, h2, h3, h4, h5⟩ := h ⟨k, hk⟩
  refine ⟨h1, h2, h3, ?_⟩
  cases hd : dd k with
  | nil => exact absurd hd h5
  | cons x r => exact ⟨x, r, rfl, fun e => by simp only [hd] at h4; subst e; exact h4 rfl⟩
/-- the number of digits, or -1 -/
def numB (d : By) : Int := match Lib.atoiAll d with
  | .ok v => if 0 ≤ v ∧ v < 160 ∧ Lib.itoa v = d then v else -1
  | _ => -1
theorem num_dec {k : Nat} (h : k < 160) : numB (Lib.decDigits k) = k := by
  have h1 := (dd_facts k (by omega)).1
  rw [← dec_dd (by omega)] at h1
  unfold numB
  rw [h1]
  simp only
  rw [if_pos ⟨by omega, by omega, by unfold Lib.itoa; rw [if_neg (by omega), Int.toNat_natCast]⟩]
theorem num_back (d : By) : numB d = -1 ∨ ∃ k : Nat, k < 160 ∧ numB d = k ∧ Lib.decDigits k = d := by
  unfold numB
  split
  · rename_i v hv
    split
    · rename_i h
      obtain ⟨h1, h2, h3⟩ := h
      refine .inr ⟨v.toNat, by omega, by omega, ?_⟩
      unfold Lib.itoa at h3
      rw [if_neg (by omega)] at h3
      exact h3
    · exact .inl rfl
  · exact .inl rfl
/-- the run of a text -/
def spanB (p : By) : Int × Int :=
  if (cutC 45 p).2.2 then (if numB (cutC 45 p).2.1 = numB (cutC 45 p).1 then (0, 0) else (numB (cutC 45 p).1, numB (cutC 45 p).2.1 + 1)) else (numB (cutC 45 p).1, numB (cutC 45 p).1 + 1)
/-- what a text says, part by part -/
def wrL : Nat → By → List (Int × Int)
  | 0, _ => []
  | f + 1, s => spanB (cutC 44 s).1 :: (if (cutC 44 s).2.2 then wrL f (cutC 44 s).2.1 else [])
def wrB (t : By) : List (Int × Int) := if t = [45] then [] else wrL (t.length + 1) t
theorem dec_no {k : Nat} (h : k < 161) : 45 ∉ Lib.decDigits k ∧ 44 ∉ Lib.decDigits k ∧ ∃ x r, Lib.decDigits k = x :: r ∧ x ≠ 45 := by
  rw [dec_dd (by omega)]
  exact (dd_facts k h).2
theorem span_part {x : Nat × Nat} (h1 : x.1 < x.2) (h2 : x.2 ≤ 160) : spanB (partL x) = ((x.1 : Int), (x.2 : Int)) ∧ 44 ∉ partL x ∧ ∃ y r, partL x = y :: r ∧ y ≠ 45 := by
  obtain ⟨a1, a2, a3⟩ := dec_no (k := x.1) (by omega)
  obtain ⟨b1, b2, b3⟩ := dec_no (k := x.2 - 1) (by omega)
  unfold spanB partL
  by_cases he : x.1 + 1 = x.2
  · rw [if_pos he, cutC_none _ a1]
    simp only [Bool.false_eq_true, if_false]
    rw [num_dec (by omega)]
    exact ⟨by rw [← he]; rfl, a2, a3⟩
  · rw [if_neg he, cutC_app _ _ a1]
    simp only [if_true]
    rw [num_dec (by omega), num_dec (by omega), if_neg (by omega)]
    refine ⟨by congr 1; omega, ?_, ?_⟩
    · intro hm
      rcases List.mem_append.1 hm with h | h
      · exact a2 h
      · rcases List.mem_cons.1 h with h | h
        · cases h
        · exact b2 h
    · obtain ⟨y, r, e, hy⟩ := a3
      exact ⟨y, r ++ 45 :: Lib.decDigits (x.2 - 1), by rw [e]; rfl, hy⟩
theorem span_back (p : By) (h0 : 0 ≤ (spanB p).1) (h1 : (spanB p).1 < (spanB p).2) : ∃ x : Nat × Nat, x.1 < x.2 ∧ x.2 ≤ 160 ∧ spanB p = ((x.1 : Int), (x.2 : Int)) ∧ partL x = p := by
  unfold spanB at h0 h1 ⊢
  rcases cutC_cases 45 p with ⟨a, b, rfl, hn, hc⟩ | ⟨hn, hc⟩
  · rw [hc] at h0 h1 ⊢
    simp only [if_true] at h0 h1 ⊢
    by_cases he : numB b = numB a
    · rw [if_pos he] at h1; simp at h1
    · rw [if_neg he] at h0 h1 ⊢
      simp only at h0 h1
      rcases num_back a with ha | ⟨k, hk, ha, hd⟩
      · omega
      rcases num_back b with hb | ⟨j, hj, hb, hd2⟩
      · omega
      refine ⟨(k, j + 1), by simp only; omega, by simp only; omega, by rw [ha, hb]; rfl, ?_⟩
      unfold partL
      simp only
      rw [if_neg (by omega), hd, show j + 1 - 1 = j by omega, hd2]
  · rw [hc] at h0 h1 ⊢
    simp only [Bool.false_eq_true, if_false] at h0 h1 ⊢
    rcases num_back p with ha | ⟨k, hk, ha, hd⟩
    · omega
    refine ⟨(k, k + 1), by simp only; omega, by simp only; omega, by rw [ha]; rfl, ?_⟩
    unfold partL
    rw [if_pos rfl, hd]
theorem join_more (x y : By) (l : List By) : Lib.join (x :: y :: l) [44] = x ++ 44 :: Lib.join (y :: l) [44] := by
  simp [Lib.join, List.intercalate, List.intersperse]
theorem wr_join : ∀ (l : List (Nat × Nat)) (f : Nat), l ≠ [] → (∀ x ∈ l, x.1 < x.2 ∧ x.2 ≤ 160) → l.length ≤ f → wrL f (Lib.join (l.map partL) [44]) = toI l
  | [], f, h, _, _ => absurd rfl h
  | [x], 0, _, _, hf => by simp at hf
  | x :: y :: l, 0, _, _, hf => by simp at hf
  | [x], f + 1, _, hx, _ => by
    obtain ⟨h1, h2, _⟩ := span_part (hx x (by simp)).1 (hx x (by simp)).2
    show spanB (cutC 44 (Lib.join [partL x] [44])).1 :: (if (cutC 44 (Lib.join [partL x] [44])).2.2 then _ else []) = _
    rw [Lib.join_one, cutC_none _ h2]
    simp only [Bool.false_eq_true, if_false, h1]
    rfl
  | x :: y :: l, f + 1, _, hx, hf => by
    obtain ⟨h1, h2, _⟩ := span_part (hx x (by simp)).1 (hx x (by simp)).2
    have ih := wr_join (y :: l) f (by simp) (fun z hz => hx z (by simp [List.mem_cons.1 hz])) (by simpa using hf)
    show spanB (cutC 44 (Lib.join (partL x :: partL y :: l.map partL) [44])).1 :: (if (cutC 44 (Lib.join (partL x :: partL y :: l.map partL) [44])).2.2 then wrL f (cutC 44 (Lib.join (partL x :: partL y :: l.map partL) [44])).2.1 else []) = _
    rw [join_more, cutC_app _ _ h2]
    simp only [if_true, h1]
    rw [show Lib.join (partL y :: l.map partL) [44] = Lib.join ((y :: l).map partL) [44] from rfl, ih]
    rfl
theorem wr_back : ∀ (f : Nat) (s : By), s.length < f → (∀ y ∈ wrL f s, 0 ≤ y.1 ∧ y.1 < y.2) → ∃ l : List (Nat × Nat), l ≠ [] ∧ toI l = wrL f s ∧ Lib.join (l.map partL) [44] = s
  | 0, s, h, _ => by omega
  | f + 1, s, h, hy => by
    have h0 := hy (spanB (cutC 44 s).1) (by unfold wrL; simp)
    obtain ⟨x, x1, x2, x3, x4⟩ := span_back _ h0.1 h0.2
    rcases cutC_cases 44 s with ⟨a, b, rfl, hn, hc⟩ | ⟨hn, hc⟩
    · rw [hc] at x3 x4
      simp only at x3 x4
      obtain ⟨l, l1, l2, l3⟩ := wr_back f b (by simp at h; omega) (fun y hm => hy y (by unfold wrL; rw [hc]; simp [hm]))
      cases l with
      | nil => exact absurd rfl l1
      | cons y l =>
        refine ⟨x :: y :: l, by simp, ?_, ?_⟩
        · rw [toI_cons]
          unfold wrL
          rw [hc]
          simp only [if_true]
          rw [← l2, x3]
        · show Lib.join (partL x :: partL y :: l.map partL) [44] = _
          rw [join_more, x4]
          rw [show Lib.join (partL y :: l.map partL) [44] = Lib.join ((y :: l).map partL) [44] from rfl, l3]
    · rw [hc] at x3 x4
      simp only at x3 x4
      refine ⟨[x], by simp, ?_, ?_⟩
      · unfold wrL
        rw [hc]
        simp only [Bool.false_eq_true, if_false]
        rw [x3]
        rfl
      · show Lib.join [partL x] [44] = _
        rw [Lib.join_one, x4]
theorem join_len : ∀ (l : List (Nat × Nat)), (∀ x ∈ l, x.1 < x.2 ∧ x.2 ≤ 160) → l.length ≤ (Lib.join (l.map partL) [44]).length
  | [], _ => by simp
  | [x], hx => by
    obtain ⟨_, _, y, r, e, _⟩ := span_part (hx x (by simp)).1 (hx x (by simp)).2
    show 1 ≤ (Lib.join [partL x] [44]).length
    rw [Lib.join_one, e]; simp
  | x :: y :: l, hx => by
    have ih := join_len (y :: l) (fun z hz => hx z (by simp [List.mem_cons.1 hz]))
    show l.length + 1 + 1 ≤ (Lib.join (partL x :: partL y :: l.map partL) [44]).length
    rw [join_more, List.length_append, List.length_cons]
    have : (l.length + 1) ≤ (Lib.join (partL y :: l.map partL) [44]).length := ih
    omega
theorem ok_part {n : Nat} (hn : n ≤ 160) {l : List (Nat × Nat)} (h : gOk n (toI l)) (x : Nat × Nat) (hx : x ∈ l) : x.1 < x.2 ∧ x.2 ≤ 160 := by
  have := ok_all h ((x.1 : Int), (x.2 : Int)) (List.mem_map.2 ⟨x, hx, rfl⟩)
  simp only at this
  omega
/-- what is written is read -/
theorem wr_text {n : Nat} (hn : n ≤ 160) {l : List (Nat × Nat)} (h : gOk n (toI l)) : wrB (textL l) = toI l := by
  have hp := ok_part hn h
  unfold wrB textL
  by_cases hl : l = []
  · rw [if_pos hl, if_pos rfl, hl]; rfl
  · rw [if_neg hl, if_neg ?_]
    · exact wr_join l _ hl hp (Nat.le_succ_of_le (join_len l hp))
    · cases l with
      | nil => exact absurd rfl hl
      | cons x l =>
        obtain ⟨_, _, y, r, e, hy⟩ := span_part (hp x (by simp)).1 (hp x (by simp)).2
        intro he
        cases l with
        | nil => rw [show Lib.join ([x].map partL) [44] = partL x from Lib.join_one _ _, e] at he; simp at he; exact hy he.1
        | cons z l =>
          rw [show Lib.join ((x :: z :: l).map partL) [44] = partL x ++ 44 :: Lib.join (partL z :: l.map partL) [44] from join_more _ _ _, e] at he
          simp at he
/-- what is read was written so -/
theorem wr_read {n : Nat} (hn : n ≤ 160) {t : By} (h : gOk n (wrB t)) : ∃ l, toI l = wrB t ∧ textL l = t := by
  unfold wrB at h ⊢
  by_cases ht : t = [45]
  · rw [if_pos ht]
    exact ⟨[], rfl, by rw [ht]; rfl⟩
  · rw [if_neg ht] at h ⊢
    obtain ⟨l, l1, l2, l3⟩ := wr_back (t.length + 1) t (Nat.lt_succ_self _) (fun y hy => by
      obtain ⟨k, hk⟩ := List.getElem?_of_mem hy
      have h1 := gNext_iff.1 (h k y hk)
      have h2 := (gEnd_ge (gOk_pre h (List.take_prefix k _))).1
      omega)
    exact ⟨l, l2, by unfold textL; rw [if_neg l1, l3]⟩
end Go.Proofs.YtbodklppgcloiaaDoor
namespace Go.Proofs.YtbodklppgcloiaaDoor
open Go.RowKit Go.Shelf
set_option linter.unusedVariables false

/-- the numbers from a on, q of them, below n -/
def flN (n : Nat) (a : Int) : Nat → List Int
  | 0 => []
  | q + 1 => flN n a q ++ [a + (q : Int)]
theorem flN_len (n : Nat) (a : Int) (q : Nat) : (flN n a q).length = q := by
  induction q with
  | zero => rfl
  | succ q ih => rw [flN, List.length_append, ih]; rfl
theorem flN_eq (n : Nat) (a : Int) (q : Nat) : flN n a q = (List.range q).map fun (i : Nat) => a + (i : Int) := by
  induction q with
  | zero => rfl
  | succ q ih => rw [flN, ih, List.range_succ, List.map_append]; rfl
/-- how many are put in: those from lo to x that are below n -/
def flC (n : Nat) (lo x : Int) : Nat := (min (x + 1) n - lo).toNat
/-- the numbers that are put in where a part ends -/
def flP (n : Nat) (lo x : Int) : List Int := flN n (if lo < 0 then x else lo) (flC n (if lo < 0 then x else lo) x)
/-- one sign more -/
def stp (n : Nat) (q : List Int × Int × Int) (c : UInt8) : List Int × Int × Int :=
  if (48 ≤ c.toNat ∧ c.toNat ≤ 57) ∧ q.2.2 ≤ 160 then (q.1, q.2.1, 10 * q.2.2 + c.toNat - 48) else if c.toNat = 45 then (q.1, q.2.2, 0) else (q.1 ++ flP n q.2.1 q.2.2, -1, 0)
def rdS (n : Nat) (t : By) : List Int × Int × Int := t.foldl (stp n) ([], -1, 0)
/-- all numbers -/
def rdN (n : Nat) (t : By) : List Int := (rdS n t).1 ++ flP n (rdS n t).2.1 (rdS n t).2.2
theorem rdS_snoc (n : Nat) (t : By) (c : UInt8) : rdS n (t ++ [c]) = stp n (rdS n t) c := by simp [rdS]
theorem flP_len {n : Nat} (hn : n ≤ 160) (lo x : Int) (hl : -1 ≤ lo) (hx : 0 ≤ x) : (flP n lo x).length ≤ 160 := by
  unfold flP flC
  rw [flN_len]
  split <;> omega
theorem rdS_bound {n : Nat} (hn : n ≤ 160) (t : By) : (rdS n t).1.length ≤ 160 * t.length ∧ (-1 ≤ (rdS n t).2.1 ∧ (rdS n t).2.1 ≤ 1609) ∧ (0 ≤ (rdS n t).2.2 ∧ (rdS n t).2.2 ≤ 1609) := by
  have key : ∀ k, k ≤ t.length → (rdS n (t.take k)).1.length ≤ 160 * k ∧ (-1 ≤ (rdS n (t.take k)).2.1 ∧ (rdS n (t.take k)).2.1 ≤ 1609) ∧ (0 ≤ (rdS n (t.take k)).2.2 ∧ (rdS n (t.take k)).2.2 ≤ 1609) := by
    intro k
    induction k with
    | zero => intro _; simp [rdS]
    | succ k ih =>
      intro hk
      obtain ⟨h1, h2, h3⟩ := ih (by omega)
      rw [List.take_succ_eq_append_getElem (by omega), rdS_snoc]
      generalize rdS n (t.take k) = q at *
      unfold stp
      split
      · rename_i hc; simp only; omega
      · split
        · simp only; omega
        · have := flP_len hn q.2.1 q.2.2 h2.1 h3.1
          simp only [List.length_append]
          omega
  have := key t.length (Nat.le_refl _)
  rwa [List.take_length] at this
theorem dig_toNat {k : Nat} (h : k < 10) : (UInt8.ofNat (48 + k)).toNat = 48 + k := by rw [UInt8.toNat_ofNat']; omega
theorem stp_dig (n : Nat) (N : List Int) (lo : Int) (x k : Nat) (hx : x ≤ 160) (hk : k < 10) : stp n (N, lo, (x : Int)) (UInt8.ofNat (48 + k)) = (N, lo, ((10 * x + k : Nat) : Int)) := by
  unfold stp
  rw [dig_toNat hk]
  simp only
  rw [if_pos ⟨by omega, by omega⟩]
  congr 2
  omega
theorem scan_dec (n : Nat) (N : List Int) (lo : Int) {k : Nat} (hk : k < 161) : (Lib.decDigits k).foldl (stp n) (N, lo, 0) = (N, lo, (k : Int)) := by
  rw [dec_dd (by omega)]
  unfold dd
  rw [show (0 : Int) = ((0 : Nat) : Int) from rfl]
  by_cases h1 : k < 10
  · rw [if_pos h1]
    simp only [List.foldl_cons, List.foldl_nil]
    rw [stp_dig n N lo 0 k (by omega) h1]
    congr 2; omega
  · rw [if_neg h1]
    by_cases h2 : k < 100
    · rw [if_pos h2]
      simp only [List.foldl_cons, List.foldl_nil]
      rw [stp_dig n N lo 0 (k / 10) (by omega) (by omega), stp_dig n N lo _ (k % 10) (by omega) (by omega)]
      congr 2; omega
    · rw [if_neg h2]
      simp only [List.foldl_cons, List.foldl_nil]
      rw [stp_dig n N lo 0 (k / 10 / 10) (by omega) (by omega), stp_dig n N lo _ (k / 10 % 10) (by omega) (by omega), stp_dig n N lo _ (k % 10) (by omega) (by omega)]
      congr 2; omega
/-- a run's numbers -/
def spN (x : Nat × Nat) : List Int := (List.range (x.2 - x.1)).map fun (i : Nat) => (x.1 : Int) + (i : Int)
theorem scan_part {n : Nat} (hn : n ≤ 160) (N : List Int) {x : Nat × Nat} (h1 : x.1 < x.2) (h2 : x.2 ≤ n) : ∃ lo y, (partL x).foldl (stp n) (N, -1, 0) = (N, lo, y) ∧ flP n lo y = spN x := by
  unfold partL
  by_cases he : x.1 + 1 = x.2
  · rw [if_pos he, scan_dec n N (-1) (by omega)]
    refine ⟨-1, x.1, rfl, ?_⟩
    unfold flP flC spN
    rw [if_pos (by omega), flN_eq, show (min ((x.1 : Int) + 1) n - x.1).toNat = x.2 - x.1 by omega]
  · rw [if_neg he, List.foldl_append, scan_dec n N (-1) (by omega), List.foldl_cons]
    have hs : stp n (N, -1, (x.1 : Int)) 45 = (N, (x.1 : Int), 0) := by
      unfold stp
      rw [if_neg (by rintro ⟨⟨h, _⟩, _⟩; revert h; decide), if_pos (by decide)]
    rw [hs, scan_dec n N _ (by omega)]
    refine ⟨_, _, rfl, ?_⟩
    unfold flP flC spN
    rw [if_neg (by omega), flN_eq, show (min (((x.2 - 1 : Nat) : Int) + 1) n - x.1).toNat = x.2 - x.1 by omega]
theorem scan_join {n : Nat} (hn : n ≤ 160) : ∀ (l : List (Nat × Nat)) (N : List Int), l ≠ [] → (∀ x ∈ l, x.1 < x.2 ∧ x.2 ≤ n) → ∃ M lo y, (Lib.join (l.map partL) [44]).foldl (stp n) (N, -1, 0) = (M, lo, y) ∧ M ++ flP n lo y = N ++ l.flatMap spN
  | [], N, h, _ => absurd rfl h
  | [x], N, _, hx => by
    obtain ⟨lo, y, h1, h2⟩ := scan_part hn N (hx x (by simp)).1 (hx x (by simp)).2
    refine ⟨N, lo, y, ?_, by rw [h2]; simp⟩
    rw [show Lib.join ([x].map partL) [44] = partL x from Lib.join_one _ _, h1]
  | x :: z :: l, N, _, hx => by
    obtain ⟨lo, y, h1, h2⟩ := scan_part hn N (hx x (by simp)).1 (hx x (by simp)).2
    have hs : stp n (N, lo, y) 44 = (N ++ spN x, -1, 0) := by
      unfold stp
      rw [if_neg (by rintro ⟨⟨h, _⟩, _⟩; revert h; decide), if_neg (by decide)]
      simp only [h2]
    obtain ⟨M, lo', y', h3, h4⟩ := scan_join hn (z :: l) (N ++ spN x) (by simp) (fun u hu => hx u (by simp [List.mem_cons.1 hu]))
    refine ⟨M, lo', y', ?_, by rw [h4]; simp⟩
    rw [show Lib.join ((x :: z :: l).map partL) [44] = partL x ++ 44 :: Lib.join ((z :: l).map partL) [44] from join_more _ _ _, List.foldl_append, h1, List.foldl_cons, hs, h3]
theorem nums_flat (l : List (Nat × Nat)) : gNums (toI l) = l.flatMap spN := by
  unfold gNums toI spN
  rw [List.flatMap_map]
  congr 1
  funext x
  simp only
  congr 2
  omega
/-- the document's numbers -/
def docN (n : Nat) (t : By) : List Int := if t = [45] then [] else rdN n t
theorem doc_nums {n : Nat} (hn : n ≤ 160) {l : List (Nat × Nat)} (h : gOk n (toI l)) : docN n (textL l) = gNums (toI l) := by
  have hp : ∀ x ∈ l, x.1 < x.2 ∧ x.2 ≤ n := fun x hx => by
    have := ok_all h ((x.1 : Int), (x.2 : Int)) (List.mem_map.2 ⟨x, hx, rfl⟩)
    simp only at this
    omega
  have hw := wr_text hn h
  unfold docN
  by_cases hl : l = []
  · subst hl; rfl
  · have hne : textL l ≠ [45] := by
      intro he
      rw [he] at hw
      have h1 : wrB [45] = [] := by unfold wrB; rw [if_pos rfl]
      rw [h1] at hw
      cases l with
      | nil => exact hl rfl
      | cons x l => simp [toI] at hw
    rw [if_neg hne]
    obtain ⟨M, lo, y, h1, h2⟩ := scan_join hn l [] hl hp
    have ht : textL l = Lib.join (l.map partL) [44] := by unfold textL; rw [if_neg hl]
    unfold rdN rdS
    rw [ht, h1]
    simp only
    rw [h2, nums_flat]; simp
noncomputable def redE' (n : Int) (t : By) : Int := gatE n 3 (wrB t)
noncomputable def redR' (n : Int) (t : By) : By := gatR n (wrB t)
theorem text_eq {n : Nat} {s : By} (hc : chk n s = true) : textR n s = textL (runsL s n) := by
  unfold textR
  rw [if_pos (by rw [chkI_nat]; exact hc), Int.toNat_natCast]
theorem doc_read (n : Nat) (hn : n ≤ 160) (t : By) : (textR n (mkL n (docN n t)) = t ∧ gatR n (wrB t) = mkL n (docN n t) ∧ gatE n 3 (wrB t) = 0) ∨ (textR n (mkL n (docN n t)) ≠ t ∧ gatR n (wrB t) = [] ∧ gatE n 3 (wrB t) = 3) := by
  have hc := mkL_chk n hn (docN n t)
  by_cases hok : gOk n (wrB t)
  · obtain ⟨l, l1, l2⟩ := wr_read hn hok
    rw [← l1] at hok
    have hd := doc_nums hn hok
    rw [l2] at hd
    have hu := uniq_runs hok (mkL n (docN n t)) (fun i => by rw [mkL_bit, hd, cov_gNums])
    have hr := toI_inj hu
    refine .inl ⟨by rw [text_eq hc, hr, l2], ?_⟩
    have := gat_runs hc 3
    rw [hu, l1] at this
    exact this
  · refine .inr ⟨fun h => hok ?_, ?_, ?_⟩
    · rw [text_eq hc] at h
      have h2 := wr_text hn (runs_ok hc)
      rw [h] at h2
      rw [h2]
      exact runs_ok hc
    · unfold gatR
      rw [if_neg (fun h => hok h.2)]
    · unfold gatE
      rw [if_neg (fun h => h (by omega)), if_neg hok]
end Go.Proofs.YtbodklppgcloiaaDoor
namespace Go.Proofs.YtbodklppgcloiaaDoor
open Go.RowKit Go.Shelf
set_option linter.unusedVariables false
attribute [local go_sem] Oper.semAt_some

/-- the library's variables hold what they were laid with -/
structure Glob (W : World) : Prop where
  tab : Lib.TabIs Tryd.prog W "internal/strconv.uint64pow10" .u64 Lib.pow10Tab
  len : ∃ m, W.cell? ⟨0, 0, none⟩ = some (.int .i64 m)
  syn : ∃ tp p, W.var? Tryd.prog "strconv.ErrSyntax" = some #[.iface tp p]
  ran : ∃ tp p, W.var? Tryd.prog "strconv.ErrRange" = some #[.iface tp p]
/-- all cells that were there are as they were -/
def Old (w W : World) : Prop := ∀ (k : Nat) (cs : Array Value) (t : TypeId) (fr : Nat × Nat), w.heap[k]? = some (.cells cs t fr) → W.heap[k]? = some (.cells cs t fr)
theorem Old.refl (w : World) : Old w w := fun _ _ _ _ h => h
theorem Old.below {w A B : World} (h : Old w A) (hb : Below A.heap.size A B) : Old w B := fun k cs t fr h1 => (hb.block k (lt_of_block (h k cs t fr h1))).trans (h k cs t fr h1)
theorem Old.kp {w A B : World} {n0 : Nat} (h : Old w A) (hn : w.heap.size ≤ n0) (hk : KpG n0 A B) : Old w B := fun k cs t fr h1 => hk k cs t fr (h k cs t fr h1) (.inl (Nat.lt_of_lt_of_le (lt_of_block h1) hn))
theorem Old.of_below {w A : World} (hb : Below w.heap.size w A) : Old w A := (Old.refl w).below hb
theorem var_old {w W : World} {n : String} {cs : Array Value} (h : w.var? Tryd.prog n = some cs) (ho : Old w W) : W.var? Tryd.prog n = some cs := by
  unfold World.var? at h ⊢
  cases hg : Tryd.prog.globalNamed n with
  | none => simp [hg] at h
  | some g =>
    simp only [hg, Option.bind_some] at h ⊢
    cases hb : w.heap[g]? with
    | none => simp [hb] at h
    | some o =>
      cases o with
      | cells c t fr =>
        rw [hb] at h
        rw [ho g c t fr hb]
        exact h
      | _ => simp [hb] at h
theorem Glob.old {w W : World} (h : Glob w) (ho : Old w W) : Glob W := by
  refine ⟨var_old h.tab ho, ?_, ?_, ?_⟩
  · obtain ⟨m, hm⟩ := h.len
    refine ⟨m, ?_⟩
    unfold World.cell? at hm ⊢
    cases hb : w.heap[(0 : Nat)]? with
    | none => simp [hb] at hm
    | some o =>
      cases o with
      | cells c t fr =>
        simp only [hb] at hm
        simp only [ho 0 c t fr hb]
        exact hm
      | _ => simp [hb] at hm
  · obtain ⟨tp, p, h1⟩ := h.syn; exact ⟨tp, p, var_old h1 ho⟩
  · obtain ⟨tp, p, h1⟩ := h.ran; exact ⟨tp, p, var_old h1 ho⟩
theorem Glob.below {w W : World} (h : Glob w) (hb : Below w.heap.size w W) : Glob W := h.old (Old.of_below hb)
theorem below_grow (w : World) (k : Nat) (os : Array Obj) : Below w.heap.size w (Sort.grow (w.drewN k) os) :=
  ⟨rfl, rfl, rfl, by simp [Sort.grow], fun i hi => by show (w.heap ++ os)[i]? = _; rw [Array.getElem?_append_left hi]⟩
theorem below_dn (w : World) (k : Nat) : Below w.heap.size w (w.drewN k) := ⟨rfl, rfl, rfl, Nat.le_refl _, fun _ _ => rfl⟩
theorem itoa_glob {w : World} (h : Glob w) (k : Nat) (hk : k < 1000) : Calls Tryd.prog 73 #[.int .i64 k] w fun e w' => e = .returned (.string (bs (Lib.decDigits k))) ∧ Below w.heap.size w w' :=
  (Tryd.strconv_Itoa k (by omega) (by omega) w h.tab).mono fun e w' ⟨h1, n, os, h2⟩ => ⟨by rw [h1]; unfold Lib.itoa; rw [if_neg (by omega), Int.toNat_natCast]; rfl, by rw [h2]; exact below_grow _ _ _⟩
theorem itoaOk_glob {w : World} (h : Glob w) : ItoaOk w 161 := fun k hk w' hb => itoa_glob (h.below hb) k (by omega)
theorem cut_any (c : UInt8) (s : By) (hs : s.length ≤ 100000) (w : World) (hG : Glob w) : Calls Tryd.prog 78 #[.string (bs s), .string (bs [c])] w fun e w' => e = .returned (.tuple #[.string (bs (cutC c s).1), .string (bs (cutC c s).2.1), .bool (cutC c s).2.2]) ∧ Below w.heap.size w w' := by
  obtain ⟨m, hm⟩ := hG.len
  refine (Tryd.strings_Cut (bs s) (bs [c]) m w (by rw [bs_size]; omega) hm).mono ?_
  rintro e w' ⟨rfl, n, rfl⟩
  rw [bs_list, bs_list, cut_eq]
  exact ⟨rfl, below_dn w n⟩
/-- how Atoi ends -/
theorem atoi_any (d : By) (hd : d.length ≤ 100000) (w : World) (hG : Glob w) : Calls Tryd.prog 98 #[.string (bs d)] w fun e w' => (∃ x y, e = .returned (.tuple #[.int .i64 x, y]) ∧ ((∃ v, Lib.atoiAll d = .ok v ∧ x = v ∧ y = .nilIface) ∨ ((∀ v, Lib.atoiAll d ≠ .ok v) ∧ ∃ N, y = .iface 133 (.pointer (some ⟨N, 0, none⟩))))) ∧ Below w.heap.size w w' := by
  have hsz : (bs d).size = d.length := bs_size d
  cases h : Lib.atoiAll d with
  | ok v =>
    refine (Tryd.strconv_Atoi_ok (bs d) (by omega) v h w).mono ?_
    rintro e w' ⟨rfl, hw⟩
    refine ⟨⟨_, _, rfl, .inl ⟨v, rfl, rfl, rfl⟩⟩, ?_⟩
    rcases hw with rfl | ⟨t, rfl⟩
    · exact Below.refl _ _
    · exact Lib.bytesWorld_below _ _ _
  | «syntax» =>
    obtain ⟨tp, p, hv⟩ := hG.syn
    refine (Tryd.strconv_Atoi_syntax_var (bs d) (by omega) h tp p w hv).mono ?_
    rintro e w' ⟨N, rfl, _, _, hb⟩
    exact ⟨⟨_, _, rfl, .inr ⟨fun v hv => (by cases hv), N, rfl⟩⟩, hb⟩
  | range =>
    obtain ⟨tp, p, hv⟩ := hG.ran
    refine (Tryd.strconv_Atoi_range_var (bs d) (by omega) h tp p w hv).mono ?_
    rintro e w' ⟨N, rfl, _, _, hb⟩
    exact ⟨⟨_, _, rfl, .inr ⟨fun v hv => (by cases hv), N, rfl⟩⟩, hb⟩
theorem atoi_range {d : By} {v : Int} (h : Lib.atoiAll d = .ok v) : -9223372036854775808 ≤ v ∧ v ≤ 9223372036854775807 := by
  unfold Lib.atoiAll at h
  split at h
  · cases h
  · simp only at h
    split at h
    · cases h
    · cases h
    · split at h
      · cases h
      · split at h
        · cases h
        · rename_i h1 h2
          simp only [Lib.NumEnd.ok.injEq] at h
          subst h
          split
          · rename_i h3; simp only [h3, true_and] at h2; omega
          · rename_i h3; simp only [h3, not_false_eq_true, true_and] at h1; omega
set_option maxRecDepth 100000 in
set_option maxHeartbeats 1000000 in
theorem number_any (d : By) (hd : d.length ≤ 100000) (w : World) (hG : Glob w) : Calls Tryd.prog 92 #[.string (bs d)] w fun e w' => e = .returned (.int .i64 (numB d)) ∧ Below w.heap.size w w' := by
  have hA := hide (atoi_any d hd w hG)
  have hno : Hid ((∀ v, Lib.atoiAll d ≠ .ok v) → numB d = -1) := by
    intro h
    unfold numB
    split
    · rename_i v hv; exact absurd hv (h v)
    · rfl
  have hsz : (bs d).size ≤ 100000 := by rw [bs_size]; exact hd
  have hI := hide (fun w' (hb : Below w.heap.size w w') (k : Nat) (hk : k < 160) => itoa_glob (hG.below hb) k (by omega))
  obtain ⟨D, hD⟩ : ∃ D, D = bs d := ⟨_, rfl⟩
  have HD := hide hD
  rw [← hD] at hA hsz ⊢
  clear hD
  go_enter Tryd.func92, Tryd.ntmps92
  go_wp2_with fail
  refine (unhide hA).mono ?_
  rintro e w1 ⟨⟨x, y, rfl, ⟨v, hv, rfl, rfl⟩ | ⟨hne, N, rfl⟩⟩, b1⟩
  · have B1 := hide b1
    have hr := atoi_range hv
    have hN : Hid (numB d = if 0 ≤ x ∧ x < 160 ∧ Lib.itoa x = d then x else -1) := by
      show _ = _
      unfold numB
      rw [hv]
    have HV := hide hv
    clear b1 hv hno hA
    by_cases h1 : x < 0
    · have hN2 : Hid (numB d = -1) := by
        show _ = _
        rw [unhide hN, if_neg (by omega)]
      go_wp2
      go_ret
      exact ⟨by rw [unhide hN2]; rfl, unhide B1⟩
    · by_cases h2 : 160 ≤ x
      · have hN2 : Hid (numB d = -1) := by
          show _ = _
          rw [unhide hN, if_neg (by omega)]
        go_wp2
        go_ret
        exact ⟨by rw [unhide hN2]; rfl, unhide B1⟩
      · obtain ⟨k, rfl⟩ : ∃ k : Nat, x = k := ⟨x.toNat, by omega⟩
        have hi := hide (unhide hI w1 (unhide B1) k (by omega))
        have hit : Lib.itoa (k : Int) = Lib.decDigits k := by unfold Lib.itoa; rw [if_neg (by omega), Int.toNat_natCast]
        rw [hit] at hN
        have hcmp : Hid (((bs (Lib.decDigits k)).toList == D.toList) = decide (Lib.decDigits k = d)) := by
          show _ = _
          rw [unhide HD, ByteArray.toList_eq, ByteArray.toList_eq, bs_list, bs_list]
          by_cases h : Lib.decDigits k = d
          · rw [decide_eq_true h, h]; simp
          · rw [decide_eq_false h]; simpa using h
        by_cases h3 : Lib.decDigits k = d
        · have hN2 : Hid (numB d = (k : Int)) := by
            show _ = _
            rw [unhide hN, if_pos ⟨by omega, by omega, h3⟩]
          have hc : ((bs (Lib.decDigits k)).toList == D.toList) = true := by rw [unhide hcmp, decide_eq_true h3]
          clear hcmp hit h3
          generalize bs (Lib.decDigits k) = DK at *
          go_wp2_with fail
          refine (unhide hi).mono ?_
          rintro e w2 ⟨rfl, b2⟩
          have B2 := hide ((unhide B1).trans (b2.mono (unhide B1).size))
          clear b2
          go_wp2
          go_ret
          exact ⟨by rw [unhide hN2]; rfl, unhide B2⟩
        · have hN2 : Hid (numB d = -1) := by
            show _ = _
            rw [unhide hN, if_neg (fun h => h3 h.2.2)]
          have hc : ((bs (Lib.decDigits k)).toList == D.toList) = false := by rw [unhide hcmp, decide_eq_false h3]
          clear hcmp hit h3
          generalize bs (Lib.decDigits k) = DK at *
          go_wp2_with fail
          refine (unhide hi).mono ?_
          rintro e w2 ⟨rfl, b2⟩
          have B2 := hide ((unhide B1).trans (b2.mono (unhide B1).size))
          clear b2
          go_wp2
          go_ret
          exact ⟨by rw [unhide hN2]; rfl, unhide B2⟩
  · have B1 := hide b1
    have hN2 : Hid (numB d = -1) := unhide hno hne
    clear b1 hne hA hno
    go_wp2
    go_ret
    exact ⟨by rw [unhide hN2]; rfl, unhide B1⟩
end Go.Proofs.YtbodklppgcloiaaDoor
namespace Go.Proofs.YtbodklppgcloiaaDoor
open Go.RowKit Go.Shelf
set_option linter.unusedVariables false
attribute [local go_sem] Oper.semAt_some

theorem conv_one (w : World) (v : Int) (b : UInt8) (hb : v = (b.toNat : Int)) : (convert 75 9 (.slice (some ⟨w.heap.size, 0, none⟩) 1 1)).run Tryd.prog (w.alloc (.cells #[.int .u8 v] 5)) = .ok (.string (bs [b])) (w.alloc (.cells #[.int .u8 v] 5)) := by
  subst hb
  exact run_string_own (P := Tryd.prog) (base := w.heap.size) (n := 1) (l := [b]) 75 9 (by kernel_rfl) (by kernel_rfl) (by kernel_rfl) (World.ownsRow_lit w _ 1 (Nat.le_refl _) (by unfold maxLen; omega) rfl)
set_option maxRecDepth 100000 in
set_option maxHeartbeats 1000000 in
theorem digits_any (k : Nat) (hk : k < 1000) (w : World) : Calls Tryd.prog 48 #[.int .i64 k] w fun e w' => e = .returned (.string (bs (Lib.decDigits k))) ∧ Below w.heap.size w w' := by
  go_enter Tryd.func48, Tryd.ntmps48
  go_wp2
  go_loopw [0, 3] (fun n s wr => ∃ (m : Nat) (S : By), n = .int .i64 m ∧ s = .string (bs S) ∧ m ≤ k ∧ S.length ≤ 1000 - m ∧ Lib.decDigits m ++ S = Lib.decDigits k ∧ Below w.heap.size w wr) (fun n _ _ => (intOf n).toNat)
  case atStart => exact ⟨k, [], rfl, rfl, Nat.le_refl _, by simp, by simp, Below.refl _ _⟩
  case round =>
    obtain ⟨m, S, rfl, rfl, hm, hS, hd, hB⟩ := hrel
    have hsz : (bs S).size ≤ 1000 := by rw [bs_size]; omega
    have HB := hide (hB.alloc hB.size (.cells #[.int .u8 (48 + (m : Int))] 5))
    have HB' := hide (hB.alloc hB.size (.cells #[.int .u8 (48 + (m : Int) % 10)] 5))
    by_cases hlt : m < 10
    · have q1 : ¬ (10 : Int) ≤ m := by omega
      have hcv := conv_one wr (48 + (m : Int)) (UInt8.ofNat (48 + m)) (by rw [dig_toNat hlt]; omega)
      have HD : Hid (bs [UInt8.ofNat (48 + m)] ++ bs S = bs (Lib.decDigits k)) := by
        show _ = _
        rw [bs_append, ← hd, Lib.decDigits, dif_pos hlt]
      have hs1 : (bs [UInt8.ofNat (48 + m)]).size = 1 := rfl
      generalize bs [UInt8.ofNat (48 + m)] = D1 at *
      generalize bs S = SS at *
      clear hd hB
      go_wp2
      go_ret
      exact ⟨by rw [← unhide HD]; rfl, unhide HB⟩
    · have q1 : (10 : Int) ≤ m := by omega
      have hcv := conv_one wr (48 + (m : Int) % 10) (UInt8.ofNat (48 + m % 10)) (by rw [dig_toNat (by omega)]; omega)
      have HD : Hid (Lib.decDigits (m / 10) ++ (UInt8.ofNat (48 + m % 10) :: S) = Lib.decDigits k) := by
        show _ = _
        rw [← hd]
        conv => rhs; rw [Lib.decDigits, dif_neg hlt]
        simp
      have HA : Hid (bs [UInt8.ofNat (48 + m % 10)] ++ bs S = bs (UInt8.ofNat (48 + m % 10) :: S)) := by show _ = _; rw [bs_append]; rfl
      have hs1 : (bs [UInt8.ofNat (48 + m % 10)]).size = 1 := rfl
      generalize bs [UInt8.ofNat (48 + m % 10)] = D1 at *
      clear hd hB
      go_wp2
      go_roundw
      case rel => exact ⟨m / 10, UInt8.ofNat (48 + m % 10) :: S, by go_num, by rw [unhide HA], by omega, by simp; omega, unhide HD, unhide HB'⟩
      case measure => simp [intOf]; omega
/-- parts one behind the other -/
def jn (l : List (Nat × Nat)) : By := Lib.join (l.map partL) [44]
theorem jn_snoc : ∀ (l : List (Nat × Nat)) (x : Nat × Nat), l ≠ [] → jn (l ++ [x]) = jn l ++ 44 :: partL x
  | [], x, h => absurd rfl h
  | [y], x, _ => by
    show Lib.join [partL y, partL x] [44] = Lib.join [partL y] [44] ++ _
    rw [join_more, Lib.join_one, Lib.join_one]
  | y :: z :: l, x, _ => by
    have ih := jn_snoc (z :: l) x (by simp)
    show Lib.join (partL y :: partL z :: (l ++ [x]).map partL) [44] = Lib.join (partL y :: partL z :: l.map partL) [44] ++ _
    rw [join_more, join_more]
    have : Lib.join (partL z :: (l ++ [x]).map partL) [44] = Lib.join (partL z :: l.map partL) [44] ++ 44 :: partL x := ih
    rw [this]; simp
theorem jn_one (x : Nat × Nat) : jn [x] = partL x := Lib.join_one _ _
theorem part_len {x : Nat × Nat} (h1 : x.1 < x.2) (h2 : x.2 ≤ 160) : (partL x).length ≤ 7 := by
  unfold partL
  have a := decDigits_le x.1 (by omega)
  have b := decDigits_le (x.2 - 1) (by omega)
  split
  · omega
  · simp; omega
theorem jn_len : ∀ (l : List (Nat × Nat)), (∀ x ∈ l, x.1 < x.2 ∧ x.2 ≤ 160) → (jn l).length ≤ 8 * l.length
  | [], _ => by simp [jn, Lib.join]
  | [x], h => by rw [jn_one]; have := part_len (h x (by simp)).1 (h x (by simp)).2; simp; omega
  | x :: y :: l, h => by
    have ih := jn_len (y :: l) (fun z hz => h z (by simp [List.mem_cons.1 hz]))
    have := part_len (h x (by simp)).1 (h x (by simp)).2
    show (Lib.join (partL x :: partL y :: l.map partL) [44]).length ≤ _
    rw [join_more, List.length_append, List.length_cons]
    have h2 : (Lib.join (partL y :: l.map partL) [44]).length ≤ 8 * (l.length + 1) := ih
    simp only [List.length_cons]
    omega
end Go.Proofs.YtbodklppgcloiaaDoor
namespace Go.Proofs.YtbodklppgcloiaaDoor
open Go.RowKit Go.Shelf
set_option linter.unusedVariables false
attribute [local go_sem] Oper.semAt_some

theorem run_part {n : Nat} {s : By} (hc : chk n s = true) {k : Nat} (hk : k < (runsL s n).length) : (runsL s n)[k].1 < (runsL s n)[k].2 ∧ (runsL s n)[k].2 ≤ 160 := (run_at hc hk).2
set_option maxRecDepth 100000 in
set_option maxHeartbeats 8000000 in
theorem rtext_any (n : Int) (s : By) (w : World) (hs : s.length ≤ maxLen) : Calls Tryd.prog 22 #[.int .i64 n, .string (bs s)] w fun e w' => e = .returned (.tuple #[.string (bs (textR n s)), .int .i64 (ofsE n s)]) ∧ Below w.heap.size w w' := by
  have ho := hide (fun w => rsof_any n s true w hs)
  rw [docR_true] at ho
  cases hC : chkI n s with
  | false =>
    have e1 : ofsR n s = [] := by unfold ofsR; rw [if_neg (by rw [hC]; simp)]
    have e2 : ofsE n s = 3 := by unfold ofsE; rw [if_neg (by rw [hC]; simp)]
    have e3 : textR n s = [] := by unfold textR; rw [if_neg (by rw [hC]; simp)]
    rw [e1, e2] at ho
    rw [e2, e3, show bs [] = (⟨#[]⟩ : ByteArray) from rfl]
    clear e1 e2 e3 hC
    generalize bs s = S at *
    go_enter Tryd.func22, Tryd.ntmps22
    go_wp2_with fail
    refine (unhide ho _).mono ?_
    rintro e w1 ⟨v, rfl, o1, b1⟩
    obtain ⟨a1, c1, rfl, t1⟩ := o1.own.spr
    have B1 := hide b1
    clear b1 o1 t1
    go_wp2
    go_ret2
    exact ⟨rfl, unhide B1⟩
  | true =>
    obtain ⟨m, rfl, hch, hm, hl, hl20⟩ := chkI_facts hC
    have e1 : ofsR m s = runsL s m := by unfold ofsR; rw [if_pos hC, Int.toNat_natCast]
    have e2 : ofsE m s = 0 := by unfold ofsE; rw [if_pos hC]
    rw [e1, e2] at ho
    rw [e2, text_eq hch]
    have hat := hide (fun k hk => run_part hch (k := k) hk)
    have hall : ∀ x ∈ runsL s m, x.1 < x.2 ∧ x.2 ≤ 160 := fun x hx => ok_part hm (runs_ok hch) x hx
    have hLL : (runsL s m).length ≤ 161 := Nat.le_trans (rl_le s _).2 (by omega)
    generalize hR : runsL s m = L at *
    clear e1 e2 hC hch hl hl20 hR
    generalize bs s = S at *
    go_enter Tryd.func22, Tryd.ntmps22
    go_wp2_with fail
    refine (unhide ho _).mono ?_
    rintro e w1 ⟨v, rfl, o1, b1⟩
    obtain ⟨a1, c1, rfl, t1⟩ := o1.own.spr
    rw [toI_length]
    have B1 := hide b1
    have T1 := hide t1
    clear b1 o1 t1 ho
    by_cases hE : L = []
    · subst hE
      rw [show ([] : List (Nat × Nat)).length = 0 from rfl]
      go_wp2
      go_ret2
      exact ⟨rfl, unhide B1⟩
    · have htx : textL L = jn L := by unfold textL; rw [if_neg hE]; rfl
      have HTX := hide htx
      obtain ⟨N, hN⟩ : ∃ N, N = L.length := ⟨_, rfl⟩
      have hpos : 0 < N := by rw [hN]; exact List.length_pos_iff.2 hE
      have HN := hide hN
      rw [← hN]
      rw [← hN] at hLL
      have q0 : ((N : Int) == 0) = false := by simp; omega
      have HALL := hide hall
      clear hN hall htx
      go_wp2
      go_loopw [8, 9] (fun t i wr => ∃ k : Nat, k ≤ N ∧ i = .int .i64 k ∧ t = .string (bs (jn (L.take k))) ∧ Below w1.heap.size w1 wr) (fun _ i _ => N - (intOf i).toNat)
      case atStart => exact ⟨0, Nat.zero_le _, rfl, rfl, Below.refl _ _⟩
      case round =>
        obtain ⟨k, hk, rfl, rfl, hB⟩ := hrel
        have hjl : (jn (L.take k)).length ≤ 2000 := by
          have := jn_len (L.take k) (fun x hx => unhide HALL x (List.mem_of_mem_take hx))
          rw [List.length_take] at this; omega
        by_cases hlt : k < N
        · have hlt' : k < L.length := by rw [← unhide HN]; exact hlt
          have q1 : (k : Int) < (N : Int) := by omega
          obtain ⟨g2, g3⟩ := unhide hat k hlt'
          obtain ⟨g, o, rfl, y0, y1⟩ := unhide T1 k (by rw [toI_length]; exact hlt')
          have z0 := cell_below y0 hB
          have z1 := cell_below y1 hB
          have HT : Hid (L.take (k + 1) = L.take k ++ [L[k]]) := List.take_succ_eq_append_getElem hlt'
          have hx : (toI L)[k]'(by rw [toI_length]; exact hlt') = ((L[k].1 : Int), (L[k].2 : Int)) := by simp [toI]
          rw [hx] at z0 z1
          simp only at z0 z1
          obtain ⟨⟨x1, x2⟩, hxe⟩ : ∃ x, L[k] = x := ⟨_, rfl⟩
          rw [hxe] at z0 z1 HT g2 g3
          simp only at z0 z1 g2 g3
          obtain ⟨c, rfl⟩ : ∃ c, x2 = c + 1 := ⟨x2 - 1, by omega⟩
          have hc1e : ((c + 1 : Nat) : Int) = (c : Int) + 1 := by omega
          rw [hc1e] at z1
          have k1 := hide (fun w => digits_any x1 (by omega) w)
          have k2 := hide (fun w => digits_any c (by omega) w)
          have d1 := decDigits_le x1 (by omega)
          have d2 := decDigits_le c (by omega)
          -- what is written: with a comma ahead, but for the first
          obtain ⟨S0, hS0, hS1⟩ : ∃ S0 : By, (k = 0 → S0 = jn (L.take k)) ∧ (k ≠ 0 → S0 = jn (L.take k) ++ [44]) := by
            by_cases h0 : k = 0
            · exact ⟨jn (L.take k), fun _ => rfl, fun h => absurd h0 h⟩
            · exact ⟨jn (L.take k) ++ [44], fun h => absurd h h0, fun _ => rfl⟩
          have hJ : Hid (jn (L.take (k + 1)) = S0 ++ partL (x1, c + 1)) := by
            show _ = _
            by_cases h0 : k = 0
            · rw [hS0 h0, unhide HT]
              subst h0
              simp only [List.take_zero, List.nil_append]
              rw [jn_one]; rfl
            · have hne : L.take k ≠ [] := by
                intro h
                have := congrArg List.length h
                rw [List.length_take, List.length_nil] at this
                omega
              rw [hS1 h0, unhide HT, jn_snoc _ _ hne]
              simp
          have hS0l : S0.length ≤ 2001 := by
            by_cases h0 : k = 0
            · rw [hS0 h0]; omega
            · rw [hS1 h0]; simp; omega
          have HB := hide hB
          have hl1 : (bs (jn (L.take k))).size ≤ 2000 := by rw [bs_size]; exact hjl
          have hl2 : (bs S0).size ≤ 2001 := by rw [bs_size]; exact hS0l
          have hl3 : (bs (Lib.decDigits x1)).size ≤ 3 := by rw [bs_size]; exact d1
          have hl4 : (bs (Lib.decDigits c)).size ≤ 3 := by rw [bs_size]; exact d2
          have hl5 : (bs S0 ++ bs (Lib.decDigits x1)).size ≤ 2010 := by rw [bs_append, bs_size]; simp; omega
          have hl6 : (bs S0 ++ bs (Lib.decDigits x1) ++ ⟨#[45]⟩).size ≤ 2012 := by rw [show (⟨#[45]⟩ : ByteArray) = bs [45] from rfl, bs_append, bs_append, bs_size]; simp; omega
          have hfin1 : Hid (x1 = c → bs S0 ++ bs (Lib.decDigits x1) = bs (jn (L.take (k + 1)))) := by
            intro h
            rw [unhide hJ, bs_append]
            unfold partL
            rw [if_pos (by simp only; omega)]
          have hfin2 : Hid (x1 ≠ c → bs S0 ++ bs (Lib.decDigits x1) ++ ⟨#[45]⟩ ++ bs (Lib.decDigits c) = bs (jn (L.take (k + 1)))) := by
            intro h
            rw [show (⟨#[45]⟩ : ByteArray) = bs [45] from rfl, bs_append, bs_append, bs_append, unhide hJ]
            unfold partL
            rw [if_neg (by simp only; omega)]
            simp
          have hcm : Hid (k ≠ 0 → bs (jn (L.take k)) ++ ⟨#[44]⟩ = bs S0) := by
            intro h0
            rw [show (⟨#[44]⟩ : ByteArray) = bs [44] from rfl, bs_append, hS1 h0]
          have hcz : Hid (k = 0 → bs (jn (L.take k)) = bs S0) := by
            intro h0
            rw [hS0 h0]
          clear hjl y0 y1 hx hxe hB hS0 hS1 hS0l d1 d2 hc1e
          generalize bs (Lib.decDigits x1) = D1 at *
          generalize bs (Lib.decDigits c) = D2 at *
          generalize bs S0 = SS at *
          generalize bs (jn (L.take k)) = J0 at *
          by_cases h0 : k = 0
          · have hj0 := unhide hcz h0
            subst hj0
            subst h0
            rw [Nat.zero_mul, Nat.add_zero] at z0 z1
            go_wp2_with fail
            refine (unhide k1 _).mono ?_
            rintro e w2 ⟨rfl, b2⟩
            have B2 := hide ((unhide HB).trans (b2.mono (unhide HB).size))
            have z0' := cell_below z0 b2
            have z1' := cell_below z1 b2
            clear b2 z0 z1
            have hc0 : ∀ x : Gb w2, x.w.cell? ⟨g, o, none⟩ = some (.int .i64 (x1 : Int)) := fun x => gb_cell z0' x
            have hc1 : ∀ x : Gb w2, x.w.cell? ⟨g, o + 1, none⟩ = some (.int .i64 ((c : Int) + 1)) := fun x => gb_cell z1' x
            go_wp2_with fail
            have hne := gb_ne w2
            refine wp_region_gr (fun x => Below w2.heap.size w2 x) (by kernel_rfl) (by kernel_rfl) (gb_start w2) ?_
            repeat (go_big_quiet_step ((fail)))
            refine wpQuiet_nil ?_
            rintro w3 ⟨⟨_, b3⟩, rfl⟩
            have B3 := hide ((unhide B2).trans (b3.mono (unhide B2).size))
            have z1'' := cell_below z1' b3
            clear b3 hne hc0 hc1 z0' z1' B2
            by_cases hxc : x1 = c
            · have HF := hide (unhide hfin1 hxc)
              have p1 : ¬ (x1 : Int) + 1 < (c : Int) + 1 := by omega
              go_wp2
              go_roundw
              case rel => exact ⟨0 + 1, by omega, by go_num, by rw [← unhide HF], unhide B3⟩
              case measure => simp [intOf]; omega
            · have HF := hide (unhide hfin2 hxc)
              have p1 : (x1 : Int) + 1 < (c : Int) + 1 := by omega
              have p2 : (c : Int) + 1 - 1 = c := by omega
              go_wp2_with fail
              refine (unhide k2 _).mono ?_
              rintro e w4 ⟨rfl, b4⟩
              have B4 := hide ((unhide B3).trans (b4.mono (unhide B3).size))
              clear b4
              go_wp2
              go_roundw
              case rel => exact ⟨0 + 1, by omega, by go_num, by rw [← unhide HF], unhide B4⟩
              case measure => simp [intOf]; omega
          · have p0 : (0 : Int) < (k : Int) := by omega
            have hj0 := unhide hcm h0
            go_wp2_with fail
            refine (unhide k1 _).mono ?_
            rintro e w2 ⟨rfl, b2⟩
            have B2 := hide ((unhide HB).trans (b2.mono (unhide HB).size))
            have z0' := cell_below z0 b2
            have z1' := cell_below z1 b2
            clear b2 z0 z1
            have hc0 : ∀ x : Gb w2, x.w.cell? ⟨g, o + k * 2, none⟩ = some (.int .i64 (x1 : Int)) := fun x => gb_cell z0' x
            have hc1 : ∀ x : Gb w2, x.w.cell? ⟨g, o + k * 2 + 1, none⟩ = some (.int .i64 ((c : Int) + 1)) := fun x => gb_cell z1' x
            go_wp2_with fail
            have hne := gb_ne w2
            refine wp_region_gr (fun x => Below w2.heap.size w2 x) (by kernel_rfl) (by kernel_rfl) (gb_start w2) ?_
            repeat (go_big_quiet_step ((fail)))
            refine wpQuiet_nil ?_
            rintro w3 ⟨⟨_, b3⟩, rfl⟩
            have B3 := hide ((unhide B2).trans (b3.mono (unhide B2).size))
            have z1'' := cell_below z1' b3
            clear b3 hne hc0 hc1 z0' z1' B2
            by_cases hxc : x1 = c
            · have HF := hide (unhide hfin1 hxc)
              have p1 : ¬ (x1 : Int) + 1 < (c : Int) + 1 := by omega
              go_wp2
              go_roundw
              case rel => exact ⟨k + 1, by omega, by go_num, by rw [← unhide HF], unhide B3⟩
              case measure => simp [intOf]; omega
            · have HF := hide (unhide hfin2 hxc)
              have p1 : (x1 : Int) + 1 < (c : Int) + 1 := by omega
              have p2 : (c : Int) + 1 - 1 = c := by omega
              go_wp2_with fail
              refine (unhide k2 _).mono ?_
              rintro e w4 ⟨rfl, b4⟩
              have B4 := hide ((unhide B3).trans (b4.mono (unhide B3).size))
              clear b4
              go_wp2
              go_roundw
              case rel => exact ⟨k + 1, by omega, by go_num, by rw [← unhide HF], unhide B4⟩
              case measure => simp [intOf]; omega
        · have q1 : ¬ (k : Int) < (N : Int) := by omega
          have hke : k = L.length := by have := unhide HN; omega
          have HT : Hid (L.take k = L) := by show _ = _; rw [hke, List.take_length]
          have HB := hide hB
          rw [unhide HT]
          clear hB hke hjl
          obtain ⟨S0, hS0⟩ : ∃ S0, S0 = bs (jn L) := ⟨_, rfl⟩
          rw [← hS0]
          have HS0 := hide hS0
          clear hS0
          go_wp2
          go_ret2
          exact ⟨by rw [unhide HTX, ← unhide HS0]; rfl, (unhide B1).trans ((unhide HB).mono (unhide B1).size)⟩
end Go.Proofs.YtbodklppgcloiaaDoor
namespace Go.Proofs.YtbodklppgcloiaaDoor
open Go.RowKit Go.Shelf
set_option linter.unusedVariables false
attribute [local go_sem] Oper.semAt_some

theorem ret_cell {fn : Func} {p : Tmp} {ty : TypeId} {a : Act} {w : World} {R : Ending → World → Prop} (h : fn.results = #[.cell p ty]) (g : Nat) (t : TypeId) (cs : Array Value) (fr : Nat × Nat) (fs : Array Field)
    (hp : a.tmps.getD p undef = .pointer (some ⟨g, 0, none⟩)) (hg : w.heap[g]? = some (.cells cs t fr)) (hdf : a.defers = [])
    (hu : Tryd.prog.underlying ty = some (.struct fs)) (hi : (Tryd.prog.info? ty).map (·.size) = some cs.size) (hR : R (.returned (.agg cs)) w) :
    bodyPost Tryd.prog fn R .ret a w := bodyPost_ret (results_cell_row h _ w g t cs fr _ hp hg hu rfl hi) hdf hR
theorem set_row {w : World} {g : Nat} {cs : Array Value} {t : TypeId} (h : w.heap[g]? = some (.cells cs t (0, 0))) (j : Nat) (v : Value) : (w.setCell ⟨g, j, none⟩ v).heap[g]? = some (.cells (cs.setIfInBounds j v) t (0, 0)) := heap_setCell_same w g j _ t _ h
theorem numB_bound (d : By) : -1 ≤ numB d ∧ numB d < 160 := by
  rcases num_back d with h | ⟨k, h1, h2, _⟩ <;> omega
set_option maxRecDepth 100000 in
set_option maxHeartbeats 1000000 in
theorem span_any (p : By) (hp : p.length ≤ 100000) (w : World) (hG : Glob w) : Calls Tryd.prog 79 #[.string (bs p)] w fun e w' => e = .returned (spI (spanB p)) ∧ Below w.heap.size w w' := by
  have hb0 : Below w.heap.size w (w.alloc (.cells #[.int .i64 0, .int .i64 0] 50)) := (Below.refl _ w).alloc (Nat.le_refl _) _
  have hbk := heap_alloc_new w (.cells #[.int .i64 0, .int .i64 0] 50)
  have hc := hide (cut_any 45 p hp _ (hG.below hb0))
  obtain ⟨hl1, hl2⟩ : (cutC 45 p).1.length ≤ 100000 ∧ (cutC 45 p).2.1.length ≤ 100000 := by
    rcases cutC_cases 45 p with ⟨a, b, h1, _, h3⟩ | ⟨_, h3⟩
    · rw [h3]; rw [h1] at hp; simp at hp; simp only; omega
    · rw [h3]; simp; omega
  have hn1 := hide (fun w' (hb : Below w.heap.size w w') => number_any (cutC 45 p).1 hl1 w' (hG.below hb))
  have hn2 := hide (fun w' (hb : Below w.heap.size w w') => number_any (cutC 45 p).2.1 hl2 w' (hG.below hb))
  have k1 := numB_bound (cutC 45 p).1
  have k2 := numB_bound (cutC 45 p).2.1
  unfold spanB spI
  have B0 := hide hb0
  have R0 := hide hbk
  clear hb0 hbk hl1 hl2
  rw [show bs [45] = (⟨#[45]⟩ : ByteArray) from rfl] at hc
  generalize numB (cutC 45 p).1 = n1 at *
  generalize numB (cutC 45 p).2.1 = n2 at *
  generalize bs (cutC 45 p).1 = c1 at *
  generalize bs (cutC 45 p).2.1 = c2 at *
  generalize bs p = P at *
  have q1 : n1 + 1 ≤ 200 := by omega
  have q2 : n2 + 1 ≤ 200 := by omega
  have f0 : ∀ (W : World) (cs : Array Value) (j : Nat), W.heap[w.heap.size]? = some (.cells cs 50 (0, 0)) → W.frozen? ⟨w.heap.size, j, none⟩ = false := fun W cs j h => by simp [World.frozen?, h]
  have F0 := hide f0
  clear f0
  go_enter Tryd.func79, Tryd.ntmps79
  cases hm : (cutC 45 p).2.2 with
  | false =>
    rw [hm] at hc
    clear hm
    go_wp2_with fail
    refine (unhide hc).mono ?_
    rintro e w1 ⟨rfl, b1⟩
    have B1 := hide ((unhide B0).trans (b1.mono (unhide B0).size))
    have R1 := hide ((b1.block _ (lt_of_block (unhide R0))).trans (unhide R0))
    clear b1
    go_wp2_with fail
    refine (unhide hn1 _ (unhide B1)).mono ?_
    rintro e w2 ⟨rfl, b2⟩
    have B2 := hide ((unhide B1).trans (b2.mono (unhide B1).size))
    have R2 := hide ((b2.block _ (lt_of_block (unhide R1))).trans (unhide R1))
    have z0 := cell0_of_two (unhide R2)
    have z1 := cell1_of_two (unhide R2)
    have g0 := unhide F0 w2 _ 0 (unhide R2)
    have g1 := unhide F0 w2 _ 1 (unhide R2)
    clear b2 B1 R1
    go_wp2
    refine ret_cell rfl w.heap.size 50 #[.int .i64 n1, .int .i64 (n1 + 1)] (0, 0) _ rfl (set_row (set_row (unhide R2) 0 _) 1 _) rfl Tryd.underlying50 (by kernel_rfl) ⟨?_, ((unhide B2).setCell (p := ⟨w.heap.size, 0, none⟩) (Nat.le_refl _) _).setCell (p := ⟨w.heap.size, 1, none⟩) (Nat.le_refl _) _⟩
    simp
  | true =>
    rw [hm] at hc
    clear hm
    go_wp2_with fail
    refine (unhide hc).mono ?_
    rintro e w1 ⟨rfl, b1⟩
    have B1 := hide ((unhide B0).trans (b1.mono (unhide B0).size))
    have R1 := hide ((b1.block _ (lt_of_block (unhide R0))).trans (unhide R0))
    clear b1
    go_wp2_with fail
    refine (unhide hn1 _ (unhide B1)).mono ?_
    rintro e w2 ⟨rfl, b2⟩
    have B2 := hide ((unhide B1).trans (b2.mono (unhide B1).size))
    have R2 := hide ((b2.block _ (lt_of_block (unhide R1))).trans (unhide R1))
    clear b2 B1 R1
    go_wp2_with fail
    refine (unhide hn2 _ (unhide B2)).mono ?_
    rintro e w3 ⟨rfl, b3⟩
    have B3 := hide ((unhide B2).trans (b3.mono (unhide B2).size))
    have R3 := hide ((b3.block _ (lt_of_block (unhide R2))).trans (unhide R2))
    have z0 := cell0_of_two (unhide R3)
    have z1 := cell1_of_two (unhide R3)
    have g0 := unhide F0 w3 _ 0 (unhide R3)
    have g1 := unhide F0 w3 _ 1 (unhide R3)
    clear b3 B2 R2
    by_cases he : n2 = n1
    · subst he
      go_wp2
      refine ret_cell rfl w.heap.size 50 #[.int .i64 0, .int .i64 0] (0, 0) _ rfl (set_row (set_row (unhide R3) 0 _) 1 _) rfl Tryd.underlying50 (by kernel_rfl) ⟨?_, ((unhide B3).setCell (p := ⟨w.heap.size, 0, none⟩) (Nat.le_refl _) _).setCell (p := ⟨w.heap.size, 1, none⟩) (Nat.le_refl _) _⟩
      simp
    · have hb : (n2 == n1) = false := by simpa using he
      go_wp2
      refine ret_cell rfl w.heap.size 50 #[.int .i64 n1, .int .i64 (n2 + 1)] (0, 0) _ rfl (set_row (set_row (unhide R3) 0 _) 1 _) rfl Tryd.underlying50 (by kernel_rfl) ⟨?_, ((unhide B3).setCell (p := ⟨w.heap.size, 0, none⟩) (Nat.le_refl _) _).setCell (p := ⟨w.heap.size, 1, none⟩) (Nat.le_refl _) _⟩
      simp
/-- fuel that suffices -/
theorem wrL_fuel : ∀ (f g : Nat) (s : By), s.length < f → s.length < g → wrL f s = wrL g s
  | 0, _, s, h, _ => by omega
  | f + 1, 0, s, _, h => by omega
  | f + 1, g + 1, s, h1, h2 => by
    unfold wrL
    congr 1
    rcases cutC_cases 44 s with ⟨a, b, rfl, _, hc⟩ | ⟨_, hc⟩
    · rw [hc]
      simp only [if_true]
      simp at h1 h2
      exact wrL_fuel f g b (by omega) (by omega)
    · rw [hc]; simp
theorem wrL_cut {s : By} {a b : By} (h : cutC 44 s = (a, b, true)) : wrL (s.length + 1) s = spanB a :: wrL (b.length + 1) b := by
  rcases cutC_cases 44 s with ⟨a', b', rfl, _, hc⟩ | ⟨_, hc⟩
  · rw [hc] at h
    simp only [Prod.mk.injEq, and_true] at h
    obtain ⟨rfl, rfl⟩ := h
    show spanB (cutC 44 (a' ++ 44 :: b')).1 :: (if (cutC 44 (a' ++ 44 :: b')).2.2 then wrL (a' ++ 44 :: b').length (cutC 44 (a' ++ 44 :: b')).2.1 else []) = _
    rw [hc]
    simp only [if_true]
    rw [wrL_fuel _ (b'.length + 1) b' (by simp; omega) (by omega)]
  · rw [hc] at h; cases h
theorem wrL_end {s : By} {a b : By} (h : cutC 44 s = (a, b, false)) : wrL (s.length + 1) s = [spanB a] := by
  show spanB (cutC 44 s).1 :: (if (cutC 44 s).2.2 then wrL s.length (cutC 44 s).2.1 else []) = _
  rw [h]; simp
theorem cut_len (s : By) : (cutC 44 s).1.length ≤ s.length ∧ (cutC 44 s).2.1.length ≤ s.length ∧ ((cutC 44 s).2.2 = true → (cutC 44 s).2.1.length < s.length) := by
  rcases cutC_cases 44 s with ⟨a, b, rfl, _, hc⟩ | ⟨_, hc⟩
  · rw [hc]; simp; omega
  · rw [hc]; simp
end Go.Proofs.YtbodklppgcloiaaDoor
namespace Go.Proofs.YtbodklppgcloiaaDoor
open Go.RowKit Go.Shelf
set_option linter.unusedVariables false
attribute [local go_sem] Oper.semAt_some

def lenOf : Value → Nat | .string b => b.size | _ => 0
def boolOf : Value → Nat | .bool b => if b then 1 else 0 | _ => 0
set_option maxRecDepth 100000 in
set_option maxHeartbeats 8000000 in
theorem written1_in (m : Nat) (hm : 1 ≤ m) (l n0 b1 : Nat) (t : By) (ht : t.length ≤ 100000) (J Jx : List (Int × Int) → World → Prop)
    (w0 : World) (hG : Glob w0) (hn0 : w0.heap.size ≤ n0)
    (hA : ∀ pre A B, J pre A → Below A.heap.size A B → J pre B)
    (hY : ∀ pre (x : Int × Int) W, J pre W → pre.length < t.length + 1 → YieldAt Fence.wide (m - 1) Tryd.prog l #[spI x] W fun e W' =>
      (e = .returned (.bool true) ∧ J (pre ++ [x]) W' ∧ KpG n0 W W') ∨ (e = .returned (.bool false) ∧ Jx (pre ++ [x]) W'))
    (W : World) (hO : Old w0 W) (hW : W.cell? ⟨b1, 0, none⟩ = some (.string (bs t))) (h0 : J [] W) :
    CallsIn Fence.wide m Tryd.prog 77 #[.func (.yield l) #[] #[], .pointer (some ⟨b1, 0, none⟩)] W fun e W' => (∃ v, e = .returned v) ∧
      ((∃ xs, xs = wrB t ∧ J xs W') ∨ (∃ pre, pre <+: wrB t ∧ Jx pre W')) := by
  have hmx : Tryd.prog.follows .mixedOrders = true := by kernel_rfl
  have hWB : Hid (wrB t = if t = [45] then [] else wrL (t.length + 1) t) := rfl
  have hcmp : Hid (((bs t).toList == [45]) = decide (t = [45])) := by
    show _ = _
    rw [ByteArray.toList_eq, bs_list]
    by_cases h : t = [45]
    · rw [decide_eq_true h, h]; rfl
    · rw [decide_eq_false h]; simpa using h
  obtain ⟨T, hT⟩ : ∃ T, T = bs t := ⟨_, rfl⟩
  have HT := hide hT
  rw [← hT] at hW hcmp
  clear hT
  refine callsIn_of_wp Tryd.func77 rfl trivial ?_ rfl
  simp only [Tryd.ntmps77, List.size_toArray, List.length_cons, List.length_nil, Nat.reduceAdd, Nat.reduceSub, Array.replicate_succ, Array.replicate_zero, List.push_toArray, List.append_toArray, List.nil_append, List.cons_append]
  gi_wp2_with (fail)
  have hWd : W.drew.cell? ⟨b1, 0, none⟩ = some (.string T) := hW
  have HJ0 := hide (hA [] W W.drew h0 ((Below.refl _ W).drew))
  have HOd : Hid (Old w0 W.drew) := hO
  refine wpIn_region_any hmx ?_
  change wpAnyIn _ _ _ _ _ _ _ _ _ (World.drew _)
  clear hO h0 hW
  generalize W.drew = W at *
  by_cases h45 : t = [45]
  · have hcc := unhide hcmp
    rw [decide_eq_true h45] at hcc
    refine wpAnyIn_ready (rs := [0, 1]) (by kernel_rfl) (by simp) ?_
    refine AllReadyIn.cons rfl (fun K hK => ?_) (AllReadyIn.cons rfl (fun K hK => ?_) AllReadyIn.nil)
    · go_simp
      refine hK _ _ ?_
      clear hK K
      refine wpAnyIn_ready (rs := [1, 3]) (by kernel_rfl) (by simp) ?_
      refine AllReadyIn.cons rfl (fun K hK => ?_) (AllReadyIn.cons rfl (fun K hK => ?_) AllReadyIn.nil)
      · go_simp
        refine hK _ _ ?_
        clear hK K
        refine wpAnyIn_ready (rs := [2, 3]) (by kernel_rfl) (by simp) ?_
        refine AllReadyIn.cons rfl (fun K hK => ?_) (AllReadyIn.cons rfl (fun K hK => ?_) AllReadyIn.nil)
        · go_simp
          refine hK _ _ ?_
          clear hK K
          refine wpAnyIn_ready (rs := [3]) (by kernel_rfl) (by simp) ?_
          refine AllReadyIn.cons rfl (fun K hK => ?_) AllReadyIn.nil
          go_simp
          refine hK _ _ ?_
          clear hK K
          refine wpAnyIn_ready (rs := [4]) (by kernel_rfl) (by simp) ?_
          refine AllReadyIn.cons rfl (fun K hK => ?_) AllReadyIn.nil
          go_simp
          refine hK _ _ ?_
          clear hK K
          refine wpAnyIn_done (by kernel_rfl) ?_ _
          gi_wp2_with (fail)
          gi_loopw [3, 4, 5] (fun lf mo _ wr => ∃ (pre : List (Int × Int)) (s : By) (b : Bool), lf = .string (bs s) ∧ mo = .bool b ∧ J pre wr ∧ Old w0 wr ∧ s.length ≤ t.length ∧ (b = true → pre.length + s.length ≤ t.length) ∧ (b = true → wrB t = pre ++ wrL (s.length + 1) s) ∧ (b = false → wrB t = pre) ∧ True) (fun lf mo _ _ => lenOf lf + boolOf mo)
          case atStart => exact ⟨[], t, false, by rw [unhide HT], rfl, unhide HJ0, unhide HOd, Nat.le_refl _, fun h => (by cases h), fun h => (by cases h), fun _ => by rw [unhide hWB, if_pos h45], trivial⟩
          case round =>
            obtain ⟨pre, s, b, rfl, rfl, hJ, hO, hs1, hs2, hb1, hb2, _⟩ := hrel
            cases b with
            | false =>
              have HE := hide (hb2 rfl)
              have HJ := hide hJ
              clear hb1 hb2 hJ
              gi_wp2
              go_end0
              exact ⟨⟨_, rfl⟩, .inl ⟨_, (unhide HE).symm, unhide HJ⟩⟩
            | true =>
              have hw := hb1 rfl
              have hs3 := hs2 rfl
              clear hs2
              clear hb1 hb2
              have hc := hide (cut_any 44 s (by omega) wr (hG.old hO))
              rw [show bs [44] = (⟨#[44]⟩ : ByteArray) from rfl] at hc
              obtain ⟨l1, l2, l3⟩ := cut_len s
              obtain ⟨⟨p, r, b2⟩, hcut⟩ : ∃ x, cutC 44 s = x := ⟨_, rfl⟩
              rw [hcut] at hc l1 l2 l3
              simp only at hc l1 l2 l3
              have HW := hide hw
              have HCUT := hide hcut
              have HJ := hide hJ
              have HO := hide hO
              clear hw hcut hJ hO
              have HSP := hide (fun w' (hb : Old w0 w') => span_any p (by omega) w' (hG.old hb))
              have HL3 := hide l3
              clear l3
              gi_wp2_with (fail)
              refine ⟨trivial, ?_⟩
              refine (callsIn_wide.2 (unhide hc)).mono ?_
              rintro e w1 ⟨rfl, bw1⟩
              have HJ1 := hide (hA _ _ _ (unhide HJ) bw1)
              have HO1 := hide ((unhide HO).below bw1)
              clear bw1 hc
              have hsp := hide (unhide HSP w1 (unhide HO1))
              gi_wp2_with (fail)
              refine ⟨trivial, ?_⟩
              refine (callsIn_wide.2 (unhide hsp)).mono ?_
              rintro e w2 ⟨rfl, bw2⟩
              have hJ2 := hA _ _ _ (unhide HJ1) bw2
              have HO2 := hide ((unhide HO1).below bw2)
              obtain ⟨fn, tmps, assign, body, hy, hRn⟩ := hY pre (spanB p) w2 hJ2 (by omega)
              have hst : Hid ((b2 = true → wrB t = (pre ++ [spanB p]) ++ wrL (r.length + 1) r) ∧ (b2 = false → wrB t = pre ++ [spanB p])) := by
                constructor
                · rintro rfl
                  rw [unhide HW, wrL_cut (unhide HCUT)]; simp
                · rintro rfl
                  rw [unhide HW, wrL_end (unhide HCUT)]
              have hpre : Hid (pre ++ [spanB p] <+: wrB t) := by
                show _ <+: _
                cases b2 with
                | true => rw [(unhide hst).1 rfl]; exact List.prefix_append _ _
                | false => rw [(unhide hst).2 rfl]; exact List.prefix_refl _
              generalize spanB p = sp at *
              clear bw2 hJ2 hsp HSP HJ1 HO1
              gi_wp2
              refine hRn.mono ?_
              rintro e W3 (⟨rfl, hJ4, hk4⟩ | ⟨rfl, hJx4⟩)
              · have HO4 := hide ((unhide HO2).kp hn0 hk4)
                have HJ4 := hide hJ4
                clear hJ4 hk4 hRn hy
                gi_wp2
                go_roundw
                case rel =>
                  refine ⟨pre ++ [sp], r, b2, rfl, rfl, unhide HJ4, unhide HO4, by omega, ?_, (unhide hst).1, (unhide hst).2, trivial⟩
                  rintro rfl
                  have := unhide HL3 rfl
                  simp; omega
                case measure =>
                  simp only [lenOf, boolOf, bs_size]
                  cases b2 with
                  | true => have := unhide HL3 rfl; simp; omega
                  | false => simp; omega
              · have HJ4 := hide hJx4
                clear hJx4 hRn hy
                gi_wp2
                refine bodyPost_ret (results_none rfl _ _ _) rfl ?_
                exact ⟨⟨_, rfl⟩, .inr ⟨_, unhide hpre, unhide HJ4⟩⟩
        · go_simp
          refine hK _ _ ?_
          clear hK K
          refine wpAnyIn_ready (rs := [2]) (by kernel_rfl) (by simp) ?_
          refine AllReadyIn.cons rfl (fun K hK => ?_) AllReadyIn.nil
          go_simp
          refine hK _ _ ?_
          clear hK K
          refine wpAnyIn_ready (rs := [4]) (by kernel_rfl) (by simp) ?_
          refine AllReadyIn.cons rfl (fun K hK => ?_) AllReadyIn.nil
          go_simp
          refine hK _ _ ?_
          clear hK K
          refine wpAnyIn_done (by kernel_rfl) ?_ _
          gi_wp2_with (fail)
          gi_loopw [3, 4, 5] (fun lf mo _ wr => ∃ (pre : List (Int × Int)) (s : By) (b : Bool), lf = .string (bs s) ∧ mo = .bool b ∧ J pre wr ∧ Old w0 wr ∧ s.length ≤ t.length ∧ (b = true → pre.length + s.length ≤ t.length) ∧ (b = true → wrB t = pre ++ wrL (s.length + 1) s) ∧ (b = false → wrB t = pre) ∧ True) (fun lf mo _ _ => lenOf lf + boolOf mo)
          case atStart => exact ⟨[], t, false, by rw [unhide HT], rfl, unhide HJ0, unhide HOd, Nat.le_refl _, fun h => (by cases h), fun h => (by cases h), fun _ => by rw [unhide hWB, if_pos h45], trivial⟩
          case round =>
            obtain ⟨pre, s, b, rfl, rfl, hJ, hO, hs1, hs2, hb1, hb2, _⟩ := hrel
            cases b with
            | false =>
              have HE := hide (hb2 rfl)
              have HJ := hide hJ
              clear hb1 hb2 hJ
              gi_wp2
              go_end0
              exact ⟨⟨_, rfl⟩, .inl ⟨_, (unhide HE).symm, unhide HJ⟩⟩
            | true =>
              have hw := hb1 rfl
              have hs3 := hs2 rfl
              clear hs2
              clear hb1 hb2
              have hc := hide (cut_any 44 s (by omega) wr (hG.old hO))
              rw [show bs [44] = (⟨#[44]⟩ : ByteArray) from rfl] at hc
              obtain ⟨l1, l2, l3⟩ := cut_len s
              obtain ⟨⟨p, r, b2⟩, hcut⟩ : ∃ x, cutC 44 s = x := ⟨_, rfl⟩
              rw [hcut] at hc l1 l2 l3
              simp only at hc l1 l2 l3
              have HW := hide hw
              have HCUT := hide hcut
              have HJ := hide hJ
              have HO := hide hO
              clear hw hcut hJ hO
              have HSP := hide (fun w' (hb : Old w0 w') => span_any p (by omega) w' (hG.old hb))
              have HL3 := hide l3
              clear l3
              gi_wp2_with (fail)
              refine ⟨trivial, ?_⟩
              refine (callsIn_wide.2 (unhide hc)).mono ?_
              rintro e w1 ⟨rfl, bw1⟩
              have HJ1 := hide (hA _ _ _ (unhide HJ) bw1)
              have HO1 := hide ((unhide HO).below bw1)
              clear bw1 hc
              have hsp := hide (unhide HSP w1 (unhide HO1))
              gi_wp2_with (fail)
              refine ⟨trivial, ?_⟩
              refine (callsIn_wide.2 (unhide hsp)).mono ?_
              rintro e w2 ⟨rfl, bw2⟩
              have hJ2 := hA _ _ _ (unhide HJ1) bw2
              have HO2 := hide ((unhide HO1).below bw2)
              obtain ⟨fn, tmps, assign, body, hy, hRn⟩ := hY pre (spanB p) w2 hJ2 (by omega)
              have hst : Hid ((b2 = true → wrB t = (pre ++ [spanB p]) ++ wrL (r.length + 1) r) ∧ (b2 = false → wrB t = pre ++ [spanB p])) := by
                constructor
                · rintro rfl
                  rw [unhide HW, wrL_cut (unhide HCUT)]; simp
                · rintro rfl
                  rw [unhide HW, wrL_end (unhide HCUT)]
              have hpre : Hid (pre ++ [spanB p] <+: wrB t) := by
                show _ <+: _
                cases b2 with
                | true => rw [(unhide hst).1 rfl]; exact List.prefix_append _ _
                | false => rw [(unhide hst).2 rfl]; exact List.prefix_refl _
              generalize spanB p = sp at *
              clear bw2 hJ2 hsp HSP HJ1 HO1
              gi_wp2
              refine hRn.mono ?_
              rintro e W3 (⟨rfl, hJ4, hk4⟩ | ⟨rfl, hJx4⟩)
              · have HO4 := hide ((unhide HO2).kp hn0 hk4)
                have HJ4 := hide hJ4
                clear hJ4 hk4 hRn hy
                gi_wp2
                go_roundw
                case rel =>
                  refine ⟨pre ++ [sp], r, b2, rfl, rfl, unhide HJ4, unhide HO4, by omega, ?_, (unhide hst).1, (unhide hst).2, trivial⟩
                  rintro rfl
                  have := unhide HL3 rfl
                  simp; omega
                case measure =>
                  simp only [lenOf, boolOf, bs_size]
                  cases b2 with
                  | true => have := unhide HL3 rfl; simp; omega
                  | false => simp; omega
              · have HJ4 := hide hJx4
                clear hJx4 hRn hy
                gi_wp2
                refine bodyPost_ret (results_none rfl _ _ _) rfl ?_
                exact ⟨⟨_, rfl⟩, .inr ⟨_, unhide hpre, unhide HJ4⟩⟩
      · go_simp
        refine hK _ _ ?_
        clear hK K
        refine wpAnyIn_ready (rs := [1]) (by kernel_rfl) (by simp) ?_
        refine AllReadyIn.cons rfl (fun K hK => ?_) AllReadyIn.nil
        go_simp
        refine hK _ _ ?_
        clear hK K
        refine wpAnyIn_ready (rs := [2]) (by kernel_rfl) (by simp) ?_
        refine AllReadyIn.cons rfl (fun K hK => ?_) AllReadyIn.nil
        go_simp
        refine hK _ _ ?_
        clear hK K
        refine wpAnyIn_ready (rs := [4]) (by kernel_rfl) (by simp) ?_
        refine AllReadyIn.cons rfl (fun K hK => ?_) AllReadyIn.nil
        go_simp
        refine hK _ _ ?_
        clear hK K
        refine wpAnyIn_done (by kernel_rfl) ?_ _
        gi_wp2_with (fail)
        gi_loopw [3, 4, 5] (fun lf mo _ wr => ∃ (pre : List (Int × Int)) (s : By) (b : Bool), lf = .string (bs s) ∧ mo = .bool b ∧ J pre wr ∧ Old w0 wr ∧ s.length ≤ t.length ∧ (b = true → pre.length + s.length ≤ t.length) ∧ (b = true → wrB t = pre ++ wrL (s.length + 1) s) ∧ (b = false → wrB t = pre) ∧ True) (fun lf mo _ _ => lenOf lf + boolOf mo)
        case atStart => exact ⟨[], t, false, by rw [unhide HT], rfl, unhide HJ0, unhide HOd, Nat.le_refl _, fun h => (by cases h), fun h => (by cases h), fun _ => by rw [unhide hWB, if_pos h45], trivial⟩
        case round =>
          obtain ⟨pre, s, b, rfl, rfl, hJ, hO, hs1, hs2, hb1, hb2, _⟩ := hrel
          cases b with
          | false =>
            have HE := hide (hb2 rfl)
            have HJ := hide hJ
            clear hb1 hb2 hJ
            gi_wp2
            go_end0
            exact ⟨⟨_, rfl⟩, .inl ⟨_, (unhide HE).symm, unhide HJ⟩⟩
          | true =>
            have hw := hb1 rfl
            have hs3 := hs2 rfl
            clear hs2
            clear hb1 hb2
            have hc := hide (cut_any 44 s (by omega) wr (hG.old hO))
            rw [show bs [44] = (⟨#[44]⟩ : ByteArray) from rfl] at hc
            obtain ⟨l1, l2, l3⟩ := cut_len s
            obtain ⟨⟨p, r, b2⟩, hcut⟩ : ∃ x, cutC 44 s = x := ⟨_, rfl⟩
            rw [hcut] at hc l1 l2 l3
            simp only at hc l1 l2 l3
            have HW := hide hw
            have HCUT := hide hcut
            have HJ := hide hJ
            have HO := hide hO
            clear hw hcut hJ hO
            have HSP := hide (fun w' (hb : Old w0 w') => span_any p (by omega) w' (hG.old hb))
            have HL3 := hide l3
            clear l3
            gi_wp2_with (fail)
            refine ⟨trivial, ?_⟩
            refine (callsIn_wide.2 (unhide hc)).mono ?_
            rintro e w1 ⟨rfl, bw1⟩
            have HJ1 := hide (hA _ _ _ (unhide HJ) bw1)
            have HO1 := hide ((unhide HO).below bw1)
            clear bw1 hc
            have hsp := hide (unhide HSP w1 (unhide HO1))
            gi_wp2_with (fail)
            refine ⟨trivial, ?_⟩
            refine (callsIn_wide.2 (unhide hsp)).mono ?_
            rintro e w2 ⟨rfl, bw2⟩
            have hJ2 := hA _ _ _ (unhide HJ1) bw2
            have HO2 := hide ((unhide HO1).below bw2)
            obtain ⟨fn, tmps, assign, body, hy, hRn⟩ := hY pre (spanB p) w2 hJ2 (by omega)
            have hst : Hid ((b2 = true → wrB t = (pre ++ [spanB p]) ++ wrL (r.length + 1) r) ∧ (b2 = false → wrB t = pre ++ [spanB p])) := by
              constructor
              · rintro rfl
                rw [unhide HW, wrL_cut (unhide HCUT)]; simp
              · rintro rfl
                rw [unhide HW, wrL_end (unhide HCUT)]
            have hpre : Hid (pre ++ [spanB p] <+: wrB t) := by
              show _ <+: _
              cases b2 with
              | true => rw [(unhide hst).1 rfl]; exact List.prefix_append _ _
              | false => rw [(unhide hst).2 rfl]; exact List.prefix_refl _
            generalize spanB p = sp at *
            clear bw2 hJ2 hsp HSP HJ1 HO1
            gi_wp2
            refine hRn.mono ?_
            rintro e W3 (⟨rfl, hJ4, hk4⟩ | ⟨rfl, hJx4⟩)
            · have HO4 := hide ((unhide HO2).kp hn0 hk4)
              have HJ4 := hide hJ4
              clear hJ4 hk4 hRn hy
              gi_wp2
              go_roundw
              case rel =>
                refine ⟨pre ++ [sp], r, b2, rfl, rfl, unhide HJ4, unhide HO4, by omega, ?_, (unhide hst).1, (unhide hst).2, trivial⟩
                rintro rfl
                have := unhide HL3 rfl
                simp; omega
              case measure =>
                simp only [lenOf, boolOf, bs_size]
                cases b2 with
                | true => have := unhide HL3 rfl; simp; omega
                | false => simp; omega
            · have HJ4 := hide hJx4
              clear hJx4 hRn hy
              gi_wp2
              refine bodyPost_ret (results_none rfl _ _ _) rfl ?_
              exact ⟨⟨_, rfl⟩, .inr ⟨_, unhide hpre, unhide HJ4⟩⟩
    · go_simp
      refine hK _ _ ?_
      clear hK K
      refine wpAnyIn_ready (rs := [0, 2]) (by kernel_rfl) (by simp) ?_
      refine AllReadyIn.cons rfl (fun K hK => ?_) (AllReadyIn.cons rfl (fun K hK => ?_) AllReadyIn.nil)
      · go_simp
        refine hK _ _ ?_
        clear hK K
        refine wpAnyIn_ready (rs := [2, 3]) (by kernel_rfl) (by simp) ?_
        refine AllReadyIn.cons rfl (fun K hK => ?_) (AllReadyIn.cons rfl (fun K hK => ?_) AllReadyIn.nil)
        · go_simp
          refine hK _ _ ?_
          clear hK K
          refine wpAnyIn_ready (rs := [3]) (by kernel_rfl) (by simp) ?_
          refine AllReadyIn.cons rfl (fun K hK => ?_) AllReadyIn.nil
          go_simp
          refine hK _ _ ?_
          clear hK K
          refine wpAnyIn_ready (rs := [4]) (by kernel_rfl) (by simp) ?_
          refine AllReadyIn.cons rfl (fun K hK => ?_) AllReadyIn.nil
          go_simp
          refine hK _ _ ?_
          clear hK K
          refine wpAnyIn_done (by kernel_rfl) ?_ _
          gi_wp2_with (fail)
          gi_loopw [3, 4, 5] (fun lf mo _ wr => ∃ (pre : List (Int × Int)) (s : By) (b : Bool), lf = .string (bs s) ∧ mo = .bool b ∧ J pre wr ∧ Old w0 wr ∧ s.length ≤ t.length ∧ (b = true → pre.length + s.length ≤ t.length) ∧ (b = true → wrB t = pre ++ wrL (s.length + 1) s) ∧ (b = false → wrB t = pre) ∧ True) (fun lf mo _ _ => lenOf lf + boolOf mo)
          case atStart => exact ⟨[], t, false, by rw [unhide HT], rfl, unhide HJ0, unhide HOd, Nat.le_refl _, fun h => (by cases h), fun h => (by cases h), fun _ => by rw [unhide hWB, if_pos h45], trivial⟩
          case round =>
            obtain ⟨pre, s, b, rfl, rfl, hJ, hO, hs1, hs2, hb1, hb2, _⟩ := hrel
            cases b with
            | false =>
              have HE := hide (hb2 rfl)
              have HJ := hide hJ
              clear hb1 hb2 hJ
              gi_wp2
              go_end0
              exact ⟨⟨_, rfl⟩, .inl ⟨_, (unhide HE).symm, unhide HJ⟩⟩
            | true =>
              have hw := hb1 rfl
              have hs3 := hs2 rfl
              clear hs2
              clear hb1 hb2
              have hc := hide (cut_any 44 s (by omega) wr (hG.old hO))
              rw [show bs [44] = (⟨#[44]⟩ : ByteArray) from rfl] at hc
              obtain ⟨l1, l2, l3⟩ := cut_len s
              obtain ⟨⟨p, r, b2⟩, hcut⟩ : ∃ x, cutC 44 s = x := ⟨_, rfl⟩
              rw [hcut] at hc l1 l2 l3
              simp only at hc l1 l2 l3
              have HW := hide hw
              have HCUT := hide hcut
              have HJ := hide hJ
              have HO := hide hO
              clear hw hcut hJ hO
              have HSP := hide (fun w' (hb : Old w0 w') => span_any p (by omega) w' (hG.old hb))
              have HL3 := hide l3
              clear l3
              gi_wp2_with (fail)
              refine ⟨trivial, ?_⟩
              refine (callsIn_wide.2 (unhide hc)).mono ?_
              rintro e w1 ⟨rfl, bw1⟩
              have HJ1 := hide (hA _ _ _ (unhide HJ) bw1)
              have HO1 := hide ((unhide HO).below bw1)
              clear bw1 hc
              have hsp := hide (unhide HSP w1 (unhide HO1))
              gi_wp2_with (fail)
              refine ⟨trivial, ?_⟩
              refine (callsIn_wide.2 (unhide hsp)).mono ?_
              rintro e w2 ⟨rfl, bw2⟩
              have hJ2 := hA _ _ _ (unhide HJ1) bw2
              have HO2 := hide ((unhide HO1).below bw2)
              obtain ⟨fn, tmps, assign, body, hy, hRn⟩ := hY pre (spanB p) w2 hJ2 (by omega)
              have hst : Hid ((b2 = true → wrB t = (pre ++ [spanB p]) ++ wrL (r.length + 1) r) ∧ (b2 = false → wrB t = pre ++ [spanB p])) := by
                constructor
                · rintro rfl
                  rw [unhide HW, wrL_cut (unhide HCUT)]; simp
                · rintro rfl
                  rw [unhide HW, wrL_end (unhide HCUT)]
              have hpre : Hid (pre ++ [spanB p] <+: wrB t) := by
                show _ <+: _
                cases b2 with
                | true => rw [(unhide hst).1 rfl]; exact List.prefix_append _ _
                | false => rw [(unhide hst).2 rfl]; exact List.prefix_refl _
              generalize spanB p = sp at *
              clear bw2 hJ2 hsp HSP HJ1 HO1
              gi_wp2
              refine hRn.mono ?_
              rintro e W3 (⟨rfl, hJ4, hk4⟩ | ⟨rfl, hJx4⟩)
              · have HO4 := hide ((unhide HO2).kp hn0 hk4)
                have HJ4 := hide hJ4
                clear hJ4 hk4 hRn hy
                gi_wp2
                go_roundw
                case rel =>
                  refine ⟨pre ++ [sp], r, b2, rfl, rfl, unhide HJ4, unhide HO4, by omega, ?_, (unhide hst).1, (unhide hst).2, trivial⟩
                  rintro rfl
                  have := unhide HL3 rfl
                  simp; omega
                case measure =>
                  simp only [lenOf, boolOf, bs_size]
                  cases b2 with
                  | true => have := unhide HL3 rfl; simp; omega
                  | false => simp; omega
              · have HJ4 := hide hJx4
                clear hJx4 hRn hy
                gi_wp2
                refine bodyPost_ret (results_none rfl _ _ _) rfl ?_
                exact ⟨⟨_, rfl⟩, .inr ⟨_, unhide hpre, unhide HJ4⟩⟩
        · go_simp
          refine hK _ _ ?_
          clear hK K
          refine wpAnyIn_ready (rs := [2]) (by kernel_rfl) (by simp) ?_
          refine AllReadyIn.cons rfl (fun K hK => ?_) AllReadyIn.nil
          go_simp
          refine hK _ _ ?_
          clear hK K
          refine wpAnyIn_ready (rs := [4]) (by kernel_rfl) (by simp) ?_
          refine AllReadyIn.cons rfl (fun K hK => ?_) AllReadyIn.nil
          go_simp
          refine hK _ _ ?_
          clear hK K
          refine wpAnyIn_done (by kernel_rfl) ?_ _
          gi_wp2_with (fail)
          gi_loopw [3, 4, 5] (fun lf mo _ wr => ∃ (pre : List (Int × Int)) (s : By) (b : Bool), lf = .string (bs s) ∧ mo = .bool b ∧ J pre wr ∧ Old w0 wr ∧ s.length ≤ t.length ∧ (b = true → pre.length + s.length ≤ t.length) ∧ (b = true → wrB t = pre ++ wrL (s.length + 1) s) ∧ (b = false → wrB t = pre) ∧ True) (fun lf mo _ _ => lenOf lf + boolOf mo)
          case atStart => exact ⟨[], t, false, by rw [unhide HT], rfl, unhide HJ0, unhide HOd, Nat.le_refl _, fun h => (by cases h), fun h => (by cases h), fun _ => by rw [unhide hWB, if_pos h45], trivial⟩
          case round =>
            obtain ⟨pre, s, b, rfl, rfl, hJ, hO, hs1, hs2, hb1, hb2, _⟩ := hrel
            cases b with
            | false =>
              have HE := hide (hb2 rfl)
              have HJ := hide hJ
              clear hb1 hb2 hJ
              gi_wp2
              go_end0
              exact ⟨⟨_, rfl⟩, .inl ⟨_, (unhide HE).symm, unhide HJ⟩⟩
            | true =>
              have hw := hb1 rfl
              have hs3 := hs2 rfl
              clear hs2
              clear hb1 hb2
              have hc := hide (cut_any 44 s (by omega) wr (hG.old hO))
              rw [show bs [44] = (⟨#[44]⟩ : ByteArray) from rfl] at hc
              obtain ⟨l1, l2, l3⟩ := cut_len s
              obtain ⟨⟨p, r, b2⟩, hcut⟩ : ∃ x, cutC 44 s = x := ⟨_, rfl⟩
              rw [hcut] at hc l1 l2 l3
              simp only at hc l1 l2 l3
              have HW := hide hw
              have HCUT := hide hcut
              have HJ := hide hJ
              have HO := hide hO
              clear hw hcut hJ hO
              have HSP := hide (fun w' (hb : Old w0 w') => span_any p (by omega) w' (hG.old hb))
              have HL3 := hide l3
              clear l3
              gi_wp2_with (fail)
              refine ⟨trivial, ?_⟩
              refine (callsIn_wide.2 (unhide hc)).mono ?_
              rintro e w1 ⟨rfl, bw1⟩
              have HJ1 := hide (hA _ _ _ (unhide HJ) bw1)
              have HO1 := hide ((unhide HO).below bw1)
              clear bw1 hc
              have hsp := hide (unhide HSP w1 (unhide HO1))
              gi_wp2_with (fail)
              refine ⟨trivial, ?_⟩
              refine (callsIn_wide.2 (unhide hsp)).mono ?_
              rintro e w2 ⟨rfl, bw2⟩
              have hJ2 := hA _ _ _ (unhide HJ1) bw2
              have HO2 := hide ((unhide HO1).below bw2)
              obtain ⟨fn, tmps, assign, body, hy, hRn⟩ := hY pre (spanB p) w2 hJ2 (by omega)
              have hst : Hid ((b2 = true → wrB t = (pre ++ [spanB p]) ++ wrL (r.length + 1) r) ∧ (b2 = false → wrB t = pre ++ [spanB p])) := by
                constructor
                · rintro rfl
                  rw [unhide HW, wrL_cut (unhide HCUT)]; simp
                · rintro rfl
                  rw [unhide HW, wrL_end (unhide HCUT)]
              have hpre : Hid (pre ++ [spanB p] <+: wrB t) := by
                show _ <+: _
                cases b2 with
                | true => rw [(unhide hst).1 rfl]; exact List.prefix_append _ _
                | false => rw [(unhide hst).2 rfl]; exact List.prefix_refl _
              generalize spanB p = sp at *
              clear bw2 hJ2 hsp HSP HJ1 HO1
              gi_wp2
              refine hRn.mono ?_
              rintro e W3 (⟨rfl, hJ4, hk4⟩ | ⟨rfl, hJx4⟩)
              · have HO4 := hide ((unhide HO2).kp hn0 hk4)
                have HJ4 := hide hJ4
                clear hJ4 hk4 hRn hy
                gi_wp2
                go_roundw
                case rel =>
                  refine ⟨pre ++ [sp], r, b2, rfl, rfl, unhide HJ4, unhide HO4, by omega, ?_, (unhide hst).1, (unhide hst).2, trivial⟩
                  rintro rfl
                  have := unhide HL3 rfl
                  simp; omega
                case measure =>
                  simp only [lenOf, boolOf, bs_size]
                  cases b2 with
                  | true => have := unhide HL3 rfl; simp; omega
                  | false => simp; omega
              · have HJ4 := hide hJx4
                clear hJx4 hRn hy
                gi_wp2
                refine bodyPost_ret (results_none rfl _ _ _) rfl ?_
                exact ⟨⟨_, rfl⟩, .inr ⟨_, unhide hpre, unhide HJ4⟩⟩
      · go_simp
        refine hK _ _ ?_
        clear hK K
        refine wpAnyIn_ready (rs := [0]) (by kernel_rfl) (by simp) ?_
        refine AllReadyIn.cons rfl (fun K hK => ?_) AllReadyIn.nil
        go_simp
        refine hK _ _ ?_
        clear hK K
        refine wpAnyIn_ready (rs := [3]) (by kernel_rfl) (by simp) ?_
        refine AllReadyIn.cons rfl (fun K hK => ?_) AllReadyIn.nil
        go_simp
        refine hK _ _ ?_
        clear hK K
        refine wpAnyIn_ready (rs := [4]) (by kernel_rfl) (by simp) ?_
        refine AllReadyIn.cons rfl (fun K hK => ?_) AllReadyIn.nil
        go_simp
        refine hK _ _ ?_
        clear hK K
        refine wpAnyIn_done (by kernel_rfl) ?_ _
        gi_wp2_with (fail)
        gi_loopw [3, 4, 5] (fun lf mo _ wr => ∃ (pre : List (Int × Int)) (s : By) (b : Bool), lf = .string (bs s) ∧ mo = .bool b ∧ J pre wr ∧ Old w0 wr ∧ s.length ≤ t.length ∧ (b = true → pre.length + s.length ≤ t.length) ∧ (b = true → wrB t = pre ++ wrL (s.length + 1) s) ∧ (b = false → wrB t = pre) ∧ True) (fun lf mo _ _ => lenOf lf + boolOf mo)
        case atStart => exact ⟨[], t, false, by rw [unhide HT], rfl, unhide HJ0, unhide HOd, Nat.le_refl _, fun h => (by cases h), fun h => (by cases h), fun _ => by rw [unhide hWB, if_pos h45], trivial⟩
        case round =>
          obtain ⟨pre, s, b, rfl, rfl, hJ, hO, hs1, hs2, hb1, hb2, _⟩ := hrel
          cases b with
          | false =>
            have HE := hide (hb2 rfl)
            have HJ := hide hJ
            clear hb1 hb2 hJ
            gi_wp2
            go_end0
            exact ⟨⟨_, rfl⟩, .inl ⟨_, (unhide HE).symm, unhide HJ⟩⟩
          | true =>
            have hw := hb1 rfl
            have hs3 := hs2 rfl
            clear hs2
            clear hb1 hb2
            have hc := hide (cut_any 44 s (by omega) wr (hG.old hO))
            rw [show bs [44] = (⟨#[44]⟩ : ByteArray) from rfl] at hc
            obtain ⟨l1, l2, l3⟩ := cut_len s
            obtain ⟨⟨p, r, b2⟩, hcut⟩ : ∃ x, cutC 44 s = x := ⟨_, rfl⟩
            rw [hcut] at hc l1 l2 l3
            simp only at hc l1 l2 l3
            have HW := hide hw
            have HCUT := hide hcut
            have HJ := hide hJ
            have HO := hide hO
            clear hw hcut hJ hO
            have HSP := hide (fun w' (hb : Old w0 w') => span_any p (by omega) w' (hG.old hb))
            have HL3 := hide l3
            clear l3
            gi_wp2_with (fail)
            refine ⟨trivial, ?_⟩
            refine (callsIn_wide.2 (unhide hc)).mono ?_
            rintro e w1 ⟨rfl, bw1⟩
            have HJ1 := hide (hA _ _ _ (unhide HJ) bw1)
            have HO1 := hide ((unhide HO).below bw1)
            clear bw1 hc
            have hsp := hide (unhide HSP w1 (unhide HO1))
            gi_wp2_with (fail)
            refine ⟨trivial, ?_⟩
            refine (callsIn_wide.2 (unhide hsp)).mono ?_
            rintro e w2 ⟨rfl, bw2⟩
            have hJ2 := hA _ _ _ (unhide HJ1) bw2
            have HO2 := hide ((unhide HO1).below bw2)
            obtain ⟨fn, tmps, assign, body, hy, hRn⟩ := hY pre (spanB p) w2 hJ2 (by omega)
            have hst : Hid ((b2 = true → wrB t = (pre ++ [spanB p]) ++ wrL (r.length + 1) r) ∧ (b2 = false → wrB t = pre ++ [spanB p])) := by
              constructor
              · rintro rfl
                rw [unhide HW, wrL_cut (unhide HCUT)]; simp
              · rintro rfl
                rw [unhide HW, wrL_end (unhide HCUT)]
            have hpre : Hid (pre ++ [spanB p] <+: wrB t) := by
              show _ <+: _
              cases b2 with
              | true => rw [(unhide hst).1 rfl]; exact List.prefix_append _ _
              | false => rw [(unhide hst).2 rfl]; exact List.prefix_refl _
            generalize spanB p = sp at *
            clear bw2 hJ2 hsp HSP HJ1 HO1
            gi_wp2
            refine hRn.mono ?_
            rintro e W3 (⟨rfl, hJ4, hk4⟩ | ⟨rfl, hJx4⟩)
            · have HO4 := hide ((unhide HO2).kp hn0 hk4)
              have HJ4 := hide hJ4
              clear hJ4 hk4 hRn hy
              gi_wp2
              go_roundw
              case rel =>
                refine ⟨pre ++ [sp], r, b2, rfl, rfl, unhide HJ4, unhide HO4, by omega, ?_, (unhide hst).1, (unhide hst).2, trivial⟩
                rintro rfl
                have := unhide HL3 rfl
                simp; omega
              case measure =>
                simp only [lenOf, boolOf, bs_size]
                cases b2 with
                | true => have := unhide HL3 rfl; simp; omega
                | false => simp; omega
            · have HJ4 := hide hJx4
              clear hJx4 hRn hy
              gi_wp2
              refine bodyPost_ret (results_none rfl _ _ _) rfl ?_
              exact ⟨⟨_, rfl⟩, .inr ⟨_, unhide hpre, unhide HJ4⟩⟩
  · have hcc := unhide hcmp
    rw [decide_eq_false h45] at hcc
    refine wpAnyIn_ready (rs := [0, 1]) (by kernel_rfl) (by simp) ?_
    refine AllReadyIn.cons rfl (fun K hK => ?_) (AllReadyIn.cons rfl (fun K hK => ?_) AllReadyIn.nil)
    · go_simp
      refine hK _ _ ?_
      clear hK K
      refine wpAnyIn_ready (rs := [1, 3]) (by kernel_rfl) (by simp) ?_
      refine AllReadyIn.cons rfl (fun K hK => ?_) (AllReadyIn.cons rfl (fun K hK => ?_) AllReadyIn.nil)
      · go_simp
        refine hK _ _ ?_
        clear hK K
        refine wpAnyIn_ready (rs := [2, 3]) (by kernel_rfl) (by simp) ?_
        refine AllReadyIn.cons rfl (fun K hK => ?_) (AllReadyIn.cons rfl (fun K hK => ?_) AllReadyIn.nil)
        · go_simp
          refine hK _ _ ?_
          clear hK K
          refine wpAnyIn_ready (rs := [3]) (by kernel_rfl) (by simp) ?_
          refine AllReadyIn.cons rfl (fun K hK => ?_) AllReadyIn.nil
          go_simp
          refine hK _ _ ?_
          clear hK K
          refine wpAnyIn_ready (rs := [4]) (by kernel_rfl) (by simp) ?_
          refine AllReadyIn.cons rfl (fun K hK => ?_) AllReadyIn.nil
          go_simp
          refine hK _ _ ?_
          clear hK K
          refine wpAnyIn_done (by kernel_rfl) ?_ _
          gi_wp2_with (fail)
          gi_loopw [3, 4, 5] (fun lf mo _ wr => ∃ (pre : List (Int × Int)) (s : By) (b : Bool), lf = .string (bs s) ∧ mo = .bool b ∧ J pre wr ∧ Old w0 wr ∧ s.length ≤ t.length ∧ (b = true → pre.length + s.length ≤ t.length) ∧ (b = true → wrB t = pre ++ wrL (s.length + 1) s) ∧ (b = false → wrB t = pre) ∧ True) (fun lf mo _ _ => lenOf lf + boolOf mo)
          case atStart => exact ⟨[], t, true, by rw [unhide HT], rfl, unhide HJ0, unhide HOd, Nat.le_refl _, fun _ => by simp, fun _ => by rw [unhide hWB, if_neg h45]; rfl, fun h => (by cases h), trivial⟩
          case round =>
            obtain ⟨pre, s, b, rfl, rfl, hJ, hO, hs1, hs2, hb1, hb2, _⟩ := hrel
            cases b with
            | false =>
              have HE := hide (hb2 rfl)
              have HJ := hide hJ
              clear hb1 hb2 hJ
              gi_wp2
              go_end0
              exact ⟨⟨_, rfl⟩, .inl ⟨_, (unhide HE).symm, unhide HJ⟩⟩
            | true =>
              have hw := hb1 rfl
              have hs3 := hs2 rfl
              clear hs2
              clear hb1 hb2
              have hc := hide (cut_any 44 s (by omega) wr (hG.old hO))
              rw [show bs [44] = (⟨#[44]⟩ : ByteArray) from rfl] at hc
              obtain ⟨l1, l2, l3⟩ := cut_len s
              obtain ⟨⟨p, r, b2⟩, hcut⟩ : ∃ x, cutC 44 s = x := ⟨_, rfl⟩
              rw [hcut] at hc l1 l2 l3
              simp only at hc l1 l2 l3
              have HW := hide hw
              have HCUT := hide hcut
              have HJ := hide hJ
              have HO := hide hO
              clear hw hcut hJ hO
              have HSP := hide (fun w' (hb : Old w0 w') => span_any p (by omega) w' (hG.old hb))
              have HL3 := hide l3
              clear l3
              gi_wp2_with (fail)
              refine ⟨trivial, ?_⟩
              refine (callsIn_wide.2 (unhide hc)).mono ?_
              rintro e w1 ⟨rfl, bw1⟩
              have HJ1 := hide (hA _ _ _ (unhide HJ) bw1)
              have HO1 := hide ((unhide HO).below bw1)
              clear bw1 hc
              have hsp := hide (unhide HSP w1 (unhide HO1))
              gi_wp2_with (fail)
              refine ⟨trivial, ?_⟩
              refine (callsIn_wide.2 (unhide hsp)).mono ?_
              rintro e w2 ⟨rfl, bw2⟩
              have hJ2 := hA _ _ _ (unhide HJ1) bw2
              have HO2 := hide ((unhide HO1).below bw2)
              obtain ⟨fn, tmps, assign, body, hy, hRn⟩ := hY pre (spanB p) w2 hJ2 (by omega)
              have hst : Hid ((b2 = true → wrB t = (pre ++ [spanB p]) ++ wrL (r.length + 1) r) ∧ (b2 = false → wrB t = pre ++ [spanB p])) := by
                constructor
                · rintro rfl
                  rw [unhide HW, wrL_cut (unhide HCUT)]; simp
                · rintro rfl
                  rw [unhide HW, wrL_end (unhide HCUT)]
              have hpre : Hid (pre ++ [spanB p] <+: wrB t) := by
                show _ <+: _
                cases b2 with
                | true => rw [(unhide hst).1 rfl]; exact List.prefix_append _ _
                | false => rw [(unhide hst).2 rfl]; exact List.prefix_refl _
              generalize spanB p = sp at *
              clear bw2 hJ2 hsp HSP HJ1 HO1
              gi_wp2
              refine hRn.mono ?_
              rintro e W3 (⟨rfl, hJ4, hk4⟩ | ⟨rfl, hJx4⟩)
              · have HO4 := hide ((unhide HO2).kp hn0 hk4)
                have HJ4 := hide hJ4
                clear hJ4 hk4 hRn hy
                gi_wp2
                go_roundw
                case rel =>
                  refine ⟨pre ++ [sp], r, b2, rfl, rfl, unhide HJ4, unhide HO4, by omega, ?_, (unhide hst).1, (unhide hst).2, trivial⟩
                  rintro rfl
                  have := unhide HL3 rfl
                  simp; omega
                case measure =>
                  simp only [lenOf, boolOf, bs_size]
                  cases b2 with
                  | true => have := unhide HL3 rfl; simp; omega
                  | false => simp; omega
              · have HJ4 := hide hJx4
                clear hJx4 hRn hy
                gi_wp2
                refine bodyPost_ret (results_none rfl _ _ _) rfl ?_
                exact ⟨⟨_, rfl⟩, .inr ⟨_, unhide hpre, unhide HJ4⟩⟩
        · go_simp
          refine hK _ _ ?_
          clear hK K
          refine wpAnyIn_ready (rs := [2]) (by kernel_rfl) (by simp) ?_
          refine AllReadyIn.cons rfl (fun K hK => ?_) AllReadyIn.nil
          go_simp
          refine hK _ _ ?_
          clear hK K
          refine wpAnyIn_ready (rs := [4]) (by kernel_rfl) (by simp) ?_
          refine AllReadyIn.cons rfl (fun K hK => ?_) AllReadyIn.nil
          go_simp
          refine hK _ _ ?_
          clear hK K
          refine wpAnyIn_done (by kernel_rfl) ?_ _
          gi_wp2_with (fail)
          gi_loopw [3, 4, 5] (fun lf mo _ wr => ∃ (pre : List (Int × Int)) (s : By) (b : Bool), lf = .string (bs s) ∧ mo = .bool b ∧ J pre wr ∧ Old w0 wr ∧ s.length ≤ t.length ∧ (b = true → pre.length + s.length ≤ t.length) ∧ (b = true → wrB t = pre ++ wrL (s.length + 1) s) ∧ (b = false → wrB t = pre) ∧ True) (fun lf mo _ _ => lenOf lf + boolOf mo)
          case atStart => exact ⟨[], t, true, by rw [unhide HT], rfl, unhide HJ0, unhide HOd, Nat.le_refl _, fun _ => by simp, fun _ => by rw [unhide hWB, if_neg h45]; rfl, fun h => (by cases h), trivial⟩
          case round =>
            obtain ⟨pre, s, b, rfl, rfl, hJ, hO, hs1, hs2, hb1, hb2, _⟩ := hrel
            cases b with
            | false =>
              have HE := hide (hb2 rfl)
              have HJ := hide hJ
              clear hb1 hb2 hJ
              gi_wp2
              go_end0
              exact ⟨⟨_, rfl⟩, .inl ⟨_, (unhide HE).symm, unhide HJ⟩⟩
            | true =>
              have hw := hb1 rfl
              have hs3 := hs2 rfl
              clear hs2
              clear hb1 hb2
              have hc := hide (cut_any 44 s (by omega) wr (hG.old hO))
              rw [show bs [44] = (⟨#[44]⟩ : ByteArray) from rfl] at hc
              obtain ⟨l1, l2, l3⟩ := cut_len s
              obtain ⟨⟨p, r, b2⟩, hcut⟩ : ∃ x, cutC 44 s = x := ⟨_, rfl⟩
              rw [hcut] at hc l1 l2 l3
              simp only at hc l1 l2 l3
              have HW := hide hw
              have HCUT := hide hcut
              have HJ := hide hJ
              have HO := hide hO
              clear hw hcut hJ hO
              have HSP := hide (fun w' (hb : Old w0 w') => span_any p (by omega) w' (hG.old hb))
              have HL3 := hide l3
              clear l3
              gi_wp2_with (fail)
              refine ⟨trivial, ?_⟩
              refine (callsIn_wide.2 (unhide hc)).mono ?_
              rintro e w1 ⟨rfl, bw1⟩
              have HJ1 := hide (hA _ _ _ (unhide HJ) bw1)
              have HO1 := hide ((unhide HO).below bw1)
              clear bw1 hc
              have hsp := hide (unhide HSP w1 (unhide HO1))
              gi_wp2_with (fail)
              refine ⟨trivial, ?_⟩
              refine (callsIn_wide.2 (unhide hsp)).mono ?_
              rintro e w2 ⟨rfl, bw2⟩
              have hJ2 := hA _ _ _ (unhide HJ1) bw2
              have HO2 := hide ((unhide HO1).below bw2)
              obtain ⟨fn, tmps, assign, body, hy, hRn⟩ := hY pre (spanB p) w2 hJ2 (by omega)
              have hst : Hid ((b2 = true → wrB t = (pre ++ [spanB p]) ++ wrL (r.length + 1) r) ∧ (b2 = false → wrB t = pre ++ [spanB p])) := by
                constructor
                · rintro rfl
                  rw [unhide HW, wrL_cut (unhide HCUT)]; simp
                · rintro rfl
                  rw [unhide HW, wrL_end (unhide HCUT)]
              have hpre : Hid (pre ++ [spanB p] <+: wrB t) := by
                show _ <+: _
                cases b2 with
                | true => rw [(unhide hst).1 rfl]; exact List.prefix_append _ _
                | false => rw [(unhide hst).2 rfl]; exact List.prefix_refl _
              generalize spanB p = sp at *
              clear bw2 hJ2 hsp HSP HJ1 HO1
              gi_wp2
              refine hRn.mono ?_
              rintro e W3 (⟨rfl, hJ4, hk4⟩ | ⟨rfl, hJx4⟩)
              · have HO4 := hide ((unhide HO2).kp hn0 hk4)
                have HJ4 := hide hJ4
                clear hJ4 hk4 hRn hy
                gi_wp2
                go_roundw
                case rel =>
                  refine ⟨pre ++ [sp], r, b2, rfl, rfl, unhide HJ4, unhide HO4, by omega, ?_, (unhide hst).1, (unhide hst).2, trivial⟩
                  rintro rfl
                  have := unhide HL3 rfl
                  simp; omega
                case measure =>
                  simp only [lenOf, boolOf, bs_size]
                  cases b2 with
                  | true => have := unhide HL3 rfl; simp; omega
                  | false => simp; omega
              · have HJ4 := hide hJx4
                clear hJx4 hRn hy
                gi_wp2
                refine bodyPost_ret (results_none rfl _ _ _) rfl ?_
                exact ⟨⟨_, rfl⟩, .inr ⟨_, unhide hpre, unhide HJ4⟩⟩
      · go_simp
        refine hK _ _ ?_
        clear hK K
        refine wpAnyIn_ready (rs := [1]) (by kernel_rfl) (by simp) ?_
        refine AllReadyIn.cons rfl (fun K hK => ?_) AllReadyIn.nil
        go_simp
        refine hK _ _ ?_
        clear hK K
        refine wpAnyIn_ready (rs := [2]) (by kernel_rfl) (by simp) ?_
        refine AllReadyIn.cons rfl (fun K hK => ?_) AllReadyIn.nil
        go_simp
        refine hK _ _ ?_
        clear hK K
        refine wpAnyIn_ready (rs := [4]) (by kernel_rfl) (by simp) ?_
        refine AllReadyIn.cons rfl (fun K hK => ?_) AllReadyIn.nil
        go_simp
        refine hK _ _ ?_
        clear hK K
        refine wpAnyIn_done (by kernel_rfl) ?_ _
        gi_wp2_with (fail)
        gi_loopw [3, 4, 5] (fun lf mo _ wr => ∃ (pre : List (Int × Int)) (s : By) (b : Bool), lf = .string (bs s) ∧ mo = .bool b ∧ J pre wr ∧ Old w0 wr ∧ s.length ≤ t.length ∧ (b = true → pre.length + s.length ≤ t.length) ∧ (b = true → wrB t = pre ++ wrL (s.length + 1) s) ∧ (b = false → wrB t = pre) ∧ True) (fun lf mo _ _ => lenOf lf + boolOf mo)
        case atStart => exact ⟨[], t, true, by rw [unhide HT], rfl, unhide HJ0, unhide HOd, Nat.le_refl _, fun _ => by simp, fun _ => by rw [unhide hWB, if_neg h45]; rfl, fun h => (by cases h), trivial⟩
        case round =>
          obtain ⟨pre, s, b, rfl, rfl, hJ, hO, hs1, hs2, hb1, hb2, _⟩ := hrel
          cases b with
          | false =>
            have HE := hide (hb2 rfl)
            have HJ := hide hJ
            clear hb1 hb2 hJ
            gi_wp2
            go_end0
            exact ⟨⟨_, rfl⟩, .inl ⟨_, (unhide HE).symm, unhide HJ⟩⟩
          | true =>
            have hw := hb1 rfl
            have hs3 := hs2 rfl
            clear hs2
            clear hb1 hb2
            have hc := hide (cut_any 44 s (by omega) wr (hG.old hO))
            rw [show bs [44] = (⟨#[44]⟩ : ByteArray) from rfl] at hc
            obtain ⟨l1, l2, l3⟩ := cut_len s
            obtain ⟨⟨p, r, b2⟩, hcut⟩ : ∃ x, cutC 44 s = x := ⟨_, rfl⟩
            rw [hcut] at hc l1 l2 l3
            simp only at hc l1 l2 l3
            have HW := hide hw
            have HCUT := hide hcut
            have HJ := hide hJ
            have HO := hide hO
            clear hw hcut hJ hO
            have HSP := hide (fun w' (hb : Old w0 w') => span_any p (by omega) w' (hG.old hb))
            have HL3 := hide l3
            clear l3
            gi_wp2_with (fail)
            refine ⟨trivial, ?_⟩
            refine (callsIn_wide.2 (unhide hc)).mono ?_
            rintro e w1 ⟨rfl, bw1⟩
            have HJ1 := hide (hA _ _ _ (unhide HJ) bw1)
            have HO1 := hide ((unhide HO).below bw1)
            clear bw1 hc
            have hsp := hide (unhide HSP w1 (unhide HO1))
            gi_wp2_with (fail)
            refine ⟨trivial, ?_⟩
            refine (callsIn_wide.2 (unhide hsp)).mono ?_
            rintro e w2 ⟨rfl, bw2⟩
            have hJ2 := hA _ _ _ (unhide HJ1) bw2
            have HO2 := hide ((unhide HO1).below bw2)
            obtain ⟨fn, tmps, assign, body, hy, hRn⟩ := hY pre (spanB p) w2 hJ2 (by omega)
            have hst : Hid ((b2 = true → wrB t = (pre ++ [spanB p]) ++ wrL (r.length + 1) r) ∧ (b2 = false → wrB t = pre ++ [spanB p])) := by
              constructor
              · rintro rfl
                rw [unhide HW, wrL_cut (unhide HCUT)]; simp
              · rintro rfl
                rw [unhide HW, wrL_end (unhide HCUT)]
            have hpre : Hid (pre ++ [spanB p] <+: wrB t) := by
              show _ <+: _
              cases b2 with
              | true => rw [(unhide hst).1 rfl]; exact List.prefix_append _ _
              | false => rw [(unhide hst).2 rfl]; exact List.prefix_refl _
            generalize spanB p = sp at *
            clear bw2 hJ2 hsp HSP HJ1 HO1
            gi_wp2
            refine hRn.mono ?_
            rintro e W3 (⟨rfl, hJ4, hk4⟩ | ⟨rfl, hJx4⟩)
            · have HO4 := hide ((unhide HO2).kp hn0 hk4)
              have HJ4 := hide hJ4
              clear hJ4 hk4 hRn hy
              gi_wp2
              go_roundw
              case rel =>
                refine ⟨pre ++ [sp], r, b2, rfl, rfl, unhide HJ4, unhide HO4, by omega, ?_, (unhide hst).1, (unhide hst).2, trivial⟩
                rintro rfl
                have := unhide HL3 rfl
                simp; omega
              case measure =>
                simp only [lenOf, boolOf, bs_size]
                cases b2 with
                | true => have := unhide HL3 rfl; simp; omega
                | false => simp; omega
            · have HJ4 := hide hJx4
              clear hJx4 hRn hy
              gi_wp2
              refine bodyPost_ret (results_none rfl _ _ _) rfl ?_
              exact ⟨⟨_, rfl⟩, .inr ⟨_, unhide hpre, unhide HJ4⟩⟩
    · go_simp
      refine hK _ _ ?_
      clear hK K
      refine wpAnyIn_ready (rs := [0, 2]) (by kernel_rfl) (by simp) ?_
      refine AllReadyIn.cons rfl (fun K hK => ?_) (AllReadyIn.cons rfl (fun K hK => ?_) AllReadyIn.nil)
      · go_simp
        refine hK _ _ ?_
        clear hK K
        refine wpAnyIn_ready (rs := [2, 3]) (by kernel_rfl) (by simp) ?_
        refine AllReadyIn.cons rfl (fun K hK => ?_) (AllReadyIn.cons rfl (fun K hK => ?_) AllReadyIn.nil)
        · go_simp
          refine hK _ _ ?_
          clear hK K
          refine wpAnyIn_ready (rs := [3]) (by kernel_rfl) (by simp) ?_
          refine AllReadyIn.cons rfl (fun K hK => ?_) AllReadyIn.nil
          go_simp
          refine hK _ _ ?_
          clear hK K
          refine wpAnyIn_ready (rs := [4]) (by kernel_rfl) (by simp) ?_
          refine AllReadyIn.cons rfl (fun K hK => ?_) AllReadyIn.nil
          go_simp
          refine hK _ _ ?_
          clear hK K
          refine wpAnyIn_done (by kernel_rfl) ?_ _
          gi_wp2_with (fail)
          gi_loopw [3, 4, 5] (fun lf mo _ wr => ∃ (pre : List (Int × Int)) (s : By) (b : Bool), lf = .string (bs s) ∧ mo = .bool b ∧ J pre wr ∧ Old w0 wr ∧ s.length ≤ t.length ∧ (b = true → pre.length + s.length ≤ t.length) ∧ (b = true → wrB t = pre ++ wrL (s.length + 1) s) ∧ (b = false → wrB t = pre) ∧ True) (fun lf mo _ _ => lenOf lf + boolOf mo)
          case atStart => exact ⟨[], t, true, by rw [unhide HT], rfl, unhide HJ0, unhide HOd, Nat.le_refl _, fun _ => by simp, fun _ => by rw [unhide hWB, if_neg h45]; rfl, fun h => (by cases h), trivial⟩
          case round =>
            obtain ⟨pre, s, b, rfl, rfl, hJ, hO, hs1, hs2, hb1, hb2, _⟩ := hrel
            cases b with
            | false =>
              have HE := hide (hb2 rfl)
              have HJ := hide hJ
              clear hb1 hb2 hJ
              gi_wp2
              go_end0
              exact ⟨⟨_, rfl⟩, .inl ⟨_, (unhide HE).symm, unhide HJ⟩⟩
            | true =>
              have hw := hb1 rfl
              have hs3 := hs2 rfl
              clear hs2
              clear hb1 hb2
              have hc := hide (cut_any 44 s (by omega) wr (hG.old hO))
              rw [show bs [44] = (⟨#[44]⟩ : ByteArray) from rfl] at hc
              obtain ⟨l1, l2, l3⟩ := cut_len s
              obtain ⟨⟨p, r, b2⟩, hcut⟩ : ∃ x, cutC 44 s = x := ⟨_, rfl⟩
              rw [hcut] at hc l1 l2 l3
              simp only at hc l1 l2 l3
              have HW := hide hw
              have HCUT := hide hcut
              have HJ := hide hJ
              have HO := hide hO
              clear hw hcut hJ hO
              have HSP := hide (fun w' (hb : Old w0 w') => span_any p (by omega) w' (hG.old hb))
              have HL3 := hide l3
              clear l3
              gi_wp2_with (fail)
              refine ⟨trivial, ?_⟩
              refine (callsIn_wide.2 (unhide hc)).mono ?_
              rintro e w1 ⟨rfl, bw1⟩
              have HJ1 := hide (hA _ _ _ (unhide HJ) bw1)
              have HO1 := hide ((unhide HO).below bw1)
              clear bw1 hc
              have hsp := hide (unhide HSP w1 (unhide HO1))
              gi_wp2_with (fail)
              refine ⟨trivial, ?_⟩
              refine (callsIn_wide.2 (unhide hsp)).mono ?_
              rintro e w2 ⟨rfl, bw2⟩
              have hJ2 := hA _ _ _ (unhide HJ1) bw2
              have HO2 := hide ((unhide HO1).below bw2)
              obtain ⟨fn, tmps, assign, body, hy, hRn⟩ := hY pre (spanB p) w2 hJ2 (by omega)
              have hst : Hid ((b2 = true → wrB t = (pre ++ [spanB p]) ++ wrL (r.length + 1) r) ∧ (b2 = false → wrB t = pre ++ [spanB p])) := by
                constructor
                · rintro rfl
                  rw [unhide HW, wrL_cut (unhide HCUT)]; simp
                · rintro rfl
                  rw [unhide HW, wrL_end (unhide HCUT)]
              have hpre : Hid (pre ++ [spanB p] <+: wrB t) := by
                show _ <+: _
                cases b2 with
                | true => rw [(unhide hst).1 rfl]; exact List.prefix_append _ _
                | false => rw [(unhide hst).2 rfl]; exact List.prefix_refl _
              generalize spanB p = sp at *
              clear bw2 hJ2 hsp HSP HJ1 HO1
              gi_wp2
              refine hRn.mono ?_
              rintro e W3 (⟨rfl, hJ4, hk4⟩ | ⟨rfl, hJx4⟩)
              · have HO4 := hide ((unhide HO2).kp hn0 hk4)
                have HJ4 := hide hJ4
                clear hJ4 hk4 hRn hy
                gi_wp2
                go_roundw
                case rel =>
                  refine ⟨pre ++ [sp], r, b2, rfl, rfl, unhide HJ4, unhide HO4, by omega, ?_, (unhide hst).1, (unhide hst).2, trivial⟩
                  rintro rfl
                  have := unhide HL3 rfl
                  simp; omega
                case measure =>
                  simp only [lenOf, boolOf, bs_size]
                  cases b2 with
                  | true => have := unhide HL3 rfl; simp; omega
                  | false => simp; omega
              · have HJ4 := hide hJx4
                clear hJx4 hRn hy
                gi_wp2
                refine bodyPost_ret (results_none rfl _ _ _) rfl ?_
                exact ⟨⟨_, rfl⟩, .inr ⟨_, unhide hpre, unhide HJ4⟩⟩
        · go_simp
          refine hK _ _ ?_
          clear hK K
          refine wpAnyIn_ready (rs := [2]) (by kernel_rfl) (by simp) ?_
          refine AllReadyIn.cons rfl (fun K hK => ?_) AllReadyIn.nil
          go_simp
          refine hK _ _ ?_
          clear hK K
          refine wpAnyIn_ready (rs := [4]) (by kernel_rfl) (by simp) ?_
          refine AllReadyIn.cons rfl (fun K hK => ?_) AllReadyIn.nil
          go_simp
          refine hK _ _ ?_
          clear hK K
          refine wpAnyIn_done (by kernel_rfl) ?_ _
          gi_wp2_with (fail)
          gi_loopw [3, 4, 5] (fun lf mo _ wr => ∃ (pre : List (Int × Int)) (s : By) (b : Bool), lf = .string (bs s) ∧ mo = .bool b ∧ J pre wr ∧ Old w0 wr ∧ s.length ≤ t.length ∧ (b = true → pre.length + s.length ≤ t.length) ∧ (b = true → wrB t = pre ++ wrL (s.length + 1) s) ∧ (b = false → wrB t = pre) ∧ True) (fun lf mo _ _ => lenOf lf + boolOf mo)
          case atStart => exact ⟨[], t, true, by rw [unhide HT], rfl, unhide HJ0, unhide HOd, Nat.le_refl _, fun _ => by simp, fun _ => by rw [unhide hWB, if_neg h45]; rfl, fun h => (by cases h), trivial⟩
          case round =>
            obtain ⟨pre, s, b, rfl, rfl, hJ, hO, hs1, hs2, hb1, hb2, _⟩ := hrel
            cases b with
            | false =>
              have HE := hide (hb2 rfl)
              have HJ := hide hJ
              clear hb1 hb2 hJ
              gi_wp2
              go_end0
              exact ⟨⟨_, rfl⟩, .inl ⟨_, (unhide HE).symm, unhide HJ⟩⟩
            | true =>
              have hw := hb1 rfl
              have hs3 := hs2 rfl
              clear hs2
              clear hb1 hb2
              have hc := hide (cut_any 44 s (by omega) wr (hG.old hO))
              rw [show bs [44] = (⟨#[44]⟩ : ByteArray) from rfl] at hc
              obtain ⟨l1, l2, l3⟩ := cut_len s
              obtain ⟨⟨p, r, b2⟩, hcut⟩ : ∃ x, cutC 44 s = x := ⟨_, rfl⟩
              rw [hcut] at hc l1 l2 l3
              simp only at hc l1 l2 l3
              have HW := hide hw
              have HCUT := hide hcut
              have HJ := hide hJ
              have HO := hide hO
              clear hw hcut hJ hO
              have HSP := hide (fun w' (hb : Old w0 w') => span_any p (by omega) w' (hG.old hb))
              have HL3 := hide l3
              clear l3
              gi_wp2_with (fail)
              refine ⟨trivial, ?_⟩
              refine (callsIn_wide.2 (unhide hc)).mono ?_
              rintro e w1 ⟨rfl, bw1⟩
              have HJ1 := hide (hA _ _ _ (unhide HJ) bw1)
              have HO1 := hide ((unhide HO).below bw1)
              clear bw1 hc
              have hsp := hide (unhide HSP w1 (unhide HO1))
              gi_wp2_with (fail)
              refine ⟨trivial, ?_⟩
              refine (callsIn_wide.2 (unhide hsp)).mono ?_
              rintro e w2 ⟨rfl, bw2⟩
              have hJ2 := hA _ _ _ (unhide HJ1) bw2
              have HO2 := hide ((unhide HO1).below bw2)
              obtain ⟨fn, tmps, assign, body, hy, hRn⟩ := hY pre (spanB p) w2 hJ2 (by omega)
              have hst : Hid ((b2 = true → wrB t = (pre ++ [spanB p]) ++ wrL (r.length + 1) r) ∧ (b2 = false → wrB t = pre ++ [spanB p])) := by
                constructor
                · rintro rfl
                  rw [unhide HW, wrL_cut (unhide HCUT)]; simp
                · rintro rfl
                  rw [unhide HW, wrL_end (unhide HCUT)]
              have hpre : Hid (pre ++ [spanB p] <+: wrB t) := by
                show _ <+: _
                cases b2 with
                | true => rw [(unhide hst).1 rfl]; exact List.prefix_append _ _
                | false => rw [(unhide hst).2 rfl]; exact List.prefix_refl _
              generalize spanB p = sp at *
              clear bw2 hJ2 hsp HSP HJ1 HO1
              gi_wp2
              refine hRn.mono ?_
              rintro e W3 (⟨rfl, hJ4, hk4⟩ | ⟨rfl, hJx4⟩)
              · have HO4 := hide ((unhide HO2).kp hn0 hk4)
                have HJ4 := hide hJ4
                clear hJ4 hk4 hRn hy
                gi_wp2
                go_roundw
                case rel =>
                  refine ⟨pre ++ [sp], r, b2, rfl, rfl, unhide HJ4, unhide HO4, by omega, ?_, (unhide hst).1, (unhide hst).2, trivial⟩
                  rintro rfl
                  have := unhide HL3 rfl
                  simp; omega
                case measure =>
                  simp only [lenOf, boolOf, bs_size]
                  cases b2 with
                  | true => have := unhide HL3 rfl; simp; omega
                  | false => simp; omega
              · have HJ4 := hide hJx4
                clear hJx4 hRn hy
                gi_wp2
                refine bodyPost_ret (results_none rfl _ _ _) rfl ?_
                exact ⟨⟨_, rfl⟩, .inr ⟨_, unhide hpre, unhide HJ4⟩⟩
      · go_simp
        refine hK _ _ ?_
        clear hK K
        refine wpAnyIn_ready (rs := [0]) (by kernel_rfl) (by simp) ?_
        refine AllReadyIn.cons rfl (fun K hK => ?_) AllReadyIn.nil
        go_simp
        refine hK _ _ ?_
        clear hK K
        refine wpAnyIn_ready (rs := [3]) (by kernel_rfl) (by simp) ?_
        refine AllReadyIn.cons rfl (fun K hK => ?_) AllReadyIn.nil
        go_simp
        refine hK _ _ ?_
        clear hK K
        refine wpAnyIn_ready (rs := [4]) (by kernel_rfl) (by simp) ?_
        refine AllReadyIn.cons rfl (fun K hK => ?_) AllReadyIn.nil
        go_simp
        refine hK _ _ ?_
        clear hK K
        refine wpAnyIn_done (by kernel_rfl) ?_ _
        gi_wp2_with (fail)
        gi_loopw [3, 4, 5] (fun lf mo _ wr => ∃ (pre : List (Int × Int)) (s : By) (b : Bool), lf = .string (bs s) ∧ mo = .bool b ∧ J pre wr ∧ Old w0 wr ∧ s.length ≤ t.length ∧ (b = true → pre.length + s.length ≤ t.length) ∧ (b = true → wrB t = pre ++ wrL (s.length + 1) s) ∧ (b = false → wrB t = pre) ∧ True) (fun lf mo _ _ => lenOf lf + boolOf mo)
        case atStart => exact ⟨[], t, true, by rw [unhide HT], rfl, unhide HJ0, unhide HOd, Nat.le_refl _, fun _ => by simp, fun _ => by rw [unhide hWB, if_neg h45]; rfl, fun h => (by cases h), trivial⟩
        case round =>
          obtain ⟨pre, s, b, rfl, rfl, hJ, hO, hs1, hs2, hb1, hb2, _⟩ := hrel
          cases b with
          | false =>
            have HE := hide (hb2 rfl)
            have HJ := hide hJ
            clear hb1 hb2 hJ
            gi_wp2
            go_end0
            exact ⟨⟨_, rfl⟩, .inl ⟨_, (unhide HE).symm, unhide HJ⟩⟩
          | true =>
            have hw := hb1 rfl
            have hs3 := hs2 rfl
            clear hs2
            clear hb1 hb2
            have hc := hide (cut_any 44 s (by omega) wr (hG.old hO))
            rw [show bs [44] = (⟨#[44]⟩ : ByteArray) from rfl] at hc
            obtain ⟨l1, l2, l3⟩ := cut_len s
            obtain ⟨⟨p, r, b2⟩, hcut⟩ : ∃ x, cutC 44 s = x := ⟨_, rfl⟩
            rw [hcut] at hc l1 l2 l3
            simp only at hc l1 l2 l3
            have HW := hide hw
            have HCUT := hide hcut
            have HJ := hide hJ
            have HO := hide hO
            clear hw hcut hJ hO
            have HSP := hide (fun w' (hb : Old w0 w') => span_any p (by omega) w' (hG.old hb))
            have HL3 := hide l3
            clear l3
            gi_wp2_with (fail)
            refine ⟨trivial, ?_⟩
            refine (callsIn_wide.2 (unhide hc)).mono ?_
            rintro e w1 ⟨rfl, bw1⟩
            have HJ1 := hide (hA _ _ _ (unhide HJ) bw1)
            have HO1 := hide ((unhide HO).below bw1)
            clear bw1 hc
            have hsp := hide (unhide HSP w1 (unhide HO1))
            gi_wp2_with (fail)
            refine ⟨trivial, ?_⟩
            refine (callsIn_wide.2 (unhide hsp)).mono ?_
            rintro e w2 ⟨rfl, bw2⟩
            have hJ2 := hA _ _ _ (unhide HJ1) bw2
            have HO2 := hide ((unhide HO1).below bw2)
            obtain ⟨fn, tmps, assign, body, hy, hRn⟩ := hY pre (spanB p) w2 hJ2 (by omega)
            have hst : Hid ((b2 = true → wrB t = (pre ++ [spanB p]) ++ wrL (r.length + 1) r) ∧ (b2 = false → wrB t = pre ++ [spanB p])) := by
              constructor
              · rintro rfl
                rw [unhide HW, wrL_cut (unhide HCUT)]; simp
              · rintro rfl
                rw [unhide HW, wrL_end (unhide HCUT)]
            have hpre : Hid (pre ++ [spanB p] <+: wrB t) := by
              show _ <+: _
              cases b2 with
              | true => rw [(unhide hst).1 rfl]; exact List.prefix_append _ _
              | false => rw [(unhide hst).2 rfl]; exact List.prefix_refl _
            generalize spanB p = sp at *
            clear bw2 hJ2 hsp HSP HJ1 HO1
            gi_wp2
            refine hRn.mono ?_
            rintro e W3 (⟨rfl, hJ4, hk4⟩ | ⟨rfl, hJx4⟩)
            · have HO4 := hide ((unhide HO2).kp hn0 hk4)
              have HJ4 := hide hJ4
              clear hJ4 hk4 hRn hy
              gi_wp2
              go_roundw
              case rel =>
                refine ⟨pre ++ [sp], r, b2, rfl, rfl, unhide HJ4, unhide HO4, by omega, ?_, (unhide hst).1, (unhide hst).2, trivial⟩
                rintro rfl
                have := unhide HL3 rfl
                simp; omega
              case measure =>
                simp only [lenOf, boolOf, bs_size]
                cases b2 with
                | true => have := unhide HL3 rfl; simp; omega
                | false => simp; omega
            · have HJ4 := hide hJx4
              clear hJx4 hRn hy
              gi_wp2
              refine bodyPost_ret (results_none rfl _ _ _) rfl ?_
              exact ⟨⟨_, rfl⟩, .inr ⟨_, unhide hpre, unhide HJ4⟩⟩
theorem written_any (t : By) (w : World) : Calls Tryd.prog 49 #[.string (bs t)] w fun e w' => e = .returned (.func (.func 77) #[] #[.pointer (some ⟨w.heap.size, 0, none⟩)]) ∧ w' = w.alloc (.cells #[.string (bs t)] 9) := by
  generalize bs t = T at *
  go_enter Tryd.func49, Tryd.ntmps49
  go_wp2
  go_ret
  exact ⟨rfl, rfl⟩
theorem written_stops (m : Nat) (hm : 1 ≤ m) (n0 b1 : Nat) (t : By) (ht : t.length ≤ 100000) (w0 : World) (hG : Glob w0) (hn0 : w0.heap.size ≤ n0) (w : World) (hO : Old w0 w) (hW : Boxed w b1 9 (.string (bs t))) :
    SeqStopsK Fence.wide m Tryd.prog 77 #[.pointer (some ⟨b1, 0, none⟩)] (fun x : Int × Int => #[spI x]) (KpG n0) (fun xs => xs = wrB t) (fun pre => pre <+: wrB t) (t.length + 1) w := fun l J Jx W hb hJ hJx hY h0 => by
  have hB : Boxed W b1 9 (.string (bs t)) := (hb.block _ hW.lt).trans hW
  exact written1_in m hm l n0 b1 t ht J Jx w0 hG hn0 (fun pre A B hA hB => hJ pre A B none hA (grown_of_below hB) (fun r e => by cases e)) hY W (fun k cs t fr h => (hb.block k (lt_of_block (hO k cs t fr h))).trans (hO k cs t fr h)) hB.cell h0
noncomputable def redE (n : Int) (t : By) : Int := gatE n 3 (wrB t)
noncomputable def redR (n : Int) (t : By) : By := gatR n (wrB t)
theorem read_any (n : Int) (t : By) (ht : t.length ≤ 100000) (w : World) (hG : Glob w) : Calls Tryd.prog 23 #[.int .i64 n, .string (bs t)] w fun e w' => e = .returned (.tuple #[.string (bs (redR n t)), .int .i64 (redE n t)]) ∧ Below w.heap.size w w' := by
  have hv := hide (written_any t w)
  have b1 : Below w.heap.size w (w.alloc (.cells #[.string (bs t)] 9)) := (Below.refl _ w).alloc (Nat.le_refl _) _
  have hbx := Boxed.new w 9 (.string (bs t))
  have hg := hide (gather_any 9 (by decide) 77 #[.pointer (some ⟨w.heap.size, 0, none⟩)] (enters_of Tryd.func77 (by kernel_rfl) rfl) (wrB t) (t.length + 1) n 3 (w.alloc (.cells #[.string (bs t)] 9))
    (fun W0 hb => seqTurns_of_stops (written_stops 4 (by omega) _ w.heap.size t ht w hG b1.size W0 ((Old.of_below b1).below hb) ((hb.block _ hbx.lt).trans hbx))))
  change Hid (Calls Tryd.prog _ _ _ fun e w' => e = .returned (.tuple #[.string (bs (redR n t)), .int .i64 (redE n t)]) ∧ _) at hg
  have B1 := hide b1
  generalize bs (redR n t) = GR at *
  generalize redE n t = GE at *
  clear b1 hbx
  generalize w.alloc (.cells #[.string (bs t)] 9) = W1 at *
  generalize bs t = T at *
  go_enter Tryd.func23, Tryd.ntmps23
  go_wp2_with fail
  refine (unhide hv).mono ?_
  rintro e w1 ⟨rfl, rfl⟩
  go_wp2_with fail
  refine (unhide hg).mono ?_
  rintro e w2 ⟨rfl, b2⟩
  have B2 := hide ((unhide B1).trans (b2.mono (unhide B1).size))
  clear b2
  go_wp2
  go_ret2
  exact ⟨rfl, unhide B2⟩
end Go.Proofs.YtbodklppgcloiaaDoor
namespace Go.Proofs.YtbodklppgcloiaaDoor
open Go.RowKit Go.Shelf
set_option linter.unusedVariables false
attribute [local go_sem] Oper.semAt_some

theorem flP_le {n : Nat} (hn : n ≤ 160) (lo x : Int) (hl : -1 ≤ lo) (hx : 0 ≤ x) : ((flP n lo x).length : Int) ≤ x + 1 ∧ (flP n lo x).length ≤ 160 := by
  unfold flP flC
  rw [flN_len]
  split <;> omega
theorem rdS_fine {n : Nat} (hn : n ≤ 160) (t : By) : (rdS n t).1.length + (if 10 ≤ (rdS n t).2.2 then 80 else 0) ≤ 80 * t.length := by
  have key : ∀ k, k ≤ t.length → (rdS n (t.take k)).1.length + (if 10 ≤ (rdS n (t.take k)).2.2 then 80 else 0) ≤ 80 * k := by
    intro k
    induction k with
    | zero => intro _; simp [rdS]
    | succ k ih =>
      intro hk
      have h0 := ih (by omega)
      obtain ⟨_, h2, h3⟩ := rdS_bound hn (t.take k)
      rw [List.take_succ_eq_append_getElem (by omega), rdS_snoc]
      generalize rdS n (t.take k) = q at *
      unfold stp
      split
      · rename_i hc
        simp only
        split
        · split at h0 <;> omega
        · split at h0 <;> omega
      · split
        · simp only
          rw [if_neg (by omega)]
          split at h0 <;> omega
        · obtain ⟨f1, f2⟩ := flP_le hn q.2.1 q.2.2 h2.1 h3.1
          simp only [List.length_append]
          rw [if_neg (by omega)]
          split at h0 <;> omega
  have := key t.length (Nat.le_refl _)
  rwa [List.take_length] at this
theorem rdN_len {n : Nat} (hn : n ≤ 160) (t : By) : (rdN n t).length ≤ 80 * t.length + 80 := by
  have h := rdS_fine hn t
  obtain ⟨_, h2, h3⟩ := rdS_bound hn t
  obtain ⟨f1, f2⟩ := flP_le hn (rdS n t).2.1 (rdS n t).2.2 h2.1 h3.1
  unfold rdN
  rw [List.length_append]
  split at h <;> omega
theorem docN_len {n : Nat} (hn : n ≤ 160) (t : By) : (docN n t).length ≤ 80 * t.length + 80 := by
  unfold docN
  split
  · simp
  · exact rdN_len hn t
theorem red_out {n : Int} (h : ¬ (0 ≤ n ∧ n ≤ 160)) (t : By) : redR n t = [] ∧ redE n t = 1 := by
  unfold redR redE gatR gatE
  rw [if_neg (fun h' => h h'.1), if_pos h]
  exact ⟨rfl, rfl⟩
set_option maxRecDepth 100000 in
set_option maxHeartbeats 16000000 in
theorem rread_any (n : Int) (t : By) (ht : t.length ≤ 1000) (w : World) : Calls Tryd.prog 24 #[.int .i64 n, .string (bs t)] w fun e w' => e = .returned (.tuple #[.string (bs (redR n t)), .int .i64 (redE n t)]) ∧ Below w.heap.size w w' := by
  by_cases hr : 0 ≤ n ∧ n ≤ 160
  · obtain ⟨m, rfl⟩ : ∃ m : Nat, n = m := ⟨n.toNat, by omega⟩
    have hm : m ≤ 160 := by omega
    have hdoc := hide (doc_read m hm t)
    obtain ⟨i0, hi, hz0, hz1, hz2⟩ := info_parts Tryd.infoI
    have hpk := hide (fun w => rtext_any m (mkL m (docN m t)) w (by unfold mkL; rw [makeP_length]; have := wid_small hm; unfold maxLen; omega))
    have hdl := docN_len hm t
    have hmk := hide (fun w a0 c hT => rmake_any m (docN m t) a0 c w hT (by omega) (by omega))
    have hT : ∀ i (h : i < t.length), (bs t)[i]'(by rw [bs_size]; exact h) = t[i] := fun i h => by simp [bs, ByteArray.getElem_eq_getElem_data]
    have HT := hide hT
    have hsz : (bs t).size = t.length := bs_size t
    have hcmp : ((bs t).toList == [45]) = decide (t = [45]) := by
      rw [ByteArray.toList_eq, bs_list]
      by_cases h : t = [45]
      · rw [decide_eq_true h, h]; rfl
      · rw [decide_eq_false h]; simpa using h
    have hmq : ¬ (160 : Int) < (m : Int) := by omega
    obtain ⟨T, hTT⟩ : ∃ T, T = bs t := ⟨_, rfl⟩
    rw [← hTT] at hsz hcmp ⊢
    have HTT := hide hTT
    have HCMP := hide hcmp
    clear hT hr hTT hdl hcmp
    have hsz' : T.size ≤ 1000 := by omega
    have HSZ := hide hsz
    have hbd := hide (fun k => rdS_bound hm (t.take k))
    have hstep : Hid (∀ k (h : k < T.size), rdS m (t.take (k + 1)) = stp m (rdS m (t.take k)) T[k]) := by
      intro k h
      have e0 : T[k] = t[k]'(by have := unhide HSZ; omega) := by
        have := unhide HT k (by have := unhide HSZ; omega)
        rw [← this]; simp only [unhide HTT]
      rw [e0, List.take_succ_eq_append_getElem (by have := unhide HSZ; omega), rdS_snoc]
    clear hsz
    go_enter Tryd.func24, Tryd.ntmps24
    go_wp2_with fail
    go_loopw [6, 7, 8, 9] (fun v lo x i wr => ∃ (k : Nat) (N : List Int) (L X : Int), k ≤ T.size + 1 ∧ i = .int .i64 k ∧ lo = .int .i64 L ∧ x = .int .i64 X ∧ OwnI wr w.heap.size v N ∧ (k ≤ T.size → rdS m (t.take k) = (N, L, X)) ∧ (k = T.size + 1 → N = rdN m t) ∧ Below w.heap.size w wr) (fun _ _ _ i _ => T.size + 1 - (intOf i).toNat)
    case atStart => exact ⟨0, [], -1, 0, by omega, rfl, rfl, rfl, World.ownsRow_nil _ _ _ _, fun _ => rfl, fun h => by omega, Below.refl _ _⟩
    case round =>
      obtain ⟨k, N, L, X, hk, rfl, rfl, rfl, hown, hS, hE, hb⟩ := hrel
      by_cases hgo : k ≤ T.size
      · have q1 : (k : Int) ≤ (T.size : Int) := by omega
        have hS' := hS hgo
        clear hS hE
        obtain ⟨n1, n2, n3⟩ := unhide hbd k
        rw [hS'] at n1 n2 n3
        simp only at n1 n2 n3
        have hN1 : N.length ≤ 160000 := by
          rw [List.length_take] at n1; omega
        have HS := hide hS'
        have HO := hide hown
        have HB := hide hb
        have hz := hb.size
        have ho2 := hown
        obtain ⟨ao, c0, rfl, _⟩ := ho2.ints
        clear ho2 hS' n1
        generalize hLN : N.length = LN at *
        have HLN := hide hLN
        have HOX : Hid (wr.ownsRow w.heap.size 3 1 (.slice ao LN c0) LN (ic N)) := by
          have h := unhide HO
          unfold OwnI at h
          rw [unhide HLN] at h
          exact h
        clear hown hb hLN
        by_cases hend : k < T.size
        · have q2 : (k : Int) < (T.size : Int) := by omega
          have hcb := T[k].toNat_lt
          by_cases hd1 : 48 ≤ T[k].toNat
          · have d1 : (48 : Int) ≤ (T[k].toNat : Int) := by omega
            by_cases hd2 : T[k].toNat ≤ 57
            · have d2 : (T[k].toNat : Int) ≤ 57 := by omega
              by_cases hx : X ≤ 160
              · have hnx : Hid (rdS m (t.take (k + 1)) = (N, L, 10 * X + (T[k].toNat : Int) - 48)) := by
                  show _ = _
                  rw [unhide hstep k hend, unhide HS]
                  unfold stp
                  rw [if_pos ⟨⟨hd1, hd2⟩, hx⟩]
                have w1 : 10 * X ≤ 2000 := by omega
                go_wp2
                go_roundw
                case rel => exact ⟨k + 1, N, L, 10 * X + (T[k].toNat : Int) - 48, by omega, by go_num, rfl, by go_num, unhide HO, fun _ => unhide hnx, fun h => by omega, unhide HB⟩
                case measure => simp [intOf]; omega
              · have hnd : Hid (¬ ((48 ≤ T[k].toNat ∧ T[k].toNat ≤ 57) ∧ X ≤ 160)) := fun h => hx h.2
                have hn45 : Hid (¬ T[k].toNat = 45) := by show ¬ _; omega
                have hne : ((T[k].toNat : Int) == 45) = false := by simp; omega
                by_cases hL : L < 0
                · have hfl : Hid (flP m L X = flN m X (flC m X X)) := by
                    show _ = _
                    unfold flP
                    rw [if_pos hL]
                  have hnx : Hid (rdS m (t.take (k + 1)) = (N ++ flN m X (flC m X X), -1, 0)) := by
                    show _ = _
                    rw [unhide hstep k hend, unhide HS]
                    unfold stp
                    rw [if_neg (unhide hnd), if_neg (unhide hn45)]
                    simp only
                    rw [unhide hfl]
                  go_wp2
                  go_loopw [6, 10] (fun v i wr2 => ∃ q : Nat, q ≤ flC m X X ∧ i = .int .i64 (X + (q : Int)) ∧ OwnI wr2 w.heap.size v (N ++ flN m X q) ∧ Below w.heap.size w wr2) (fun _ i _ => (161 - (intOf i)).toNat)
                  case atStart => exact ⟨0, Nat.zero_le _, by go_num, by rw [show flN m X 0 = [] from rfl, List.append_nil]; unfold OwnI; rw [unhide HLN]; exact unhide HOX, unhide HB⟩
                  case round =>
                    obtain ⟨q, hq, rfl, hown2, hb2⟩ := hrel
                    have hfc : flC m X X ≤ 160 := by unfold flC; omega
                    have hlq := flN_len m X q
                    have hfd : q < flC m X X ↔ (X + (q : Int) ≤ X ∧ X + (q : Int) < m) := by unfold flC; omega
                    by_cases hlt : q < flC m X X
                    · obtain ⟨s1, s2⟩ := hfd.1 hlt
                      have HSN : Hid (N ++ flN m X (q + 1) = (N ++ flN m X q) ++ [X + (q : Int)]) := by
                        show _ = _
                        rw [flN, List.append_assoc]
                      have hYb : (N ++ flN m X q).length ≤ 161000 := by rw [List.length_append, unhide HLN, hlq]; omega
                      have hzz := hb2.size
                      generalize N ++ flN m X q = Y at *
                      generalize hYL : Y.length = YL at *
                      have HYL := hide hYL
                      have hO : wr.ownsRow w.heap.size 3 1 u6 YL (ic Y) := by rw [← hYL]; exact hown2
                      obtain ⟨ao2, cap2, rfl⟩ := own_shape' hO
                      have HO2 := hide hO
                      have HB2 := hide hb2
                      clear hown2 hb2 hO hYL hfd HOX HO
                      obtain ⟨z, hz9⟩ : ∃ z, z = X + (q : Int) := ⟨_, rfl⟩
                      rw [← hz9] at HSN s1 s2 ⊢
                      have HZ := hide hz9
                      have z1 : -1 ≤ z := by omega
                      have z2 : z ≤ 3000 := by omega
                      clear hz9
                      go_wp2_with (at_builtin; refine wpList_append_own _ rfl _ _ 47 rfl w.heap.size 3 i0 (.int .i64 0) 1 8 Tryd.undI hi hz0 hz1 hz2 rfl (by decide) _ _ _ rfl ((unhide HO2).alloc _) ⟨wr.heap.size, 0, none⟩ 1 1 [.int .i64 z] rfl rfl (news_lit _ [_] _) ?d2 ?d3 ?d4 ?d5 ?_)
                      case d2 => first | rfl | (intro u hu; simp at hu; subst hu; rfl)
                      case d3 => unfold maxLen; omega
                      case d4 => omega
                      case d5 => first | omega | (simp; omega)
                      intro v' w3 hown' hgrow _
                      have hb' := hide ((((unhide HB2).alloc (by omega) _)).grown hgrow (by simp; omega) (fun k hk => (((unhide HO2).lt k hk).1)))
                      have ho2 : Hid (OwnI w3 w.heap.size v' (N ++ flN m X (q + 1))) := by
                        show World.ownsRow _ _ _ _ _ _ _
                        rw [unhide HSN, List.length_append, unhide HYL, ic_append]
                        exact hown'
                      obtain ⟨ao', cap', rfl⟩ := own_shape' hown'
                      clear hown' hgrow HO2 HB2
                      go_wp2
                      go_roundw
                      case rel => exact ⟨q + 1, by omega, by have := unhide HZ; go_num, unhide ho2, unhide hb'⟩
                      case measure => have := unhide HZ; simp [intOf]; omega
                    · have hqe : q = flC m X X := by omega
                      have hst : X + (q : Int) ≤ X → ¬ X + (q : Int) < m := fun h1 h2 => hlt (hfd.2 ⟨h1, h2⟩)
                      have HO2 := hide hown2
                      have HB2 := hide hb2
                      have HQ := hide hqe
                      obtain ⟨ao2, cap2, rfl, _⟩ := hown2.ints
                      clear hown2 hb2 hqe hfd HOX HO
                      have HNX := unhide hnx
                      rw [← unhide HQ] at HNX
                      have HNX2 := hide HNX
                      clear HNX
                      generalize N ++ flN m X q = Y at *
                      generalize Y.length = YL at *
                      obtain ⟨z, hz9⟩ : ∃ z, z = X + (q : Int) := ⟨_, rfl⟩
                      rw [← hz9] at hst ⊢
                      have z1 : -1 ≤ z := by omega
                      have z2 : z ≤ 3000 := by omega
                      clear hz9
                      have hcs : ¬ z ≤ X ∨ (z ≤ X ∧ ¬ z < (m : Int)) := by
                        by_cases h : z ≤ X
                        · exact .inr ⟨h, hst h⟩
                        · exact .inl h
                      clear hst
                      rcases hcs with p1 | ⟨p1, p2⟩
                      all_goals
                        go_wp2
                        go_roundw
                        case rel => exact ⟨k + 1, Y, -1, 0, by omega, by go_num, rfl, rfl, unhide HO2, fun _ => unhide HNX2, fun h => (by omega), unhide HB2⟩
                        case measure => simp [intOf]; omega
                · have hfl : Hid (flP m L X = flN m L (flC m L X)) := by
                    show _ = _
                    unfold flP
                    rw [if_neg hL]
                  have hnx : Hid (rdS m (t.take (k + 1)) = (N ++ flN m L (flC m L X), -1, 0)) := by
                    show _ = _
                    rw [unhide hstep k hend, unhide HS]
                    unfold stp
                    rw [if_neg (unhide hnd), if_neg (unhide hn45)]
                    simp only
                    rw [unhide hfl]
                  go_wp2
                  go_loopw [6, 10] (fun v i wr2 => ∃ q : Nat, q ≤ flC m L X ∧ i = .int .i64 (L + (q : Int)) ∧ OwnI wr2 w.heap.size v (N ++ flN m L q) ∧ Below w.heap.size w wr2) (fun _ i _ => (161 - (intOf i)).toNat)
                  case atStart => exact ⟨0, Nat.zero_le _, by go_num, by rw [show flN m L 0 = [] from rfl, List.append_nil]; unfold OwnI; rw [unhide HLN]; exact unhide HOX, unhide HB⟩
                  case round =>
                    obtain ⟨q, hq, rfl, hown2, hb2⟩ := hrel
                    have hfc : flC m L X ≤ 160 := by unfold flC; omega
                    have hlq := flN_len m L q
                    have hfd : q < flC m L X ↔ (L + (q : Int) ≤ X ∧ L + (q : Int) < m) := by unfold flC; omega
                    by_cases hlt : q < flC m L X
                    · obtain ⟨s1, s2⟩ := hfd.1 hlt
                      have HSN : Hid (N ++ flN m L (q + 1) = (N ++ flN m L q) ++ [L + (q : Int)]) := by
                        show _ = _
                        rw [flN, List.append_assoc]
                      have hYb : (N ++ flN m L q).length ≤ 161000 := by rw [List.length_append, unhide HLN, hlq]; omega
                      have hzz := hb2.size
                      generalize N ++ flN m L q = Y at *
                      generalize hYL : Y.length = YL at *
                      have HYL := hide hYL
                      have hO : wr.ownsRow w.heap.size 3 1 u6 YL (ic Y) := by rw [← hYL]; exact hown2
                      obtain ⟨ao2, cap2, rfl⟩ := own_shape' hO
                      have HO2 := hide hO
                      have HB2 := hide hb2
                      clear hown2 hb2 hO hYL hfd HOX HO
                      obtain ⟨z, hz9⟩ : ∃ z, z = L + (q : Int) := ⟨_, rfl⟩
                      rw [← hz9] at HSN s1 s2 ⊢
                      have HZ := hide hz9
                      have z1 : -1 ≤ z := by omega
                      have z2 : z ≤ 3000 := by omega
                      clear hz9
                      go_wp2_with (at_builtin; refine wpList_append_own _ rfl _ _ 47 rfl w.heap.size 3 i0 (.int .i64 0) 1 8 Tryd.undI hi hz0 hz1 hz2 rfl (by decide) _ _ _ rfl ((unhide HO2).alloc _) ⟨wr.heap.size, 0, none⟩ 1 1 [.int .i64 z] rfl rfl (news_lit _ [_] _) ?d2 ?d3 ?d4 ?d5 ?_)
                      case d2 => first | rfl | (intro u hu; simp at hu; subst hu; rfl)
                      case d3 => unfold maxLen; omega
                      case d4 => omega
                      case d5 => first | omega | (simp; omega)
                      intro v' w3 hown' hgrow _
                      have hb' := hide ((((unhide HB2).alloc (by omega) _)).grown hgrow (by simp; omega) (fun k hk => (((unhide HO2).lt k hk).1)))
                      have ho2 : Hid (OwnI w3 w.heap.size v' (N ++ flN m L (q + 1))) := by
                        show World.ownsRow _ _ _ _ _ _ _
                        rw [unhide HSN, List.length_append, unhide HYL, ic_append]
                        exact hown'
                      obtain ⟨ao', cap', rfl⟩ := own_shape' hown'
                      clear hown' hgrow HO2 HB2
                      go_wp2
                      go_roundw
                      case rel => exact ⟨q + 1, by omega, by have := unhide HZ; go_num, unhide ho2, unhide hb'⟩
                      case measure => have := unhide HZ; simp [intOf]; omega
                    · have hqe : q = flC m L X := by omega
                      have hst : L + (q : Int) ≤ X → ¬ L + (q : Int) < m := fun h1 h2 => hlt (hfd.2 ⟨h1, h2⟩)
                      have HO2 := hide hown2
                      have HB2 := hide hb2
                      have HQ := hide hqe
                      obtain ⟨ao2, cap2, rfl, _⟩ := hown2.ints
                      clear hown2 hb2 hqe hfd HOX HO
                      have HNX := unhide hnx
                      rw [← unhide HQ] at HNX
                      have HNX2 := hide HNX
                      clear HNX
                      generalize N ++ flN m L q = Y at *
                      generalize Y.length = YL at *
                      obtain ⟨z, hz9⟩ : ∃ z, z = L + (q : Int) := ⟨_, rfl⟩
                      rw [← hz9] at hst ⊢
                      have z1 : -1 ≤ z := by omega
                      have z2 : z ≤ 3000 := by omega
                      clear hz9
                      have hcs : ¬ z ≤ X ∨ (z ≤ X ∧ ¬ z < (m : Int)) := by
                        by_cases h : z ≤ X
                        · exact .inr ⟨h, hst h⟩
                        · exact .inl h
                      clear hst
                      rcases hcs with p1 | ⟨p1, p2⟩
                      all_goals
                        go_wp2
                        go_roundw
                        case rel => exact ⟨k + 1, Y, -1, 0, by omega, by go_num, rfl, rfl, unhide HO2, fun _ => unhide HNX2, fun h => (by omega), unhide HB2⟩
                        case measure => simp [intOf]; omega
            · have d2 : ¬ (T[k].toNat : Int) ≤ 57 := by omega
              have hnd : Hid (¬ ((48 ≤ T[k].toNat ∧ T[k].toNat ≤ 57) ∧ X ≤ 160)) := fun h => hd2 h.1.2
              have hn45 : Hid (¬ T[k].toNat = 45) := by show ¬ _; omega
              have hne : ((T[k].toNat : Int) == 45) = false := by simp; omega
              by_cases hL : L < 0
              · have hfl : Hid (flP m L X = flN m X (flC m X X)) := by
                  show _ = _
                  unfold flP
                  rw [if_pos hL]
                have hnx : Hid (rdS m (t.take (k + 1)) = (N ++ flN m X (flC m X X), -1, 0)) := by
                  show _ = _
                  rw [unhide hstep k hend, unhide HS]
                  unfold stp
                  rw [if_neg (unhide hnd), if_neg (unhide hn45)]
                  simp only
                  rw [unhide hfl]
                go_wp2
                go_loopw [6, 10] (fun v i wr2 => ∃ q : Nat, q ≤ flC m X X ∧ i = .int .i64 (X + (q : Int)) ∧ OwnI wr2 w.heap.size v (N ++ flN m X q) ∧ Below w.heap.size w wr2) (fun _ i _ => (161 - (intOf i)).toNat)
                case atStart => exact ⟨0, Nat.zero_le _, by go_num, by rw [show flN m X 0 = [] from rfl, List.append_nil]; unfold OwnI; rw [unhide HLN]; exact unhide HOX, unhide HB⟩
                case round =>
                  obtain ⟨q, hq, rfl, hown2, hb2⟩ := hrel
                  have hfc : flC m X X ≤ 160 := by unfold flC; omega
                  have hlq := flN_len m X q
                  have hfd : q < flC m X X ↔ (X + (q : Int) ≤ X ∧ X + (q : Int) < m) := by unfold flC; omega
                  by_cases hlt : q < flC m X X
                  · obtain ⟨s1, s2⟩ := hfd.1 hlt
                    have HSN : Hid (N ++ flN m X (q + 1) = (N ++ flN m X q) ++ [X + (q : Int)]) := by
                      show _ = _
                      rw [flN, List.append_assoc]
                    have hYb : (N ++ flN m X q).length ≤ 161000 := by rw [List.length_append, unhide HLN, hlq]; omega
                    have hzz := hb2.size
                    generalize N ++ flN m X q = Y at *
                    generalize hYL : Y.length = YL at *
                    have HYL := hide hYL
                    have hO : wr.ownsRow w.heap.size 3 1 u6 YL (ic Y) := by rw [← hYL]; exact hown2
                    obtain ⟨ao2, cap2, rfl⟩ := own_shape' hO
                    have HO2 := hide hO
                    have HB2 := hide hb2
                    clear hown2 hb2 hO hYL hfd HOX HO
                    obtain ⟨z, hz9⟩ : ∃ z, z = X + (q : Int) := ⟨_, rfl⟩
                    rw [← hz9] at HSN s1 s2 ⊢
                    have HZ := hide hz9
                    have z1 : -1 ≤ z := by omega
                    have z2 : z ≤ 3000 := by omega
                    clear hz9
                    go_wp2_with (at_builtin; refine wpList_append_own _ rfl _ _ 47 rfl w.heap.size 3 i0 (.int .i64 0) 1 8 Tryd.undI hi hz0 hz1 hz2 rfl (by decide) _ _ _ rfl ((unhide HO2).alloc _) ⟨wr.heap.size, 0, none⟩ 1 1 [.int .i64 z] rfl rfl (news_lit _ [_] _) ?d2 ?d3 ?d4 ?d5 ?_)
                    case d2 => first | rfl | (intro u hu; simp at hu; subst hu; rfl)
                    case d3 => unfold maxLen; omega
                    case d4 => omega
                    case d5 => first | omega | (simp; omega)
                    intro v' w3 hown' hgrow _
                    have hb' := hide ((((unhide HB2).alloc (by omega) _)).grown hgrow (by simp; omega) (fun k hk => (((unhide HO2).lt k hk).1)))
                    have ho2 : Hid (OwnI w3 w.heap.size v' (N ++ flN m X (q + 1))) := by
                      show World.ownsRow _ _ _ _ _ _ _
                      rw [unhide HSN, List.length_append, unhide HYL, ic_append]
                      exact hown'
                    obtain ⟨ao', cap', rfl⟩ := own_shape' hown'
                    clear hown' hgrow HO2 HB2
                    go_wp2
                    go_roundw
                    case rel => exact ⟨q + 1, by omega, by have := unhide HZ; go_num, unhide ho2, unhide hb'⟩
                    case measure => have := unhide HZ; simp [intOf]; omega
                  · have hqe : q = flC m X X := by omega
                    have hst : X + (q : Int) ≤ X → ¬ X + (q : Int) < m := fun h1 h2 => hlt (hfd.2 ⟨h1, h2⟩)
                    have HO2 := hide hown2
                    have HB2 := hide hb2
                    have HQ := hide hqe
                    obtain ⟨ao2, cap2, rfl, _⟩ := hown2.ints
                    clear hown2 hb2 hqe hfd HOX HO
                    have HNX := unhide hnx
                    rw [← unhide HQ] at HNX
                    have HNX2 := hide HNX
                    clear HNX
                    generalize N ++ flN m X q = Y at *
                    generalize Y.length = YL at *
                    obtain ⟨z, hz9⟩ : ∃ z, z = X + (q : Int) := ⟨_, rfl⟩
                    rw [← hz9] at hst ⊢
                    have z1 : -1 ≤ z := by omega
                    have z2 : z ≤ 3000 := by omega
                    clear hz9
                    have hcs : ¬ z ≤ X ∨ (z ≤ X ∧ ¬ z < (m : Int)) := by
                      by_cases h : z ≤ X
                      · exact .inr ⟨h, hst h⟩
                      · exact .inl h
                    clear hst
                    rcases hcs with p1 | ⟨p1, p2⟩
                    all_goals
                      go_wp2
                      go_roundw
                      case rel => exact ⟨k + 1, Y, -1, 0, by omega, by go_num, rfl, rfl, unhide HO2, fun _ => unhide HNX2, fun h => (by omega), unhide HB2⟩
                      case measure => simp [intOf]; omega
              · have hfl : Hid (flP m L X = flN m L (flC m L X)) := by
                  show _ = _
                  unfold flP
                  rw [if_neg hL]
                have hnx : Hid (rdS m (t.take (k + 1)) = (N ++ flN m L (flC m L X), -1, 0)) := by
                  show _ = _
                  rw [unhide hstep k hend, unhide HS]
                  unfold stp
                  rw [if_neg (unhide hnd), if_neg (unhide hn45)]
                  simp only
                  rw [unhide hfl]
                go_wp2
                go_loopw [6, 10] (fun v i wr2 => ∃ q : Nat, q ≤ flC m L X ∧ i = .int .i64 (L + (q : Int)) ∧ OwnI wr2 w.heap.size v (N ++ flN m L q) ∧ Below w.heap.size w wr2) (fun _ i _ => (161 - (intOf i)).toNat)
                case atStart => exact ⟨0, Nat.zero_le _, by go_num, by rw [show flN m L 0 = [] from rfl, List.append_nil]; unfold OwnI; rw [unhide HLN]; exact unhide HOX, unhide HB⟩
                case round =>
                  obtain ⟨q, hq, rfl, hown2, hb2⟩ := hrel
                  have hfc : flC m L X ≤ 160 := by unfold flC; omega
                  have hlq := flN_len m L q
                  have hfd : q < flC m L X ↔ (L + (q : Int) ≤ X ∧ L + (q : Int) < m) := by unfold flC; omega
                  by_cases hlt : q < flC m L X
                  · obtain ⟨s1, s2⟩ := hfd.1 hlt
                    have HSN : Hid (N ++ flN m L (q + 1) = (N ++ flN m L q) ++ [L + (q : Int)]) := by
                      show _ = _
                      rw [flN, List.append_assoc]
                    have hYb : (N ++ flN m L q).length ≤ 161000 := by rw [List.length_append, unhide HLN, hlq]; omega
                    have hzz := hb2.size
                    generalize N ++ flN m L q = Y at *
                    generalize hYL : Y.length = YL at *
                    have HYL := hide hYL
                    have hO : wr.ownsRow w.heap.size 3 1 u6 YL (ic Y) := by rw [← hYL]; exact hown2
                    obtain ⟨ao2, cap2, rfl⟩ := own_shape' hO
                    have HO2 := hide hO
                    have HB2 := hide hb2
                    clear hown2 hb2 hO hYL hfd HOX HO
                    obtain ⟨z, hz9⟩ : ∃ z, z = L + (q : Int) := ⟨_, rfl⟩
                    rw [← hz9] at HSN s1 s2 ⊢
                    have HZ := hide hz9
                    have z1 : -1 ≤ z := by omega
                    have z2 : z ≤ 3000 := by omega
                    clear hz9
                    go_wp2_with (at_builtin; refine wpList_append_own _ rfl _ _ 47 rfl w.heap.size 3 i0 (.int .i64 0) 1 8 Tryd.undI hi hz0 hz1 hz2 rfl (by decide) _ _ _ rfl ((unhide HO2).alloc _) ⟨wr.heap.size, 0, none⟩ 1 1 [.int .i64 z] rfl rfl (news_lit _ [_] _) ?d2 ?d3 ?d4 ?d5 ?_)
                    case d2 => first | rfl | (intro u hu; simp at hu; subst hu; rfl)
                    case d3 => unfold maxLen; omega
                    case d4 => omega
                    case d5 => first | omega | (simp; omega)
                    intro v' w3 hown' hgrow _
                    have hb' := hide ((((unhide HB2).alloc (by omega) _)).grown hgrow (by simp; omega) (fun k hk => (((unhide HO2).lt k hk).1)))
                    have ho2 : Hid (OwnI w3 w.heap.size v' (N ++ flN m L (q + 1))) := by
                      show World.ownsRow _ _ _ _ _ _ _
                      rw [unhide HSN, List.length_append, unhide HYL, ic_append]
                      exact hown'
                    obtain ⟨ao', cap', rfl⟩ := own_shape' hown'
                    clear hown' hgrow HO2 HB2
                    go_wp2
                    go_roundw
                    case rel => exact ⟨q + 1, by omega, by have := unhide HZ; go_num, unhide ho2, unhide hb'⟩
                    case measure => have := unhide HZ; simp [intOf]; omega
                  · have hqe : q = flC m L X := by omega
                    have hst : L + (q : Int) ≤ X → ¬ L + (q : Int) < m := fun h1 h2 => hlt (hfd.2 ⟨h1, h2⟩)
                    have HO2 := hide hown2
                    have HB2 := hide hb2
                    have HQ := hide hqe
                    obtain ⟨ao2, cap2, rfl, _⟩ := hown2.ints
                    clear hown2 hb2 hqe hfd HOX HO
                    have HNX := unhide hnx
                    rw [← unhide HQ] at HNX
                    have HNX2 := hide HNX
                    clear HNX
                    generalize N ++ flN m L q = Y at *
                    generalize Y.length = YL at *
                    obtain ⟨z, hz9⟩ : ∃ z, z = L + (q : Int) := ⟨_, rfl⟩
                    rw [← hz9] at hst ⊢
                    have z1 : -1 ≤ z := by omega
                    have z2 : z ≤ 3000 := by omega
                    clear hz9
                    have hcs : ¬ z ≤ X ∨ (z ≤ X ∧ ¬ z < (m : Int)) := by
                      by_cases h : z ≤ X
                      · exact .inr ⟨h, hst h⟩
                      · exact .inl h
                    clear hst
                    rcases hcs with p1 | ⟨p1, p2⟩
                    all_goals
                      go_wp2
                      go_roundw
                      case rel => exact ⟨k + 1, Y, -1, 0, by omega, by go_num, rfl, rfl, unhide HO2, fun _ => unhide HNX2, fun h => (by omega), unhide HB2⟩
                      case measure => simp [intOf]; omega
          · have d1 : ¬ (48 : Int) ≤ (T[k].toNat : Int) := by omega
            have hnd : Hid (¬ ((48 ≤ T[k].toNat ∧ T[k].toNat ≤ 57) ∧ X ≤ 160)) := fun h => hd1 h.1.1
            by_cases h45 : T[k].toNat = 45
            · have hnx : Hid (rdS m (t.take (k + 1)) = (N, X, 0)) := by
                show _ = _
                rw [unhide hstep k hend, unhide HS]
                unfold stp
                rw [if_neg (unhide hnd), if_pos h45]
              have heq : ((T[k].toNat : Int) == 45) = true := by simp; omega
              go_wp2
              go_roundw
              case rel => exact ⟨k + 1, N, X, 0, by omega, by go_num, rfl, rfl, unhide HO, fun _ => unhide hnx, fun h => by omega, unhide HB⟩
              case measure => simp [intOf]; omega
            · have hn45 : Hid (¬ T[k].toNat = 45) := h45
              have hne : ((T[k].toNat : Int) == 45) = false := by simp; omega
              by_cases hL : L < 0
              · have hfl : Hid (flP m L X = flN m X (flC m X X)) := by
                  show _ = _
                  unfold flP
                  rw [if_pos hL]
                have hnx : Hid (rdS m (t.take (k + 1)) = (N ++ flN m X (flC m X X), -1, 0)) := by
                  show _ = _
                  rw [unhide hstep k hend, unhide HS]
                  unfold stp
                  rw [if_neg (unhide hnd), if_neg (unhide hn45)]
                  simp only
                  rw [unhide hfl]
                go_wp2
                go_loopw [6, 10] (fun v i wr2 => ∃ q : Nat, q ≤ flC m X X ∧ i = .int .i64 (X + (q : Int)) ∧ OwnI wr2 w.heap.size v (N ++ flN m X q) ∧ Below w.heap.size w wr2) (fun _ i _ => (161 - (intOf i)).toNat)
                case atStart => exact ⟨0, Nat.zero_le _, by go_num, by rw [show flN m X 0 = [] from rfl, List.append_nil]; unfold OwnI; rw [unhide HLN]; exact unhide HOX, unhide HB⟩
                case round =>
                  obtain ⟨q, hq, rfl, hown2, hb2⟩ := hrel
                  have hfc : flC m X X ≤ 160 := by unfold flC; omega
                  have hlq := flN_len m X q
                  have hfd : q < flC m X X ↔ (X + (q : Int) ≤ X ∧ X + (q : Int) < m) := by unfold flC; omega
                  by_cases hlt : q < flC m X X
                  · obtain ⟨s1, s2⟩ := hfd.1 hlt
                    have HSN : Hid (N ++ flN m X (q + 1) = (N ++ flN m X q) ++ [X + (q : Int)]) := by
                      show _ = _
                      rw [flN, List.append_assoc]
                    have hYb : (N ++ flN m X q).length ≤ 161000 := by rw [List.length_append, unhide HLN, hlq]; omega
                    have hzz := hb2.size
                    generalize N ++ flN m X q = Y at *
                    generalize hYL : Y.length = YL at *
                    have HYL := hide hYL
                    have hO : wr.ownsRow w.heap.size 3 1 u6 YL (ic Y) := by rw [← hYL]; exact hown2
                    obtain ⟨ao2, cap2, rfl⟩ := own_shape' hO
                    have HO2 := hide hO
                    have HB2 := hide hb2
                    clear hown2 hb2 hO hYL hfd HOX HO
                    obtain ⟨z, hz9⟩ : ∃ z, z = X + (q : Int) := ⟨_, rfl⟩
                    rw [← hz9] at HSN s1 s2 ⊢
                    have HZ := hide hz9
                    have z1 : -1 ≤ z := by omega
                    have z2 : z ≤ 3000 := by omega
                    clear hz9
                    go_wp2_with (at_builtin; refine wpList_append_own _ rfl _ _ 47 rfl w.heap.size 3 i0 (.int .i64 0) 1 8 Tryd.undI hi hz0 hz1 hz2 rfl (by decide) _ _ _ rfl ((unhide HO2).alloc _) ⟨wr.heap.size, 0, none⟩ 1 1 [.int .i64 z] rfl rfl (news_lit _ [_] _) ?d2 ?d3 ?d4 ?d5 ?_)
                    case d2 => first | rfl | (intro u hu; simp at hu; subst hu; rfl)
                    case d3 => unfold maxLen; omega
                    case d4 => omega
                    case d5 => first | omega | (simp; omega)
                    intro v' w3 hown' hgrow _
                    have hb' := hide ((((unhide HB2).alloc (by omega) _)).grown hgrow (by simp; omega) (fun k hk => (((unhide HO2).lt k hk).1)))
                    have ho2 : Hid (OwnI w3 w.heap.size v' (N ++ flN m X (q + 1))) := by
                      show World.ownsRow _ _ _ _ _ _ _
                      rw [unhide HSN, List.length_append, unhide HYL, ic_append]
                      exact hown'
                    obtain ⟨ao', cap', rfl⟩ := own_shape' hown'
                    clear hown' hgrow HO2 HB2
                    go_wp2
                    go_roundw
                    case rel => exact ⟨q + 1, by omega, by have := unhide HZ; go_num, unhide ho2, unhide hb'⟩
                    case measure => have := unhide HZ; simp [intOf]; omega
                  · have hqe : q = flC m X X := by omega
                    have hst : X + (q : Int) ≤ X → ¬ X + (q : Int) < m := fun h1 h2 => hlt (hfd.2 ⟨h1, h2⟩)
                    have HO2 := hide hown2
                    have HB2 := hide hb2
                    have HQ := hide hqe
                    obtain ⟨ao2, cap2, rfl, _⟩ := hown2.ints
                    clear hown2 hb2 hqe hfd HOX HO
                    have HNX := unhide hnx
                    rw [← unhide HQ] at HNX
                    have HNX2 := hide HNX
                    clear HNX
                    generalize N ++ flN m X q = Y at *
                    generalize Y.length = YL at *
                    obtain ⟨z, hz9⟩ : ∃ z, z = X + (q : Int) := ⟨_, rfl⟩
                    rw [← hz9] at hst ⊢
                    have z1 : -1 ≤ z := by omega
                    have z2 : z ≤ 3000 := by omega
                    clear hz9
                    have hcs : ¬ z ≤ X ∨ (z ≤ X ∧ ¬ z < (m : Int)) := by
                      by_cases h : z ≤ X
                      · exact .inr ⟨h, hst h⟩
                      · exact .inl h
                    clear hst
                    rcases hcs with p1 | ⟨p1, p2⟩
                    all_goals
                      go_wp2
                      go_roundw
                      case rel => exact ⟨k + 1, Y, -1, 0, by omega, by go_num, rfl, rfl, unhide HO2, fun _ => unhide HNX2, fun h => (by omega), unhide HB2⟩
                      case measure => simp [intOf]; omega
              · have hfl : Hid (flP m L X = flN m L (flC m L X)) := by
                  show _ = _
                  unfold flP
                  rw [if_neg hL]
                have hnx : Hid (rdS m (t.take (k + 1)) = (N ++ flN m L (flC m L X), -1, 0)) := by
                  show _ = _
                  rw [unhide hstep k hend, unhide HS]
                  unfold stp
                  rw [if_neg (unhide hnd), if_neg (unhide hn45)]
                  simp only
                  rw [unhide hfl]
                go_wp2
                go_loopw [6, 10] (fun v i wr2 => ∃ q : Nat, q ≤ flC m L X ∧ i = .int .i64 (L + (q : Int)) ∧ OwnI wr2 w.heap.size v (N ++ flN m L q) ∧ Below w.heap.size w wr2) (fun _ i _ => (161 - (intOf i)).toNat)
                case atStart => exact ⟨0, Nat.zero_le _, by go_num, by rw [show flN m L 0 = [] from rfl, List.append_nil]; unfold OwnI; rw [unhide HLN]; exact unhide HOX, unhide HB⟩
                case round =>
                  obtain ⟨q, hq, rfl, hown2, hb2⟩ := hrel
                  have hfc : flC m L X ≤ 160 := by unfold flC; omega
                  have hlq := flN_len m L q
                  have hfd : q < flC m L X ↔ (L + (q : Int) ≤ X ∧ L + (q : Int) < m) := by unfold flC; omega
                  by_cases hlt : q < flC m L X
                  · obtain ⟨s1, s2⟩ := hfd.1 hlt
                    have HSN : Hid (N ++ flN m L (q + 1) = (N ++ flN m L q) ++ [L + (q : Int)]) := by
                      show _ = _
                      rw [flN, List.append_assoc]
                    have hYb : (N ++ flN m L q).length ≤ 161000 := by rw [List.length_append, unhide HLN, hlq]; omega
                    have hzz := hb2.size
                    generalize N ++ flN m L q = Y at *
                    generalize hYL : Y.length = YL at *
                    have HYL := hide hYL
                    have hO : wr.ownsRow w.heap.size 3 1 u6 YL (ic Y) := by rw [← hYL]; exact hown2
                    obtain ⟨ao2, cap2, rfl⟩ := own_shape' hO
                    have HO2 := hide hO
                    have HB2 := hide hb2
                    clear hown2 hb2 hO hYL hfd HOX HO
                    obtain ⟨z, hz9⟩ : ∃ z, z = L + (q : Int) := ⟨_, rfl⟩
                    rw [← hz9] at HSN s1 s2 ⊢
                    have HZ := hide hz9
                    have z1 : -1 ≤ z := by omega
                    have z2 : z ≤ 3000 := by omega
                    clear hz9
                    go_wp2_with (at_builtin; refine wpList_append_own _ rfl _ _ 47 rfl w.heap.size 3 i0 (.int .i64 0) 1 8 Tryd.undI hi hz0 hz1 hz2 rfl (by decide) _ _ _ rfl ((unhide HO2).alloc _) ⟨wr.heap.size, 0, none⟩ 1 1 [.int .i64 z] rfl rfl (news_lit _ [_] _) ?d2 ?d3 ?d4 ?d5 ?_)
                    case d2 => first | rfl | (intro u hu; simp at hu; subst hu; rfl)
                    case d3 => unfold maxLen; omega
                    case d4 => omega
                    case d5 => first | omega | (simp; omega)
                    intro v' w3 hown' hgrow _
                    have hb' := hide ((((unhide HB2).alloc (by omega) _)).grown hgrow (by simp; omega) (fun k hk => (((unhide HO2).lt k hk).1)))
                    have ho2 : Hid (OwnI w3 w.heap.size v' (N ++ flN m L (q + 1))) := by
                      show World.ownsRow _ _ _ _ _ _ _
                      rw [unhide HSN, List.length_append, unhide HYL, ic_append]
                      exact hown'
                    obtain ⟨ao', cap', rfl⟩ := own_shape' hown'
                    clear hown' hgrow HO2 HB2
                    go_wp2
                    go_roundw
                    case rel => exact ⟨q + 1, by omega, by have := unhide HZ; go_num, unhide ho2, unhide hb'⟩
                    case measure => have := unhide HZ; simp [intOf]; omega
                  · have hqe : q = flC m L X := by omega
                    have hst : L + (q : Int) ≤ X → ¬ L + (q : Int) < m := fun h1 h2 => hlt (hfd.2 ⟨h1, h2⟩)
                    have HO2 := hide hown2
                    have HB2 := hide hb2
                    have HQ := hide hqe
                    obtain ⟨ao2, cap2, rfl, _⟩ := hown2.ints
                    clear hown2 hb2 hqe hfd HOX HO
                    have HNX := unhide hnx
                    rw [← unhide HQ] at HNX
                    have HNX2 := hide HNX
                    clear HNX
                    generalize N ++ flN m L q = Y at *
                    generalize Y.length = YL at *
                    obtain ⟨z, hz9⟩ : ∃ z, z = L + (q : Int) := ⟨_, rfl⟩
                    rw [← hz9] at hst ⊢
                    have z1 : -1 ≤ z := by omega
                    have z2 : z ≤ 3000 := by omega
                    clear hz9
                    have hcs : ¬ z ≤ X ∨ (z ≤ X ∧ ¬ z < (m : Int)) := by
                      by_cases h : z ≤ X
                      · exact .inr ⟨h, hst h⟩
                      · exact .inl h
                    clear hst
                    rcases hcs with p1 | ⟨p1, p2⟩
                    all_goals
                      go_wp2
                      go_roundw
                      case rel => exact ⟨k + 1, Y, -1, 0, by omega, by go_num, rfl, rfl, unhide HO2, fun _ => unhide HNX2, fun h => (by omega), unhide HB2⟩
                      case measure => simp [intOf]; omega
        · have q2 : ¬ (k : Int) < (T.size : Int) := by omega
          by_cases hL : L < 0
          · have hfl : Hid (flP m L X = flN m X (flC m X X)) := by
              show _ = _
              unfold flP
              rw [if_pos hL]
            have hnx : Hid (rdN m t = N ++ flN m X (flC m X X)) := by
              show _ = _
              have h := unhide HS
              rw [show t.take k = t from List.take_of_length_le (by have := unhide HSZ; omega)] at h
              unfold rdN
              rw [h]
              show N ++ flP m L X = _
              rw [unhide hfl]
            go_wp2
            go_loopw [6, 10] (fun v i wr2 => ∃ q : Nat, q ≤ flC m X X ∧ i = .int .i64 (X + (q : Int)) ∧ OwnI wr2 w.heap.size v (N ++ flN m X q) ∧ Below w.heap.size w wr2) (fun _ i _ => (161 - (intOf i)).toNat)
            case atStart => exact ⟨0, Nat.zero_le _, by go_num, by rw [show flN m X 0 = [] from rfl, List.append_nil]; unfold OwnI; rw [unhide HLN]; exact unhide HOX, unhide HB⟩
            case round =>
              obtain ⟨q, hq, rfl, hown2, hb2⟩ := hrel
              have hfc : flC m X X ≤ 160 := by unfold flC; omega
              have hlq := flN_len m X q
              have hfd : q < flC m X X ↔ (X + (q : Int) ≤ X ∧ X + (q : Int) < m) := by unfold flC; omega
              by_cases hlt : q < flC m X X
              · obtain ⟨s1, s2⟩ := hfd.1 hlt
                have HSN : Hid (N ++ flN m X (q + 1) = (N ++ flN m X q) ++ [X + (q : Int)]) := by
                  show _ = _
                  rw [flN, List.append_assoc]
                have hYb : (N ++ flN m X q).length ≤ 161000 := by rw [List.length_append, unhide HLN, hlq]; omega
                have hzz := hb2.size
                generalize N ++ flN m X q = Y at *
                generalize hYL : Y.length = YL at *
                have HYL := hide hYL
                have hO : wr.ownsRow w.heap.size 3 1 u6 YL (ic Y) := by rw [← hYL]; exact hown2
                obtain ⟨ao2, cap2, rfl⟩ := own_shape' hO
                have HO2 := hide hO
                have HB2 := hide hb2
                clear hown2 hb2 hO hYL hfd HOX HO
                obtain ⟨z, hz9⟩ : ∃ z, z = X + (q : Int) := ⟨_, rfl⟩
                rw [← hz9] at HSN s1 s2 ⊢
                have HZ := hide hz9
                have z1 : -1 ≤ z := by omega
                have z2 : z ≤ 3000 := by omega
                clear hz9
                go_wp2_with (at_builtin; refine wpList_append_own _ rfl _ _ 47 rfl w.heap.size 3 i0 (.int .i64 0) 1 8 Tryd.undI hi hz0 hz1 hz2 rfl (by decide) _ _ _ rfl ((unhide HO2).alloc _) ⟨wr.heap.size, 0, none⟩ 1 1 [.int .i64 z] rfl rfl (news_lit _ [_] _) ?d2 ?d3 ?d4 ?d5 ?_)
                case d2 => first | rfl | (intro u hu; simp at hu; subst hu; rfl)
                case d3 => unfold maxLen; omega
                case d4 => omega
                case d5 => first | omega | (simp; omega)
                intro v' w3 hown' hgrow _
                have hb' := hide ((((unhide HB2).alloc (by omega) _)).grown hgrow (by simp; omega) (fun k hk => (((unhide HO2).lt k hk).1)))
                have ho2 : Hid (OwnI w3 w.heap.size v' (N ++ flN m X (q + 1))) := by
                  show World.ownsRow _ _ _ _ _ _ _
                  rw [unhide HSN, List.length_append, unhide HYL, ic_append]
                  exact hown'
                obtain ⟨ao', cap', rfl⟩ := own_shape' hown'
                clear hown' hgrow HO2 HB2
                go_wp2
                go_roundw
                case rel => exact ⟨q + 1, by omega, by have := unhide HZ; go_num, unhide ho2, unhide hb'⟩
                case measure => have := unhide HZ; simp [intOf]; omega
              · have hqe : q = flC m X X := by omega
                have hst : X + (q : Int) ≤ X → ¬ X + (q : Int) < m := fun h1 h2 => hlt (hfd.2 ⟨h1, h2⟩)
                have HO2 := hide hown2
                have HB2 := hide hb2
                have HQ := hide hqe
                obtain ⟨ao2, cap2, rfl, _⟩ := hown2.ints
                clear hown2 hb2 hqe hfd HOX HO
                have HNX := unhide hnx
                rw [← unhide HQ] at HNX
                have HNX2 := hide HNX
                clear HNX
                generalize N ++ flN m X q = Y at *
                generalize Y.length = YL at *
                obtain ⟨z, hz9⟩ : ∃ z, z = X + (q : Int) := ⟨_, rfl⟩
                rw [← hz9] at hst ⊢
                have z1 : -1 ≤ z := by omega
                have z2 : z ≤ 3000 := by omega
                clear hz9
                have hcs : ¬ z ≤ X ∨ (z ≤ X ∧ ¬ z < (m : Int)) := by
                  by_cases h : z ≤ X
                  · exact .inr ⟨h, hst h⟩
                  · exact .inl h
                clear hst
                rcases hcs with p1 | ⟨p1, p2⟩
                all_goals
                  go_wp2
                  go_roundw
                  case rel => exact ⟨k + 1, Y, -1, 0, by omega, by go_num, rfl, rfl, unhide HO2, fun h => (by omega), fun _ => (unhide HNX2).symm, unhide HB2⟩
                  case measure => simp [intOf]; omega
          · have hfl : Hid (flP m L X = flN m L (flC m L X)) := by
              show _ = _
              unfold flP
              rw [if_neg hL]
            have hnx : Hid (rdN m t = N ++ flN m L (flC m L X)) := by
              show _ = _
              have h := unhide HS
              rw [show t.take k = t from List.take_of_length_le (by have := unhide HSZ; omega)] at h
              unfold rdN
              rw [h]
              show N ++ flP m L X = _
              rw [unhide hfl]
            go_wp2
            go_loopw [6, 10] (fun v i wr2 => ∃ q : Nat, q ≤ flC m L X ∧ i = .int .i64 (L + (q : Int)) ∧ OwnI wr2 w.heap.size v (N ++ flN m L q) ∧ Below w.heap.size w wr2) (fun _ i _ => (161 - (intOf i)).toNat)
            case atStart => exact ⟨0, Nat.zero_le _, by go_num, by rw [show flN m L 0 = [] from rfl, List.append_nil]; unfold OwnI; rw [unhide HLN]; exact unhide HOX, unhide HB⟩
            case round =>
              obtain ⟨q, hq, rfl, hown2, hb2⟩ := hrel
              have hfc : flC m L X ≤ 160 := by unfold flC; omega
              have hlq := flN_len m L q
              have hfd : q < flC m L X ↔ (L + (q : Int) ≤ X ∧ L + (q : Int) < m) := by unfold flC; omega
              by_cases hlt : q < flC m L X
              · obtain ⟨s1, s2⟩ := hfd.1 hlt
                have HSN : Hid (N ++ flN m L (q + 1) = (N ++ flN m L q) ++ [L + (q : Int)]) := by
                  show _ = _
                  rw [flN, List.append_assoc]
                have hYb : (N ++ flN m L q).length ≤ 161000 := by rw [List.length_append, unhide HLN, hlq]; omega
                have hzz := hb2.size
                generalize N ++ flN m L q = Y at *
                generalize hYL : Y.length = YL at *
                have HYL := hide hYL
                have hO : wr.ownsRow w.heap.size 3 1 u6 YL (ic Y) := by rw [← hYL]; exact hown2
                obtain ⟨ao2, cap2, rfl⟩ := own_shape' hO
                have HO2 := hide hO
                have HB2 := hide hb2
                clear hown2 hb2 hO hYL hfd HOX HO
                obtain ⟨z, hz9⟩ : ∃ z, z = L + (q : Int) := ⟨_, rfl⟩
                rw [← hz9] at HSN s1 s2 ⊢
                have HZ := hide hz9
                have z1 : -1 ≤ z := by omega
                have z2 : z ≤ 3000 := by omega
                clear hz9
                go_wp2_with (at_builtin; refine wpList_append_own _ rfl _ _ 47 rfl w.heap.size 3 i0 (.int .i64 0) 1 8 Tryd.undI hi hz0 hz1 hz2 rfl (by decide) _ _ _ rfl ((unhide HO2).alloc _) ⟨wr.heap.size, 0, none⟩ 1 1 [.int .i64 z] rfl rfl (news_lit _ [_] _) ?d2 ?d3 ?d4 ?d5 ?_)
                case d2 => first | rfl | (intro u hu; simp at hu; subst hu; rfl)
                case d3 => unfold maxLen; omega
                case d4 => omega
                case d5 => first | omega | (simp; omega)
                intro v' w3 hown' hgrow _
                have hb' := hide ((((unhide HB2).alloc (by omega) _)).grown hgrow (by simp; omega) (fun k hk => (((unhide HO2).lt k hk).1)))
                have ho2 : Hid (OwnI w3 w.heap.size v' (N ++ flN m L (q + 1))) := by
                  show World.ownsRow _ _ _ _ _ _ _
                  rw [unhide HSN, List.length_append, unhide HYL, ic_append]
                  exact hown'
                obtain ⟨ao', cap', rfl⟩ := own_shape' hown'
                clear hown' hgrow HO2 HB2
                go_wp2
                go_roundw
                case rel => exact ⟨q + 1, by omega, by have := unhide HZ; go_num, unhide ho2, unhide hb'⟩
                case measure => have := unhide HZ; simp [intOf]; omega
              · have hqe : q = flC m L X := by omega
                have hst : L + (q : Int) ≤ X → ¬ L + (q : Int) < m := fun h1 h2 => hlt (hfd.2 ⟨h1, h2⟩)
                have HO2 := hide hown2
                have HB2 := hide hb2
                have HQ := hide hqe
                obtain ⟨ao2, cap2, rfl, _⟩ := hown2.ints
                clear hown2 hb2 hqe hfd HOX HO
                have HNX := unhide hnx
                rw [← unhide HQ] at HNX
                have HNX2 := hide HNX
                clear HNX
                generalize N ++ flN m L q = Y at *
                generalize Y.length = YL at *
                obtain ⟨z, hz9⟩ : ∃ z, z = L + (q : Int) := ⟨_, rfl⟩
                rw [← hz9] at hst ⊢
                have z1 : -1 ≤ z := by omega
                have z2 : z ≤ 3000 := by omega
                clear hz9
                have hcs : ¬ z ≤ X ∨ (z ≤ X ∧ ¬ z < (m : Int)) := by
                  by_cases h : z ≤ X
                  · exact .inr ⟨h, hst h⟩
                  · exact .inl h
                clear hst
                rcases hcs with p1 | ⟨p1, p2⟩
                all_goals
                  go_wp2
                  go_roundw
                  case rel => exact ⟨k + 1, Y, -1, 0, by omega, by go_num, rfl, rfl, unhide HO2, fun h => (by omega), fun _ => (unhide HNX2).symm, unhide HB2⟩
                  case measure => simp [intOf]; omega
      · have hke : k = T.size + 1 := by omega
        have q1 : ¬ (k : Int) ≤ (T.size : Int) := by omega
        have hNN := hE hke
        subst hNN
        clear hS hE hgo hke
        have HB := hide hb
        have hNl : (rdN m t).length ≤ 100000 := by have := rdN_len hm t; omega
        obtain ⟨a1, c1, rfl, hT1, _, _⟩ := hown.ints
        have HT1 := hide hT1
        clear hT1 hown hb
        obtain ⟨S, hS⟩ : ∃ S, S = mkL m (docN m t) := ⟨_, rfl⟩
        rw [← hS] at hmk hpk hdoc
        have hres : Hid ((((bs (textR m S)).toList == T.toList) = true ∧ bs (redR m t) = bs S ∧ redE m t = 0) ∨ (((bs (textR m S)).toList == T.toList) = false ∧ bs (redR m t) = ⟨#[]⟩ ∧ redE m t = 3)) := by
          show _ ∨ _
          rw [unhide HTT, ByteArray.toList_eq, ByteArray.toList_eq, bs_list, bs_list]
          rcases unhide hdoc with ⟨d1, d2, d3⟩ | ⟨d1, d2, d3⟩
          · exact .inl ⟨by rw [d1]; simp, by unfold redR; rw [d2], d3⟩
          · exact .inr ⟨by simpa using d1, by unfold redR; rw [d2]; rfl, d3⟩
        have hof : ofsE m S = ofsE m S := rfl
        clear hdoc hof
        generalize ofsE m S = PE at *
        generalize bs (textR m S) = UU at *
        generalize bs S = SS at *
        have hcc := unhide HCMP
        clear hS
        by_cases h45 : t = [45]
        · rw [decide_eq_true h45] at hcc
          have hdn : docN m t = [] := by unfold docN; rw [if_pos h45]
          have HMK := hide (fun w => unhide hmk w none 0 (by rw [hdn]; intro i hi; simp at hi))
          rw [hdn, show ([] : List Int).length = 0 from rfl] at HMK
          clear hmk hdn
          generalize (rdN m t).length = LL at *
          go_wp2_with fail
          refine (unhide HMK _).mono ?_
          rintro e1 w1 ⟨rfl, b1⟩
          have B1 := hide ((unhide HB).trans (b1.mono (unhide HB).size))
          clear b1
          go_wp2_with fail
          refine (unhide hpk _).mono ?_
          rintro e2 w2 ⟨rfl, b2⟩
          have B2 := hide ((unhide B1).trans (b2.mono (unhide B1).size))
          clear b2 B1
          rcases unhide hres with ⟨d1, d2, d3⟩ | ⟨d1, d2, d3⟩
          all_goals
            have D2 := hide d2
            have D3 := hide d3
            clear d2 d3
            go_wp2
            go_ret2
            exact ⟨by rw [unhide D2, unhide D3]; rfl, unhide B2⟩
        · rw [decide_eq_false h45] at hcc
          have hdn : docN m t = rdN m t := by unfold docN; rw [if_neg h45]
          rw [hdn] at hmk
          have HMK := hide (fun w hT => unhide hmk w a1 c1 hT)
          clear hmk hdn
          generalize (rdN m t).length = LL at *
          go_wp2_with fail
          refine (unhide HMK _ (unhide HT1)).mono ?_
          rintro e1 w1 ⟨rfl, b1⟩
          have B1 := hide ((unhide HB).trans (b1.mono (unhide HB).size))
          clear b1
          go_wp2_with fail
          refine (unhide hpk _).mono ?_
          rintro e2 w2 ⟨rfl, b2⟩
          have B2 := hide ((unhide B1).trans (b2.mono (unhide B1).size))
          clear b2 B1
          rcases unhide hres with ⟨d1, d2, d3⟩ | ⟨d1, d2, d3⟩
          all_goals
            have D2 := hide d2
            have D3 := hide d3
            clear d2 d3
            go_wp2
            go_ret2
            exact ⟨by rw [unhide D2, unhide D3]; rfl, unhide B2⟩
  · have hr1 := red_out hr t
    rw [hr1.1, hr1.2, show bs [] = (⟨#[]⟩ : ByteArray) from rfl]
    clear hr1
    generalize bs t = T at *
    have q : n < 0 ∨ (¬ n < 0 ∧ 160 < n) := by omega
    clear hr
    go_enter Tryd.func24, Tryd.ntmps24
    rcases q with q | ⟨q, q'⟩
    · go_wp2
      go_ret2
      exact ⟨rfl, Below.refl _ _⟩
    · go_wp2
      go_ret2
      exact ⟨rfl, Below.refl _ _⟩
end Go.Proofs.YtbodklppgcloiaaDoor

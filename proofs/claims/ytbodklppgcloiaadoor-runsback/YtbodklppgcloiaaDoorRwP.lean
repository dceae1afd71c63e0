/- Spans that are the runs of a set are its runs: in pure terms. -/
import Derived.Test.YtbodklppgcloiaaDoorRwB
namespace Go.Proofs.YtbodklppgcloiaaDoor
set_option linter.unusedVariables false

/-- a number lies in one of these spans -/
def covB (l : List (Int × Int)) (i : Int) : Bool := l.any fun x => decide (x.1 ≤ i) && decide (i < x.2)
theorem covB_iff {l : List (Int × Int)} {i : Int} : covB l i = true ↔ ∃ (k : Nat) (x : Int × Int), l[k]? = some x ∧ x.1 ≤ i ∧ i < x.2 := by
  unfold covB
  rw [List.any_eq_true]
  constructor
  · rintro ⟨x, hx, h⟩
    rw [Bool.and_eq_true, decide_eq_true_iff, decide_eq_true_iff] at h
    obtain ⟨k, hk⟩ := List.getElem?_of_mem hx
    exact ⟨k, x, hk, h⟩
  · rintro ⟨k, x, hk, h⟩
    refine ⟨x, List.mem_of_getElem? hk, ?_⟩
    rw [Bool.and_eq_true, decide_eq_true_iff, decide_eq_true_iff]
    exact h
theorem gEnd_at {l : List (Int × Int)} {k : Nat} {x : Int × Int} (h : l[k]? = some x) : gEnd (l.take (k + 1)) = x.2 := by
  obtain ⟨hk, rfl⟩ := List.getElem?_eq_some_iff.1 h
  rw [List.take_succ_eq_append_getElem hk, gEnd_snoc]
theorem gEnd_mono {n : Int} {l : List (Int × Int)} (h : gOk n l) {j k : Nat} (hjk : j ≤ k) (hk : k ≤ l.length) : gEnd (l.take j) ≤ gEnd (l.take k) := by
  induction k with
  | zero => rw [show j = 0 by omega]; exact Int.le_refl _
  | succ k ih =>
    rcases Nat.lt_or_ge k j with h' | h'
    · rw [show j = k + 1 by omega]; exact Int.le_refl _
    · have h1 := ih h' (by omega)
      have hx : l[k]? = some l[k] := List.getElem?_eq_getElem (by omega)
      have h2 := gNext_iff.1 (h k _ hx)
      rw [gEnd_at hx]
      omega
theorem cov_no {n : Int} {l : List (Int × Int)} (h : gOk n l) {j : Nat} (hj : j ≤ l.length) {q : Int} (h1 : gEnd (l.take j) ≤ q) (h2 : ∀ x, l[j]? = some x → q < x.1) : covB l q = false := by
  cases hc : covB l q with
  | false => rfl
  | true =>
    obtain ⟨k, x, hk, h3, h4⟩ := covB_iff.1 hc
    have hkl : k < l.length := (List.getElem?_eq_some_iff.1 hk).1
    have h5 := gNext_iff.1 (h k x hk)
    rcases Nat.lt_or_ge k j with h' | h'
    · have := gEnd_mono h (j := k + 1) (k := j) (by omega) hj
      rw [gEnd_at hk] at this
      omega
    · rcases Nat.eq_or_lt_of_le h' with h6 | h6
      · subst h6
        have := h2 x hk
        omega
      · have hy : l[j]? = some l[j] := List.getElem?_eq_getElem (by omega)
        have h7 := h2 _ hy
        have h8 := gNext_iff.1 (h j _ hy)
        have := gEnd_mono h (j := j + 1) (k := k) (by omega) (by omega)
        rw [gEnd_at hy] at this
        omega
theorem rl_skip (s : By) (p d : Nat) (h0 : (rl s p).2 = p) (h : ∀ j, p ≤ j → j < p + d → bitAt s j = false) : rl s (p + d) = ((rl s p).1, p + d) := by
  induction d with
  | zero => exact Prod.ext rfl h0
  | succ d ih =>
    have h1 := ih (fun j h1 h2 => h j h1 (by omega))
    rw [← Nat.add_assoc, rl_gap (h _ (by omega) (by omega)) (by rw [h1]; simp), h1]
theorem uniq_runs {n : Nat} {l : List (Int × Int)} (hok : gOk n l) (s : By) (hb : ∀ i : Nat, bitAt s i = (decide (i < n) && covB l i)) : toI (runsL s n) = l := by
  have key : ∀ j, j ≤ l.length → ∃ p : Nat, (p : Int) = gEnd (l.take j) + 1 ∧ toI (rl s p).1 = l.take j ∧ (rl s p).2 = p := by
    intro j
    induction j with
    | zero => intro _; exact ⟨0, by simp [gEnd], rfl, rfl⟩
    | succ j ih =>
      intro hj
      obtain ⟨p, hp, h1, h2⟩ := ih (by omega)
      have hx : l[j]? = some l[j] := List.getElem?_eq_getElem (by omega)
      have h3 := gNext_iff.1 (hok j _ hx)
      obtain ⟨⟨x1, x2⟩, hxe⟩ : ∃ x, l[j] = x := ⟨_, rfl⟩
      rw [hxe] at hx h3
      simp only at h3
      obtain ⟨u, rfl⟩ : ∃ u : Nat, x1 = u := ⟨x1.toNat, by omega⟩
      obtain ⟨v, rfl⟩ : ∃ v : Nat, x2 = v := ⟨x2.toNat, by omega⟩
      have hu := rl_skip s p (u - p) h2 (fun q q1 q2 => by
        rw [hb, cov_no hok (j := j) (by omega) (q := q) (by omega) (fun x hx' => by rw [hx] at hx'; cases hx'; show (q : Int) < (u : Int); omega), Bool.and_false])
      rw [show p + (u - p) = u by omega] at hu
      have hv := rl_stretch s u (v - u) (fun q q1 q2 => by
        rw [hb, decide_eq_true (by omega), covB_iff.2 ⟨j, _, hx, by show (u : Int) ≤ q; omega, by show (q : Int) < v; omega⟩]; rfl)
      rw [show u + (v - u) = v by omega] at hv
      have hvb : bitAt s v = false := by
        rw [hb]
        rcases Nat.lt_or_ge v n with h' | h'
        · rw [cov_no hok (j := j + 1) hj (q := v) (by rw [gEnd_at hx]; exact Int.le_refl _) (fun y hy => by
            have h4 := gNext_iff.1 (hok (j + 1) y hy)
            rw [gEnd_at hx] at h4
            exact h4.1), Bool.and_false]
        · rw [decide_eq_false (by omega), Bool.false_and]
      have hvu : rl s v = ((rl s p).1, u) := hv.trans hu
      refine ⟨v + 1, by rw [gEnd_at hx]; show ((v + 1 : Nat) : Int) = (v : Int) + 1; omega, ?_, ?_⟩
      · rw [rl_out hvb (by rw [hvu]; show u < v; omega), hvu, toI_append]
        show toI (rl s p).1 ++ [((u : Int), (v : Int))] = _
        rw [h1, List.take_succ_eq_append_getElem (by omega), hxe]
      · rw [rl_out hvb (by rw [hvu]; show u < v; omega)]
  obtain ⟨p, hp, h1, h2⟩ := key l.length (Nat.le_refl _)
  rw [List.take_length] at hp h1
  have hge := gEnd_ge hok
  have hpn : p ≤ n + 1 := by omega
  have hfin := rl_skip s p (n + 1 - p) h2 (fun q q1 q2 => by
    rw [hb, cov_no hok (j := l.length) (Nat.le_refl _) (q := q) (by rw [List.take_length]; omega) (fun x hx => by rw [List.getElem?_eq_none (Nat.le_refl _)] at hx; cases hx), Bool.and_false])
  rw [show p + (n + 1 - p) = n + 1 by omega] at hfin
  show toI (rl s (n + 1)).1 = l
  rw [hfin]
  exact h1
/-- the numbers below k that lie in spans -/
def covN (l : List (Int × Int)) : Nat → List Int
  | 0 => []
  | k + 1 => if covB l k then covN l k ++ [(k : Int)] else covN l k
theorem covN_mem (l : List (Int × Int)) (k : Nat) (x : Int) : x ∈ covN l k ↔ ∃ i : Nat, i < k ∧ covB l i = true ∧ x = i := by
  induction k with
  | zero => simp [covN]
  | succ k ih =>
    unfold covN
    cases hc : covB l k with
    | true =>
      rw [if_pos rfl, List.mem_append, ih]
      simp only [List.mem_singleton]
      constructor
      · rintro (⟨i, h1, h2, h3⟩ | h)
        · exact ⟨i, by omega, h2, h3⟩
        · exact ⟨k, by omega, hc, h⟩
      · rintro ⟨i, h1, h2, h3⟩
        rcases Nat.lt_or_ge i k with h | h
        · exact .inl ⟨i, h, h2, h3⟩
        · exact .inr (by rw [h3, show i = k by omega])
    | false =>
      rw [if_neg (by simp), ih]
      constructor
      · rintro ⟨i, h1, h2, h3⟩; exact ⟨i, by omega, h2, h3⟩
      · rintro ⟨i, h1, h2, h3⟩
        rcases Nat.lt_or_ge i k with h | h
        · exact ⟨i, h, h2, h3⟩
        · rw [show i = k by omega, hc] at h2; cases h2
theorem covN_len (l : List (Int × Int)) (k : Nat) : (covN l k).length ≤ k := by
  induction k with
  | zero => simp [covN]
  | succ k ih =>
    unfold covN
    split
    · rw [List.length_append, List.length_singleton]; omega
    · omega
/-- the document's set of spans -/
def docD (n : Nat) (l : List (Int × Int)) : By := mkL n (covN l n)
theorem docD_bit (n : Nat) (l : List (Int × Int)) (i : Nat) : bitAt (docD n l) i = (decide (i < n) && covB l i) := by
  unfold docD mkL
  rw [makeP_bit]
  have hw := wid_le n
  rcases Nat.lt_or_ge i n with h | h
  · rw [decide_eq_true h, decide_eq_true (by omega), Bool.true_and, Bool.true_and, Bool.true_and, Bool.eq_iff_iff, decide_eq_true_iff, covN_mem]
    constructor
    · rintro ⟨j, _, h2, h3⟩; rw [h3]; exact h2
    · intro h2; exact ⟨i, h, h2, rfl⟩
  · rw [decide_eq_false (p := i < n) (by omega), Bool.false_and, Bool.false_and, Bool.and_false]
theorem docD_chk (n : Nat) (hn : n ≤ 160) (l : List (Int × Int)) : chk n (docD n l) = true := by
  refine chk_iff.2 ⟨hn, by unfold docD mkL; rw [makeP_length], fun i _ h2 => ?_⟩
  rw [docD_bit, decide_eq_false (by omega), Bool.false_and]
theorem doc_set (n : Nat) (hn : n ≤ 160) (l : List (Int × Int)) : (l = toI (runsL (docD n l) n) ∧ gatR n l = docD n l ∧ gatE n 1 l = 0) ∨ (l ≠ toI (runsL (docD n l) n) ∧ gatR n l = [] ∧ gatE n 1 l = 1) := by
  have hc := docD_chk n hn l
  by_cases hok : gOk n l
  · have hu := uniq_runs hok (docD n l) (docD_bit n l)
    have hs := set_runs hc
    rw [hu] at hs
    exact .inl ⟨hu.symm, hs.1, hs.2⟩
  · refine .inr ⟨fun h => hok ?_, ?_, ?_⟩
    · rw [h]
      exact (rl_ok (docD n l) n (n + 1) (Nat.le_refl _)).1
    · unfold gatR
      rw [if_neg (fun h => hok h.2)]
    · unfold gatE
      rw [if_neg (fun h => h (by omega)), if_neg hok]
end Go.Proofs.YtbodklppgcloiaaDoor

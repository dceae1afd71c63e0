/- Runs, in pure terms: what they number, how runs and gaps lie in turn. -/
import Derived.Test.YtbodklppgcloiaaDoorRuD
import Derived.Test.YtbodklppgcloiaaDoorRuF
import Derived.Test.YtbodklppgcloiaaDoorBtF
namespace Go.Proofs.YtbodklppgcloiaaDoor
set_option linter.unusedVariables false

theorem listN_nodup (s : By) (n : Nat) : (listN s n).Nodup := by
  induction n with
  | zero => simp [listN]
  | succ n ih =>
    cases hv : bitAt s n with
    | false => rw [listN_no hv]; exact ih
    | true =>
      rw [listN_yes hv, List.nodup_append]
      refine ⟨ih, by simp, fun a ha b hb => ?_⟩
      simp at hb
      subst hb
      obtain ⟨i, h1, _, h3⟩ := (listN_mem s n a).1 ha
      omega
theorem back_of {n : Nat} {s : By} (hc : chk n s = true) : ofE n (listN s n) = 0 ∧ ofR n (listN s n) = s := by
  have hn := (chk_iff.1 hc).1
  have hl := (chk_iff.1 hc).2.1
  have hE : ofE n (listN s n) = 0 := by
    unfold ofE
    rw [if_neg (fun h => h ⟨by omega, fun x hx => by
      obtain ⟨i, h1, _, h3⟩ := (listN_mem s n x).1 hx
      omega⟩), if_neg (fun h => h (listN_nodup s n))]
  refine ⟨hE, ?_⟩
  unfold ofR
  rw [if_pos hE, Int.toNat_natCast]
  symm
  apply eq_makeP hl
  intro i hi
  rw [Bool.eq_iff_iff, decide_eq_true_iff, listN_mem]
  constructor
  · intro hb
    refine ⟨i, ?_, hb, rfl⟩
    rcases Nat.lt_or_ge i n with h | h
    · exact h
    · rw [chk_hi hc i h] at hb; cases hb
  · rintro ⟨j, h1, h2, h3⟩
    have : i = j := by omega
    subst this; exact h2
theorem zip_bit {f : UInt8 → UInt8 → UInt8} {q : Bool → Bool → Bool} (hf : ∀ x y j, j < 8 → bitB (f x y) j = q (bitB x j) (bitB y j)) (h0 : q false false = false) (a b : By) (h : a.length = b.length) (i : Nat) :
    bitAt (List.zipWith f a b) i = q (bitAt a i) (bitAt b i) := by
  have hz := zip_len f a b h
  rcases Nat.lt_or_ge (i / 8) a.length with hi | hi
  · rw [bitAt_in _ _ (by rw [hz]; exact hi)]
    simp only [List.getElem_zipWith]
    rw [hf _ _ _ (by omega), ← bitAt_in a i hi, ← bitAt_in b i (by omega)]
  · rw [bitAt_out _ _ (by rw [hz]; exact hi), bitAt_out a i hi, bitAt_out b i (by omega), h0]
theorem chk_zip {f : UInt8 → UInt8 → UInt8} {q : Bool → Bool → Bool} (hf : ∀ x y j, j < 8 → bitB (f x y) j = q (bitB x j) (bitB y j)) (h0 : q false false = false) {n : Nat} {a b : By} (ha : chk n a = true) (hb : chk n b = true) : chk n (List.zipWith f a b) = true := by
  obtain ⟨a1, a2, a3⟩ := chk_iff.1 ha
  obtain ⟨b1, b2, b3⟩ := chk_iff.1 hb
  have h : a.length = b.length := by omega
  refine chk_iff.2 ⟨a1, by rw [zip_len f a b h, a2], fun i h1 h2 => ?_⟩
  rw [zip_bit hf h0 a b h, chk_hi ha i h2, chk_hi hb i h2, h0]
def sAnd (a b : By) : By := List.zipWith (fun x y => x &&& y) a b
def sOr (a b : By) : By := List.zipWith (fun x y => x ||| y) a b
def sMinus (a b : By) : By := List.zipWith (fun x y => x &&& ~~~y) a b
theorem sAnd_bit (a b : By) (h : a.length = b.length) (i : Nat) : bitAt (sAnd a b) i = (bitAt a i && bitAt b i) := zip_bit (q := fun x y => x && y) (fun x y j _ => and_bit x y j) rfl a b h i
theorem sOr_bit (a b : By) (h : a.length = b.length) (i : Nat) : bitAt (sOr a b) i = (bitAt a i || bitAt b i) := zip_bit (q := fun x y => x || y) (fun x y j _ => or_bit x y j) rfl a b h i
theorem sMinus_bit (a b : By) (h : a.length = b.length) (i : Nat) : bitAt (sMinus a b) i = (bitAt a i && !bitAt b i) := zip_bit (q := fun x y => x && !y) (fun x y j hj => by rw [and_bit, not_bit y j hj]) rfl a b h i
theorem sAnd_len (a b : By) (h : a.length = b.length) : (sAnd a b).length = a.length := zip_len _ a b h
theorem sOr_len (a b : By) (h : a.length = b.length) : (sOr a b).length = a.length := zip_len _ a b h
theorem sMinus_len (a b : By) (h : a.length = b.length) : (sMinus a b).length = a.length := zip_len _ a b h
theorem bothR_eq (f : UInt8 → UInt8 → UInt8) (a b : By) (h : a.length = b.length) : bothE a b = 0 ∧ bothR f a b = List.zipWith f a b := by
  unfold bothE bothR
  rw [if_pos h, if_pos h]
  exact ⟨rfl, rfl⟩
/-- spans as whole numbers -/
def toI (l : List (Nat × Nat)) : List (Int × Int) := l.map fun x => ((x.1 : Int), (x.2 : Int))
theorem toI_append (a b : List (Nat × Nat)) : toI (a ++ b) = toI a ++ toI b := by simp [toI]
theorem toI_length (a : List (Nat × Nat)) : (toI a).length = a.length := by simp [toI]
theorem rl_full (s : By) (k : Nat) : ∀ j, (rl s k).2 ≤ j → j < k → bitAt s j = true := by
  induction k with
  | zero => intro j _ h; omega
  | succ k ih =>
    intro j h1 h2
    cases hv : bitAt s k
    · by_cases hl : (rl s k).2 < k
      · rw [rl_out hv hl] at h1; simp at h1; omega
      · rw [rl_gap hv hl] at h1; simp at h1; omega
    · rw [rl_in hv] at h1
      rcases Nat.lt_or_ge j k with h | h
      · exact ih j h1 h
      · rw [show j = k by omega]; exact hv
theorem listN_span (s : By) (a d : Nat) (h : ∀ j, a ≤ j → j < a + d → bitAt s j = true) : listN s (a + d) = listN s a ++ (List.range d).map fun (i : Nat) => (a : Int) + (i : Int) := by
  induction d with
  | zero => simp
  | succ d ih =>
    rw [← Nat.add_assoc, listN_yes (h _ (by omega) (by omega)), ih (fun j h1 h2 => h j h1 (by omega)), List.range_succ, List.map_append, List.append_assoc]
    simp
theorem rl_nums (s : By) (k : Nat) : gNums (toI (rl s k).1) = listN s (rl s k).2 := by
  induction k with
  | zero => rfl
  | succ k ih =>
    cases hv : bitAt s k
    · by_cases hl : (rl s k).2 < k
      · have hf := rl_full s k
        rw [rl_out hv hl, toI_append, show toI [((rl s k).2, k)] = [(((rl s k).2 : Int), (k : Int))] from rfl, gNums_snoc, ih]
        show _ = listN s (k + 1)
        rw [listN_no hv]
        have := listN_span s (rl s k).2 (k - (rl s k).2) (fun j h1 h2 => hf j h1 (by omega))
        rw [show (rl s k).2 + (k - (rl s k).2) = k by omega] at this
        rw [this]
        show _ ++ (List.range ((k : Int) - ((rl s k).2 : Int)).toNat).map _ = _
        rw [show ((k : Int) - ((rl s k).2 : Int)).toNat = k - (rl s k).2 by omega]
      · have h1 := (rl_le s k).1
        rw [rl_gap hv hl, ih]
        show _ = listN s (k + 1)
        rw [listN_no hv, show (rl s k).2 = k by omega]
    · rw [rl_in hv, ih]
theorem rl_ok (s : By) (n k : Nat) (hk : k ≤ n + 1) : gOk n (toI (rl s k).1) ∧ gEnd (toI (rl s k).1) < (rl s k).2 := by
  induction k with
  | zero => exact ⟨gOk_nil _, by simp [rl, toI, gEnd]⟩
  | succ k ih =>
    obtain ⟨h1, h2⟩ := ih (by omega)
    cases hv : bitAt s k
    · by_cases hl : (rl s k).2 < k
      · rw [rl_out hv hl, toI_append, show toI [((rl s k).2, k)] = [(((rl s k).2 : Int), (k : Int))] from rfl, gEnd_snoc]
        refine ⟨gOk_snoc h1 (gNext_iff.2 ⟨h2, ?_, ?_⟩), ?_⟩
        · show ((rl s k).2 : Int) < (k : Int); omega
        · show (k : Int) ≤ n; omega
        · show (k : Int) < ((k + 1 : Nat) : Int); omega
      · rw [rl_gap hv hl]
        have := (rl_le s k).1
        refine ⟨h1, ?_⟩
        show gEnd (toI (rl s k).1) < ((k + 1 : Nat) : Int)
        omega
    · rw [rl_in hv]; exact ⟨h1, h2⟩
/-- the set of its runs is the set -/
theorem set_runs {n : Nat} {s : By} (hc : chk n s = true) : gatR n (toI (runsL s n)) = s ∧ gatE n 1 (toI (runsL s n)) = 0 := by
  have hn := (chk_iff.1 hc).1
  have hok : gOk n (toI (runsL s n)) := (rl_ok s n (n + 1) (Nat.le_refl _)).1
  have hnum : gNums (toI (runsL s n)) = listN s n := by
    show gNums (toI (rl s (n + 1)).1) = _
    rw [rl_nums]
    have hv := chk_hi hc n (Nat.le_refl _)
    have h2 : (rl s (n + 1)).2 = n + 1 := by
      by_cases hl : (rl s n).2 < n
      · rw [rl_out hv hl]
      · rw [rl_gap hv hl]
    rw [h2, listN_no hv]
  obtain ⟨b1, b2⟩ := back_of hc
  have hn' : 0 ≤ (n : Int) ∧ (n : Int) ≤ 160 := by omega
  unfold gatR gatE
  rw [if_pos ⟨hn', hok⟩, if_neg (fun h => h hn'), if_pos hok, hnum, b1, b2]
  exact ⟨rfl, rfl⟩
theorem full_chk (n : Nat) (h : n ≤ 160) : chk n (fullL n) = true := by
  refine chk_iff.2 ⟨h, fullL_len n h, fun i h1 h2 => ?_⟩
  unfold fullL
  rw [if_pos (by omega), makeP_bit, Int.toNat_natCast, decide_eq_false (p := i < n) (by omega), Bool.and_false]
theorem full_bit (n : Nat) (h : n ≤ 160) (i : Nat) : bitAt (fullL n) i = decide (i < n) := by
  unfold fullL
  rw [if_pos (by omega), makeP_bit, Int.toNat_natCast]
  have := wid_le n
  by_cases hi : i < n
  · rw [decide_eq_true hi, decide_eq_true (by omega), Bool.and_true]
  · rw [decide_eq_false hi, Bool.and_false]
theorem rest_facts {n : Nat} {s : By} (hc : chk n s = true) : chk n (restL n s) = true ∧ (∀ i, bitAt (restL n s) i = (decide (i < n) && !bitAt s i)) ∧ (restL n s).length = s.length := by
  obtain ⟨h1, h2, _⟩ := chk_iff.1 hc
  have hl : (fullL n).length = s.length := by rw [fullL_len n h1, h2]
  have hr : restL n s = sMinus (fullL n) s := (bothR_eq _ _ _ hl).2
  refine ⟨?_, fun i => ?_, ?_⟩
  · rw [hr]
    exact chk_zip (q := fun x y => x && !y) (fun x y j hj => by rw [and_bit, not_bit y j hj]) rfl (full_chk n h1) hc
  · rw [hr, sMinus_bit _ _ hl, full_bit n h1]
  · rw [hr, sMinus_len _ _ hl, hl]
theorem or_rest {n : Nat} {s : By} (hc : chk n s = true) : bothE s (restL n s) = 0 ∧ bothR (fun a b => a ||| b) s (restL n s) = fullL n := by
  obtain ⟨h1, h2, _⟩ := chk_iff.1 hc
  obtain ⟨r1, r2, r3⟩ := rest_facts hc
  obtain ⟨e1, e2⟩ := bothR_eq (fun a b => a ||| b) s (restL n s) r3.symm
  refine ⟨e1, e2.trans ?_⟩
  refine bits_ext ?_ fun i hi => ?_
  · rw [zip_len _ _ _ r3.symm, fullL_len n h1, h2]
  · have := sOr_bit s (restL n s) r3.symm i
    unfold sOr at this
    rw [this, r2, full_bit n h1]
    rcases Nat.lt_or_ge i n with h | h
    · rw [decide_eq_true h]; cases bitAt s i <;> rfl
    · rw [chk_hi hc i h, decide_eq_false (by omega)]; rfl
theorem rl_stretch (s : By) (p d : Nat) (h : ∀ j, p ≤ j → j < p + d → bitAt s j = true) : rl s (p + d) = rl s p := by
  induction d with
  | zero => rfl
  | succ d ih => rw [← Nat.add_assoc, rl_in (h _ (by omega) (by omega)), ih (fun j h1 h2 => h j h1 (by omega))]
theorem rl_snd {s : By} {k : Nat} (h : bitAt s k = false) : (rl s (k + 1)).2 = k + 1 := by
  by_cases hl : (rl s k).2 < k
  · rw [rl_out h hl]
  · rw [rl_gap h hl]
theorem rl_off (s : By) (p d : Nat) (h : ∀ j, p ≤ j → j < p + d + 1 → bitAt s j = false) : rl s (p + d + 1) = ((rl s (p + 1)).1, p + d + 1) := by
  induction d with
  | zero => exact Prod.ext rfl (rl_snd (h p (Nat.le_refl _) (by omega)))
  | succ d ih =>
    have h1 := ih (fun j h1 h2 => h j h1 (by omega))
    rw [← Nat.add_assoc, rl_gap (h _ (by omega) (by omega)) (by rw [h1]; simp), h1]
/-- where a stretch of a set ends -/
theorem stretch_end {n : Nat} {s : By} (hc : ∀ i, n ≤ i → bitAt s i = false) (p : Nat) (hp : p < n) (hb : bitAt s p = true) : ∃ q, p < q ∧ q ≤ n ∧ bitAt s q = false ∧ ∀ j, p ≤ j → j < q → bitAt s j = true := by
  have key : ∀ d, (∀ j, p ≤ j → j < p + d → bitAt s j = true) ∨ ∃ q, p < q ∧ q ≤ p + d ∧ bitAt s q = false ∧ ∀ j, p ≤ j → j < q → bitAt s j = true := by
    intro d
    induction d with
    | zero => exact .inl fun j h1 h2 => by omega
    | succ d ih =>
      rcases ih with h | ⟨q, h1, h2, h3, h4⟩
      · cases hv : bitAt s (p + d)
        · refine .inr ⟨p + d, ?_, by omega, hv, h⟩
          rcases Nat.eq_zero_or_pos d with h0 | h0
          · subst h0; rw [Nat.add_zero, hb] at hv; cases hv
          · omega
        · refine .inl fun j h1 h2 => ?_
          rcases Nat.lt_or_ge j (p + d) with h5 | h5
          · exact h j h1 h5
          · rw [show j = p + d by omega]; exact hv
      · exact .inr ⟨q, h1, by omega, h3, h4⟩
  rcases key (n + 1 - p) with h | ⟨q, h1, h2, h3, h4⟩
  · have := h n (by omega) (by omega)
    rw [hc n (Nat.le_refl _)] at this; cases this
  · refine ⟨q, h1, ?_, h3, h4⟩
    rcases Nat.lt_or_ge n q with h5 | h5
    · have := h4 n (by omega) h5
      rw [hc n (Nat.le_refl _)] at this; cases this
    · exact h5
/-- a place where runs and gaps meet -/
structure Meet (a b : By) (n p : Nat) : Prop where
  le : p ≤ n
  one : bitAt a p = true → (rl a (p + 1)).2 = p
  two : bitAt b p = true → (rl b (p + 1)).2 = p
/-- two sets that are each other's rest -/
structure Rest (a b : By) (n : Nat) : Prop where
  hia : ∀ i, n ≤ i → bitAt a i = false
  hib : ∀ i, n ≤ i → bitAt b i = false
  not : ∀ i, i < n → bitAt b i = !bitAt a i
theorem Rest.symm {a b : By} {n : Nat} (h : Rest a b n) : Rest b a n := ⟨h.hib, h.hia, fun i hi => by rw [h.not i hi, Bool.not_not]⟩
theorem Meet.symm {a b : By} {n p : Nat} (h : Meet a b n p) : Meet b a n p := ⟨h.le, h.two, h.one⟩
/-- where a run begins it is taken: behind it gaps go on -/
theorem meet_step {a b : By} {n p : Nat} (hr : Rest a b n) (hm : Meet a b n p) (hp : p < n) (hb : bitAt a p = true) : ∃ q, p < q ∧ q ≤ n ∧ bitAt a (q - 1) = true ∧ bitAt a q = false ∧ Meet a b n q ∧
    (rl a (q + 1)).1 = (rl a (p + 1)).1 ++ [(p, q)] ∧ (rl b (q + 1)).1 = (rl b (p + 1)).1 := by
  obtain ⟨q, h1, h2, h3, h4⟩ := stretch_end hr.hia p hp hb
  have hin : rl a (p + 1) = rl a p := rl_in hb
  have hA : rl a q = rl a p := by
    have := rl_stretch a p (q - p) (fun j j1 j2 => h4 j j1 (by omega))
    rwa [show p + (q - p) = q by omega] at this
  have hlo : (rl a p).2 = p := by rw [← hin]; exact hm.one hb
  have hB : rl b q = ((rl b (p + 1)).1, q) := by
    have := rl_off b p (q - p - 1) (fun j j1 j2 => by rw [hr.not j (by omega), h4 j j1 (by omega)]; rfl)
    rwa [show p + (q - p - 1) + 1 = q by omega] at this
  have hB1 : (rl b (q + 1)).1 = (rl b (p + 1)).1 ∧ (bitAt b q = true → (rl b (q + 1)).2 = q) := by
    cases hv : bitAt b q
    · rw [rl_gap hv (by rw [hB]; simp), hB]
      exact ⟨rfl, fun h => by cases h⟩
    · rw [rl_in hv, hB]
      exact ⟨rfl, fun _ => rfl⟩
  refine ⟨q, h1, h2, h4 _ (by omega) (by omega), h3, ⟨h2, fun h => (by rw [h3] at h; cases h), hB1.2⟩, ?_, hB1.1⟩
  rw [rl_out h3 (by rw [hA, hlo]; exact h1), hA, hlo, hin]
theorem meet_start {a b : By} {n : Nat} : Meet a b n 0 ∧ (rl a 1).1 = [] ∧ (rl b 1).1 = [] := by
  have key : ∀ s : By, (rl s 1).1 = [] ∧ (bitAt s 0 = true → (rl s 1).2 = 0) := by
    intro s
    cases hv : bitAt s 0
    · rw [rl_gap hv (by simp [rl])]; exact ⟨rfl, fun h => by cases h⟩
    · rw [rl_in hv]; exact ⟨rfl, fun _ => rfl⟩
  exact ⟨⟨Nat.zero_le _, (key a).2, (key b).2⟩, (key a).1, (key b).1⟩
end Go.Proofs.YtbodklppgcloiaaDoor

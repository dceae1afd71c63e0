/- meter: mathematics of two peers' turns. -/
import Derived.Test.YtpaecblgilepoaaMeG
namespace Go.Proofs.Ytpaecblgilepoaa
open Go.RowKit
set_option linter.unusedVariables false

/-- the sum of sizes -/
def sumZ (l : List Int) : Int := l.foldr (· + ·) 0
theorem sumZ_append (l m : List Int) : sumZ (l ++ m) = sumZ l + sumZ m := by
  induction l with
  | nil => simp [sumZ]
  | cons x l ih =>
    have e1 : sumZ (x :: l) = x + sumZ l := rfl
    have e2 : sumZ (x :: l ++ m) = x + sumZ (l ++ m) := rfl
    rw [e1, e2, ih]
    omega
theorem sumZ_in (l : List Int) (h : ∀ y ∈ l, 1 ≤ y ∧ y ≤ 5000) : 0 ≤ sumZ l ∧ sumZ l ≤ l.length * 5000 := by
  induction l with
  | nil => simp [sumZ]
  | cons x l ih =>
    have e1 : sumZ (x :: l) = x + sumZ l := rfl
    have h1 := h x (by simp)
    have h2 := ih (fun y hy => h y (by simp [hy]))
    rw [e1, List.length_cons]
    have : ((l.length + 1 : Nat) : Int) * 5000 = l.length * 5000 + 5000 := by omega
    omega
theorem tc_sum (l : List Int) : ∀ c, tc c l = c - sumZ (l.take (tn c l)) := by
  induction l with
  | nil => intro c; show c = c - 0; omega
  | cons x l ih =>
    intro c
    unfold tc tn
    by_cases h : x ≤ c
    · rw [if_pos h, if_pos h, ih, List.take_succ_cons]
      have e1 : sumZ (x :: l.take (tn (c - x) l)) = x + sumZ (l.take (tn (c - x) l)) := rfl
      rw [e1]
      omega
    · rw [if_neg h, if_neg h]
      show c = c - 0
      omega
theorem tc_nonneg (l : List Int) : ∀ c, 0 ≤ c → 0 ≤ tc c l := by
  induction l with
  | nil => intro c h; exact h
  | cons x l ih =>
    intro c hc
    unfold tc
    split
    · exact ih _ (by omega)
    · exact hc
theorem tc_lt (l : List Int) : ∀ c, tn c l < l.length → ∃ y ∈ l, tc c l < y := by
  induction l with
  | nil => intro c h; simp at h
  | cons x l ih =>
    intro c h
    unfold tn at h
    unfold tc
    by_cases hx : x ≤ c
    · rw [if_pos hx] at h ⊢
      obtain ⟨y, hy, h2⟩ := ih (c - x) (by simpa using h)
      exact ⟨y, by simp [hy], h2⟩
    · rw [if_neg hx]
      exact ⟨x, by simp, by omega⟩

/-- two peers' queues as they are laid -/
structure FS (f : Nat → Qu) (W : Nat → Int) (N : Nat → Nat) : Prop where
  no : ∀ p, p < 16 → p ≠ 2 → p ≠ 3 → f p = ⟨0, 0, []⟩
  w : ∀ i, i < 2 → (f (2 + i)).w = W i
  c : ∀ i, i < 2 → (f (2 + i)).c = 0
  n : ∀ i, i < 2 → (f (2 + i)).l.length = N i
  s : ∀ i, i < 2 → ∀ y ∈ (f (2 + i)).l, 1 ≤ y ∧ y ≤ 5000
theorem fs_new : FS noQ (fun _ => 0) (fun _ => 0) := ⟨fun _ _ _ _ => rfl, fun _ _ => rfl, fun _ _ => rfl, fun _ _ => rfl, fun _ _ y hy => by cases hy⟩
theorem FS.weigh {f : Nat → Qu} {W : Nat → Int} {N : Nat → Nat} (h : FS f W N) (k : Nat) (hk : k < 2) (x : Int) (hx : 1 ≤ x) : FS (qup f (2 + k) (weighQ (f (2 + k)) x)) (qup W k x) N where
  no := fun p hp h2 h3 => by rw [qup_other f _ _ (by omega)]; exact h.no p hp h2 h3
  w := fun i hi => by
    by_cases e : i = k
    · subst e; rw [qup_same, qup_same]; unfold weighQ; rw [if_neg (by omega)]
    · rw [qup_other f _ _ (by omega), qup_other W _ _ e]; exact h.w i hi
  c := fun i hi => by
    by_cases e : i = k
    · subst e; rw [qup_same]; unfold weighQ; rw [if_neg (by omega)]; exact h.c i hi
    · rw [qup_other f _ _ (by omega)]; exact h.c i hi
  n := fun i hi => by
    by_cases e : i = k
    · subst e; rw [qup_same]; unfold weighQ; rw [if_neg (by omega)]; exact h.n i hi
    · rw [qup_other f _ _ (by omega)]; exact h.n i hi
  s := fun i hi => by
    by_cases e : i = k
    · subst e; rw [qup_same]; unfold weighQ; rw [if_neg (by omega)]; exact h.s i hi
    · rw [qup_other f _ _ (by omega)]; exact h.s i hi
theorem FS.add {f : Nat → Qu} {W : Nat → Int} {N : Nat → Nat} (h : FS f W N) (k : Nat) (hk : k < 2) (x : Int) (hx : 1 ≤ x ∧ x ≤ 5000) : FS (qup f (2 + k) ⟨(f (2 + k)).w, (f (2 + k)).c, (f (2 + k)).l ++ [x]⟩) W (qup N k (N k + 1)) where
  no := fun p hp h2 h3 => by rw [qup_other f _ _ (by omega)]; exact h.no p hp h2 h3
  w := fun i hi => by
    by_cases e : i = k
    · subst e; rw [qup_same]; exact h.w i hi
    · rw [qup_other f _ _ (by omega)]; exact h.w i hi
  c := fun i hi => by
    by_cases e : i = k
    · subst e; rw [qup_same]; exact h.c i hi
    · rw [qup_other f _ _ (by omega)]; exact h.c i hi
  n := fun i hi => by
    by_cases e : i = k
    · subst e
      rw [qup_same, qup_same]
      have := h.n i hi
      simp [this]
    · rw [qup_other f _ _ (by omega), qup_other N _ _ e]; exact h.n i hi
  s := fun i hi => by
    by_cases e : i = k
    · subst e
      rw [qup_same]
      intro y hy
      rw [List.mem_append] at hy
      rcases hy with hy | hy
      · exact h.s i hi y hy
      · simp at hy; subst hy; exact hx
    · rw [qup_other f _ _ (by omega)]; exact h.s i hi

/-- two peers' queues behind n turns, of whom so much was sent -/
structure FT (f : Nat → Qu) (W S : Nat → Int) (q : Int) (n : Nat) : Prop where
  no : ∀ p, p < 16 → p ≠ 2 → p ≠ 3 → f p = ⟨0, 0, []⟩
  w : ∀ i, i < 2 → (f (2 + i)).w = W i
  ln : ∀ i, i < 2 → (f (2 + i)).l.length ≤ 100
  s : ∀ i, i < 2 → ∀ y ∈ (f (2 + i)).l, 1 ≤ y ∧ y ≤ 5000
  c : ∀ i, i < 2 → 0 ≤ (f (2 + i)).c ∧ (f (2 + i)).c ≤ 5000
  bal : ∀ i, i < 2 → (f (2 + i)).l ≠ [] → S i + (f (2 + i)).c = (n : Int) * W i * q ∧ (f (2 + i)).c < 5000
  sb : ∀ i, i < 2 → 0 ≤ S i ∧ S i ≤ (n : Int) * 500000
theorem FS.start {f : Nat → Qu} {W : Nat → Int} {N : Nat → Nat} (h : FS f W N) (hN : ∀ i, i < 2 → N i ≤ 100) (q : Int) : FT f W (fun _ => 0) q 0 where
  no := h.no
  w := h.w
  ln := fun i hi => by rw [h.n i hi]; exact hN i hi
  s := h.s
  c := fun i hi => by rw [h.c i hi]; omega
  bal := fun i hi _ => by rw [h.c i hi]; simp
  sb := fun i hi => by simp
theorem FT.ok {f : Nat → Qu} {W S : Nat → Int} {q : Int} {n : Nat} (h : FT f W S q n) (hW : ∀ i, i < 2 → 1 ≤ W i ∧ W i ≤ 16) : ∀ p, p < 16 → QOk (f p) := by
  intro p hp
  by_cases h2 : p = 2 ∨ p = 3
  · obtain ⟨i, hi, rfl⟩ : ∃ i, i < 2 ∧ p = 2 + i := ⟨p - 2, by omega, by omega⟩
    have h1 := hW i hi
    exact ⟨by rw [h.w i hi]; omega, by have := h.c i hi; omega, h.ln i hi, fun y hy => by have := h.s i hi y hy; omega⟩
  · rw [h.no p hp (by omega) (by omega)]
    exact ⟨by decide, by decide, by decide, fun y hy => by cases hy⟩
/-- what a turn sends of a peer -/
def sentN (f : Nat → Qu) (q : Int) (i : Nat) : List Int := (f (2 + i)).l.take (tn (cr0 (f (2 + i)) q) (f (2 + i)).l)
theorem FT.cr {f : Nat → Qu} {W S : Nat → Int} {q : Int} {n : Nat} (h : FT f W S q n) (hW : ∀ i, i < 2 → 1 ≤ W i ∧ W i ≤ 16) (hq : 1 ≤ q ∧ q ≤ 2000) (i : Nat) (hi : i < 2) : cr0 (f (2 + i)) q = (f (2 + i)).c + W i * q := by
  unfold cr0
  rw [h.w i hi]
  have h1 := h.c i hi
  have h2 := hW i hi
  have h3 : W i * q ≤ 16 * 2000 := Int.mul_le_mul h2.2 hq.2 (by omega) (by omega)
  omega
theorem FT.turn {f : Nat → Qu} {W S : Nat → Int} {q : Int} {n : Nat} (h : FT f W S q n) (hW : ∀ i, i < 2 → 1 ≤ W i ∧ W i ≤ 16) (hq : 1 ≤ q ∧ q ≤ 2000) (hne : ∀ i, i < 2 → (f (2 + i)).l ≠ []) :
    FT (turnF f q 16) W (fun i => S i + sumZ (sentN f q i)) q (n + 1) := by
  have ht : ∀ i, i < 2 → turnF f q 16 (2 + i) = turnQ (f (2 + i)) q := fun i hi => by
    unfold turnF
    rw [if_pos ⟨by omega, by omega, hne i hi⟩]
  have hcr := fun i hi => h.cr hW hq i hi
  have hq0 : ∀ i, i < 2 → 0 ≤ W i * q := fun i hi => Int.mul_nonneg (by have := hW i hi; omega) (by omega)
  have hlen : ∀ i, tn (cr0 (f (2 + i)) q) (f (2 + i)).l ≤ (f (2 + i)).l.length := fun i => tn_le _ _
  refine ⟨fun p hp h2 h3 => ?_, fun i hi => ?_, fun i hi => ?_, fun i hi => ?_, fun i hi => ?_, fun i hi => ?_, fun i hi => ?_⟩
  · unfold turnF
    have := h.no p hp h2 h3
    rw [if_neg (by rw [this]; simp)]
    exact this
  · rw [ht i hi]; exact h.w i hi
  · rw [ht i hi]
    show ((f (2 + i)).l.drop _).length ≤ 100
    rw [List.length_drop]
    have := h.ln i hi
    omega
  · rw [ht i hi]
    intro y hy
    exact h.s i hi y (List.mem_of_mem_drop hy)
  · rw [ht i hi]
    show 0 ≤ (if tn (cr0 (f (2 + i)) q) (f (2 + i)).l = (f (2 + i)).l.length then 0 else tc (cr0 (f (2 + i)) q) (f (2 + i)).l) ∧ (if tn (cr0 (f (2 + i)) q) (f (2 + i)).l = (f (2 + i)).l.length then 0 else tc (cr0 (f (2 + i)) q) (f (2 + i)).l) ≤ 5000
    split
    · omega
    · rename_i hnn
      obtain ⟨y, hy, h2⟩ := tc_lt (f (2 + i)).l (cr0 (f (2 + i)) q) (by have := hlen i; omega)
      have h3 := h.s i hi y hy
      have h4 := tc_nonneg (f (2 + i)).l (cr0 (f (2 + i)) q) (by rw [hcr i hi]; have := h.c i hi; have := hq0 i hi; omega)
      omega
  · rw [ht i hi]
    intro hrest
    have hrest' : (f (2 + i)).l.drop (tn (cr0 (f (2 + i)) q) (f (2 + i)).l) ≠ [] := hrest
    have hnn : tn (cr0 (f (2 + i)) q) (f (2 + i)).l ≠ (f (2 + i)).l.length := fun e => hrest' (List.drop_of_length_le (by omega))
    show S i + sumZ (sentN f q i) + (if tn (cr0 (f (2 + i)) q) (f (2 + i)).l = (f (2 + i)).l.length then 0 else tc (cr0 (f (2 + i)) q) (f (2 + i)).l) = _ ∧ (if tn (cr0 (f (2 + i)) q) (f (2 + i)).l = (f (2 + i)).l.length then 0 else tc (cr0 (f (2 + i)) q) (f (2 + i)).l) < 5000
    rw [if_neg hnn]
    constructor
    · rw [tc_sum]
      have h1 := (h.bal i hi (hne i hi)).1
      have h2 := hcr i hi
      have e1 : ((n + 1 : Nat) : Int) * W i * q = (n : Int) * W i * q + W i * q := by
        rw [Int.natCast_add, Int.add_mul, Int.add_mul]
        simp
      rw [e1, ← h1]
      show S i + sumZ (sentN f q i) + (cr0 (f (2 + i)) q - sumZ (sentN f q i)) = _
      rw [h2]
      omega
    · obtain ⟨y, hy, h2⟩ := tc_lt (f (2 + i)).l (cr0 (f (2 + i)) q) (by have := hlen i; omega)
      have h3 := h.s i hi y hy
      omega
  · have h1 := sumZ_in (sentN f q i) (fun y hy => h.s i hi y (List.mem_of_mem_take hy))
    have h2 : (sentN f q i).length ≤ 100 := by
      unfold sentN
      rw [List.length_take]
      have := h.ln i hi
      omega
    have h3 := h.sb i hi
    have e1 : ((n + 1 : Nat) : Int) * 500000 = (n : Int) * 500000 + 500000 := by omega
    show 0 ≤ S i + sumZ (sentN f q i) ∧ S i + sumZ (sentN f q i) ≤ _
    rw [e1]
    omega
/-- what is sent: of 2, then of 3 -/
theorem FT.sent {f : Nat → Qu} {W S : Nat → Int} {q : Int} {n : Nat} (h : FT f W S q n) : sentL f q 16 = (sentN f q 0).map (fun s => ((2 : Int), s)) ++ (sentN f q 1).map (fun s => ((3 : Int), s)) := by
  have h0 : ∀ p, p < 16 → p ≠ 2 → p ≠ 3 → sentP f q p = [] := fun p hp h2 h3 => sentP_no (by rw [h.no p hp h2 h3]; simp)
  have e2 : sentP f q 2 = (sentN f q 0).map (fun s => ((2 : Int), s)) := if_pos (by decide)
  have e3 : sentP f q 3 = (sentN f q 1).map (fun s => ((3 : Int), s)) := if_pos (by decide)
  unfold sentL
  rw [show List.range 16 = [0, 1, 2, 3, 4, 5, 6, 7, 8, 9, 10, 11, 12, 13, 14, 15] from rfl]
  simp only [List.flatMap_cons, List.flatMap_nil]
  rw [h0 0 (by decide) (by decide) (by decide), h0 1 (by decide) (by decide) (by decide), h0 4 (by decide) (by decide) (by decide), h0 5 (by decide) (by decide) (by decide), h0 6 (by decide) (by decide) (by decide), h0 7 (by decide) (by decide) (by decide), h0 8 (by decide) (by decide) (by decide), h0 9 (by decide) (by decide) (by decide), h0 10 (by decide) (by decide) (by decide), h0 11 (by decide) (by decide) (by decide), h0 12 (by decide) (by decide) (by decide), h0 13 (by decide) (by decide) (by decide), h0 14 (by decide) (by decide) (by decide), h0 15 (by decide) (by decide) (by decide), e2, e3]
  simp
theorem FT.e {f : Nat → Qu} {W S : Nat → Int} {q : Int} {n : Nat} (hne : ∀ i, i < 2 → (f (2 + i)).l ≠ []) : turnE f 16 = 0 := by
  unfold turnE
  rw [if_pos]
  unfold someW
  rw [List.any_eq_true]
  exact ⟨2, by simp, by simpa using hne 0 (by decide)⟩
/-- what the first j of what is sent sum up to, of a peer -/
def sumR (l : List (Int × Int)) (r : Int) : Int := sumZ ((l.filter (fun x => decide (x.1 = r))).map (·.2))
theorem sumR_snoc (l : List (Int × Int)) (r x y : Int) : sumR (l ++ [(x, y)]) r = sumR l r + (if x = r then y else 0) := by
  unfold sumR
  rw [List.filter_append, List.map_append, sumZ_append]
  by_cases h : x = r
  · simp [h, sumZ]
  · simp [h, sumZ]
theorem sumR_all {a b : List Int} : sumR (a.map (fun s => ((2 : Int), s)) ++ b.map (fun s => ((3 : Int), s))) 2 = sumZ a ∧ sumR (a.map (fun s => ((2 : Int), s)) ++ b.map (fun s => ((3 : Int), s))) 3 = sumZ b := by
  have f1 : ∀ (l : List Int) (x y : Int), ((l.map (fun s => (x, s))).filter (fun z => decide (z.1 = y))).map (·.2) = if x = y then l else [] := by
    intro l x y
    induction l with
    | nil => simp
    | cons z l ih =>
      by_cases h : x = y
      · simp [h] at ih ⊢
        exact ih
      · simp [h] at ih ⊢
  unfold sumR
  rw [List.filter_append, List.map_append, sumZ_append, List.filter_append, List.map_append, sumZ_append, f1, f1, f1, f1]
  simp [sumZ]
end Go.Proofs.Ytpaecblgilepoaa

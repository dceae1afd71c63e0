/- meter: mathematics of all that waits, and is sent. -/
import Derived.Test.YtpaecblgilepoaaMeS
namespace Go.Proofs.Ytpaecblgilepoaa
open Go.RowKit
set_option linter.unusedVariables false

/-- a queue whose credit does not reach for its first size -/
structure QA (x : Qu) : Prop where
  w : 1 ≤ x.w ∧ x.w ≤ 3
  c : 0 ≤ x.c
  e : x.l = [] → x.c = 0
  h : ∀ y r, x.l = y :: r → x.c < y
  n : x.l.length ≤ 100
  s : ∀ y ∈ x.l, 1 ≤ y ∧ y ≤ 65536
/-- what waits, less the credit -/
def mq (x : Qu) : Int := sumZ x.l - x.c
theorem sumZ_pos (l : List Int) (h : ∀ y ∈ l, 1 ≤ y ∧ y ≤ 65536) : 0 ≤ sumZ l := by
  induction l with
  | nil => exact Int.le_refl 0
  | cons x l ih =>
    have e1 : sumZ (x :: l) = x + sumZ l := rfl
    have h1 := h x (by simp)
    have h2 := ih (fun y hy => h y (by simp [hy]))
    omega
theorem mq_pos {x : Qu} (h : QA x) : 0 ≤ mq x ∧ (x.l ≠ [] → 1 ≤ mq x) := by
  unfold mq
  cases hl : x.l with
  | nil =>
    rw [h.e hl]
    exact ⟨by decide, fun e => absurd rfl e⟩
  | cons y r =>
    have h1 := h.h y r hl
    have e1 : sumZ (y :: r) = y + sumZ r := rfl
    have h2 := sumZ_pos r (fun z hz => h.s z (by rw [hl]; simp [hz]))
    rw [e1]
    exact ⟨by omega, fun _ => by omega⟩
theorem cr0_QA {x : Qu} {q : Int} (h : QA x) (hl : x.l ≠ []) (hq : 1 ≤ q ∧ q ≤ 65536) : cr0 x q = x.c + x.w * q ∧ x.c + 1 ≤ cr0 x q ∧ QOk x := by
  cases he : x.l with
  | nil => exact absurd he hl
  | cons y r =>
    have h1 := h.h y r he
    have h2 := h.s y (by rw [he]; simp)
    have h3 := h.w
    have h4 := h.c
    have h5 : x.w = 1 ∨ x.w = 2 ∨ x.w = 3 := by omega
    have h6 : 1 ≤ x.w * q ∧ x.w * q ≤ 196608 := by rcases h5 with e | e | e <;> rw [e] <;> omega
    unfold cr0
    exact ⟨by omega, by omega, ⟨by omega, by omega, h.n, h.s⟩⟩
theorem qok_QA {x : Qu} (h : QA x) : QOk x := by
  refine ⟨by have := h.w; omega, ?_, h.n, h.s⟩
  cases he : x.l with
  | nil => rw [h.e he]; decide
  | cons y r =>
    have h1 := h.h y r he
    have h2 := h.s y (by rw [he]; simp)
    have := h.c
    omega
theorem tc_head (l : List Int) : ∀ c y r, l.drop (tn c l) = y :: r → tc c l < y := by
  induction l with
  | nil => intro c y r h; simp at h
  | cons x l ih =>
    intro c y r h
    unfold tn at h
    unfold tc
    by_cases hx : x ≤ c
    · rw [if_pos hx] at h ⊢
      exact ih (c - x) y r (by simpa using h)
    · rw [if_neg hx] at h ⊢
      simp at h
      omega
theorem turn_QA {x : Qu} {q : Int} (h : QA x) (hl : x.l ≠ []) (hq : 1 ≤ q ∧ q ≤ 65536) : QA (turnQ x q) ∧ mq (turnQ x q) + 1 ≤ mq x := by
  obtain ⟨e0, e1, _⟩ := cr0_QA h hl hq
  have hp := (mq_pos h).2 hl
  have hc := h.c
  have hs := tc_sum x.l (cr0 x q)
  have hsp : sumZ x.l = sumZ (x.l.take (tn (cr0 x q) x.l)) + sumZ (x.l.drop (tn (cr0 x q) x.l)) := by rw [← sumZ_append, List.take_append_drop]
  have hn0 := tc_nonneg x.l (cr0 x q) (by omega)
  by_cases ha : tn (cr0 x q) x.l = x.l.length
  · have hd : x.l.drop (tn (cr0 x q) x.l) = [] := by rw [ha, List.drop_length]
    have et : turnQ x q = ⟨x.w, 0, []⟩ := by
      unfold turnQ
      rw [if_pos ha, hd]
    rw [et]
    refine ⟨⟨h.w, Int.le_refl 0, fun _ => rfl, (fun y r e => by cases e), by simp, (fun y hy => by cases hy)⟩, ?_⟩
    show sumZ [] - 0 + 1 ≤ mq x
    have : sumZ [] = 0 := rfl
    omega
  · have et : turnQ x q = ⟨x.w, tc (cr0 x q) x.l, x.l.drop (tn (cr0 x q) x.l)⟩ := by
      unfold turnQ
      rw [if_neg ha]
    rw [et]
    have hle := tn_le x.l (cr0 x q)
    refine ⟨⟨h.w, hn0, fun e => ?_, fun y r e => tc_head x.l _ y r e, ?_, fun y hy => h.s y (List.mem_of_mem_drop hy)⟩, ?_⟩
    · exfalso
      have := congrArg List.length e
      rw [List.length_drop] at this
      simp at this
      omega
    · show (x.l.drop _).length ≤ 100
      rw [List.length_drop]
      have := h.n
      omega
    · show sumZ (x.l.drop (tn (cr0 x q) x.l)) - tc (cr0 x q) x.l + 1 ≤ sumZ x.l - x.c
      omega
/-- all queues -/
structure FA (f : Nat → Qu) : Prop where
  z : f 0 = ⟨0, 0, []⟩
  q : ∀ p, 1 ≤ p → p < 16 → QA (f p)
theorem FA.ok {f : Nat → Qu} (h : FA f) : ∀ p, p < 16 → QOk (f p) := fun p hp => by
  by_cases e : 1 ≤ p
  · exact qok_QA (h.q p e hp)
  · rw [show p = 0 by omega, h.z]
    exact ⟨by decide, by decide, by decide, (fun y hy => by cases hy)⟩
def mA (f : Nat → Qu) : Int := sumZ ((List.range 16).map fun p => mq (f p))
theorem sumZ_map_le {l : List Nat} {g h : Nat → Int} (hle : ∀ p ∈ l, g p ≤ h p) : sumZ (l.map g) ≤ sumZ (l.map h) := by
  induction l with
  | nil => exact Int.le_refl _
  | cons x l ih =>
    have e1 : sumZ ((x :: l).map g) = g x + sumZ (l.map g) := rfl
    have e2 : sumZ ((x :: l).map h) = h x + sumZ (l.map h) := rfl
    have h1 := hle x (by simp)
    have h2 := ih (fun p hp => hle p (by simp [hp]))
    omega
theorem sumZ_map_lt {l : List Nat} {g h : Nat → Int} (hle : ∀ p ∈ l, g p ≤ h p) {p : Nat} (hp : p ∈ l) (hlt : g p + 1 ≤ h p) : sumZ (l.map g) + 1 ≤ sumZ (l.map h) := by
  induction l with
  | nil => cases hp
  | cons x l ih =>
    have e1 : sumZ ((x :: l).map g) = g x + sumZ (l.map g) := rfl
    have e2 : sumZ ((x :: l).map h) = h x + sumZ (l.map h) := rfl
    have h1 := hle x (by simp)
    have h2 := sumZ_map_le (l := l) (fun p hp => hle p (by simp [hp]))
    rcases List.mem_cons.1 hp with e | hp
    · subst e
      omega
    · have := ih (fun p hp => hle p (by simp [hp])) hp
      omega
theorem mq_zero : mq ⟨0, 0, []⟩ = 0 := rfl
theorem mA_pos {f : Nat → Qu} (h : FA f) : 0 ≤ mA f := by
  have : sumZ ((List.range 16).map fun _ => (0 : Int)) ≤ mA f := sumZ_map_le fun p hp => by
    by_cases e : 1 ≤ p
    · exact (mq_pos (h.q p e (List.mem_range.1 hp))).1
    · rw [show p = 0 by omega, h.z, mq_zero]
      exact Int.le_refl 0
  exact this
theorem turnF_FA {f : Nat → Qu} {q : Int} (h : FA f) (hq : 1 ≤ q ∧ q ≤ 65536) : FA (turnF f q 16) ∧ (∀ p, p < 16 → mq (turnF f q 16 p) ≤ mq (f p)) := by
  refine ⟨⟨by unfold turnF; rw [if_neg (by omega)]; exact h.z, fun p h1 h2 => ?_⟩, fun p hp => ?_⟩
  · unfold turnF
    by_cases e : 1 ≤ p ∧ p < 16 ∧ (f p).l ≠ []
    · rw [if_pos e]
      exact (turn_QA (h.q p h1 h2) e.2.2 hq).1
    · rw [if_neg e]
      exact h.q p h1 h2
  · unfold turnF
    by_cases e : 1 ≤ p ∧ p < 16 ∧ (f p).l ≠ []
    · rw [if_pos e]
      have := (turn_QA (h.q p e.1 hp) e.2.2 hq).2
      omega
    · rw [if_neg e]
      exact Int.le_refl _
theorem mA_turn {f : Nat → Qu} {q : Int} (h : FA f) (hq : 1 ≤ q ∧ q ≤ 65536) (hs : someW f 16 = true) : mA (turnF f q 16) + 1 ≤ mA f := by
  unfold someW at hs
  obtain ⟨p, hp, hd⟩ := List.any_eq_true.1 hs
  have hd' := of_decide_eq_true hd
  have hp16 := List.mem_range.1 hp
  refine sumZ_map_lt (fun p hp => (turnF_FA h hq).2 p (List.mem_range.1 hp)) hp ?_
  unfold turnF
  rw [if_pos ⟨hd'.1, hp16, hd'.2⟩]
  exact (turn_QA (h.q p hd'.1 hp16) hd'.2 hq).2
theorem none_W {f : Nat → Qu} (h : FA f) (hs : ¬ someW f 16 = true) : ∀ p, p < 16 → (f p).l = [] ∧ (f p).c = 0 := by
  intro p hp
  by_cases e : 1 ≤ p
  · have hl : (f p).l = [] := by
      apply Classical.byContradiction
      intro hn
      refine hs (List.any_eq_true.2 ⟨p, List.mem_range.2 hp, decide_eq_true ⟨e, hn⟩⟩)
    exact ⟨hl, (h.q p e hp).e hl⟩
  · rw [show p = 0 by omega, h.z]
    exact ⟨rfl, rfl⟩
/-- the queues behind so many weights -/
def fW (k : Nat) : Nat → Qu := fun p => if 1 ≤ p ∧ p ≤ k then ⟨1 + (p : Int) % 3, 0, []⟩ else ⟨0, 0, []⟩
theorem fW_zero : fW 0 = noQ := by
  funext p
  unfold fW
  rw [if_neg (by omega)]
  rfl
theorem fW_step (k : Nat) : qup (fW k) (k + 1) (weighQ (fW k (k + 1)) (1 + ((k + 1 : Nat) : Int) % 3)) = fW (k + 1) := by
  funext p
  unfold qup
  by_cases e : p = k + 1
  · subst e
    rw [if_pos rfl]
    have e1 : fW k (k + 1) = ⟨0, 0, []⟩ := by unfold fW; rw [if_neg (by omega)]
    have e2 : fW (k + 1) (k + 1) = ⟨1 + ((k + 1 : Nat) : Int) % 3, 0, []⟩ := by unfold fW; rw [if_pos (by omega)]
    rw [e1, e2]
    unfold weighQ
    rw [if_neg (by omega)]
  · rw [if_neg e]
    unfold fW
    by_cases e2 : 1 ≤ p ∧ p ≤ k
    · rw [if_pos e2, if_pos (by omega)]
    · rw [if_neg e2, if_neg (by omega)]
theorem fW_FA : FA (fW 15) := ⟨rfl, fun p h1 h2 => by
  unfold fW
  rw [if_pos (by omega)]
  exact ⟨by dsimp only; omega, Int.le_refl 0, fun _ => rfl, (fun y r e => by cases e), by simp, (fun y hy => by cases hy)⟩⟩
theorem fW_mA : mA (fW 15) = 0 := by decide +kernel
theorem sumZ_qup (l : List Nat) (hl : l.Nodup) (f : Nat → Qu) (p : Nat) (x : Qu) (hp : p ∈ l) : sumZ (l.map fun k => mq (qup f p x k)) = sumZ (l.map fun k => mq (f k)) + (mq x - mq (f p)) := by
  induction l with
  | nil => cases hp
  | cons y l ih =>
    have e1 : ∀ g : Nat → Int, sumZ ((y :: l).map g) = g y + sumZ (l.map g) := fun g => rfl
    rw [e1, e1]
    obtain ⟨hy, hl2⟩ := List.nodup_cons.1 hl
    rcases List.mem_cons.1 hp with e | hp
    · subst e
      have : (l.map fun k => mq (qup f p x k)) = l.map fun k => mq (f k) := List.map_congr_left fun k hk => by
        rw [qup_other f p x (fun e => hy (by rw [← e]; exact hk))]
      rw [this, qup_same]
      omega
    · rw [qup_other f p x (fun e => hy (by rw [e]; exact hp)), ih hl2 hp]
      omega
theorem add_FA {f : Nat → Qu} (h : FA f) {p : Nat} (hp : 1 ≤ p ∧ p ≤ 15) {s : Int} (hs : 1 ≤ s ∧ s ≤ 65536) (hl : (f p).l.length < 100) : FA (qup f p ⟨(f p).w, (f p).c, (f p).l ++ [s]⟩) ∧ mA (qup f p ⟨(f p).w, (f p).c, (f p).l ++ [s]⟩) = mA f + s := by
  have hq := h.q p hp.1 (by omega)
  refine ⟨⟨by rw [qup_other f p _ (by omega)]; exact h.z, fun k h1 h2 => ?_⟩, ?_⟩
  · by_cases e : k = p
    · subst e
      rw [qup_same]
      refine ⟨hq.w, hq.c, fun e => absurd e (by simp), fun y r e => ?_, by simp; omega, fun y hy => ?_⟩
      · dsimp only at e ⊢
        cases hl2 : (f k).l with
        | nil =>
          rw [hl2] at e
          simp at e
          rw [hq.e hl2]
          omega
        | cons z t =>
          rw [hl2] at e
          simp at e
          have := hq.h z t hl2
          omega
      · rcases List.mem_append.1 hy with hy | hy
        · exact hq.s y hy
        · simp at hy; subst hy; exact hs
    · rw [qup_other f p _ e]
      exact h.q k h1 h2
  · unfold mA
    rw [sumZ_qup _ List.nodup_range f p _ (List.mem_range.2 (by omega))]
    have : mq ⟨(f p).w, (f p).c, (f p).l ++ [s]⟩ = mq (f p) + s := by
      unfold mq
      dsimp only
      rw [sumZ_append]
      have : sumZ [s] = s + 0 := rfl
      omega
    omega
/-- what is expected of a peer, behind i of what was sent -/
def rs (S : List (Int × Int)) (f : Nat → Qu) (i p : Nat) : List Int := ((S.drop i).filter fun x => decide (x.1 = (p : Int))).map (·.2) ++ (f p).l
theorem filter_sent (f : Nat → Qu) (q : Int) (p : Nat) : ∀ k, ((sentL f q k).filter fun x => decide (x.1 = (p : Int))) = if p < k then sentP f q p else [] := by
  intro k
  induction k with
  | zero => simp [sentL]
  | succ k ih =>
    rw [sentL_succ, List.filter_append, ih]
    have hk : (sentP f q k).filter (fun x => decide (x.1 = (p : Int))) = if p = k then sentP f q k else [] := by
      unfold sentP
      by_cases h1 : 1 ≤ k
      · rw [if_pos h1]
        by_cases e : p = k
        · subst e
          rw [if_pos rfl, List.filter_eq_self]
          intro x hx
          obtain ⟨s, _, rfl⟩ := List.mem_map.1 hx
          simp
        · rw [if_neg e, List.filter_eq_nil_iff]
          intro x hx
          obtain ⟨s, _, rfl⟩ := List.mem_map.1 hx
          simp
          omega
      · rw [if_neg h1]
        split <;> rfl
    rw [hk]
    by_cases e : p = k
    · subst e
      rw [if_neg (by omega), if_pos rfl, if_pos (by omega), List.nil_append]
    · rw [if_neg e, List.append_nil]
      by_cases e2 : p < k
      · rw [if_pos e2, if_pos (by omega)]
      · rw [if_neg e2, if_neg (by omega)]
theorem rs_zero {f : Nat → Qu} (q : Int) (h : FA f) (p : Nat) (hp : p < 16) : rs (sentL f q 16) (turnF f q 16) 0 p = (f p).l := by
  unfold rs
  rw [List.drop_zero, filter_sent, if_pos hp]
  by_cases e : 1 ≤ p
  · rw [sentP_yes e, List.map_map]
    rw [show ((fun x : Int × Int => x.2) ∘ fun s : Int => ((p : Int), s)) = id from rfl, List.map_id]
    unfold turnF
    by_cases e2 : (f p).l = []
    · rw [e2]
      rw [if_neg (by simp)]
      rw [e2]
      simp
    · rw [if_pos ⟨e, hp, e2⟩]
      unfold turnQ
      exact List.take_append_drop _ _
  · have e0 : p = 0 := by omega
    subst e0
    unfold sentP turnF
    rw [if_neg (by omega), if_neg (by omega)]
    rfl
theorem rs_step {S : List (Int × Int)} {i : Nat} {r : Nat} {s : Int} (h : S[i]? = some ((r : Int), s)) (f : Nat → Qu) : rs S f i r = s :: rs S f (i + 1) r ∧ ∀ p, p ≠ r → rs S f i p = rs S f (i + 1) p := by
  obtain ⟨hi, he⟩ := List.getElem?_eq_some_iff.1 h
  unfold rs
  rw [List.drop_eq_getElem_cons hi, he]
  refine ⟨by simp, fun p hp => ?_⟩
  rw [List.filter_cons_of_neg (by simp; omega)]
theorem rs_end {S : List (Int × Int)} (f : Nat → Qu) (p : Nat) : rs S f S.length p = (f p).l := by
  unfold rs
  rw [List.drop_length]
  rfl
theorem sent_rows (f : Nat → Qu) (q : Int) : ∀ k, ∀ x ∈ sentL f q k, ∃ p : Nat, x.1 = p ∧ 1 ≤ p ∧ p < k := by
  intro k
  induction k with
  | zero => intro x hx; simp [sentL] at hx
  | succ k ih =>
    intro x hx
    rw [sentL_succ] at hx
    rcases List.mem_append.1 hx with hx | hx
    · obtain ⟨p, h1, h2, h3⟩ := ih x hx
      exact ⟨p, h1, h2, by omega⟩
    · unfold sentP at hx
      by_cases h1 : 1 ≤ k
      · rw [if_pos h1] at hx
        obtain ⟨s, _, rfl⟩ := List.mem_map.1 hx
        exact ⟨k, rfl, h1, by omega⟩
      · rw [if_neg h1] at hx
        cases hx
end Go.Proofs.Ytpaecblgilepoaa

/- meter: a share and the document's share: mathematics. -/
import Derived.Test.YtlmmincpjflkdaaMsG
import Derived.Test.YtlmmincpjflkdaaMsH
namespace Go.Proofs.Ytlmmincpjflkdaa
open Go.RowKit
set_option linter.unusedVariables false

def quD (x : Dr) : Qu := ⟨x.w, x.c, x.l⟩
/-- the document's queues are those of the share -/
structure Sim (f : Nat → Qu) (D : List Dr) : Prop where
  srt : Srt D
  rng : ∀ x ∈ D, 1 ≤ x.p ∧ x.p ≤ 15
  ag : ∀ p : Nat, 1 ≤ p → p ≤ 15 → f p = quD (findD D p)
  ok : ∀ p, p < 16 → QOk (f p)
  z : f 0 = ⟨0, 0, []⟩
theorem Sim.mem {f : Nat → Qu} {D : List Dr} (h : Sim f D) {x : Dr} (hx : x ∈ D) : f x.p.toNat = quD x := by
  have hr := h.rng x hx
  have := h.ag x.p.toNat (by omega) (by omega)
  rw [this, show ((x.p.toNat : Nat) : Int) = x.p by omega, find_mem h.srt hx]
theorem Sim.dok {f : Nat → Qu} {D : List Dr} (h : Sim f D) : ∀ x ∈ D, DOk x := fun x hx => by
  have hr := h.rng x hx
  have h1 := h.ok x.p.toNat (by omega)
  rw [h.mem hx] at h1
  exact ⟨h1.w, h1.c, h1.n, h1.s⟩
theorem srt_len : ∀ (D : List Dr) (a b : Int), Srt D → (∀ x ∈ D, a ≤ x.p ∧ x.p ≤ b) → (D.length : Int) ≤ max 0 (b - a + 1)
  | [], a, b, _, _ => by simp; omega
  | x :: D, a, b, h, hr => by
    have h1 : ∀ {y : Dr}, y ∈ D → x.p < y.p := fun {y} hy => List.rel_of_pairwise_cons h hy
    have ih := srt_len D (x.p + 1) b h.of_cons (fun y hy => by have := h1 hy; have := hr y (List.mem_cons_of_mem _ hy); omega)
    have := hr x List.mem_cons_self
    simp only [List.length_cons]
    omega
theorem Sim.len {f : Nat → Qu} {D : List Dr} (h : Sim f D) : D.length ≤ 15 := by
  have := srt_len D 1 15 h.srt h.rng
  omega
theorem Sim.start : Sim noQ [] :=
  ⟨List.Pairwise.nil, (fun x hx => by cases hx), fun p _ _ => rfl, fun p _ => ⟨by simp [noQ], by simp [noQ], by simp [noQ], by simp [noQ]⟩, rfl⟩
theorem Sim.set {f : Nat → Qu} {D : List Dr} (h : Sim f D) (q : Dr) (p : Nat) (hp : 1 ≤ p ∧ p ≤ 15) (hq : q.p = p) (x : Qu) (hx : x = quD q) (hok : QOk x) : Sim (qup f p x) (withD D q) := by
  refine ⟨withD_srt h.srt, fun y hy => ?_, fun k h1 h2 => ?_, fun k hk => ?_, ?_⟩
  · rcases withD_mem h.srt hy with rfl | hy
    · omega
    · exact h.rng y hy
  · by_cases e : k = p
    · subst e
      rw [qup_same, hx, ← hq, find_with_same h.srt]
    · rw [qup_other f p _ e, find_with_other h.srt (by omega)]
      exact h.ag k h1 h2
  · by_cases e : k = p
    · subst e; rw [qup_same]; exact hok
    · rw [qup_other f p _ e]; exact h.ok k hk
  · rw [qup_other f p _ (by omega)]; exact h.z
theorem Sim.weigh {f : Nat → Qu} {D : List Dr} (h : Sim f D) (p : Nat) (n : Int) (hp : 1 ≤ p ∧ p ≤ 15) (hn : 0 ≤ n ∧ n ≤ 16) : Sim (qup f p (weighQ (f p) n)) (withD D (weighD D p n)) := by
  have hok := h.ok p (by omega)
  have hag := h.ag p hp.1 hp.2
  refine h.set _ p hp ?_ _ ?_ ?_
  · unfold weighD
    split
    · rfl
    · exact find_p D p
  · unfold weighQ weighD
    split
    · rfl
    · rw [hag]; rfl
  · unfold weighQ
    split
    · exact ⟨by simp, by simp, by simp, by simp⟩
    · exact ⟨hn, hok.c, hok.n, hok.s⟩
theorem Sim.add {f : Nat → Qu} {D : List Dr} (h : Sim f D) (p : Nat) (s : Int) (hp : 1 ≤ p ∧ p ≤ 15) (hs : 1 ≤ s ∧ s ≤ 65536) (hl : (f p).l.length < 100) (xa : Option Addr) (xk : Nat) : Sim (qup f p ⟨(f p).w, (f p).c, (f p).l ++ [s]⟩) (withD D ⟨(findD D p).p, (findD D p).w, (findD D p).c, (findD D p).l ++ [s], xa, xk⟩) := by
  have hok := h.ok p (by omega)
  have hag := h.ag p hp.1 hp.2
  refine h.set ⟨(findD D p).p, (findD D p).w, (findD D p).c, (findD D p).l ++ [s], xa, xk⟩ p hp (find_p D p) ⟨(f p).w, (f p).c, (f p).l ++ [s]⟩ (by rw [hag]; rfl) ⟨hok.w, hok.c, by rw [List.length_append, List.length_singleton]; omega, fun y hy => ?_⟩
  rcases List.mem_append.1 hy with hy | hy
  · exact hok.s y hy
  · obtain rfl := List.mem_singleton.1 hy
    exact hs
theorem tc_in (l : List Int) (h : ∀ y ∈ l, 1 ≤ y ∧ y ≤ 65536) : ∀ c, 0 ≤ c → 0 ≤ tc c l ∧ tc c l ≤ c := by
  induction l with
  | nil => intro c hc; exact ⟨hc, Int.le_refl _⟩
  | cons x r ih =>
    intro c hc
    unfold tc
    split
    · have hx := h x List.mem_cons_self
      have := ih (fun y hy => h y (List.mem_cons_of_mem _ hy)) (c - x) (by omega)
      omega
    · exact ⟨hc, Int.le_refl _⟩
theorem turnQ_ok {x : Qu} {q : Int} (h : QOk x) (hq : 1 ≤ q ∧ q ≤ 65536) : QOk (turnQ x q) := by
  have hm : 0 ≤ x.w * q := Int.mul_nonneg h.w.1 (by omega)
  have hc : 0 ≤ cr0 x q ∧ cr0 x q ≤ 16777216 := by unfold cr0; have := h.c; omega
  have ht := tc_in x.l h.s (cr0 x q) hc.1
  unfold turnQ
  refine ⟨h.w, ?_, ?_, fun y hy => h.s y (List.mem_of_mem_drop hy)⟩
  · dsimp only
    split <;> omega
  · have := h.n
    dsimp only
    rw [List.length_drop]
    omega
/-- the queues behind the turns of some peers -/
def turnP (f : Nat → Qu) (q : Int) (P : Nat → Bool) : Nat → Qu := fun p => if P p = true ∧ (f p).l ≠ [] then turnQ (f p) q else f p
def pr (D : List Dr) (i p : Nat) : Bool := (D.take i).any fun x => decide (x.p = (p : Int))
theorem pr_iff (D : List Dr) (i p : Nat) : pr D i p = true ↔ ∃ x ∈ D.take i, x.p = (p : Int) := by
  unfold pr
  rw [List.any_eq_true]
  constructor
  · rintro ⟨x, h1, h2⟩; exact ⟨x, h1, by simpa using h2⟩
  · rintro ⟨x, h1, h2⟩; exact ⟨x, h1, by simpa using h2⟩
theorem quD_turn (x : Dr) (q : Int) : quD (tqD x q) = turnQ (quD x) q := rfl
theorem tS_sim {f : Nat → Qu} {D : List Dr} (h : Sim f D) {q : Int} (hq : 1 ≤ q ∧ q ≤ 65536) : ∀ i, i ≤ D.length → Sim (turnP f q (pr D i)) (tS D q i)
  | 0, _ => by
    have : (turnP f q (pr D 0)) = f := by
      funext p
      unfold turnP pr
      rw [if_neg (by simp)]
    rw [this]
    exact h
  | i + 1, hi => by
    have ih := tS_sim h hq i (by omega)
    obtain ⟨x, hx⟩ : ∃ x, D[i]? = some x := ⟨_, List.getElem?_eq_getElem (by omega)⟩
    have hxm := List.mem_of_getElem? hx
    have hr := h.rng x hxm
    have hto : D.take (i + 1) = D.take i ++ [x] := by
      obtain ⟨h1, rfl⟩ := List.getElem?_eq_some_iff.1 hx
      exact List.take_succ_eq_append_getElem h1
    have hfx := h.mem hxm
    have hnot : ¬ ∃ y ∈ D.take i, y.p = ((x.p.toNat : Nat) : Int) := by
      rintro ⟨y, hy, e⟩
      obtain ⟨j, hj⟩ := List.getElem?_of_mem hy
      rw [List.getElem?_take] at hj
      split at hj
      · rename_i hji
        obtain ⟨h1, rfl⟩ := List.getElem?_eq_some_iff.1 hx
        obtain ⟨h2, rfl⟩ := List.getElem?_eq_some_iff.1 hj
        have := List.pairwise_iff_getElem.1 h.srt j i h2 h1 hji
        omega
      · cases hj
    have hP : ∀ p : Nat, pr D (i + 1) p = true ↔ (pr D i p = true ∨ p = x.p.toNat) := fun p => by
      rw [pr_iff, pr_iff, hto]
      constructor
      · rintro ⟨y, hy, e⟩
        rcases List.mem_append.1 hy with hy | hy
        · exact .inl ⟨y, hy, e⟩
        · obtain rfl := List.mem_singleton.1 hy
          exact .inr (by omega)
      · rintro (⟨y, hy, e⟩ | e)
        · exact ⟨y, List.mem_append_left _ hy, e⟩
        · exact ⟨x, List.mem_append_right _ List.mem_cons_self, by omega⟩
    by_cases hl : x.l = []
    · have hfl : (f x.p.toNat).l = [] := by rw [hfx]; exact hl
      rw [(tS_no (Q := q) hx hl).1]
      have : turnP f q (pr D (i + 1)) = turnP f q (pr D i) := by
        funext p
        unfold turnP
        by_cases e : p = x.p.toNat
        · subst e
          rw [if_neg (fun h => h.2 hfl), if_neg (fun h => h.2 hfl)]
        · by_cases h1 : pr D i p = true
          · by_cases h2 : (f p).l ≠ []
            · rw [if_pos ⟨(hP p).2 (.inl h1), h2⟩, if_pos ⟨h1, h2⟩]
            · rw [if_neg (fun h => h2 h.2), if_neg (fun h => h2 h.2)]
          · rw [if_neg (fun h => by rcases (hP p).1 h.1 with h | h; exact h1 h; exact e h), if_neg (fun h => h1 h.1)]
      rw [this]
      exact ih
    · have hfl : (f x.p.toNat).l ≠ [] := by rw [hfx]; exact hl
      rw [(tS_yes (Q := q) hx hl).1]
      have : turnP f q (pr D (i + 1)) = qup (turnP f q (pr D i)) x.p.toNat (turnQ (f x.p.toNat) q) := by
        funext p
        by_cases e : p = x.p.toNat
        · subst e
          rw [qup_same]
          unfold turnP
          rw [if_pos ⟨(hP _).2 (.inr rfl), hfl⟩]
        · rw [qup_other _ _ _ e]
          unfold turnP
          by_cases h1 : pr D i p = true
          · by_cases h2 : (f p).l ≠ []
            · rw [if_pos ⟨(hP p).2 (.inl h1), h2⟩, if_pos ⟨h1, h2⟩]
            · rw [if_neg (fun h => h2 h.2), if_neg (fun h => h2 h.2)]
          · rw [if_neg (fun h => by rcases (hP p).1 h.1 with h | h; exact h1 h; exact e h), if_neg (fun h => h1 h.1)]
      rw [this]
      refine ih.set (tqD x q) x.p.toNat (by omega) (by show x.p = _; omega) _ (by rw [hfx]; rfl) (turnQ_ok (h.ok _ (by omega)) hq)
theorem Sim.ext {f g : Nat → Qu} {D : List Dr} (h : Sim f D) (e : ∀ p, p < 16 → f p = g p) : Sim g D :=
  ⟨h.srt, h.rng, fun p h1 h2 => by rw [← e p (by omega)]; exact h.ag p h1 h2, fun p hp => by rw [← e p hp]; exact h.ok p hp, by rw [← e 0 (by omega)]; exact h.z⟩
theorem Sim.absent {f : Nat → Qu} {D : List Dr} (h : Sim f D) {p : Nat} (hp : 1 ≤ p ∧ p ≤ 15) (hn : ¬ ∃ x ∈ D, x.p = (p : Int)) : f p = ⟨0, 0, []⟩ := by
  rw [h.ag p hp.1 hp.2]
  rcases find_in (D := D) (p := (p : Int)) with h1 | ⟨_, h1⟩
  · exact absurd ⟨_, h1, find_p D p⟩ hn
  · rw [h1]; rfl
theorem Sim.turn {f : Nat → Qu} {D : List Dr} (h : Sim f D) {q : Int} (hq : 1 ≤ q ∧ q ≤ 65536) : Sim (turnF f q 16) (tS D q D.length) := by
  refine (tS_sim h hq D.length (Nat.le_refl _)).ext (fun p hp => ?_)
  unfold turnP turnF
  by_cases h1 : (f p).l ≠ []
  · by_cases hp0 : 1 ≤ p
    · have hex : ∃ x ∈ D, x.p = (p : Int) := Classical.byContradiction fun hn => h1 (by rw [h.absent ⟨hp0, by omega⟩ hn])
      rw [if_pos ⟨(pr_iff D _ p).2 (by rw [List.take_length]; exact hex), h1⟩, if_pos ⟨hp0, hp, h1⟩]
    · rw [if_neg, if_neg (fun h => hp0 h.1)]
      rintro ⟨hpr, _⟩
      obtain ⟨x, hx, e⟩ := (pr_iff D _ p).1 hpr
      rw [List.take_length] at hx
      have := h.rng x hx
      omega
  · rw [if_neg (fun h => h1 h.2), if_neg (fun h => h1 h.2.2)]
end Go.Proofs.Ytlmmincpjflkdaa

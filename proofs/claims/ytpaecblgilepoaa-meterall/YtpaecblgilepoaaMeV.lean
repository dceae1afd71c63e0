/- meter: what is expected of each peer: an array of rows. -/
import Derived.Test.YtpaecblgilepoaaMeU
namespace Go.Proofs.Ytpaecblgilepoaa
open Go.RowKit
set_option linter.unusedVariables false
attribute [local go_sem] Oper.semAt_some

/-- block a: sixteen rows of the call's own, apart from one another and from the share's -/
structure WA (w : World) (B a : Nat) (V U : Nat → Value) (L : Nat → List Int) : Prop where
  hb : B ≤ a
  blk : ∃ cs, w.heap[a]? = some (.cells cs 62 (0, 0))
  us : ∀ p, p < 16 → w.cell? ⟨a, p, none⟩ = some (U p)
  own : ∀ p, p < 16 → OwnI w B (U p) (L p)
  uu : ∀ p p', p < 16 → p' < 16 → p ≠ p' → (U p).ownBlock = none ∨ (U p).ownBlock ≠ (U p').ownBlock
  uv : ∀ p p', p < 16 → p' < 16 → (U p).ownBlock = none ∨ (U p).ownBlock ≠ (V p').ownBlock
/-- the same, parts of rows that are read alone -/
structure WB (w : World) (B a : Nat) (V U : Nat → Value) (L : Nat → List Int) : Prop where
  hb : B ≤ a
  blk : ∃ cs, w.heap[a]? = some (.cells cs 62 (0, 0))
  us : ∀ p, p < 16 → w.cell? ⟨a, p, none⟩ = some (U p)
  ints : ∀ p, p < 16 → ∃ a0 c, U p = .slice a0 (L p).length c ∧ Ints w a0 (L p) ∧ (L p).length ≤ c ∧ c ≤ maxLen
  ub : ∀ p x, p < 16 → (U p).ownBlock = some x → (∃ cs, w.heap[x]? = some (.cells cs 3 (0, 0))) ∧ ∀ p', p' < 16 → (V p').ownBlock ≠ some x
theorem WA.lt {w : World} {B a : Nat} {V U : Nat → Value} {L : Nat → List Int} (h : WA w B a V U L) : a < w.heap.size := by
  obtain ⟨cs, hc⟩ := h.blk
  exact lt_of_block hc
theorem WB.lt {w : World} {B a : Nat} {V U : Nat → Value} {L : Nat → List Int} (h : WB w B a V U L) : a < w.heap.size := by
  obtain ⟨cs, hc⟩ := h.blk
  exact lt_of_block hc
theorem WB.free {w : World} {B a : Nat} {V U : Nat → Value} {L : Nat → List Int} (h : WB w B a V U L) (j : Nat) : w.frozen? ⟨a, j, none⟩ = false := by
  obtain ⟨cs, hc⟩ := h.blk
  simp [World.frozen?, hc]
theorem WA.toWB {w : World} {B a : Nat} {V U : Nat → Value} {L : Nat → List Int} (h : WA w B a V U L) : WB w B a V U L :=
  ⟨h.hb, h.blk, h.us, fun p hp => (h.own p hp).ints, fun p x hp hx => ⟨own_blk (h.own p hp) hx, fun p' hp' e => by
    rcases h.uv p p' hp hp' with h1 | h1
    · rw [h1] at hx; cases hx
    · exact h1 (hx.trans e.symm)⟩⟩
/-- a share's block and rows are none of these -/
theorem WB.keepers {w w' : World} {B b a : Nat} {q : Int} {f : Nat → Qu} {V V' U : Nat → Value} {L : Nat → List Int} (h : WB w B a V U L) (s : ShAt w B b q f V) (t : ShStep w w' b V V') : w'.heap[a]? = w.heap[a]? ∧ ∀ p x, p < 16 → (U p).ownBlock = some x → w'.heap[x]? = w.heap[x]? := by
  obtain ⟨cs, hc⟩ := h.blk
  obtain ⟨cb, hb⟩ := s.blk
  refine ⟨t.block a h.lt (fun e => ?_) (fun p hp e => ?_), fun p x hp hx => ?_⟩
  · rw [e] at hc
    exact two_types hc hb (by decide)
  · obtain ⟨ci, hi⟩ := own_blk (s.own p hp) e
    exact two_types hc hi (by decide)
  · obtain ⟨⟨ci, hi⟩, hv⟩ := h.ub p x hp hx
    exact t.block x (lt_of_block hi) (fun e => by rw [e] at hi; exact two_types hi hb (by decide)) hv
theorem WB.step {w w' : World} {B b a : Nat} {q : Int} {f : Nat → Qu} {V V' U : Nat → Value} {L : Nat → List Int} (h : WB w B a V U L) (s : ShAt w B b q f V) (t : ShStep w w' b V V') : WB w' B a V' U L := by
  obtain ⟨k1, k2⟩ := h.keepers s t
  refine ⟨h.hb, by rw [k1]; exact h.blk, fun p hp => (World.cell?_of_block k1).trans (h.us p hp), fun p hp => ?_, fun p x hp hx => ?_⟩
  · obtain ⟨a0, c, h1, h2, h3⟩ := h.ints p hp
    refine ⟨a0, c, h1, fun i hi => ?_, h3⟩
    obtain ⟨g, o, e1, e2⟩ := h2 i hi
    exact ⟨g, o, e1, (World.cell?_of_block (a := ⟨g, o + i, none⟩) (k2 p g hp (by rw [h1, e1]; rfl))).trans e2⟩
  · obtain ⟨⟨ci, hi⟩, hv⟩ := h.ub p x hp hx
    refine ⟨⟨ci, (k2 p x hp hx).trans hi⟩, fun p' hp' e => ?_⟩
    rcases t.new p' hp' with h1 | h1
    · exact hv p' hp' (h1 ▸ e)
    · have := h1 x e
      have := lt_of_block hi
      omega
theorem WA.step {w w' : World} {B b a : Nat} {q : Int} {f : Nat → Qu} {V V' U : Nat → Value} {L : Nat → List Int} (h : WA w B a V U L) (s : ShAt w B b q f V) (t : ShStep w w' b V V') : WA w' B a V' U L := by
  obtain ⟨k1, k2⟩ := h.toWB.keepers s t
  refine ⟨h.hb, by rw [k1]; exact h.blk, fun p hp => (World.cell?_of_block k1).trans (h.us p hp), fun p hp => ownI_keep (h.own p hp) (fun k hk => k2 p k hp hk), h.uu, fun p p' hp hp' => ?_⟩
  rcases h.uv p p' hp hp' with h1 | h1
  · exact .inl h1
  · rcases t.new p' hp' with h2 | h2
    · exact .inr (by rw [h2]; exact h1)
    · by_cases hn : (U p).ownBlock = none
      · exact .inl hn
      · obtain ⟨x, hx⟩ := Option.ne_none_iff_exists'.1 hn
        refine .inr (fun e => ?_)
        have := h2 x (e.symm.trans hx)
        obtain ⟨ci, hi⟩ := own_blk (h.own p hp) hx
        have := lt_of_block hi
        omega
theorem WB.up {w w' : World} {B a : Nat} {V U : Nat → Value} {L : Nat → List Int} (h : WB w B a V U L) (hb : Below w.heap.size w w') : WB w' B a V U L := by
  have k1 := hb.block a h.lt
  refine ⟨h.hb, by rw [k1]; exact h.blk, fun p hp => (World.cell?_of_block k1).trans (h.us p hp), fun p hp => ?_, fun p x hp hx => ?_⟩
  · obtain ⟨a0, c, h1, h2, h3⟩ := h.ints p hp
    exact ⟨a0, c, h1, h2.below hb, h3⟩
  · obtain ⟨⟨ci, hi⟩, hv⟩ := h.ub p x hp hx
    exact ⟨⟨ci, (hb.block x (lt_of_block hi)).trans hi⟩, hv⟩
/-- a row in its place, shorter by one -/
theorem WB.set {w : World} {B a : Nat} {V U : Nat → Value} {L : Nat → List Int} (h : WB w B a V U L) (p : Nat) (hp : p < 16) {g o n c : Nat} {s : Int} {r : List Int} (hl : L p = s :: r) (hu : U p = .slice (some ⟨g, o, none⟩) n c) :
    WB (w.setCell ⟨a, p, none⟩ (.slice (some ⟨g, o + 1, none⟩) (n - 1) (c - 1))) B a V (qup U p (.slice (some ⟨g, o + 1, none⟩) (n - 1) (c - 1))) (qup L p r) := by
  obtain ⟨ca, hca⟩ := h.blk
  have oth : ∀ x, x ≠ a → (w.setCell ⟨a, p, none⟩ (.slice (some ⟨g, o + 1, none⟩) (n - 1) (c - 1))).heap[x]? = w.heap[x]? := fun x hx => Below.heap_setCell _ _ _ _ hx
  have nota : ∀ k x, k < 16 → (U k).ownBlock = some x → x ≠ a := fun k x hk hx e => by
    obtain ⟨⟨ci, hi⟩, _⟩ := h.ub k x hk hx
    rw [e] at hi
    exact two_types hca hi (by decide)
  refine ⟨h.hb, ⟨_, heap_setCell_same w a p ca _ _ hca⟩, fun k hk => ?_, fun k hk => ?_, fun k x hk hx => ?_⟩
  · by_cases e : k = p
    · subst e
      rw [qup_same]
      exact World.cell?_setCell_same _ _ _ (h.us k hk)
    · rw [qup_other U p _ e, cellB (fun h => e h.symm)]
      exact h.us k hk
  · by_cases e : k = p
    · subst e
      rw [qup_same, qup_same]
      obtain ⟨a0, c', h1, h2, h3, h4⟩ := h.ints k hk
      rw [hu, hl] at h1
      simp only [Value.slice.injEq] at h1
      obtain ⟨e1, e2, e3⟩ := h1
      rw [hl] at h2 h3
      simp at e2 h3
      refine ⟨_, _, by rw [e2]; rfl, fun i hi => ?_, by omega, by omega⟩
      obtain ⟨g', o', e4, e5⟩ := h2 (i + 1) (by simpa using hi)
      rw [← e1] at e4
      simp only [Option.some.injEq, Addr.mk.injEq, and_true] at e4
      obtain ⟨rfl, rfl⟩ := e4
      refine ⟨g, o + 1, rfl, ?_⟩
      have hga : g ≠ a := nota k g hk (by rw [hu]; rfl)
      rw [show o + 1 + i = o + (i + 1) by omega]
      exact (World.cell?_of_block (a := ⟨g, o + (i + 1), none⟩) (oth g hga)).trans e5
    · rw [qup_other U p _ e, qup_other L p _ e]
      obtain ⟨a0, c', h1, h2, h3⟩ := h.ints k hk
      refine ⟨a0, c', h1, fun i hi => ?_, h3⟩
      obtain ⟨g', o', e4, e5⟩ := h2 i hi
      exact ⟨g', o', e4, (World.cell?_of_block (a := ⟨g', o' + i, none⟩) (oth g' (nota k g' hk (by rw [h1, e4]; rfl)))).trans e5⟩
  · have key : ∃ k', k' < 16 ∧ (U k').ownBlock = some x := by
      by_cases e : k = p
      · subst e
        rw [qup_same] at hx
        exact ⟨k, hk, by rw [hu]; exact hx⟩
      · rw [qup_other U p _ e] at hx
        exact ⟨k, hk, hx⟩
    obtain ⟨k', hk', hx'⟩ := key
    obtain ⟨⟨ci, hi⟩, hv⟩ := h.ub k' x hk' hx'
    exact ⟨⟨ci, (oth x (nota k' x hk' hx')).trans hi⟩, hv⟩
/-- sixteen empty rows -/
def nilA : Array Value := #[.slice none 0 0, .slice none 0 0, .slice none 0 0, .slice none 0 0, .slice none 0 0, .slice none 0 0, .slice none 0 0, .slice none 0 0, .slice none 0 0, .slice none 0 0, .slice none 0 0, .slice none 0 0, .slice none 0 0, .slice none 0 0, .slice none 0 0, .slice none 0 0]
theorem nilA_get (p : Nat) (hp : p < 16) : nilA[p]? = some (.slice none 0 0) := by
  unfold nilA
  rcases (show p = 0 ∨ p = 1 ∨ p = 2 ∨ p = 3 ∨ p = 4 ∨ p = 5 ∨ p = 6 ∨ p = 7 ∨ p = 8 ∨ p = 9 ∨ p = 10 ∨ p = 11 ∨ p = 12 ∨ p = 13 ∨ p = 14 ∨ p = 15 by omega) with rfl | rfl | rfl | rfl | rfl | rfl | rfl | rfl | rfl | rfl | rfl | rfl | rfl | rfl | rfl | rfl <;> rfl
theorem WA.new (w : World) (B : Nat) (V : Nat → Value) (hB : B ≤ w.heap.size) : WA (w.alloc (.cells nilA 62)) B w.heap.size V noV (fun _ => []) :=
  ⟨hB, ⟨_, heap_alloc_new w _⟩, fun p hp => by rw [cell_of_row _ _ _ _ _ _ (heap_alloc_new w _)]; exact nilA_get p hp, fun p hp => World.ownsRow_nil _ _ _ _, fun _ _ _ _ _ => .inl rfl, fun _ _ _ _ => .inl rfl⟩
end Go.Proofs.Ytpaecblgilepoaa

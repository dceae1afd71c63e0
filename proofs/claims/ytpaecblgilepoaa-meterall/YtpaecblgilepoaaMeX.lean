/- MeterAll: what is expected of each peer, turn by turn. -/
import Derived.Test.YtpaecblgilepoaaMeW
namespace Go.Proofs.Ytpaecblgilepoaa
open Go.RowKit
set_option linter.unusedVariables false
attribute [local go_sem] Oper.semAt_some

/-- a row in its place, its first one gone -/
theorem WB.set2 {w : World} {B a : Nat} {V U : Nat → Value} {L : Nat → List Int} (h : WB w B a V U L) (p : Nat) (hp : p < 16) {g o n c o' c' m : Nat} {s : Int} {r : List Int} (hl : L p = s :: r) (hu : U p = .slice (some ⟨g, o, none⟩) n c)
    (hm : m = r.length) (ho : r ≠ [] → o' = o + 1) (hmc : m ≤ c') (hcm : c' ≤ maxLen) :
    WB (w.setCell ⟨a, p, none⟩ (.slice (some ⟨g, o', none⟩) m c')) B a V (qup U p (.slice (some ⟨g, o', none⟩) m c')) (qup L p r) := by
  obtain ⟨ca, hca⟩ := h.blk
  have oth : ∀ x, x ≠ a → (w.setCell ⟨a, p, none⟩ (.slice (some ⟨g, o', none⟩) m c')).heap[x]? = w.heap[x]? := fun x hx => Below.heap_setCell _ _ _ _ hx
  have nota : ∀ k x, k < 16 → (U k).ownBlock = some x → x ≠ a := fun k x hk hx e => by
    obtain ⟨⟨ci, hi⟩, _⟩ := h.ub k x hk hx
    rw [e] at hi
    exact two_types hca hi (by decide)
  refine ⟨h.hb, ⟨_, heap_setCell_same w a p ca _ _ hca⟩, fun k hk => ?_, fun k hk => ?_, fun k x hk hx => ?_⟩
  · by_cases e : k = p
    · subst e
      rw [qup_same]
      exact World.cell?_setCell_same _ _ _ (h.us k hk)
    · rw [qup_other U p _ e, cellB (fun h => e h.symm)]
      exact h.us k hk
  · by_cases e : k = p
    · subst e
      rw [qup_same, qup_same]
      obtain ⟨a0, cc, h1, h2, h3, h4⟩ := h.ints k hk
      rw [hu, hl] at h1
      simp only [Value.slice.injEq] at h1
      obtain ⟨e1, e2, e3⟩ := h1
      rw [hl] at h2 h3
      refine ⟨_, _, by rw [hm], fun i hi => ?_, by omega, by omega⟩
      have hr : r ≠ [] := fun e => by rw [e] at hi; simp at hi
      obtain ⟨g', o2, e4, e5⟩ := h2 (i + 1) (by simpa using hi)
      rw [← e1] at e4
      simp only [Option.some.injEq, Addr.mk.injEq, and_true] at e4
      obtain ⟨rfl, rfl⟩ := e4
      refine ⟨g, o', rfl, ?_⟩
      have hga : g ≠ a := nota k g hk (by rw [hu]; rfl)
      have e0 := ho hr
      subst e0
      rw [show o + 1 + i = o + (i + 1) by omega]
      exact (World.cell?_of_block (a := ⟨g, o + (i + 1), none⟩) (oth g hga)).trans e5
    · rw [qup_other U p _ e, qup_other L p _ e]
      obtain ⟨a0, cc, h1, h2, h3⟩ := h.ints k hk
      refine ⟨a0, cc, h1, fun i hi => ?_, h3⟩
      obtain ⟨g', o2, e4, e5⟩ := h2 i hi
      exact ⟨g', o2, e4, (World.cell?_of_block (a := ⟨g', o2 + i, none⟩) (oth g' (nota k g' hk (by rw [h1, e4]; rfl)))).trans e5⟩
  · have key : ∃ k', k' < 16 ∧ (U k').ownBlock = some x := by
      by_cases e : k = p
      · subst e
        rw [qup_same] at hx
        exact ⟨k, hk, by rw [hu]; exact hx⟩
      · rw [qup_other U p _ e] at hx
        exact ⟨k, hk, hx⟩
    obtain ⟨k', hk', hx'⟩ := key
    obtain ⟨⟨ci, hi⟩, hv⟩ := h.ub k' x hk' hx'
    exact ⟨⟨ci, (oth x (nota k' x hk' hx')).trans hi⟩, hv⟩
theorem WB.congr {w : World} {B a : Nat} {V U : Nat → Value} {L L' : Nat → List Int} (h : WB w B a V U L) (he : ∀ p, p < 16 → L p = L' p) : WB w B a V U L' :=
  ⟨h.hb, h.blk, h.us, fun p hp => by rw [← he p hp]; exact h.ints p hp, h.ub⟩
/-- a share and what is expected of it, read alone -/
structure AT (w : World) (b a : Nat) (q : Int) (f : Nat → Qu) (L : Nat → List Int) (x : World) : Prop where
  ex : ∃ V U, ShAt x w.heap.size b q f V ∧ WB x w.heap.size a V U L
  be : Below w.heap.size w x
theorem AI.at {w : World} {b a : Nat} {q : Int} {f : Nat → Qu} {L : Nat → List Int} {x : World} (h : AI w b a q f L x) : AT w b a q f L x := by
  obtain ⟨V, U, h1, h2⟩ := h.ex
  exact ⟨⟨V, U, h1, h2.toWB⟩, h.be⟩
theorem AT.up {w : World} {b a : Nat} {q : Int} {f : Nat → Qu} {L : Nat → List Int} {x y : World} (h : AT w b a q f L x) (hb : Below x.heap.size x y) : AT w b a q f L y := by
  obtain ⟨V, U, h1, h2⟩ := h.ex
  exact ⟨⟨V, U, h1.up hb, h2.up hb⟩, h.be.trans (hb.mono h.be.size)⟩
theorem AT.drew {w : World} {b a : Nat} {q : Int} {f : Nat → Qu} {L : Nat → List Int} {x : World} (h : AT w b a q f L x) : AT w b a q f L x.drew := by
  obtain ⟨V, U, h1, h2⟩ := h.ex
  exact ⟨⟨V, U, h1.drew, ⟨h2.hb, h2.blk, h2.us, h2.ints, h2.ub⟩⟩, h.be.drew⟩
theorem AT.congr {w : World} {b a : Nat} {q : Int} {f : Nat → Qu} {L L' : Nat → List Int} {x : World} (h : AT w b a q f L x) (he : ∀ p, p < 16 → L p = L' p) : AT w b a q f L' x := by
  obtain ⟨V, U, h1, h2⟩ := h.ex
  exact ⟨⟨V, U, h1, h2.congr he⟩, h.be⟩
/-- behind a turn: what was sent, and what is expected -/
theorem AT.turn {w : World} {b a : Nat} {q : Int} {f : Nat → Qu} {x : World} (h : AT w b a q f (fun p => (f p).l) x) (hf : FA f) (hq : 1 ≤ q ∧ q ≤ 65536) :
    Calls Try.prog 24 #[.pointer (some ⟨b, 0, none⟩)] x fun e w' => ∃ v, e = .returned (.tuple #[v, .int .i64 (turnE f 16)]) ∧ OwnSt w' x.heap.size v (sentL f q 16) ∧ AT w b a q (turnF f q 16) (rs (sentL f q 16) (turnF f q 16) 0) w' := by
  obtain ⟨V, U, h1, h2⟩ := h.ex
  refine (turns_any w.heap.size b q f V x h1 hq hf.ok).mono ?_
  rintro e w' ⟨v, he, hR⟩
  obtain ⟨V', s1, s2⟩ := hR.sh
  exact ⟨v, he, hR.st, ⟨V', U, s1, (h2.step h1 s2).congr (fun p hp => (rs_zero q hf p hp).symm)⟩, h.be.trans (s2.below h1)⟩
/-- a row of what is expected loses its first one -/
theorem AT.put {w : World} {b a : Nat} {q : Int} {f : Nat → Qu} {L : Nat → List Int} {x : World} (h : AT w b a q f L x) (p : Nat) (hp : p < 16) {s : Int} {r : List Int} (hl : L p = s :: r) {g o n c : Nat} (hc : x.cell? ⟨a, p, none⟩ = some (.slice (some ⟨g, o, none⟩) n c))
    (o' c' : Nat) (k1 : r ≠ [] → o' = o + 1) (k2 : r.length ≤ c') (k3 : c' ≤ maxLen) : AT w b a q f (qup L p r) (x.setCell ⟨a, p, none⟩ (.slice (some ⟨g, o', none⟩) r.length c')) := by
  obtain ⟨V, U, h1, h2⟩ := h.ex
  have e1 : U p = .slice (some ⟨g, o, none⟩) n c := by
    have := (h2.us p hp).symm.trans hc
    exact Option.some.inj this
  refine ⟨⟨V, _, ?_, h2.set2 p hp hl e1 rfl k1 k2 k3⟩, h.be.setCell (p := ⟨a, p, none⟩) h2.hb _⟩
  obtain ⟨ca, hca⟩ := h2.blk
  obtain ⟨cb, hcb⟩ := h1.blk
  refine h1.keep (Below.heap_setCell _ _ _ _ (fun e => ?_)) (fun k z hk hz => Below.heap_setCell _ _ _ _ (fun e => ?_))
  · rw [e] at hcb
    exact two_types hca hcb (by decide)
  · obtain ⟨cs, hc⟩ := own_blk (h1.own k hk) hz
    rw [e] at hc
    exact two_types hca hc (by decide)
/-- a row of what is expected, and its first one -/
theorem AT.row {w : World} {b a : Nat} {q : Int} {f : Nat → Qu} {L : Nat → List Int} {x : World} (h : AT w b a q f L x) (p : Nat) (hp : p < 16) {s : Int} {r : List Int} (hl : L p = s :: r) :
    ∃ g o c, x.cell? ⟨a, p, none⟩ = some (.slice (some ⟨g, o, none⟩) (r.length + 1) c) ∧ x.cell? ⟨g, o, none⟩ = some (.int .i64 s) ∧ r.length + 1 ≤ c ∧ c ≤ maxLen := by
  obtain ⟨V, U, h1, h2⟩ := h.ex
  obtain ⟨a0, c, e1, e2, e3, e4⟩ := h2.ints p hp
  rw [hl] at e1 e2 e3
  obtain ⟨g, o, e5, e6⟩ := e2 0 (by simp)
  subst e5
  exact ⟨g, o, c, (h2.us p hp).trans (by rw [e1]; rfl), by simpa using e6, by simpa using e3, e4⟩
theorem AT.free {w : World} {b a : Nat} {q : Int} {f : Nat → Qu} {L : Nat → List Int} {x : World} (h : AT w b a q f L x) (j : Nat) : x.frozen? ⟨a, j, none⟩ = false := by
  obtain ⟨V, U, h1, h2⟩ := h.ex
  exact h2.free j
theorem AT.steps {w : World} {b a : Nat} {q : Int} {f : Nat → Qu} {L : Nat → List Int} {x : World} (h : AT w b a q f L x) {B : Nat} {v u : Value} {l : List (Int × Int)} (ho : OwnSt x B v l) (p : Nat) : OwnSt (x.setCell ⟨a, p, none⟩ u) B v l := by
  obtain ⟨V, U, h1, h2⟩ := h.ex
  obtain ⟨ca, hca⟩ := h2.blk
  exact ownSt_keep ho (fun k hk => Below.heap_setCell _ _ _ _ (fun e => ownSt_notB ho hca (by decide) (by rw [hk]; exact congrArg some e)))
/-- at the end -/
theorem AT.fin {w : World} {b a : Nat} {q : Int} {f : Nat → Qu} {L : Nat → List Int} {x : World} (h : AT w b a q f L x) (p : Nat) (hp : p < 16) (hl : L p = []) : ∃ a0 c, x.cell? ⟨a, p, none⟩ = some (.slice a0 0 c) := by
  obtain ⟨V, U, h1, h2⟩ := h.ex
  obtain ⟨a0, c, e1, _⟩ := h2.ints p hp
  rw [hl] at e1
  exact ⟨a0, c, (h2.us p hp).trans (by rw [e1]; rfl)⟩
theorem AT.waits {w : World} {b a : Nat} {q : Int} {f : Nat → Qu} {L : Nat → List Int} {x : World} (h : AT w b a q f L x) (p : Nat) (hp : p < 16) (hl : (f p).l = []) :
    Calls Try.prog 27 #[.pointer (some ⟨b, 0, none⟩), .int .i64 (p : Int)] x fun e w' => e = .returned (.int .i64 0) ∧ x = w' := by
  obtain ⟨V, U, h1, h2⟩ := h.ex
  refine (waits_any w.heap.size b (p : Int) q f V x h1).mono ?_
  rintro e w' ⟨rfl, hw⟩
  refine ⟨?_, hw⟩
  unfold waitsN
  rw [Int.toNat_natCast, hl]
  split <;> rfl
theorem AT.credit {w : World} {b a : Nat} {q : Int} {f : Nat → Qu} {L : Nat → List Int} {x : World} (h : AT w b a q f L x) (p : Nat) (hp : p < 16) (hl : (f p).c = 0) :
    Calls Try.prog 28 #[.pointer (some ⟨b, 0, none⟩), .int .i64 (p : Int)] x fun e w' => e = .returned (.int .i64 0) ∧ x = w' := by
  obtain ⟨V, U, h1, h2⟩ := h.ex
  refine (credit_any w.heap.size b (p : Int) q f V x h1).mono ?_
  rintro e w' ⟨rfl, hw⟩
  refine ⟨?_, hw⟩
  unfold creditN
  rw [Int.toNat_natCast, hl]
  split <;> rfl
end Go.Proofs.Ytpaecblgilepoaa

/- meter: shares. -/
import Derived.Test.YtlmmincpjflkdaaMeA
import Derived.Test.YtlmmincpjflkdaaShelf
import Derived.Deep.AppendLies
import Derived.Deep.MidRow
namespace Go.Proofs.Ytlmmincpjflkdaa
open Go.RowKit
set_option linter.unusedVariables false
attribute [local go_sem] Oper.semAt_some

/-- what waits of a peer -/
structure Qu where
  w : Int
  c : Int
  l : List Int

set_option maxRecDepth 100000 in
theorem queue_no (b : Nat) (p : Int) (w : World) (h : ¬ (1 ≤ p ∧ p ≤ 15)) :
    Calls Try.prog 18 #[.pointer (some ⟨b, 0, none⟩), .int .i64 p] w fun e w' => e = .returned (.pointer none) ∧ w = w' := by
  have g := hide (isFrom_no 1 p 15 w h)
  clear h
  go_enter Try.func18, Try.ntmps18
  go_wp2_with fail
  refine (unhide g).mono ?_
  rintro e w1 ⟨rfl, rfl⟩
  go_wp2
  go_ret
  exact ⟨rfl, rfl⟩
set_option maxRecDepth 100000 in
theorem queue_yes (b p : Nat) (w : World) (h : 1 ≤ p ∧ p ≤ 15) :
    Calls Try.prog 18 #[.pointer (some ⟨b, 0, none⟩), .int .i64 p] w fun e w' => e = .returned (.pointer (some ⟨b, 1 + p * 3, none⟩)) ∧ w = w' := by
  have g := hide (isFrom_yes 1 p 15 w (by omega))
  have h1 : (p : Int) < 16 := by omega
  go_enter Try.func18, Try.ntmps18
  go_wp2_with fail
  refine (unhide g).mono ?_
  rintro e w1 ⟨rfl, rfl⟩
  go_wp2
  go_ret
  exact ⟨rfl, rfl⟩
set_option maxRecDepth 100000 in
theorem queue_nil (p : Int) (w : World) :
    Calls Try.prog 18 #[.pointer none, .int .i64 p] w fun e w' => e = .returned (.pointer none) ∧ w = w' := by
  go_enter Try.func18, Try.ntmps18
  go_wp2
  go_ret
  exact ⟨rfl, rfl⟩
set_option maxRecDepth 100000 in
theorem newShare_no (q : Int) (w : World) (h : ¬ (1 ≤ q ∧ q ≤ 65536)) :
    Calls Try.prog 4 #[.int .i64 q] w fun e w' => e = .returned (.pointer none) ∧ w = w' := by
  have g := hide (isFrom_no 1 q 65536 w h)
  clear h
  go_enter Try.func4, Try.ntmps4
  go_wp2_with fail
  refine (unhide g).mono ?_
  rintro e w1 ⟨rfl, rfl⟩
  go_wp2
  go_ret
  exact ⟨rfl, rfl⟩
/-- the cells of a new share -/
def newC (q : Int) : Array Value := #[.int .i64 q, .int .i64 0, .int .i64 0, .slice none 0 0, .int .i64 0, .int .i64 0, .slice none 0 0, .int .i64 0, .int .i64 0, .slice none 0 0, .int .i64 0, .int .i64 0, .slice none 0 0, .int .i64 0, .int .i64 0, .slice none 0 0, .int .i64 0, .int .i64 0, .slice none 0 0, .int .i64 0, .int .i64 0, .slice none 0 0, .int .i64 0, .int .i64 0, .slice none 0 0, .int .i64 0, .int .i64 0, .slice none 0 0, .int .i64 0, .int .i64 0, .slice none 0 0, .int .i64 0, .int .i64 0, .slice none 0 0, .int .i64 0, .int .i64 0, .slice none 0 0, .int .i64 0, .int .i64 0, .slice none 0 0, .int .i64 0, .int .i64 0, .slice none 0 0, .int .i64 0, .int .i64 0, .slice none 0 0, .int .i64 0, .int .i64 0, .slice none 0 0]
set_option maxRecDepth 100000 in
set_option maxHeartbeats 1000000 in
theorem newShare_yes (q : Int) (w : World) (h : 1 ≤ q ∧ q ≤ 65536) :
    Calls Try.prog 4 #[.int .i64 q] w fun e w' => e = .returned (.pointer (some ⟨w.heap.size, 0, none⟩)) ∧ w' = w.alloc (.cells (newC q) 54) := by
  have g := hide (isFrom_yes 1 q 65536 w h)
  clear h
  go_enter Try.func4, Try.ntmps4
  go_wp2_with fail
  refine (unhide g).mono ?_
  rintro e w1 ⟨rfl, rfl⟩
  go_wp2
  go_ret
  exact ⟨rfl, rfl⟩

/-- a queue in another one's place -/
def qup {α : Type} (f : Nat → α) (p : Nat) (x : α) : Nat → α := fun k => if k = p then x else f k
theorem qup_same {α : Type} (f : Nat → α) (p : Nat) (x : α) : qup f p x p = x := if_pos rfl
theorem qup_other {α : Type} (f : Nat → α) (p : Nat) (x : α) {k : Nat} (h : k ≠ p) : qup f p x k = f k := if_neg h
/-- block b is a share: its quantum, its queues, and the slices of what waits, which are its own from B on -/
structure ShAt (w : World) (B b : Nat) (q : Int) (f : Nat → Qu) (V : Nat → Value) : Prop where
  hb : B ≤ b
  blk : ∃ cs, w.heap[b]? = some (.cells cs 54 (0, 0))
  c0 : w.cell? ⟨b, 0, none⟩ = some (.int .i64 q)
  wt : ∀ p, p < 16 → w.cell? ⟨b, 1 + p * 3, none⟩ = some (.int .i64 (f p).w)
  cr : ∀ p, p < 16 → w.cell? ⟨b, 1 + p * 3 + 1, none⟩ = some (.int .i64 (f p).c)
  vs : ∀ p, p < 16 → w.cell? ⟨b, 1 + p * 3 + 2, none⟩ = some (V p)
  own : ∀ p, p < 16 → OwnI w B (V p) (f p).l
  sep : ∀ p p', p < 16 → p' < 16 → p ≠ p' → (V p).ownBlock = none ∨ (V p).ownBlock ≠ (V p').ownBlock
theorem ShAt.free {w : World} {B b : Nat} {q : Int} {f : Nat → Qu} {V : Nat → Value} (h : ShAt w B b q f V) (j : Nat) : w.frozen? ⟨b, j, none⟩ = false := by
  obtain ⟨cs, hc⟩ := h.blk
  simp [World.frozen?, hc]
theorem ShAt.lt {w : World} {B b : Nat} {q : Int} {f : Nat → Qu} {V : Nat → Value} (h : ShAt w B b q f V) : b < w.heap.size := by
  obtain ⟨cs, hc⟩ := h.blk
  exact lt_of_block hc
theorem OwnI.notB {w : World} {B b : Nat} {v : Value} {l : List Int} {cs : Array Value} {T : TypeId} (h : OwnI w B v l) (hb : w.heap[b]? = some (.cells cs T (0, 0))) (hT : T ≠ 3) : v.ownBlock ≠ some b := by
  intro hv
  rcases (show World.ownsRow _ _ _ _ _ _ _ from h).2 with ⟨rfl, _⟩ | ⟨g, cap, cur, rfl, _, hg, _⟩
  · simp [Value.ownBlock] at hv
  · simp only [Value.ownBlock, Option.some.injEq] at hv
    subst hv
    rw [hb] at hg
    simp only [Option.some.injEq, Obj.cells.injEq] at hg
    exact hT hg.2.1
theorem ShAt.notB {w : World} {B b : Nat} {q : Int} {f : Nat → Qu} {V : Nat → Value} (h : ShAt w B b q f V) (p : Nat) (hp : p < 16) : (V p).ownBlock ≠ some b := by
  obtain ⟨cs, hc⟩ := h.blk
  exact (h.own p hp).notB hc (by decide)
theorem cellB {w : World} {b i j : Nat} {x : Value} (h : i ≠ j) : (w.setCell ⟨b, i, none⟩ x).cell? ⟨b, j, none⟩ = w.cell? ⟨b, j, none⟩ := World.cell?_setCell_other _ _ _ _ (fun e => h (by cases e; rfl))
theorem ShAt.blkSet {w : World} {B b : Nat} {q : Int} {f : Nat → Qu} {V : Nat → Value} (h : ShAt w B b q f V) (j : Nat) (x : Value) : ∃ cs, (w.setCell ⟨b, j, none⟩ x).heap[b]? = some (.cells cs 54 (0, 0)) := by
  obtain ⟨cs, hc⟩ := h.blk
  exact ⟨_, heap_setCell_same w b j cs _ x hc⟩
theorem ShAt.ownSet {w : World} {B b : Nat} {q : Int} {f : Nat → Qu} {V : Nat → Value} (h : ShAt w B b q f V) (j : Nat) (x : Value) (p : Nat) (hp : p < 16) : OwnI (w.setCell ⟨b, j, none⟩ x) B (V p) (f p).l :=
  Go.ownsRow_setCell_other (h.own p hp) (h.notB p hp) x
theorem ShAt.setW {w : World} {B b : Nat} {q : Int} {f : Nat → Qu} {V : Nat → Value} (h : ShAt w B b q f V) (p : Nat) (hp : p < 16) (x : Int) : ShAt (w.setCell ⟨b, 1 + p * 3, none⟩ (.int .i64 x)) B b q (qup f p ⟨x, (f p).c, (f p).l⟩) V where
  hb := h.hb
  blk := h.blkSet _ _
  c0 := by rw [cellB (by omega)]; exact h.c0
  wt := fun k hk => by
    by_cases e : k = p
    · subst e
      rw [qup_same]
      exact World.cell?_setCell_same _ _ _ (h.wt k hk)
    · rw [qup_other f p _ e, cellB (by omega)]
      exact h.wt k hk
  cr := fun k hk => by
    rw [cellB (by omega), h.cr k hk]
    by_cases e : k = p
    · subst e
      rw [qup_same]
    · rw [qup_other f p _ e]
  vs := fun k hk => by rw [cellB (by omega)]; exact h.vs k hk
  own := fun k hk => by
    have := h.ownSet (1 + p * 3) (.int .i64 x) k hk
    by_cases e : k = p
    · subst e
      rw [qup_same]
      exact this
    · rw [qup_other f p _ e]
      exact this
  sep := h.sep
theorem ShAt.setC {w : World} {B b : Nat} {q : Int} {f : Nat → Qu} {V : Nat → Value} (h : ShAt w B b q f V) (p : Nat) (hp : p < 16) (x : Int) : ShAt (w.setCell ⟨b, 1 + p * 3 + 1, none⟩ (.int .i64 x)) B b q (qup f p ⟨(f p).w, x, (f p).l⟩) V where
  hb := h.hb
  blk := h.blkSet _ _
  c0 := by rw [cellB (by omega)]; exact h.c0
  cr := fun k hk => by
    by_cases e : k = p
    · subst e
      rw [qup_same]
      exact World.cell?_setCell_same _ _ _ (h.cr k hk)
    · rw [qup_other f p _ e, cellB (by omega)]
      exact h.cr k hk
  wt := fun k hk => by
    rw [cellB (by omega), h.wt k hk]
    by_cases e : k = p
    · subst e
      rw [qup_same]
    · rw [qup_other f p _ e]
  vs := fun k hk => by rw [cellB (by omega)]; exact h.vs k hk
  own := fun k hk => by
    have := h.ownSet (1 + p * 3 + 1) (.int .i64 x) k hk
    by_cases e : k = p
    · subst e
      rw [qup_same]
      exact this
    · rw [qup_other f p _ e]
      exact this
  sep := h.sep
theorem ShAt.setV {w : World} {B b : Nat} {q : Int} {f : Nat → Qu} {V : Nat → Value} (h : ShAt w B b q f V) (p : Nat) (hp : p < 16) (v : Value) (l : List Int) (hv : OwnI w B v l) (hs : ∀ k, k < 16 → k ≠ p → v.ownBlock = none ∨ v.ownBlock ≠ (V k).ownBlock) :
    ShAt (w.setCell ⟨b, 1 + p * 3 + 2, none⟩ v) B b q (qup f p ⟨(f p).w, (f p).c, l⟩) (qup V p v) where
  hb := h.hb
  blk := h.blkSet _ _
  c0 := by rw [cellB (by omega)]; exact h.c0
  vs := fun k hk => by
    by_cases e : k = p
    · subst e
      rw [qup_same]
      exact World.cell?_setCell_same _ _ _ (h.vs k hk)
    · rw [qup_other V p _ e, cellB (by omega)]
      exact h.vs k hk
  wt := fun k hk => by
    rw [cellB (by omega), h.wt k hk]
    by_cases e : k = p
    · subst e
      rw [qup_same]
    · rw [qup_other f p _ e]
  cr := fun k hk => by
    rw [cellB (by omega), h.cr k hk]
    by_cases e : k = p
    · subst e
      rw [qup_same]
    · rw [qup_other f p _ e]
  own := fun k hk => by
    by_cases e : k = p
    · subst e
      rw [qup_same, qup_same]
      obtain ⟨cs, hc⟩ := h.blk
      exact Go.ownsRow_setCell_other hv (hv.notB hc (by decide)) _
    · rw [qup_other f p _ e, qup_other V p _ e]
      exact h.ownSet _ _ k hk
  sep := fun k k' hk hk' hn => by
    by_cases e : k = p
    · subst e
      rw [qup_same, qup_other V k _ (fun e => hn e.symm)]
      exact hs k' hk' (fun e => hn e.symm)
    · rw [qup_other V p _ e]
      by_cases e' : k' = p
      · subst e'
        rw [qup_same]
        rcases hs k hk e with h1 | h1
        · rw [h1]
          cases hvk : (V k).ownBlock with
          | none => exact .inl rfl
          | some z => exact .inr (by simp)
        · exact .inr (fun e => h1 e.symm)
      · rw [qup_other V p _ e']
        exact h.sep k k' hk hk' hn

/-- what a call on a share leaves as it was -/
structure ShStep (w w' : World) (b : Nat) (V V' : Nat → Value) : Prop where
  os : w'.os = w.os
  tape : w'.tape = w.tape
  output : w'.output = w.output
  size : w.heap.size ≤ w'.heap.size
  block : ∀ k, k < w.heap.size → k ≠ b → (∀ p, p < 16 → (V p).ownBlock ≠ some k) → w'.heap[k]? = w.heap[k]?
  new : ∀ p, p < 16 → (V' p).ownBlock = (V p).ownBlock ∨ ∀ k, (V' p).ownBlock = some k → w.heap.size ≤ k
theorem ShStep.refl (w : World) (b : Nat) (V : Nat → Value) : ShStep w w b V V := ⟨rfl, rfl, rfl, Nat.le_refl _, fun _ _ _ _ => rfl, fun _ _ => .inl rfl⟩
theorem ShStep.trans {w w1 w2 : World} {b : Nat} {V V1 V2 : Nat → Value} (h : ShStep w w1 b V V1) (g : ShStep w1 w2 b V1 V2) : ShStep w w2 b V V2 where
  os := g.os.trans h.os
  tape := g.tape.trans h.tape
  output := g.output.trans h.output
  size := Nat.le_trans h.size g.size
  block := fun k hk hn hv => by
    refine (g.block k (Nat.lt_of_lt_of_le hk h.size) hn (fun p hp e => ?_)).trans (h.block k hk hn hv)
    rcases h.new p hp with h1 | h1
    · exact hv p hp (h1 ▸ e)
    · have := h1 k e
      omega
  new := fun p hp => by
    rcases g.new p hp with h1 | h1
    · rw [h1]
      exact h.new p hp
    · right
      intro k hk
      have := h1 k hk
      have := h.size
      omega
theorem ShStep.below {w w' : World} {B b : Nat} {q : Int} {f : Nat → Qu} {V V' : Nat → Value} (h : ShStep w w' b V V') (s : ShAt w B b q f V) : Below B w w' :=
  ⟨h.os, h.tape, h.output, h.size, fun k hk => by
    refine h.block k (Nat.lt_of_lt_of_le hk (Nat.le_trans s.hb (Nat.le_of_lt s.lt))) (by have := s.hb; omega) (fun p hp e => ?_)
    have := World.ownsRow.lt (show World.ownsRow _ _ _ _ _ _ _ from s.own p hp) k e
    omega⟩
theorem ShStep.set {w : World} {b j : Nat} {V : Nat → Value} (x : Value) : ShStep w (w.setCell ⟨b, j, none⟩ x) b V V :=
  ⟨rfl, rfl, rfl, by simp, fun k _ hn _ => Below.heap_setCell _ _ _ _ hn, fun _ _ => .inl rfl⟩
theorem ShStep.drew {w w' : World} {b : Nat} {V V' : Nat → Value} (h : ShStep w w' b V V') : ShStep w w'.drew b V V' := ⟨h.os, h.tape, h.output, h.size, h.block, h.new⟩
theorem ShAt.drew {w : World} {B b : Nat} {q : Int} {f : Nat → Qu} {V : Nat → Value} (h : ShAt w B b q f V) : ShAt w.drew B b q f V := ⟨h.hb, h.blk, h.c0, h.wt, h.cr, h.vs, h.own, h.sep⟩
/-- a share stays where nothing of it turns -/
theorem ShAt.keep {w w' : World} {B b : Nat} {q : Int} {f : Nat → Qu} {V : Nat → Value} (h : ShAt w B b q f V) (hk : w'.heap[b]? = w.heap[b]?) (ho : ∀ p k, p < 16 → (V p).ownBlock = some k → w'.heap[k]? = w.heap[k]?) : ShAt w' B b q f V where
  hb := h.hb
  blk := by rw [hk]; exact h.blk
  c0 := (World.cell?_of_block hk).trans h.c0
  wt := fun p hp => (World.cell?_of_block hk).trans (h.wt p hp)
  cr := fun p hp => (World.cell?_of_block hk).trans (h.cr p hp)
  vs := fun p hp => (World.cell?_of_block hk).trans (h.vs p hp)
  own := fun p hp => by
    have hw := h.own p hp
    refine ⟨hw.1, ?_⟩
    rcases hw.2 with h1 | ⟨g, cap, cur, h1, h2, h3, h4⟩
    · exact .inl h1
    · exact .inr ⟨g, cap, cur, h1, h2, (ho p g hp (by rw [h1]; rfl)).trans h3, h4⟩
  sep := h.sep
theorem ShAt.up {w w' : World} {B b : Nat} {q : Int} {f : Nat → Qu} {V : Nat → Value} (h : ShAt w B b q f V) (hb : Below w.heap.size w w') : ShAt w' B b q f V :=
  h.keep (hb.block _ h.lt) (fun p k hp e => hb.block _ (World.ownsRow.lt (show World.ownsRow _ _ _ _ _ _ _ from h.own p hp) k e).2)
theorem ShAt.fun_ext {w : World} {B b : Nat} {q : Int} {f f' : Nat → Qu} {V : Nat → Value} (h : ShAt w B b q f V) (he : ∀ p, p < 16 → f p = f' p) : ShAt w B b q f' V :=
  ⟨h.hb, h.blk, h.c0, fun p hp => by rw [← he p hp]; exact h.wt p hp, fun p hp => by rw [← he p hp]; exact h.cr p hp, h.vs, fun p hp => by rw [← he p hp]; exact h.own p hp, h.sep⟩

theorem new_cell (q : Int) : ∀ p, p < 16 → (newC q)[1 + p * 3]? = some (.int .i64 0) ∧ (newC q)[1 + p * 3 + 1]? = some (.int .i64 0) ∧ (newC q)[1 + p * 3 + 2]? = some (.slice none 0 0) := by
  intro p hp
  unfold newC
  rcases (show p = 0 ∨ p = 1 ∨ p = 2 ∨ p = 3 ∨ p = 4 ∨ p = 5 ∨ p = 6 ∨ p = 7 ∨ p = 8 ∨ p = 9 ∨ p = 10 ∨ p = 11 ∨ p = 12 ∨ p = 13 ∨ p = 14 ∨ p = 15 by omega) with rfl | rfl | rfl | rfl | rfl | rfl | rfl | rfl | rfl | rfl | rfl | rfl | rfl | rfl | rfl | rfl <;> exact ⟨rfl, rfl, rfl⟩
/-- no queues -/
def noQ : Nat → Qu := fun _ => ⟨0, 0, []⟩
def noV : Nat → Value := fun _ => .slice none 0 0
theorem newShare_at (q : Int) (B : Nat) (w : World) (hB : B ≤ w.heap.size) : ShAt (w.alloc (.cells (newC q) 54)) B w.heap.size q noQ noV := by
  have hh := heap_alloc_new w (.cells (newC q) 54)
  have hc : ∀ j, (w.alloc (.cells (newC q) 54)).cell? ⟨w.heap.size, j, none⟩ = (newC q)[j]? := fun j => cell_of_row _ _ _ _ _ _ hh
  exact ⟨hB, ⟨_, hh⟩, (hc 0).trans rfl, fun p hp => (hc _).trans (new_cell q p hp).1, fun p hp => (hc _).trans (new_cell q p hp).2.1, fun p hp => (hc _).trans (new_cell q p hp).2.2, fun p hp => World.ownsRow_nil _ _ _ _, fun p p' _ _ _ => .inl rfl⟩
end Go.Proofs.Ytlmmincpjflkdaa

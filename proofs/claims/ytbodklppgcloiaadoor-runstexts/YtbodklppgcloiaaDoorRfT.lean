/- A range over a function whose iterator turns cells of its own (of one type) between two rounds. -/
import Derived.RangeFuncNested
import Derived.RangeFuncBound
import Derived.RangeFuncCalls
namespace Go.Proofs.YtbodklppgcloiaaDoor
open Go.RowKit
set_option linter.unusedVariables false

/-- whatever lay lies as it lay, but blocks from n on of the kind q -/
structure Turned (q : Obj → Prop) (n : Nat) (A B : World) : Prop where
  os : B.os = A.os
  tape : B.tape = A.tape
  output : B.output = A.output
  size : A.heap.size ≤ B.heap.size
  block : ∀ k, k < A.heap.size → B.heap[k]? = A.heap[k]? ∨ (n ≤ k ∧ ∃ o, A.heap[k]? = some o ∧ q o)
/-- cells of the type ty, or a walk: what an iterator may turn -/
def itKind (ty : TypeId) (o : Obj) : Prop := o.isWalk = true ∨ ∃ cs fr, o = .cells cs ty fr
/-- and what the loop's book-keeping turns besides -/
def anyKind (ty : TypeId) (o : Obj) : Prop := o.isCells = false ∨ ∃ cs fr, o = .cells cs ty fr
/-- what is said of worlds stays said while such are turned -/
def Stays {β : Type} (q : Obj → Prop) (n : Nat) (I : β → World → Prop) : Prop := ∀ s A B, I s A → Turned q n A B → I s B

theorem Turned.wider {q q' : Obj → Prop} {n n' : Nat} {A B : World} (h : Turned q n A B) (hq : ∀ o, q o → q' o) (hn : n' ≤ n) : Turned q' n' A B :=
  ⟨h.os, h.tape, h.output, h.size, fun k hk => (h.block k hk).imp id fun ⟨h1, o, h2, h3⟩ => ⟨Nat.le_trans hn h1, o, h2, hq o h3⟩⟩
theorem Turned.below {q : Obj → Prop} {n : Nat} {A B : World} (h : Below A.heap.size A B) : Turned q n A B := ⟨h.os, h.tape, h.output, h.size, fun k hk => .inl (h.block k hk)⟩
theorem Turned.of_grown {q : Obj → Prop} {n : Nat} {A B : World} {row : Option Nat} (h : A.grownBy B row) (hr : ∀ r, row = some r → n ≤ r ∧ ∃ o : Obj, A.heap[r]? = some o ∧ q o) : Turned q n A B :=
  ⟨h.os, h.tape, h.output, h.size, fun k hk => by
    by_cases e : some k = row
    · exact .inr (hr k e.symm)
    · exact .inl (h.block k hk e)⟩
theorem Turned.put {q : Obj → Prop} {n l : Nat} {A : World} {o : Obj} (o' : Obj) (hn : n ≤ l) (hl : A.heap[l]? = some o) (hq : q o) : Turned q n A (A.putObj l o') :=
  Turned.of_grown (grownBy_putObj' A l o') (fun r e => by cases e; exact ⟨hn, o, hl, hq⟩)
theorem Turned.same {q : Obj → Prop} {n k : Nat} {A B : World} {o : Obj} (h : Turned q n A B) (hk : A.heap[k]? = some o) (hq : k < n ∨ ¬ q o) : B.heap[k]? = some o := by
  rcases h.block k (Array.getElem?_eq_some_iff.1 hk).1 with h1 | ⟨h1, o', h2, h3⟩
  · exact h1.trans hk
  · rw [hk] at h2
    cases h2
    rcases hq with hq | hq
    · omega
    · exact absurd h3 hq
theorem itKind_any {ty : TypeId} {o : Obj} (h : itKind ty o) : anyKind ty o := h.imp (fun h => Obj.not_cells_of_walk h) id
theorem Stays.and {β : Type} {q : Obj → Prop} {n : Nat} {I I' : β → World → Prop} (h : Stays q n I) (h' : Stays q n I') : Stays q n (fun s W => I s W ∧ I' s W) := fun s A B hs ht => ⟨h s A B hs.1 ht, h' s A B hs.2 ht⟩
theorem Stays.pure {β : Type} {q : Obj → Prop} {n : Nat} (p : β → Prop) : Stays q n (fun s (_ : World) => p s) := fun _ _ _ h _ => h
theorem Stays.put {β : Type} {ty : TypeId} {n l : Nat} {I : β → World → Prop} (h : Stays (anyKind ty) n I) {s : β} {A : World} {o : Obj} (o' : Obj) (hs : I s A) (hn : n ≤ l) (hl : A.heap[l]? = some o) (hc : o.isCells = false) : I s (A.putObj l o') :=
  h s A _ hs (Turned.put o' hn hl (.inl hc))

/-- what an iterator promises that turns cells of the type ty of its own -/
def SeqTurns {α : Type} (ty : TypeId) (F : Fence) (n : Nat) (P : Program) (g : Nat) (lb : Array Value) (encs : α → Array Value) (Kp : World → World → Prop) (S Sp : List α → Prop) (N : Nat) (w : World) : Prop :=
  ∀ (l : Nat) (J Jx : List α → World → Prop) (W : World), Below w.heap.size w W → Stays (itKind ty) W.heap.size J → Stays (itKind ty) W.heap.size Jx →
    (∀ pre x W1, J pre W1 → pre.length < N → YieldAt F (n - 1) P l (encs x) W1 fun e W' =>
      (e = .returned (.bool true) ∧ J (pre ++ [x]) W' ∧ Kp W1 W') ∨ (e = .returned (.bool false) ∧ Jx (pre ++ [x]) W')) →
    J [] W →
    CallsIn F n P g (#[.func (.yield l) #[] #[]] ++ lb) W fun e W' => (∃ v, e = .returned v) ∧ ((∃ xs, S xs ∧ J xs W') ∨ (∃ pre, Sp pre ∧ Jx pre W'))
theorem seqTurns_of_stops {α : Type} {ty : TypeId} {F : Fence} {n : Nat} {P : Program} {g : Nat} {lb : Array Value} {encs : α → Array Value} {Kp : World → World → Prop} {S Sp : List α → Prop} {N : Nat} {w : World}
    (h : SeqStopsK F n P g lb encs Kp S Sp N w) : SeqTurns ty F n P g lb encs Kp S Sp N w := fun l J Jx W hb hJ hJx hY h0 =>
  h l J Jx W hb (fun s A B row hs hg hr => hJ s A B hs (Turned.of_grown hg (fun r e => ⟨(hr r e).1, by obtain ⟨o, h1, h2⟩ := (hr r e).2; exact ⟨o, h1, .inl h2⟩⟩)))
    (fun s A B row hs hg hr => hJx s A B hs (Turned.of_grown hg (fun r e => ⟨(hr r e).1, by obtain ⟨o, h1, h2⟩ := (hr r e).2; exact ⟨o, h1, .inl h2⟩⟩))) hY h0

variable {F : Fence} {n : Nat} {P : Program}
/-- the two blocks of the loop: its record in a state, and the box of deferred calls, empty -/
def Book (L : LoopState → Option Code → Loop) (d : Nat) (st : LoopState) (pe : Option Code) (W : World) : Prop := W.heap[d + 1]? = some (.loop (L st pe)) ∧ W.heap[d]? = some (.deferred (some []))
theorem Book.turned {L : LoopState → Option Code → Loop} {d m : Nat} {st : LoopState} {pe : Option Code} {ty : TypeId} {A B : World} (h : Book L d st pe A) (ht : Turned (itKind ty) m A B) : Book L d st pe B :=
  ⟨ht.same h.1 (.inr (by rintro (h | ⟨_, _, h⟩) <;> cases h)), ht.same h.2 (.inr (by rintro (h | ⟨_, _, h⟩) <;> cases h))⟩
theorem Book.kept {L : LoopState → Option Code → Loop} {d : Nat} {st : LoopState} {pe : Option Code} {A B : World} (h : Book L d st pe A) (hk : KeepsFrom d A B) : Book L d st pe B :=
  ⟨hk.same _ _ (Nat.le_succ d) h.1 rfl, hk.same _ _ (Nat.le_refl d) h.2 rfl⟩
theorem Book.set {L : LoopState → Option Code → Loop} {d : Nat} {st st' : LoopState} {pe pe' : Option Code} {A : World} (h : Book L d st pe A) : Book L d st' pe' (A.putObj (d + 1) (.loop (L st' pe'))) :=
  ⟨World.putObj_heap_same (Array.getElem?_eq_some_iff.1 h.1).1, (World.putObj_heap_other (by omega)).trans h.2⟩

theorem wpIn_range_turns {α : Type} {ty : TypeId} {g : Operand} {ps : Array Tmp} {assign body : Code} {Q : Exit → Act → World → Prop} {a : Act} {w : World}
    (hro : F.round = none) (h1 : 1 ≤ n) {gf : Nat} {lb : Array Value} (hg : a.eval g = .func (.func gf) #[] lb) (hFg : F.fn gf) (eg : ∀ args w, (callFunc gf args).run P w = .ok (.enter gf args) w)
    {encs : α → Array Value} {Kp : World → World → Prop} {S Sp : List α → Prop} {N : Nat} {w0 : World} (hseq : SeqTurns ty F (n - 1) P gf lb encs Kp S Sp N w0)
    (hKt : ∀ {A B C : World}, Kp A B → Kp B C → Kp A C) (hKb : ∀ (W : World) (l : Nat) (o o' : Obj), w.heap.size ≤ l → W.heap[l]? = some o → o.isCells = false → o.isWalk = false → Kp W (W.putObj l o')) (hb0 : Below w0.heap.size w0 w) (hps : ∀ x, (encs x).size = ps.size)
    (I : List α → World → Prop) (Ix : Code → List α → World → Prop) (hI : Stays (anyKind ty) w.heap.size I) (hIx : ∀ c, Stays (anyKind ty) w.heap.size (Ix c)) (h0 : I [] w) (Ax : α → Act → World → Prop) (hAx : ∀ x a', OwnFrom w.heap.size (fun (_ : Unit) W => Ax x a' W))
    (hassign : ∀ (l : Nat) (pre : List α) (x : α) (W : World) (K : Act → World → Prop), I pre W → (∀ a' W', KeepsFrom w.heap.size W W' → Kp W W' → I pre W' → Ax x a' W' → K a' W') →
      assign.wpIn (F.inRound l) (n - 1 - 1) P (Exit.then K (fun _ _ _ => False)) { tmps := (ps.zip (encs x)).foldl (fun t (p, v) => t.setIfInBounds p v) a.tmps, defers := [] } W)
    (hbody : ∀ (l : Nat) (pre : List α) (x : α) (a' : Act) (W : World), w.heap.size ≤ l → (∃ r, W.heap[l]? = some (.loop r)) → I pre W → Ax x a' W → pre.length < N → body.wpIn (F.inRound l) (n - 1 - 1) P (ownPostG w.heap.size Kp I Ix (pre ++ [x]) W) a' W)
    (hdone : ∀ (D : Nat) (xs : List α) (W : World), w.heap.size ≤ D → S xs → I xs W → W.heap[D]? = some (.deferred (some [])) → Q .normal { a with defers := { target := .collected D, args := #[] } :: a.defers } W)
    (hstop : ∀ (D : Nat) (c : Code) (pre : List α) (W : World), w.heap.size ≤ D → Sp pre → Ix c pre W → W.heap[D]? = some (.deferred (some [])) → c.wpIn F n P Q { a with defers := { target := .collected D, args := #[] } :: a.defers } W) :
    (Code.rangeFunc g ps assign body).wpIn F n P Q a w := by
  refine wpIn_rangeFunc fun fn hfn => ?_
  have hent := run_enterLoop_outer (P := P) (w := w) fn a.tmps ps assign body
  rw [hro]
  generalize hd : w.heap.size = d at *
  obtain ⟨L, hL⟩ : ∃ L : LoopState → Option Code → Loop, ∀ st pe, L st pe = { state := st, pending := pe, fn := fn, tmps := a.tmps, params := ps, assign := assign, body := body, defers := d } := ⟨fun st pe => _, fun _ _ => rfl⟩
  have hset : ∀ st pe st' pe', ({ L st pe with state := st', pending := pe' } : Loop) = L st' pe' := fun _ _ _ _ => by rw [hL, hL]
  have hbusy : ∀ st pe st', ({ L st pe with state := st' } : Loop) = L st' pe := fun _ _ _ => by rw [hL, hL]
  rw [← hL] at hent
  have hT1 : Below w.heap.size w ((w.alloc (.deferred (some []))).alloc (.loop (L .ready none))) := ((Below.refl _ w).alloc (Nat.le_refl _) _).alloc (by simp) _
  have hB1 : Book L d .ready none ((w.alloc (.deferred (some []))).alloc (.loop (L .ready none))) := by
    constructor
    · have := heap_alloc_new (w.alloc (.deferred (some []))) (.loop (L .ready none))
      rwa [World.size_alloc, hd] at this
    · rw [Below.heap_alloc _ _ _ (by simp; omega)]
      have := heap_alloc_new w (.deferred (some []))
      rwa [hd] at this
  have hz1 : d ≤ ((w.alloc (.deferred (some []))).alloc (.loop (L .ready none))).heap.size := by simp; omega
  generalize (w.alloc (.deferred (some []))).alloc (.loop (L .ready none)) = W1 at *
  refine ⟨d + 1, _, W1, { target := .fn (.func gf) lb, args := #[.func (.yield (d + 1)) #[] #[]] }, W1, gf, #[.func (.yield (d + 1)) #[] #[]] ++ lb, W1, hent, ?_, ?_, ?_, fun _ => h1, ?_⟩
  · simp only [resolve, hg]
    simp [go_sem]
  · intro f' hf'
    simp [Target.leads] at hf'
    exact hf' ▸ hFg
  · simp [invoke, go_sem, eg]
  have hround : ∀ pre x W, (I pre W ∧ Book L d .ready none W) → pre.length < N → YieldAt F (n - 1 - 1) P (d + 1) (encs x) W fun e W' =>
      (e = .returned (.bool true) ∧ (I (pre ++ [x]) W' ∧ Book L d .ready none W') ∧ Kp W W') ∨ (e = .returned (.bool false) ∧ ∃ c, Ix c (pre ++ [x]) W' ∧ Book L d .done (some c) W') := by
    rintro pre x W ⟨hi, hb⟩ hlen
    have hy := run_yield (P := P) (args := encs x) hb.1 (by rw [hL]; exact hps x)
    rw [hL] at hy
    refine ⟨fn, _, assign, body, hy, roundIn_of_wpIn hfn (hassign _ pre x W _ hi fun a' Wa k1 p1 i1 ax => ?_)⟩
    have b1 := hb.kept k1
    have hbr := run_beginRound (P := P) b1.1 (by rw [hL])
    rw [hbusy] at hbr
    refine ⟨_, hbr, ?_⟩
    have b2 : Book L d .busy none (Wa.putObj (d + 1) (.loop (L .busy none))) := b1.set
    have p2 := hKb Wa (d + 1) _ (.loop (L .busy none)) (by omega) b1.1 rfl rfl
    have i2 := hI.put (.loop (L .busy none)) i1 (Nat.le_succ d) b1.1 rfl
    have ax2 := (hAx x a').putObj (s := ()) (.loop (L .busy none)) ax (Nat.le_succ d) b1.1 rfl
    refine wpIn_mono (hbody (d + 1) pre x a' _ (Nat.le_succ d) ⟨_, b2.1⟩ i2 ax2 hlen) ?_
    have out : ∀ (c : Code) (W3 : World), KeepsFrom d (Wa.putObj (d + 1) (.loop (L .busy none))) W3 → Ix c (pre ++ [x]) W3 →
        ∃ v w', (Instr.endRound (d + 1) (some c)).run P W3 = .ok v w' ∧ ((Ending.returned v = .returned (.bool true) ∧ (I (pre ++ [x]) w' ∧ Book L d .ready none w') ∧ Kp W w') ∨ (Ending.returned v = .returned (.bool false) ∧ ∃ c, Ix c (pre ++ [x]) w' ∧ Book L d .done (some c) w')) := fun c W3 k3 x3 => by
      have b3 := b2.kept k3
      have he := run_endRound (P := P) (some c) b3.1
      rw [hset] at he
      exact ⟨_, _, he, .inr ⟨rfl, c, (hIx c).put _ x3 (Nat.le_succ d) b3.1 rfl, b3.set⟩⟩
    intro e a3 W3 hp
    cases e with
    | normal =>
      obtain ⟨k3, p3, i3⟩ := hp
      have b3 := b2.kept k3
      have he := run_endRound (P := P) none b3.1
      rw [hset] at he
      exact ⟨_, _, he, .inl ⟨rfl, ⟨hI.put _ i3 (Nat.le_succ d) b3.1 rfl, b3.set⟩, hKt p1 (hKt p2 (hKt p3 (hKb _ _ _ _ (by omega) b3.1 rfl rfl)))⟩⟩
    | ret => exact out .ret W3 hp.1 hp.2
    | exit id => exact out (.exit id) W3 hp.1 hp.2
    | goto t => exact out (.goto t) W3 hp.1 hp.2
    | panic ch => exact hp.elim
    | outgrown => exact hp.elim
  refine (hseq (d + 1) (fun pre W => I pre W ∧ Book L d .ready none W) (fun pre W => ∃ c, Ix c pre W ∧ Book L d .done (some c) W) W1 ?_ ?_ ?_ hround ⟨hI [] w W1 h0 (Turned.below hT1), hB1⟩).mono ?_
  · exact hb0.trans (hT1.mono hb0.size)
  · exact fun s A B hs ht => ⟨hI s A B hs.1 (ht.wider (fun _ => itKind_any) hz1), hs.2.turned ht⟩
  · rintro s A B ⟨c, hs, hb⟩ ht
    exact ⟨c, hIx c s A B hs (ht.wider (fun _ => itKind_any) hz1), hb.turned ht⟩
  · rintro e W2 ⟨⟨v, rfl⟩, ⟨xs, hS, hi, hb⟩ | ⟨pre, hSp, c, hi, hb⟩⟩
    · have he := run_endLoop (P := P) hb.1 (by rw [hL]; simp)
      rw [hbusy, hL .ready none] at he
      exact ⟨none, _, he, hdone d xs _ (Nat.le_refl _) hS (hI.put _ hi (Nat.le_succ d) hb.1 rfl) ((World.putObj_heap_other (by omega)).trans hb.2)⟩
    · have he := run_endLoop (P := P) hb.1 (by rw [hL]; simp)
      rw [hbusy, hL .done (some c)] at he
      exact ⟨some c, _, he, hstop d c pre _ (Nat.le_refl _) hSp ((hIx c).put _ hi (Nat.le_succ d) hb.1 rfl) ((World.putObj_heap_other (by omega)).trans hb.2)⟩
end Go.Proofs.YtbodklppgcloiaaDoor

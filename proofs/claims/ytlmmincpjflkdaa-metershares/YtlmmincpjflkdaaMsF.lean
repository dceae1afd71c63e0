/- meter: the state of the document's Turn. -/
import Derived.Test.YtlmmincpjflkdaaMsE
namespace Go.Proofs.Ytlmmincpjflkdaa
open Go.RowKit
set_option linter.unusedVariables false
attribute [local go_sem] Oper.semAt_some

theorem Try.infoSn : (Try.prog.info? 61).map (fun i => (i.zero, i.size, i.bytes)) = some (some (.agg #[.int .i64 0, .int .i64 0]), 2, 16) := by kernel_rfl
theorem Try.undSn : Try.prog.underlying 35 = some (.slice 61) := by kernel_rfl
def OwnSn (w : World) (base : Nat) (v : Value) (l : List (Int × Int)) : Prop := w.ownsRow base 61 2 v l.length (stC l)
theorem ownSn_up {w w' : World} {B : Nat} {v : Value} {l : List (Int × Int)} (h : OwnSn w B v l) (hb : Below w.heap.size w w') : OwnSn w' B v l := World.ownsRow.kept (show World.ownsRow _ _ _ _ _ _ _ from h) ⟨hb.os, hb.tape, hb.output, hb.size, fun i hi _ => hb.block i hi⟩ (row := none) (Classical.em _)
theorem ownSn_ge {w : World} {B : Nat} {v : Value} {l : List (Int × Int)} (h : OwnSn w B v l) {k : Nat} (hk : v.ownBlock = some k) : B ≤ k ∧ ∃ cs, w.heap[k]? = some (.cells cs 61 (0, 0)) := by
  rcases (show World.ownsRow _ _ _ _ _ _ _ from h).2 with ⟨rfl, h0⟩ | ⟨g, cap, cur, rfl, hb, hg, _⟩
  · simp [Value.ownBlock] at hk
  · simp [Value.ownBlock] at hk
    subst hk
    exact ⟨hb, _, hg⟩
theorem ownSn_shape {w : World} {B : Nat} {v : Value} {l : List (Int × Int)} (h : OwnSn w B v l) : ∃ a0 c, v = .slice a0 l.length c := by
  rcases (show World.ownsRow _ _ _ _ _ _ _ from h).2 with ⟨rfl, h0⟩ | ⟨g, cap, cur, rfl, _⟩
  · exact ⟨none, 0, by rw [h0]⟩
  · exact ⟨_, _, rfl⟩
theorem ownSn_set {w : World} {B : Nat} {v : Value} {l : List (Int × Int)} (h : OwnSn w B v l) {g : Nat} {cs : Array Value} {T : TypeId} (hg : w.heap[g]? = some (.cells cs T (0, 0))) (hT : T ≠ 61) (j : Nat) (u : Value) : OwnSn (w.setCell ⟨g, j, none⟩ u) B v l :=
  Go.ownsRow_setCell_other (show World.ownsRow _ _ _ _ _ _ _ from h) (a := ⟨g, j, none⟩) (fun e => by
    obtain ⟨_, cs2, h2⟩ := ownSn_ge h e
    rw [hg] at h2
    simp only [Option.some.injEq, Obj.cells.injEq] at h2
    exact hT h2.2.1) u
/-- queues and sizes that lay somewhere are as they were -/
structure KeepQ (w w' : World) : Prop where
  size : w.heap.size ≤ w'.heap.size
  blk : ∀ (k : Nat) (cs : Array Value) (T : TypeId) (fr : Nat × Nat), w.heap[k]? = some (.cells cs T fr) → (T = 45 ∨ T = 3) → w'.heap[k]? = w.heap[k]?
theorem KeepQ.refl (w : World) : KeepQ w w := ⟨Nat.le_refl _, fun _ _ _ _ _ _ => rfl⟩
theorem KeepQ.step {w0 w w' : World} (h : KeepQ w0 w) (hs : w.heap.size ≤ w'.heap.size) (hb : ∀ k, k < w0.heap.size → (∃ cs T fr, w.heap[k]? = some (.cells cs T fr) ∧ (T = 45 ∨ T = 3)) → w'.heap[k]? = w.heap[k]?) : KeepQ w0 w' :=
  ⟨Nat.le_trans h.size hs, fun k cs T fr hk hT => by
    have h1 := h.blk k cs T fr hk hT
    exact (hb k (lt_of_block hk) ⟨cs, T, fr, h1.trans hk, hT⟩).trans h1⟩
theorem KeepQ.up {w0 w w' : World} (h : KeepQ w0 w) (hb : Below w.heap.size w w') : KeepQ w0 w' :=
  h.step hb.size (fun k hk _ => hb.block k (Nat.lt_of_lt_of_le hk h.size))
theorem KeepQ.set {w0 w : World} (h : KeepQ w0 w) {g : Nat} (hg : w0.heap.size ≤ g ∨ ∃ cs T fr, w.heap[g]? = some (.cells cs T fr) ∧ T ≠ 45 ∧ T ≠ 3) (j : Nat) (v : Value) : KeepQ w0 (w.setCell ⟨g, j, none⟩ v) :=
  h.step (by simp) (fun k hk ⟨cs, T, fr, h1, h2⟩ => Below.heap_setCell _ _ _ _ (fun e => by
    have e : k = g := e
    subst e
    rcases hg with hg | ⟨cs', T', fr', h3, h4, h5⟩
    · omega
    · rw [h1] at h3
      simp only [Option.some.injEq, Obj.cells.injEq] at h3
      rcases h2 with h2 | h2
      · exact h4 (h3.2.1 ▸ h2)
      · exact h5 (h3.2.1 ▸ h2)))
theorem KeepQ.grown {w0 w w' : World} (h : KeepQ w0 w) {row : Option Nat} (hg : w.grownBy w' row) (hr : ∀ z, row = some z → w0.heap.size ≤ z ∨ ∃ cs T fr, w.heap[z]? = some (.cells cs T fr) ∧ T ≠ 45 ∧ T ≠ 3) : KeepQ w0 w' :=
  h.step hg.size (fun k hk ⟨cs, T, fr, h1, h2⟩ => hg.block k (lt_of_block h1) (fun e => by
    rcases hr k e.symm with hg | ⟨cs', T', fr', h3, h4, h5⟩
    · omega
    · rw [h1] at h3
      simp only [Option.some.injEq, Obj.cells.injEq] at h3
      rcases h2 with h2 | h2
      · exact h4 (h3.2.1 ▸ h2)
      · exact h5 (h3.2.1 ▸ h2)))
theorem VOk.keepQ {w w' : World} {x : Dr} (h : VOk w x) (hk : KeepQ w w') : VOk w' x := by
  refine ⟨fun i hi => ?_, h.le, h.ml, fun p hp => ?_⟩
  · obtain ⟨g2, o2, e, hc⟩ := h.ints i hi
    obtain ⟨cs2, fr2, h2⟩ := h.ty _ e
    exact ⟨g2, o2, e, (World.cell?_of_block (a := ⟨g2, o2 + i, none⟩) (hk.blk _ _ _ _ h2 (.inr rfl))).trans hc⟩
  · obtain ⟨cs2, fr2, h2⟩ := h.ty p hp
    exact ⟨cs2, fr2, (hk.blk _ _ _ _ h2 (.inr rfl)).trans h2⟩
theorem DrsAt.keepQ {w w' : World} {a : Option Addr} {D : List Dr} (h : DrsAt w a D) (hk : KeepQ w w') : DrsAt w' a D := fun t x ht => by
  obtain ⟨⟨g2, o2, h1, h2, h3⟩, h4, h5⟩ := h t x ht
  obtain ⟨cs2, fr2, h6⟩ := h5 _ h1
  have he := hk.blk _ _ _ _ h6 (.inl rfl)
  refine ⟨⟨g2, o2, h1, Nat.lt_of_lt_of_le h2 hk.size, fun j v hv => (World.cell?_of_block (a := ⟨g2, o2 + t * 4 + j, none⟩) he).trans (h3 j v hv)⟩, h4.keepQ hk, fun p hp => ?_⟩
  obtain ⟨cs3, fr3, h7⟩ := h5 p hp
  exact ⟨cs3, fr3, (hk.blk _ _ _ _ h7 (.inl rfl)).trans h7⟩
/-- the state ahead of a peer's turn -/
structure TS (w : World) (Q : Int) (a0 : Option Addr) (n c : Nat) (S : List Dr) (l : List (Int × Int)) (E : Int) (W : World) : Prop where
  be : Below w.heap.size w W
  s : W.heap[w.heap.size]? = some (.cells #[.int .i64 Q, .slice a0 n c] 28 (0, 0))
  r : W.heap[w.heap.size + 1]? = some (.cells #[.int .i64 0, .slice none 0 0, .slice none 0 0, .int .i64 0] 37 (0, 0))
  o : ∃ aS cS v, W.heap[w.heap.size + 2]? = some (.cells #[.int .i64 Q, .slice aS S.length cS, v, .int .i64 E] 37 (0, 0)) ∧ DrsAt W aS S ∧ OwnSn W (w.heap.size + 3) v l
/-- the state within a peer's turn: w0 the world ahead of it, b the queue's block -/
structure TI (w w0 : World) (Q : Int) (a0 : Option Addr) (n c : Nat) (aS : Option Addr) (nS cS b : Nat) (xp xw : Int) (xa : Option Addr) (z xk : Nat) (ck : Int) (v : Value) (l : List (Int × Int)) (E : Int) (W : World) : Prop where
  be : Below w.heap.size w W
  kq : KeepQ w0 W
  lo : w.heap.size + 3 ≤ w0.heap.size
  lb : w0.heap.size ≤ b
  s : W.heap[w.heap.size]? = some (.cells #[.int .i64 Q, .slice a0 n c] 28 (0, 0))
  r : W.heap[w.heap.size + 1]? = some (.cells #[.int .i64 0, .slice none 0 0, .slice none 0 0, .int .i64 0] 37 (0, 0))
  q : W.heap[b]? = some (.cells #[.int .i64 xp, .int .i64 xw, .int .i64 ck, .slice xa z xk] 45 (0, 0))
  o : W.heap[w.heap.size + 2]? = some (.cells #[.int .i64 Q, .slice aS nS cS, v, .int .i64 E] 37 (0, 0))
  v : OwnSn W (w.heap.size + 3) v l
section
variable {w w0 : World} {Q : Int} {a0 : Option Addr} {n c : Nat} {aS : Option Addr} {nS cS b : Nat} {xp xw : Int} {xa : Option Addr} {z xk : Nat} {ck : Int} {v : Value} {l : List (Int × Int)} {E : Int} {W : World}
theorem TI.up {W' : World} (h : TI w w0 Q a0 n c aS nS cS b xp xw xa z xk ck v l E W) (hb : Below W.heap.size W W') : TI w w0 Q a0 n c aS nS cS b xp xw xa z xk ck v l E W' :=
  ⟨h.be.trans (hb.mono h.be.size), h.kq.up hb, h.lo, h.lb, (hb.block _ (lt_of_block h.s)).trans h.s, (hb.block _ (lt_of_block h.r)).trans h.r, (hb.block _ (lt_of_block h.q)).trans h.q, (hb.block _ (lt_of_block h.o)).trans h.o, ownSn_up h.v hb⟩
theorem TI.setC (h : TI w w0 Q a0 n c aS nS cS b xp xw xa z xk ck v l E W) (u : Int) : TI w w0 Q a0 n c aS nS cS b xp xw xa z xk u v l E (W.setCell ⟨b, 2, none⟩ (.int .i64 u)) := by
  have h1 := h.lo
  have h2 := h.lb
  exact ⟨h.be.setCell (p := ⟨b, 2, none⟩) (by show w.heap.size ≤ b; omega) _, h.kq.set (.inl h.lb) _ _, h.lo, h.lb, (Below.heap_setCell _ _ _ _ (by show w.heap.size ≠ b; omega)).trans h.s, (Below.heap_setCell _ _ _ _ (by show w.heap.size + 1 ≠ b; omega)).trans h.r, heap_setCell_same W b 2 _ _ (.int .i64 u) h.q, (Below.heap_setCell _ _ _ _ (by show w.heap.size + 2 ≠ b; omega)).trans h.o, ownSn_set h.v h.q (by decide) _ _⟩
theorem TI.setE (h : TI w w0 Q a0 n c aS nS cS b xp xw xa z xk ck v l E W) (u : Int) : TI w w0 Q a0 n c aS nS cS b xp xw xa z xk ck v l u (W.setCell ⟨w.heap.size + 2, 3, none⟩ (.int .i64 u)) := by
  have h1 := h.lo
  have h2 := h.lb
  exact ⟨h.be.setCell (p := ⟨w.heap.size + 2, 3, none⟩) (by show w.heap.size ≤ w.heap.size + 2; omega) _, h.kq.set (.inr ⟨_, _, _, h.o, by decide, by decide⟩) _ _, h.lo, h.lb, (Below.heap_setCell _ _ _ _ (by show w.heap.size ≠ w.heap.size + 2; omega)).trans h.s, (Below.heap_setCell _ _ _ _ (by show w.heap.size + 1 ≠ w.heap.size + 2; omega)).trans h.r, (Below.heap_setCell _ _ _ _ (by show b ≠ w.heap.size + 2; omega)).trans h.q, heap_setCell_same W (w.heap.size + 2) 3 _ _ (.int .i64 u) h.o, ownSn_set h.v h.o (by decide) _ _⟩
theorem TI.setV {W' : World} {v' : Value} {l' : List (Int × Int)} (h : TI w w0 Q a0 n c aS nS cS b xp xw xa z xk ck v l E W) (hg : W.grownBy W' v.ownBlock) (hv : OwnSn W' (w.heap.size + 3) v' l') : TI w w0 Q a0 n c aS nS cS b xp xw xa z xk ck v' l' E (W'.setCell ⟨w.heap.size + 2, 2, none⟩ v') := by
  have h1 := h.lo
  have h2 := h.lb
  have own : ∀ {k : Nat} {cs : Array Value} {T : TypeId}, W.heap[k]? = some (.cells cs T (0, 0)) → T ≠ 61 → W'.heap[k]? = some (.cells cs T (0, 0)) := fun {k cs T} hk hT => (hg.block k (lt_of_block hk) (fun e => by
    obtain ⟨_, cs2, h4⟩ := ownSn_ge h.v e.symm
    rw [hk] at h4
    simp only [Option.some.injEq, Obj.cells.injEq] at h4
    exact hT h4.2.1)).trans hk
  have ho := own h.o (by decide)
  have hb : Below w.heap.size w W' := h.be.grown hg h.be.size (fun z hz => by have := (ownSn_ge h.v hz).1; omega)
  exact ⟨hb.setCell (p := ⟨w.heap.size + 2, 2, none⟩) (by show w.heap.size ≤ w.heap.size + 2; omega) _, (h.kq.grown hg (fun z hz => by
      obtain ⟨_, cs2, h4⟩ := ownSn_ge h.v hz
      exact .inr ⟨_, _, _, h4, by decide, by decide⟩)).set (.inr ⟨_, _, _, ho, by decide, by decide⟩) _ _, h.lo, h.lb, (Below.heap_setCell _ _ _ _ (by show w.heap.size ≠ w.heap.size + 2; omega)).trans (own h.s (by decide)), (Below.heap_setCell _ _ _ _ (by show w.heap.size + 1 ≠ w.heap.size + 2; omega)).trans (own h.r (by decide)), (Below.heap_setCell _ _ _ _ (by show b ≠ w.heap.size + 2; omega)).trans (own h.q (by decide)), heap_setCell_same W' (w.heap.size + 2) 2 _ _ v' ho, ownSn_set hv ho (by decide) _ _⟩
theorem TS.start {S : List Dr} {x : Dr} (h : TS w Q a0 n c S l E W) : ∃ aS cS v, DrsAt W aS S ∧ TI w W Q a0 n c aS S.length cS W.heap.size x.p x.w x.a x.l.length x.k x.c v l E (W.alloc (.cells #[.int .i64 x.p, .int .i64 x.w, .int .i64 x.c, .slice x.a x.l.length x.k] 45)) := by
  obtain ⟨aS, cS, v, h1, h2, h3⟩ := h.o
  have hb : Below W.heap.size W (W.alloc (.cells #[.int .i64 x.p, .int .i64 x.w, .int .i64 x.c, .slice x.a x.l.length x.k] 45)) := (Below.refl _ _).alloc (Nat.le_refl _) _
  have hl := lt_of_block h1
  exact ⟨aS, cS, v, h2, ⟨h.be.trans (hb.mono h.be.size), (KeepQ.refl W).up hb, by omega, Nat.le_refl _, (hb.block _ (lt_of_block h.s)).trans h.s, (hb.block _ (lt_of_block h.r)).trans h.r, heap_alloc_new _ _, (hb.block _ hl).trans h1, ownSn_up h3 hb⟩⟩
theorem TI.cells (h : TI w w0 Q a0 n c aS nS cS b xp xw xa z xk ck v l E W) :
    (W.cell? ⟨w.heap.size, 0, none⟩ = some (.int .i64 Q) ∧ W.cell? ⟨w.heap.size, 1, none⟩ = some (.slice a0 n c)) ∧ (W.cell? ⟨b, 0, none⟩ = some (.int .i64 xp) ∧ W.cell? ⟨b, 1, none⟩ = some (.int .i64 xw) ∧ W.cell? ⟨b, 2, none⟩ = some (.int .i64 ck) ∧ W.cell? ⟨b, 3, none⟩ = some (.slice xa z xk)) ∧
    (W.cell? ⟨w.heap.size + 2, 0, none⟩ = some (.int .i64 Q) ∧ W.cell? ⟨w.heap.size + 2, 1, none⟩ = some (.slice aS nS cS) ∧ W.cell? ⟨w.heap.size + 2, 2, none⟩ = some v ∧ W.cell? ⟨w.heap.size + 2, 3, none⟩ = some (.int .i64 E)) := by
  exact ⟨(row2 h.s).1, (row4 h.q).1, (row4 h.o).1⟩
end
section
variable {w w0 : World} {Q : Int} {a0 : Option Addr} {n c : Nat} {aS : Option Addr} {nS cS b : Nat} {xp xw : Int} {xa : Option Addr} {z xk : Nat} {ck : Int} {v : Value} {l : List (Int × Int)} {E : Int} {W : World}
theorem TI.setS (h : TI w w0 Q a0 n c aS nS cS b xp xw xa z xk ck v l E W) (ya : Option Addr) (yz yk : Nat) : TI w w0 Q a0 n c aS nS cS b xp xw ya yz yk ck v l E (W.setCell ⟨b, 3, none⟩ (.slice ya yz yk)) := by
  have h1 := h.lo
  have h2 := h.lb
  exact ⟨h.be.setCell (p := ⟨b, 3, none⟩) (by show w.heap.size ≤ b; omega) _, h.kq.set (.inl h.lb) _ _, h.lo, h.lb, (Below.heap_setCell _ _ _ _ (by show w.heap.size ≠ b; omega)).trans h.s, (Below.heap_setCell _ _ _ _ (by show w.heap.size + 1 ≠ b; omega)).trans h.r, heap_setCell_same W b 3 _ _ (.slice ya yz yk) h.q, (Below.heap_setCell _ _ _ _ (by show w.heap.size + 2 ≠ b; omega)).trans h.o, ownSn_set h.v h.q (by decide) _ _⟩
theorem TI.next {S : List Dr} {a' : Option Addr} {c' : Nat} (h : TI w w0 Q a0 n c aS nS cS b xp xw xa z xk ck v l E W) (hD : DrsAt W a' S) : TS w Q a0 n c S l E (W.setCells (w.heap.size + 2) 0 [.int .i64 Q, .slice a' S.length c']) := by
  have h1 := h.lo
  have r1 := heap_setCell_same W (w.heap.size + 2) 0 _ _ (.int .i64 Q) h.o
  have r2 := heap_setCell_same _ (w.heap.size + 2) 1 _ _ (.slice a' S.length c') r1
  have k1 := ((KeepQ.refl W).set (g := w.heap.size + 2) (.inr ⟨_, _, _, h.o, by decide, by decide⟩) 0 (.int .i64 Q)).set (g := w.heap.size + 2) (.inr ⟨_, _, _, r1, by decide, by decide⟩) 1 (.slice a' S.length c')
  refine ⟨(h.be.setCell (p := ⟨w.heap.size + 2, 0, none⟩) (by show w.heap.size ≤ w.heap.size + 2; omega) _).setCell (p := ⟨w.heap.size + 2, 1, none⟩) (by show w.heap.size ≤ w.heap.size + 2; omega) _, ?_, ?_, a', c', v, r2, hD.keepQ k1, ownSn_set (ownSn_set h.v h.o (by decide) _ _) r1 (by decide) _ _⟩
  · exact (Below.heap_setCell _ _ _ _ (by show w.heap.size ≠ w.heap.size + 2; omega)).trans ((Below.heap_setCell _ _ _ _ (by show w.heap.size ≠ w.heap.size + 2; omega)).trans h.s)
  · exact (Below.heap_setCell _ _ _ _ (by show w.heap.size + 1 ≠ w.heap.size + 2; omega)).trans ((Below.heap_setCell _ _ _ _ (by show w.heap.size + 1 ≠ w.heap.size + 2; omega)).trans h.r)
theorem TI.there (h : TI w w0 Q a0 n c aS nS cS b xp xw xa z xk ck v l E W) : W.there (w.heap.size + 2) 0 2 := fun j hj => by
  obtain ⟨⟨h0, h1, h2, h3⟩, hf, _⟩ := row4 h.o
  refine ⟨?_, hf _⟩
  rcases (show j = 0 ∨ j = 1 by omega) with rfl | rfl
  · rw [show (0 : Nat) + 0 = 0 from rfl, h0]; rfl
  · rw [show (0 : Nat) + 1 = 1 from rfl, h1]; rfl
theorem TI.range (h : TI w w0 Q a0 n c aS nS cS b xp xw xa z xk ck v l E W) : W.rangeAt (w.heap.size + 2) 0 [.int .i64 Q, .slice aS nS cS] := fun j u hu => by
  obtain ⟨⟨h0, h1, h2, h3⟩, hf, _⟩ := row4 h.o
  rw [Nat.zero_add]
  rcases (show j = 0 ∨ j = 1 by have := (List.getElem?_eq_some_iff.1 hu).1; simp at this; omega) with rfl | rfl
  · rw [h0]; simpa using hu
  · rw [h1]; simpa using hu
end
/-- a queue behind its turn, where its sizes lie -/
def shA (a : Option Addr) (k : Nat) : Option Addr := a.map fun p => ⟨p.block, p.off + k, p.spot⟩
def crD (x : Dr) (Q : Int) : Int := min (x.c + x.w * Q) 16777216
def tqD (x : Dr) (Q : Int) : Dr := ⟨x.p, x.w, if tn (crD x Q) x.l = x.l.length then 0 else tc (crD x Q) x.l, x.l.drop (tn (crD x Q) x.l), if tn (crD x Q) x.l = x.k then x.a else shA x.a (tn (crD x Q) x.l), x.k - tn (crD x Q) x.l⟩
def tS (D : List Dr) (Q : Int) : Nat → List Dr
  | 0 => D
  | i + 1 => match D[i]? with
    | some x => if x.l = [] then tS D Q i else withD (tS D Q i) (tqD x Q)
    | none => tS D Q i
def tN (D : List Dr) (Q : Int) : Nat → List (Int × Int)
  | 0 => []
  | i + 1 => match D[i]? with
    | some x => if x.l = [] then tN D Q i else tN D Q i ++ (x.l.take (tn (crD x Q) x.l)).map fun s => (x.p, s)
    | none => tN D Q i
def tE (D : List Dr) : Nat → Int
  | 0 => 4
  | i + 1 => match D[i]? with
    | some x => if x.l = [] then tE D i else 0
    | none => tE D i
theorem VOk.drop {W : World} {x : Dr} (h : VOk W x) (Q : Int) : VOk W (tqD x Q) := by
  have hk := tn_le x.l (crD x Q)
  have hle := h.le
  unfold tqD
  refine ⟨fun i hi => ?_, ?_, ?_, fun p hp => ?_⟩
  · dsimp only at hi ⊢
    rw [List.length_drop] at hi
    rw [if_neg (by omega)]
    obtain ⟨g, o, e, hc⟩ := h.ints (tn (crD x Q) x.l + i) (by omega)
    refine ⟨g, o + tn (crD x Q) x.l, by rw [e]; rfl, ?_⟩
    rw [Nat.add_assoc, hc, List.getElem_drop]
  · dsimp only
    rw [List.length_drop]
    omega
  · dsimp only
    have := h.ml
    omega
  · dsimp only at hp
    split at hp
    · exact h.ty p hp
    · unfold shA at hp
      cases ha : x.a with
      | none => rw [ha] at hp; cases hp
      | some q =>
        rw [ha] at hp
        simp only [Option.map_some, Option.some.injEq] at hp
        subst hp
        exact h.ty q ha
theorem tS_len (D : List Dr) (Q : Int) : ∀ i, (tS D Q i).length ≤ D.length + i
  | 0 => Nat.le_refl _
  | i + 1 => by
    have ih := tS_len D Q i
    unfold tS
    split
    · split
      · omega
      · refine Nat.le_trans (withD_len _ _) ?_
        omega
    · omega
end Go.Proofs.Ytlmmincpjflkdaa

/- store: what a store is; New, mayBeKept, copied, has, Len, Room. -/
import Derived.Test.YtgomnmhjkjahlaaStD
namespace Go.Proofs.Ytgomnmhjkjahlaa
open Go.RowKit
set_option linter.unusedVariables false
attribute [local go_sem] Oper.semAt_some

/-- apart from the blocks p and b nothing has turned -/
structure K2 (p b : Nat) (w w' : World) : Prop where
  os : w'.os = w.os
  tape : w'.tape = w.tape
  output : w'.output = w.output
  size : w.heap.size ≤ w'.heap.size
  block : ∀ k, k < w.heap.size → k ≠ p → k ≠ b → w'.heap[k]? = w.heap[k]?
theorem K2.refl (p b : Nat) (w : World) : K2 p b w w := ⟨rfl, rfl, rfl, Nat.le_refl _, fun _ _ _ _ => rfl⟩
theorem K2.trans {p b : Nat} {x y z : World} (h : K2 p b x y) (k : K2 p b y z) : K2 p b x z :=
  ⟨k.os.trans h.os, k.tape.trans h.tape, k.output.trans h.output, Nat.le_trans h.size k.size, fun i hi h1 h2 => (k.block i (Nat.lt_of_lt_of_le hi h.size) h1 h2).trans (h.block i hi h1 h2)⟩
theorem K2.of_below {p b : Nat} {x y : World} (h : Below x.heap.size x y) : K2 p b x y := ⟨h.os, h.tape, h.output, h.size, fun i hi _ _ => h.block i hi⟩
theorem K2.of_grown {p b : Nat} {x y : World} (h : x.grownBy y (some b)) : K2 p b x y := ⟨h.os, h.tape, h.output, h.size, fun i hi _ h2 => h.block i hi (fun e => h2 (by cases e; rfl))⟩
theorem K2.set {p b : Nat} (x : World) (j : Nat) (v : Value) : K2 p b x (x.setCell ⟨p, j, none⟩ v) := ⟨rfl, rfl, rfl, by simp, fun i _ h1 _ => Below.heap_setCell _ _ _ _ h1⟩
theorem K2.below {p b : Nat} {x y : World} (h : K2 p b x y) (C : Nat) (hx : C ≤ x.heap.size) (hp : C ≤ p) (hb : C ≤ b) : Below C x y :=
  ⟨h.os, h.tape, h.output, h.size, fun i hi => h.block i (by omega) (by omega) (by omega)⟩
theorem Ints.k2 {p b : Nat} {w w' : World} {a0 : Option Addr} {l : List Int} (h : Ints w a0 l) (hk : K2 p b w w') (hp : ∀ a, a0 = some a → a.block ≠ p) (hb : ∃ es cl, w.heap[b]? = some (.map es cl)) : Ints w' a0 l := fun i hi => by
  obtain ⟨g, o, rfl, h2⟩ := h i hi
  refine ⟨g, o, rfl, ?_⟩
  have h3 : w'.heap[g]? = w.heap[g]? := hk.block g (cell_lt h2) (hp _ rfl) (by
    rintro rfl
    obtain ⟨es, cl, hm⟩ := hb
    simp [World.cell?, hm] at h2)
  rw [World.cell?_of_block (w := w) (a := ⟨g, o + i, none⟩) h3]
  exact h2
/-- a row of integers, by its block's type -/
def IntT (w : World) (a0 : Option Addr) : Prop := ∀ a, a0 = some a → ∃ cur fr, w.heap[a.block]? = some (.cells cur 3 fr)
theorem OwnI.typ {w : World} {base : Nat} {a0 : Option Addr} {n c : Nat} {l : List Int} (h : OwnI w base (.slice a0 n c) l) : IntT w a0 := fun a ha => by
  rcases (show World.ownsRow _ _ _ _ _ _ _ from h).2 with ⟨h1, _⟩ | ⟨g, cap, cur, h1, _, hg, _⟩
  · simp only [Value.slice.injEq] at h1
    rw [ha] at h1
    cases h1.1
  · simp only [Value.slice.injEq] at h1
    rw [ha] at h1
    obtain ⟨h2, _⟩ := h1
    cases h2
    exact ⟨cur, _, hg⟩
theorem cell_same {w w' : World} {g o : Nat} {v : Value} (e : w'.heap[g]? = w.heap[g]?) (h : w.cell? ⟨g, o, none⟩ = some v) : w'.cell? ⟨g, o, none⟩ = some v := by
  rw [World.cell?_of_block (w := w) (a := ⟨g, o, none⟩) e]
  exact h
theorem IntT.same {w w' : World} {a0 : Option Addr} (h : IntT w a0) (hk : ∀ (k : Nat) (cur : Array Value) (fr : Nat × Nat), w.heap[k]? = some (.cells cur 3 fr) → w'.heap[k]? = w.heap[k]?) : IntT w' a0 := fun a ha => by
  obtain ⟨cur, fr, hc⟩ := h a ha
  exact ⟨cur, fr, (hk _ _ _ hc).trans hc⟩
theorem Ints.sameT {w w' : World} {a0 : Option Addr} {l : List Int} (h : Ints w a0 l) (ht : IntT w a0) (hk : ∀ (k : Nat) (cur : Array Value) (fr : Nat × Nat), w.heap[k]? = some (.cells cur 3 fr) → w'.heap[k]? = w.heap[k]?) : Ints w' a0 l := fun i hi => by
  obtain ⟨g, o, e, hc⟩ := h i hi
  obtain ⟨cur, fr, hg⟩ := ht _ e
  exact ⟨g, o, e, cell_same (hk _ _ _ hg) hc⟩
/-- a store: its block, its map, what it keeps -/
structure StAt (w : World) (p b : Nat) (room last : Int) (rs : List Raw) : Prop where
  blk : w.heap[p]? = some (.cells #[.int .i64 room, .int .i64 last, .map (some b)] 69 (0, 0))
  map : ∃ D, StMap w b last.toNat D ∧ MapIs D rs
  up : rs.Pairwise fun a b => a.id < b.id
  ids : ∀ r ∈ rs, 1 ≤ r.id ∧ r.id ≤ last
  mem : ∀ r ∈ rs, Ints w r.a0 r.idx ∧ r.idx.length ≤ 1000 ∧ IntT w r.a0
  room1 : 1 ≤ room
  room2 : room ≤ 400
  len : (rs.length : Int) ≤ room
  last0 : 0 ≤ last
  last1 : last ≤ 1000000000
theorem StAt.isMap {w : World} {p b : Nat} {room last : Int} {rs : List Raw} (h : StAt w p b room last rs) : ∃ es cl, w.heap[b]? = some (.map es cl) := by
  obtain ⟨D, ⟨es, cl, h1, _⟩, _⟩ := h.map
  exact ⟨es, cl, h1⟩
theorem StAt.plt {w : World} {p b : Nat} {room last : Int} {rs : List Raw} (h : StAt w p b room last rs) : p < w.heap.size := lt_of_block h.blk
theorem StAt.blt {w : World} {p b : Nat} {room last : Int} {rs : List Raw} (h : StAt w p b room last rs) : b < w.heap.size := by
  obtain ⟨es, cl, hm⟩ := h.isMap
  exact (Array.getElem?_eq_some_iff.1 hm).1
theorem StAt.ne {w : World} {p b : Nat} {room last : Int} {rs : List Raw} (h : StAt w p b room last rs) : p ≠ b := by
  rintro rfl
  obtain ⟨es, cl, hm⟩ := h.isMap
  rw [h.blk] at hm
  cases hm
theorem StAt.kept {w w' : World} {p b : Nat} {room last : Int} {rs : List Raw} (h : StAt w p b room last rs) (hb : Below w.heap.size w w') : StAt w' p b room last rs := by
  obtain ⟨D, hM, hD⟩ := h.map
  refine ⟨(hb.block _ h.plt).trans h.blk, ⟨D, hM.kept (row := none) ⟨hb.os, hb.tape, hb.output, hb.size, fun i hi _ => hb.block i hi⟩ (by simp), hD⟩, h.up, h.ids, fun r hr => ?_, h.room1, h.room2, h.len, h.last0, h.last1⟩
  obtain ⟨h1, h2, h3⟩ := h.mem r hr
  exact ⟨h1.below hb, h2, h3.same (fun k cur fr hk => hb.block k (lt_of_block hk))⟩
/-- it is kept where its two blocks, and all rows of integers, are -/
theorem StAt.typed {w w' : World} {p b : Nat} {room last : Int} {rs : List Raw} (h : StAt w p b room last rs) (hp : w'.heap[p]? = w.heap[p]?) (hb : w'.heap[b]? = w.heap[b]?) (hi : ∀ (k : Nat) (cur : Array Value) (fr : Nat × Nat), w.heap[k]? = some (.cells cur 3 fr) → w'.heap[k]? = w.heap[k]?) : StAt w' p b room last rs := by
  obtain ⟨D, ⟨es, cl, h1, h2⟩, hD⟩ := h.map
  refine ⟨hp.trans h.blk, ⟨D, ⟨es, cl, hb.trans h1, h2⟩, hD⟩, h.up, h.ids, fun r hr => ?_, h.room1, h.room2, h.len, h.last0, h.last1⟩
  obtain ⟨h1, h2, h3⟩ := h.mem r hr
  exact ⟨h1.sameT h3 hi, h2, h3.same hi⟩
theorem ret_cell {fn : Func} {p : Tmp} {ty : TypeId} {a : Act} {w : World} {R : Ending → World → Prop} (h : fn.results = #[.cell p ty]) (g : Nat) (t : TypeId) (cs : Array Value) (fr : Nat × Nat) (fs : Array Field)
    (hp : a.tmps.getD p undef = .pointer (some ⟨g, 0, none⟩)) (hg : w.heap[g]? = some (.cells cs t fr)) (hdf : a.defers = [])
    (hu : Try.prog.underlying ty = some (.struct fs)) (hi : (Try.prog.info? ty).map (·.size) = some cs.size) (hR : R (.returned (.agg cs)) w) :
    bodyPost Try.prog fn R .ret a w := bodyPost_ret (results_cell_row h _ w g t cs fr _ hp hg hu rfl hi) hdf hR
theorem heap2_b (w : World) (A B : Obj) : ((w.alloc A).alloc B).heap[w.heap.size + 1]? = some B := by
  have h := heap_alloc_new (w.alloc A) B
  simpa using h
theorem heap2_a (w : World) (A B : Obj) : ((w.alloc A).alloc B).heap[w.heap.size]? = some A := by
  rw [Below.heap_alloc _ _ _ (by simp)]
  exact heap_alloc_new w A
set_option maxRecDepth 100000 in
theorem new_bad (room : Int) (w : World) (h : room < 1 ∨ 400 < room) : Calls Try.prog 8 #[.int .i64 room] w fun e w' => e = .returned (.pointer none) ∧ w = w' := by
  by_cases h1 : room < 1
  · have d1 : decide (room < 1) = true := decide_eq_true h1
    go_enter Try.func8, Try.ntmps8
    go_wp2
    go_ret
    exact ⟨rfl, rfl⟩
  · have h2 : 400 < room := by omega
    have d1 : decide (room < 1) = false := decide_eq_false h1
    have d2 : decide (400 < room) = true := decide_eq_true h2
    go_enter Try.func8, Try.ntmps8
    go_wp2
    go_ret
    exact ⟨rfl, rfl⟩
set_option maxRecDepth 100000 in
theorem new_any (room : Int) (w : World) (h1 : 1 ≤ room) (h2 : room ≤ 400) : Calls Try.prog 8 #[.int .i64 room] w fun e w' => (∃ p b, e = .returned (.pointer (some ⟨p, 0, none⟩)) ∧ w.heap.size ≤ p ∧ w.heap.size ≤ b ∧ StAt w' p b room 0 []) ∧ Below w.heap.size w w' := by
  have d1 : decide (room < 1) = false := decide_eq_false (by omega)
  have d2 : decide (400 < room) = false := decide_eq_false (by omega)
  have hmm := @run_makeMap Try.prog
  go_enter Try.func8, Try.ntmps8
  go_wp2
  go_ret
  refine ⟨⟨w.heap.size + 1, w.heap.size, rfl, by omega, Nat.le_refl _, heap2_b _ _ _, ⟨.map [], (World.ownsMap_made w _ _ _).alloc _, MapIs.nil⟩, List.Pairwise.nil, by simp, by simp, h1, h2, by simp; omega, by omega, by omega⟩, ((Below.refl _ _).alloc (Nat.le_refl _) _).alloc (by simp) _⟩
theorem sfrom_any (l n m : Int) (w : World) : Calls Try.prog 43 #[.int .i64 l, .int .i64 n, .int .i64 m] w fun e w' => e = .returned (.bool (decide (l ≤ n ∧ n ≤ m))) ∧ w = w' := by
  by_cases h1 : l ≤ n
  · by_cases h2 : n ≤ m
    · rw [decide_eq_true ⟨h1, h2⟩]
      go_enter Try.func43, Try.ntmps43
      go_wp2
      go_ret
      exact ⟨rfl, rfl⟩
    · rw [decide_eq_false (fun h => h2 h.2)]
      go_enter Try.func43, Try.ntmps43
      go_wp2
      go_ret
      exact ⟨rfl, rfl⟩
  · rw [decide_eq_false (fun h => h1 h.1)]
    go_enter Try.func43, Try.ntmps43
    go_wp2
    go_ret
    exact ⟨rfl, rfl⟩
/-- may it be kept? -/
def mayK (peer : Int) (idx : List Int) (dl : Nat) : Bool := decide (1 ≤ peer ∧ peer ≤ 15) && (decide (idx ≠ []) && (mayB 160 [idx] && decide ((1 : Int) ≤ dl ∧ (dl : Int) ≤ 64)))
theorem rows_one (w : World) (a0 : Option Addr) (l : List Int) (c : Nat) (t : TypeId) (h : Ints w a0 l) : RowsA (w.alloc (.cells #[.slice a0 l.length c] t)) (some ⟨w.heap.size, 0, none⟩) [l] := fun i hi => by
  simp at hi
  subst hi
  refine ⟨w.heap.size, 0, rfl, a0, c, ?_, h.below ((Below.refl _ _).alloc (Nat.le_refl _) _)⟩
  rw [cell_of_row _ _ _ _ _ (0, 0) (heap_alloc_new w _)]
  rfl
set_option maxRecDepth 100000 in
set_option maxHeartbeats 1000000 in
theorem mayK_any (x : Raw) (w : World) (hI : Ints w x.a0 x.idx) (hl : x.idx.length ≤ 100000) (hd : x.dt.size ≤ maxLen) : Calls Try.prog 34 #[rawV x] w fun e w' => e = .returned (.bool (mayK x.peer x.idx x.dt.size)) ∧ Below w.heap.size w w' := by
  have hf1 := hide (fun w => sfrom_any 1 x.peer 15 w)
  have hf2 := hide (fun w => sfrom_any 1 x.dt.size 64 w)
  have B0 : Hid (Below w.heap.size w (w.alloc (.cells #[.int .i64 x.id, .int .i64 x.peer, .int .i64 x.mode, .int .i64 x.seed, .string x.hv, .slice x.a0 x.idx.length x.cap, .string x.dt] 34))) := (Below.refl _ w).alloc (Nat.le_refl _) _
  have B1 : Hid (Below w.heap.size w ((w.alloc (.cells #[.int .i64 x.id, .int .i64 x.peer, .int .i64 x.mode, .int .i64 x.seed, .string x.hv, .slice x.a0 x.idx.length x.cap, .string x.dt] 34)).alloc (.cells #[.slice x.a0 x.idx.length x.cap] 32))) := (unhide B0).alloc (by simp) _
  have hmy : Hid (Calls Try.prog 44 #[.int .i64 160, .slice (some ⟨w.heap.size + 1, 0, none⟩) 1 1] ((w.alloc (.cells #[.int .i64 x.id, .int .i64 x.peer, .int .i64 x.mode, .int .i64 x.seed, .string x.hv, .slice x.a0 x.idx.length x.cap, .string x.dt] 34)).alloc (.cells #[.slice x.a0 x.idx.length x.cap] 32)) fun e w' => e = .returned (.bool (mayB 160 [x.idx])) ∧ ((w.alloc (.cells #[.int .i64 x.id, .int .i64 x.peer, .int .i64 x.mode, .int .i64 x.seed, .string x.hv, .slice x.a0 x.idx.length x.cap, .string x.dt] 34)).alloc (.cells #[.slice x.a0 x.idx.length x.cap] 32)) = w') := by
    have h := may_any 160 [x.idx] _ 1 (by omega) (by simp [maxLen]) (by simp [maxLen]; omega) _ (rows_one (w.alloc (.cells #[.int .i64 x.id, .int .i64 x.peer, .int .i64 x.mode, .int .i64 x.seed, .string x.hv, .slice x.a0 x.idx.length x.cap, .string x.dt] 34)) x.a0 x.idx x.cap 32 (hI.below (unhide B0)))
    have e1 : (w.alloc (.cells #[.int .i64 x.id, .int .i64 x.peer, .int .i64 x.mode, .int .i64 x.seed, .string x.hv, .slice x.a0 x.idx.length x.cap, .string x.dt] 34)).heap.size = w.heap.size + 1 := by simp
    rw [e1] at h
    exact h
  unfold mayK
  unfold maxLen at hd
  clear hI
  generalize hp1 : decide (1 ≤ x.peer ∧ x.peer ≤ 15) = b1 at *
  generalize hp3 : mayB 160 [x.idx] = b3 at *
  generalize hp4 : decide ((1 : Int) ≤ x.dt.size ∧ (x.dt.size : Int) ≤ 64) = b4 at *
  clear hp1 hp3 hp4
  go_enter Try.func34, Try.ntmps34
  cases b1 with
  | false =>
    go_wp2_with (go_at_call 43; refine (unhide hf1 _).mono ?_; rintro e w' ⟨rfl, rfl⟩)
    go_ret
    exact ⟨rfl, unhide B0⟩
  | true =>
    by_cases h0 : x.idx = []
    · have e0 : decide (x.idx ≠ []) = false := by simp [h0]
      rw [e0]
      have e1 : x.idx.length = 0 := by simp [h0]
      have q1 : decide (0 < x.idx.length) = false := by simp [e1]
      have q2 : decide ((0 : Int) < x.idx.length) = false := by simp [e1]
      clear h0 e1
      go_wp2_with (go_at_call 43; refine (unhide hf1 _).mono ?_; rintro e w' ⟨rfl, rfl⟩)
      go_ret
      exact ⟨rfl, unhide B0⟩
    · have e0 : decide (x.idx ≠ []) = true := by simp [h0]
      rw [e0]
      have e1 : 0 < x.idx.length := List.length_pos_iff.2 h0
      have q1 : decide (0 < x.idx.length) = true := by simp [e1]
      have q2 : decide ((0 : Int) < x.idx.length) = true := by simp; omega
      clear h0
      cases b3 with
      | false =>
        go_wp2_with fail
        refine (unhide hf1 _).mono ?_
        rintro e w' ⟨rfl, rfl⟩
        go_wp2_with fail
        refine (unhide hmy).mono ?_
        rintro e w' ⟨rfl, rfl⟩
        go_wp2
        go_ret
        exact ⟨rfl, unhide B1⟩
      | true =>
        go_wp2_with fail
        refine (unhide hf1 _).mono ?_
        rintro e w' ⟨rfl, rfl⟩
        go_wp2_with fail
        refine (unhide hmy).mono ?_
        rintro e w' ⟨rfl, rfl⟩
        go_wp2_with fail
        refine (unhide hf2 _).mono ?_
        rintro e w' ⟨rfl, rfl⟩
        cases b4
        all_goals
          go_wp2
          go_ret
          exact ⟨rfl, unhide B1⟩
end Go.Proofs.Ytgomnmhjkjahlaa

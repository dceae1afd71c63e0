/- net: what a net is; New, isFrom, mayGo, find, Len, Nth; a nil net. -/
import Derived.Test.YtmnjngkdiinnfaaNtA
import Derived.Test.YtmnjngkdiinnfaaTwo
import Derived.Deep.MidRow
import Derived.Deep.AppendLies
namespace Go.Proofs.Ytmnjngkdiinnfaa
open Go.RowKit
set_option linter.unusedVariables false
attribute [local go_sem] Oper.semAt_some

/-- the cells of a datagram -/
abbrev gmC (r : Mg) : Array Value := #[.int .i64 r.fr, .int .i64 r.to, .string r.tx]
def zM : Mg := ⟨0, 0, 0, ⟨#[]⟩⟩
/-- may it go under way? -/
def mayG (fr to : Int) (n : Nat) : Bool := decide (1 ≤ fr ∧ fr ≤ 15) && (decide (1 ≤ to ∧ to ≤ 15) && (decide (fr ≠ to) && decide ((n : Int) ≤ 400)))
/-- a net: its block, its map, its numbers, what is under way -/
structure NtAt (w : World) (B b mb : Nat) (iv : Value) (room last : Int) (rs : List Mg) : Prop where
  blk : w.heap[b]? = some (.cells #[.int .i64 room, .int .i64 last, .map (some mb), iv] 66 (0, 0))
  map : ∃ D, StMap w mb last.toNat D ∧ MapIs D rs
  idv : OwnI w B iv (rs.map Mg.id)
  up : rs.Pairwise fun a b => a.id < b.id
  ids : ∀ r ∈ rs, 1 ≤ r.id ∧ r.id ≤ last
  good : ∀ r ∈ rs, mayG r.fr r.to r.tx.size = true
  room1 : 1 ≤ room
  room2 : room ≤ 600
  len : (rs.length : Int) ≤ room
  last0 : 0 ≤ last
  last1 : last ≤ 1000000000
  ob : B ≤ b
  om : B ≤ mb
theorem NtAt.isMap {w : World} {B b mb : Nat} {iv : Value} {room last : Int} {rs : List Mg} (h : NtAt w B b mb iv room last rs) : ∃ es cl, w.heap[mb]? = some (.map es cl) := by
  obtain ⟨D, ⟨es, cl, h1, _⟩, _⟩ := h.map
  exact ⟨es, cl, h1⟩
theorem NtAt.blt {w : World} {B b mb : Nat} {iv : Value} {room last : Int} {rs : List Mg} (h : NtAt w B b mb iv room last rs) : b < w.heap.size := lt_of_block h.blk
theorem NtAt.mlt {w : World} {B b mb : Nat} {iv : Value} {room last : Int} {rs : List Mg} (h : NtAt w B b mb iv room last rs) : mb < w.heap.size := by
  obtain ⟨es, cl, hm⟩ := h.isMap
  exact (Array.getElem?_eq_some_iff.1 hm).1
theorem NtAt.ne {w : World} {B b mb : Nat} {iv : Value} {room last : Int} {rs : List Mg} (h : NtAt w B b mb iv room last rs) : mb ≠ b := by
  rintro rfl
  obtain ⟨es, cl, hm⟩ := h.isMap
  rw [h.blk] at hm
  cases hm
/-- it is kept where its table, its map, and all rows of integers are -/
theorem NtAt.typed {w w' : World} {B b mb : Nat} {iv : Value} {room last : Int} {rs : List Mg} (h : NtAt w B b mb iv room last rs) (hp : w'.heap[b]? = w.heap[b]?) (hb : w'.heap[mb]? = w.heap[mb]?) (hi : ∀ (k : Nat) (cur : Array Value) (fr : Nat × Nat), w.heap[k]? = some (.cells cur 3 fr) → w'.heap[k]? = w.heap[k]?) : NtAt w' B b mb iv room last rs := by
  obtain ⟨D, ⟨es, cl, h1, h2⟩, hD⟩ := h.map
  refine ⟨hp.trans h.blk, ⟨D, ⟨es, cl, hb.trans h1, h2⟩, hD⟩, ⟨h.idv.1, ?_⟩, h.up, h.ids, h.good, h.room1, h.room2, h.len, h.last0, h.last1, h.ob, h.om⟩
  rcases h.idv.2 with ⟨h1, h2⟩ | ⟨g, cap, cur, h1, h2, h3, h4⟩
  · exact .inl ⟨h1, h2⟩
  · exact .inr ⟨g, cap, cur, h1, h2, (hi _ _ _ h3).trans h3, h4⟩
theorem NtAt.kept {w w' : World} {B b mb : Nat} {iv : Value} {room last : Int} {rs : List Mg} (h : NtAt w B b mb iv room last rs) (hb : Below w.heap.size w w') : NtAt w' B b mb iv room last rs :=
  h.typed (hb.block _ h.blt) (hb.block _ h.mlt) (fun k cur fr hk => hb.block k (lt_of_block hk))
theorem cells4 {w : World} {g : Nat} {a b c d : Value} {t : TypeId} (hw : w.heap[g]? = some (.cells #[a, b, c, d] t (0, 0))) :
    w.cell? ⟨g, 0, none⟩ = some a ∧ w.cell? ⟨g, 1, none⟩ = some b ∧ w.cell? ⟨g, 2, none⟩ = some c ∧ w.cell? ⟨g, 3, none⟩ = some d ∧ ∀ j, w.frozen? ⟨g, j, none⟩ = false :=
  ⟨by rw [cell_of_row _ _ 0 _ _ (0, 0) hw]; rfl, by rw [cell_of_row _ _ 1 _ _ (0, 0) hw]; rfl, by rw [cell_of_row _ _ 2 _ _ (0, 0) hw]; rfl, by rw [cell_of_row _ _ 3 _ _ (0, 0) hw]; rfl, fun j => frozen_of_row _ _ j _ _ hw⟩
theorem cells3 {w : World} {g : Nat} {a b c : Value} {t : TypeId} (hw : w.heap[g]? = some (.cells #[a, b, c] t (0, 0))) :
    w.cell? ⟨g, 0, none⟩ = some a ∧ w.cell? ⟨g, 1, none⟩ = some b ∧ w.cell? ⟨g, 2, none⟩ = some c ∧ ∀ j, w.frozen? ⟨g, j, none⟩ = false :=
  ⟨by rw [cell_of_row _ _ 0 _ _ (0, 0) hw]; rfl, by rw [cell_of_row _ _ 1 _ _ (0, 0) hw]; rfl, by rw [cell_of_row _ _ 2 _ _ (0, 0) hw]; rfl, fun j => frozen_of_row _ _ j _ _ hw⟩
/-- what a call on a net leaves: all below B, and all blocks but a net's, and rows of integers -/
structure KN (B : Nat) (w w' : World) : Prop where
  os : w'.os = w.os
  tape : w'.tape = w.tape
  output : w'.output = w.output
  size : w.heap.size ≤ w'.heap.size
  low : ∀ k, k < B → k < w.heap.size → w'.heap[k]? = w.heap[k]?
  typ : ∀ (k : Nat) (cs : Array Value) (T : TypeId) (fr : Nat × Nat), w.heap[k]? = some (.cells cs T fr) → T ≠ 66 → T ≠ 3 → w'.heap[k]? = w.heap[k]?
theorem KN.of_below {B : Nat} {x y : World} (h : Below x.heap.size x y) : KN B x y := ⟨h.os, h.tape, h.output, h.size, fun k _ hl => h.block k hl, fun k cs T fr hk _ _ => h.block k (lt_of_block hk)⟩
theorem KN.trans {B : Nat} {x y z : World} (h : KN B x y) (k : KN B y z) : KN B x z :=
  ⟨k.os.trans h.os, k.tape.trans h.tape, k.output.trans h.output, Nat.le_trans h.size k.size, fun i hi hl => (k.low i hi (Nat.lt_of_lt_of_le hl h.size)).trans (h.low i hi hl), fun i cs T fr hi h1 h2 => (k.typ i cs T fr ((h.typ i cs T fr hi h1 h2).trans hi) h1 h2).trans (h.typ i cs T fr hi h1 h2)⟩
theorem KN.below {B : Nat} {x y : World} (h : KN B x y) (hx : B ≤ x.heap.size) : Below B x y := ⟨h.os, h.tape, h.output, h.size, fun k hk => h.low k hk (by omega)⟩
theorem wpList_store_row_to {P : Program} {ops : Array Oper} {rest : List Oper} {o : Oper} {a : Act} {w : World} {Q : Exit → Act → World → Prop} (hgd : o.guard = none) (ty : TypeId) (x y : Operand) (ho : o.op = .store ty x y)
    (g : Nat) (cells : Array Value) (hx : a.eval x = .pointer (some ⟨g, 0, none⟩)) (hy : a.eval y = .agg cells)
    (t : TypeId) (old : Array Value) (hg : w.heap[g]? = some (.cells old t (0, 0))) (hi : (P.info? ty).map (·.size) = some cells.size)
    (hold : old.size = cells.size) (h1 : cells.all (·.oneCell') = true) (G : World → Prop) (hG : G (w.setRow g cells))
    (h : ∀ w', G w' → wpList P ops Q rest (a.put o.dst undef) w') : wpList P ops Q (o :: rest) a w :=
  wpList_store_row hgd ty x y ho g cells hx hy t old hg hi hold h1 (h _ hG)
theorem ret_row2 {fn : Func} {p q : Tmp} {ty : TypeId} {a : Act} {w : World} {R : Ending → World → Prop} (h : fn.results = #[.cell p ty, .tmp q]) (g : Nat) (t : TypeId) (cs : Array Value) (fr : Nat × Nat) (z : Value) (fs : Array Field)
    (hp : a.tmps.getD p undef = .pointer (some ⟨g, 0, none⟩)) (hz : a.tmps.getD q undef = z) (hg : w.heap[g]? = some (.cells cs t fr)) (hdf : a.defers = []) (hu : Try.prog.underlying ty = some (.struct fs)) (hi : (Try.prog.info? ty).map (·.size) = some cs.size)
    (hR : R (.returned (.tuple #[.agg cs, z])) w) : bodyPost Try.prog fn R .ret a w := by
  have hp' : a.tmps[p]?.getD undef = .pointer (some ⟨g, 0, none⟩) := by simpa using hp
  refine bodyPost_ret ?_ hdf hR
  simp [results, h, hp', asAddr, run_loadVar_row w g t ty cs fr _ hg hu rfl hi]
  simpa using hz
set_option maxRecDepth 100000 in
theorem nfrom_any (l n m : Int) (w : World) : Calls Try.prog 28 #[.int .i64 l, .int .i64 n, .int .i64 m] w fun e w' => e = .returned (.bool (decide (l ≤ n ∧ n ≤ m))) ∧ w = w' := by
  by_cases h1 : l ≤ n
  · by_cases h2 : n ≤ m
    · rw [decide_eq_true ⟨h1, h2⟩]
      go_enter Try.func28, Try.ntmps28
      go_wp2
      go_ret
      exact ⟨rfl, rfl⟩
    · rw [decide_eq_false (fun h => h2 h.2)]
      go_enter Try.func28, Try.ntmps28
      go_wp2
      go_ret
      exact ⟨rfl, rfl⟩
  · rw [decide_eq_false (fun h => h1 h.1)]
    go_enter Try.func28, Try.ntmps28
    go_wp2
    go_ret
    exact ⟨rfl, rfl⟩
set_option maxRecDepth 100000 in
theorem nnew_bad (room : Int) (w : World) (h : ¬ (1 ≤ room ∧ room ≤ 600)) : Calls Try.prog 7 #[.int .i64 room] w fun e w' => e = .returned (.pointer none) ∧ w = w' := by
  have g1 := hide (nfrom_any 1 room 600 w)
  rw [decide_eq_false h] at g1
  clear h
  go_enter Try.func7, Try.ntmps7
  go_wp2_with fail
  refine (unhide g1).mono ?_
  rintro e w1 ⟨rfl, rfl⟩
  go_wp2
  go_ret
  exact ⟨rfl, rfl⟩
theorem heap2_b (w : World) (A B : Obj) : ((w.alloc A).alloc B).heap[w.heap.size + 1]? = some B := by
  have h := heap_alloc_new (w.alloc A) B
  simpa using h
set_option maxRecDepth 100000 in
theorem nnew_any (room : Int) (w : World) (h : 1 ≤ room ∧ room ≤ 600) : Calls Try.prog 7 #[.int .i64 room] w fun e w' => (∃ b mb, e = .returned (.pointer (some ⟨b, 0, none⟩)) ∧ NtAt w' w.heap.size b mb (.slice none 0 0) room 0 []) ∧ Below w.heap.size w w' := by
  have g1 := hide (nfrom_any 1 room 600 w)
  rw [decide_eq_true h] at g1
  have HH := hide h
  clear h
  have hmm := @run_makeMap Try.prog
  go_enter Try.func7, Try.ntmps7
  go_wp2_with fail
  refine (unhide g1).mono ?_
  rintro e w1 ⟨rfl, rfl⟩
  go_wp2
  go_ret
  refine ⟨⟨w.heap.size + 1, w.heap.size, rfl, heap2_b _ _ _, ⟨.map [], (World.ownsMap_made w _ _ _).alloc _, MapIs.nil⟩, World.ownsRow_nil _ _ _ _, List.Pairwise.nil, by simp, by simp, (unhide HH).1, (unhide HH).2, by have := (unhide HH).1; simp; omega, by omega, by omega, by omega, Nat.le_refl _⟩, ((Below.refl _ _).alloc (Nat.le_refl _) _).alloc (by simp) _⟩
set_option maxRecDepth 100000 in
set_option maxHeartbeats 1000000 in
theorem mayGo_any (r : Mg) (w : World) (hd : r.tx.size ≤ maxLen) : Calls Try.prog 30 #[gmV r] w fun e w' => e = .returned (.bool (mayG r.fr r.to r.tx.size)) ∧ Below w.heap.size w w' := by
  obtain ⟨id, fr, to, tx⟩ := r
  dsimp only at hd ⊢
  have hf1 := hide (fun w => nfrom_any 1 fr 15 w)
  have hf2 := hide (fun w => nfrom_any 1 to 15 w)
  have B0 : Hid (Below w.heap.size w (w.alloc (.cells #[.int .i64 fr, .int .i64 to, .string tx] 30))) := (Below.refl _ w).alloc (Nat.le_refl _) _
  have C0 : (w.alloc (.cells #[.int .i64 fr, .int .i64 to, .string tx] 30)).heap[w.heap.size]? = some (.cells #[.int .i64 fr, .int .i64 to, .string tx] 30 (0, 0)) := heap_alloc_new w _
  obtain ⟨c0, c1, c2, cf⟩ := cells3 C0
  unfold mayG
  unfold maxLen at hd
  generalize hp1 : decide (1 ≤ fr ∧ fr ≤ 15) = b1 at *
  generalize hp2 : decide (1 ≤ to ∧ to ≤ 15) = b2 at *
  clear hp1 hp2 C0 cf
  cases b1 with
  | false =>
    clear c0 c1 c2
    go_enter Try.func30, Try.ntmps30
    go_wp2_with (go_at_call 28; refine (unhide hf1 _).mono ?_; rintro e w' ⟨rfl, rfl⟩)
    go_ret
    exact ⟨rfl, unhide B0⟩
  | true =>
    cases b2 with
    | false =>
      clear c0 c1 c2
      go_enter Try.func30, Try.ntmps30
      go_wp2_with fail
      refine (unhide hf1 _).mono ?_
      rintro e w' ⟨rfl, rfl⟩
      go_wp2_with fail
      refine (unhide hf2 _).mono ?_
      rintro e w' ⟨rfl, rfl⟩
      go_wp2
      go_ret
      exact ⟨rfl, unhide B0⟩
    | true =>
      clear c0 c1 c2
      by_cases h3 : fr = to
      · subst h3
        have e3 : decide (fr ≠ fr) = false := by simp
        rw [e3]
        go_enter Try.func30, Try.ntmps30
        go_wp2_with fail
        refine (unhide hf1 _).mono ?_
        rintro e w' ⟨rfl, rfl⟩
        go_wp2_with fail
        refine (unhide hf2 _).mono ?_
        rintro e w' ⟨rfl, rfl⟩
        go_wp2
        go_ret
        exact ⟨rfl, unhide B0⟩
      · have e3 : decide (fr ≠ to) = true := by simp [h3]
        have q3 : (fr == to) = false := by simp [h3]
        have q4 : (fr != to) = true := by simp [h3]
        rw [e3]
        have HB4 : Hid (∀ b4, decide ((tx.size : Int) ≤ 400) = b4 → (true && (true && (true && b4))) = b4) := by intro b4 _; cases b4 <;> rfl
        obtain ⟨b4, hb4⟩ : ∃ b4, decide ((tx.size : Int) ≤ 400) = b4 := ⟨_, rfl⟩
        have hb5 : decide (tx.size ≤ 400) = b4 := by rw [← hb4]; exact decide_eq_decide.2 (by omega)
        rw [hb4]
        clear h3 e3
        go_enter Try.func30, Try.ntmps30
        go_wp2_with fail
        refine (unhide hf1 _).mono ?_
        rintro e w' ⟨rfl, rfl⟩
        go_wp2_with fail
        refine (unhide hf2 _).mono ?_
        rintro e w' ⟨rfl, rfl⟩
        cases b4
        all_goals
          go_wp2
          go_ret
          exact ⟨rfl, unhide B0⟩
end Go.Proofs.Ytmnjngkdiinnfaa

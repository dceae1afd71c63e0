/- meter: the document's share: its queues, Find. -/
import Derived.Test.YtlmmincpjflkdaaMeG
namespace Go.Proofs.Ytlmmincpjflkdaa
open Go.RowKit
set_option linter.unusedVariables false
attribute [local go_sem] Oper.semAt_some

/-- a queue as the document has it; where its sizes lie -/
structure Dr where
  p : Int
  w : Int
  c : Int
  l : List Int
  a : Option Addr
  k : Nat
def Dr.cl (x : Dr) : List Value := [.int .i64 x.p, .int .i64 x.w, .int .i64 x.c, .slice x.a x.l.length x.k]
def drC (D : List Dr) : List Value := D.flatMap Dr.cl
theorem drC_app (l m : List Dr) : drC (l ++ m) = drC l ++ drC m := by unfold drC; exact List.flatMap_append
theorem drC_get : ∀ (s : List Dr) (i j : Nat) (p : Dr), s[i]? = some p → j < 4 → (drC s)[i * 4 + j]? = p.cl[j]?
  | [], _, _, _, h, _ => by simp at h
  | a :: s, 0, j, p, h, hj => by
    simp at h
    subst h
    rw [show drC (a :: s) = a.cl ++ drC s from rfl, Nat.zero_mul, Nat.zero_add, List.getElem?_append_left (by simpa [Dr.cl] using hj)]
  | a :: s, i + 1, j, p, h, hj => by
    rw [show drC (a :: s) = a.cl ++ drC s from rfl, List.getElem?_append_right (by simp [Dr.cl]; omega)]
    rw [show (i + 1) * 4 + j - a.cl.length = i * 4 + j by simp [Dr.cl]; omega]
    exact drC_get s i j p (by simpa using h) hj
/-- a queue's sizes lie where it tells -/
structure VOk (W : World) (x : Dr) : Prop where
  ints : Ints W x.a x.l
  le : x.l.length ≤ x.k
  ml : x.k ≤ maxLen
  ty : ∀ p, x.a = some p → ∃ cs fr, W.heap[p.block]? = some (.cells cs 3 fr)
theorem VOk.up {W W' : World} {x : Dr} (h : VOk W x) (hb : Below W.heap.size W W') : VOk W' x := ⟨h.ints.below hb, h.le, h.ml, fun p hp => by
  obtain ⟨cs, fr, e⟩ := h.ty p hp
  exact ⟨cs, fr, (hb.block _ (lt_of_block e)).trans e⟩⟩
def RowTy (w : World) (a0 : Option Addr) : Prop := ∀ p, a0 = some p → ∃ cs fr, w.heap[p.block]? = some (.cells cs 45 fr)
theorem RowTy.up {W W' : World} {a : Option Addr} (h : RowTy W a) (hb : Below W.heap.size W W') : RowTy W' a := fun p hp => by
  obtain ⟨cs, fr, e⟩ := h p hp
  exact ⟨cs, fr, (hb.block _ (lt_of_block e)).trans e⟩
def DrsAt (w : World) (a0 : Option Addr) (D : List Dr) : Prop := ∀ (t : Nat) (x : Dr), D[t]? = some x → (∃ g o, a0 = some ⟨g, o, none⟩ ∧ g < w.heap.size ∧ w.rangeAt g (o + t * 4) x.cl) ∧ (VOk w x ∧ RowTy w a0)
theorem DrsAt.up {w w' : World} {a0 : Option Addr} {D : List Dr} (h : DrsAt w a0 D) (hb : Below w.heap.size w w') : DrsAt w' a0 D := fun t x ht => by
  obtain ⟨⟨g, o, h1, h2, h3⟩, h4, h5⟩ := h t x ht
  exact ⟨⟨g, o, h1, Nat.lt_of_lt_of_le h2 hb.size, fun j v hv => cell_below (h3 j v hv) hb⟩, h4.up hb, h5.up hb⟩
def OwnDr (w : World) (base : Nat) (v : Value) (D : List Dr) : Prop := w.ownsRow base 45 4 v D.length (drC D)
theorem OwnDr.drs {w : World} {B : Nat} {v : Value} {D : List Dr} (h : OwnDr w B v D) (hv : ∀ x ∈ D, VOk w x) : ∃ a0 c, v = .slice a0 D.length c ∧ DrsAt w a0 D ∧ D.length ≤ c := by
  rcases h.2 with ⟨h1, h2⟩ | ⟨g, cap, cur, h1, h2, h3, h4, h5, h6, h7⟩
  · refine ⟨none, 0, by rw [h1, h2], fun t c ht => ?_, by omega⟩
    rw [List.length_eq_zero_iff.1 h2] at ht
    cases ht
  · rw [h1] at h
    refine ⟨_, cap, h1, fun t c ht => ⟨⟨g, 0, rfl, lt_of_block h3, fun j v hv => ?_⟩, hv c (List.mem_of_getElem? ht), fun p hp => by cases hp; exact ⟨_, _, h3⟩⟩, h4⟩
    have hl := (List.getElem?_eq_some_iff.1 ht).1
    have hj : j < 4 := (List.getElem?_eq_some_iff.1 hv).1
    rw [Nat.zero_add, World.ownsRow.cellAt h (t * 4 + j) (by omega)]
    have e := drC_get D t j c ht hj
    rw [hv] at e
    exact e
theorem ownDr_up {w w' : World} {B : Nat} {v : Value} {l : List Dr} (h : OwnDr w B v l) (hb : Below w.heap.size w w') : OwnDr w' B v l := World.ownsRow.kept (show World.ownsRow _ _ _ _ _ _ _ from h) ⟨hb.os, hb.tape, hb.output, hb.size, fun i hi _ => hb.block i hi⟩ (row := none) (Classical.em _)
theorem ownDr_ge {w : World} {B : Nat} {v : Value} {l : List Dr} (h : OwnDr w B v l) {k : Nat} (hk : v.ownBlock = some k) : B ≤ k := by
  rcases (show World.ownsRow _ _ _ _ _ _ _ from h).2 with ⟨rfl, h0⟩ | ⟨g, cap, cur, rfl, hb, _⟩
  · simp [Value.ownBlock] at hk
  · simp [Value.ownBlock] at hk
    omega
/-- a whole block, stored -/
structure StR (W : World) (g : Nat) (T : TypeId) (cs : Array Value) (W' : World) : Prop where
  at_ : W'.heap[g]? = some (.cells cs T (0, 0))
  be : Below g W W'
  gr : W.grownBy W' (some g)
theorem stR {W : World} {g : Nat} {T : TypeId} {old : Array Value} (h : W.heap[g]? = some (.cells old T (0, 0))) (cs : Array Value) : StR W g T cs (W.setRow g cs) :=
  ⟨setRow_heap W g old cs T (0, 0) h, ⟨rfl, rfl, rfl, by simp [World.setRow], fun k hk => setRow_other W g k cs (by omega)⟩, ⟨rfl, rfl, rfl, by simp [World.setRow], fun k _ hk => setRow_other W g k cs (fun e => hk (by rw [e]))⟩⟩
theorem st_cell {w w' : World} {g : Nat} {T T2 : TypeId} {cs old cs2 : Array Value} {fr fr2 : Nat × Nat} (hs : StR w g T cs w') (hg : w.heap[g]? = some (.cells old T fr)) {k : Nat} (hk : w.heap[k]? = some (.cells cs2 T2 fr2)) (hT : T2 ≠ T) : w'.heap[k]? = w.heap[k]? :=
  hs.gr.block k (lt_of_block hk) (fun e => by
    obtain rfl := Option.some.inj e
    rw [hg] at hk
    simp only [Option.some.injEq, Obj.cells.injEq] at hk
    exact hT hk.2.1.symm)
theorem VOk.st {w w' : World} {g : Nat} {T : TypeId} {cs old : Array Value} {fr : Nat × Nat} {x : Dr} (h : VOk w x) (hs : StR w g T cs w') (hg : w.heap[g]? = some (.cells old T fr)) (hT : 3 ≠ T) : VOk w' x := by
  refine ⟨fun i hi => ?_, h.le, h.ml, fun p hp => ?_⟩
  · obtain ⟨g2, o2, e, hc⟩ := h.ints i hi
    obtain ⟨cs2, fr2, h2⟩ := h.ty _ e
    exact ⟨g2, o2, e, (World.cell?_of_block (a := ⟨g2, o2 + i, none⟩) (st_cell hs hg h2 hT)).trans hc⟩
  · obtain ⟨cs2, fr2, h2⟩ := h.ty p hp
    exact ⟨cs2, fr2, (st_cell hs hg h2 hT).trans h2⟩
theorem drs_st {w w' : World} {g : Nat} {T : TypeId} {cs old : Array Value} {fr : Nat × Nat} {a : Option Addr} {D : List Dr} (h : DrsAt w a D) (hs : StR w g T cs w') (hg : w.heap[g]? = some (.cells old T fr)) (hT : 3 ≠ T) (hT2 : 45 ≠ T) : DrsAt w' a D := fun t x ht => by
  obtain ⟨⟨g2, o2, h1, h2, h3⟩, h4, h5⟩ := h t x ht
  obtain ⟨cs2, fr2, h6⟩ := h5 _ h1
  have hk := st_cell hs hg h6 hT2
  refine ⟨⟨g2, o2, h1, Nat.lt_of_lt_of_le h2 hs.gr.size, fun j v hv => (World.cell?_of_block (a := ⟨g2, o2 + t * 4 + j, none⟩) hk).trans (h3 j v hv)⟩, h4.st hs hg hT, fun p hp => ?_⟩
  obtain ⟨cs3, fr3, h7⟩ := h5 p hp
  exact ⟨cs3, fr3, (st_cell hs hg h7 hT2).trans h7⟩
/-- a peer's queue -/
def findD (D : List Dr) (p : Int) : Dr := (D.find? fun x : Dr => decide (x.p = p)).getD ⟨p, 0, 0, [], none, 0⟩
theorem findD_no {D : List Dr} {p : Int} (h : ∀ (j : Nat) (x : Dr), D[j]? = some x → x.p ≠ p) : findD D p = ⟨p, 0, 0, [], none, 0⟩ := by
  unfold findD
  rw [List.find?_eq_none.2 (fun x hx => by
    obtain ⟨j, hj⟩ := List.getElem?_of_mem hx
    simpa using h j x hj)]
  rfl
theorem findD_at {D : List Dr} {p : Int} {i : Nat} {x : Dr} (hx : D[i]? = some x) (hp : x.p = p) (h : ∀ (j : Nat) (y : Dr), j < i → D[j]? = some y → y.p ≠ p) : findD D p = x := by
  unfold findD
  have hi := (List.getElem?_eq_some_iff.1 hx)
  obtain ⟨hlt, hxe⟩ := hi
  have hd : D = D.take i ++ x :: D.drop (i + 1) := by
    rw [← hxe, ← List.drop_eq_getElem_cons hlt, List.take_append_drop]
  rw [hd, List.find?_append, List.find?_eq_none.2 (fun y hy => by
    obtain ⟨j, hj⟩ := List.getElem?_of_mem hy
    rw [List.getElem?_take] at hj
    split at hj
    · rename_i hji
      simpa using h j y hji hj
    · cases hj)]
  simp [hp]
theorem findD_ok {W : World} {D : List Dr} (p : Int) (h : ∀ x ∈ D, VOk W x) : VOk W (findD D p) := by
  unfold findD
  cases hf : D.find? (fun x : Dr => decide (x.p = p)) with
  | none => exact ⟨fun i hi => by simp at hi, by simp, by simp, fun p hp => by simp at hp⟩
  | some x => exact h x (List.mem_of_find?_eq_some hf)
theorem DrsAt.ok {W : World} {a0 : Option Addr} {D : List Dr} (h : DrsAt W a0 D) : ∀ x ∈ D, VOk W x := fun x hx => by
  obtain ⟨j, hj⟩ := List.getElem?_of_mem hx
  exact (h j x hj).2.1
abbrev shV (q : Int) (a0 : Option Addr) (n c : Nat) : Value := .agg #[.int .i64 q, .slice a0 n c]
theorem ret_rowM {fn : Func} {p : Tmp} {ty : TypeId} {a : Act} {w : World} {R : Ending → World → Prop} (h : fn.results = #[.cell p ty]) (g : Nat) (t : TypeId) (cs : Array Value) (fr : Nat × Nat) (fs : Array Field)
    (hp : a.tmps.getD p undef = .pointer (some ⟨g, 0, none⟩)) (hg : w.heap[g]? = some (.cells cs t fr)) (hdf : a.defers = [])
    (hu : Try.prog.underlying ty = some (.struct fs)) (hi : (Try.prog.info? ty).map (·.size) = some cs.size) (hR : R (.returned (.agg cs)) w) :
    bodyPost Try.prog fn R .ret a w := bodyPost_ret (results_cell_row h _ w g t cs fr _ hp hg hu rfl hi) hdf hR
theorem results_rowM2 {P : Program} {fn : Func} {p q : Tmp} {ty : TypeId} (h : fn.results = #[.cell p ty, .tmp q]) (tmps : Array Value) (w : World) (g : Nat) (t : TypeId) (cs : Array Value) (fr : Nat × Nat) (fs : Array Field)
    (hp : tmps.getD p undef = .pointer (some ⟨g, 0, none⟩)) (hg : w.heap[g]? = some (.cells cs t fr)) (hu : P.underlying ty = some (.struct fs)) (hi : (P.info? ty).map (·.size) = some cs.size) :
    (results fn tmps).run P w = .ok (.tuple #[.agg cs, tmps.getD q undef]) w := by
  have hp' : tmps[p]?.getD undef = .pointer (some ⟨g, 0, none⟩) := by simpa using hp
  simp [results, h, hp', asAddr, run_loadVar_row w g t ty cs fr _ hg hu rfl hi]
theorem ret_rowM2 {fn : Func} {p q : Tmp} {ty : TypeId} {a : Act} {w : World} {R : Ending → World → Prop} (h : fn.results = #[.cell p ty, .tmp q]) (g : Nat) (t : TypeId) (cs : Array Value) (fr : Nat × Nat) (z : Value) (fs : Array Field)
    (hp : a.tmps.getD p undef = .pointer (some ⟨g, 0, none⟩)) (hz : a.tmps.getD q undef = z) (hg : w.heap[g]? = some (.cells cs t fr)) (hdf : a.defers = []) (hu : Try.prog.underlying ty = some (.struct fs)) (hi : (Try.prog.info? ty).map (·.size) = some cs.size)
    (hR : R (.returned (.tuple #[.agg cs, z])) w) : bodyPost Try.prog fn R .ret a w := by
  refine bodyPost_ret (results_rowM2 h _ w g t cs fr fs hp hg hu hi) hdf ?_
  rw [hz]
  exact hR
/-- the cells of a block of four -/
theorem row4 {W : World} {g : Nat} {u0 u1 u2 u3 : Value} {t : TypeId} (h : W.heap[g]? = some (.cells #[u0, u1, u2, u3] t (0, 0))) : (W.cell? ⟨g, 0, none⟩ = some u0 ∧ W.cell? ⟨g, 1, none⟩ = some u1 ∧ W.cell? ⟨g, 2, none⟩ = some u2 ∧ W.cell? ⟨g, 3, none⟩ = some u3) ∧ (∀ j, W.frozen? ⟨g, j, none⟩ = false) ∧ g < W.heap.size :=
  ⟨⟨cell_of_row _ _ 0 _ _ _ h, cell_of_row _ _ 1 _ _ _ h, cell_of_row _ _ 2 _ _ _ h, cell_of_row _ _ 3 _ _ _ h⟩, fun j => by simp [World.frozen?, h], lt_of_block h⟩
theorem row2 {W : World} {g : Nat} {u0 u1 : Value} {t : TypeId} (h : W.heap[g]? = some (.cells #[u0, u1] t (0, 0))) : (W.cell? ⟨g, 0, none⟩ = some u0 ∧ W.cell? ⟨g, 1, none⟩ = some u1) ∧ (∀ j, W.frozen? ⟨g, j, none⟩ = false) ∧ g < W.heap.size :=
  ⟨⟨cell_of_row _ _ 0 _ _ _ h, cell_of_row _ _ 1 _ _ _ h⟩, fun j => by simp [World.frozen?, h], lt_of_block h⟩
theorem wpList_store_rowM {P : Program} {ops : Array Oper} {rest : List Oper} {o : Oper} {a : Act} {w : World} {Q : Exit → Act → World → Prop} (hgd : o.guard = none) (ty : TypeId) (x y : Operand) (ho : o.op = .store ty x y)
    (g : Nat) (cells : Array Value) (hx : a.eval x = .pointer (some ⟨g, 0, none⟩)) (hy : a.eval y = .agg cells)
    (t : TypeId) (old : Array Value) (hg : w.heap[g]? = some (.cells old t (0, 0))) (hi : (P.info? ty).map (·.size) = some cells.size)
    (hold : old.size = cells.size) (h1 : cells.all (·.oneCell') = true) (G : World → Prop) (hG : G (w.setRow g cells))
    (h : ∀ w', G w' → wpList P ops Q rest (a.put o.dst undef) w') : wpList P ops Q (o :: rest) a w :=
  wpList_store_row hgd ty x y ho g cells hx hy t old hg hi hold h1 (h _ hG)
theorem ownDr_le {w : World} {B B' : Nat} {v : Value} {l : List Dr} (h : OwnDr w B v l) (hb : B' ≤ B) : OwnDr w B' v l := by
  have h := show World.ownsRow _ _ _ _ _ _ _ from h
  refine ⟨h.1, ?_⟩
  rcases h.2 with h2 | ⟨g, cap, cur, h1, h2, h3⟩
  · exact .inl h2
  · exact .inr ⟨g, cap, cur, h1, Nat.le_trans hb h2, h3⟩
theorem ownDr_st {w w' : World} {B g : Nat} {T : TypeId} {cs : Array Value} {v : Value} {l : List Dr} (h : OwnDr w B v l) (hs : StR w g T cs w') (hg : g < B) : OwnDr w' B v l :=
  World.ownsRow.kept (show World.ownsRow _ _ _ _ _ _ _ from h) hs.gr (.inr (fun e => by have := ownDr_ge h e; omega))
set_option maxRecDepth 100000 in
set_option maxHeartbeats 4000000 in
theorem dfind_any (q p : Int) (a0 : Option Addr) (D : List Dr) (c : Nat) (w : World) (hA : DrsAt w a0 D) (hl : D.length ≤ 100000) :
    Calls Try.prog 13 #[shV q a0 D.length c, .int .i64 p] w fun e w' => e = .returned (.agg (findD D p).cl.toArray) ∧ Below w.heap.size w w' := by
  obtain ⟨W0, hW0⟩ : ∃ W0, W0 = (w.alloc (.cells #[.int .i64 q, .slice a0 D.length c] 28)).alloc (.cells #[.int .i64 0, .int .i64 0, .int .i64 0, .slice none 0 0] 45) := ⟨_, rfl⟩
  have e1 : (w.alloc (.cells #[.int .i64 q, .slice a0 D.length c] 28)).heap.size = w.heap.size + 1 := by simp
  have B0 : Hid (Below w.heap.size w W0) := by show Below _ _ _; rw [hW0]; exact ((Below.refl _ _).alloc (Nat.le_refl _) _).alloc (by simp) _
  have H0 : Hid (W0.heap[w.heap.size]? = some (.cells #[.int .i64 q, .slice a0 D.length c] 28 (0, 0))) := by
    show _ = _
    rw [hW0, Below.heap_alloc _ _ _ (by simp)]
    exact heap_alloc_new _ _
  have H1 : Hid (W0.heap[w.heap.size + 1]? = some (.cells #[.int .i64 0, .int .i64 0, .int .i64 0, .slice none 0 0] 45 (0, 0))) := by
    show _ = _
    have := heap_alloc_new (w.alloc (.cells #[.int .i64 q, .slice a0 D.length c] 28)) (.cells #[.int .i64 0, .int .i64 0, .int .i64 0, .slice none 0 0] 45)
    rwa [e1, ← hW0] at this
  have HA := hide (hA.up (unhide B0))
  obtain ⟨R, hR⟩ : ∃ R, R = (findD D p).cl.toArray := ⟨_, rfl⟩
  rw [← hR]
  have HR := hide hR
  have HW := hide hW0
  obtain ⟨n, hn⟩ : ∃ n, n = D.length := ⟨_, rfl⟩
  rw [← hn] at H0 HW hl ⊢
  have HN := hide hn
  clear hA hn hR hW0 e1
  obtain ⟨⟨u0, u1⟩, -, ul⟩ := row2 (unhide H0)
  obtain ⟨⟨s0, s1, s2, s3⟩, sf, sl⟩ := row4 (unhide H1)
  have sf0 := sf 0
  have sf1 := sf 1
  have sf2 := sf 2
  have sf3 := sf 3
  go_enter Try.func13, Try.ntmps13
  go_wp2_with fail
  rw [← unhide HW]
  clear HW sf
  go_loopw [5] (fun iv wr => ∃ i : Nat, i ≤ n ∧ iv = .int .i64 i ∧ Hid (∀ j y, j < i → D[j]? = some y → y.p ≠ p) ∧ W0 = wr) (fun iv _ => n - (intOf iv).toNat)
  case atStart => exact ⟨0, by omega, rfl, fun j y hj => absurd hj (Nat.not_lt_zero _), rfl⟩
  case round =>
    obtain ⟨i, hi, rfl, HNO, rfl⟩ := hrel
    by_cases hlt : i < n
    · have q1 : (i : Int) < n := by omega
      obtain ⟨x, hx⟩ : ∃ x, D[i]? = some x := ⟨_, List.getElem?_eq_getElem (by have := unhide HN; omega)⟩
      obtain ⟨⟨g, o, rfl, hgl, hra⟩, hvo⟩ := (unhide HA) i x hx
      have hc0 : W0.cell? ⟨g, o + i * 4, none⟩ = some (.int .i64 x.p) := hra 0 _ rfl
      by_cases hp : x.p = p
      · have hRx : R = x.cl.toArray := (unhide HR).trans (by rw [findD_at hx hp (unhide HNO)])
        have HRX := hide hRx
        obtain ⟨xp, xw, xc, xl, xa, xk⟩ := x
        have HRA := hide hra
        unfold Dr.cl at HRA HRX
        dsimp only at HRA HRX hc0 hp
        generalize xl.length = z at *
        subst hp
        clear hx hra hvo HNO HR hRx
        go_wp2_with (first | (refine wpList_load_mid rfl 45 (.tmp 24) rfl g (o + i * 4) rfl [.int .i64 xp, .int .i64 xw, .int .i64 xc, .slice xa z xk] _ (unhide HRA) Try.underlying45 rfl (by kernel_rfl) ?_) | (refine wpList_store_rowM rfl 45 (.tmp 4) (.tmp 25) rfl (w.heap.size + 1) #[.int .i64 xp, .int .i64 xw, .int .i64 xc, .slice xa z xk] rfl rfl 45 _ (unhide H1) (by kernel_rfl) rfl (by simp [Value.oneCell']) (StR W0 (w.heap.size + 1) 45 #[.int .i64 xp, .int .i64 xw, .int .i64 xc, .slice xa z xk]) (stR (unhide H1) _) ?_))
        intro w2 h2
        have hb2 : Below w.heap.size w w2 := (unhide B0).trans (h2.be.mono (by omega))
        go_wp2_with fail
        exact ret_rowM (p := 4) (ty := 45) (by kernel_rfl) (w.heap.size + 1) 45 _ (0, 0) _ rfl h2.at_ rfl Try.underlying45 (by kernel_rfl) ⟨by rw [unhide HRX], hb2⟩
      · have hp2 : (x.p == p) = false := by simpa using hp
        have HNO2 : Hid (∀ j y, j < i + 1 → D[j]? = some y → y.p ≠ p) := fun j y hj hy => by
          by_cases e : j = i
          · subst e
            rw [hx] at hy
            cases hy
            exact hp
          · exact unhide HNO j y (by omega) hy
        generalize x.p = xp at *
        clear hx hra hvo HNO
        go_wp2
        go_roundw
        case rel => exact ⟨i + 1, by omega, by go_num, HNO2, trivial⟩
        case measure => simp [intOf]; omega
    · have hin : i = n := by omega
      have q1 : ¬ (i : Int) < n := by omega
      have hRx : R = #[.int .i64 p, .int .i64 0, .int .i64 0, .slice none 0 0] := (unhide HR).trans (by
        rw [findD_no (fun j x hx => unhide HNO j x (by have := (List.getElem?_eq_some_iff.1 hx).1; have := unhide HN; omega) hx)]
        rfl)
      have HRX := hide hRx
      clear HNO HR hRx hin
      go_wp2_with (refine wpList_store_rowM rfl 45 (.tmp 4) (.tmp 27) rfl (w.heap.size + 1) #[.int .i64 p, .int .i64 0, .int .i64 0, .slice none 0 0] rfl rfl 45 _ (unhide H1) (by kernel_rfl) rfl (by simp [Value.oneCell']) (StR W0 (w.heap.size + 1) 45 #[.int .i64 p, .int .i64 0, .int .i64 0, .slice none 0 0]) (stR (unhide H1) _) ?_)
      intro w2 h2
      have hb2 : Below w.heap.size w w2 := (unhide B0).trans (h2.be.mono (by omega))
      go_wp2_with fail
      exact ret_rowM (p := 4) (ty := 45) (by kernel_rfl) (w.heap.size + 1) 45 _ (0, 0) _ rfl h2.at_ rfl Try.underlying45 (by kernel_rfl) ⟨by rw [unhide HRX], hb2⟩
end Go.Proofs.Ytlmmincpjflkdaa

/- The document's Reduce: what lies where, and the mathematics of putting a row in. The document's Reduce: the struct that is filled. -/
import Derived.Test.YtpcndjnhpjhjkaaDoorGdC
namespace Go.Proofs.YtpcndjnhpjhjkaaDoor
open Go.RowKit
set_option linter.unusedVariables false
attribute [local go_sem] Oper.semAt_some

/-- rows of integers are kept -/
structure KI (w w' : World) : Prop where
  keep : ∀ (g : Nat) (cur : Array Value) (fr : Nat × Nat), w.heap[g]? = some (.cells cur 3 fr) → w'.heap[g]? = some (.cells cur 3 fr)
  size : w.heap.size ≤ w'.heap.size
theorem KI.refl (w : World) : KI w w := ⟨fun _ _ _ h => h, Nat.le_refl _⟩
theorem KI.trans {a b c : World} (h : KI a b) (k : KI b c) : KI a c := ⟨fun g cur fr x => k.keep g cur fr (h.keep g cur fr x), Nat.le_trans h.size k.size⟩
theorem KI.of_below {w w' : World} (h : Below w.heap.size w w') : KI w w' := ⟨fun g cur fr x => (h.block g (lt_of_block x)).trans x, h.size⟩
theorem KI.set {w : World} {g j : Nat} {cs : Array Value} {t : TypeId} {fr : Nat × Nat} (hg : w.heap[g]? = some (.cells cs t fr)) (ht : t ≠ 3) (v : Value) : KI w (w.setCell ⟨g, j, none⟩ v) := by
  refine ⟨fun g' cur fr' x => ?_, by simp⟩
  have hne : g' ≠ g := fun e => by
    subst e
    rw [hg] at x
    simp at x
    exact ht x.2.1
  have : (w.setCell ⟨g, j, none⟩ v).heap[g']? = w.heap[g']? := by
    exact heap_setCells_ne g [v] j w g' hne
  rw [this]
  exact x
theorem KI.grown {w w' : World} {base n size : Nat} {e : TypeId} {v : Value} {xs : List Value} (ho : w.ownsRow base e size v n xs) (he : e ≠ 3) (hg : w.grownBy w' v.ownBlock) (hs : w.heap.size ≤ w'.heap.size) : KI w w' := by
  refine ⟨fun g cur fr x => ?_, hs⟩
  rw [hg.block g (lt_of_block x) (fun hb => ?_)]
  · exact x
  · obtain ⟨c, hc⟩ := own_ty ho hb.symm
    rw [x] at hc
    simp at hc
    exact he hc.2.1.symm
theorem own_ki {w w' : World} {base n size : Nat} {v : Value} {xs : List Value} (h : w.ownsRow base 3 size v n xs) (k : KI w w') : w'.ownsRow base 3 size v n xs := by
  refine ⟨h.1, ?_⟩
  rcases h.2 with h2 | ⟨g, cap, cur, h1, h2, h3, h4⟩
  · exact .inl h2
  · exact .inr ⟨g, cap, cur, h1, h2, k.keep _ _ _ h3, h4⟩
/-- a row of integers: of the beginning, or the call's own -/
def IRow (w wr : World) (b : Option Addr) (l : List Nat) : Prop := Ints w b (zs l) ∨ ∃ c, wr.ownsRow w.heap.size 3 1 (.slice b l.length c) l.length (ic (zs l))
theorem IRow.ki {w wr wr' : World} {b : Option Addr} {l : List Nat} (h : IRow w wr b l) (k : KI wr wr') : IRow w wr' b l := by
  rcases h with h | ⟨c, h⟩
  · exact .inl h
  · exact .inr ⟨c, own_ki h k⟩
theorem IRow.ints {w wr : World} {b : Option Addr} {l : List Nat} (h : IRow w wr b l) (hb : Below w.heap.size w wr) : Ints wr b (zs l) := by
  rcases h with h | ⟨c, h⟩
  · exact h.below hb
  · obtain ⟨a0, c', e, hi, _⟩ := OwnI.ints (l := zs l) (by show World.ownsRow _ _ _ _ _ _ _; rw [zs_length]; exact h)
    simp only [Value.slice.injEq] at e
    rw [e.1]
    exact hi
/-- sides as cells -/
def SideC (n : Nat) (w wr : World) (L : List Ln) (Cs : List Value) : Prop := ∀ j, j < L.length → ∃ b c, Cs[j * 2]? = some (.slice b (numsR n (gt L j).1).length c) ∧ Cs[j * 2 + 1]? = some (.string (bs (gt L j).2)) ∧ IRow w wr b (numsR n (gt L j).1)
theorem SideC.ki {n : Nat} {w wr wr' : World} {L : List Ln} {Cs : List Value} (h : SideC n w wr L Cs) (k : KI wr wr') : SideC n w wr' L Cs := fun j hj => by
  obtain ⟨b, c, h1, h2, h3⟩ := h j hj
  exact ⟨b, c, h1, h2, h3.ki k⟩
theorem SideC.nil (n : Nat) (w wr : World) : SideC n w wr [] [] := fun j hj => absurd hj (by simp)
theorem SideC.snoc {n : Nat} {w wr : World} {L : List Ln} {Cs : List Value} (h : SideC n w wr L Cs) (hl : Cs.length = L.length * 2) {x : Ln} {b : Option Addr} {c : Nat} (hI : IRow w wr b (numsR n x.1)) : SideC n w wr (L ++ [x]) (Cs ++ [.slice b (numsR n x.1).length c, .string (bs x.2)]) := fun j hj => by
  rw [List.length_append, List.length_singleton] at hj
  by_cases e : j < L.length
  · obtain ⟨b', c', h1, h2, h3⟩ := h j e
    have eg : gt (L ++ [x]) j = gt L j := by simp [gt, List.getD, List.getElem?_append_left e]
    rw [eg]
    refine ⟨b', c', ?_, ?_, h3⟩
    · rw [List.getElem?_append_left (by omega)]; exact h1
    · rw [List.getElem?_append_left (by omega)]; exact h2
  · obtain rfl : j = L.length := by omega
    have eg : gt (L ++ [x]) L.length = x := by simp [gt, List.getD]
    rw [eg]
    refine ⟨b, c, ?_, ?_, hI⟩
    · rw [List.getElem?_append_right (by omega), hl]; simp
    · rw [List.getElem?_append_right (by omega), hl]; simp
/-- sides that are handed in -/
def SidesA (n : Nat) (w : World) (a0 : Option Addr) (L : List Ln) : Prop := ∀ j, j < L.length → ∃ g o, a0 = some ⟨g, o, none⟩ ∧ ∃ b c, w.cell? ⟨g, o + j * 2, none⟩ = some (.slice b (numsR n (gt L j).1).length c) ∧ w.cell? ⟨g, o + j * 2 + 1, none⟩ = some (.string (bs (gt L j).2)) ∧ Ints w b (zs (numsR n (gt L j).1))
theorem insS_put (x : Ln) : ∀ (A : List Ln) (y : Ln), (∃ z ∈ A, fb x.1 < fb z.1) → insS x (A ++ [y]) = insS x A ++ [y]
  | [], _, ⟨z, hz, _⟩ => by simp at hz
  | a :: A, y, ⟨z, hz, h⟩ => by
    rw [List.cons_append]
    unfold insS
    by_cases e : fb x.1 < fb a.1
    · rw [if_pos e, if_pos e]; simp
    · rw [if_neg e, if_neg e]
      rcases List.mem_cons.1 hz with rfl | hz
      · exact absurd h e
      · rw [insS_put x A y ⟨z, hz, h⟩]; simp
theorem insS_not (x : Ln) : ∀ (A : List Ln), (∀ z ∈ A, ¬ fb x.1 < fb z.1) → insS x A = A ++ [x]
  | [], _ => rfl
  | a :: A, h => by
    unfold insS
    rw [if_neg (h a (by simp)), insS_not x A (fun z hz => h z (by simp [hz]))]
    rfl
theorem insS_now (x : Ln) : ∀ (A : List Ln) (y : Ln), (∀ z ∈ A, ¬ fb x.1 < fb z.1) → fb x.1 < fb y.1 → insS x (A ++ [y]) = A ++ [x] ++ [y]
  | [], y, _, h => by
    show insS x [y] = [x, y]
    unfold insS
    rw [if_pos h]
  | a :: A, y, h, hy => by
    rw [List.cons_append]
    unfold insS
    rw [if_neg (h a (by simp)), insS_now x A y (fun z hz => h z (by simp [hz])) hy]
    rfl
/-- how far putting in has come: what is put next, and whether the row stands there -/
def InK (x : Ln) (A N : List Ln) (p : Bool) : Prop := (p = false ∧ N = A ∧ ∀ z ∈ A, ¬ fb x.1 < fb z.1) ∨ (p = true ∧ N = insS x A ∧ ∃ z ∈ A, fb x.1 < fb z.1)
theorem InK.nil (x : Ln) : InK x [] [] false := .inl ⟨rfl, rfl, by simp⟩
theorem InK.put {x y : Ln} {A N : List Ln} (h : InK x A N true) : InK x (A ++ [y]) (N ++ [y]) true := by
  rcases h with ⟨h, _⟩ | ⟨_, h2, h3⟩
  · cases h
  · refine .inr ⟨rfl, by rw [insS_put x A y h3, h2], ?_⟩
    obtain ⟨z, hz, hf⟩ := h3
    exact ⟨z, by simp [hz], hf⟩
theorem InK.now {x y : Ln} {A N : List Ln} (h : InK x A N false) (hy : fb x.1 < fb y.1) : InK x (A ++ [y]) (N ++ [x] ++ [y]) true := by
  rcases h with ⟨_, h2, h3⟩ | ⟨h, _⟩
  · exact .inr ⟨rfl, by rw [insS_now x A y h3 hy, h2], y, by simp, hy⟩
  · cases h
theorem InK.not {x y : Ln} {A N : List Ln} (h : InK x A N false) (hy : ¬ fb x.1 < fb y.1) : InK x (A ++ [y]) (N ++ [y]) false := by
  rcases h with ⟨_, h2, h3⟩ | ⟨h, _⟩
  · refine .inl ⟨rfl, by rw [h2], fun z hz => ?_⟩
    rcases List.mem_append.1 hz with hz | hz
    · exact h3 z hz
    · simp at hz; rw [hz]; exact hy
  · cases h
theorem InK.fin {x : Ln} {A N : List Ln} {p : Bool} (h : InK x A N p) : insS x A = if p = true then N else N ++ [x] := by
  rcases h with ⟨rfl, h2, h3⟩ | ⟨rfl, h2, h3⟩
  · rw [insS_not x A h3, h2]; rfl
  · rw [h2]; rfl
theorem InK.len {x : Ln} {A N : List Ln} {p : Bool} (h : InK x A N p) : N.length ≤ A.length + 1 := by
  rcases h with ⟨rfl, h2, h3⟩ | ⟨rfl, h2, h3⟩
  · rw [h2]; omega
  · rw [h2, insS_len]; omega
/-- what Has answers of a row and another one's first number -/
theorem has_first {n : Nat} {x y : Ln} (hn : n ≤ 160) (hx : x.1 < 2 ^ n) (hy : y.1 ≠ 0) (hyb : y.1 < 2 ^ n) : decide ((fstI n y.1) ∈ zs (numsR n x.1)) = x.1.testBit (fb y.1) := by
  unfold fstI
  rw [if_neg hy]
  have hf : fb y.1 < n := by
    have h200 : y.1 < 2 ^ 200 := Nat.lt_of_lt_of_le hyb (Nat.pow_le_pow_right (by omega) (by omega))
    have h1 := (fb_spec hy h200).1
    rcases Nat.lt_or_ge (fb y.1) n with h | h
    · exact h
    · have := Nat.testBit_lt_two_pow (Nat.lt_of_lt_of_le hyb (Nat.pow_le_pow_right (by omega) h))
      rw [this] at h1
      cases h1
  cases hb : x.1.testBit (fb y.1) with
  | true => exact decide_eq_true (List.mem_map.2 ⟨fb y.1, by unfold numsR; rw [List.mem_filter]; exact ⟨List.mem_range.2 hf, hb⟩, rfl⟩)
  | false =>
    refine decide_eq_false (fun h => ?_)
    obtain ⟨z, hz, e⟩ := List.mem_map.1 h
    have : z = fb y.1 := by omega
    unfold numsR at hz
    rw [List.mem_filter, this, hb] at hz
    cases hz.2
theorem numsR_nil {n r : Nat} (h : r < 2 ^ n) : ((numsR n r).length = 0) ↔ r = 0 := by
  constructor
  · intro h0
    have e := List.eq_nil_of_length_eq_zero h0
    refine zero_of_bits h (fun b hb => ?_)
    cases hq : r.testBit b with
    | false => rfl
    | true =>
      have : b ∈ numsR n r := by unfold numsR; rw [List.mem_filter]; exact ⟨List.mem_range.2 hb, hq⟩
      rw [e] at this
      simp at this
  · intro h0
    subst h0
    unfold numsR
    simp
end Go.Proofs.YtpcndjnhpjhjkaaDoor
namespace Go.Proofs.YtpcndjnhpjhjkaaDoor
open Go.RowKit
set_option linter.unusedVariables false
attribute [local go_sem] Oper.semAt_some

structure RD (n : Nat) (w wr : World) (s : List Ln × List By) (vL vE : Value) : Prop where
  box : wr.heap[w.heap.size + 1]? = some (.cells #[vL, vE] 74 (0, 0))
  res : wr.heap[w.heap.size]? = some (.cells #[.slice none 0 0, .slice none 0 0] 74 (0, 0))
  li : ∃ Cs, wr.ownsRow (w.heap.size + 2) 78 2 vL s.1.length Cs ∧ SideC n w wr s.1 Cs
  em : wr.ownsRow (w.heap.size + 2) 9 1 vE s.2.length (sc s.2)
  bel : Below w.heap.size w wr
  sz : w.heap.size + 2 ≤ wr.heap.size
theorem RD.below {n : Nat} {w wr wr' : World} {s : List Ln × List By} {vL vE : Value} (h : RD n w wr s vL vE) (hb : Below wr.heap.size wr wr') : RD n w wr' s vL vE := by
  obtain ⟨Cs, h1, h2⟩ := h.li
  exact ⟨(hb.block _ (lt_of_block h.box)).trans h.box, (hb.block _ (lt_of_block h.res)).trans h.res, ⟨Cs, own_below2 h1 hb, h2.ki (KI.of_below hb)⟩, own_below2 h.em hb, h.bel.trans (hb.mono h.bel.size), by have := hb.size; have := h.sz; omega⟩
/-- a side in a box -/
def XB (n : Nat) (w wr : World) (gx : Nat) (x : Ln) : Prop := ∃ b c, wr.heap[gx]? = some (.cells #[.slice b (numsR n x.1).length c, .string (bs x.2)] 78 (0, 0)) ∧ IRow w wr b (numsR n x.1)
theorem XB.below {n : Nat} {w wr wr' : World} {gx : Nat} {x : Ln} (h : XB n w wr gx x) (hb : Below wr.heap.size wr wr') : XB n w wr' gx x := by
  obtain ⟨b, c, h1, h2⟩ := h
  exact ⟨b, c, (hb.block _ (lt_of_block h1)).trans h1, h2.ki (KI.of_below hb)⟩
theorem XB.lt {n : Nat} {w wr : World} {gx : Nat} {x : Ln} (h : XB n w wr gx x) : gx < wr.heap.size := by
  obtain ⟨b, c, h1, h2⟩ := h
  exact lt_of_block h1
theorem RD.setX {n : Nat} {w wr : World} {s : List Ln × List By} {vL vE : Value} {gx j : Nat} {cs : Array Value} (h : RD n w wr s vL vE) (hx : wr.heap[gx]? = some (.cells cs 78 (0, 0))) (hg : w.heap.size + 2 ≤ gx) (hv : ∀ q, vL.ownBlock = some q → q < gx) (v : Value) : RD n w (wr.setCell ⟨gx, j, none⟩ v) s vL vE := by
  obtain ⟨Cs, h1, h2⟩ := h.li
  refine ⟨?_, ?_, ⟨Cs, ownsRow_setCell_other h1 (fun e => ?_) v, h2.ki (KI.set hx (by decide) v)⟩, ownsRow_setCell_other h.em (fun e => ?_) v, h.bel.setCell (p := ⟨gx, j, none⟩) (by show w.heap.size ≤ gx; omega) v, by have := h.sz; simpa using this⟩
  · rw [Below.heap_setCell _ _ _ _ (by simp; omega)]; exact h.box
  · rw [Below.heap_setCell _ _ _ _ (by simp; omega)]; exact h.res
  · have := hv gx e
    omega
  · obtain ⟨c, hc⟩ := own_ty h.em e
    rw [hx] at hc
    simp at hc
theorem RD.setL {n : Nat} {w wr : World} {s : List Ln × List By} {vL vE vN : Value} {N : List Ln} {Cs : List Value} (h : RD n w wr s vL vE) (h1 : wr.ownsRow (w.heap.size + 2) 78 2 vN N.length Cs) (h2 : SideC n w wr N Cs) : RD n w (wr.setCell ⟨w.heap.size + 1, 0, none⟩ vN) (N, s.2) vN vE := by
  refine ⟨?_, ?_, ⟨Cs, ownsRow_setCell_below h1 (by simp) _, h2.ki (KI.set h.box (by decide) _)⟩, ownsRow_setCell_below h.em (by simp) _, h.bel.setCell (p := ⟨w.heap.size + 1, 0, none⟩) (by simp) _, by have := h.sz; simpa using this⟩
  · rw [heap_setCell_same _ _ _ _ _ _ h.box]; rfl
  · rw [Below.heap_setCell _ _ _ _ (by simp)]; exact h.res
theorem RD.pushE {n : Nat} {w wr W : World} {s : List Ln × List By} {vL vE v' : Value} {o : Obj} {x : By} (h : RD n w wr s vL vE) (hO : W.ownsRow (w.heap.size + 2) 9 1 v' (s.2.length + 1) (sc s.2 ++ [.string (bs x)])) (hg : (wr.alloc o).grownBy W vE.ownBlock) (hs : (wr.alloc o).heap.size ≤ W.heap.size) : RD n w (W.setCell ⟨w.heap.size + 1, 1, none⟩ v') (s.1, s.2 ++ [x]) vL v' := by
  obtain ⟨Cs, h1, h2⟩ := h.li
  have hsz := h.sz
  have hb : Below (w.heap.size + 2) wr W := ((Below.refl _ _).alloc hsz _).grown hg (by simp; omega) (fun q hq => (h.em.lt q hq).1)
  have hbox : W.heap[w.heap.size + 1]? = _ := (hb.block _ (by omega)).trans h.box
  have hres : W.heap[w.heap.size]? = _ := (hb.block _ (by omega)).trans h.res
  have hki : KI wr W := (KI.of_below ((Below.refl _ _).alloc (Nat.le_refl _) _)).trans (KI.grown (h.em.alloc o) (by decide) hg hs)
  refine ⟨?_, ?_, ⟨Cs, ownsRow_setCell_below ((h1.alloc o).kept hg (own_apart h1 h.em (by decide))) (by simp) _, (h2.ki hki).ki (KI.set hbox (by decide) _)⟩, ?_, ?_, ?_⟩
  · rw [heap_setCell_same _ _ _ _ _ _ hbox]; rfl
  · rw [Below.heap_setCell _ _ _ _ (by simp)]; exact hres
  · have := ownsRow_setCell_below hO (a := ⟨w.heap.size + 1, 1, none⟩) (by simp) v'
    show World.ownsRow _ _ _ _ _ (List.length (s.2 ++ [x])) (sc (s.2 ++ [x]))
    rw [List.length_append, sc_append]
    exact this
  · exact (h.bel.trans (hb.mono (by omega))).setCell (p := ⟨w.heap.size + 1, 1, none⟩) (by simp) _
  · have := hb.size
    simp
    omega
theorem docS_one (s : List Ln × List By) (x : Ln) : docS s x = if (redX s.1 x).1 = 0 then (s.1, s.2 ++ [(redX s.1 x).2]) else (insS (redX s.1 x) (s.1.map (addIf (redX s.1 x))), s.2) := rfl
theorem docN_take {L : List Ln} {k : Nat} (h : k < L.length) : docN (L.take (k + 1)) = docS (docN (L.take k)) (gt L k) := by
  have e : gt L k = L[k] := by simp [gt, List.getD, h]
  rw [List.take_succ_eq_append_getElem h, docN_snoc, e]
theorem docS_lens (s : List Ln × List By) (x : Ln) : (docS s x).1.length + (docS s x).2.length = s.1.length + s.2.length + 1 := by
  rw [docS_one]
  split
  · simp; omega
  · simp [insS_len]; omega
theorem docN_lens (L : List Ln) (k : Nat) (h : k ≤ L.length) : (docN (L.take k)).1.length + (docN (L.take k)).2.length = k := by
  induction k with
  | zero => simp [docN]
  | succ k ih =>
    rw [docN_take (by omega), docS_lens, ih (by omega)]
theorem redX_take {A : List Ln} {x : Ln} {j : Nat} (h : j < A.length) : redX (A.take (j + 1)) x = if (redX (A.take j) x).1.testBit (fb (gt A j).1) then addV (redX (A.take j) x) (gt A j) else redX (A.take j) x := by
  have e : gt A j = A[j] := by simp [gt, List.getD, h]
  unfold redX
  rw [List.take_succ_eq_append_getElem h, List.foldl_append, e]
  rfl
end Go.Proofs.YtpcndjnhpjhjkaaDoor

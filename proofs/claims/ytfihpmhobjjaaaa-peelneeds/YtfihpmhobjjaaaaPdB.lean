/- The document's Peel. -/
import Derived.Test.YtfihpmhobjjaaaaPdA
import Derived.Test.YtfihpmhobjjaaaaEff
namespace Go.Proofs.Ytfihpmhobjjaaaa
open Go.RowKit
set_option linter.unusedVariables false
attribute [local go_sem] Oper.semAt_some

theorem Try.infoDs : (Try.prog.info? 35).map (fun i => (i.zero, i.size, i.bytes)) = some (some (.agg #[.int .i64 0, .int .i64 0]), 2, 16) := by kernel_rfl
theorem Try.undDs : Try.prog.underlying 30 = some (.slice 35) := by kernel_rfl
theorem own_ty2 {w : World} {base n b size : Nat} {e : TypeId} {v : Value} {xs : List Value} (h : w.ownsRow base e size v n xs) (hb : v.ownBlock = some b) : ∃ cur, w.heap[b]? = some (.cells cur e (0, 0)) := by
  rcases h.2 with ⟨rfl, _⟩ | ⟨g, cap, cur, rfl, _, hg, _⟩
  · simp [Value.ownBlock] at hb
  · simp [Value.ownBlock] at hb
    subst hb
    exact ⟨cur, hg⟩
theorem own_apart2 {w : World} {base base' n n' size size' : Nat} {e e' : TypeId} {v v' : Value} {xs xs' : List Value} (h : w.ownsRow base e size v n xs) (h' : w.ownsRow base' e' size' v' n' xs') (he : e ≠ e') : v.ownBlock = none ∨ v.ownBlock ≠ v'.ownBlock := by
  cases hb : v.ownBlock with
  | none => exact .inl rfl
  | some b =>
    refine .inr (fun hb' => ?_)
    obtain ⟨c, hc⟩ := own_ty2 h hb
    obtain ⟨c', hc'⟩ := own_ty2 h' hb'.symm
    rw [hc] at hc'
    simp at hc'
    exact he hc'.2
theorem two0 {w : World} {b : Nat} {u v : Value} {t : TypeId} (h : w.heap[b]? = some (.cells #[u, v] t (0, 0))) : w.cell? ⟨b, 0, none⟩ = some u := by simp [World.cell?, h]
theorem two1 {w : World} {b : Nat} {u v : Value} {t : TypeId} (h : w.heap[b]? = some (.cells #[u, v] t (0, 0))) : w.cell? ⟨b, 1, none⟩ = some v := by simp [World.cell?, h]
theorem twof {w : World} {b j : Nat} {u v : Value} {t : TypeId} (h : w.heap[b]? = some (.cells #[u, v] t (0, 0))) : w.frozen? ⟨b, j, none⟩ = false := by simp [World.frozen?, h]
theorem ret_two {fn : Func} {p : Tmp} {ty : TypeId} {a : Act} {w : World} {R : Ending → World → Prop} (h : fn.results = #[.cell p ty]) (g : Nat) (t : TypeId) (cs : Array Value) (fr : Nat × Nat) (fs : Array Field)
    (hp : a.tmps.getD p undef = .pointer (some ⟨g, 0, none⟩)) (hg : w.heap[g]? = some (.cells cs t fr)) (hdf : a.defers = [])
    (hu : Try.prog.underlying ty = some (.struct fs)) (hi : (Try.prog.info? ty).map (·.size) = some cs.size) (hR : R (.returned (.agg cs)) w) :
    bodyPost Try.prog fn R .ret a w := bodyPost_ret (results_cell_row h _ w g t cs fr _ hp hg hu rfl hi) hdf hR
/-- what is known behind steps, in the order in which it got known -/
def KD (K : List Nat) (D : List (Nat × Nat)) : List Nat := K ++ D.map (·.2)
theorem KD_snoc (K : List Nat) (D : List (Nat × Nat)) (p : Nat × Nat) : KD K (D ++ [p]) = KD K D ++ [p.2] := by simp [KD]
theorem KD_len (K : List Nat) (D : List (Nat × Nat)) : (KD K D).length = K.length + D.length := by simp [KD]
/-- the struct that is filled, in a world -/
structure PD (w wr : World) (D : List (Nat × Nat)) (Kn : List Nat) (vL vK : Value) : Prop where
  box : wr.heap[w.heap.size + 1]? = some (.cells #[vL, vK] 52 (0, 0))
  res : wr.heap[w.heap.size]? = some (.cells #[.slice none 0 0, .slice none 0 0] 52 (0, 0))
  st : wr.ownsRow (w.heap.size + 2) 35 2 vL D.length (stc D)
  kn : wr.ownsRow (w.heap.size + 2) 3 1 vK Kn.length (ic (zs Kn))
  bel : Below w.heap.size w wr
  sz : w.heap.size + 2 ≤ wr.heap.size
theorem PD.below {w wr wr' : World} {D : List (Nat × Nat)} {Kn : List Nat} {vL vK : Value} (h : PD w wr D Kn vL vK) (hb : Below wr.heap.size wr wr') : PD w wr' D Kn vL vK :=
  ⟨(hb.block _ (lt_of_block h.box)).trans h.box, (hb.block _ (lt_of_block h.res)).trans h.res, own_below2 h.st hb, own_below2 h.kn hb, h.bel.trans (hb.mono h.bel.size), by have := hb.size; have := h.sz; omega⟩
theorem PD.pushK {w wr W : World} {D : List (Nat × Nat)} {Kn : List Nat} {vL vK v' : Value} {o : Obj} {i : Nat} (h : PD w wr D Kn vL vK) (hO : W.ownsRow (w.heap.size + 2) 3 1 v' (Kn.length + 1) (ic (zs Kn) ++ [.int .i64 (i : Int)])) (hg : (wr.alloc o).grownBy W vK.ownBlock) : PD w (W.setCell ⟨w.heap.size + 1, 1, none⟩ v') D (Kn ++ [i]) vL v' := by
  have hsz := h.sz
  have hb : Below (w.heap.size + 2) wr W := ((Below.refl _ _).alloc hsz _).grown hg (by simp; omega) (fun q hq => (h.kn.lt q hq).1)
  have hbox : W.heap[w.heap.size + 1]? = _ := (hb.block _ (by omega)).trans h.box
  have hres : W.heap[w.heap.size]? = _ := (hb.block _ (by omega)).trans h.res
  refine ⟨?_, ?_, ?_, ?_, ?_, ?_⟩
  · rw [heap_setCell_same _ _ _ _ _ _ hbox]
    rfl
  · rw [Below.heap_setCell _ _ _ _ (by simp)]
    exact hres
  · exact ownsRow_setCell_below ((h.st.alloc o).kept hg (own_apart2 h.st h.kn (by decide))) (by simp) _
  · have := ownsRow_setCell_below hO (a := ⟨w.heap.size + 1, 1, none⟩) (by simp) v'
    rw [List.length_append]
    unfold zs at *
    rw [List.map_append, ic_append]
    exact this
  · exact (h.bel.trans (hb.mono (by omega))).setCell (p := ⟨w.heap.size + 1, 1, none⟩) (by simp) _
  · have := hb.size
    simp
    omega
theorem PD.pushL {w wr W : World} {D : List (Nat × Nat)} {Kn : List Nat} {vL vK v' : Value} {o : Obj} {p : Nat × Nat} (h : PD w wr D Kn vL vK) (hO : W.ownsRow (w.heap.size + 2) 35 2 v' (D.length + 1) (stc D ++ [.int .i64 (p.1 : Int), .int .i64 (p.2 : Int)])) (hg : (wr.alloc o).grownBy W vL.ownBlock) : PD w (W.setCell ⟨w.heap.size + 1, 0, none⟩ v') (D ++ [p]) Kn v' vK := by
  have hsz := h.sz
  have hb : Below (w.heap.size + 2) wr W := ((Below.refl _ _).alloc hsz _).grown hg (by simp; omega) (fun q hq => (h.st.lt q hq).1)
  have hbox : W.heap[w.heap.size + 1]? = _ := (hb.block _ (by omega)).trans h.box
  have hres : W.heap[w.heap.size]? = _ := (hb.block _ (by omega)).trans h.res
  refine ⟨?_, ?_, ?_, ?_, ?_, ?_⟩
  · rw [heap_setCell_same _ _ _ _ _ _ hbox]
    rfl
  · rw [Below.heap_setCell _ _ _ _ (by simp)]
    exact hres
  · have := ownsRow_setCell_below hO (a := ⟨w.heap.size + 1, 0, none⟩) (by simp) v'
    rw [List.length_append, stc_snoc]
    exact this
  · exact ownsRow_setCell_below ((h.kn.alloc o).kept hg (own_apart2 h.kn h.st (by decide))) (by simp) _
  · exact (h.bel.trans (hb.mono (by omega))).setCell (p := ⟨w.heap.size + 1, 0, none⟩) (by simp) _
  · have := hb.size
    simp
    omega
theorem PD.cells {w wr : World} {D : List (Nat × Nat)} {Kn : List Nat} {vL vK : Value} (h : PD w wr D Kn vL vK) : wr.cell? ⟨w.heap.size + 1, 0, none⟩ = some vL ∧ wr.cell? ⟨w.heap.size + 1, 1, none⟩ = some vK := ⟨two0 h.box, two1 h.box⟩
theorem PD.ints {w wr : World} {D : List (Nat × Nat)} {Kn : List Nat} {vL vK : Value} (h : PD w wr D Kn vL vK) : ∃ a c, vK = .slice a Kn.length c ∧ Ints wr a (zs Kn) := by
  obtain ⟨a0, c, e, hi, h1, h2⟩ := OwnI.ints (l := zs Kn) (by show World.ownsRow _ _ _ _ _ _ _; rw [zs_length]; exact h.kn)
  rw [zs_length] at e
  exact ⟨a0, c, e, hi⟩
theorem lst_len {S : Nat → Bool} {r : List Nat} : (∃ i, lstN S r = some i ∧ unk S r = [i]) ∨ (lstN S r = none ∧ (unk S r).length ≠ 1) := by
  unfold lstN
  match unk S r with
  | [] => exact .inr ⟨rfl, by simp⟩
  | [i] => exact .inl ⟨i, rfl, rfl⟩
  | a :: b :: t => exact .inr ⟨rfl, by simp⟩
end Go.Proofs.Ytfihpmhobjjaaaa

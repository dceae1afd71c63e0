/- peers: the document's table; Find. peers: the document's table: without a peer, with another one. peers: the document's table: with another one; small tests; Leave. peers: the document's table: small tests, Leave, Ban, Late. -/
import Derived.Test.YtbfakbooenmhoaaQaN
namespace Go.Proofs.Ytbfakbooenmhoaa
open Go.RowKit
set_option linter.unusedVariables false
attribute [local go_sem] Oper.semAt_some

theorem Try.infoDe : (Try.prog.info? 43).map (fun i => (i.zero, i.size, i.bytes)) = some (some (.agg #[.int .i64 0, .int .i64 0, .int .i64 0, .string ⟨#[]⟩, .bool false, .bool false, .bool false, .int .i64 0, .int .i64 0, .int .i64 0]), 10, 72) := by kernel_rfl
theorem Try.undDe : Try.prog.underlying 26 = some (.slice 43) := by kernel_rfl
/-- a row of the document's peers, of the caller's own -/
def OwnDe (w : World) (base : Nat) (v : Value) (l : List Pr) : Prop := w.ownsRow base 43 10 v l.length (peC l)
theorem ownDe_shape {w : World} {B : Nat} {v : Value} {l : List Pr} (h : OwnDe w B v l) : ∃ a0 c, v = .slice a0 l.length c := by
  rcases h.2 with ⟨h1, h2⟩ | ⟨g, cap, cur, h1, _⟩
  · exact ⟨none, 0, by rw [h1, h2]⟩
  · exact ⟨_, _, h1⟩
theorem own_des {w : World} {B : Nat} {v : Value} {l : List Pr} (h : OwnDe w B v l) : ∃ a0 c, v = .slice a0 l.length c ∧ PesAt w a0 l ∧ ∀ a, a0 = some a → B ≤ a.block ∧ a.block < w.heap.size := by
  rcases h.2 with ⟨h1, h2⟩ | ⟨g, cap, cur, h1, h2, h3, h4, h5, h6, h7⟩
  · refine ⟨none, 0, by rw [h1, h2], fun t c ht => ?_, fun a ha => by cases ha⟩
    have := (List.getElem?_eq_some_iff.1 ht).1
    omega
  · refine ⟨_, _, h1, fun t c ht => ⟨g, rfl, fun j v hv => ?_⟩, fun a ha => by cases ha; exact ⟨h2, lt_of_block h3⟩⟩
    have hj : j < 10 := (List.getElem?_eq_some_iff.1 hv).1
    have ht' := (List.getElem?_eq_some_iff.1 ht).1
    rw [cell_of_row _ _ _ _ _ _ h3, ← Array.getElem?_toList, ← hv, ← peC_get l t j c ht hj, ← h7, List.getElem?_take, if_pos (by omega)]
theorem ownDe_up {w w' : World} {B : Nat} {v : Value} {l : List Pr} (h : OwnDe w B v l) (hb : Below w.heap.size w w') : OwnDe w' B v l := by
  refine ⟨h.1, ?_⟩
  rcases h.2 with ⟨h1, h2⟩ | ⟨g, cap, cur, h1, h2, h3, h4⟩
  · exact .inl ⟨h1, h2⟩
  · exact .inr ⟨g, cap, cur, h1, h2, (hb.block g (lt_of_block h3)).trans h3, h4⟩
theorem ownDe_le {w : World} {B B' : Nat} {v : Value} {l : List Pr} (h : OwnDe w B v l) (hb : B' ≤ B) : OwnDe w B' v l := ⟨h.1, h.2.imp id fun ⟨g, cap, cur, h1, h2, h3⟩ => ⟨g, cap, cur, h1, Nat.le_trans hb h2, h3⟩⟩
theorem ownI_up {w w' : World} {B : Nat} {v : Value} {l : List Int} (h : OwnI w B v l) (hb : Below w.heap.size w w') : OwnI w' B v l := by
  refine ⟨h.1, ?_⟩
  rcases h.2 with ⟨h1, h2⟩ | ⟨g, cap, cur, h1, h2, h3, h4⟩
  · exact .inl ⟨h1, h2⟩
  · exact .inr ⟨g, cap, cur, h1, h2, (hb.block g (lt_of_block h3)).trans h3, h4⟩
/-- the rows of a table of the document's -/
structure Dt (B : Nat) (w : World) (vL vB : Value) (L : List Pr) (Bs : List Int) : Prop where
  oL : OwnDe w B vL L
  oB : OwnI w B vB Bs
  nL : L.length ≤ 16
  nB : Bs.length ≤ 100
theorem Dt.up {B : Nat} {w w' : World} {vL vB : Value} {L : List Pr} {Bs : List Int} (h : Dt B w vL vB L Bs) (hb : Below w.heap.size w w') : Dt B w' vL vB L Bs := ⟨ownDe_up h.oL hb, ownI_up h.oB hb, h.nL, h.nB⟩
/-- a table by value -/
abbrev tabV (room tmo : Int) (vL vB : Value) : Value := .agg #[.int .i64 room, .int .i64 tmo, vL, vB]
theorem ownI_shape {w : World} {B : Nat} {v : Value} {l : List Int} (h : OwnI w B v l) : ∃ a0 c, v = .slice a0 l.length c := by
  rcases (show World.ownsRow _ _ _ _ _ _ _ from h).2 with ⟨h1, h2⟩ | ⟨g, cap, cur, h1, _⟩
  · exact ⟨none, 0, by rw [h1, h2]⟩
  · exact ⟨_, _, h1⟩
theorem four_cells {w : World} {b : Nat} {c0 c1 c2 c3 : Value} {t : TypeId} (h : w.heap[b]? = some (.cells #[c0, c1, c2, c3] t (0, 0))) : w.cell? ⟨b, 0, none⟩ = some c0 ∧ w.cell? ⟨b, 1, none⟩ = some c1 ∧ w.cell? ⟨b, 2, none⟩ = some c2 ∧ w.cell? ⟨b, 3, none⟩ = some c3 := by simp [World.cell?, h]
/-- the place of a number, or -1 -/
def fnd (L : List Pr) (n : Int) : Int := if L.findIdx (fun c => decide (c.nd = n)) < L.length then L.findIdx (fun c => decide (c.nd = n)) else -1
theorem fnd_at {L : List Pr} {n : Int} {i : Nat} {c : Pr} (hi : L[i]? = some c) (hc : c.nd = n) (hlt : ∀ (j : Nat) (d : Pr), j < i → L[j]? = some d → d.nd ≠ n) : fnd L n = i := by
  obtain ⟨h1, h2⟩ := List.getElem?_eq_some_iff.1 hi
  have : L.findIdx (fun c => decide (c.nd = n)) = i := (List.findIdx_eq h1).2 ⟨by simp [h2, hc], fun j hj => by simpa using hlt j _ hj (List.getElem?_eq_getElem (by omega))⟩
  unfold fnd
  rw [this, if_pos h1]
theorem fnd_no {L : List Pr} {n : Int} (h : ∀ (j : Nat) (d : Pr), L[j]? = some d → d.nd ≠ n) : fnd L n = -1 := by
  unfold fnd
  rw [if_neg]
  intro hlt
  have := List.findIdx_getElem (w := hlt)
  exact h _ _ (List.getElem?_eq_getElem hlt) (by simpa using this)
theorem fnd_inv {L : List Pr} {n : Int} : fnd L n = -1 ∨ ∃ (i : Nat) (c : Pr), fnd L n = i ∧ L[i]? = some c ∧ c.nd = n := by
  unfold fnd
  by_cases h : L.findIdx (fun c => decide (c.nd = n)) < L.length
  · rw [if_pos h]
    exact .inr ⟨_, _, rfl, List.getElem?_eq_getElem h, by simpa using List.findIdx_getElem (w := h)⟩
  · rw [if_neg h]
    exact .inl rfl
theorem PesAt.up {w w' : World} {a0 : Option Addr} {l : List Pr} (h : PesAt w a0 l) (hlt : ∀ a, a0 = some a → a.block < w.heap.size) (hb : Below w.heap.size w w') : PesAt w' a0 l := h.kept fun a ha => hb.block a.block (hlt a ha)

set_option maxRecDepth 100000 in
set_option maxHeartbeats 2000000 in
theorem dfind_any (B : Nat) (room tmo n : Int) (vL vB : Value) (L : List Pr) (Bs : List Int) (w : World) (h : Dt B w vL vB L Bs) :
    Calls Try.prog 17 #[tabV room tmo vL vB, .int .i64 n] w fun e w' => e = .returned (.int .i64 (fnd L n)) ∧ Below w.heap.size w w' := by
  obtain ⟨a0, c0, rfl, hp, hlt⟩ := own_des h.oL
  obtain ⟨a1, c1, rfl⟩ := ownI_shape h.oB
  have hn16 := h.nL
  have HP := hide hp
  have HLT := hide (fun a ha => (hlt a ha).2)
  generalize hm : L.length = m at *
  have HM := hide hm
  obtain ⟨r, hr⟩ : ∃ r, r = fnd L n := ⟨_, rfl⟩
  rw [← hr]
  have HRR := hide hr
  clear h hp hlt hm hr
  go_enter Try.func17, Try.ntmps17
  go_wp2_with fail
  obtain ⟨w1, hw1⟩ : ∃ w1, w1 = w.alloc (.cells #[.int .i64 room, .int .i64 tmo, .slice a0 m c0, .slice a1 Bs.length c1] 29) := ⟨_, rfl⟩
  have hh := heap_alloc_new w (.cells #[.int .i64 room, .int .i64 tmo, .slice a0 m c0, .slice a1 Bs.length c1] 29)
  have hb := (Below.refl w.heap.size w).alloc (Nat.le_refl _) (.cells #[.int .i64 room, .int .i64 tmo, .slice a0 m c0, .slice a1 Bs.length c1] 29)
  rw [← hw1] at hh hb ⊢
  obtain ⟨d0, d1, d2, d3⟩ := four_cells hh
  have HB := hide hb
  clear hh hb hw1
  go_loopw [5] (fun iv wr => ∃ i : Nat, i ≤ m ∧ iv = .int .i64 i ∧ wr = w1 ∧ ∀ (j : Nat) (d : Pr), j < i → L[j]? = some d → d.nd ≠ n) (fun iv _ => m - (intOf iv).toNat)
  case atStart => exact ⟨0, by simp⟩
  case round =>
    obtain ⟨i, hi, rfl, rfl, hno⟩ := hrel
    by_cases hlt : i < m
    · have q1 : (i : Int) < m := by omega
      obtain ⟨c, hc⟩ : ∃ c, L[i]? = some c := ⟨_, List.getElem?_eq_getElem (by rw [unhide HM]; exact hlt)⟩
      obtain ⟨g, rfl, hra⟩ := (unhide HP).up (unhide HLT) (unhide HB) i c hc
      have e0 := hra 0 (.int .i64 c.nd) rfl
      rw [Nat.add_zero] at e0
      have HC := hide hc
      have HNO := hide hno
      clear hc hno hra
      generalize hnd : c.nd = nd at *
      have HND := hide hnd
      clear hnd
      by_cases hq : nd = n
      · subst hq
        have hri : r = i := by rw [unhide HRR, fnd_at (unhide HC) (unhide HND) (unhide HNO)]
        subst hri
        clear HRR
        go_wp2
        go_ret
        exact ⟨rfl, unhide HB⟩
      · have d0 : (nd == n) = false := by simpa using hq
        go_wp2
        go_roundw
        case rel => exact ⟨i + 1, by omega, by go_num, trivial, fun j d hj hd => by
          by_cases ej : j = i
          · subst ej
            rw [unhide HC] at hd
            cases hd
            rw [unhide HND]
            exact hq
          · exact unhide HNO j d (by omega) hd⟩
        case measure => simp [intOf]; omega
    · have q1 : ¬ (i : Int) < m := by omega
      have HNO := hide hno
      have him : i = m := by omega
      clear hno
      have hri : r = -1 := by rw [unhide HRR, fnd_no (fun j d hd => unhide HNO j d (by have := (List.getElem?_eq_some_iff.1 hd).1; rw [unhide HM] at this; omega) hd)]
      subst hri
      clear HRR
      go_wp2
      go_ret
      exact ⟨rfl, unhide HB⟩
end Go.Proofs.Ytbfakbooenmhoaa
namespace Go.Proofs.Ytbfakbooenmhoaa
open Go.RowKit
set_option linter.unusedVariables false
attribute [local go_sem] Oper.semAt_some

/-- a row that grows in a loop -/
structure DL (w1 : World) (v : Value) (l : List Pr) (wr : World) : Prop where
  own : OwnDe wr w1.heap.size v l
  be : Below w1.heap.size w1 wr
theorem DL.start (w1 : World) : DL w1 (.slice none 0 0) [] w1 := ⟨World.ownsRow_nil _ _ _ _, Below.refl _ _⟩
/-- a table that is answered in block gR -/
structure Fin (B : Nat) (w : World) (gR : Nat) (room tmo : Int) (vL vB : Value) (L : List Pr) (Bs : List Int) (w' : World) : Prop where
  dt : Dt B w' vL vB L Bs
  be : Below w.heap.size w w'
  blk : w'.heap[gR]? = some (.cells #[.int .i64 room, .int .i64 tmo, vL, vB] 29 (0, 0))
theorem ownDe_keep {w w' : World} {B : Nat} {v : Value} {l : List Pr} (h : OwnDe w B v l) (hk : ∀ k, v.ownBlock = some k → w'.heap[k]? = w.heap[k]?) : OwnDe w' B v l := by
  refine ⟨h.1, ?_⟩
  rcases h.2 with ⟨h1, h2⟩ | ⟨g, cap, cur, h1, h2, h3, h4⟩
  · exact .inl ⟨h1, h2⟩
  · refine .inr ⟨g, cap, cur, h1, h2, (hk g ?_).trans h3, h4⟩
    rw [h1]
    rfl
theorem ownI_keep {w w' : World} {B : Nat} {v : Value} {l : List Int} (h : OwnI w B v l) (hk : ∀ k, v.ownBlock = some k → w'.heap[k]? = w.heap[k]?) : OwnI w' B v l := by
  refine ⟨h.1, ?_⟩
  rcases h.2 with ⟨h1, h2⟩ | ⟨g, cap, cur, h1, h2, h3, h4⟩
  · exact .inl ⟨h1, h2⟩
  · refine .inr ⟨g, cap, cur, h1, h2, (hk g ?_).trans h3, h4⟩
    rw [h1]
    rfl
theorem below_setRow {B : Nat} {w w' : World} (h : Below B w w') {g : Nat} (hg : B ≤ g) (cs : Array Value) : Below B w (w'.setRow g cs) :=
  ⟨h.os, h.tape, h.output, by simpa [World.setRow] using h.size, fun k hk => (setRow_other w' g k cs (by omega)).trans (h.block k hk)⟩
/-- what lies in a row of one's own is not in a block of another type -/
theorem ownDe_ne {w : World} {B b : Nat} {v : Value} {l : List Pr} {cs : Array Value} {T : TypeId} (h : OwnDe w B v l) (hb : w.heap[b]? = some (.cells cs T (0, 0))) (hT : T ≠ 43) : v.ownBlock ≠ some b := by
  rcases h.2 with ⟨h1, h2⟩ | ⟨g, cap, cur, h1, h2, h3, h4⟩
  · rw [h1]
    intro e
    cases e
  · rw [h1]
    intro e
    have e' : some g = some b := e
    cases e'
    rw [h3] at hb
    simp only [Option.some.injEq, Obj.cells.injEq] at hb
    exact hT hb.2.1.symm
theorem ownI_ne {w : World} {B b : Nat} {v : Value} {l : List Int} {cs : Array Value} {T : TypeId} (h : OwnI w B v l) (hb : w.heap[b]? = some (.cells cs T (0, 0))) (hT : T ≠ 3) : v.ownBlock ≠ some b := by
  rcases (show World.ownsRow _ _ _ _ _ _ _ from h).2 with ⟨h1, h2⟩ | ⟨g, cap, cur, h1, h2, h3, h4⟩
  · rw [h1]
    intro e
    cases e
  · rw [h1]
    intro e
    have e' : some g = some b := e
    cases e'
    rw [h3] at hb
    simp only [Option.some.injEq, Obj.cells.injEq] at hb
    exact hT hb.2.1.symm
theorem ownI_lt {w : World} {B : Nat} {v : Value} {l : List Int} (h : OwnI w B v l) (k : Nat) (hk : v.ownBlock = some k) : B ≤ k ∧ k < w.heap.size := World.ownsRow.lt (show World.ownsRow _ _ _ _ _ _ _ from h) k hk
theorem ownDe_lt {w : World} {B : Nat} {v : Value} {l : List Pr} (h : OwnDe w B v l) (k : Nat) (hk : v.ownBlock = some k) : B ≤ k ∧ k < w.heap.size := World.ownsRow.lt (show World.ownsRow _ _ _ _ _ _ _ from h) k hk
/-- the answer's block, empty -/
abbrev zT : Array Value := #[.int .i64 0, .int .i64 0, .slice none 0 0, .slice none 0 0]
/-- what lies behind a table that is answered -/
theorem fin_put {B : Nat} {w wx : World} {gR : Nat} {room tmo : Int} {vL vB : Value} {L : List Pr} {Bs : List Int} (h : Dt B wx vL vB L Bs) (hb : Below w.heap.size w wx) (hR : wx.heap[gR]? = some (.cells zT 29 (0, 0))) (hg : w.heap.size ≤ gR) :
    Fin B w gR room tmo vL vB L Bs (wx.setRow gR #[.int .i64 room, .int .i64 tmo, vL, vB]) := by
  refine ⟨⟨ownDe_keep h.oL (fun k hk => setRow_other _ gR k _ (fun e => ?_)), ownI_keep h.oB (fun k hk => setRow_other _ gR k _ (fun e => ?_)), h.nL, h.nB⟩, below_setRow hb hg _, setRow_heap _ gR _ _ _ _ hR⟩
  · subst e
    exact ownDe_ne h.oL hR (by decide) hk
  · subst e
    exact ownI_ne h.oB hR (by decide) hk
/-- the row goes into the table's box, the box into the answer -/
theorem dt_out {B : Nat} {w w1 wr : World} {gT gR : Nat} {room tmo : Int} {vL vB lv : Value} {L l : List Pr} {Bs : List Int} (hB : B ≤ w.heap.size) (b1 : Below w.heap.size w w1)
    (hT : w1.heap[gT]? = some (.cells #[.int .i64 room, .int .i64 tmo, vL, vB] 29 (0, 0))) (hR : w1.heap[gR]? = some (.cells zT 29 (0, 0))) (gw : w.heap.size ≤ gT ∧ w.heap.size ≤ gR ∧ gT ≠ gR)
    (d : DL w1 lv l wr) (h : Dt B w vL vB L Bs) (hl : l.length ≤ 16) :
    wr.cell? ⟨gT, 2, none⟩ = some vL ∧ wr.frozen? ⟨gT, 2, none⟩ = false ∧ (wr.setCell ⟨gT, 2, none⟩ lv).heap[gT]? = some (.cells #[.int .i64 room, .int .i64 tmo, lv, vB] 29 (0, 0)) ∧ (wr.setCell ⟨gT, 2, none⟩ lv).heap[gR]? = some (.cells zT 29 (0, 0)) ∧
      Fin B w gR room tmo lv vB l Bs ((wr.setCell ⟨gT, 2, none⟩ lv).setRow gR #[.int .i64 room, .int .i64 tmo, lv, vB]) := by
  have hT2 := (d.be.block gT (lt_of_block hT)).trans hT
  have hR2 := (d.be.block gR (lt_of_block hR)).trans hR
  have hR3 : (wr.setCell ⟨gT, 2, none⟩ lv).heap[gR]? = some (.cells zT 29 (0, 0)) := (Below.heap_setCell _ _ _ _ (fun e => gw.2.2 e.symm)).trans hR2
  have hT3 : (wr.setCell ⟨gT, 2, none⟩ lv).heap[gT]? = some (.cells #[.int .i64 room, .int .i64 tmo, lv, vB] 29 (0, 0)) := heap_setCell_same wr gT 2 _ 29 lv hT2
  have bw : Below w.heap.size w wr := b1.trans (d.be.mono b1.size)
  have hw := h.up bw
  refine ⟨(four_cells hT2).2.2.1, by simp [World.frozen?, hT2], hT3, hR3, fin_put ⟨?_, ?_, hl, h.nB⟩ (bw.setCell (p := ⟨gT, 2, none⟩) gw.1 _) hR3 gw.2.1⟩
  · refine ownDe_le (ownDe_keep d.own (fun k hk => Below.heap_setCell _ _ _ _ (fun e => ?_))) (Nat.le_trans hB b1.size)
    have e' : k = gT := e
    subst e'
    exact ownDe_ne d.own hT2 (by decide) hk
  · refine ownI_keep hw.oB (fun k hk => Below.heap_setCell _ _ _ _ (fun e => ?_))
    have e' : k = gT := e
    subst e'
    exact ownI_ne hw.oB hT2 (by decide) hk
theorem ret_cell {fn : Func} {p : Tmp} {ty : TypeId} {a : Act} {w : World} {R : Ending → World → Prop} (h : fn.results = #[.cell p ty]) (g : Nat) (t : TypeId) (cs : Array Value) (fr : Nat × Nat) (fs : Array Field)
    (hp : a.tmps.getD p undef = .pointer (some ⟨g, 0, none⟩)) (hg : w.heap[g]? = some (.cells cs t fr)) (hdf : a.defers = [])
    (hu : Try.prog.underlying ty = some (.struct fs)) (hi : (Try.prog.info? ty).map (·.size) = some cs.size) (hR : R (.returned (.agg cs)) w) :
    bodyPost Try.prog fn R .ret a w := bodyPost_ret (results_cell_row h _ w g t cs fr _ hp hg hu rfl hi) hdf hR
/-- the box and the answer's block, laid -/
theorem two_boxes (w : World) (A Z : Array Value) (t t' : TypeId) : ((w.alloc (.cells A t)).alloc (.cells Z t')).heap[w.heap.size]? = some (.cells A t (0, 0)) ∧ ((w.alloc (.cells A t)).alloc (.cells Z t')).heap[w.heap.size + 1]? = some (.cells Z t' (0, 0)) ∧ Below w.heap.size w ((w.alloc (.cells A t)).alloc (.cells Z t')) := by
  refine ⟨?_, ?_, ((Below.refl _ _).alloc (Nat.le_refl _) _).alloc (by simp) _⟩
  · rw [Below.heap_alloc _ _ _ (by simp)]
    exact heap_alloc_new _ _
  · have := heap_alloc_new (w.alloc (.cells A t)) (.cells Z t')
    rwa [show (w.alloc (.cells A t)).heap.size = w.heap.size + 1 by simp] at this

/-- without a number -/
def woL (L : List Pr) (n : Int) : List Pr := L.filter fun c => decide (c.nd ≠ n)
theorem woL_len (L : List Pr) (n : Int) : (woL L n).length ≤ L.length := List.length_filter_le _ _
theorem woL_snoc (L : List Pr) (e : Pr) (n : Int) : woL (L ++ [e]) n = if e.nd = n then woL L n else woL L n ++ [e] := by
  unfold woL
  rw [List.filter_append]
  by_cases h : e.nd = n
  · rw [if_pos h]
    simp [h]
  · rw [if_neg h]
    simp [h]
set_option maxRecDepth 100000 in
set_option maxHeartbeats 4000000 in
theorem dwithout_any (B : Nat) (room tmo n : Int) (vL vB : Value) (L : List Pr) (Bs : List Int) (w : World) (h : Dt B w vL vB L Bs) (hB : B ≤ w.heap.size) :
    Calls Try.prog 55 #[tabV room tmo vL vB, .int .i64 n] w fun e w' => ∃ v, e = .returned (tabV room tmo v vB) ∧ Dt B w' v vB (woL L n) Bs ∧ Below w.heap.size w w' := by
  have HBW := hide hB
  clear hB
  obtain ⟨a0, c0, rfl, hp, hlt⟩ := own_des h.oL
  obtain ⟨a1, c1, rfl⟩ := ownI_shape h.oB
  have hn16 := h.nL
  have HH := hide h
  have HP := hide hp
  have HLT := hide (fun a ha => (hlt a ha).2)
  obtain ⟨i0, hi0, hz0, hz1, hz2⟩ := info_parts Try.infoDe
  have HPL : Hid ((Try.prog.info? 43).map (·.size) = some 10) := by
    show _ = _
    kernel_rfl
  generalize hm : L.length = m at *
  have HM := hide hm
  clear h hp hlt hm
  go_enter Try.func55, Try.ntmps55
  go_wp2_with fail

  obtain ⟨w1, hw1⟩ : ∃ w1, w1 = (w.alloc (.cells #[.int .i64 room, .int .i64 tmo, .slice a0 m c0, .slice a1 Bs.length c1] 29)).alloc (.cells #[.int .i64 0, .int .i64 0, .slice none 0 0, .slice none 0 0] 29) := ⟨_, rfl⟩
  obtain ⟨t1, t2, t3⟩ := two_boxes w #[.int .i64 room, .int .i64 tmo, .slice a0 m c0, .slice a1 Bs.length c1] #[.int .i64 0, .int .i64 0, .slice none 0 0, .slice none 0 0] 29 29
  rw [← hw1] at t1 t2 t3
  have HW : Hid (w1 = _) := hw1
  obtain ⟨gR, hgR⟩ : ∃ gR, gR = w.heap.size + 1 := ⟨_, rfl⟩
  rw [← hgR] at t2
  have HT := hide t1
  have HR := hide t2
  have HB := hide t3
  have HG : Hid (w.heap.size ≤ w.heap.size ∧ w.heap.size ≤ gR ∧ w.heap.size ≠ gR) := by
    rw [hgR]
    exact ⟨by omega, by omega, by omega⟩
  have HGR := hide hgR
  clear t1 t2 t3 hw1 hgR
  rw [← unhide HW]
  have HD0 : Hid (DL w1 (.slice none 0 0) (woL (L.take 0) n) w1) := DL.start w1
  generalize hx : w.heap.size + 1 = gx at *
  have hgx : gR = gx := unhide HGR
  clear hx
  subst hgx
  clear HGR
  go_loopw [5, 6] (fun lv iv wr => ∃ (i k : Nat) (a : Option Addr) (c : Nat), i ≤ m ∧ k ≤ i ∧ iv = .int .i64 i ∧ lv = .slice a k c ∧ k = (woL (L.take i) n).length ∧ DL w1 lv (woL (L.take i) n) wr) (fun _ iv _ => m - (intOf iv).toNat)
  case atStart => exact ⟨0, 0, none, 0, by omega, by omega, rfl, rfl, rfl, unhide HD0⟩
  case round =>
    obtain ⟨i, k, a, c, hi, hki, rfl, rfl, hk, hd⟩ := hrel
    have HK := hide hk
    have HD := hide hd
    have HBR := hide ((unhide HB).trans (hd.be.mono (unhide HB).size))
    obtain ⟨b0, b1, b2, b3⟩ := four_cells ((hd.be.block _ (lt_of_block (unhide HT))).trans (unhide HT))
    clear hk hd HD0
    by_cases hlt : i < m
    · have q1 : (i : Int) < m := by omega
      obtain ⟨e, he⟩ : ∃ e, L[i]? = some e := ⟨_, List.getElem?_eq_getElem (by rw [unhide HM]; exact hlt)⟩
      obtain ⟨g, rfl, hra⟩ := (unhide HP).up (unhide HLT) (unhide HBR) i e he
      have e0 := hra 0 (.int .i64 e.nd) rfl
      rw [Nat.add_zero] at e0
      have heL := (List.getElem?_eq_some_iff.1 he)
      have HTK : Hid (L.take (i + 1) = L.take i ++ [e]) := by
        show _ = _
        rw [List.take_add_one, he]
        rfl
      obtain ⟨nd, px, py, hv, wa, op, os, se, nw, ra⟩ := e
      have HRA : Hid (wr.rangeAt g (i * 10) [.int .i64 nd, .int .i64 px, .int .i64 py, .string hv, .bool wa, .bool op, .bool os, .int .i64 se, .int .i64 nw, .int .i64 ra]) := hra
      have HE := hide he
      dsimp only at e0
      clear hra he heL
      by_cases hq : nd = n
      · subst hq
        have hs : woL (L.take (i + 1)) nd = woL (L.take i) nd := by rw [unhide HTK, woL_snoc, if_pos rfl]
        have HS := hide hs
        clear hs b0 b1 b3
        go_wp2
        go_roundw
        case rel => exact ⟨i + 1, k, a, c, by omega, by omega, by go_num, rfl, by rw [unhide HS]; exact unhide HK, by rw [unhide HS]; exact unhide HD⟩
        case measure => simp [intOf]; omega
      · have q2 : (nd != n) = true := by simpa using hq
        have hs : woL (L.take (i + 1)) n = woL (L.take i) n ++ [⟨nd, px, py, hv, wa, op, os, se, nw, ra⟩] := by rw [unhide HTK, woL_snoc, if_neg hq]
        have HS := hide hs
        clear hs b0 b1 b3
        have HO : Hid (wr.ownsRow w1.heap.size 43 10 (.slice a k c) k (peC (woL (L.take i) n))) := by
          have := (unhide HD).own
          unfold OwnDe at this
          rw [← unhide HK] at this
          exact this
        have hwx := (unhide HD).be.size
        go_wp2_with (first
          | (refine wpList_load_mid rfl 43 (.tmp 26) rfl g (i * 10) rfl [.int .i64 nd, .int .i64 px, .int .i64 py, .string hv, .bool wa, .bool op, .bool os, .int .i64 se, .int .i64 nw, .int .i64 ra] _ (unhide HRA) Try.underlying43 rfl (unhide HPL) ?_)
          | (refine wpList_append_lies _ rfl (.tmp 22) (.tmp 28) 26 rfl w1.heap.size 43 i0 (.agg #[.int .i64 0, .int .i64 0, .int .i64 0, .string ⟨#[]⟩, .bool false, .bool false, .bool false, .int .i64 0, .int .i64 0, .int .i64 0]) 10 72 Try.undDe hi0 hz0 hz1 hz2 rfl (by decide) (.slice a k c) k _ (by rfl) ((unhide HO).alloc _) ⟨wr.heap.size, 0, none⟩ 1 1 [.int .i64 nd, .int .i64 px, .int .i64 py, .string hv, .bool wa, .bool op, .bool os, .int .i64 se, .int .i64 nw, .int .i64 ra] (by rfl) (by rfl) (World.news_of_block (heap_alloc_new wr _)) (Pr.cl_one ⟨nd, px, py, hv, wa, op, os, se, nw, ra⟩) (by decide) (by unfold maxLen; omega) (by omega) (by simp; omega) _ rfl ?_))
        intro g2 cap2 w4 hown hgrow hat hlt2
        have HD4 : Hid (DL w1 (.slice (some ⟨g2, 0, none⟩) (k + 1) cap2) (woL (L.take i) n ++ [⟨nd, px, py, hv, wa, op, os, se, nw, ra⟩]) w4) := by
          refine ⟨?_, ((unhide HD).be.alloc (unhide HD).be.size (.cells #[.int .i64 nd, .int .i64 px, .int .i64 py, .string hv, .bool wa, .bool op, .bool os, .int .i64 se, .int .i64 nw, .int .i64 ra] 43)).grown hgrow (by simp; omega) (fun z hz => ((unhide HO).lt z hz).1)⟩
          unfold OwnDe
          rw [peC_append, List.length_append, ← unhide HK]
          exact hown
        have HK4 : Hid (k + 1 = (woL (L.take i) n ++ [(⟨nd, px, py, hv, wa, op, os, se, nw, ra⟩ : Pr)]).length) := by
          show _ = _
          rw [List.length_append, ← unhide HK]
          rfl
        clear hown hgrow hat hlt2 HO HD

        go_wp2
        go_roundw
        case rel => exact ⟨i + 1, k + 1, _, _, by omega, by omega, by go_num, rfl, by rw [unhide HS]; exact unhide HK4, by rw [unhide HS]; exact unhide HD4⟩
        case measure => simp [intOf]; omega
    · have q1 : ¬ (i : Int) < m := by omega
      have him : i = m := by omega
      have htk : L.take i = L := List.take_of_length_le (by rw [unhide HM]; omega)
      rw [htk] at HD HK
      clear htk b0 b1 b2 b3
      obtain ⟨d2, f2, t1, t2, t3⟩ := dt_out (unhide HBW) (unhide HB) (unhide HT) (unhide HR) (unhide HG) (unhide HD) (unhide HH) (by rw [← unhide HK]; omega)
      have HT2 := hide t1
      have HR2 := hide t2
      have HF := hide t3
      clear t1 t2 t3 HD
      go_wp2_with (first
        | (refine wpList_load_row rfl 29 (.tmp 2) rfl w.heap.size rfl 29 #[.int .i64 room, .int .i64 tmo, .slice a k c, .slice a1 Bs.length c1] (0, 0) _ (unhide HT2) Try.underlying29 rfl (by kernel_rfl) ?_)
        | (refine wpList_store_row_to rfl 29 (.tmp 4) (.tmp 32) rfl gR #[.int .i64 room, .int .i64 tmo, .slice a k c, .slice a1 Bs.length c1] rfl rfl 29 zT (unhide HR2) (by kernel_rfl) (by rfl) (by simp [Value.oneCell']) (fun w' => Fin B w gR room tmo (.slice a k c) (.slice a1 Bs.length c1) (woL L n) Bs w') (unhide HF) ?_))
      intro w5 h5
      have H5 := hide h5
      clear h5
      go_wp2
      exact ret_cell (p := 4) (ty := 29) (by kernel_rfl) gR 29 _ (0, 0) _ rfl (unhide H5).blk rfl Try.underlying29 (by kernel_rfl) ⟨_, rfl, (unhide H5).dt, (unhide H5).be⟩
end Go.Proofs.Ytbfakbooenmhoaa
namespace Go.Proofs.Ytbfakbooenmhoaa
open Go.RowKit
set_option linter.unusedVariables false
attribute [local go_sem] Oper.semAt_some

/-- three blocks, laid -/
theorem three_boxes (w : World) (A X Z : Array Value) (t t' t'' : TypeId) : (((w.alloc (.cells A t)).alloc (.cells X t')).alloc (.cells Z t'')).heap[w.heap.size]? = some (.cells A t (0, 0)) ∧ (((w.alloc (.cells A t)).alloc (.cells X t')).alloc (.cells Z t'')).heap[w.heap.size + 1]? = some (.cells X t' (0, 0)) ∧
    (((w.alloc (.cells A t)).alloc (.cells X t')).alloc (.cells Z t'')).heap[w.heap.size + 1 + 1]? = some (.cells Z t'' (0, 0)) ∧ Below w.heap.size w (((w.alloc (.cells A t)).alloc (.cells X t')).alloc (.cells Z t'')) := by
  obtain ⟨h1, h2, h3⟩ := two_boxes w A X t t'
  refine ⟨?_, ?_, ?_, h3.alloc h3.size _⟩
  · rw [Below.heap_alloc _ _ _ (by simp; omega)]
    exact h1
  · rw [Below.heap_alloc _ _ _ (by simp)]
    exact h2
  · have := heap_alloc_new ((w.alloc (.cells A t)).alloc (.cells X t')) (.cells Z t'')
    rwa [show ((w.alloc (.cells A t)).alloc (.cells X t')).heap.size = w.heap.size + 1 + 1 by simp] at this
/-- with another one of its number -/
def wiL (L : List Pr) (x : Pr) : List Pr := L.map fun c => if c.nd = x.nd then x else c
theorem wiL_len (L : List Pr) (x : Pr) : (wiL L x).length = L.length := List.length_map _
theorem wiL_snoc (L : List Pr) (e x : Pr) : wiL (L ++ [e]) x = wiL L x ++ [if e.nd = x.nd then x else e] := by
  unfold wiL
  rw [List.map_append]
  rfl
theorem DL.up {w1 : World} {v : Value} {l : List Pr} {x y : World} (h : DL w1 v l x) (hb : Below x.heap.size x y) : DL w1 v l y := ⟨ownDe_up h.own hb, h.be.trans (hb.mono h.be.size)⟩
set_option maxRecDepth 100000 in
set_option maxHeartbeats 4000000 in
theorem dwith_any (B : Nat) (room tmo : Int) (X : Pr) (vL vB : Value) (L : List Pr) (Bs : List Int) (w : World) (h : Dt B w vL vB L Bs) (hB : B ≤ w.heap.size) :
    Calls Try.prog 58 #[tabV room tmo vL vB, .agg X.cl.toArray] w fun e w' => ∃ v, e = .returned (tabV room tmo v vB) ∧ Dt B w' v vB (wiL L X) Bs ∧ Below w.heap.size w w' := by
  have HBW := hide hB
  obtain ⟨xn, xx, xy, xh, xw, xo, xs, xe, xc, xr, hX⟩ : ∃ xn xx xy xh xw xo xs xe xc xr, X = (⟨xn, xx, xy, xh, xw, xo, xs, xe, xc, xr⟩ : Pr) := ⟨_, _, _, _, _, _, _, _, _, _, rfl⟩
  have hcl : X.cl.toArray = #[.int .i64 xn, .int .i64 xx, .int .i64 xy, .string xh, .bool xw, .bool xo, .bool xs, .int .i64 xe, .int .i64 xc, .int .i64 xr] := by rw [hX]; rfl
  rw [hcl]
  have HXX := hide hX
  have hXn : X.nd = xn := by rw [hX]
  have HXN := hide hXn
  clear hB hcl hX hXn
  obtain ⟨a0, c0, rfl, hp, hlt⟩ := own_des h.oL
  obtain ⟨a1, c1, rfl⟩ := ownI_shape h.oB
  have hn16 := h.nL
  have HH := hide h
  have HP := hide hp
  have HLT := hide (fun a ha => (hlt a ha).2)
  obtain ⟨i0, hi0, hz0, hz1, hz2⟩ := info_parts Try.infoDe
  have HPL : Hid ((Try.prog.info? 43).map (·.size) = some 10) := by
    show _ = _
    kernel_rfl
  generalize hm : L.length = m at *
  have HM := hide hm
  clear h hp hlt hm
  go_enter Try.func58, Try.ntmps58
  go_wp2_with fail

  obtain ⟨w1, hw1⟩ : ∃ w1, w1 = ((w.alloc (.cells #[.int .i64 room, .int .i64 tmo, .slice a0 m c0, .slice a1 Bs.length c1] 29)).alloc (.cells #[.int .i64 xn, .int .i64 xx, .int .i64 xy, .string xh, .bool xw, .bool xo, .bool xs, .int .i64 xe, .int .i64 xc, .int .i64 xr] 43)).alloc (.cells #[.int .i64 0, .int .i64 0, .slice none 0 0, .slice none 0 0] 29) := ⟨_, rfl⟩
  obtain ⟨t1, tx, t2, t3⟩ := three_boxes w #[.int .i64 room, .int .i64 tmo, .slice a0 m c0, .slice a1 Bs.length c1] #[.int .i64 xn, .int .i64 xx, .int .i64 xy, .string xh, .bool xw, .bool xo, .bool xs, .int .i64 xe, .int .i64 xc, .int .i64 xr] #[.int .i64 0, .int .i64 0, .slice none 0 0, .slice none 0 0] 29 43 29
  rw [← hw1] at t1 tx t2 t3
  have HW : Hid (w1 = _) := hw1
  obtain ⟨gR, hgR⟩ : ∃ gR, gR = w.heap.size + 1 + 1 := ⟨_, rfl⟩
  obtain ⟨gX, hgX⟩ : ∃ gX, gX = w.heap.size + 1 := ⟨_, rfl⟩
  rw [← hgR] at t2
  rw [← hgX] at tx
  have HT := hide t1
  have HR := hide t2
  have HX := hide tx
  have HB := hide t3
  have HG : Hid (w.heap.size ≤ w.heap.size ∧ w.heap.size ≤ gR ∧ w.heap.size ≠ gR) := by
    rw [hgR]
    exact ⟨by omega, by omega, by omega⟩
  have HGR := hide hgR
  have HGX := hide hgX
  clear t1 t2 t3 tx hw1 hgR hgX
  rw [← unhide HW]
  have HD0 : Hid (DL w1 (.slice none 0 0) (wiL (L.take 0) X) w1) := DL.start w1
  generalize hy : w.heap.size + 1 + 1 = gy at *
  generalize hx : w.heap.size + 1 = gx at *
  have hgx : gX = gx := unhide HGX
  have hgy : gR = gy := unhide HGR
  clear hx hy
  subst hgx hgy
  go_loopw [5, 6] (fun lv iv wr => ∃ (i : Nat) (a : Option Addr) (c : Nat), i ≤ m ∧ iv = .int .i64 i ∧ lv = .slice a i c ∧ i = (wiL (L.take i) X).length ∧ DL w1 lv (wiL (L.take i) X) wr) (fun _ iv _ => m - (intOf iv).toNat)
  case atStart => exact ⟨0, none, 0, by omega, rfl, rfl, rfl, unhide HD0⟩
  case round =>
    obtain ⟨i, a, c, hi, rfl, rfl, hk, hd⟩ := hrel
    have HD := hide hd
    have HBR := hide ((unhide HB).trans (hd.be.mono (unhide HB).size))
    obtain ⟨b0, b1, b2, b3⟩ := four_cells ((hd.be.block _ (lt_of_block (unhide HT))).trans (unhide HT))
    have HX2 := hide ((hd.be.block _ (lt_of_block (unhide HX))).trans (unhide HX))
    have x0 : wr.cell? ⟨gX, 0, none⟩ = some (.int .i64 xn) := by simp [World.cell?, unhide HX2]
    obtain ⟨k, hki⟩ : ∃ k, k = i := ⟨_, rfl⟩
    have HK : Hid (k = (wiL (L.take i) X).length) := by rw [hki]; exact hk
    have HKI := hide hki
    clear hk hd HD0
    by_cases hlt : i < m
    · have q1 : (i : Int) < m := by omega
      obtain ⟨e, he⟩ : ∃ e, L[i]? = some e := ⟨_, List.getElem?_eq_getElem (by rw [unhide HM]; exact hlt)⟩
      obtain ⟨g, rfl, hra⟩ := (unhide HP).up (unhide HLT) (unhide HBR) i e he
      have e0 := hra 0 (.int .i64 e.nd) rfl
      rw [Nat.add_zero] at e0
      have heL := (List.getElem?_eq_some_iff.1 he)
      have HTK : Hid (L.take (i + 1) = L.take i ++ [e]) := by
        show _ = _
        rw [List.take_add_one, he]
        rfl
      obtain ⟨nd, px, py, hv, wa, op, os, se, nw, ra⟩ := e
      have HRA : Hid (wr.rangeAt g (i * 10) [.int .i64 nd, .int .i64 px, .int .i64 py, .string hv, .bool wa, .bool op, .bool os, .int .i64 se, .int .i64 nw, .int .i64 ra]) := hra
      have HE := hide he
      dsimp only at e0
      clear hra he heL
      by_cases hq : nd = xn
      · have q2 : (nd == xn) = true := by simpa using hq
        have hs : wiL (L.take (i + 1)) X = wiL (L.take i) X ++ [⟨xn, xx, xy, xh, xw, xo, xs, xe, xc, xr⟩] := by rw [unhide HTK, wiL_snoc, unhide HXN, if_pos hq, unhide HXX]
        have HS := hide hs
        clear hs b0 b1 b3 hq
        have hneZ : Nonempty (Gb wr) := gb_ne wr
        have y0 : ∀ y : Gb wr, y.w.cell? ⟨w.heap.size, 2, none⟩ = some (.slice (some ⟨g, 0, none⟩) m c0) := fun y => gb_cell b2 y
        have y1 : ∀ y : Gb wr, y.w.cell? ⟨gX, 0, none⟩ = some (.int .i64 xn) := fun y => gb_cell x0 y
        have y2 : ∀ y : Gb wr, y.w.cell? ⟨g, i * 10, none⟩ = some (.int .i64 nd) := fun y => gb_cell e0 y
        go_wp2_with fail
        refine wp_region_grB (by kernel_rfl) (by kernel_rfl) ?_
        repeat (go_big_quiet_step (fail))
        refine wpQuiet_nil ?_
        rintro wz ⟨xz, rfl⟩
        have HD3 := hide ((unhide HD).up xz.ok)
        have HX3 := hide ((xz.ok.block _ (lt_of_block (unhide HX2))).trans (unhide HX2))
        clear y0 y1 y2 b2 x0 e0 hneZ HD HX2 HRA
        generalize xz.w = wz at *
        have HD := HD3
        clear HD3
        have HO : Hid (wz.ownsRow w1.heap.size 43 10 (.slice a i c) i (peC (wiL (L.take i) X))) := by
          have := (unhide HD).own
          unfold OwnDe at this
          rw [← unhide HK, unhide HKI] at this
          exact this
        have hwx := (unhide HD).be.size
        go_wp2_with (first
          | (refine wpList_load_row rfl 43 (.tmp 3) rfl gX rfl 43 #[.int .i64 xn, .int .i64 xx, .int .i64 xy, .string xh, .bool xw, .bool xo, .bool xs, .int .i64 xe, .int .i64 xc, .int .i64 xr] (0, 0) _ (unhide HX3) Try.underlying43 rfl (by kernel_rfl) ?_)
          | (refine wpList_append_lies _ rfl (.tmp 23) (.tmp 25) 26 rfl w1.heap.size 43 i0 (.agg #[.int .i64 0, .int .i64 0, .int .i64 0, .string ⟨#[]⟩, .bool false, .bool false, .bool false, .int .i64 0, .int .i64 0, .int .i64 0]) 10 72 Try.undDe hi0 hz0 hz1 hz2 rfl (by decide) (.slice a i c) i _ (by rfl) ((unhide HO).alloc _) ⟨wz.heap.size, 0, none⟩ 1 1 [.int .i64 xn, .int .i64 xx, .int .i64 xy, .string xh, .bool xw, .bool xo, .bool xs, .int .i64 xe, .int .i64 xc, .int .i64 xr] (by rfl) (by rfl) (World.news_of_block (heap_alloc_new wz _)) (Pr.cl_one ⟨xn, xx, xy, xh, xw, xo, xs, xe, xc, xr⟩) (by decide) (by unfold maxLen; omega) (by omega) (by simp; omega) _ rfl ?_))
        intro g2 cap2 w4 hown hgrow hat hlt2
        have HD4 : Hid (DL w1 (.slice (some ⟨g2, 0, none⟩) (i + 1) cap2) (wiL (L.take i) X ++ [⟨xn, xx, xy, xh, xw, xo, xs, xe, xc, xr⟩]) w4) := by
          refine ⟨?_, ((unhide HD).be.alloc (unhide HD).be.size (.cells #[.int .i64 xn, .int .i64 xx, .int .i64 xy, .string xh, .bool xw, .bool xo, .bool xs, .int .i64 xe, .int .i64 xc, .int .i64 xr] 43)).grown hgrow (by simp; omega) (fun z hz => ((unhide HO).lt z hz).1)⟩
          unfold OwnDe
          rw [peC_append, List.length_append, ← unhide HK, unhide HKI]
          exact hown
        have HK4 : Hid (i + 1 = (wiL (L.take i) X ++ [(⟨xn, xx, xy, xh, xw, xo, xs, xe, xc, xr⟩ : Pr)]).length) := by
          show _ = _
          rw [List.length_append, ← unhide HK, unhide HKI]
          rfl
        clear hown hgrow hat hlt2 HO HD
        go_wp2
        go_roundw
        case rel => exact ⟨i + 1, _, _, by omega, by go_num, rfl, by rw [unhide HS]; exact unhide HK4, by rw [unhide HS]; exact unhide HD4⟩
        case measure => simp [intOf]; omega
      · have q2 : (nd == xn) = false := by simpa using hq
        have hs : wiL (L.take (i + 1)) X = wiL (L.take i) X ++ [⟨nd, px, py, hv, wa, op, os, se, nw, ra⟩] := by rw [unhide HTK, wiL_snoc, unhide HXN, if_neg hq]
        have HS := hide hs
        clear hs b0 b1 b3 hq
        have hneZ : Nonempty (Gb wr) := gb_ne wr
        have y0 : ∀ y : Gb wr, y.w.cell? ⟨w.heap.size, 2, none⟩ = some (.slice (some ⟨g, 0, none⟩) m c0) := fun y => gb_cell b2 y
        have y1 : ∀ y : Gb wr, y.w.cell? ⟨gX, 0, none⟩ = some (.int .i64 xn) := fun y => gb_cell x0 y
        have y2 : ∀ y : Gb wr, y.w.cell? ⟨g, i * 10, none⟩ = some (.int .i64 nd) := fun y => gb_cell e0 y
        go_wp2_with fail
        refine wp_region_grB (by kernel_rfl) (by kernel_rfl) ?_
        repeat (go_big_quiet_step (fail))
        refine wpQuiet_nil ?_
        rintro wz ⟨xz, rfl⟩
        have HD3 := hide ((unhide HD).up xz.ok)
        have b2' := gb_cell b2 xz
        have HRA3 : Hid (xz.w.rangeAt g (i * 10) [.int .i64 nd, .int .i64 px, .int .i64 py, .string hv, .bool wa, .bool op, .bool os, .int .i64 se, .int .i64 nw, .int .i64 ra]) := fun j v hv => gb_cell (unhide HRA j v hv) xz
        clear y0 y1 y2 b2 x0 e0 hneZ HD HX2 HRA
        generalize xz.w = wz at *
        have HD := HD3
        have HRA := HRA3
        clear HD3 HRA3
        have HO : Hid (wz.ownsRow w1.heap.size 43 10 (.slice a i c) i (peC (wiL (L.take i) X))) := by
          have := (unhide HD).own
          unfold OwnDe at this
          rw [← unhide HK, unhide HKI] at this
          exact this
        have hwx := (unhide HD).be.size
        go_wp2_with (first
          | (refine wpList_load_mid rfl 43 (.tmp 31) rfl g (i * 10) rfl [.int .i64 nd, .int .i64 px, .int .i64 py, .string hv, .bool wa, .bool op, .bool os, .int .i64 se, .int .i64 nw, .int .i64 ra] _ (unhide HRA) Try.underlying43 rfl (unhide HPL) ?_)
          | (refine wpList_append_lies _ rfl (.tmp 27) (.tmp 33) 26 rfl w1.heap.size 43 i0 (.agg #[.int .i64 0, .int .i64 0, .int .i64 0, .string ⟨#[]⟩, .bool false, .bool false, .bool false, .int .i64 0, .int .i64 0, .int .i64 0]) 10 72 Try.undDe hi0 hz0 hz1 hz2 rfl (by decide) (.slice a i c) i _ (by rfl) ((unhide HO).alloc _) ⟨wz.heap.size, 0, none⟩ 1 1 [.int .i64 nd, .int .i64 px, .int .i64 py, .string hv, .bool wa, .bool op, .bool os, .int .i64 se, .int .i64 nw, .int .i64 ra] (by rfl) (by rfl) (World.news_of_block (heap_alloc_new wz _)) (Pr.cl_one ⟨nd, px, py, hv, wa, op, os, se, nw, ra⟩) (by decide) (by unfold maxLen; omega) (by omega) (by simp; omega) _ rfl ?_))
        intro g2 cap2 w4 hown hgrow hat hlt2
        have HD4 : Hid (DL w1 (.slice (some ⟨g2, 0, none⟩) (i + 1) cap2) (wiL (L.take i) X ++ [⟨nd, px, py, hv, wa, op, os, se, nw, ra⟩]) w4) := by
          refine ⟨?_, ((unhide HD).be.alloc (unhide HD).be.size (.cells #[.int .i64 nd, .int .i64 px, .int .i64 py, .string hv, .bool wa, .bool op, .bool os, .int .i64 se, .int .i64 nw, .int .i64 ra] 43)).grown hgrow (by simp; omega) (fun z hz => ((unhide HO).lt z hz).1)⟩
          unfold OwnDe
          rw [peC_append, List.length_append, ← unhide HK, unhide HKI]
          exact hown
        have HK4 : Hid (i + 1 = (wiL (L.take i) X ++ [(⟨nd, px, py, hv, wa, op, os, se, nw, ra⟩ : Pr)]).length) := by
          show _ = _
          rw [List.length_append, ← unhide HK, unhide HKI]
          rfl
        clear hown hgrow hat hlt2 HO HD
        go_wp2
        go_roundw
        case rel => exact ⟨i + 1, _, _, by omega, by go_num, rfl, by rw [unhide HS]; exact unhide HK4, by rw [unhide HS]; exact unhide HD4⟩
        case measure => simp [intOf]; omega
    · have q1 : ¬ (i : Int) < m := by omega
      have him : i = m := by omega
      subst him
      have htk : L.take i = L := List.take_of_length_le (by rw [unhide HM]; omega)
      rw [htk] at HD HK
      clear htk b0 b1 b2 b3 x0
      obtain ⟨d2, f2, t1, t2, t3⟩ := dt_out (unhide HBW) (unhide HB) (unhide HT) (unhide HR) (unhide HG) (unhide HD) (unhide HH) (by rw [← unhide HK, unhide HKI]; omega)
      have HT2 := hide t1
      have HR2 := hide t2
      have HF := hide t3
      clear t1 t2 t3 HD
      go_wp2_with (first
        | (refine wpList_load_row rfl 29 (.tmp 2) rfl w.heap.size rfl 29 #[.int .i64 room, .int .i64 tmo, .slice a i c, .slice a1 Bs.length c1] (0, 0) _ (unhide HT2) Try.underlying29 rfl (by kernel_rfl) ?_)
        | (refine wpList_store_row_to rfl 29 (.tmp 4) (.tmp 37) rfl gR #[.int .i64 room, .int .i64 tmo, .slice a i c, .slice a1 Bs.length c1] rfl rfl 29 zT (unhide HR2) (by kernel_rfl) (by rfl) (by simp [Value.oneCell']) (fun w' => Fin B w gR room tmo (.slice a i c) (.slice a1 Bs.length c1) (wiL L X) Bs w') (unhide HF) ?_))
      intro w5 h5
      have H5 := hide h5
      clear h5
      go_wp2
      exact ret_cell (p := 4) (ty := 29) (by kernel_rfl) gR 29 _ (0, 0) _ rfl (unhide H5).blk rfl Try.underlying29 (by kernel_rfl) ⟨_, rfl, (unhide H5).dt, (unhide H5).be⟩
end Go.Proofs.Ytbfakbooenmhoaa
namespace Go.Proofs.Ytbfakbooenmhoaa
open Go.RowKit
set_option linter.unusedVariables false
attribute [local go_sem] Oper.semAt_some

theorem dIsPeer_any (n : Int) (w : World) : Calls Try.prog 52 #[.int .i64 n] w fun e w' => e = .returned (.bool (isPr n)) ∧ w = w' := by
  unfold isPr
  by_cases h1 : 1 ≤ n
  · by_cases h2 : n ≤ 15
    · rw [decide_eq_true (show 1 ≤ n ∧ n ≤ 15 from ⟨h1, h2⟩)]
      go_enter Try.func52, Try.ntmps52
      go_wp2
      go_ret
      exact ⟨rfl, rfl⟩
    · rw [decide_eq_false (show ¬ (1 ≤ n ∧ n ≤ 15) from fun h => h2 h.2)]
      go_enter Try.func52, Try.ntmps52
      go_wp2
      go_ret
      exact ⟨rfl, rfl⟩
  · rw [decide_eq_false (show ¬ (1 ≤ n ∧ n ≤ 15) from fun h => h1 h.1)]
    go_enter Try.func52, Try.ntmps52
    go_wp2
    go_ret
    exact ⟨rfl, rfl⟩
theorem dTick_any (n : Int) (w : World) : Calls Try.prog 54 #[.int .i64 n] w fun e w' => e = .returned (.bool (isTm n)) ∧ w = w' := by
  unfold isTm
  by_cases h1 : 0 ≤ n
  · by_cases h2 : n ≤ 1099511627776
    · rw [decide_eq_true (show 0 ≤ n ∧ n ≤ 1099511627776 from ⟨h1, h2⟩)]
      go_enter Try.func54, Try.ntmps54
      go_wp2
      go_ret
      exact ⟨rfl, rfl⟩
    · rw [decide_eq_false (show ¬ (0 ≤ n ∧ n ≤ 1099511627776) from fun h => h2 h.2)]
      go_enter Try.func54, Try.ntmps54
      go_wp2
      go_ret
      exact ⟨rfl, rfl⟩
  · rw [decide_eq_false (show ¬ (0 ≤ n ∧ n ≤ 1099511627776) from fun h => h1 h.1)]
    go_enter Try.func54, Try.ntmps54
    go_wp2
    go_ret
    exact ⟨rfl, rfl⟩
def isPl (x y : Int) : Bool := decide (-1048576 ≤ x ∧ x ≤ 1048576 ∧ -1048576 ≤ y ∧ y ≤ 1048576)
set_option maxRecDepth 100000 in
theorem dCheck_any (x y : Int) (w : World) : Calls Try.prog 53 #[.agg #[.int .i64 x, .int .i64 y]] w fun e w' => e = .returned (.bool (isPl x y)) ∧ Below w.heap.size w w' := by
  unfold isPl
  have B1 := hide ((Below.refl w.heap.size w).alloc (Nat.le_refl _) (.cells #[.int .i64 x, .int .i64 y] 41))
  have go : ∀ b, decide (-1048576 ≤ x ∧ x ≤ 1048576 ∧ -1048576 ≤ y ∧ y ≤ 1048576) = b → Calls Try.prog 53 #[.agg #[.int .i64 x, .int .i64 y]] w fun e w' => e = .returned (.bool b) ∧ Below w.heap.size w w' := by
    intro b hb
    by_cases h1 : -1048576 ≤ x
    · by_cases h2 : x ≤ 1048576
      · by_cases h3 : -1048576 ≤ y
        · by_cases h4 : y ≤ 1048576
          · obtain rfl : b = true := by rw [← hb]; exact decide_eq_true ⟨h1, h2, h3, h4⟩
            clear hb
            go_enter Try.func53, Try.ntmps53
            go_wp2
            go_ret
            exact ⟨rfl, unhide B1⟩
          · obtain rfl : b = false := by rw [← hb]; exact decide_eq_false fun h => h4 h.2.2.2
            clear hb
            go_enter Try.func53, Try.ntmps53
            go_wp2
            go_ret
            exact ⟨rfl, unhide B1⟩
        · obtain rfl : b = false := by rw [← hb]; exact decide_eq_false fun h => h3 h.2.2.1
          clear hb
          go_enter Try.func53, Try.ntmps53
          go_wp2
          go_ret
          exact ⟨rfl, unhide B1⟩
      · obtain rfl : b = false := by rw [← hb]; exact decide_eq_false fun h => h2 h.2.1
        clear hb
        go_enter Try.func53, Try.ntmps53
        go_wp2
        go_ret
        exact ⟨rfl, unhide B1⟩
    · obtain rfl : b = false := by rw [← hb]; exact decide_eq_false fun h => h1 h.1
      clear hb
      go_enter Try.func53, Try.ntmps53
      go_wp2
      go_ret
      exact ⟨rfl, unhide B1⟩
  exact go _ rfl
/-- is a number among these? -/
def hasI (l : List Int) (n : Int) : Bool := l.any fun x => decide (x = n)
set_option maxRecDepth 100000 in
set_option maxHeartbeats 1000000 in
theorem rhas_any (a0 : Option Addr) (l : List Int) (c : Nat) (n : Int) (w : World) (hA : Ints w a0 l) (hl : l.length ≤ maxLen) :
    Calls Try.prog 14 #[.slice a0 l.length c, .int .i64 n] w fun e w' => e = .returned (.bool (hasI l n)) ∧ w = w' := by
  obtain ⟨r, hr⟩ : ∃ r, r = hasI l n := ⟨_, rfl⟩
  rw [← hr]
  have HR := hide hr
  have HA := hide hA
  generalize hm : l.length = m at *
  have HM := hide hm
  have hml : (m : Int) ≤ 9223372036854775807 := by unfold maxLen at hl; omega
  clear hr hA hm hl
  go_enter Try.func14, Try.ntmps14
  go_wp2_with fail
  go_loopw [5] (fun iv wr => ∃ i : Nat, i ≤ m ∧ iv = .int .i64 i ∧ wr = w ∧ ∀ (j : Nat) (d : Int), j < i → l[j]? = some d → d ≠ n) (fun iv _ => m - (intOf iv).toNat)
  case atStart => exact ⟨0, by simp⟩
  case round =>
    obtain ⟨i, hi, rfl, rfl, hno⟩ := hrel
    have HNO := hide hno
    clear hno
    by_cases hlt : i < m
    · have q1 : (i : Int) < m := by omega
      have hil : i < l.length := by rw [unhide HM]; exact hlt
      obtain ⟨g, o, rfl, e0⟩ := unhide HA i hil
      obtain ⟨x, hx⟩ : ∃ x, l[i] = x := ⟨_, rfl⟩
      rw [hx] at e0
      have HX := hide hx
      clear hx
      by_cases hq : x = n
      · subst hq
        have hrt : r = true := by
          rw [unhide HR]
          unfold hasI
          rw [List.any_eq_true]
          exact ⟨x, by rw [← unhide HX]; exact List.getElem_mem hil, by simp⟩
        subst hrt
        clear HR
        go_wp2
        go_ret
        exact ⟨rfl, rfl⟩
      · have d0 : (x == n) = false := by simpa using hq
        go_wp2
        go_roundw
        case rel => exact ⟨i + 1, by omega, by go_num, trivial, fun j d hj hd => by
          by_cases ej : j = i
          · subst ej
            rw [List.getElem?_eq_getElem hil, unhide HX] at hd
            cases hd
            exact hq
          · exact unhide HNO j d (by omega) hd⟩
        case measure => simp [intOf]; omega
    · have q1 : ¬ (i : Int) < m := by omega
      have hrt : r = false := by
        rw [unhide HR]
        unfold hasI
        rw [List.any_eq_false]
        intro x hx
        obtain ⟨j, hj⟩ := List.getElem?_of_mem hx
        have := (List.getElem?_eq_some_iff.1 hj).1
        rw [unhide HM] at this
        simpa using unhide HNO j x (by omega) hj
      subst hrt
      clear HR
      go_wp2
      go_ret
      exact ⟨rfl, rfl⟩
end Go.Proofs.Ytbfakbooenmhoaa

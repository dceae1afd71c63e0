/- peers: Get, Leave, Banned. -/
import Derived.Test.YtbklkihcdkcagaaQaH
namespace Go.Proofs.Ytbklkihcdkcagaa
open Go.RowKit
set_option linter.unusedVariables false
attribute [local go_sem] Oper.semAt_some

/-- a whole struct is stored: the world goes on as one that G tells of -/
theorem wpList_store_row_to {P : Program} {ops : Array Oper} {rest : List Oper} {o : Oper} {a : Act} {w : World} {Q : Exit → Act → World → Prop} (hgd : o.guard = none) (ty : TypeId) (x y : Operand) (ho : o.op = .store ty x y)
    (g : Nat) (cells : Array Value) (hx : a.eval x = .pointer (some ⟨g, 0, none⟩)) (hy : a.eval y = .agg cells)
    (t : TypeId) (old : Array Value) (hg : w.heap[g]? = some (.cells old t (0, 0))) (hi : (P.info? ty).map (·.size) = some cells.size)
    (hold : old.size = cells.size) (h1 : cells.all (·.oneCell') = true) (G : World → Prop) (hG : G (w.setRow g cells))
    (h : ∀ w', G w' → wpList P ops Q rest (a.put o.dst undef) w') : wpList P ops Q (o :: rest) a w :=
  wpList_store_row hgd ty x y ho g cells hx hy t old hg hi hold h1 (h _ hG)
theorem pr_size (c : Pr) : c.cl.toArray.size = 10 := rfl
theorem pr_info (c : Pr) : (Try.prog.info? 46).map (·.size) = some c.cl.toArray.size := by rw [pr_size]; kernel_rfl
theorem pr_all (c : Pr) : c.cl.toArray.all (·.oneCell') = true := by simp [Pr.cl, Value.oneCell']
theorem cp_row {w : World} {x : Nat} {d : Pr} (h : w.heap[x]? = some (.cells d.cl.toArray 46 (0, 0))) (c : Pr) : CP x c w (w.setRow x c.cl.toArray) :=
  ⟨setRow_heap w x _ _ _ _ h, ⟨rfl, rfl, rfl, by simp, fun k _ hn => setRow_other w x k _ hn⟩⟩
set_option maxRecDepth 100000 in
set_option maxHeartbeats 1000000 in
theorem get_clo (g x : Nat) (c d : Pr) (w : World) (hg : w.heap[g]? = some (.cells c.cl.toArray 46 (0, 0))) (hx : w.heap[x]? = some (.cells d.cl.toArray 46 (0, 0))) :
    Calls Try.prog 41 #[.pointer (some ⟨g, 0, none⟩), .pointer (some ⟨x, 0, none⟩)] w fun e w' => e = .returned (.tuple #[]) ∧ CP x c w w' := by
  have HG := hide hg
  have HX := hide hx
  have HI := hide (pr_info c)
  have HA := hide (pr_all c)
  have HR := hide (cp_row hx c)
  have HS : Hid (d.cl.toArray.size = c.cl.toArray.size) := rfl
  clear hg hx
  generalize hcc : c.cl.toArray = cs at *
  generalize d.cl.toArray = ds at *
  clear hcc
  go_enter Try.func41, Try.ntmps41
  go_wp2_with (first
    | (refine wpList_load_row rfl 46 (.tmp 4) rfl g rfl 46 cs (0, 0) _ (unhide HG) Try.underlying46 rfl (unhide HI) ?_)
    | (refine wpList_store_row_to rfl 46 (.tmp 1) (.tmp 5) rfl x cs rfl rfl 46 ds (unhide HX) (unhide HI) (unhide HS) (unhide HA) (fun w' => CP x c w w') (unhide HR) ?_))
  intro w1 h1
  have H1 := hide h1
  clear h1
  go_wp2
  go_end0
  exact ⟨rfl, unhide H1⟩
def zP : Pr := ⟨0, 0, 0, ⟨#[]⟩, false, false, false, 0, 0, 0⟩
/-- two new blocks for peers -/
theorem two_new (w : World) : Below w.heap.size w ((w.alloc (.cells zP.cl.toArray 46)).alloc (.cells zP.cl.toArray 46)) := ((Below.refl _ _).alloc (Nat.le_refl _) _).alloc (by simp) _
theorem below_of_cp {w w1 w2 : World} {x : Nat} {c : Pr} (h : Below w.heap.size w w1) (k : CP x c w1 w2) (hx : w.heap.size ≤ x) : Below w.heap.size w w2 :=
  h.trans (k.kept.below _ h.size hx)
/-- what Get leaves: its result's block, and all that was -/
structure GetR (w : World) (c : Pr) (w' : World) : Prop where
  blk : w'.heap[w.heap.size]? = some (.cells c.cl.toArray 46 (0, 0))
  be : Below w.heap.size w w'
set_option maxRecDepth 100000 in
set_option maxHeartbeats 2000000 in
theorem get_yes (p g b : Nat) (room tmo : Int) (P : Nat → Option Nat) (C : Nat → Pr) (Bn : Nat → Bool) (w : World) (h : TbAt w b room tmo P C Bn) (hp : 1 ≤ p ∧ p ≤ 15) (hP : P p = some g) :
    Calls Try.prog 16 #[.pointer (some ⟨b, 0, none⟩), .int .i64 p] w fun e w' => e = .returned (.tuple #[.agg (C p).cl.toArray, .bool true]) ∧ Below w.heap.size w w' := by
  have hp16 : p < 16 := by omega
  have b1 := two_new w
  have t1 := h.up b1
  have hz1 : ((w.alloc (.cells zP.cl.toArray 46)).alloc (.cells zP.cl.toArray 46)).heap[w.heap.size]? = some (.cells zP.cl.toArray 46 (0, 0)) := by
    rw [Below.heap_alloc _ _ _ (by simp)]
    exact heap_alloc_new w _
  have hz2 : ((w.alloc (.cells zP.cl.toArray 46)).alloc (.cells zP.cl.toArray 46)).heap[w.heap.size + 1]? = some (.cells zP.cl.toArray 46 (0, 0)) := by
    have := heap_alloc_new (w.alloc (.cells zP.cl.toArray 46)) (.cells zP.cl.toArray 46)
    simpa using this
  have hc := get_clo g (w.heap.size + 1) (C p) zP _ (t1.pe p g hp16 hP) hz2
  have hw := hide (with_yes p g 41 (cf_of Try.func41 (by kernel_rfl) (by kernel_rfl)) (.pointer (some ⟨w.heap.size + 1, 0, none⟩)) _ b room tmo P C Bn _ t1 hp hP hc)
  have hfin : Hid (∀ w2, CP (w.heap.size + 1) (C p) ((w.alloc (.cells zP.cl.toArray 46)).alloc (.cells zP.cl.toArray 46)) w2 → w2.heap[w.heap.size]? = some (.cells zP.cl.toArray 46 (0, 0)) ∧ w2.heap[w.heap.size + 1]? = some (.cells (C p).cl.toArray 46 (0, 0)) ∧ GetR w (C p) (w2.setRow w.heap.size (C p).cl.toArray)) := by
    intro w2 k
    have z1 := (k.kept.block w.heap.size (by simp; omega) (by omega)).trans hz1
    have bb := below_of_cp b1 k (by omega)
    refine ⟨z1, k.blk, setRow_heap w2 _ _ _ _ _ z1, ⟨bb.os, bb.tape, bb.output, by simpa using bb.size, fun i hi => (setRow_other w2 _ i _ (by omega)).trans (bb.block i hi)⟩⟩
  have HI := hide (pr_info (C p))
  have HA := hide (pr_all (C p))
  have HS : Hid (zP.cl.toArray.size = (C p).cl.toArray.size) := rfl
  clear h hP b1 t1 hc hz1 hz2
  generalize hcc : C p = c at *
  clear hcc
  go_enter Try.func16, Try.ntmps16
  go_wp2_with fail
  refine (unhide hw).mono ?_
  rintro e w2 ⟨rfl, hR⟩
  obtain ⟨f1, f2, f3⟩ := unhide hfin w2 hR
  have F1 := hide f1
  have F2 := hide f2
  have F3 := hide f3
  clear f1 f2 f3 hR hfin hw
  go_wp2_with (first
    | (refine wpList_load_row rfl 46 (.tmp 6) rfl (w.heap.size + 1) rfl 46 c.cl.toArray (0, 0) _ (unhide F2) Try.underlying46 rfl (unhide HI) ?_)
    | (refine wpList_store_row_to rfl 46 (.tmp 4) (.tmp 12) rfl w.heap.size c.cl.toArray rfl rfl 46 zP.cl.toArray (unhide F1) (unhide HI) (unhide HS) (unhide HA) (GetR w c) (unhide F3) ?_))
  intro w3 h3
  have H3 := hide h3
  clear h3
  go_wp2
  exact ret_row2 (p := 4) (q := 5) (ty := 46) (by kernel_rfl) w.heap.size 46 c.cl.toArray (0, 0) (.bool true) _ rfl rfl (unhide H3).blk rfl Try.underlying46 (unhide HI) ⟨rfl, (unhide H3).be⟩
set_option maxRecDepth 100000 in
set_option maxHeartbeats 2000000 in
theorem get_no (n : Int) (b : Nat) (room tmo : Int) (P : Nat → Option Nat) (C : Nat → Pr) (Bn : Nat → Bool) (w : World) (h : TbAt w b room tmo P C Bn) (hn : NoP P n) :
    Calls Try.prog 16 #[.pointer (some ⟨b, 0, none⟩), .int .i64 n] w fun e w' => e = .returned (.tuple #[.agg zP.cl.toArray, .bool false]) ∧ Below w.heap.size w w' := by
  have hw := hide (fun f => with_no n f b room tmo P C Bn _ (h.up (two_new w)) hn)
  unfold zP Pr.cl at hw
  dsimp only at hw
  clear h hn
  go_enter Try.func16, Try.ntmps16
  go_wp2_with fail
  refine (unhide hw _).mono ?_
  rintro e w1 ⟨rfl, rfl⟩
  have HZ : Hid (((w.alloc (.cells zP.cl.toArray 46)).alloc (.cells zP.cl.toArray 46)).heap[w.heap.size]? = some (.cells zP.cl.toArray 46 (0, 0))) := by
    show _ = _
    rw [Below.heap_alloc _ _ _ (by simp)]
    exact heap_alloc_new w _
  go_wp2
  exact ret_row2 (p := 4) (q := 5) (ty := 46) (by kernel_rfl) w.heap.size 46 zP.cl.toArray (0, 0) (.bool false) _ rfl rfl (unhide HZ) rfl Try.underlying46 (by kernel_rfl) ⟨rfl, two_new w⟩
set_option maxRecDepth 100000 in
theorem banned_any (n : Int) (b : Nat) (room tmo : Int) (P : Nat → Option Nat) (C : Nat → Pr) (Bn : Nat → Bool) (w : World) (h : TbAt w b room tmo P C Bn) :
    Calls Try.prog 13 #[.pointer (some ⟨b, 0, none⟩), .int .i64 n] w fun e w' => e = .returned (.bool (isPr n && Bn n.toNat)) ∧ w = w' := by
  have g1 := hide (isPeer_any n w)
  cases hb : isPr n with
  | false =>
    rw [hb] at g1
    rw [Bool.false_and]
    clear h hb
    go_enter Try.func13, Try.ntmps13
    go_wp2_with fail
    refine (unhide g1).mono ?_
    rintro e w1 ⟨rfl, rfl⟩
    go_wp2
    go_ret
    exact ⟨rfl, rfl⟩
  | true =>
    rw [hb] at g1
    rw [Bool.true_and]
    have hr : 1 ≤ n ∧ n ≤ 15 := by unfold isPr at hb; simpa using hb
    obtain ⟨p, rfl⟩ : ∃ p : Nat, n = p := ⟨n.toNat, by omega⟩
    rw [Int.toNat_natCast]
    have cb := h.bs p (by omega)
    have q1 : (p : Int) < 16 := by omega
    generalize Bn p = bb at *
    clear h hb hr
    go_enter Try.func13, Try.ntmps13
    go_wp2_with fail
    refine (unhide g1).mono ?_
    rintro e w1 ⟨rfl, rfl⟩
    go_wp2
    go_ret
    exact ⟨rfl, rfl⟩
end Go.Proofs.Ytbklkihcdkcagaa

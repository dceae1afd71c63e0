/- net: the document's put. -/
import Derived.Test.YtmnjngkdiinnfaaNtP
namespace Go.Proofs.Ytmnjngkdiinnfaa
open Go.RowKit
set_option linter.unusedVariables false
attribute [local go_sem] Oper.semAt_some

theorem results_row3 {P : Program} {fn : Func} {p q r : Tmp} {ty : TypeId} (h : fn.results = #[.cell p ty, .tmp q, .tmp r]) (tmps : Array Value) (w : World) (g : Nat) (t : TypeId) (cs : Array Value) (fr : Nat × Nat) (fs : Array Field)
    (hp : tmps.getD p undef = .pointer (some ⟨g, 0, none⟩)) (hg : w.heap[g]? = some (.cells cs t fr)) (hu : P.underlying ty = some (.struct fs)) (hi : (P.info? ty).map (·.size) = some cs.size) :
    (results fn tmps).run P w = .ok (.tuple #[.agg cs, tmps.getD q undef, tmps.getD r undef]) w := by
  have hp' : tmps[p]?.getD undef = .pointer (some ⟨g, 0, none⟩) := by simpa using hp
  simp [results, h, hp', asAddr, run_loadVar_row w g t ty cs fr _ hg hu rfl hi]
theorem ret_row3 {fn : Func} {p q r : Tmp} {ty : TypeId} {a : Act} {w : World} {R : Ending → World → Prop} (h : fn.results = #[.cell p ty, .tmp q, .tmp r]) (g : Nat) (t : TypeId) (cs : Array Value) (fr : Nat × Nat) (y z : Value) (fs : Array Field)
    (hp : a.tmps.getD p undef = .pointer (some ⟨g, 0, none⟩)) (hy : a.tmps.getD q undef = y) (hz : a.tmps.getD r undef = z) (hg : w.heap[g]? = some (.cells cs t fr)) (hdf : a.defers = []) (hu : Try.prog.underlying ty = some (.struct fs)) (hi : (Try.prog.info? ty).map (·.size) = some cs.size)
    (hR : R (.returned (.tuple #[.agg cs, y, z])) w) : bodyPost Try.prog fn R .ret a w := by
  refine bodyPost_ret (results_row3 h _ w g t cs fr fs hp hg hu hi) hdf ?_
  rw [hy, hz]
  exact hR
abbrev dnC (room last : Int) (v : Value) : Array Value := #[.int .i64 room, .int .i64 last, v]
abbrev zDn : Array Value := #[.int .i64 0, .int .i64 0, .slice none 0 0]
theorem dn_info (room last : Int) (v : Value) : (Try.prog.info? 28).map (·.size) = some (dnC room last v).size := by
  show _ = some 3
  kernel_rfl
theorem dn_all {room last : Int} {a0 : Option Addr} {n c : Nat} : (dnC room last (.slice a0 n c)).all (·.oneCell') = true := by simp [dnC, Value.oneCell']
/-- three blocks: a net, a mail, the answer -/
structure PtS (w : World) (a m z : Array Value) (x : World) : Prop where
  nb : x.heap[w.heap.size]? = some (.cells a 28 (0, 0))
  mb : x.heap[w.heap.size + 1]? = some (.cells m 37 (0, 0))
  zb : x.heap[w.heap.size + 2]? = some (.cells z 28 (0, 0))
  be : Below w.heap.size w x
theorem PtS.up {w : World} {a m z : Array Value} {x y : World} (h : PtS w a m z x) (hb : Below x.heap.size x y) : PtS w a m z y :=
  ⟨(hb.block _ (lt_of_block h.nb)).trans h.nb, (hb.block _ (lt_of_block h.mb)).trans h.mb, (hb.block _ (lt_of_block h.zb)).trans h.zb, h.be.trans (hb.mono h.be.size)⟩
theorem PtS.up3 {w : World} {a m z : Array Value} {x y : World} (h : PtS w a m z x) (hb : Below (w.heap.size + 3) x y) : PtS w a m z y :=
  ⟨(hb.block _ (by omega)).trans h.nb, (hb.block _ (by omega)).trans h.mb, (hb.block _ (by omega)).trans h.zb, h.be.trans (hb.mono (by omega))⟩
theorem ptS (w : World) (a m z : Array Value) : PtS w a m z (((w.alloc (.cells a 28)).alloc (.cells m 37)).alloc (.cells z 28)) := by
  refine ⟨?_, ?_, ?_, (((Below.refl _ _).alloc (Nat.le_refl _) _).alloc (by simp) _).alloc (by simp; omega) _⟩
  · rw [Below.heap_alloc _ _ _ (by simp; omega), Below.heap_alloc _ _ _ (by simp)]
    exact heap_alloc_new w _
  · rw [Below.heap_alloc _ _ _ (by simp)]
    exact heap2_b w _ _
  · have := heap_alloc_new ((w.alloc (.cells a 28)).alloc (.cells m 37)) (.cells z 28)
    simpa using this
theorem PtS.setz {w : World} {a m z : Array Value} {x : World} (h : PtS w a m z x) (c : Array Value) : PtS w a m c (x.setRow (w.heap.size + 2) c) :=
  ⟨(setRow_other _ _ _ _ (by omega)).trans h.nb, (setRow_other _ _ _ _ (by omega)).trans h.mb, setRow_heap _ _ _ _ _ _ h.zb, ⟨h.be.os, h.be.tape, h.be.output, by simpa [World.setRow] using h.be.size, fun i hi => (setRow_other _ _ i _ (by omega)).trans (h.be.block i hi)⟩⟩
theorem PtS.setn {w : World} {a m z : Array Value} {x : World} (h : PtS w a m z x) (j : Nat) (v : Value) : PtS w (a.setIfInBounds j v) m z (x.setCell ⟨w.heap.size, j, none⟩ v) :=
  ⟨heap_setCell_same x _ j _ _ _ h.nb, (Below.heap_setCell _ _ _ _ (by show _ ≠ w.heap.size; omega)).trans h.mb, (Below.heap_setCell _ _ _ _ (by show _ ≠ w.heap.size; omega)).trans h.zb, h.be.setCell (p := ⟨w.heap.size, j, none⟩) (Nat.le_refl _) v⟩
theorem PtS.setm {w : World} {a m z : Array Value} {x : World} (h : PtS w a m z x) (j : Nat) (v : Value) : PtS w a (m.setIfInBounds j v) z (x.setCell ⟨w.heap.size + 1, j, none⟩ v) :=
  ⟨(Below.heap_setCell _ _ _ _ (by show _ ≠ w.heap.size + 1; omega)).trans h.nb, heap_setCell_same x _ j _ _ _ h.mb, (Below.heap_setCell _ _ _ _ (by show _ ≠ w.heap.size + 1; omega)).trans h.zb, h.be.setCell (p := ⟨w.heap.size + 1, j, none⟩) (by show _ ≤ w.heap.size + 1; omega) v⟩
set_option maxRecDepth 100000 in
set_option maxHeartbeats 2000000 in
theorem dput_full (B : Nat) (room last : Int) (v : Value) (rs : List Mg) (r : Mg) (w : World) (hO : OwnR w B v rs) (hf : room ≤ (rs.length : Int)) :
    Calls Try.prog 29 #[dnV room last v, mlV r] w fun e w' => e = .returned (.tuple #[dnV room last v, .int .i64 0, .int .i64 6]) ∧ Below w.heap.size w w' := by
  obtain ⟨aM, cM, rfl, hml⟩ := hO.mls
  obtain ⟨xi, xf, xt, xx⟩ := r
  have P0 := hide (ptS w (dnC room last (.slice aM rs.length cM)) (mlL ⟨xi, xf, xt, xx⟩).toArray zDn)
  have HI := hide (dn_info room last (.slice aM rs.length cM))
  have HA := hide (dn_all (room := room) (last := last) (a0 := aM) (n := rs.length) (c := cM))
  generalize rs.length = n at *
  have d1 : decide (room ≤ (n : Int)) = true := decide_eq_true hf
  have HZ := hide ((unhide P0).setz (dnC room last (.slice aM n cM)))
  obtain ⟨c0, c1, c2, cf⟩ := cells3 (unhide P0).nb
  have Z0 := hide (unhide P0).zb
  clear hO hml hf
  go_enter Try.func29, Try.ntmps29
  go_wp2_with (refine wpList_store_row_to rfl 28 (.tmp 4) (.tmp 15) rfl (w.heap.size + 2) (dnC room last (.slice aM n cM)) rfl rfl 28 zDn (unhide Z0) (unhide HI) rfl (unhide HA) (PtS w (dnC room last (.slice aM n cM)) (mlL ⟨xi, xf, xt, xx⟩).toArray (dnC room last (.slice aM n cM))) (unhide HZ) ?_)
  intro w1 h1
  have H1 := hide h1
  clear h1
  go_wp2
  exact ret_row3 (p := 4) (q := 5) (r := 6) (ty := 28) (by kernel_rfl) (w.heap.size + 2) 28 (dnC room last (.slice aM n cM)) (0, 0) _ _ _ rfl rfl rfl (unhide H1).zb rfl Try.underlying28 (unhide HI) ⟨rfl, (unhide H1).be⟩
end Go.Proofs.Ytmnjngkdiinnfaa

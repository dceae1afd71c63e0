/- choke: slices.Values of a group, slices.Collect over them. -/
import Derived.RangeFuncBox
import Derived.RangeFuncLeaves
import Derived.RangeFuncNested
import Derived.Shelf.Abstract
import Derived.WalkKit
import Derived.OwnWalkIn
import Derived.TacticsInMore
import Derived.LoopNIn
import Derived.LoopIn
import Derived.Maps.AppendAt
import Derived.Test.YtjndgglbapghhaaRowIn
import Derived.Test.YtjndgglbapghhaaCkH
namespace Go.Proofs.Ytjndgglbapghhaa
open Go.RowKit Go.Shelf
set_option linter.unusedVariables false
attribute [local go_sem] Oper.semAt_some

theorem grown_of_below' {w w' : World} (h : Below w.heap.size w w') : w.grownBy w' none := ⟨h.os, h.tape, h.output, h.size, fun k hk _ => h.block k hk⟩
/-- a peer in a block of its own -/
def PeerAt (W : World) (B : Nat) (x : Pr) : Prop := W.heap[B]? = some (.cells x.cl.toArray 48 (0, 0))
theorem peer_own {β : Type} (B : Nat) (f : β → Pr) : Own (fun s W => PeerAt W B (f s)) := fun s X Y row hs hg hrow => by
  refine (hg.block B (lt_of_block hs) (fun e => ?_)).trans hs
  obtain ⟨o, ho, hc⟩ := hrow B e.symm
  rw [show X.heap[B]? = _ from hs] at ho
  cases ho
  cases hc
theorem peerAt_cells {W : World} {B : Nat} {x : Pr} (h : PeerAt W B x) (j : Nat) (v : Value) (hv : x.cl.toArray[j]? = some v) : W.cell? ((⟨B, 0, none⟩ : Addr).add j) = some v := by
  have : (⟨B, 0, none⟩ : Addr).add j = ⟨B, j, none⟩ := by unfold Addr.add; split <;> simp_all
  rw [this, cell_of_row _ _ j _ _ (0, 0) h]
  exact hv
theorem range_cells {W : World} {g o : Nat} {l : List Value} (h : W.rangeAt g o l) (j : Nat) (v : Value) (hv : l.toArray[j]? = some v) : W.cell? ((⟨g, o, none⟩ : Addr).add j) = some v := by
  have e : (⟨g, o, none⟩ : Addr).add j = ⟨g, o + j, none⟩ := by unfold Addr.add; split <;> simp_all
  rw [e]
  exact h j v (by simpa using hv)
set_option maxRecDepth 100000 in
set_option maxHeartbeats 4000000 in
/-- the iterator over a group: for every loop's body that keeps what lay -/
theorem valsP_in (F : Fence) (n : Nat) (hf : F.fn 63) (hro : F.round = none) (hn : 1 ≤ n) (l Bs cap : Nat) (w : World) (a0 : Option Addr) (xs : List Pr) (hlen : xs.length ≤ 100000) (hI : PrsAt w a0 xs) (J Jx : List Pr → World → Prop)
    (hA : ∀ pre W W', J pre W → Below W.heap.size W W' → J pre W')
    (hY : ∀ pre x W, J pre W → pre.length < xs.length → YieldAt F (n - 1) Try.prog l #[.agg x.cl.toArray] W fun e W' =>
      (e = .returned (.bool true) ∧ J (pre ++ [x]) W' ∧ Below w.heap.size W W') ∨ (e = .returned (.bool false) ∧ Jx (pre ++ [x]) W'))
    (W : World) (hW : Below w.heap.size w W) (hBs : W.cell? ⟨Bs, 0, none⟩ = some (.slice a0 xs.length cap)) (h0 : J [] W) :
    CallsIn F n Try.prog 63 #[.func (.yield l) #[] #[], .pointer (some ⟨Bs, 0, none⟩)] W fun e W' => (∃ v, e = .returned v) ∧
      ((∃ ys, ys = xs ∧ J ys W') ∨ (∃ pre, pre <+: xs ∧ Jx pre W')) := by
  have HL := hide hI
  have HA := hide hA
  have HY := hide hY
  obtain ⟨m, hm⟩ : ∃ m, m = xs.length := ⟨_, rfl⟩
  rw [← hm] at hBs hlen
  have HM := hide hm
  clear hI hA hY hm
  refine callsIn_of_wp Try.func63 rfl hf ?_ hro
  simp only [Try.ntmps63, List.size_toArray, List.length_cons, List.length_nil, Nat.reduceAdd, Nat.reduceSub, Array.replicate_succ, Array.replicate_zero, List.push_toArray, List.append_toArray, List.nil_append, List.cons_append]
  gi_wp2
  gi_loopw [7] (fun i wr => ∃ k : Nat, k ≤ m ∧ i = .int .i64 k ∧ J (xs.take k) wr ∧ Below w.heap.size w wr) (fun i _ => m - (intOf i).toNat)
  case atStart => exact ⟨0, Nat.zero_le _, rfl, by rw [List.take_zero]; exact h0, hW⟩
  case round =>
    obtain ⟨k, hk, rfl, hJs, hnx⟩ := hrel
    have HJ := hide hJs
    have HX := hide hnx
    clear hJs hnx h0 hW
    by_cases hlt : k < m
    · have hlt' : k < xs.length := by rw [← unhide HM]; exact hlt
      obtain ⟨e, he⟩ : ∃ e, e = xs[k] := ⟨_, rfl⟩
      obtain ⟨g, o, rfl, hgl, hra⟩ := prs_range (unhide HL) (unhide HX) (i := k) (p := e) (by rw [he]; exact List.getElem?_eq_getElem hlt')
      have HT : Hid (xs.take (k + 1) = xs.take k ++ [e]) := by
        show _ = _
        rw [List.take_succ_eq_append_getElem hlt', he]
      have HPX : Hid (xs.take (k + 1) <+: xs) := List.take_prefix _ _
      have HTL : Hid ((xs.take k).length < xs.length) := by
        show _ < _
        rw [List.length_take]
        omega
      have q1 : (k : Int) < m := by omega
      have HRC := hide (range_cells hra)
      have HZ := hide (heap_alloc_new wr (.cells zP.cl.toArray 48))
      have HG := hide (newPr wr zP e)
      have HI := hide (pr_info e)
      have HAL := hide (pr_all e)
      have HSZ : Hid (zP.cl.toArray.size = e.cl.toArray.size) := rfl
      have hz0 : zP.cl.toArray = #[.int .i64 0, .int .i64 0, .int .i64 0, .string ⟨#[]⟩, .bool false, .bool false, .bool false, .int .i64 0, .int .i64 0, .int .i64 0] := rfl
      rw [hz0] at HZ HG HSZ
      clear hra he hlt' hz0
      gi_wp2_with (refine wpListIn_load_at rfl 48 (.tmp 9) rfl ⟨g, o + k * 10, none⟩ rfl e.cl.toArray _ (unhide HRC) Try.underlying48 rfl (unhide HI) ?_)
      intro v hv; obtain rfl := unhide hv; clear hv
      gi_wp2_with (refine wpListIn_store_row_to rfl 48 (.tmp 4) (.tmp 10) rfl wr.heap.size e.cl.toArray rfl rfl 48 _ (unhide HZ) (unhide HI) (unhide HSZ) (unhide HAL) (NewPr wr e) (unhide HG) ?_)
      intro w2 h2
      have hJ2 := unhide HA _ _ _ (unhide HJ) h2.be
      obtain ⟨fn, tmps, assign, body, hy, hR⟩ := unhide HY _ e w2 hJ2 (unhide HTL)
      have HB2 := hide ((unhide HX).trans (h2.be.mono (unhide HX).size))
      have HPC := hide (peerAt_cells (B := wr.heap.size) (x := e) h2.blk)
      clear h2 hJ2 HZ HG HRC HAL HSZ
      gi_wp2_with (refine wpListIn_load_at rfl 48 (.tmp 4) rfl ⟨wr.heap.size, 0, none⟩ rfl e.cl.toArray _ (unhide HPC) Try.underlying48 rfl (unhide HI) ?_)
      intro v hv; obtain rfl := unhide hv; clear hv
      gi_wp2_with fail
      refine hR.mono ?_
      rintro e3 W3 (⟨rfl, hJ3, hk3⟩ | ⟨rfl, hJx3⟩)
      · have HJ3 := hide hJ3
        have HB3 := hide ((unhide HB2).trans hk3)
        clear hJ3 hk3 hy hR HPC HB2
        gi_wp2
        go_roundw
        case rel => exact ⟨k + 1, by omega, by go_num, by rw [unhide HT]; exact unhide HJ3, unhide HB3⟩
        case measure => simp [intOf]; omega
      · have HJ3 := hide hJx3
        clear hJx3 hy hR HPC HB2
        gi_wp2
        refine bodyPost_ret (results_none rfl _ _ _) rfl ?_
        exact ⟨⟨_, rfl⟩, .inr ⟨_, unhide HPX, by rw [unhide HT]; exact unhide HJ3⟩⟩
    · have hkm : k = m := by omega
      have q1 : ¬ (k : Int) < m := by omega
      have HF : Hid (J xs wr) := by
        have := unhide HJ
        rw [show xs.take k = xs by rw [hkm, unhide HM, List.take_length]] at this
        exact this
      clear hkm
      gi_wp2
      go_end0
      exact ⟨⟨_, rfl⟩, .inl (unhide HF)⟩
theorem valsP_stops (F : Fence) (n : Nat) (hf : F.fn 63) (hro : F.round = none) (hn : 1 ≤ n) (Bs cap : Nat) (w : World) (a0 : Option Addr) (xs : List Pr) (hlen : xs.length ≤ 100000) (hI : PrsAt w a0 xs) (w1 : World) (hb : Below w.heap.size w w1) (hBs : Bs < w1.heap.size)
    (hc : w1.cell? ⟨Bs, 0, none⟩ = some (.slice a0 xs.length cap)) :
    SeqStopsK F n Try.prog 63 #[.pointer (some ⟨Bs, 0, none⟩)] (fun x : Pr => #[Value.agg x.cl.toArray]) (Below w.heap.size) (fun ys => ys = xs) (fun pre => pre <+: xs) xs.length w1 := fun l J Jx W hW hJ _ hY h0 => by
  have hc' := (hW.cell (p := ⟨Bs, 0, none⟩) hBs).trans hc
  exact valsP_in F n hf hro hn l Bs cap w a0 xs hlen hI J Jx (fun pre X Y hp hb => hJ pre X Y none hp (grown_of_below' hb) (fun r e => by cases e)) hY W (hb.trans (hW.mono hb.size)) hc' h0
end Go.Proofs.Ytjndgglbapghhaa

/- choke: slices.AppendSeq, Collect, Values over a group. -/
import Derived.Test.YtjndgglbapghhaaCkN
namespace Go.Proofs.Ytjndgglbapghhaa
open Go.RowKit Go.Shelf
set_option linter.unusedVariables false
attribute [local go_sem] Oper.semAt_some

theorem Try.undPe : Try.prog.underlying 22 = some (.slice 48) := by kernel_rfl
theorem own_form10 {w : World} {base n : Nat} {e : TypeId} {v : Value} {xs : List Value} (hown : w.ownsRow base e 10 v n xs) : ∃ ao cap, v = .slice ao n cap := by
  rcases hown.2 with ⟨h', h0⟩ | ⟨g, cap', cur, h', _⟩
  · exact ⟨none, 0, by rw [h', h0]⟩
  · exact ⟨_, _, h'⟩
theorem setRow_alloc (w : World) (A B : Array Value) (t : TypeId) : (w.alloc (.cells A t)).setRow w.heap.size B = w.alloc (.cells B t) := by
  unfold World.setRow World.alloc
  simp only [World.mk.injEq, and_true]
  apply Array.ext_getElem?
  intro i
  rw [Array.getElem?_modify]
  by_cases hi : w.heap.size = i
  · subst hi; simp
  · simp [hi, Array.getElem?_push, show ¬ i = w.heap.size from fun e => hi e.symm]
set_option maxRecDepth 100000 in
set_option maxHeartbeats 4000000 in
/-- slices.AppendSeq(nil, slices.Values(g)) -/
theorem appSeqP_any (Bs cap : Nat) (w0 w : World) (a0 : Option Addr) (xs : List Pr) (hlen : xs.length ≤ 100000) (hI : PrsAt w0 a0 xs) (hb0 : Below w0.heap.size w0 w) (hBs : Bs < w.heap.size) (hc : w.cell? ⟨Bs, 0, none⟩ = some (.slice a0 xs.length cap)) :
    Calls Try.prog 72 #[.slice none 0 0, .func (.func 63) #[] #[.pointer (some ⟨Bs, 0, none⟩)]] w fun e W' => ∃ v, e = .returned v ∧ OwnPt 48 W' w.heap.size v xs ∧ Below w.heap.size w W' := by
  obtain ⟨i0, hi, hz0, hz1, hz2⟩ := info_parts Try.infoPe
  refine (callsIn_wide (n := 5)).1 ?_
  refine callsIn_of_wp_marks Try.func72 rfl trivial ?_ rfl
  simp only [Try.ntmps72, List.size_toArray, List.length_cons, List.length_nil, Nat.reduceAdd, Nat.reduceSub, Array.replicate_succ, Array.replicate_zero, List.push_toArray, List.append_toArray, List.nil_append, List.cons_append]
  gi_wp2
  have hB0 : Below w.heap.size w (w.alloc (.cells #[.slice none 0 0] 22)) := (Below.refl _ w).alloc (Nat.le_refl _) _
  have bS := Boxed.new w 22 (.slice none 0 0)
  have hsz : (w.alloc (.cells #[.slice none 0 0] 22)).heap.size = w.heap.size + 1 := by simp
  obtain ⟨W0, hW0⟩ : ∃ W0, w.alloc (.cells #[.slice none 0 0] 22) = W0 := ⟨_, rfl⟩
  rw [hW0] at bS hB0 hsz ⊢
  clear hW0
  have hs0 := hb0.size
  have hcb : W0.cell? ⟨Bs, 0, none⟩ = some (.slice a0 xs.length cap) := (hB0.cell (p := ⟨Bs, 0, none⟩) hBs).trans hc
  refine wpIn_rangeFunc_ownH rfl (by omega) (gf := 63) (lb := #[.pointer (some ⟨Bs, 0, none⟩)]) rfl trivial (enters_of Try.func63 (by kernel_rfl) rfl)
    (valsP_stops Fence.wide 4 trivial rfl (by omega) Bs cap w0 a0 xs hlen hI W0 (hb0.trans (hB0.mono hs0)) (by omega) hcb) belowK_t (belowK_b (by omega)) (Below.refl _ _) (fun _ => rfl)
    (fun pre W => (∃ v, Boxed W w.heap.size 22 v ∧ W.ownsRow w.heap.size 48 10 v pre.length (peC pre) ∧ True) ∧ Below w.heap.size w W)
    (fun _ _ _ => False)
    (OwnFrom.and (Own.from (holdsRow_own w.heap.size w.heap.size 22 48 10 (fun pre : List Pr => pre.length) (fun pre => peC pre) (fun _ _ => True)) _) (ownFrom_below (Nat.le_refl _) (by omega)))
    (fun _ _ _ _ _ hs _ _ => hs)
    ⟨⟨_, bS, World.ownsRow_nil _ _ _ _, trivial⟩, hB0⟩
    (fun x a' W => ∃ Bx, w.heap.size < Bx ∧ PeerAt W Bx x ∧ a' = { tmps := #[.slice none 0 0, .func (.func 63) #[] #[.pointer (some ⟨Bs, 0, none⟩)], .pointer (some ⟨w.heap.size, 0, none⟩), undef, .slice none 0 0, .pointer (some ⟨Bx, 0, none⟩), .func (.func 63) #[] #[.pointer (some ⟨Bs, 0, none⟩)], .agg x.cl.toArray, undef, undef, undef, undef, undef], defers := [] })
    (fun x a' _ X Y row hs hg hr => by obtain ⟨Bx, h1, h2, h3⟩ := hs; exact ⟨Bx, h1, peer_own Bx (fun (_ : Unit) => x) () X Y row h2 hg (fun r e => (hr r e).2), h3⟩)
    ?assign ?body ?done ?stop
  case assign =>
    rintro l pre x W K ⟨⟨v, bS1, hr1, _⟩, hB1⟩ hK
    have HK := hide hK
    have HZ := hide (heap_alloc_new W (.cells zP.cl.toArray 48))
    have HG := hide (newPr W zP x)
    have HI := hide (pr_info x)
    have HAL := hide (pr_all x)
    have HSZ : Hid (zP.cl.toArray.size = x.cl.toArray.size) := rfl
    have hz3 : zP.cl.toArray = #[.int .i64 0, .int .i64 0, .int .i64 0, .string ⟨#[]⟩, .bool false, .bool false, .bool false, .int .i64 0, .int .i64 0, .int .i64 0] := rfl
    rw [hz3] at HZ HG HSZ
    clear hz3 hK
    gi_wp2_with (refine wpListIn_store_row_to rfl 48 (.tmp 5) (.tmp 7) rfl W.heap.size x.cl.toArray rfl rfl 48 _ (unhide HZ) (unhide HI) (unhide HSZ) (unhide HAL) (fun w' => w' = W.alloc (.cells x.cl.toArray 48)) ?_ ?_)
    · exact setRow_alloc W _ _ 48
    exact unhide HK _ _ ((KeepsOthers.alloc W (.cells x.cl.toArray 48)).from _) ((Below.refl w0.heap.size W).alloc (by have := hB1.size; omega) _) ⟨⟨v, bS1.alloc _, hr1.alloc _, trivial⟩, hB1.alloc hB1.size _⟩ ⟨W.heap.size, bS1.lt, heap_alloc_new _ _, rfl⟩
  case body =>
    rintro l pre x a' W hl hr ⟨⟨v, bS1, hr1, _⟩, hB1⟩ ⟨Bx, hBx, bX, rfl⟩ hlt
    have cS := bS1.cell
    obtain ⟨ao, cap, rfl⟩ := own_form10 hr1
    have hpl : pre.length < 100000 := by omega
    have HPC := hide (peerAt_cells bX)
    have HI := hide (pr_info x)
    have HONE := hide (Pr.cl_one x)
    have HN : Hid (∀ j u, x.cl[j]? = some u → (W.alloc (.cells x.cl.toArray 48)).cell? ((⟨W.heap.size, 0, none⟩ : Addr).add j) = some u) := World.news_of_block (heap_alloc_new W _)
    have HAPP : Hid (peC (pre ++ [x]) = peC pre ++ x.cl) := by
      show _ = _
      rw [peC_append]
      simp [peC]
    obtain ⟨nd, px, py, hv, wa, op, os, se, nw, ra⟩ := x
    unfold Pr.cl at HPC HI HONE HN HAPP
    dsimp only at HPC HI HONE HN HAPP
    clear bX hc hcb
    gi_wp2_with (refine wpListIn_load_at rfl 48 (.tmp 5) rfl ⟨Bx, 0, none⟩ rfl #[.int .i64 nd, .int .i64 px, .int .i64 py, .string hv, .bool wa, .bool op, .bool os, .int .i64 se, .int .i64 nw, .int .i64 ra] _ (unhide HPC) Try.underlying48 rfl (unhide HI) ?_)
    intro v2 hv2
    obtain rfl := unhide hv2
    clear hv2
    gi_wp2_with (gi_at_builtin; refine wpListIn_append_own _ rfl _ _ 22 rfl w.heap.size 48 i0 (.agg #[.int .i64 0, .int .i64 0, .int .i64 0, .string ⟨#[]⟩, .bool false, .bool false, .bool false, .int .i64 0, .int .i64 0, .int .i64 0]) 10 72 Try.undPe hi hz0 hz1 hz2 rfl (by decide) _ _ _ rfl (hr1.alloc _) ⟨W.heap.size, 0, none⟩ 1 1 [.int .i64 nd, .int .i64 px, .int .i64 py, .string hv, .bool wa, .bool op, .bool os, .int .i64 se, .int .i64 nw, .int .i64 ra] rfl rfl (unhide HN) (unhide HONE) (by unfold maxLen; omega) (by omega) (by have := hB1.size; simp; omega) ?_; intro v' w1 hown' hgrow _; obtain ⟨g', cap', rfl⟩ := ownsRow_succ hown'; obtain ⟨hv1, hv2, hr2, hk2, hb2⟩ := bS1.appended (by decide) hr1 hB1.size (Nat.le_refl _) hown' hgrow; have hc1 := hv1.cell; have hf1 := hv1.frozen)
    refine ⟨hk2.from _, hb2.mono hs0, ⟨⟨_, hv2, ?_, trivial⟩, hB1.trans hb2⟩⟩
    rw [unhide HAPP, List.length_append]
    exact hr2
  case done =>
    rintro D ys W hD rfl ⟨⟨v, bS1, hr1, _⟩, hB1⟩ hK
    have cS := bS1.cell
    obtain ⟨ao, cap, rfl⟩ := own_form10 hr1
    gi_wp2
    refine ⟨by simp, .inl ⟨_, _, rfl, run_takeDeferred hK, ?_⟩⟩
    exact ⟨_, results_tmp rfl _ _ _, _, rfl, by unfold OwnPt; exact ownsRow_putObj hr1 _ hK rfl, hB1.trans (belowK_b (w := w) (Nat.le_refl _) W D _ _ (by omega) hK rfl rfl)⟩
  case stop =>
    rintro D c pre W _ _ h _
    exact h.elim
set_option maxRecDepth 100000 in
set_option maxHeartbeats 2000000 in
theorem collectP_any (Bs cap : Nat) (w0 w : World) (a0 : Option Addr) (xs : List Pr) (hlen : xs.length ≤ 100000) (hI : PrsAt w0 a0 xs) (hb0 : Below w0.heap.size w0 w) (hBs : Bs < w.heap.size) (hc : w.cell? ⟨Bs, 0, none⟩ = some (.slice a0 xs.length cap)) :
    Calls Try.prog 61 #[.func (.func 63) #[] #[.pointer (some ⟨Bs, 0, none⟩)]] w fun e W' => ∃ v, e = .returned v ∧ OwnPt 48 W' w.heap.size v xs ∧ Below w.heap.size w W' := by
  have HA := hide (appSeqP_any Bs cap w0 w a0 xs hlen hI hb0 hBs hc)
  generalize xs.length = m at *
  clear hI hb0 hc
  go_enter Try.func61, Try.ntmps61
  go_wp2_with fail
  refine (unhide HA).mono ?_
  rintro e w1 ⟨v, rfl, h1, h2⟩
  have HX := hide (And.intro h1 h2)
  clear h1 h2
  go_wp2
  go_ret
  exact ⟨_, rfl, unhide HX⟩
set_option maxRecDepth 100000 in
set_option maxHeartbeats 2000000 in
theorem valuesP_any (a0 : Option Addr) (m cap : Nat) (w : World) :
    Calls Try.prog 44 #[.slice a0 m cap] w fun e w' => e = .returned (.func (.func 63) #[] #[.pointer (some ⟨w.heap.size, 0, none⟩)]) ∧ w' = w.alloc (.cells #[.slice a0 m cap] 52) := by
  go_enter Try.func44, Try.ntmps44
  go_wp2
  go_ret
  exact ⟨rfl, rfl⟩
end Go.Proofs.Ytjndgglbapghhaa

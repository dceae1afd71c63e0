/- net: the page's example; List and To of a nil net. -/
import Derived.Test.YtmnjngkdiinnfaaNtF
namespace Go.Proofs.Ytmnjngkdiinnfaa
open Go.RowKit
set_option linter.unusedVariables false
attribute [local go_sem] Oper.semAt_some

def exA : Mg := ⟨0, 1, 2, ⟨#[120]⟩⟩
def exN (i : Int) : Mg := ⟨i, 1, 2, ⟨#[120]⟩⟩
set_option maxRecDepth 100000 in
set_option maxHeartbeats 1000000 in
theorem nawake_any (w : World) : Calls Try.prog 8 #[] w fun e w' => e = .returned (.bool true) ∧ Below w.heap.size w w' := by
  have h1 := hide (nnew 5 w (by decide))
  have h2 := hide (fun b w1 (h : Nt w1 w.heap.size b 5 0 []) => nsend w.heap.size b 5 0 [] exA w1 h (by decide) (by decide))
  have h3 := hide (fun b w1 (h : Nt w1 w.heap.size b 5 1 [exN 1]) => nsend w.heap.size b 5 1 [exN 1] exA w1 h (by decide) (by decide))
  have h4 := hide (fun b w1 (h : Nt w1 w.heap.size b 5 2 [exN 1, exN 2]) => ntake w.heap.size b 5 2 [exN 1, exN 2] 1 (by decide) w1 h)
  have h5 := hide (fun b w1 (h : Nt w1 w.heap.size b 5 2 [exN 2]) => nnth w.heap.size b 5 2 [exN 2] 0 (by decide) w1 h)
  have h6 := hide (fun b w1 (h : Nt w1 w.heap.size b 5 2 [exN 2]) => ntwice w.heap.size b 5 2 [exN 2] 2 (by decide) (by decide) w1 h)
  have h7 := hide (fun b w1 (h : Nt w1 w.heap.size b 5 3 [exN 2, exN 3]) => nlen w.heap.size b 5 3 [exN 2, exN 3] w1 h)
  rw [show sndI 5 0 [] exA = 1 by decide, show sndE 5 [] exA = 0 by decide, show sndT 5 0 [] exA = 1 by decide, show sndL 5 0 [] exA = [exN 1] by rfl] at h2
  rw [show sndI 5 1 [exN 1] exA = 2 by decide, show sndE 5 [exN 1] exA = 0 by decide, show sndT 5 1 [exN 1] exA = 2 by decide, show sndL 5 1 [exN 1] exA = [exN 1, exN 2] by rfl] at h3
  rw [show tkG [exN 1, exN 2] 1 = exN 1 by rfl, show tkE [exN 1, exN 2] 1 = 0 by decide, show tkL [exN 1, exN 2] 1 = [exN 2] by rfl] at h4
  rw [show nthI [exN 2] 0 = 2 by rfl] at h5
  rw [show twI 5 2 [exN 2] 2 = 3 by decide, show twE 5 [exN 2] 2 = 0 by decide, show twT 5 2 [exN 2] 2 = 3 by decide, show twL 5 2 [exN 2] 2 = [exN 2, exN 3] by rfl] at h6
  have HI := hide (gm_info (exN 1))
  go_enter Try.func8, Try.ntmps8
  go_wp2_with fail
  refine (unhide h1).mono ?_
  rintro e w1 ⟨⟨b, rfl, n1⟩, b1⟩
  have B1 := hide b1
  have N1 := hide n1
  clear b1 n1 h1
  go_wp2_with fail
  refine (unhide h2 b w1 (unhide N1)).mono ?_
  rintro e w2 ⟨rfl, n2, k2⟩
  have N2 := hide n2
  have B2 := hide ((unhide B1).trans (k2.below (unhide B1).size))
  clear n2 k2 h2 N1 B1
  go_wp2_with fail
  refine (unhide h3 b w2 (unhide N2)).mono ?_
  rintro e w3 ⟨rfl, n3, k3⟩
  have N3 := hide n3
  have B3 := hide ((unhide B2).trans (k3.below (unhide B2).size))
  clear n3 k3 h3 N2 B2
  go_wp2_with fail
  refine (unhide h4 b w3 (unhide N3)).mono ?_
  rintro e w4 ⟨rfl, n4, k4⟩
  have N4 := hide n4
  have B4 := hide ((unhide B3).trans (k4.below (unhide B3).size))
  have HZ := hide (heap_alloc_new w4 (.cells (gmC zM) 30))
  have HG := hide (newGm w4 zM (exN 1))
  clear n4 k4 h4 N3 B3
  go_wp2_with (refine wpList_store_row_to rfl 30 (.tmp 6) (.tmp 27) rfl w4.heap.size (gmC (exN 1)) rfl rfl 30 (gmC zM) (unhide HZ) (unhide HI) rfl (gm_all _) (NewGm w4 (exN 1)) (unhide HG) ?_)
  intro w5 h5'
  have N5 := hide ((unhide N4).kept h5'.be)
  have B5 := hide ((unhide B4).trans (h5'.be.mono (unhide B4).size))
  have HX5 := hide h5'.blk
  clear h5' N4 B4 HZ HG
  go_wp2_with fail
  refine (unhide h5 b w5 (unhide N5)).mono ?_
  rintro e w6 ⟨rfl, b6⟩
  have N6 := hide ((unhide N5).kept b6)
  have B6 := hide ((unhide B5).trans (b6.mono (unhide B5).size))
  have HX6 := hide ((b6.block _ (lt_of_block (unhide HX5))).trans (unhide HX5))
  clear b6 N5 B5 HX5 h5
  go_wp2_with fail
  refine (unhide h6 b w6 (unhide N6)).mono ?_
  rintro e w7 ⟨rfl, n7, k7⟩
  have N7 := hide n7
  have B7 := hide ((unhide B6).trans (k7.below (unhide B6).size))
  have HX7 := hide ((k7.typ _ _ _ _ (unhide HX6) (by decide) (by decide)).trans (unhide HX6))
  clear n7 k7 h6 N6 B6 HX6
  have hx7 := unhide HX7
  unfold gmC exN at hx7
  obtain ⟨c0, c1, c2, cf⟩ := cells3 hx7
  clear hx7
  go_wp2_with fail
  refine (unhide h7 b w7 (unhide N7)).mono ?_
  rintro e w8 ⟨rfl, rfl⟩
  go_wp2
  go_ret
  exact ⟨rfl, unhide B7⟩
set_option maxRecDepth 100000 in
theorem nlist_nil (w : World) : Calls Try.prog 21 #[.pointer none] w fun e w' => e = .returned (.slice none 0 0) ∧ w = w' := by
  go_enter Try.func21, Try.ntmps21
  go_wp2
  go_ret
  exact ⟨rfl, rfl⟩
set_option maxRecDepth 100000 in
theorem nto_nil (k : Int) (w : World) : Calls Try.prog 24 #[.pointer none, .int .i64 k] w fun e w' => e = .returned (.slice none 0 0) ∧ w = w' := by
  go_enter Try.func24, Try.ntmps24
  go_wp2_with fail
  refine (nlist_nil w).mono ?_
  rintro e w1 ⟨rfl, rfl⟩
  go_wp2_with fail
  refine wp_loop_rounds 1 ?_
  rw [rounds_succ]
  go_wp2
  go_ret
  exact ⟨rfl, rfl⟩
set_option maxRecDepth 100000 in
theorem lose_nil (k : Int) (w : World) : Calls Try.prog 17 #[.pointer none, .int .i64 k] w fun e w' => e = .returned (.int .i64 1) ∧ Below w.heap.size w w' := by
  go_enter Try.func17, Try.ntmps17
  go_wp2_with fail
  refine (take_nil k w).mono ?_
  rintro e w1 ⟨rfl, b1⟩
  have HZ := hide (heap_alloc_new w1 (.cells (gmC zM) 30))
  have HG := hide (newGm w1 zM zM)
  have B1 := hide b1
  clear b1
  go_wp2_with (refine wpList_store_row_to rfl 30 (.tmp 5) (.tmp 11) rfl w1.heap.size (gmC zM) rfl rfl 30 (gmC zM) (unhide HZ) (gm_info zM) rfl (gm_all zM) (NewGm w1 zM) (unhide HG) ?_)
  intro w2 h2
  have B2 := hide ((unhide B1).trans (h2.be.mono (unhide B1).size))
  clear h2
  go_wp2
  go_ret
  exact ⟨rfl, unhide B2⟩
set_option maxRecDepth 100000 in
theorem twice_nil (k : Int) (w : World) : Calls Try.prog 19 #[.pointer none, .int .i64 k] w fun e w' => e = .returned (.tuple #[.int .i64 0, .int .i64 1]) ∧ Below w.heap.size w w' := by
  go_enter Try.func19, Try.ntmps19
  go_wp2_with fail
  refine (find_nil k w).mono ?_
  rintro e w1 ⟨rfl, b1⟩
  have HZ := hide (heap_alloc_new w1 (.cells (gmC zM) 30))
  have HG := hide (newGm w1 zM zM)
  have B1 := hide b1
  clear b1
  go_wp2_with (refine wpList_store_row_to rfl 30 (.tmp 6) (.tmp 12) rfl w1.heap.size (gmC zM) rfl rfl 30 (gmC zM) (unhide HZ) (gm_info zM) rfl (gm_all zM) (NewGm w1 zM) (unhide HG) ?_)
  intro w2 h2
  have B2 := hide ((unhide B1).trans (h2.be.mono (unhide B1).size))
  clear h2
  go_wp2
  go_ret2
  exact ⟨rfl, unhide B2⟩
end Go.Proofs.Ytmnjngkdiinnfaa

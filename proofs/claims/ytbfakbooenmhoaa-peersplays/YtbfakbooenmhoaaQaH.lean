/- peers: what sets something of a peer. -/
import Derived.Test.YtbfakbooenmhoaaZqC
namespace Go.Proofs.Ytbfakbooenmhoaa
open Go.RowKit
set_option linter.unusedVariables false
attribute [local go_sem] Oper.semAt_some

theorem pr_cells {w : World} {g : Nat} {c : Pr} (h : w.heap[g]? = some (.cells c.cl.toArray 46 (0, 0))) (j : Nat) : w.cell? ⟨g, j, none⟩ = c.cl[j]? := by
  rw [cell_of_row _ _ _ _ _ _ h]
  simp
theorem pr_free {w : World} {g : Nat} {c : Pr} (h : w.heap[g]? = some (.cells c.cl.toArray 46 (0, 0))) (j : Nat) : w.frozen? ⟨g, j, none⟩ = false := by simp [World.frozen?, h]
theorem cp_set {w : World} {g : Nat} {c : Pr} (h : w.heap[g]? = some (.cells c.cl.toArray 46 (0, 0))) (j : Nat) (v : Value) (d : Pr) (he : c.cl.toArray.setIfInBounds j v = d.cl.toArray) : CP g d w (w.setCell ⟨g, j, none⟩ v) :=
  ⟨by rw [← he]; exact heap_setCell_same w g j _ _ _ h, kept_set _ _ _ _ _⟩
theorem CP.drew {w w' : World} {g : Nat} {c : Pr} (h : CP g c w w') : CP g c w w'.drew := ⟨h.blk, ⟨h.kept.os, h.kept.tape, h.kept.output, h.kept.size, h.kept.block⟩⟩
theorem CP.lift {w w1 w' : World} {g : Nat} {c : Pr} (h : CP g c w w') (e : w1 = w) : CP g c w1 w' := e ▸ h

set_option maxRecDepth 100000 in
set_option maxHeartbeats 1000000 in
theorem hear_clo (g x : Nat) (c : Pr) (n : Int) (hb : Bd c) (hn : 0 ≤ n ∧ n ≤ 1099511627776) (w : World) (hg : w.heap[g]? = some (.cells c.cl.toArray 46 (0, 0))) (hx : w.cell? ⟨x, 0, none⟩ = some (.int .i64 n)) :
    Calls Try.prog 44 #[.pointer (some ⟨g, 0, none⟩), .pointer (some ⟨x, 0, none⟩)] w fun e w' => e = .returned (.tuple #[]) ∧ CP g { c with se := max c.se n } w w' := by
  have HG := hide hg
  have cg : w.cell? ⟨g, 7, none⟩ = some (.int .i64 c.se) := by rw [pr_cells hg]; rfl
  have fg := pr_free hg 7
  obtain ⟨se, hse⟩ : ∃ s, s = c.se := ⟨_, rfl⟩
  rw [← hse] at cg ⊢
  have HS := hide hse
  clear hse hg hb hn
  by_cases hle : n ≤ se
  · have hm : max se n = se := by omega
    rw [hm]
    have HC : Hid (CP g { c with se := se } w (w.setCell ⟨g, 7, none⟩ (.int .i64 se))) := cp_set (unhide HG) 7 _ _ rfl
    clear hm HG HS
    go_enter Try.func44, Try.ntmps44
    go_wp2
    go_region
    go_wp2
    go_end0
    exact ⟨rfl, (unhide HC).drew⟩
  · have hm : max se n = n := by omega
    rw [hm]
    have HC : Hid (CP g { c with se := n } w (w.setCell ⟨g, 7, none⟩ (.int .i64 n))) := cp_set (unhide HG) 7 _ _ rfl
    clear hm HG HS
    go_enter Try.func44, Try.ntmps44
    go_wp2
    go_region
    go_wp2
    go_end0
    exact ⟨rfl, (unhide HC).drew⟩
set_option maxRecDepth 100000 in
set_option maxHeartbeats 1000000 in
theorem hear_yes (p g B b : Nat) (n : Int) (room tmo : Int) (P : Nat → Option Nat) (C : Nat → Pr) (Bn : Nat → Bool) (w : World) (h : Tb B w b room tmo P C Bn) (hp : 1 ≤ p ∧ p ≤ 15) (hP : P p = some g) (hn : 0 ≤ n ∧ n ≤ 1099511627776) :
    Calls Try.prog 20 #[.pointer (some ⟨b, 0, none⟩), .int .i64 p, .int .i64 n] w fun e w' => e = .returned (.int .i64 0) ∧ Tb B w' b room tmo P (tup C p { C p with se := max (C p).se n }) Bn ∧ KT b P w w' := by
  have hp16 : p < 16 := by omega
  have b1 := (Below.refl w.heap.size w).alloc (Nat.le_refl _) (.cells #[.int .i64 n] 3)
  have t1 := h.up b1
  have hc := hear_clo g w.heap.size (C p) n (h.bd p) hn (w.alloc (.cells #[.int .i64 n] 3)) (t1.tb.pe p g hp16 hP) (by rw [cell_of_row _ _ _ _ _ _ (heap_alloc_new w _)]; rfl)
  have hw := hide (with_yes p g 44 (cf_of Try.func44 (by kernel_rfl) (by kernel_rfl)) (.pointer (some ⟨w.heap.size, 0, none⟩)) _ b room tmo P C Bn _ t1.tb hp hP hc)
  have hput : Hid (∀ w2, CP g { C p with se := max (C p).se n } (w.alloc (.cells #[.int .i64 n] 3)) w2 → Tb B w2 b room tmo P (tup C p { C p with se := max (C p).se n }) Bn ∧ KT b P w w2) := fun w2 k => h.put b1 hp16 hP (h.nd p g hp16 hP) ⟨⟨by show 0 ≤ max _ _; have := (h.bd p).se; omega, by show max _ _ ≤ _; have := (h.bd p).se; omega⟩, (h.bd p).nw⟩ k
  have gt := hide (fun w => isTime_any n w)
  rw [show isTm n = true by unfold isTm; simp; exact hn] at gt
  clear h hP b1 t1 hc hn
  go_enter Try.func20, Try.ntmps20
  go_wp2_with fail
  refine (unhide gt _).mono ?_
  rintro e w1 ⟨rfl, rfl⟩
  go_wp2_with fail
  refine (unhide hw).mono ?_
  rintro e w2 ⟨rfl, hR⟩
  have HR := hide (unhide hput w2 hR)
  clear hR
  go_wp2
  go_ret
  exact ⟨rfl, unhide HR⟩
set_option maxRecDepth 100000 in
set_option maxHeartbeats 1000000 in
theorem hear_no (i : Int) (b : Nat) (n : Int) (room tmo : Int) (P : Nat → Option Nat) (C : Nat → Pr) (Bn : Nat → Bool) (w : World) (h : TbAt w b room tmo P C Bn) (hN : NoP P i) (hn : 0 ≤ n ∧ n ≤ 1099511627776) :
    Calls Try.prog 20 #[.pointer (some ⟨b, 0, none⟩), .int .i64 i, .int .i64 n] w fun e w' => e = .returned (.int .i64 4) ∧ Below w.heap.size w w' := by
  have b1 := (Below.refl w.heap.size w).alloc (Nat.le_refl _) (.cells #[.int .i64 n] 3)
  have hw := hide (fun f => with_no i f b room tmo P C Bn _ (h.up b1) hN)
  have gt := hide (fun w => isTime_any n w)
  rw [show isTm n = true by unfold isTm; simp; exact hn] at gt
  have HB := hide b1
  clear h hN b1 hn
  go_enter Try.func20, Try.ntmps20
  go_wp2_with fail
  refine (unhide gt _).mono ?_
  rintro e w1 ⟨rfl, rfl⟩
  go_wp2_with fail
  refine (unhide hw _).mono ?_
  rintro e w2 ⟨rfl, rfl⟩
  go_wp2
  go_ret
  exact ⟨rfl, unhide HB⟩
set_option maxRecDepth 100000 in
set_option maxHeartbeats 1000000 in
theorem hear_arg (i : Int) (t : Value) (n : Int) (w : World) (hn : ¬ (0 ≤ n ∧ n ≤ 1099511627776)) :
    Calls Try.prog 20 #[t, .int .i64 i, .int .i64 n] w fun e w' => e = .returned (.int .i64 1) ∧ Below w.heap.size w w' := by
  have gt := hide (fun w => isTime_any n w)
  rw [show isTm n = false by unfold isTm; exact decide_eq_false hn] at gt
  clear hn
  have HB := hide ((Below.refl w.heap.size w).alloc (Nat.le_refl _) (.cells #[.int .i64 n] 3))
  go_enter Try.func20, Try.ntmps20
  go_wp2_with fail
  refine (unhide gt _).mono ?_
  rintro e w1 ⟨rfl, rfl⟩
  go_wp2
  go_ret
  exact ⟨rfl, unhide HB⟩
set_option maxRecDepth 100000 in
set_option maxHeartbeats 1000000 in
theorem count_clo (g x : Nat) (c : Pr) (n : Int) (hb : Bd c) (hn : 0 ≤ n ∧ n ≤ 1099511627776) (w : World) (hg : w.heap[g]? = some (.cells c.cl.toArray 46 (0, 0))) (hx : w.cell? ⟨x, 0, none⟩ = some (.int .i64 n)) :
    Calls Try.prog 45 #[.pointer (some ⟨g, 0, none⟩), .pointer (some ⟨x, 0, none⟩)] w fun e w' => e = .returned (.tuple #[]) ∧ CP g { c with nw := min (c.nw + n) 1099511627776 } w w' := by
  have HG := hide hg
  have cg : w.cell? ⟨g, 8, none⟩ = some (.int .i64 c.nw) := by rw [pr_cells hg]; rfl
  have fg := pr_free hg 8
  obtain ⟨nw, hnw⟩ : ∃ s, s = c.nw := ⟨_, rfl⟩
  rw [← hnw] at cg ⊢
  have hbn : 0 ≤ nw ∧ nw ≤ 1099511627776 := by rw [hnw]; exact hb.nw
  obtain ⟨b1, b2⟩ := hbn
  obtain ⟨b3, b4⟩ := hn
  have HS := hide hnw
  clear hnw hg hb
  by_cases hle : nw + n ≤ 1099511627776
  · have hm : min (nw + n) 1099511627776 = nw + n := by omega
    rw [hm]
    have HC : Hid (CP g { c with nw := nw + n } w (w.setCell ⟨g, 8, none⟩ (.int .i64 (nw + n)))) := cp_set (unhide HG) 8 _ _ rfl
    clear hm HG HS
    go_enter Try.func45, Try.ntmps45
    go_wp2
    go_region
    go_wp2
    go_end0
    exact ⟨rfl, (unhide HC).drew⟩
  · have hm : min (nw + n) 1099511627776 = 1099511627776 := by omega
    rw [hm]
    have HC : Hid (CP g { c with nw := 1099511627776 } w (w.setCell ⟨g, 8, none⟩ (.int .i64 (1099511627776)))) := cp_set (unhide HG) 8 _ _ rfl
    clear hm HG HS
    go_enter Try.func45, Try.ntmps45
    go_wp2
    go_region
    go_wp2
    go_end0
    exact ⟨rfl, (unhide HC).drew⟩
set_option maxRecDepth 100000 in
set_option maxHeartbeats 1000000 in
theorem count_yes (p g B b : Nat) (n : Int) (room tmo : Int) (P : Nat → Option Nat) (C : Nat → Pr) (Bn : Nat → Bool) (w : World) (h : Tb B w b room tmo P C Bn) (hp : 1 ≤ p ∧ p ≤ 15) (hP : P p = some g) (hn : 0 ≤ n ∧ n ≤ 1099511627776) :
    Calls Try.prog 21 #[.pointer (some ⟨b, 0, none⟩), .int .i64 p, .int .i64 n] w fun e w' => e = .returned (.int .i64 0) ∧ Tb B w' b room tmo P (tup C p { C p with nw := min ((C p).nw + n) 1099511627776 }) Bn ∧ KT b P w w' := by
  have hp16 : p < 16 := by omega
  have b1 := (Below.refl w.heap.size w).alloc (Nat.le_refl _) (.cells #[.int .i64 n] 3)
  have t1 := h.up b1
  have hc := count_clo g w.heap.size (C p) n (h.bd p) hn (w.alloc (.cells #[.int .i64 n] 3)) (t1.tb.pe p g hp16 hP) (by rw [cell_of_row _ _ _ _ _ _ (heap_alloc_new w _)]; rfl)
  have hw := hide (with_yes p g 45 (cf_of Try.func45 (by kernel_rfl) (by kernel_rfl)) (.pointer (some ⟨w.heap.size, 0, none⟩)) _ b room tmo P C Bn _ t1.tb hp hP hc)
  have hput : Hid (∀ w2, CP g { C p with nw := min ((C p).nw + n) 1099511627776 } (w.alloc (.cells #[.int .i64 n] 3)) w2 → Tb B w2 b room tmo P (tup C p { C p with nw := min ((C p).nw + n) 1099511627776 }) Bn ∧ KT b P w w2) := fun w2 k => h.put b1 hp16 hP (h.nd p g hp16 hP) ⟨(h.bd p).se, ⟨by show 0 ≤ min _ _; have := (h.bd p).nw; omega, by show min _ _ ≤ _; omega⟩⟩ k
  have gt := hide (fun w => isFrom_any 0 n 1099511627776 w)
  rw [decide_eq_true hn] at gt
  clear h hP b1 t1 hc hn
  go_enter Try.func21, Try.ntmps21
  go_wp2_with fail
  refine (unhide gt _).mono ?_
  rintro e w1 ⟨rfl, rfl⟩
  go_wp2_with fail
  refine (unhide hw).mono ?_
  rintro e w2 ⟨rfl, hR⟩
  have HR := hide (unhide hput w2 hR)
  clear hR
  go_wp2
  go_ret
  exact ⟨rfl, unhide HR⟩
set_option maxRecDepth 100000 in
set_option maxHeartbeats 1000000 in
theorem count_no (i : Int) (b : Nat) (n : Int) (room tmo : Int) (P : Nat → Option Nat) (C : Nat → Pr) (Bn : Nat → Bool) (w : World) (h : TbAt w b room tmo P C Bn) (hN : NoP P i) (hn : 0 ≤ n ∧ n ≤ 1099511627776) :
    Calls Try.prog 21 #[.pointer (some ⟨b, 0, none⟩), .int .i64 i, .int .i64 n] w fun e w' => e = .returned (.int .i64 4) ∧ Below w.heap.size w w' := by
  have b1 := (Below.refl w.heap.size w).alloc (Nat.le_refl _) (.cells #[.int .i64 n] 3)
  have hw := hide (fun f => with_no i f b room tmo P C Bn _ (h.up b1) hN)
  have gt := hide (fun w => isFrom_any 0 n 1099511627776 w)
  rw [decide_eq_true hn] at gt
  have HB := hide b1
  clear h hN b1 hn
  go_enter Try.func21, Try.ntmps21
  go_wp2_with fail
  refine (unhide gt _).mono ?_
  rintro e w1 ⟨rfl, rfl⟩
  go_wp2_with fail
  refine (unhide hw _).mono ?_
  rintro e w2 ⟨rfl, rfl⟩
  go_wp2
  go_ret
  exact ⟨rfl, unhide HB⟩
set_option maxRecDepth 100000 in
set_option maxHeartbeats 1000000 in
theorem count_arg (i : Int) (t : Value) (n : Int) (w : World) (hn : ¬ (0 ≤ n ∧ n ≤ 1099511627776)) :
    Calls Try.prog 21 #[t, .int .i64 i, .int .i64 n] w fun e w' => e = .returned (.int .i64 1) ∧ Below w.heap.size w w' := by
  have gt := hide (fun w => isFrom_any 0 n 1099511627776 w)
  rw [decide_eq_false hn] at gt
  clear hn
  have HB := hide ((Below.refl w.heap.size w).alloc (Nat.le_refl _) (.cells #[.int .i64 n] 3))
  go_enter Try.func21, Try.ntmps21
  go_wp2_with fail
  refine (unhide gt _).mono ?_
  rintro e w1 ⟨rfl, rfl⟩
  go_wp2
  go_ret
  exact ⟨rfl, unhide HB⟩
set_option maxRecDepth 100000 in
set_option maxHeartbeats 1000000 in
theorem setHave_clo (g x : Nat) (c : Pr) (s : ByteArray) (w : World) (hg : w.heap[g]? = some (.cells c.cl.toArray 46 (0, 0))) (hx : w.cell? ⟨x, 0, none⟩ = some (.string s)) :
    Calls Try.prog 48 #[.pointer (some ⟨g, 0, none⟩), .pointer (some ⟨x, 0, none⟩)] w fun e w' => e = .returned (.tuple #[]) ∧ CP g { c with hv := s } w w' := by
  have HG := hide hg
  have cg : w.cell? ⟨g, 3, none⟩ = some (.string c.hv) := by rw [pr_cells hg]; rfl
  have fg := pr_free hg 3
  have HC : Hid (CP g { c with hv := s } w (w.setCell ⟨g, 3, none⟩ (.string s))) := cp_set (unhide HG) 3 _ _ rfl
  clear hg HG
  go_enter Try.func48, Try.ntmps48
  go_wp2
  go_end0
  exact ⟨rfl, unhide HC⟩
set_option maxRecDepth 100000 in
set_option maxHeartbeats 1000000 in
theorem setHave_yes (p g B b : Nat) (s : ByteArray) (room tmo : Int) (P : Nat → Option Nat) (C : Nat → Pr) (Bn : Nat → Bool) (w : World) (h : Tb B w b room tmo P C Bn) (hp : 1 ≤ p ∧ p ≤ 15) (hP : P p = some g) (hn : ¬ (20 : Int) < s.size) :
    Calls Try.prog 25 #[.pointer (some ⟨b, 0, none⟩), .int .i64 p, .string s] w fun e w' => e = .returned (.int .i64 0) ∧ Tb B w' b room tmo P (tup C p { C p with hv := s }) Bn ∧ KT b P w w' := by
  have hp16 : p < 16 := by omega
  have b1 := (Below.refl w.heap.size w).alloc (Nat.le_refl _) (.cells #[.string s] 9)
  have t1 := h.up b1
  have hc := setHave_clo g w.heap.size (C p) s (w.alloc (.cells #[.string s] 9)) (t1.tb.pe p g hp16 hP) (by rw [cell_of_row _ _ _ _ _ _ (heap_alloc_new w _)]; rfl)
  have hw := hide (with_yes p g 48 (cf_of Try.func48 (by kernel_rfl) (by kernel_rfl)) (.pointer (some ⟨w.heap.size, 0, none⟩)) _ b room tmo P C Bn _ t1.tb hp hP hc)
  have hput : Hid (∀ w2, CP g { C p with hv := s } (w.alloc (.cells #[.string s] 9)) w2 → Tb B w2 b room tmo P (tup C p { C p with hv := s }) Bn ∧ KT b P w w2) := fun w2 k => h.put b1 hp16 hP (h.nd p g hp16 hP) ⟨(h.bd p).se, (h.bd p).nw⟩ k
  clear h hP b1 t1 hc
  go_enter Try.func25, Try.ntmps25
  go_wp2_with fail
  refine (unhide hw).mono ?_
  rintro e w2 ⟨rfl, hR⟩
  have HR := hide (unhide hput w2 hR)
  clear hR
  go_wp2
  go_ret
  exact ⟨rfl, unhide HR⟩
set_option maxRecDepth 100000 in
set_option maxHeartbeats 1000000 in
theorem setHave_no (i : Int) (b : Nat) (s : ByteArray) (room tmo : Int) (P : Nat → Option Nat) (C : Nat → Pr) (Bn : Nat → Bool) (w : World) (h : TbAt w b room tmo P C Bn) (hN : NoP P i) (hn : ¬ (20 : Int) < s.size) :
    Calls Try.prog 25 #[.pointer (some ⟨b, 0, none⟩), .int .i64 i, .string s] w fun e w' => e = .returned (.int .i64 4) ∧ Below w.heap.size w w' := by
  have b1 := (Below.refl w.heap.size w).alloc (Nat.le_refl _) (.cells #[.string s] 9)
  have hw := hide (fun f => with_no i f b room tmo P C Bn _ (h.up b1) hN)
  have HB := hide b1
  clear h hN b1
  go_enter Try.func25, Try.ntmps25
  go_wp2_with fail
  refine (unhide hw _).mono ?_
  rintro e w2 ⟨rfl, rfl⟩
  go_wp2
  go_ret
  exact ⟨rfl, unhide HB⟩
set_option maxRecDepth 100000 in
set_option maxHeartbeats 1000000 in
theorem setHave_arg (i : Int) (t : Value) (s : ByteArray) (w : World) (hn : (20 : Int) < s.size) :
    Calls Try.prog 25 #[t, .int .i64 i, .string s] w fun e w' => e = .returned (.int .i64 1) ∧ Below w.heap.size w w' := by
  have HB := hide ((Below.refl w.heap.size w).alloc (Nat.le_refl _) (.cells #[.string s] 9))
  go_enter Try.func25, Try.ntmps25
  go_wp2
  go_ret
  exact ⟨rfl, unhide HB⟩
set_option maxRecDepth 100000 in
set_option maxHeartbeats 1000000 in
theorem setWants_clo (g x : Nat) (c : Pr) (on : Bool) (w : World) (hg : w.heap[g]? = some (.cells c.cl.toArray 46 (0, 0))) (hx : w.cell? ⟨x, 0, none⟩ = some (.bool on)) :
    Calls Try.prog 49 #[.pointer (some ⟨g, 0, none⟩), .pointer (some ⟨x, 0, none⟩)] w fun e w' => e = .returned (.tuple #[]) ∧ CP g { c with wa := on } w w' := by
  have HG := hide hg
  have cg : w.cell? ⟨g, 4, none⟩ = some (.bool c.wa) := by rw [pr_cells hg]; rfl
  have fg := pr_free hg 4
  have HC : Hid (CP g { c with wa := on } w (w.setCell ⟨g, 4, none⟩ (.bool on))) := cp_set (unhide HG) 4 _ _ rfl
  clear hg HG
  go_enter Try.func49, Try.ntmps49
  go_wp2
  go_end0
  exact ⟨rfl, unhide HC⟩
set_option maxRecDepth 100000 in
set_option maxHeartbeats 1000000 in
theorem setWants_yes (p g B b : Nat) (on : Bool) (room tmo : Int) (P : Nat → Option Nat) (C : Nat → Pr) (Bn : Nat → Bool) (w : World) (h : Tb B w b room tmo P C Bn) (hp : 1 ≤ p ∧ p ≤ 15) (hP : P p = some g) :
    Calls Try.prog 26 #[.pointer (some ⟨b, 0, none⟩), .int .i64 p, .bool on] w fun e w' => e = .returned (.int .i64 0) ∧ Tb B w' b room tmo P (tup C p { C p with wa := on }) Bn ∧ KT b P w w' := by
  have hp16 : p < 16 := by omega
  have b1 := (Below.refl w.heap.size w).alloc (Nat.le_refl _) (.cells #[.bool on] 4)
  have t1 := h.up b1
  have hc := setWants_clo g w.heap.size (C p) on (w.alloc (.cells #[.bool on] 4)) (t1.tb.pe p g hp16 hP) (by rw [cell_of_row _ _ _ _ _ _ (heap_alloc_new w _)]; rfl)
  have hw := hide (with_yes p g 49 (cf_of Try.func49 (by kernel_rfl) (by kernel_rfl)) (.pointer (some ⟨w.heap.size, 0, none⟩)) _ b room tmo P C Bn _ t1.tb hp hP hc)
  have hput : Hid (∀ w2, CP g { C p with wa := on } (w.alloc (.cells #[.bool on] 4)) w2 → Tb B w2 b room tmo P (tup C p { C p with wa := on }) Bn ∧ KT b P w w2) := fun w2 k => h.put b1 hp16 hP (h.nd p g hp16 hP) ⟨(h.bd p).se, (h.bd p).nw⟩ k
  clear h hP b1 t1 hc
  go_enter Try.func26, Try.ntmps26
  go_wp2_with fail
  refine (unhide hw).mono ?_
  rintro e w2 ⟨rfl, hR⟩
  have HR := hide (unhide hput w2 hR)
  clear hR
  go_wp2
  go_ret
  exact ⟨rfl, unhide HR⟩
set_option maxRecDepth 100000 in
set_option maxHeartbeats 1000000 in
theorem setWants_no (i : Int) (b : Nat) (on : Bool) (room tmo : Int) (P : Nat → Option Nat) (C : Nat → Pr) (Bn : Nat → Bool) (w : World) (h : TbAt w b room tmo P C Bn) (hN : NoP P i) :
    Calls Try.prog 26 #[.pointer (some ⟨b, 0, none⟩), .int .i64 i, .bool on] w fun e w' => e = .returned (.int .i64 4) ∧ Below w.heap.size w w' := by
  have b1 := (Below.refl w.heap.size w).alloc (Nat.le_refl _) (.cells #[.bool on] 4)
  have hw := hide (fun f => with_no i f b room tmo P C Bn _ (h.up b1) hN)
  have HB := hide b1
  clear h hN b1
  go_enter Try.func26, Try.ntmps26
  go_wp2_with fail
  refine (unhide hw _).mono ?_
  rintro e w2 ⟨rfl, rfl⟩
  go_wp2
  go_ret
  exact ⟨rfl, unhide HB⟩
set_option maxRecDepth 100000 in
set_option maxHeartbeats 1000000 in
theorem setOpen_clo (g x : Nat) (c : Pr) (on : Bool) (w : World) (hg : w.heap[g]? = some (.cells c.cl.toArray 46 (0, 0))) (hx : w.cell? ⟨x, 0, none⟩ = some (.bool on)) :
    Calls Try.prog 50 #[.pointer (some ⟨g, 0, none⟩), .pointer (some ⟨x, 0, none⟩)] w fun e w' => e = .returned (.tuple #[]) ∧ CP g { c with op := on } w w' := by
  have HG := hide hg
  have cg : w.cell? ⟨g, 5, none⟩ = some (.bool c.op) := by rw [pr_cells hg]; rfl
  have fg := pr_free hg 5
  have HC : Hid (CP g { c with op := on } w (w.setCell ⟨g, 5, none⟩ (.bool on))) := cp_set (unhide HG) 5 _ _ rfl
  clear hg HG
  go_enter Try.func50, Try.ntmps50
  go_wp2
  go_end0
  exact ⟨rfl, unhide HC⟩
set_option maxRecDepth 100000 in
set_option maxHeartbeats 1000000 in
theorem setOpen_yes (p g B b : Nat) (on : Bool) (room tmo : Int) (P : Nat → Option Nat) (C : Nat → Pr) (Bn : Nat → Bool) (w : World) (h : Tb B w b room tmo P C Bn) (hp : 1 ≤ p ∧ p ≤ 15) (hP : P p = some g) :
    Calls Try.prog 27 #[.pointer (some ⟨b, 0, none⟩), .int .i64 p, .bool on] w fun e w' => e = .returned (.int .i64 0) ∧ Tb B w' b room tmo P (tup C p { C p with op := on }) Bn ∧ KT b P w w' := by
  have hp16 : p < 16 := by omega
  have b1 := (Below.refl w.heap.size w).alloc (Nat.le_refl _) (.cells #[.bool on] 4)
  have t1 := h.up b1
  have hc := setOpen_clo g w.heap.size (C p) on (w.alloc (.cells #[.bool on] 4)) (t1.tb.pe p g hp16 hP) (by rw [cell_of_row _ _ _ _ _ _ (heap_alloc_new w _)]; rfl)
  have hw := hide (with_yes p g 50 (cf_of Try.func50 (by kernel_rfl) (by kernel_rfl)) (.pointer (some ⟨w.heap.size, 0, none⟩)) _ b room tmo P C Bn _ t1.tb hp hP hc)
  have hput : Hid (∀ w2, CP g { C p with op := on } (w.alloc (.cells #[.bool on] 4)) w2 → Tb B w2 b room tmo P (tup C p { C p with op := on }) Bn ∧ KT b P w w2) := fun w2 k => h.put b1 hp16 hP (h.nd p g hp16 hP) ⟨(h.bd p).se, (h.bd p).nw⟩ k
  clear h hP b1 t1 hc
  go_enter Try.func27, Try.ntmps27
  go_wp2_with fail
  refine (unhide hw).mono ?_
  rintro e w2 ⟨rfl, hR⟩
  have HR := hide (unhide hput w2 hR)
  clear hR
  go_wp2
  go_ret
  exact ⟨rfl, unhide HR⟩
set_option maxRecDepth 100000 in
set_option maxHeartbeats 1000000 in
theorem setOpen_no (i : Int) (b : Nat) (on : Bool) (room tmo : Int) (P : Nat → Option Nat) (C : Nat → Pr) (Bn : Nat → Bool) (w : World) (h : TbAt w b room tmo P C Bn) (hN : NoP P i) :
    Calls Try.prog 27 #[.pointer (some ⟨b, 0, none⟩), .int .i64 i, .bool on] w fun e w' => e = .returned (.int .i64 4) ∧ Below w.heap.size w w' := by
  have b1 := (Below.refl w.heap.size w).alloc (Nat.le_refl _) (.cells #[.bool on] 4)
  have hw := hide (fun f => with_no i f b room tmo P C Bn _ (h.up b1) hN)
  have HB := hide b1
  clear h hN b1
  go_enter Try.func27, Try.ntmps27
  go_wp2_with fail
  refine (unhide hw _).mono ?_
  rintro e w2 ⟨rfl, rfl⟩
  go_wp2
  go_ret
  exact ⟨rfl, unhide HB⟩
set_option maxRecDepth 100000 in
set_option maxHeartbeats 1000000 in
theorem setOpens_clo (g x : Nat) (c : Pr) (on : Bool) (w : World) (hg : w.heap[g]? = some (.cells c.cl.toArray 46 (0, 0))) (hx : w.cell? ⟨x, 0, none⟩ = some (.bool on)) :
    Calls Try.prog 51 #[.pointer (some ⟨g, 0, none⟩), .pointer (some ⟨x, 0, none⟩)] w fun e w' => e = .returned (.tuple #[]) ∧ CP g { c with os := on } w w' := by
  have HG := hide hg
  have cg : w.cell? ⟨g, 6, none⟩ = some (.bool c.os) := by rw [pr_cells hg]; rfl
  have fg := pr_free hg 6
  have HC : Hid (CP g { c with os := on } w (w.setCell ⟨g, 6, none⟩ (.bool on))) := cp_set (unhide HG) 6 _ _ rfl
  clear hg HG
  go_enter Try.func51, Try.ntmps51
  go_wp2
  go_end0
  exact ⟨rfl, unhide HC⟩
set_option maxRecDepth 100000 in
set_option maxHeartbeats 1000000 in
theorem setOpens_yes (p g B b : Nat) (on : Bool) (room tmo : Int) (P : Nat → Option Nat) (C : Nat → Pr) (Bn : Nat → Bool) (w : World) (h : Tb B w b room tmo P C Bn) (hp : 1 ≤ p ∧ p ≤ 15) (hP : P p = some g) :
    Calls Try.prog 28 #[.pointer (some ⟨b, 0, none⟩), .int .i64 p, .bool on] w fun e w' => e = .returned (.int .i64 0) ∧ Tb B w' b room tmo P (tup C p { C p with os := on }) Bn ∧ KT b P w w' := by
  have hp16 : p < 16 := by omega
  have b1 := (Below.refl w.heap.size w).alloc (Nat.le_refl _) (.cells #[.bool on] 4)
  have t1 := h.up b1
  have hc := setOpens_clo g w.heap.size (C p) on (w.alloc (.cells #[.bool on] 4)) (t1.tb.pe p g hp16 hP) (by rw [cell_of_row _ _ _ _ _ _ (heap_alloc_new w _)]; rfl)
  have hw := hide (with_yes p g 51 (cf_of Try.func51 (by kernel_rfl) (by kernel_rfl)) (.pointer (some ⟨w.heap.size, 0, none⟩)) _ b room tmo P C Bn _ t1.tb hp hP hc)
  have hput : Hid (∀ w2, CP g { C p with os := on } (w.alloc (.cells #[.bool on] 4)) w2 → Tb B w2 b room tmo P (tup C p { C p with os := on }) Bn ∧ KT b P w w2) := fun w2 k => h.put b1 hp16 hP (h.nd p g hp16 hP) ⟨(h.bd p).se, (h.bd p).nw⟩ k
  clear h hP b1 t1 hc
  go_enter Try.func28, Try.ntmps28
  go_wp2_with fail
  refine (unhide hw).mono ?_
  rintro e w2 ⟨rfl, hR⟩
  have HR := hide (unhide hput w2 hR)
  clear hR
  go_wp2
  go_ret
  exact ⟨rfl, unhide HR⟩
set_option maxRecDepth 100000 in
set_option maxHeartbeats 1000000 in
theorem setOpens_no (i : Int) (b : Nat) (on : Bool) (room tmo : Int) (P : Nat → Option Nat) (C : Nat → Pr) (Bn : Nat → Bool) (w : World) (h : TbAt w b room tmo P C Bn) (hN : NoP P i) :
    Calls Try.prog 28 #[.pointer (some ⟨b, 0, none⟩), .int .i64 i, .bool on] w fun e w' => e = .returned (.int .i64 4) ∧ Below w.heap.size w w' := by
  have b1 := (Below.refl w.heap.size w).alloc (Nat.le_refl _) (.cells #[.bool on] 4)
  have hw := hide (fun f => with_no i f b room tmo P C Bn _ (h.up b1) hN)
  have HB := hide b1
  clear h hN b1
  go_enter Try.func28, Try.ntmps28
  go_wp2_with fail
  refine (unhide hw _).mono ?_
  rintro e w2 ⟨rfl, rfl⟩
  go_wp2
  go_ret
  exact ⟨rfl, unhide HB⟩
end Go.Proofs.Ytbfakbooenmhoaa

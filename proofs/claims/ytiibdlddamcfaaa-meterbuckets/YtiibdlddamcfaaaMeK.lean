/- meter: the document's bucket. -/
import Derived.Test.YtiibdlddamcfaaaMeM
import Derived.Test.YtiibdlddamcfaaaFill
namespace Go.Proofs.Ytiibdlddamcfaaa
open Go.RowKit
set_option linter.unusedVariables false
attribute [local go_sem] Oper.semAt_some

abbrev dbV (r s l : Int) : Value := .agg #[.int .i64 r, .int .i64 s, .int .i64 l]
/-- block b is the document's bucket -/
def Db (w : World) (b : Nat) (r s l : Int) : Prop := w.heap[b]? = some (.cells #[.int .i64 r, .int .i64 s, .int .i64 l] 27 (0, 0))
theorem Db.c0 {w : World} {b : Nat} {r s l : Int} (h : Db w b r s l) : w.cell? ⟨b, 0, none⟩ = some (.int .i64 r) := by unfold Db at h; simp [World.cell?, h]
theorem Db.c1 {w : World} {b : Nat} {r s l : Int} (h : Db w b r s l) : w.cell? ⟨b, 1, none⟩ = some (.int .i64 s) := by unfold Db at h; simp [World.cell?, h]
theorem Db.c2 {w : World} {b : Nat} {r s l : Int} (h : Db w b r s l) : w.cell? ⟨b, 2, none⟩ = some (.int .i64 l) := by unfold Db at h; simp [World.cell?, h]
theorem Db.free {w : World} {b : Nat} {r s l : Int} (h : Db w b r s l) (j : Nat) : w.frozen? ⟨b, j, none⟩ = false := by unfold Db at h; simp [World.frozen?, h]
theorem Db.lt {w : World} {b : Nat} {r s l : Int} (h : Db w b r s l) : b < w.heap.size := lt_of_block h
theorem Db.up {w w' : World} {b : Nat} {r s l : Int} (h : Db w b r s l) (hb : Below w.heap.size w w') : Db w' b r s l := (hb.block b h.lt).trans h
theorem Db.kept {w w' : World} {b b' : Nat} {r s l : Int} (h : Db w b r s l) (hb : Kept w.heap.size b' w w') (hn : b ≠ b') : Db w' b r s l := (hb.block b h.lt hn).trans h
theorem ret_row {fn : Func} {p : Tmp} {ty : TypeId} {a : Act} {w : World} {R : Ending → World → Prop} (h : fn.results = #[.cell p ty]) (g : Nat) (t : TypeId) (cs : Array Value) (fr : Nat × Nat) (fs : Array Field)
    (hp : a.tmps.getD p undef = .pointer (some ⟨g, 0, none⟩)) (hg : w.heap[g]? = some (.cells cs t fr)) (hdf : a.defers = [])
    (hu : Try.prog.underlying ty = some (.struct fs)) (hi : (Try.prog.info? ty).map (·.size) = some cs.size) (hR : R (.returned (.agg cs)) w) :
    bodyPost Try.prog fn R .ret a w := bodyPost_ret (results_cell_row h _ w g t cs fr _ hp hg hu rfl hi) hdf hR
theorem results_row2 {P : Program} {fn : Func} {p q : Tmp} {ty : TypeId} (h : fn.results = #[.cell p ty, .tmp q]) (tmps : Array Value) (w : World) (g : Nat) (t : TypeId) (cs : Array Value) (fr : Nat × Nat) (fs : Array Field)
    (hp : tmps.getD p undef = .pointer (some ⟨g, 0, none⟩)) (hg : w.heap[g]? = some (.cells cs t fr)) (hu : P.underlying ty = some (.struct fs)) (hi : (P.info? ty).map (·.size) = some cs.size) :
    (results fn tmps).run P w = .ok (.tuple #[.agg cs, tmps.getD q undef]) w := by
  have hp' : tmps[p]?.getD undef = .pointer (some ⟨g, 0, none⟩) := by simpa using hp
  simp [results, h, hp', asAddr, run_loadVar_row w g t ty cs fr _ hg hu rfl hi]
theorem ret_row2 {fn : Func} {p q : Tmp} {ty : TypeId} {a : Act} {w : World} {R : Ending → World → Prop} (h : fn.results = #[.cell p ty, .tmp q]) (g : Nat) (t : TypeId) (cs : Array Value) (fr : Nat × Nat) (z : Value) (fs : Array Field)
    (hp : a.tmps.getD p undef = .pointer (some ⟨g, 0, none⟩)) (hz : a.tmps.getD q undef = z) (hg : w.heap[g]? = some (.cells cs t fr)) (hdf : a.defers = []) (hu : Try.prog.underlying ty = some (.struct fs)) (hi : (Try.prog.info? ty).map (·.size) = some cs.size)
    (hR : R (.returned (.tuple #[.agg cs, z])) w) : bodyPost Try.prog fn R .ret a w := by
  refine bodyPost_ret (results_row2 h _ w g t cs fr fs hp hg hu hi) hdf ?_
  rw [hz]
  exact hR
theorem alloc2_new (w : World) (o1 o2 : Obj) : ((w.alloc o1).alloc o2).heap[w.heap.size + 1]? = some o2 := by
  have := heap_alloc_new (w.alloc o1) o2
  simpa using this
theorem bel2 (w : World) (o1 o2 : Obj) : Below w.heap.size w ((w.alloc o1).alloc o2) := ((Below.refl _ _).alloc (Nat.le_refl _) _).alloc (by simp) _

set_option maxRecDepth 100000 in
set_option maxHeartbeats 1000000 in
theorem dtick_any (r s l : Int) (w : World) (hr : 0 ≤ r ∧ r ≤ 65536) (hs : 0 ≤ s ∧ s ≤ 65536) (hl : 0 ≤ l ∧ l ≤ 65536) :
    Calls Try.prog 12 #[dbV r s l] w fun e w' => e = .returned (dbV r s (tickL r s l)) ∧ Below w.heap.size w w' := by
  unfold tickL
  by_cases q : s < l + r
  · have q2 : min (l + r) s = s := by omega
    rw [q2]
    go_enter Try.func12, Try.ntmps12
    go_wp2
    exact ret_row (p := 2) (ty := 27) (by kernel_rfl) (w.heap.size + 1) 27 _ (0, 0) _ rfl (alloc2_new _ _ _) rfl Try.underlying27 (by kernel_rfl) ⟨rfl, bel2 _ _ _⟩
  · have q2 : min (l + r) s = l + r := by omega
    rw [q2]
    go_enter Try.func12, Try.ntmps12
    go_wp2
    exact ret_row (p := 2) (ty := 27) (by kernel_rfl) (w.heap.size + 1) 27 _ (0, 0) _ rfl (alloc2_new _ _ _) rfl Try.underlying27 (by kernel_rfl) ⟨rfl, bel2 _ _ _⟩
set_option maxRecDepth 100000 in
set_option maxHeartbeats 1000000 in
theorem dtake_any (r s l n : Int) (w : World) (hs : 0 ≤ s ∧ s ≤ 65536) (hl : 0 ≤ l ∧ l ≤ 65536) :
    Calls Try.prog 13 #[dbV r s l, .int .i64 n] w fun e w' => e = .returned (.tuple #[dbV r s (takeL s l n), .int .i64 (takeE s l n)]) ∧ Below w.heap.size w w' := by
  unfold takeL takeE
  by_cases q0 : n < 0
  · rw [if_pos q0, if_neg (by decide)]
    go_enter Try.func13, Try.ntmps13
    go_wp2
    exact ret_row2 (p := 4) (q := 5) (ty := 27) (by kernel_rfl) (w.heap.size + 1) 27 _ (0, 0) _ _ rfl rfl (alloc2_new _ _ _) rfl Try.underlying27 (by kernel_rfl) ⟨rfl, bel2 _ _ _⟩
  · rw [if_neg q0]
    by_cases q1 : s < n
    · rw [if_pos q1, if_neg (by decide)]
      go_enter Try.func13, Try.ntmps13
      go_wp2
      exact ret_row2 (p := 4) (q := 5) (ty := 27) (by kernel_rfl) (w.heap.size + 1) 27 _ (0, 0) _ _ rfl rfl (alloc2_new _ _ _) rfl Try.underlying27 (by kernel_rfl) ⟨rfl, bel2 _ _ _⟩
    · rw [if_neg q1]
      by_cases q2 : l < n
      · rw [if_pos q2, if_neg (by decide)]
        go_enter Try.func13, Try.ntmps13
        go_wp2
        exact ret_row2 (p := 4) (q := 5) (ty := 27) (by kernel_rfl) (w.heap.size + 1) 27 _ (0, 0) _ _ rfl rfl (alloc2_new _ _ _) rfl Try.underlying27 (by kernel_rfl) ⟨rfl, bel2 _ _ _⟩
      · rw [if_neg q2, if_pos rfl]
        go_enter Try.func13, Try.ntmps13
        go_wp2
        exact ret_row2 (p := 4) (q := 5) (ty := 27) (by kernel_rfl) (w.heap.size + 1) 27 _ (0, 0) _ _ rfl rfl (alloc2_new _ _ _) rfl Try.underlying27 (by kernel_rfl) ⟨rfl, bel2 _ _ _⟩
theorem Db.set3 {w : World} {b : Nat} {r s l : Int} (h : Db w b r s l) (x y z : Int) : Db (((w.setCell ⟨b, 0, none⟩ (.int .i64 x)).setCell ⟨b, 1, none⟩ (.int .i64 y)).setCell ⟨b, 2, none⟩ (.int .i64 z)) b x y z := by
  have h0 := heap_setCell_same w b 0 _ _ (.int .i64 x) h
  have h1 := heap_setCell_same _ b 1 _ _ (.int .i64 y) h0
  exact heap_setCell_same _ b 2 _ _ (.int .i64 z) h1
set_option maxRecDepth 100000 in
set_option maxHeartbeats 2000000 in
theorem dwait_any (r s l n : Int) (w : World) (hr : 1 ≤ r ∧ r ≤ 65536) (hs : 0 ≤ s ∧ s ≤ 65536) (hl : 0 ≤ l ∧ l ≤ s) (hn : ¬ s < n) :
    Calls Try.prog 16 #[dbV r s l, .int .i64 n] w fun e w' => e = .returned (.int .i64 (waitN r s l n)) ∧ Below w.heap.size w w' := by
  have hw0 : 0 ≤ waitN r s l n := by
    by_cases h2 : n ≤ l
    · unfold waitN; rw [if_neg hn, if_pos h2]; omega
    · exact (wait_parts hr.1 hn h2).2.2
  have hw1 : waitN r s l n ≤ 200000 := by
    by_cases h2 : n ≤ l
    · unfold waitN; rw [if_neg hn, if_pos h2]; omega
    · unfold waitN
      rw [if_neg hn, if_neg h2]
      exact Int.le_trans (Int.tdiv_le_self r (by omega)) (by omega)
  obtain ⟨K, hK⟩ := Int.eq_ofNat_of_zero_le hw0
  have HK := hide hK
  rw [hK]
  rw [hK] at hw1
  clear hw0 hK
  have g10 : Hid (∀ j x, Calls Try.prog 12 #[dbV r s (lv r s l j)] x fun e w' => e = .returned (dbV r s (lv r s l (j + 1))) ∧ Below x.heap.size x w') := by
    intro j x
    have hin := lv_in (r := r) (s := s) (L := l) (by omega) hl j
    have := dtick_any r s (lv r s l j) x (by omega) hs (by omega)
    rw [lv_succ (by omega)] at this
    exact this
  have H0 : Hid (Db (w.alloc (.cells #[.int .i64 r, .int .i64 s, .int .i64 l] 27)) w.heap.size r s (lv r s l 0)) := by
    rw [lv_zero hl.2]
    exact heap_alloc_new w _
  have B0 := hide ((Below.refl w.heap.size w).alloc (Nat.le_refl _) (.cells #[.int .i64 r, .int .i64 s, .int .i64 l] 27))
  go_enter Try.func16, Try.ntmps16
  go_wp2_with fail
  go_loopw [5] (fun jv wr => ∃ j : Nat, j ≤ K ∧ jv = .int .i64 j ∧ Db wr w.heap.size r s (lv r s l j) ∧ Below w.heap.size w wr) (fun jv _ => K - (intOf jv).toNat)
  case atStart => exact ⟨0, by omega, rfl, unhide H0, unhide B0⟩
  case round =>
    obtain ⟨j, hj, rfl, hd, hb⟩ := hrel
    have c0 := hd.c0
    have c1 := hd.c1
    have c2 := hd.c2
    have HD := hide hd
    have HB := hide hb
    have hin := lv_in (r := r) (s := s) (L := l) (by omega) hl j
    clear hd hb H0 B0
    by_cases hjk : j < K
    · have hlt : lv r s l j < n := wait_lt hr.1 (by omega) (by rw [unhide HK]; omega)
      have g11 := hide (unhide g10 j wr)
      generalize lv r s l j = lj at *
      have H2 : Hid (∀ x, Below wr.heap.size wr x → Db (((x.setCell ⟨w.heap.size, 0, none⟩ (.int .i64 r)).setCell ⟨w.heap.size, 1, none⟩ (.int .i64 s)).setCell ⟨w.heap.size, 2, none⟩ (.int .i64 (lv r s l (j + 1)))) w.heap.size r s (lv r s l (j + 1))) := fun x hx => ((unhide HD).up hx).set3 _ _ _
      have hin2 := lv_in (r := r) (s := s) (L := l) (by omega) hl (j + 1)
      generalize hl1 : lv r s l (j + 1) = lj1 at *
      have HL1 := hide hl1
      clear hl1
      go_wp2_with fail
      refine (unhide g11).mono ?_
      rintro e w2 ⟨rfl, b2⟩
      have d := (unhide HD).up b2
      have e0 := d.c0
      have e1 := d.c1
      have e2 := d.c2
      have f0 := d.free 0
      have f1 := d.free 1
      have f2 := d.free 2
      have H3 := hide (unhide H2 w2 b2)
      have HB2 := hide ((unhide HB).trans (b2.mono (unhide HB).size))
      clear d b2 c0 c1 c2 g11 H2 HD
      go_wp2
      go_roundw
      case rel => exact ⟨j + 1, by omega, by go_num, by rw [unhide HL1]; exact unhide H3, (((unhide HB2).setCell (Nat.le_refl _) _).setCell (Nat.le_refl _) _).setCell (Nat.le_refl _) _⟩
      case measure => simp [intOf]; omega
    · have hjK : j = K := by omega
      have hge : n ≤ lv r s l j := wait_ge hr.1 hl.2 (by omega) (by rw [hjK, unhide HK])
      have q : ¬ lv r s l j < n := by omega
      generalize lv r s l j = lj at *
      subst hjK
      clear g10
      go_wp2
      go_ret
      exact ⟨rfl, unhide HB⟩
set_option maxRecDepth 100000 in
set_option maxHeartbeats 1000000 in
theorem dwait_over (r s l n : Int) (w : World) (hn : s < n) :
    Calls Try.prog 16 #[dbV r s l, .int .i64 n] w fun e w' => e = .returned (.int .i64 (-1)) ∧ Below w.heap.size w w' := by
  go_enter Try.func16, Try.ntmps16
  go_wp2
  go_ret
  exact ⟨rfl, (Below.refl _ _).alloc (Nat.le_refl _) _⟩
end Go.Proofs.Ytiibdlddamcfaaa

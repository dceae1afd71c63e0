/- peers: Get of a nil table, and PeersNil. -/
import Derived.Test.YtbklkihcdkcagaaQaE
namespace Go.Proofs.Ytbklkihcdkcagaa
open Go.RowKit
set_option linter.unusedVariables false
attribute [local go_sem] Oper.semAt_some

abbrev zPr : Value := .agg #[.int .i64 0, .int .i64 0, .int .i64 0, .string ⟨#[]⟩, .bool false, .bool false, .bool false, .int .i64 0, .int .i64 0, .int .i64 0]
theorem results_row2 {P : Program} {fn : Func} {p q : Tmp} {ty : TypeId} (h : fn.results = #[.cell p ty, .tmp q]) (tmps : Array Value) (w : World) (g : Nat) (t : TypeId) (cs : Array Value) (fr : Nat × Nat) (fs : Array Field)
    (hp : tmps.getD p undef = .pointer (some ⟨g, 0, none⟩)) (hg : w.heap[g]? = some (.cells cs t fr)) (hu : P.underlying ty = some (.struct fs)) (hi : (P.info? ty).map (·.size) = some cs.size) :
    (results fn tmps).run P w = .ok (.tuple #[.agg cs, tmps.getD q undef]) w := by
  have hp' : tmps[p]?.getD undef = .pointer (some ⟨g, 0, none⟩) := by simpa using hp
  simp [results, h, hp', asAddr, run_loadVar_row w g t ty cs fr _ hg hu rfl hi]
theorem ret_row2 {fn : Func} {p q : Tmp} {ty : TypeId} {a : Act} {w : World} {R : Ending → World → Prop} (h : fn.results = #[.cell p ty, .tmp q]) (g : Nat) (t : TypeId) (cs : Array Value) (fr : Nat × Nat) (z : Value) (fs : Array Field)
    (hp : a.tmps.getD p undef = .pointer (some ⟨g, 0, none⟩)) (hz : a.tmps.getD q undef = z) (hg : w.heap[g]? = some (.cells cs t fr)) (hdf : a.defers = []) (hu : Try.prog.underlying ty = some (.struct fs)) (hi : (Try.prog.info? ty).map (·.size) = some cs.size)
    (hR : R (.returned (.tuple #[.agg cs, z])) w) : bodyPost Try.prog fn R .ret a w := by
  refine bodyPost_ret (results_row2 h _ w g t cs fr fs hp hg hu hi) hdf ?_
  rw [hz]
  exact hR
set_option maxRecDepth 100000 in
set_option maxHeartbeats 2000000 in
theorem get_nil (n : Int) (w : World) : Calls Try.prog 16 #[.pointer none, .int .i64 n] w fun e w' => e = .returned (.tuple #[zPr, .bool false]) ∧ Below w.heap.size w w' := by
  go_enter Try.func16, Try.ntmps16
  go_wp2_with fail
  refine (with_nil n _ _).mono ?_
  rintro e w1 ⟨rfl, rfl⟩
  go_wp2
  exact ret_row2 (p := 4) (q := 5) (ty := 46) (by kernel_rfl) w.heap.size 46 #[.int .i64 0, .int .i64 0, .int .i64 0, .string ⟨#[]⟩, .bool false, .bool false, .bool false, .int .i64 0, .int .i64 0, .int .i64 0] (0, 0) _ _ rfl rfl (by first | (rw [Below.heap_alloc _ _ _ (by simp)]; exact heap_alloc_new w _) | simp [heap_alloc_new]) rfl Try.underlying46 (by kernel_rfl) ⟨rfl, ((Below.refl _ _).alloc (Nat.le_refl _) _).alloc (by simp) _⟩
theorem seven_cells {w : World} {b : Nat} {c0 c1 c2 c3 c4 c5 c6 : Value} {t : TypeId} (h : w.heap[b]? = some (.cells #[c0, c1, c2, c3, c4, c5, c6] t (0, 0))) : w.cell? ⟨b, 0, none⟩ = some c0 ∧ w.cell? ⟨b, 1, none⟩ = some c1 ∧ w.cell? ⟨b, 2, none⟩ = some c2 ∧ w.cell? ⟨b, 3, none⟩ = some c3 ∧ w.cell? ⟨b, 4, none⟩ = some c4 ∧ w.cell? ⟨b, 5, none⟩ = some c5 ∧ w.cell? ⟨b, 6, none⟩ = some c6 := by simp [World.cell?, h]
set_option maxRecDepth 100000 in
set_option maxHeartbeats 8000000 in
theorem peersNil_any (kd nd n x y : Int) (s : ByteArray) (on : Bool) (w : World) :
    Calls Try.prog 7 #[.agg #[.int .i64 kd, .int .i64 nd, .int .i64 n, .int .i64 x, .int .i64 y, .string s, .bool on]] w fun e w' => e = .returned (.bool true) ∧ Below w.heap.size w w' := by
  have B0 := hide ((Below.refl w.heap.size w).alloc (Nat.le_refl _) (.cells #[.int .i64 kd, .int .i64 nd, .int .i64 n, .int .i64 x, .int .i64 y, .string s, .bool on] 33))
  have HC := hide (heap_alloc_new w (.cells #[.int .i64 kd, .int .i64 nd, .int .i64 n, .int .i64 x, .int .i64 y, .string s, .bool on] 33))
  by_cases hs : (100 : Int) < s.size
  · go_enter Try.func7, Try.ntmps7
    go_wp2_with fail
    refine (pawake_any _).mono ?_
    rintro e w1 ⟨rfl, b1⟩
    have B1 := hide ((unhide B0).trans (b1.mono (unhide B0).size))
    clear b1
    go_wp2
    go_ret
    exact ⟨rfl, unhide B1⟩
  · go_enter Try.func7, Try.ntmps7
    go_wp2_with fail
    refine (roll_nil _).mono ?_
    rintro e w1 ⟨rfl, rfl⟩
    generalize w.alloc (.cells #[.int .i64 kd, .int .i64 nd, .int .i64 n, .int .i64 x, .int .i64 y, .string s, .bool on] 33) = W at *
    obtain ⟨c0, c1, c2, c3, c4, c5, c6⟩ := seven_cells (unhide HC)
    go_wp2_with fail
    refine (get_nil nd W).mono ?_
    rintro e w1 ⟨rfl, b1⟩
    have HC1 := hide ((b1.block _ (lt_of_block (unhide HC))).trans (unhide HC))
    have B1 := hide ((unhide B0).trans (b1.mono (unhide B0).size))
    have hl1 := lt_of_block (unhide HC1)
    clear c0 c1 c2 c3 c4 c5 c6 b1 HC B0
    obtain ⟨c0, c1, c2, c3, c4, c5, c6⟩ := seven_cells (unhide HC1)
    go_wp2_with fail
    have HC2 := hide ((Below.heap_alloc w1 (.cells #[.int .i64 0, .int .i64 0, .int .i64 0, .string ⟨#[]⟩, .bool false, .bool false, .bool false, .int .i64 0, .int .i64 0, .int .i64 0] 46) _ hl1).trans (unhide HC1))
    have B2 := hide ((unhide B1).alloc (unhide B1).size (.cells #[.int .i64 0, .int .i64 0, .int .i64 0, .string ⟨#[]⟩, .bool false, .bool false, .bool false, .int .i64 0, .int .i64 0, .int .i64 0] 46))
    generalize w1.alloc (.cells #[.int .i64 0, .int .i64 0, .int .i64 0, .string ⟨#[]⟩, .bool false, .bool false, .bool false, .int .i64 0, .int .i64 0, .int .i64 0] 46) = w2 at *
    clear c0 c1 c2 c3 c4 c5 c6 HC1 B1 hl1
    refine (meet_nil nd x y n w2).mono ?_
    rintro e w3 ⟨rfl, b3⟩
    have HC3 := hide ((b3.block _ (lt_of_block (unhide HC2))).trans (unhide HC2))
    have B3 := hide ((unhide B2).trans (b3.mono (unhide B2).size))
    clear b3 HC2 B2
    obtain ⟨c0, c1, c2, c3, c4, c5, c6⟩ := seven_cells (unhide HC3)
    go_wp2_with fail
    refine (hear_nil nd n w3).mono ?_
    rintro e w4 ⟨rfl, b4⟩
    have HC4 := hide ((b4.block _ (lt_of_block (unhide HC3))).trans (unhide HC3))
    have B4 := hide ((unhide B3).trans (b4.mono (unhide B3).size))
    clear b4 HC3 B3 c0 c1 c2 c3 c4 c5 c6
    obtain ⟨c0, c1, c2, c3, c4, c5, c6⟩ := seven_cells (unhide HC4)
    go_wp2_with fail
    refine (leave_nil nd w4).mono ?_
    rintro e w5 ⟨rfl, b5⟩
    have HC5 := hide ((b5.block _ (lt_of_block (unhide HC4))).trans (unhide HC4))
    have B5 := hide ((unhide B4).trans (b5.mono (unhide B4).size))
    clear b5 HC4 B4 c0 c1 c2 c3 c4 c5 c6
    obtain ⟨c0, c1, c2, c3, c4, c5, c6⟩ := seven_cells (unhide HC5)
    go_wp2_with fail
    refine (ban_nil nd w5).mono ?_
    rintro e wz ⟨rfl, rfl⟩
    go_wp2_with fail
    refine (setHave_nil nd s w5).mono ?_
    rintro e w6 ⟨rfl, b6⟩
    have HC6 := hide ((b6.block _ (lt_of_block (unhide HC5))).trans (unhide HC5))
    have B6 := hide ((unhide B5).trans (b6.mono (unhide B5).size))
    clear b6 HC5 B5 c0 c1 c2 c3 c4 c5 c6
    obtain ⟨c0, c1, c2, c3, c4, c5, c6⟩ := seven_cells (unhide HC6)
    go_wp2_with fail
    refine (setWants_nil nd on w6).mono ?_
    rintro e w7 ⟨rfl, b7⟩
    have HC7 := hide ((b7.block _ (lt_of_block (unhide HC6))).trans (unhide HC6))
    have B7 := hide ((unhide B6).trans (b7.mono (unhide B6).size))
    clear b7 HC6 B6 c0 c1 c2 c3 c4 c5 c6
    obtain ⟨c0, c1, c2, c3, c4, c5, c6⟩ := seven_cells (unhide HC7)
    go_wp2_with fail
    refine (setOpen_nil nd on w7).mono ?_
    rintro e w8 ⟨rfl, b8⟩
    have HC8 := hide ((b8.block _ (lt_of_block (unhide HC7))).trans (unhide HC7))
    have B8 := hide ((unhide B7).trans (b8.mono (unhide B7).size))
    clear b8 HC7 B7 c0 c1 c2 c3 c4 c5 c6
    obtain ⟨c0, c1, c2, c3, c4, c5, c6⟩ := seven_cells (unhide HC8)
    go_wp2_with fail
    refine (setOpens_nil nd on w8).mono ?_
    rintro e w9 ⟨rfl, b9⟩
    have HC9 := hide ((b9.block _ (lt_of_block (unhide HC8))).trans (unhide HC8))
    have B9 := hide ((unhide B8).trans (b9.mono (unhide B8).size))
    clear b9 HC8 B8 c0 c1 c2 c3 c4 c5 c6
    obtain ⟨c0, c1, c2, c3, c4, c5, c6⟩ := seven_cells (unhide HC9)
    go_wp2_with fail
    refine (count_nil nd n w9).mono ?_
    rintro e w10 ⟨rfl, b10⟩
    have HC10 := hide ((b10.block _ (lt_of_block (unhide HC9))).trans (unhide HC9))
    have B10 := hide ((unhide B9).trans (b10.mono (unhide B9).size))
    clear b10 HC9 B9 c0 c1 c2 c3 c4 c5 c6
    obtain ⟨c0, c1, c2, c3, c4, c5, c6⟩ := seven_cells (unhide HC10)
    go_wp2_with fail
    refine (pawake_any w10).mono ?_
    rintro e w11 ⟨rfl, b11⟩
    have HC11 := hide ((b11.block _ (lt_of_block (unhide HC10))).trans (unhide HC10))
    have B11 := hide ((unhide B10).trans (b11.mono (unhide B10).size))
    clear b11 HC10 B10 c0 c1 c2 c3 c4 c5 c6
    obtain ⟨c0, c1, c2, c3, c4, c5, c6⟩ := seven_cells (unhide HC11)
    go_wp2_with fail
    refine (expire_nil n w11).mono ?_
    rintro e wz ⟨rfl, rfl⟩
    go_wp2_with fail
    refine (list_nil w11).mono ?_
    rintro e wz ⟨rfl, rfl⟩
    go_wp2_with fail
    refine (len_nil w11).mono ?_
    rintro e wz ⟨rfl, rfl⟩
    go_wp2_with fail
    refine (banned_nil nd w11).mono ?_
    rintro e wz ⟨rfl, rfl⟩
    go_wp2
    go_ret
    exact ⟨rfl, unhide B11⟩
end Go.Proofs.Ytbklkihcdkcagaa

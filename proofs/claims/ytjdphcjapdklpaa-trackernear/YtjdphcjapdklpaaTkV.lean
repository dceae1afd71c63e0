/- tracker: the comparison that plane.Near sorts by. -/
import Derived.Test.YtjdphcjapdklpaaTkU
import Derived.Test.YtjdphcjapdklpaaShelf
namespace Go.Proofs.Ytjdphcjapdklpaa
open Go.RowKit
set_option linter.unusedVariables false
attribute [local go_sem] Oper.semAt_some

set_option maxRecDepth 100000 in
set_option maxHeartbeats 2000000 in
theorem near1_gw (ga gl g o n c : Nat) (x y xi yi xj yj : Int) (i j : Nat) (hi : i < n) (hj : j < n) (w : World) (hA : Two w ga (.int .i64 x) (.int .i64 y) 23) (hL : w.cell? ⟨gl, 0, none⟩ = some (.slice (some ⟨g, o, none⟩) n c))
    (hi0 : w.cell? ⟨g, o + i * 2, none⟩ = some (.int .i64 xi)) (hi1 : w.cell? ⟨g, o + i * 2 + 1, none⟩ = some (.int .i64 yi)) (hj0 : w.cell? ⟨g, o + j * 2, none⟩ = some (.int .i64 xj)) (hj1 : w.cell? ⟨g, o + j * 2 + 1, none⟩ = some (.int .i64 yj)) :
    Calls Try.prog 35 #[.int .i64 i, .int .i64 j, .pointer (some ⟨ga, 0, none⟩), .pointer (some ⟨gl, 0, none⟩)] w fun e w' => e = .returned (.int .i64 (Lib.compareInt (distA x y xi yi) (distA x y xj yj))) ∧ Grown w w' := by
  have HA := hide hA
  have hd1 := hide (fun W => dist_gw x y xi yi W)
  have hd2 := hide (fun W => dist_gw x y xj yj W)
  have hc := hide (fun W => Try.cmp_Compare_int (distA x y xi yi) (distA x y xj yj) W)
  generalize Lib.compareInt (distA x y xi yi) (distA x y xj yj) = R at *
  generalize distA x y xi yi = d1 at *
  generalize distA x y xj yj = d2 at *
  unfold rv at hd1 hd2
  clear hA
  have r1 : (i : Int) < n := by omega
  have r2 : (j : Int) < n := by omega
  have l0 : ∀ X : Gw w, X.w.cell? ⟨gl, 0, none⟩ = some (.slice (some ⟨g, o, none⟩) n c) := fun X => gw_cell hL X
  have i0 : ∀ X : Gw w, X.w.cell? ⟨g, o + i * 2, none⟩ = some (.int .i64 xi) := fun X => gw_cell hi0 X
  have i1 : ∀ X : Gw w, X.w.cell? ⟨g, o + i * 2 + 1, none⟩ = some (.int .i64 yi) := fun X => gw_cell hi1 X
  have j0 : ∀ X : Gw w, X.w.cell? ⟨g, o + j * 2, none⟩ = some (.int .i64 xj) := fun X => gw_cell hj0 X
  have j1 : ∀ X : Gw w, X.w.cell? ⟨g, o + j * 2 + 1, none⟩ = some (.int .i64 yj) := fun X => gw_cell hj1 X
  have t0 : ∀ X : Gw w, X.w.cell? ⟨ga, 0, none⟩ = some (.int .i64 x) := fun X => (gw_two (unhide HA) X).c0
  have t1 : ∀ X : Gw w, X.w.cell? ⟨ga, 1, none⟩ = some (.int .i64 y) := fun X => (gw_two (unhide HA) X).c1
  have hne := gw_ne w
  clear hL hi0 hi1 hj0 hj1
  go_enter Try.func35, Try.ntmps35
  go_wp2_with fail
  refine wp_region_gw (by kernel_rfl) (by kernel_rfl) ?_
  iterate 6 (go_big_quiet_step ((go_at_call 37; exact gw_call (unhide hd1 _))))
  iterate 6 (go_big_quiet_step ((go_at_call 37; exact gw_call (unhide hd2 _))))
  repeat (go_big_quiet_step ((go_at_call 36; exact gw_same (unhide hc _))))
  refine wpQuiet_nil ?_
  rintro w7 ⟨⟨_, b7⟩, rfl⟩
  have B7 := hide b7
  clear b7 l0 i0 i1 j0 j1 t0 t1 hne
  go_wp2
  go_ret
  exact ⟨rfl, unhide B7⟩
end Go.Proofs.Ytjdphcjapdklpaa

/- tracker: what a nil table answers. -/
import Derived.Test.YtjdphcjapdklpaaGreatDoorTkL
namespace Go.Proofs.YtjdphcjapdklpaaGreatDoor
open Go.RowKit
set_option linter.unusedVariables false
attribute [local go_sem] Oper.semAt_some

set_option maxRecDepth 100000 in
theorem nilNodes (s : ByteArray) (now : Int) (w : World) : Calls Tryz.prog 21 #[.pointer none, .string s, .int .i64 now] w fun e w' => e = .returned (.slice none 0 0) ∧ Below w.heap.size w w' := by
  go_enter Tryz.func21, Tryz.ntmps21
  go_wp2
  go_ret
  exact ⟨rfl, Below.refl _ _⟩
set_option maxRecDepth 100000 in
theorem nilNames (now : Int) (w : World) : Calls Tryz.prog 24 #[.pointer none, .int .i64 now] w fun e w' => e = .returned (.slice none 0 0) ∧ Below w.heap.size w w' := by
  go_enter Tryz.func24, Tryz.ntmps24
  go_wp2
  go_ret
  exact ⟨rfl, Below.refl _ _⟩
set_option maxRecDepth 100000 in
theorem nilLen (now : Int) (w : World) : Calls Tryz.prog 26 #[.pointer none, .int .i64 now] w fun e w' => e = .returned (.int .i64 0) ∧ Below w.heap.size w w' := by
  have h := hide (fun w => nilNames now w)
  go_enter Tryz.func26, Tryz.ntmps26
  go_wp2_with fail
  refine (unhide h _).mono ?_
  rintro e w1 ⟨rfl, b1⟩
  have HB := hide b1
  clear b1
  go_wp2
  go_ret
  exact ⟨rfl, unhide HB⟩
set_option maxRecDepth 100000 in
theorem nilAnn (x : Nt) (now : Int) (w : World) : Calls Tryz.prog 11 #[.pointer none, .agg x.cl.toArray, .int .i64 now] w fun e w' => e = .returned (.int .i64 1) ∧ Below w.heap.size w w' := by
  unfold Nt.cl
  go_enter Tryz.func11, Tryz.ntmps11
  go_wp2
  go_ret
  exact ⟨rfl, (Below.refl _ _).alloc (Nat.le_refl _) _⟩
set_option maxRecDepth 100000 in
theorem nilBy (s : ByteArray) (px py now : Int) (w : World) : Calls Tryz.prog 42 #[.pointer none, .string s, .agg #[.int .i64 px, .int .i64 py], .int .i64 now] w fun e w' => e = .returned (.tuple #[.slice none 0 0, .int .i64 1]) ∧ Below w.heap.size w w' := by
  go_enter Tryz.func42, Tryz.ntmps42
  go_wp2
  go_ret2
  exact ⟨rfl, by first | exact Below.refl _ _ | exact (Below.refl _ _).alloc (Nat.le_refl _) _⟩
set_option maxRecDepth 100000 in
theorem nilOf (w : World) : Calls Tryz.prog 43 #[.slice none 0 0] w fun e w' => e = .returned (.slice none 0 0) ∧ Below w.heap.size w w' := by
  go_enter Tryz.func43, Tryz.ntmps43
  go_wp2_with fail
  go_loopw [3, 8] (fun lv kv wr => lv = .slice none 0 0 ∧ kv = .int .i64 0 ∧ w = wr) (fun _ _ _ => 0)
  case atStart => exact ⟨rfl, rfl, rfl⟩
  case round =>
    obtain ⟨rfl, rfl, rfl⟩ := hrel
    go_wp2
    go_ret
    exact ⟨rfl, Below.refl _ _⟩
set_option maxRecDepth 100000 in
theorem nilFind (s : ByteArray) (px py k now : Int) (w : World) : Calls Tryz.prog 14 #[.pointer none, .string s, .agg #[.int .i64 px, .int .i64 py], .int .i64 k, .int .i64 now] w fun e w' => e = .returned (.tuple #[.slice none 0 0, .int .i64 1]) ∧ Below w.heap.size w w' := by
  have hb := hide (fun w => nilBy s px py now w)
  have ho := hide (fun w => nilOf w)
  by_cases hk : k < 0
  · go_enter Tryz.func14, Tryz.ntmps14
    go_wp2
    go_ret2
    exact ⟨rfl, by first | exact Below.refl _ _ | exact (Below.refl _ _).alloc (Nat.le_refl _) _⟩
  · have hk2 : ¬ k < 0 := hk
    have hmn : min k 0 = 0 := by omega
    have hmn2 : min 0 k = 0 := by omega
    go_enter Tryz.func14, Tryz.ntmps14
    go_wp2_with fail
    refine (unhide hb _).mono ?_
    rintro e w1 ⟨rfl, b1⟩
    have HB : Hid (Below w.heap.size w w1) := ((Below.refl _ w).alloc (Nat.le_refl _) _).trans (b1.mono (by simp))
    clear b1 hb
    go_wp2_with fail
    refine (unhide ho _).mono ?_
    rintro e w2 ⟨rfl, b2⟩
    have HB2 := hide ((unhide HB).trans (b2.mono (unhide HB).size))
    clear b2 HB
    go_wp2
    go_ret2
    exact ⟨rfl, unhide HB2⟩
set_option maxRecDepth 100000 in
theorem nilLeave (s : ByteArray) (nd now : Int) (w : World) : Calls Tryz.prog 13 #[.pointer none, .string s, .int .i64 nd, .int .i64 now] w fun e w' => e = .returned (.int .i64 1) ∧ Below w.heap.size w w' := by
  go_enter Tryz.func13, Tryz.ntmps13
  go_wp2
  go_ret
  exact ⟨rfl, by first | exact Below.refl _ _ | exact (Below.refl _ _).alloc (Nat.le_refl _) _ | exact ((Below.refl _ _).alloc (Nat.le_refl _) _).alloc (by simp) _⟩
set_option maxRecDepth 100000 in
theorem nilLink (s t : ByteArray) (px py now : Int) (w : World) : Calls Tryz.prog 17 #[.pointer none, .string s, .string t, .agg #[.int .i64 px, .int .i64 py], .int .i64 now] w fun e w' => e = .returned (.tuple #[.string ⟨#[]⟩, .int .i64 1]) ∧ Below w.heap.size w w' := by
  have hb := hide (fun w => nilBy s px py now w)
  go_enter Tryz.func17, Tryz.ntmps17
  go_wp2_with fail
  refine (unhide hb _).mono ?_
  rintro e w1 ⟨rfl, b1⟩
  have HB : Hid (Below w.heap.size w w1) := by first | exact b1 | exact ((Below.refl _ w).alloc (Nat.le_refl _) _).trans (b1.mono (by simp)) | exact (((Below.refl _ w).alloc (Nat.le_refl _) _).alloc (by simp) _).trans (b1.mono (by simp; omega))
  clear b1 hb
  go_wp2
  go_ret2
  exact ⟨rfl, unhide HB⟩
end Go.Proofs.YtjdphcjapdklpaaGreatDoor

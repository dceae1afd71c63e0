/- tracker: names of numbers, what an announcement answers. -/
import Derived.Test.YtjdphcjapdklpaaTkI
namespace Go.Proofs.Ytjdphcjapdklpaa
open Go.RowKit
set_option linter.unusedVariables false
attribute [local go_sem] Oper.semAt_some

/-- the name of a number -/
def nmL (n : Nat) : By := UInt8.ofNat n :: List.replicate 31 0
theorem nmL_len (n : Nat) : (nmL n).length = 32 := by simp [nmL]
theorem nmL_inj {n m : Nat} (h1 : n < 256) (h2 : m < 256) (h : nmL n = nmL m) : n = m := by
  unfold nmL at h
  have := congrArg UInt8.toNat (List.cons.inj h).1
  simpa [UInt8.toNat_ofNat', Nat.mod_eq_of_lt, h1, h2] using this
set_option maxRecDepth 100000 in
set_option maxHeartbeats 1000000 in
theorem lname_any (n : Nat) (w : World) (h : n < 256) : Calls Try.prog 15 #[.int .i64 n] w fun e w' => e = .returned (.string (bs (nmL n))) ∧ Below w.heap.size w w' := by
  obtain ⟨i0, hi, hz0, hz1, hz2⟩ := info_parts Try.infoU
  have hR : Hid (nmL n = (List.replicate 32 0).set 0 (byteOf (n : Int))) := rfl
  generalize nmL n = R at *
  go_enter Try.func15, Try.ntmps15
  go_wp2_with (at_make; refine wpList_make_full _ rfl _ _ 63 rfl w.heap.size 5 i0 (.int .u8 0) 1 Try.undB hi hz0 hz1 .i64 .i64 _ _ 32 rfl rfl rfl rfl ?c2 ?c3 ?c4 ?_)
  case c2 => rw [hz2]; omega
  case c3 => unfold maxLen; omega
  case c4 => exact Nat.le_refl _
  intro w1 hown hgrow
  rw [made_bytes] at hown
  have HO := hide hown
  have HB := hide ((Below.refl _ _).grown hgrow (Nat.le_refl _) (by intro k hk; cases hk))
  have hfz := hown.frozenAt 0
  obtain ⟨u, hce⟩ : ∃ u, w1.cell? ⟨w.heap.size, 0, none⟩ = some u := ⟨_, (hown.cellAt 0 (by omega)).trans (bc_get _ _ (by decide))⟩
  have hst := (hown.stored 0 (.int .u8 (n : Nat))).1
  rw [bc_set _ _ _ (by omega) (by omega), ← unhide hR] at hst
  have HB2 := hide ((unhide HB).setCell (p := ⟨w.heap.size, 0, none⟩) (Nat.le_refl _) (.int .u8 (n : Nat)))
  have hrem : ((n : Int)).tmod 256 = n := (Int.tmod_eq_emod_of_nonneg (by omega)).trans (by omega)
  have hw := wrap8 n h
  have hcv := run_string_own (P := Try.prog) 63 9 Try.undB (by kernel_rfl) (by kernel_rfl) hst
  clear hown hgrow HO HB hst
  go_wp2
  go_ret
  exact ⟨rfl, unhide HB2⟩
end Go.Proofs.Ytjdphcjapdklpaa

/- oct's examples: the law's 'awake' answers true. -/
import Derived.Test.YtahejlimdgniiabOctW
namespace Go.Proofs.Ytahejlimdgniiab
open Go.RowKit
set_option linter.unusedVariables false

theorem putS_258 : putS 258 2 = ([1, 2], 0) := by decide +kernel
theorem putS_256 : putS 256 1 = ([], 8) := by decide +kernel
theorem wText_ab : wText ([], 0) [97, 98] = ([0, 2, 97, 98], 0) := by decide +kernel

theorem awake_any (w : World) :
    Calls Try.prog 15 #[] w fun x w' => x = .returned (.bool true) ∧ Below w.heap.size w w' := by
  go_enter Try.func15, Try.ntmps15
  go_wp2_with fail
  have h1 := put_any 258 2 w
  rw [putS_258] at h1
  refine h1.mono ?_
  clear h1
  rintro e w1 ⟨rfl, b1⟩
  go_wp2_with fail
  have h1 := put_any 256 1 w1
  rw [putS_256] at h1
  refine h1.mono ?_
  clear h1
  rintro e w2 ⟨rfl, b2⟩
  go_wp2_with fail
  refine (to_any w2).mono ?_
  rintro e w3 ⟨rfl, hW, b3⟩
  have hW3 := hide (hW (w2.heap.size + 1) (by omega))
  have hz3 : w3.heap.size = w2.heap.size + 1 := by rw [b3]; simp
  have b3' : Below w2.heap.size w2 w3 := by rw [b3]; exact (Below.refl _ _).alloc (Nat.le_refl _) _
  have HZ3 := hide hz3
  clear hW b3 hz3
  go_wp2_with fail
  have h1 := wtext_any w3 w2.heap.size (w2.heap.size + 1) [] 0 ⟨#[97, 98]⟩ (by decide) (by simp) (by have := unhide HZ3; omega) (by omega) (unhide hW3)
  rw [show (⟨#[97, 98]⟩ : ByteArray).data.toList = [97, 98] from rfl, wText_ab] at h1
  refine h1.mono ?_
  clear h1
  rintro e w4 ⟨rfl, hW4, k4⟩
  have HW4 := hide hW4
  clear hW4
  go_wp2_with fail
  have h1 := bytes_any w4 w2.heap.size (w2.heap.size + 1) _ _ (unhide HW4)
  simp only [if_true] at h1
  refine h1.mono ?_
  clear h1
  rintro e w5 ⟨rfl, nd, rfl⟩
  have hb : Below w.heap.size w w4 := by
    have z1 := b1.size
    have z2 := b2.size
    exact (b1.trans (b2.mono z1)).trans ((b3'.mono (by omega)).trans (k4.below _ (by omega) (by omega)))
  have HB := hide hb
  clear hb b1 b2 b3' k4 hW3 HW4 HZ3
  go_wp2
  go_ret
  exact ⟨rfl, below_drewN (unhide HB) nd⟩

end Go.Proofs.Ytahejlimdgniiab

/- sha's examples: the law's 'awake' answers true. -/
import Derived.Test.YtahejlimdgniiaaShaH
import Derived.Test.YtahejlimdgniiaaShaHx
namespace Go.Proofs.Ytahejlimdgniiaa
open Go.RowKit
set_option linter.unusedVariables false

def exA : List UInt8 := [98, 97, 55, 56, 49, 54, 98, 102, 56, 102, 48, 49, 99, 102, 101, 97, 52, 49, 52, 49, 52, 48, 100, 101, 53, 100, 97, 101, 50, 50, 50, 51, 98, 48, 48, 51, 54, 49, 97, 51, 57, 54, 49, 55, 55, 97, 57, 99, 98, 52, 49, 48, 102, 102, 54, 49, 102, 50, 48, 48, 49, 53, 97, 100]
def exB : List UInt8 := [101, 51, 98, 48, 99, 52, 52, 50, 57, 56, 102, 99, 49, 99, 49, 52, 57, 97, 102, 98, 102, 52, 99, 56, 57, 57, 54, 102, 98, 57, 50, 52, 50, 55, 97, 101, 52, 49, 101, 52, 54, 52, 57, 98, 57, 51, 52, 99, 97, 52, 57, 53, 57, 57, 49, 98, 55, 56, 53, 50, 98, 56, 53, 53]
theorem hex_abc : hexL (shaSum [97, 98, 99]) = exA := by decide +kernel
theorem hex_none : hexL (shaSum []) = exB := by decide +kernel

theorem size_shaSum (l : List UInt8) : (⟨(shaSum l).toArray⟩ : ByteArray).size = 32 := by
  show (shaSum l).toArray.size = 32
  rw [List.size_toArray, shaSum_length]

theorem awake_any (w : World) :
    Calls Try.prog 9 #[] w fun x w' => x = .returned (.bool true) ∧ Below w.heap.size w w' := by
  obtain ⟨A, hA⟩ : ∃ A : ByteArray, A = ⟨(shaSum [97, 98, 99]).toArray⟩ := ⟨_, rfl⟩
  obtain ⟨B, hB⟩ : ∃ B : ByteArray, B = ⟨(shaSum []).toArray⟩ := ⟨_, rfl⟩
  have s1 := hide (fun w => sum_any w ⟨#[97, 98, 99]⟩ (by decide))
  have s2 := hide (fun w => sum_any w ⟨#[]⟩ (by decide))
  rw [show (⟨#[97, 98, 99]⟩ : ByteArray).data.toList = [97, 98, 99] from rfl, ← hA] at s1
  rw [show (⟨#[]⟩ : ByteArray).data.toList = [] from rfl, ← hB] at s2
  have h1 := hide (fun w => hex_any A w (by rw [hA, size_shaSum]; omega))
  have h2 := hide (fun w => hex_any B w (by rw [hB, size_shaSum]; omega))
  rw [show A.data.toList = shaSum [97, 98, 99] by rw [hA], hex_abc] at h1
  rw [show B.data.toList = shaSum [] by rw [hB], hex_none] at h2
  clear hA hB
  go_enter Try.func9, Try.ntmps9
  go_wp2_with fail
  refine (unhide s1 w).mono ?_
  rintro e w1 ⟨rfl, b1⟩
  go_wp2_with fail
  refine (unhide h1 w1).mono ?_
  rintro e w2 ⟨rfl, b2⟩
  have b12 := hide (b1.trans (b2.mono b1.size))
  clear b1 b2 s1 h1
  go_wp2_with fail
  refine (unhide s2 w2).mono ?_
  rintro e w3 ⟨rfl, b3⟩
  have b13 := hide ((unhide b12).trans (b3.mono (unhide b12).size))
  clear b12 b3 s2
  go_wp2_with fail
  refine (unhide h2 w3).mono ?_
  rintro e w4 ⟨rfl, b4⟩
  have b14 := hide ((unhide b13).trans (b4.mono (unhide b13).size))
  clear b13 b4 h2
  go_wp2
  go_ret
  exact ⟨by first | rfl | decide +kernel, unhide b14⟩

end Go.Proofs.Ytahejlimdgniiaa

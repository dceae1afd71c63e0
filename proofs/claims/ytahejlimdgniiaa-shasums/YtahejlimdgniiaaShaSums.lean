/- What the law ShaSums does, whatever the world: it answers true and changes nothing that was there. -/
import Derived.Test.YtahejlimdgniiaaRefSum
namespace Go.Proofs.Ytahejlimdgniiaa
open Go.RowKit
set_option linter.unusedVariables false

theorem shaSums_any (s : ByteArray) (w : World) (hs : s.size ≤ maxLen) :
    Calls Try.prog 3 #[.string s] w fun e w' => e = .returned (.bool true) ∧ Below w.heap.size w w' := by
  by_cases hl : (5000 : Int) < s.size
  · unfold maxLen at hs
    go_enter Try.func3, Try.ntmps3
    go_wp2_with fail
    refine (awake_any w).mono ?_
    rintro e w1 ⟨rfl, b1⟩
    go_wp2
    go_ret
    exact ⟨rfl, b1⟩
  · have hl2 : s.size ≤ 65536 := by omega
    have hl3 : s.size ≤ 5000 := by omega
    clear hs
    have p1 := hide (fun w => sum_any w s hl2)
    have p2 := hide (fun w => rSum_any s w hl2)
    obtain ⟨D, hD⟩ : ∃ D : ByteArray, D = ⟨(shaSum s.data.toList).toArray⟩ := ⟨_, rfl⟩
    have hs : D.size = 32 := by rw [hD]; exact size_shaSum _
    rw [← hD] at p1 p2
    have w1 : (D.size : Int) = 32 := by omega
    clear hD hs
    go_enter Try.func3, Try.ntmps3
    go_wp2_with fail
    refine (awake_any w).mono ?_
    rintro e w1 ⟨rfl, b1⟩
    go_wp2_with fail
    refine (unhide p1 w1).mono ?_
    rintro e w2 ⟨rfl, b2⟩
    have b12 := hide (b1.trans (b2.mono b1.size))
    clear b1 b2
    go_wp2_with fail
    refine (unhide p2 w2).mono ?_
    rintro e w3 ⟨rfl, b3⟩
    have b13 := hide ((unhide b12).trans (b3.mono (unhide b12).size))
    clear b12 b3
    go_wp2_with fail
    refine (unhide p1 w3).mono ?_
    rintro e w4 ⟨rfl, b4⟩
    have b14 := hide ((unhide b13).trans (b4.mono (unhide b13).size))
    clear b13 b4
    go_wp2
    go_ret
    exact ⟨by first | rfl | simp, unhide b14⟩

end Go.Proofs.Ytahejlimdgniiaa

/- What the law ShaPads does, whatever the world: it answers true and changes nothing that was there. -/
import Derived.Test.YtahejlimdgniiaaShaAwake
import Derived.Test.YtahejlimdgniiaaRefP
namespace Go.Proofs.Ytahejlimdgniiaa
open Go.RowKit
set_option linter.unusedVariables false

theorem shaPads_any (n : Int) (w : World) (hn : (Lit.int .i64 n).wf = true) :
    Calls Try.prog 5 #[.int .i64 n] w fun e w' => e = .returned (.bool true) ∧ Below w.heap.size w w' := by
  clear hn
  by_cases ho : n < 0 ∨ 65536 < n
  · have HO := hide ho
    rcases ho with h | h
    · go_enter Try.func5, Try.ntmps5
      go_wp2_with fail
      refine (pad_none n w (unhide HO)).mono ?_
      rintro e w1 ⟨rfl, rfl⟩
      go_wp2_with fail
      refine (awake_any w).mono ?_
      rintro e w2 ⟨rfl, b2⟩
      go_wp2
      go_ret
      exact ⟨rfl, b2⟩
    · have h' : ¬ n < 0 := by omega
      go_enter Try.func5, Try.ntmps5
      go_wp2_with fail
      refine (pad_none n w (unhide HO)).mono ?_
      rintro e w1 ⟨rfl, rfl⟩
      go_wp2_with fail
      refine (awake_any w).mono ?_
      rintro e w2 ⟨rfl, b2⟩
      go_wp2
      go_ret
      exact ⟨rfl, b2⟩
  · obtain ⟨m, rfl⟩ := Int.eq_ofNat_of_zero_le (show 0 ≤ n by omega)
    have a1 : ¬ (m : Int) < 0 := by omega
    have a2 : ¬ (65536 : Int) < m := by omega
    have hm := hide (show m ≤ 65536 by omega)
    have p1 := hide (fun w => pad_any m w (unhide hm))
    have p2 := hide (fun w => rpad_any m w (unhide hm))
    have hw := pad_whole m
    have hl : 9 ≤ (padL m).length ∧ (padL m).length ≤ 72 := by rw [padL_length]; have := zerosOf_lt m; omega
    obtain ⟨D, hD⟩ : ∃ D : ByteArray, D = ⟨(padL m).toArray⟩ := ⟨_, rfl⟩
    have hs : D.size = (padL m).length := by rw [hD]; simp [ByteArray.size]
    rw [← hD] at p1 p2
    rw [← hs] at hw hl
    have w1 : ((m : Int) + D.size) % 64 = 0 := by omega
    have w2 : (9 : Int) ≤ D.size := by omega
    have w3 : (D.size : Int) ≤ 72 := by omega
    clear hD hs ho hw hl
    go_enter Try.func5, Try.ntmps5
    go_wp2_with fail
    refine (unhide p1 w).mono ?_
    rintro e w1 ⟨rfl, b1⟩
    go_wp2_with fail
    refine (awake_any w1).mono ?_
    rintro e w2 ⟨rfl, b2⟩
    have b12 := hide (b1.trans (b2.mono b1.size))
    clear b1 b2
    go_wp2_with fail
    refine (unhide p2 w2).mono ?_
    rintro e w3 ⟨rfl, b3⟩
    have b13 := hide ((unhide b12).trans (b3.mono (unhide b12).size))
    clear b12 b3
    go_wp2
    go_ret
    exact ⟨by first | rfl | simp, unhide b13⟩

end Go.Proofs.Ytahejlimdgniiaa

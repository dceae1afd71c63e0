/- The laws RunsPacks and RunsPatches, walked. -/
import Derived.Test.YtbodklppgcloiaaDoorRwG
import Derived.Test.YtbodklppgcloiaaDoorRuL
namespace Go.Proofs.YtbodklppgcloiaaDoor
open Go.RowKit Go.Shelf
set_option linter.unusedVariables false
attribute [local go_sem] Oper.semAt_some

set_option maxRecDepth 100000 in
set_option maxHeartbeats 4000000 in
theorem runsPacks_by (n : Int) (s t : By) (w : World) (hs : s.length ≤ maxLen) (ht : t.length ≤ maxLen) : Calls Tryd.prog 4 #[.int .i64 n, .string (bs s), .string (bs t)] w fun e w' => e = .returned (.bool true) ∧ Below w.heap.size w w' := by
  have haw := hide ruawake_any
  have hsz := bs_size s
  have hsz2 := bs_size t
  by_cases hbig : 30 < s.length ∨ (¬ 30 < s.length ∧ 400 < t.length)
  · have i0 : (30 : Int) < ((bs s).size : Int) ∨ (¬ (30 : Int) < ((bs s).size : Int) ∧ (400 : Int) < ((bs t).size : Int)) := by rw [hsz, hsz2]; omega
    generalize bs s = S at *
    generalize bs t = T at *
    clear hsz hsz2 hbig
    go_enter Tryd.func4, Tryd.ntmps4
    rcases i0 with i1 | ⟨i1, i2⟩
    all_goals
      go_wp2_with fail
      refine (unhide haw _).mono ?_
      rintro e w1 ⟨rfl, b1⟩
      have B1 := hide b1
      clear b1
      go_wp2
      go_ret
      exact ⟨rfl, unhide B1⟩
  · have i1 : ¬ (30 : Int) < ((bs s).size : Int) := by rw [hsz]; omega
    have i2 : ¬ (400 : Int) < ((bs t).size : Int) := by rw [hsz2]; omega
    have h1 := hide (fun w => pack_any n s w hs)
    have h2 := hide (fun w => rpack_any n s w hs)
    have h3 := hide (fun w => unpack_any n t (by omega) w)
    have h4 := hide (fun w => runpack_any n t (by omega) w)
    clear hsz hsz2 hbig hs ht
    generalize packE n s = PE at *
    generalize bs (packR n s) = PR at *
    generalize unpE n t = UE at *
    generalize bs (unpR n t) = UR at *
    generalize bs s = S at *
    generalize bs t = T at *
    go_enter Tryd.func4, Tryd.ntmps4
    go_wp2_with fail
    refine (unhide h1 _).mono ?_
    rintro e w1 ⟨rfl, b1⟩
    have B1 := hide b1
    clear b1
    go_wp2_with fail
    refine (unhide h2 _).mono ?_
    rintro e w2 ⟨rfl, b2⟩
    have B2 := hide ((unhide B1).trans (b2.mono (unhide B1).size))
    clear b2 B1
    go_wp2_with fail
    refine (unhide h3 _).mono ?_
    rintro e w3 ⟨rfl, b3⟩
    have B3 := hide ((unhide B2).trans (b3.mono (unhide B2).size))
    clear b3 B2
    go_wp2_with fail
    refine (unhide h4 _).mono ?_
    rintro e w4 ⟨rfl, b4⟩
    have B4 := hide ((unhide B3).trans (b4.mono (unhide B3).size))
    clear b4 B3
    go_wp2_with fail
    refine (unhide haw _).mono ?_
    rintro e w5 ⟨rfl, b5⟩
    have B5 := hide ((unhide B4).trans (b5.mono (unhide B4).size))
    clear b5 B4
    go_wp2
    go_ret
    exact ⟨rfl, unhide B5⟩
theorem runsPacks_any (n : Int) (a b : ByteArray) (w : World) (ha : a.size ≤ maxLen) (hb : b.size ≤ maxLen) : Calls Tryd.prog 4 #[.int .i64 n, .string a, .string b] w fun e w' => e = .returned (.bool true) ∧ Below w.heap.size w w' := by
  rw [← bs_of a, ← bs_of b]
  exact runsPacks_by n a.data.toList b.data.toList w (by rw [← show a.size = a.data.toList.length from by simp]; exact ha) (by rw [← show b.size = b.data.toList.length from by simp]; exact hb)
end Go.Proofs.YtbodklppgcloiaaDoor

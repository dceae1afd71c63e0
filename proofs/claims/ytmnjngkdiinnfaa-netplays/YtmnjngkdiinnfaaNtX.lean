/- NetPlays, whatever the arguments. -/
import Derived.Test.YtmnjngkdiinnfaaNtW
namespace Go.Proofs.Ytmnjngkdiinnfaa
open Go.RowKit
set_option linter.unusedVariables false
theorem netPlays_any (room : Int) (a0 : Option Addr) (l : List Na) (c : Nat) (node : Int) (w : World) (hA : NasAt w a0 l) (hO : NasOk l c) :
    Calls Try.prog 3 #[.int .i64 room, .slice a0 l.length c, .int .i64 node] w fun e w' => e = .returned (.bool true) ∧ Below w.heap.size w w' := by
  by_cases h : 1 ≤ room ∧ room ≤ 600
  · exact netPlays_good room node a0 l c w h hA hO
  · exact netPlays_bad room node _ w h
end Go.Proofs.Ytmnjngkdiinnfaa

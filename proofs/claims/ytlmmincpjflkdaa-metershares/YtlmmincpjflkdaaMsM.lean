/- MeterShares, of any quantum. -/
import Derived.Test.YtlmmincpjflkdaaMsL
namespace Go.Proofs.Ytlmmincpjflkdaa
open Go.RowKit
set_option linter.unusedVariables false

theorem meterShares_any (q : Int) (a0 : Option Addr) (n c : Nat) (F : Nat → Int × Int × Int) (w : World) (hA : AsksAt w a0 n F) :
    Calls Try.prog 3 #[.int .i64 q, .slice a0 n c] w fun e w' => e = .returned (.bool true) ∧ Below w.heap.size w w' := by
  by_cases h : 1 ≤ q ∧ q ≤ 65536
  · exact meterShares_good q a0 n c F w h hA
  · exact meterShares_bad q _ w h
end Go.Proofs.Ytlmmincpjflkdaa

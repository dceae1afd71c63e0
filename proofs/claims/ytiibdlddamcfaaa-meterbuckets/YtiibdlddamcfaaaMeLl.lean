/- meter: MeterBuckets, of any rate and size. -/
import Derived.Test.YtiibdlddamcfaaaMeL
namespace Go.Proofs.Ytiibdlddamcfaaa
open Go.RowKit
set_option linter.unusedVariables false

theorem meterBuckets_any (r s : Int) (a0 : Option Addr) (n c : Nat) (F : Nat → Int × Int) (w : World) (hD : DropsAt w a0 n F) :
    Calls Try.prog 3 #[.int .i64 r, .int .i64 s, .slice a0 n c] w fun e w' => e = .returned (.bool true) ∧ Below w.heap.size w w' := by
  by_cases h : bkOk r s
  · exact meterBuckets_yes r s a0 n c F w h hD
  · exact meterBuckets_no r s a0 n c w h
end Go.Proofs.Ytiibdlddamcfaaa

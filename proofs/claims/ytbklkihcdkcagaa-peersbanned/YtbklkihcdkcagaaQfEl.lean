/- PeersBanned: whatever the arguments. -/
import Derived.Test.YtbklkihcdkcagaaQfE
import Derived.ProofKit
import Derived.ChangeOld
namespace Go.Proofs.Ytbklkihcdkcagaa
open Go.ChangeShapes Go.WideShapes Go.ChangeAt Go.RowKit Go.Deep
set_option linter.unusedVariables false

theorem peersBanned_any (room tmo : Int) (a0 : Option Addr) (l : List Pa) (c : Nat) (w : World) (hA : PasAt w a0 l) (hO : PasOk l c) :
    Calls Try.prog 4 #[.int .i64 room, .int .i64 tmo, .slice a0 l.length c] w fun e w' => e = .returned (.bool true) ∧ Below w.heap.size w w' := by
  by_cases h : (1 ≤ room ∧ room ≤ 15) ∧ (1 ≤ tmo ∧ tmo ≤ 1099511627776)
  · exact peersBanned_good room tmo a0 l c w h.1 h.2 hA hO
  · exact peersBanned_bad room tmo _ w h
end Go.Proofs.Ytbklkihcdkcagaa

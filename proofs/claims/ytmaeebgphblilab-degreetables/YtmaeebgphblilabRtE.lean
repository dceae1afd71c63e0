
/- Contracts of ratio's Add, Sub, Mul, Div and the document's Of, Sum, Mul, Div. -/
import Derived.Test.YtmaeebgphblilabRtD
namespace Go.Proofs.Ytmaeebgphblilab
open Go.RowKit
set_option linter.unusedVariables false

end Go.Proofs.Ytmaeebgphblilab

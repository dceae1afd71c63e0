/- MerkleFolds' walk, said of the arguments as they are opened. -/
import Derived.Test.YtiaohpkcncbdnaaMkFl
import Derived.Test.YtiaohpkcncbdnaaOpenFd
namespace Go.Proofs.Ytiaohpkcncbdnaa
open Go.RowKit
set_option linter.unusedVariables false

theorem bs_len (s : ByteArray) : (s.data.toList : By).length = s.size := (bs_size s.data.toList).symm
theorem merkleFolds_w (n i : Int) (d : ByteArray) (a0 : Option Addr) (path : List By) (c : Nat) (r s : ByteArray) (w : World) (hT : Txts w a0 path ∧ d.size ≤ maxLen) (hm : TxtsOk path c) (hr : r.size ≤ maxLen) (hs : s.size ≤ maxLen) :
    Calls Try.prog 6 #[.agg #[.int .i64 n, .int .i64 i, .string d, .slice a0 path.length c], .string r, .string s] w fun e w' => e = .returned (.bool true) ∧ Below w.heap.size w w' :=
  merkleFolds_any n i d.data.toList a0 path c r.data.toList s.data.toList w hT.1 hm (by rw [bs_len]; exact hT.2) (by rw [bs_len]; exact hr) (by rw [bs_len]; exact hs)

end Go.Proofs.Ytiaohpkcncbdnaa

/- The law GaussTrue. -/
import Derived.Test.YtpcndjnhpjhjkaaDoorGmU
namespace Go.Proofs.YtpcndjnhpjhjkaaDoor
open Go.RowKit
set_option linter.unusedVariables false

theorem gaussTrue_law (x0 : Option Addr) (X : List By) (xc : Nat) (a0 : Option Addr) (Rs : List (List Int)) (c : Nat) (which : Int) (w : World) (hX : Txts w x0 X) (kX : TxtsOk X xc) (hI : RowsA w a0 Rs) (hO : RowsOk Rs a0 c) (hf : (Lit.int .i64 which).wf = true) (hT : Tz w) :
    Calls Tryd.prog 8 #[.slice x0 X.length xc, .slice a0 Rs.length c, .int .i64 which] w fun e w' => e = .returned (.bool true) ∧ Below w.heap.size w w' := by
  have hk : X.length ≤ maxLen := by have := kX.1; have := kX.2.1; omega
  by_cases h : fewB X.length Rs = true ∧ mayB X.length Rs = true ∧ szB X = true
  · obtain ⟨h1, h2, h3⟩ := h
    obtain ⟨n, R, e, hR⟩ := may_rws h2
    have e' : X.length = n := by omega
    subst e'
    have h4 := h3
    unfold szB at h4
    obtain ⟨h5, h6⟩ := of_decide_eq_true h4
    have h0 : 0 < X.length := List.length_pos_iff.2 h5
    have hm := (h6 _ (List.getElem_mem h0)).1
    have e0 : (X.getD 0 []).length = X[0].length := by simp [List.getD, h0]
    have := may_iff.1 hm
    exact gaussTrue_on X X[0].length (by omega) (by omega) (fun s hs => by rw [(h6 s hs).2, e0]) h0 x0 xc Rs R hR a0 c which w hT hX hk hI hO h1 h3
  · exact gaussTrue_off X x0 xc Rs a0 c which w hT hX hk hI hO h
end Go.Proofs.YtpcndjnhpjhjkaaDoor

/- The tied card of GaussMore. -/
import Derived.Test.YtpcndjnhpjhjkaaDoorGaussMoreP
import Derived.Test.YtpcndjnhpjhjkaaDoorTie
import Derived.Test.YtpcndjnhpjhjkaaDoorCards
import Derived.SevenTiedAt
namespace Go.Proofs.YtpcndjnhpjhjkaaDoor
open Go

theorem gaussMoreCard_holds : Rows.GaussMoreCardSaid :=
  Claim7.holds_tied_plain_at .later [] [.data] true (true, "8c616f2c619677bdff343486c5f103d095a9df08d72551a6a013f624232740cf") false
    gaussMore_holds (fun _ h => by cases h) (by kernel_rfl) (fun _ h => by cases h) gaussMore_row_tie rfl ⟨rfl, rfl⟩ (by kernel_rfl) rfl
    (fun f fn hf hfn => by
      obtain rfl : f = 7 := Option.some.inj ((show Tryd.prog.funcNamed "mosaic/mosaiclaw12.GaussMore" = some 7 by kernel_rfl).symm.trans hf) |>.symm
      obtain rfl : fn = Tryd.f7 := (Option.some.inj (Tryd.func7.symm.trans hfn)).symm
      exact ⟨by kernel_rfl, fun j t ht => by
        rw [Tryd.params7] at ht
        have h3 : t = 3 ∨ t = 22 := by
          rcases j with _ | _ | _ | j
          · exact .inl (by simpa using ht.symm)
          · exact .inr ((by simpa using ht.symm))
          · exact .inl (by simpa using ht.symm)
          · simp at ht
        rcases h3 with rfl | rfl
        · exact (show Tryd.prog.wantsStandIn 3 = false by kernel_rfl)
        · exact (show Tryd.prog.wantsStandIn 22 = false by kernel_rfl)⟩)
    (by kernel_rfl)

end Go.Proofs.YtpcndjnhpjhjkaaDoor

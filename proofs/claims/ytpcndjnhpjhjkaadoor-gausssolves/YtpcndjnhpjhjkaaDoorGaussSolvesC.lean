/- The tied card of GaussSolves. -/
import Derived.Test.YtpcndjnhpjhjkaaDoorGaussSolvesP
import Derived.Test.YtpcndjnhpjhjkaaDoorTie
import Derived.Test.YtpcndjnhpjhjkaaDoorCards
import Derived.SevenTiedAt
namespace Go.Proofs.YtpcndjnhpjhjkaaDoor
open Go

theorem gaussSolvesCard_holds : Rows.GaussSolvesCardSaid :=
  Claim7.holds_tied_plain_at .later [] [.data] true (true, "8c616f2c619677bdff343486c5f103d095a9df08d72551a6a013f624232740cf") false
    gaussSolves_holds (fun _ h => by cases h) (by kernel_rfl) (fun _ h => by cases h) gaussSolves_row_tie rfl ⟨rfl, rfl⟩ (by kernel_rfl) rfl
    (fun f fn hf hfn => by
      obtain rfl : f = 4 := Option.some.inj ((show Tryd.prog.funcNamed "mosaic/mosaiclaw12.GaussSolves" = some 4 by kernel_rfl).symm.trans hf) |>.symm
      obtain rfl : fn = Tryd.f4 := (Option.some.inj (Tryd.func4.symm.trans hfn)).symm
      exact ⟨by kernel_rfl, fun j t ht => by
        rw [Tryd.params4] at ht
        have h3 : t = 3 ∨ t = 39 := by
          rcases j with _ | _ | _ | j
          · exact .inl (by simpa using ht.symm)
          · exact .inl (by simpa using ht.symm)
          · exact .inr ((by simpa using ht.symm))
          · simp at ht
        rcases h3 with rfl | rfl
        · exact (show Tryd.prog.wantsStandIn 3 = false by kernel_rfl)
        · exact (show Tryd.prog.wantsStandIn 39 = false by kernel_rfl)⟩)
    (by kernel_rfl)

end Go.Proofs.YtpcndjnhpjhjkaaDoor

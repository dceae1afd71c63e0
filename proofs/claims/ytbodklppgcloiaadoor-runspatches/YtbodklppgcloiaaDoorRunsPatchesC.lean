/- The tied card of RunsPatches. -/
import Derived.Test.YtbodklppgcloiaaDoorRunsPatchesP
import Derived.Test.YtbodklppgcloiaaDoorTie
import Derived.Test.YtbodklppgcloiaaDoorCards
import Derived.SevenTiedAt
namespace Go.Proofs.YtbodklppgcloiaaDoor
open Go

theorem runsPatchesCard_holds : Rows.RunsPatchesCardSaid :=
  Claim7.holds_tied_plain_at .later [] [.data, .data, .data] true (true, "a357a58a38224d5cc234ec03836e378ae72d63bc90efaae3d25e937616cd8d58") true
    runsPatches_holds (fun _ h => by cases h) (by kernel_rfl) (fun _ h => by cases h) runsPatches_row_tie rfl ⟨rfl, rfl⟩ (by kernel_rfl) rfl
    (fun f fn hf hfn => by
      obtain rfl : f = 6 := Option.some.inj ((show Tryd.prog.funcNamed "mosaic/mosaiclaw25.RunsPatches" = some 6 by kernel_rfl).symm.trans hf) |>.symm
      obtain rfl : fn = Tryd.f6 := (Option.some.inj (Tryd.func6.symm.trans hfn)).symm
      exact ⟨by kernel_rfl, fun j t ht => by
        rw [Tryd.params6] at ht
        have h3 : t = 3 ∨ t = 41 := by
          rcases j with _ | _ | j
          · exact .inl (by simpa using ht.symm)
          · exact .inr ((by simpa using ht.symm))
          · simp at ht
        rcases h3 with rfl | rfl
        · exact (show Tryd.prog.wantsStandIn 3 = false by kernel_rfl)
        · exact (show Tryd.prog.wantsStandIn 41 = false by kernel_rfl)⟩)
    (by kernel_rfl)

end Go.Proofs.YtbodklppgcloiaaDoor

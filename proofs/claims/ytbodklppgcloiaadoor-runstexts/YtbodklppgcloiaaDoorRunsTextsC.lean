/- The tied card of RunsTexts. -/
import Derived.Test.YtbodklppgcloiaaDoorRunsTextsP
import Derived.Test.YtbodklppgcloiaaDoorTie
import Derived.Test.YtbodklppgcloiaaDoorCards
import Derived.SevenTiedAt
namespace Go.Proofs.YtbodklppgcloiaaDoor
open Go

theorem runsTextsCard_holds : Rows.RunsTextsCardSaid :=
  Claim7.holds_tied_plain_at .later [] [.data, .data, .data, .sentinel, .sentinel] true (true, "a357a58a38224d5cc234ec03836e378ae72d63bc90efaae3d25e937616cd8d58") true
    runsTexts_holds (fun _ h => by cases h) (by kernel_rfl) (fun _ h => by cases h) runsTexts_row_tie rfl ⟨rfl, rfl⟩ (by kernel_rfl) rfl
    (fun f fn hf hfn => by
      obtain rfl : f = 5 := Option.some.inj ((show Tryd.prog.funcNamed "mosaic/mosaiclaw25.RunsTexts" = some 5 by kernel_rfl).symm.trans hf) |>.symm
      obtain rfl : fn = Tryd.f5 := (Option.some.inj (Tryd.func5.symm.trans hfn)).symm
      exact ⟨by kernel_rfl, fun j t ht => by
        rw [Tryd.params5] at ht
        have h3 : t = 3 ∨ t = 9 := by
          rcases j with _ | _ | _ | j
          · exact .inl (by simpa using ht.symm)
          · exact .inr ((by simpa using ht.symm))
          · exact .inr ((by simpa using ht.symm))
          · simp at ht
        rcases h3 with rfl | rfl
        · exact (show Tryd.prog.wantsStandIn 3 = false by kernel_rfl)
        · exact (show Tryd.prog.wantsStandIn 9 = false by kernel_rfl)⟩)
    (by kernel_rfl)

end Go.Proofs.YtbodklppgcloiaaDoor

/- The tied card of RunsOf. -/
import Derived.Test.YtdelkacoidangaaDoorRunsOfP
import Derived.Test.YtdelkacoidangaaDoorTie
import Derived.Test.YtdelkacoidangaaDoorCards
import Derived.SevenTiedAt
namespace Go.Proofs.YtdelkacoidangaaDoor
open Go

theorem runsOfCard_holds : Rows.RunsOfCardSaid :=
  Claim7.holds_tied_plain_at .later [] [.data, .data, .data] true (true, "a357a58a38224d5cc234ec03836e378ae72d63bc90efaae3d25e937616cd8d58") true
    runsOf_holds (fun _ h => by cases h) (by kernel_rfl) (fun _ h => by cases h) runsOf_row_tie rfl ⟨rfl, rfl⟩ (by kernel_rfl) rfl
    (fun f fn hf hfn => by
      obtain rfl : f = 3 := Option.some.inj ((show Tryd.prog.funcNamed "mosaic/mosaiclaw25.RunsOf" = some 3 by kernel_rfl).symm.trans hf) |>.symm
      obtain rfl : fn = Tryd.f3 := (Option.some.inj (Tryd.func3.symm.trans hfn)).symm
      exact ⟨by kernel_rfl, fun j t ht => by
        rw [Tryd.params3] at ht
        have h3 : t = 3 ∨ t = 9 ∨ t = 22 := by
          rcases j with _ | _ | _ | j
          · exact .inl (by simpa using ht.symm)
          · exact .inr (.inl (by simpa using ht.symm))
          · exact .inr (.inr (by simpa using ht.symm))
          · simp at ht
        rcases h3 with rfl | rfl | rfl
        · exact (show Tryd.prog.wantsStandIn 3 = false by kernel_rfl)
        · exact (show Tryd.prog.wantsStandIn 9 = false by kernel_rfl)
        · exact (show Tryd.prog.wantsStandIn 22 = false by kernel_rfl)⟩)
    (by kernel_rfl)

end Go.Proofs.YtdelkacoidangaaDoor

/- The tied card of RunsTile. -/
import Derived.Test.YtdelkacoidangabDoorRunsTileP
import Derived.Test.YtdelkacoidangabDoorTie
import Derived.Test.YtdelkacoidangabDoorCards
import Derived.SevenTiedAt
namespace Go.Proofs.YtdelkacoidangabDoor
open Go

theorem runsTileCard_holds : Rows.RunsTileCardSaid :=
  Claim7.holds_tied_plain_at .later [] [.data, .data, .data] true (true, "0a2d9b0b8da3764f3603077cd1d5ed83cc7cec94ea0a0fc1ce059b7874b053a8") false
    runsTile_holds (fun _ h => by cases h) (by kernel_rfl) (fun _ h => by cases h) runsTile_row_tie rfl ⟨rfl, rfl⟩ (by kernel_rfl) rfl
    (fun f fn hf hfn => by
      obtain rfl : f = 3 := Option.some.inj ((show Tryd.prog.funcNamed "mosaic/mosaiclaw25.RunsTile" = some 3 by kernel_rfl).symm.trans hf) |>.symm
      obtain rfl : fn = Tryd.f3 := (Option.some.inj (Tryd.func3.symm.trans hfn)).symm
      exact ⟨by kernel_rfl, fun j t ht => by
        rw [Tryd.params3] at ht
        have h3 : t = 3 ∨ t = 9 := by
          rcases j with _ | _ | j
          · exact .inl (by simpa using ht.symm)
          · exact .inr (by simpa using ht.symm)
          · simp at ht
        rcases h3 with rfl | rfl
        · exact (show Tryd.prog.wantsStandIn 3 = false by kernel_rfl)
        · exact (show Tryd.prog.wantsStandIn 9 = false by kernel_rfl)⟩)
    (by kernel_rfl)

end Go.Proofs.YtdelkacoidangabDoor

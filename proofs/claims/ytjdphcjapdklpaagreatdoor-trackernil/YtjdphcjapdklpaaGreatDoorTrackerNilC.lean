/- The tied card of TrackerNil. -/
import Derived.Test.YtjdphcjapdklpaaGreatDoorTrackerNilP
import Derived.Test.YtjdphcjapdklpaaGreatDoorTie
import Derived.Test.YtjdphcjapdklpaaGreatDoorCards
import Derived.SevenTiedAt
namespace Go.Proofs.YtjdphcjapdklpaaGreatDoor
open Go

theorem trackerNilCard_holds : Rows.TrackerNilCardSaid :=
  Claim7.holds_tied_plain_at .later [] [.data, .data, .data] true (true, "fe622341c8907475f3dcba1778f65e30cd0ca7965388b4a35b610e468851d119") true
    trackerNil_holds (fun _ h => by cases h) (by kernel_rfl) (fun _ h => by cases h) trackerNil_row_tie rfl ⟨rfl, rfl⟩ (by kernel_rfl) rfl
    (fun f fn hf hfn => by
      obtain rfl : f = 5 := Option.some.inj ((show Tryz.prog.funcNamed "mosaic/mosaiclaw31.TrackerNil" = some 5 by kernel_rfl).symm.trans hf) |>.symm
      obtain rfl : fn = Tryz.f5 := (Option.some.inj (Tryz.func5.symm.trans hfn)).symm
      exact ⟨by kernel_rfl, fun j t ht => by
        rw [Tryz.params5] at ht
        have h3 : t = 37 ∨ t = 26 := by
          rcases j with _ | _ | j
          · exact .inl (by simpa using ht.symm)
          · exact .inr ((by simpa using ht.symm))
          · simp at ht
        rcases h3 with rfl | rfl
        · exact (show Tryz.prog.wantsStandIn 37 = false by kernel_rfl)
        · exact (show Tryz.prog.wantsStandIn 26 = false by kernel_rfl)⟩)
    (by kernel_rfl)

end Go.Proofs.YtjdphcjapdklpaaGreatDoor

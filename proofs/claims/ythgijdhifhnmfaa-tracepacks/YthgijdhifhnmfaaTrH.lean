/- trace: the example. -/
import Derived.Test.YthgijdhifhnmfaaTrF
import Derived.Test.YthgijdhifhnmfaaTrG
namespace Go.Proofs.Ythgijdhifhnmfaa
open Go.RowKit
set_option linter.unusedVariables false
attribute [local go_sem] Oper.semAt_some

def exE : Ev := ⟨2, 5, ⟨#[]⟩⟩
def exS : ByteArray := ⟨#[116, 114, 99, 49, 0, 1, 2, 0, 5]⟩
theorem ex_pk : pkS [exE] 1 = ([116, 114, 99, 49, 0, 1, 2, 0, 5], 0) := by decide +kernel
theorem ex_chk : chkB [exE] = true := by decide +kernel
theorem ex_un : (unp exS).map List.length = some 1 := by decide +kernel
set_option maxRecDepth 100000 in
set_option maxHeartbeats 1000000 in
theorem tawake_any (w : World) : Calls Try.prog 7 #[] w fun e w' => e = .returned (.bool true) ∧ Below w.heap.size w w' := by
  have B1 := hide ((Below.refl w.heap.size w).alloc (Nat.le_refl _) (.cells #[.int .i64 2, .int .i64 5, .string ⟨#[]⟩] 47))
  have hev : EvsAt (w.alloc (.cells #[.int .i64 2, .int .i64 5, .string ⟨#[]⟩] 47)) (some ⟨w.heap.size, 0, none⟩) [exE] := by
    intro t c ht
    have h0 : t = 0 := by
      have := (List.getElem?_eq_some_iff.1 ht).1
      simp at this
      exact this
    subst h0
    simp at ht
    subst ht
    have hh := heap_alloc_new w (.cells #[.int .i64 2, .int .i64 5, .string ⟨#[]⟩] 47)
    exact ⟨w.heap.size, 0, rfl, by rw [cell_of_row _ _ _ _ _ _ hh]; rfl, by rw [cell_of_row _ _ _ _ _ _ hh]; rfl, by rw [cell_of_row _ _ _ _ _ _ hh]; rfl⟩
  have hp := pack_any _ [exE] 1 _ hev (by decide) ex_chk
  rw [show ([exE] : List Ev).length = 1 from rfl, ex_pk] at hp
  have HP := hide hp
  have hu := fun w => unpack_any exS w (by decide)
  obtain ⟨lu, hlu⟩ : ∃ lu, unp exS = some lu := by
    have := ex_un
    cases h : unp exS with
    | none => rw [h] at this; cases this
    | some lu => exact ⟨lu, rfl⟩
  have hlen : lu.length = 1 := by
    have := ex_un
    rw [hlu] at this
    simpa using this
  have hue : unE exS = 0 := by unfold unE; rw [hlu]
  rw [hue] at hu
  have HU := hide hu
  have HLU := hide hlu
  have HLEN := hide hlen
  clear hev hp hu hlu hlen hue
  go_enter Try.func7, Try.ntmps7
  go_wp2_with fail
  refine (unhide HP).mono ?_
  rintro e w2 ⟨rfl, b2⟩
  have B2 := hide ((unhide B1).trans (b2.mono (unhide B1).size))
  clear b2 HP B1
  go_wp2_with fail
  refine (unhide HU w2).mono ?_
  rintro e w3 ⟨v, rfl, hR⟩
  obtain ⟨a3, c3, hv3⟩ := ownEv_shape hR.own
  rw [unhide HLU] at hv3
  have hv4 : v = .slice a3 1 c3 := by
    rw [hv3]
    show Value.slice a3 lu.length c3 = _
    rw [unhide HLEN]
  subst hv4
  have B3 := hide ((unhide B2).trans (hR.be.mono (unhide B2).size))
  clear hR hv3 HU B2
  go_wp2
  go_ret
  exact ⟨rfl, unhide B3⟩
end Go.Proofs.Ythgijdhifhnmfaa

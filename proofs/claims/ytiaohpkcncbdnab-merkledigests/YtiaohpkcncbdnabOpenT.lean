/- An argument that is a slice of texts, opened, with its room. -/
import Derived.Test.YtiaohpkcncbdnabMkRt
import Derived.ProofKit
import Derived.OpenShut
import Derived.SliceStrings
import Derived.ChangeOld
namespace Go.Proofs.Ytiaohpkcncbdnab
open Go.ChangeShapes Go.WideShapes Go.ChangeAt Go.RowKit
set_option linter.unusedVariables false

/-- what is known of texts that are handed in -/
def TxtsOk (ss : List By) (c : Nat) : Prop := ss.length ≤ c ∧ c ≤ maxLen ∧ ∀ s ∈ ss, s.length ≤ maxLen
theorem open_txts {H : Type} {enc : TypeId × Value → H} {P : Program} {W : World} {r : Reach} {b0 : Nat} {t e : TypeId} {v : Value} {d : DataW H} {p : List MemPlace}
    (ht : P.underlying t = some (.slice e)) (he : P.underlying e = some .string) (hc : P.cellsOf e = 1)
    (hval : Value.okWide P W r b0 t v) (h : DataW.Trod enc P W 0 (fun _ => true) true t v d p) :
    ∃ a0 ss cap, v = .slice a0 (List.length (α := By) ss) cap ∧ Txts W a0 ss ∧ TxtsOk ss cap := by
  obtain ⟨a0, len, cap, rfl⟩ := okWide_slice ht hval
  obtain ⟨fuel, hf⟩ := h
  rcases open_strings ht he hc hf with ⟨hcs, hx⟩ | ⟨a, len', cap', ss, hcs, _, hl, hm, hz, hx, hcell, hws⟩
  · simp [Value.cells] at hcs
    obtain ⟨rfl, rfl, rfl⟩ := hcs
    exact ⟨none, [], 0, rfl, fun i hi => absurd hi (by simp), by simp, by unfold maxLen; omega, by simp⟩
  · simp [Value.cells] at hcs
    obtain ⟨rfl, rfl, rfl⟩ := hcs
    simp only [if_true] at hz
    have hlen : ((ss.take len).map (fun s => s.data.toList)).length = len := by simp; omega
    refine ⟨some a, (ss.take len).map (fun s => s.data.toList), cap, by rw [hlen], fun i hi => ?_, by rw [hlen]; exact hl, hm, fun s hs => ?_⟩
    · rw [hlen] at hi
      obtain ⟨b, off, spot⟩ := a
      have hspot : spot = none := by simpa [Addr.add] using World.cell?_spot (hcell 0 (by omega))
      subst hspot
      refine ⟨b, off, rfl, ?_⟩
      rw [← add_plain, hcell i (by omega)]
      have hi2 : i < ss.length := by omega
      have : ss.getD i ByteArray.empty = ss[i] := by simp [List.getD, hi2]
      rw [this]
      simp only [List.getElem_map, List.getElem_take]
      rfl
    · obtain ⟨x, hx1, rfl⟩ := List.mem_map.1 hs
      have := hws x (List.mem_of_mem_take hx1)
      rw [← bs_size]
      exact this

end Go.Proofs.Ytiaohpkcncbdnab

/- tracker: the sorted order is a row of the call's own. -/
import Derived.Test.YtjdphcjapdklpaaTkZ
import Derived.Test.YtjdphcjapdklpaaTkZa
namespace Go.Proofs.Ytjdphcjapdklpaa
open Go.RowKit Go.Sort
set_option linter.unusedVariables false

theorem sw_own (L : List (Int × Int)) (hpos : 0 < L.length) (d' : Array (Fin L.length)) (w0 W : World) (B blk cap : Nat) (xs : List Value) (hOw : w0.ownsRow B 3 1 (.slice (some ⟨blk, 0, none⟩) L.length cap) L.length xs) (hsz : d'.size = L.length) :
    letI : Inhabited (Fin L.length) := ⟨⟨0, hpos⟩⟩
    SW (encN L) w0 blk 0 d' W → OwnI W B (.slice (some ⟨blk, 0, none⟩) L.length cap) (d'.toList.map fun (i : Fin L.length) => ((i : Nat) : Int)) ∧ (∀ k, k < w0.heap.size → k ≠ blk → W.heap[k]? = w0.heap[k]?) ∧ w0.heap.size ≤ W.heap.size ∧ W.os = w0.os ∧ W.tape = w0.tape ∧ W.output = w0.output := by
  letI : Inhabited (Fin L.length) := ⟨⟨0, hpos⟩⟩
  rintro ⟨n, os, rfl⟩
  rcases hOw.2 with ⟨h1, _⟩ | ⟨g, cp, cur, h1, hb, hg, hnc, hcm, hcs, _⟩
  · cases h1
  cases h1
  have hgl : blk < w0.heap.size := lt_of_block hg
  have hlen : (d'.toList.map fun (i : Fin L.length) => ((i : Nat) : Int)).length = L.length := by simp [hsz]
  have hblk : (sortWorld (encN L) w0 blk 0 n d' os).heap[blk]? = some (.cells (putCells (encN L) 0 d' cur) 3 (0, 0)) := by
    unfold sortWorld
    rw [Sort.heap_grow_old _ _ (by simp [Sort.putRow, Sort.mapBlock, Sort.ahead]; exact hgl)]
    simp only [Sort.putRow, Sort.mapBlock, Sort.ahead, Array.getElem?_modify, if_true]
    rw [hg]
    rfl
  refine ⟨?_, fun k hk hne => sortW_old (encN L) w0 blk n d' os k hk hne, ?_, rfl, rfl, rfl⟩
  · unfold OwnI
    refine ⟨by simp [ic], .inr ⟨blk, cap, _, by rw [hlen], hb, hblk, by rw [hlen]; exact hnc, hcm, by simp [putCells]; simpa using hcs, ?_⟩⟩
    apply List.ext_getElem?
    intro t
    rw [hlen, List.getElem?_take]
    by_cases ht : t < L.length * 1
    · rw [if_pos ht]
      have hc1 : t < cur.size := by omega
      have hq : t < d'.size := by omega
      simp [putCells, hc1, ic, encN, hq]
    · rw [if_neg ht, List.getElem?_eq_none (by simp [ic]; omega)]
  · unfold sortWorld
    simp [Sort.grow, Sort.putRow, Sort.mapBlock, Sort.ahead]
end Go.Proofs.Ytjdphcjapdklpaa


/- Contracts of block's Cut, and of the document's. -/
import Derived.Test.YtkcnihngkmaecaaGreatBlA
import Derived.Test.YtkcnihngkmaecaaGreatCopy
namespace Go.Proofs.YtkcnihngkmaecaaGreat
open Go.RowKit
set_option linter.unusedVariables false

theorem own_below2 {w w' : World} {base n size : Nat} {e : TypeId} {v : Value} {xs : List Value} (h : w.ownsRow base e size v n xs) (hb : Below w.heap.size w w') : w'.ownsRow base e size v n xs := by
  refine ⟨h.1, ?_⟩
  rcases h.2 with h2 | ⟨g, cap, cur, hv, hg, hh, r⟩
  · exact .inl h2
  · exact .inr ⟨g, cap, cur, hv, hg, (hb.block g (lt_of_block hh)).trans hh, r⟩
theorem own_whole {w : World} {base g n : Nat} {e : TypeId} {xs : List Value} (h : w.ownsRow base e 1 (.slice (some ⟨g, 0, none⟩) n n) n xs) : w.heap[g]? = some (.cells xs.toArray e (0, 0)) := by
  rcases h.2 with ⟨h', _⟩ | ⟨g', cap', cur, h', _, hg, _, _, hs, ht⟩
  · cases h'
  · cases h'
    rw [Nat.mul_one, List.take_of_length_le (by simp; omega)] at ht
    rw [← ht]
    exact hg
/-- the first bytes, up to a size, with bytes 0 behind them -/
def pieceL (s : By) (size : Nat) : By := s.take size ++ List.replicate (size - s.length) 0
theorem pieceL_length (s : By) (size : Nat) : (pieceL s size).length = size := by
  unfold pieceL
  rw [List.length_append, List.length_take, List.length_replicate]
  omega
theorem piece_copied (t : By) (m : Nat) : (bc (List.replicate m 0)).take 0 ++ bc (t.take (Nat.min t.length m)) ++ (bc (List.replicate m 0)).drop (0 + Nat.min t.length m) = bc (pieceL t m) := by
  unfold pieceL
  rw [List.take_zero, List.nil_append, bc_append, Nat.zero_add]
  congr 1
  · congr 1
    rcases Nat.le_total t.length m with h | h
    · rw [show Nat.min t.length m = t.length from Nat.min_eq_left h, List.take_of_length_le (Nat.le_refl _), List.take_of_length_le h]
    · rw [show Nat.min t.length m = m from Nat.min_eq_right h]
  · unfold bc
    rw [← List.map_drop, List.drop_replicate]
    congr 2
    rcases Nat.le_total t.length m with h | h
    · rw [show Nat.min t.length m = t.length from Nat.min_eq_left h]
    · rw [show Nat.min t.length m = m from Nat.min_eq_right h]; omega
theorem below_setRow {B : Nat} {x w : World} (h : Below B x w) (g : Nat) (cs : Array Value) (hg : B ≤ g) : Below B x (w.setRow g cs) := by
  refine ⟨h.os, h.tape, h.output, ?_, fun k hk => ?_⟩
  · refine Nat.le_trans h.size ?_
    simp [World.setRow]
  · rw [← h.block k hk]
    simp only [World.setRow, Array.getElem?_modify]
    rw [if_neg (by omega)]
/-- a file's first k blocks -/
def cutL (f : By) (s k : Nat) : List By := (List.range k).map fun i => pieceL (f.drop (i * s)) s
theorem cutL_length (f : By) (s k : Nat) : (cutL f s k).length = k := by simp [cutL]
theorem cutL_succ (f : By) (s k : Nat) : cutL f s (k + 1) = cutL f s k ++ [pieceL (f.drop (k * s)) s] := by simp [cutL, List.range_succ]
/-- Cut's error -/
def cutE (f : By) (size : Int) : Int := if may size = false ∨ f = [] then 1 else if countN f.length size = 0 then 2 else 0
theorem cutE_zero {f : By} {size : Int} (h : cutE f size = 0) : ∃ s : Nat, size = s ∧ 1 ≤ s ∧ s ≤ 64 ∧ 1 ≤ f.length ∧ f.length ≤ 4096 ∧ countN f.length s = (f.length + s - 1) / s ∧ 1 ≤ countN f.length s ∧ countN f.length s ≤ 96 := by
  unfold cutE at h
  split at h
  · cases h
  · split at h
    · cases h
    · rename_i h1 h2
      obtain ⟨l, s, e1, rfl, a, b, c, d, e⟩ := countN_pos h2
      have := countN_le f.length s
      have e1' : f.length = l := by omega
      subst e1'
      exact ⟨s, rfl, c, d, by omega, by omega, e, by omega, this⟩
/-- what Cut answers -/
def cutR (f : By) (size : Int) : List By := if cutE f size = 0 then cutL f size.toNat (countN f.length size) else []
theorem made_strs (n : Nat) : (madeCells #[Value.string ⟨#[]⟩] n).toList = sc (List.replicate n []) := by
  rw [toList_madeCells_one]
  rw [sc, List.map_replicate]
  rfl
theorem sc_set (T : List By) (k : Nat) (t : By) : (sc T).set k (.string (bs t)) = sc (T.set k t) := by simp [sc, List.map_set]
theorem slice_bs (f : By) (j : Nat) : (bs f).extract j f.length = bs (f.drop j) := by
  rw [← bs_size f]
  have h : ((bs f).extract j (bs f).size).data.toList = f.drop j := by
    rw [ByteArray.data_extract]
    simp [bs, ByteArray.size]
    exact List.take_of_length_le (by rw [List.length_drop]; exact Nat.le_refl _)
  rw [← h]
  rfl

theorem cut_step {T : List By} {k n : Nat} {t : By} (hT : T.length = k) (h : k < n) : (T ++ List.replicate (n - k) []).set k t = T ++ [t] ++ List.replicate (n - (k + 1)) [] := by
  rw [List.set_append_right _ _ (by omega), hT, Nat.sub_self, show n - k = (n - (k + 1)) + 1 by omega, List.replicate_succ, List.set_cons_zero, List.append_assoc]
  rfl
end Go.Proofs.YtkcnihngkmaecaaGreat

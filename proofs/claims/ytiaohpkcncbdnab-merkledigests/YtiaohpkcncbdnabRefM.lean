/- Contracts of the document's own functions of layer 1: rotr, K, Start. -/
import Derived.Test.YtiaohpkcncbdnabShaH
import Derived.Test.YtiaohpkcncbdnabRefP
import Derived.Test.YtiaohpkcncbdnabRegB
namespace Go.Proofs.Ytiaohpkcncbdnab
open Go.RowKit
set_option linter.unusedVariables false

set_option maxRecDepth 100000 in
theorem rrotr_any (x : UInt32) (n : Nat) (h1 : 1 ≤ n) (h2 : n ≤ 31) (w : World) :
    Calls Try.prog 39 #[.int .u32 (n32 x), .int .u64 n] w fun e w' => e = .returned (.int .u32 (n32 (rot x n))) ∧ w = w' := by
  have hs := hide (rot_spell x n h1 h2)
  obtain ⟨m, hm⟩ : ∃ m, m = 32 - n := ⟨_, rfl⟩
  rw [← hm] at hs
  have m1 : 1 ≤ m := by omega
  have m2 : m ≤ 31 := by omega
  have m3 : (32 : Int) - n = m := by omega
  clear hm
  go_enter Try.func39, Try.ntmps39
  go_wp2
  go_ret
  refine ⟨?_, rfl⟩
  rw [← unhide hs]
  rfl
theorem rrotr_i (x : UInt32) (n : Int) (w : World) (h1 : 1 ≤ n) (h2 : n ≤ 31) : Calls Try.prog 39 #[.int .u32 (n32 x), .int .u64 n] w fun e w' => e = .returned (.int .u32 (n32 (rot x n.toNat))) ∧ w' = w := by
  obtain ⟨k, rfl⟩ := Int.eq_ofNat_of_zero_le (show 0 ≤ n by omega)
  exact flip_same (rrotr_any x k (by omega) (by omega) w)
theorem rrotr_j (x : UInt32) (n : Int) (w : World) (h1 : 1 ≤ n) (h2 : n ≤ 31) : Calls Try.prog 39 #[.int .u32 (n32 x), .int .u64 n] w fun e w' => e = .returned (.int .u32 (n32 (rot x n.toNat))) ∧ w = w' := by
  obtain ⟨k, rfl⟩ := Int.eq_ofNat_of_zero_le (show 0 ≤ n by omega)
  exact rrotr_any x k (by omega) (by omega) w

theorem wpList_valueW {P : Program} {ops : Array Oper} {rest : List Oper} {o : Oper} {a : Act} {w : World} {Q : Exit → Act → World → Prop} (v : Value) (w2 : World) (hg : o.guard = none) (t : TypeId) (n : Nat) (ps : Array (Nat × Operand)) (ho : o.op = .buildSlice t n ps)
    (hrun : (execOp a.eval o).run P w = .ok (.value v) w2) (h : wpList P ops Q rest (a.put o.dst v) w2) : wpList P ops Q (o :: rest) a w :=
  wpList_plain hg fun _ hK => by
    unfold Oper.wp
    rw [hrun]
    exact hK _ _ h

set_option maxRecDepth 100000 in
theorem rK_any (w : World) :
    Calls Try.prog 38 #[] w fun e w' => e = .returned (.slice (some ⟨w.heap.size, 0, none⟩) 64 64) ∧ WordsAt w' w.heap.size 61 KK ∧ Below w.heap.size w w' := by
  obtain ⟨S, hS⟩ : ∃ S, S = (uc KK).toArray := ⟨_, rfl⟩
  have HS := hide hS
  clear hS
  go_enter Try.func38, Try.ntmps38
  go_wp2_with (refine wpList_valueW (.slice (some ⟨w.heap.size, 0, none⟩) 64 64) (w.alloc (.cells S 61)) rfl _ _ _ rfl ?hb ?_)
  case hb => rw [unhide HS]; kernel_rfl
  go_ret
  refine ⟨rfl, ?_, (Below.refl _ _).alloc (Nat.le_refl _) _⟩
  show _ = _
  rw [heap_alloc_new, unhide HS]
set_option maxRecDepth 100000 in
theorem rStart_any (w : World) :
    Calls Try.prog 28 #[] w fun e w' => e = .returned (.slice (some ⟨w.heap.size, 0, none⟩) 8 8) ∧ WordsAt w' w.heap.size 61 H0 ∧ Below w.heap.size w w' := by
  go_enter Try.func28, Try.ntmps28
  go_wp2
  go_ret
  exact ⟨rfl, heap_alloc_new _ _, (Below.refl _ _).alloc (Nat.le_refl _) _⟩

end Go.Proofs.Ytiaohpkcncbdnab

import Derived.Test.YtcdnpdmcijiffaaShaW
namespace Go.Proofs.Ytcdnpdmcijiffaa
open Go.RowKit
set_option linter.unusedVariables false

/-- H0 to H7 -/
def H0 : List UInt32 := [0x6a09e667, 0xbb67ae85, 0x3c6ef372, 0xa54ff53a, 0x510e527f, 0x9b05688c, 0x1f83d9ab, 0x5be0cd19]
/-- K0 to K63 -/
def KK : List UInt32 := [
    0x428a2f98, 0x71374491, 0xb5c0fbcf, 0xe9b5dba5, 0x3956c25b, 0x59f111f1, 0x923f82a4, 0xab1c5ed5,
    0xd807aa98, 0x12835b01, 0x243185be, 0x550c7dc3, 0x72be5d74, 0x80deb1fe, 0x9bdc06a7, 0xc19bf174,
    0xe49b69c1, 0xefbe4786, 0x0fc19dc6, 0x240ca1cc, 0x2de92c6f, 0x4a7484aa, 0x5cb0a9dc, 0x76f988da,
    0x983e5152, 0xa831c66d, 0xb00327c8, 0xbf597fc7, 0xc6e00bf3, 0xd5a79147, 0x06ca6351, 0x14292967,
    0x27b70a85, 0x2e1b2138, 0x4d2c6dfc, 0x53380d13, 0x650a7354, 0x766a0abb, 0x81c2c92e, 0x92722c85,
    0xa2bfe8a1, 0xa81a664b, 0xc24b8b70, 0xc76c51a3, 0xd192e819, 0xd6990624, 0xf40e3585, 0x106aa070,
    0x19a4c116, 0x1e376c08, 0x2748774c, 0x34b0bcb5, 0x391c0cb3, 0x4ed8aa4a, 0x5b9cca4f, 0x682e6ff3,
    0x748f82ee, 0x78a5636f, 0x84c87814, 0x8cc70208, 0x90befffa, 0xa4506ceb, 0xbef9a3f7, 0xc67178f2]

theorem wpList_value {P : Program} {ops : Array Oper} {rest : List Oper} {o : Oper} {a : Act} {w : World} {Q : Exit → Act → World → Prop} (v : Value) (hg : o.guard = none) (t : TypeId) (ps : Array (Nat × Operand)) (ho : o.op = .build t ps)
    (hrun : (execOp a.eval o).run P w = .ok (.value v) w) (h : wpList P ops Q rest (a.put o.dst v) w) : wpList P ops Q (o :: rest) a w :=
  wpList_plain hg fun _ hK => by
    unfold Oper.wp
    rw [hrun]
    exact hK _ _ h

theorem start_any (w : World) :
    Calls Try.prog 80 #[] w fun e w' => e = .returned (.agg (uc H0).toArray) ∧ Below w.heap.size w w' := by
  go_enter Try.func80, Try.ntmps80
  go_wp2
  refine bodyPost_ret (v := .agg (uc H0).toArray) ?_ rfl ⟨rfl, (Below.refl _ _).alloc (Nat.le_refl _) _⟩
  exact results_cell_row (P := Try.prog) (fn := Try.f80) (p := 0) (ty := 114) (by kernel_rfl) _ _ w.heap.size 114 _ (0, 0) _ (by rfl) (heap_alloc_new _ _) Try.underlying114 rfl (by kernel_rfl)
theorem KK_size : (uc KK).toArray.size = 64 := by rw [List.size_toArray, uc_length]; rfl
theorem KK_one : (uc KK).toArray.all (·.oneCell') = true := all_oneCell_toArray (uc_oneCell _)
theorem zero64_there (w : World) (e : TypeId) : (w.alloc (.cells (uc (List.replicate 64 0)).toArray e)).there w.heap.size 0 64 := fun j hj => by
  have h : WordsAt (w.alloc (.cells (uc (List.replicate 64 0)).toArray e)) w.heap.size e (List.replicate 64 0) := heap_alloc_new _ _
  rw [Nat.zero_add, h.cell j (by rw [List.length_replicate]; exact hj)]
  exact ⟨rfl, h.free j⟩
set_option maxRecDepth 100000 in
theorem consts_any (w : World) :
    Calls Try.prog 85 #[] w fun e w' => e = .returned (.agg (uc KK).toArray) ∧ Below w.heap.size w w' := by
  obtain ⟨S, hS⟩ : ∃ S, S = (uc KK).toArray := ⟨_, rfl⟩
  have hS1 : S.size = 64 := by rw [hS, KK_size]
  have hS2 : S.all (·.oneCell') = true := by rw [hS, KK_one]
  have HS := hide hS
  clear hS
  go_enter Try.func85, Try.ntmps85
  go_wp2_with (first | (refine wpList_value (.agg S) rfl _ _ rfl ?hb ?_) | (refine wpList_store_mid rfl 122 (.tmp 0) (.tmp 1) rfl w.heap.size 0 S rfl rfl ?ht3 ?hi3 hS2 ?_))
  case hb => rw [unhide HS]; kernel_rfl
  case ht3 => rw [hS1]; exact zero64_there _ _
  case hi3 => rw [hS1]; kernel_rfl
  refine bodyPost_ret (v := .agg S) ?_ rfl ⟨by rw [unhide HS], below_setCells (Nat.le_refl _) _ _ _ ((Below.refl _ _).alloc (Nat.le_refl _) _)⟩
  refine results_cell_mid (P := Try.prog) (fn := Try.f85) (p := 0) (ty := 122) (by kernel_rfl) _ _ w.heap.size 0 S.toList _ (by rfl) (World.rangeAt_setCells_same _ _ _ _ (by rw [Array.length_toList, hS1]; exact zero64_there _ _)) Try.underlying122 rfl (by rw [Array.length_toList, hS1]; kernel_rfl)
end Go.Proofs.Ytcdnpdmcijiffaa

/- A state's digest, four bytes a word; cuts and joins of strings. -/
import Derived.Test.YtkcnihngkmaecaaGreatShaZ
namespace Go.Proofs.YtkcnihngkmaecaaGreat
open Go.RowKit
set_option linter.unusedVariables false

theorem bext (s : ByteArray) (a b : Nat) : (s.extract a b).data.toList = (s.data.toList.drop a).take (b - a) := by
  rw [ByteArray.data_extract, Array.toList_extract, List.extract_eq_take_drop]
theorem bapp (s t : ByteArray) : (s ++ t).data.toList = s.data.toList ++ t.data.toList := by simp

theorem digAt_0 (S : List UInt32) (k : Nat) : digAt S (4 * k) = byteOf (n32 (S.getD k 0) / 16777216 % 256) := by
  unfold digAt
  rw [show 4 * k / 4 = k by omega, show 4 * k % 4 = 0 by omega]
  rfl
theorem digAt_1 (S : List UInt32) (k : Nat) : digAt S (4 * k + 1) = byteOf (n32 (S.getD k 0) / 65536 % 256) := by
  unfold digAt
  rw [show (4 * k + 1) / 4 = k by omega, show (4 * k + 1) % 4 = 1 by omega]
  rfl
theorem digAt_2 (S : List UInt32) (k : Nat) : digAt S (4 * k + 2) = byteOf (n32 (S.getD k 0) / 256 % 256) := by
  unfold digAt
  rw [show (4 * k + 2) / 4 = k by omega, show (4 * k + 2) % 4 = 2 by omega]
  rfl
theorem digAt_3 (S : List UInt32) (k : Nat) : digAt S (4 * k + 3) = byteOf (n32 (S.getD k 0) % 256) := by
  unfold digAt
  rw [show (4 * k + 3) / 4 = k by omega, show (4 * k + 3) % 4 = 3 by omega]
  show byteOf (n32 (S.getD k 0) / 1 % 256) = _
  rw [Int.ediv_one]
/-- the four bytes of a word -/
def four (v : Int) : List UInt8 := [byteOf (v / 16777216 % 256), byteOf (v / 65536 % 256), byteOf (v / 256 % 256), byteOf (v % 256)]
theorem bc_four (v : Int) : bc (four v) = [.int .u8 (v / 16777216 % 256), .int .u8 (v / 65536 % 256), .int .u8 (v / 256 % 256), .int .u8 (v % 256)] := by
  simp [bc, four, byteOf_toNat (v / 16777216 % 256) (by omega) (by omega), byteOf_toNat (v / 65536 % 256) (by omega) (by omega), byteOf_toNat (v / 256 % 256) (by omega) (by omega), byteOf_toNat (v % 256) (by omega) (by omega)]
theorem dig_take (S : List UInt32) (k : Nat) (h : k < 8) : (dig S).take (4 * (k + 1)) = (dig S).take (4 * k) ++ four (n32 (S.getD k 0)) := by
  have hl := dig_length S
  have g : ∀ j, (h : j < 32) → (dig S)[j]'(by rw [hl]; exact h) = digAt S j := by intro j hj; simp [dig]
  rw [show 4 * (k + 1) = 4 * k + 1 + 1 + 1 + 1 by omega, List.take_succ_eq_append_getElem (by omega), List.take_succ_eq_append_getElem (by omega), List.take_succ_eq_append_getElem (by omega), List.take_succ_eq_append_getElem (by omega)]
  rw [g _ (by omega), g _ (by omega), g _ (by omega), g _ (by omega)]
  rw [show 4 * k + 1 + 1 = 4 * k + 2 by omega, show 4 * k + 2 + 1 = 4 * k + 3 by omega, digAt_0, digAt_1, digAt_2, digAt_3]
  simp [four]

end Go.Proofs.YtkcnihngkmaecaaGreat

/- Bytes as numbers: or, and, exclusive or, and not. -/
import Derived.Test.YtkcnihngkmaecaaGreatLib
import Derived.Laws.BitsAllLaws
namespace Go.Proofs.YtkcnihngkmaecaaGreat
open Go.RowKit
set_option linter.unusedVariables false

theorem xor8 (x y : UInt8) : bits .xor .u8 (x.toNat : Int) (y.toNat : Int) = ((x ^^^ y).toNat : Int) := by
  rw [u8_xor_nat _ _ x.toNat_lt y.toNat_lt, UInt8.toNat_xor]
theorem and8 (x y : UInt8) : bits .and .u8 (x.toNat : Int) (y.toNat : Int) = ((x &&& y).toNat : Int) := by
  rw [u8_and_nat _ _ x.toNat_lt y.toNat_lt, UInt8.toNat_and]
theorem or8 (x y : UInt8) : bits .or .u8 (x.toNat : Int) (y.toNat : Int) = ((x ||| y).toNat : Int) := by
  rw [u8_or_nat _ _ x.toNat_lt y.toNat_lt, UInt8.toNat_or]
theorem andNot8 (x y : UInt8) : bits .andNot .u8 (x.toNat : Int) (y.toNat : Int) = ((x &&& ~~~y).toNat : Int) := by
  have h := y.toNat_lt
  rw [u8_andNot_nat _ _ x.toNat_lt y.toNat_lt, UInt8.toNat_and]
  have : (~~~y).toNat = 255 - y.toNat := by
    rw [UInt8.toNat_not]; rfl
  rw [this]
theorem byteOf_nat (x : UInt8) : byteOf (x.toNat : Int) = x := by
  unfold byteOf
  simp
end Go.Proofs.YtkcnihngkmaecaaGreat

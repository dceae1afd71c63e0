/- SHA-256 as plain functions of words and bytes, and how the model spells their steps. -/
import Derived.Test.YtcdnpdmcijiffaaLib
import Derived.Laws.BitsAllLaws
namespace Go.Proofs.Ytcdnpdmcijiffaa
open Go.RowKit
set_option linter.unusedVariables false

/-- a word as a number -/
def n32 (x : UInt32) : Int := (x.toNat : Int)
theorem n32_nonneg (x : UInt32) : 0 ≤ n32 x := by unfold n32; omega
theorem n32_lt (x : UInt32) : n32 x < 4294967296 := by have := x.toNat_lt; unfold n32; omega
theorem n32_lit (k : Nat) (h : k < 4294967296) : ((k : Nat) : Int) = n32 (UInt32.ofNat k) := by
  unfold n32
  rw [UInt32.toNat_ofNat', Nat.mod_eq_of_lt h]

/-- words as cells -/
def uc (l : List UInt32) : List Value := l.map fun x => Value.int .u32 (n32 x)
theorem uc_length (l : List UInt32) : (uc l).length = l.length := by simp [uc]
theorem uc_append (l m : List UInt32) : uc (l ++ m) = uc l ++ uc m := by simp [uc]
theorem uc_get (l : List UInt32) (j : Nat) (h : j < l.length) : (uc l)[j]? = some (Value.int .u32 (n32 (l[j]))) := by simp [uc, h]
theorem uc_set (l : List UInt32) (j : Nat) (x : UInt32) : (uc l).set j (Value.int .u32 (n32 x)) = uc (l.set j x) := by simp [uc, List.map_set]
theorem uc_oneCell (l : List UInt32) : ∀ u ∈ uc l, u.oneCell' = true := by
  intro u hu
  simp only [uc, List.mem_map] at hu
  obtain ⟨b, _, rfl⟩ := hu
  rfl

theorem xor32 (x y : UInt32) : bits .xor .u32 (n32 x) (n32 y) = n32 (x ^^^ y) := by
  unfold n32
  rw [u32_xor_nat _ _ x.toNat_lt y.toNat_lt, UInt32.toNat_xor]
theorem and32 (x y : UInt32) : bits .and .u32 (n32 x) (n32 y) = n32 (x &&& y) := by
  unfold n32
  rw [u32_and_nat _ _ x.toNat_lt y.toNat_lt, UInt32.toNat_and]
theorem or32 (x y : UInt32) : bits .or .u32 (n32 x) (n32 y) = n32 (x ||| y) := by
  unfold n32
  rw [u32_or_nat _ _ x.toNat_lt y.toNat_lt, UInt32.toNat_or]
theorem add32 (x y : UInt32) : (n32 x + n32 y) % 4294967296 = n32 (x + y) := by
  unfold n32
  rw [UInt32.toNat_add]
  omega

theorem ones_xor (x : UInt32) : (4294967295 : UInt32) ^^^ x = ~~~x := by
  apply UInt32.toBitVec_inj.1
  rw [UInt32.toBitVec_xor, UInt32.toBitVec_not]
  exact BitVec.allOnes_xor
theorem not32' (x : UInt32) : bits .xor .u32 (4294967295 : Int) (n32 x) = n32 (~~~x) := by
  rw [← ones_xor]
  exact xor32 4294967295 x
theorem not32 (x : UInt32) : bits .xor .u32 IntKind.u32.max (n32 x) = n32 (~~~x) := not32' x

/-- a word turned right -/
def rot (x : UInt32) (n : Nat) : UInt32 := UInt32.ofNat (x.toNat / 2 ^ n ||| x.toNat * 2 ^ (32 - n) % 4294967296)
theorem rot_spell (x : UInt32) (n : Nat) (hn : 1 ≤ n) (h : n ≤ 31) : bits .or .u32 (n32 x / 2 ^ n) (n32 x * 2 ^ (32 - n) % 4294967296) = n32 (rot x n) := by
  unfold n32
  have hx := x.toNat_lt
  have h1 : (x.toNat / 2 ^ n) < 4294967296 := Nat.lt_of_le_of_lt (Nat.div_le_self _ _) hx
  have h2 : x.toNat * 2 ^ (32 - n) % 4294967296 < 4294967296 := Nat.mod_lt _ (by omega)
  have e1 : (x.toNat : Int) / 2 ^ n = ((x.toNat / 2 ^ n : Nat) : Int) := by
    rw [Int.natCast_ediv, Int.natCast_pow]; rfl
  have e2 : (x.toNat : Int) * 2 ^ (32 - n) % 4294967296 = ((x.toNat * 2 ^ (32 - n) % 4294967296 : Nat) : Int) := by
    rw [Int.natCast_emod, Int.natCast_mul, Int.natCast_pow]; rfl
  rw [e1, e2, u32_or_nat _ _ h1 h2]
  unfold rot
  rw [UInt32.toNat_ofNat']
  have h3 : (x.toNat / 2 ^ n ||| x.toNat * 2 ^ (32 - n) % 4294967296) < 2 ^ 32 := Nat.or_lt_two_pow h1 h2
  rw [Nat.mod_eq_of_lt h3]
theorem or_comm32 (x y : Int) : bits .or .u32 x y = bits .or .u32 y x := by
  unfold bits
  simp only [BitVec.or_comm]
theorem rot_spell2 (x : UInt32) (n : Nat) (hn : 1 ≤ n) (h : n ≤ 31) : bits .or .u32 (n32 x * 2 ^ (32 - n) % 4294967296) (n32 x / 2 ^ n) = n32 (rot x n) := by
  rw [or_comm32, rot_spell x n hn h]
theorem neg_and31 (n : Nat) (hn : 1 ≤ n) (h : n ≤ 31) : bits .and .u64 (IntKind.u64.wrap (-(n : Int))) 31 = ((32 - n : Nat) : Int) := by
  have : ∀ k : Fin 32, 1 ≤ k.val → bits .and .u64 (IntKind.u64.wrap (-(k.val : Int))) 31 = ((32 - k.val : Nat) : Int) := by decide +kernel
  exact this ⟨n, by omega⟩ hn

end Go.Proofs.Ytcdnpdmcijiffaa

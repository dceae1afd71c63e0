/- SHA-256 as plain functions of words and bytes, and how the model spells their steps. Contracts of sha's small functions: rotr, turned, Start, constants. Contract of sha's spread: the words W0 to W63 of a block. -/
import Derived.Test.YtkcnihngkmaecaaGreatLib
import Derived.Laws.BitsAllLaws
import Derived.Deep.QuietTactic
import Derived.BigQuiet
import Derived.Deep.MidRow
import Derived.Deep.RegionHeld3
namespace Go.Proofs.YtkcnihngkmaecaaGreat
open Go.RowKit
set_option linter.unusedVariables false

/-- a word as a number -/
def n32 (x : UInt32) : Int := (x.toNat : Int)
theorem n32_nonneg (x : UInt32) : 0 ≤ n32 x := by unfold n32; omega
theorem n32_lt (x : UInt32) : n32 x < 4294967296 := by have := x.toNat_lt; unfold n32; omega
theorem n32_lit (k : Nat) (h : k < 4294967296) : ((k : Nat) : Int) = n32 (UInt32.ofNat k) := by
  unfold n32
  rw [UInt32.toNat_ofNat', Nat.mod_eq_of_lt h]

/-- words as cells -/
def uc (l : List UInt32) : List Value := l.map fun x => Value.int .u32 (n32 x)
theorem uc_length (l : List UInt32) : (uc l).length = l.length := by simp [uc]
theorem uc_append (l m : List UInt32) : uc (l ++ m) = uc l ++ uc m := by simp [uc]
theorem uc_get (l : List UInt32) (j : Nat) (h : j < l.length) : (uc l)[j]? = some (Value.int .u32 (n32 (l[j]))) := by simp [uc, h]
theorem uc_set (l : List UInt32) (j : Nat) (x : UInt32) : (uc l).set j (Value.int .u32 (n32 x)) = uc (l.set j x) := by simp [uc, List.map_set]
theorem uc_oneCell (l : List UInt32) : ∀ u ∈ uc l, u.oneCell' = true := by
  intro u hu
  simp only [uc, List.mem_map] at hu
  obtain ⟨b, _, rfl⟩ := hu
  rfl

theorem xor32 (x y : UInt32) : bits .xor .u32 (n32 x) (n32 y) = n32 (x ^^^ y) := by
  unfold n32
  rw [u32_xor_nat _ _ x.toNat_lt y.toNat_lt, UInt32.toNat_xor]
theorem and32 (x y : UInt32) : bits .and .u32 (n32 x) (n32 y) = n32 (x &&& y) := by
  unfold n32
  rw [u32_and_nat _ _ x.toNat_lt y.toNat_lt, UInt32.toNat_and]
theorem or32 (x y : UInt32) : bits .or .u32 (n32 x) (n32 y) = n32 (x ||| y) := by
  unfold n32
  rw [u32_or_nat _ _ x.toNat_lt y.toNat_lt, UInt32.toNat_or]
theorem add32 (x y : UInt32) : (n32 x + n32 y) % 4294967296 = n32 (x + y) := by
  unfold n32
  rw [UInt32.toNat_add]
  omega

theorem ones_xor (x : UInt32) : (4294967295 : UInt32) ^^^ x = ~~~x := by
  apply UInt32.toBitVec_inj.1
  rw [UInt32.toBitVec_xor, UInt32.toBitVec_not]
  exact BitVec.allOnes_xor
theorem not32' (x : UInt32) : bits .xor .u32 (4294967295 : Int) (n32 x) = n32 (~~~x) := by
  rw [← ones_xor]
  exact xor32 4294967295 x
theorem not32 (x : UInt32) : bits .xor .u32 IntKind.u32.max (n32 x) = n32 (~~~x) := not32' x

/-- a word turned right -/
def rot (x : UInt32) (n : Nat) : UInt32 := UInt32.ofNat (x.toNat / 2 ^ n ||| x.toNat * 2 ^ (32 - n) % 4294967296)
theorem rot_spell (x : UInt32) (n : Nat) (hn : 1 ≤ n) (h : n ≤ 31) : bits .or .u32 (n32 x / 2 ^ n) (n32 x * 2 ^ (32 - n) % 4294967296) = n32 (rot x n) := by
  unfold n32
  have hx := x.toNat_lt
  have h1 : (x.toNat / 2 ^ n) < 4294967296 := Nat.lt_of_le_of_lt (Nat.div_le_self _ _) hx
  have h2 : x.toNat * 2 ^ (32 - n) % 4294967296 < 4294967296 := Nat.mod_lt _ (by omega)
  have e1 : (x.toNat : Int) / 2 ^ n = ((x.toNat / 2 ^ n : Nat) : Int) := by
    rw [Int.natCast_ediv, Int.natCast_pow]; rfl
  have e2 : (x.toNat : Int) * 2 ^ (32 - n) % 4294967296 = ((x.toNat * 2 ^ (32 - n) % 4294967296 : Nat) : Int) := by
    rw [Int.natCast_emod, Int.natCast_mul, Int.natCast_pow]; rfl
  rw [e1, e2, u32_or_nat _ _ h1 h2]
  unfold rot
  rw [UInt32.toNat_ofNat']
  have h3 : (x.toNat / 2 ^ n ||| x.toNat * 2 ^ (32 - n) % 4294967296) < 2 ^ 32 := Nat.or_lt_two_pow h1 h2
  rw [Nat.mod_eq_of_lt h3]
theorem or_comm32 (x y : Int) : bits .or .u32 x y = bits .or .u32 y x := by
  unfold bits
  simp only [BitVec.or_comm]
theorem rot_spell2 (x : UInt32) (n : Nat) (hn : 1 ≤ n) (h : n ≤ 31) : bits .or .u32 (n32 x * 2 ^ (32 - n) % 4294967296) (n32 x / 2 ^ n) = n32 (rot x n) := by
  rw [or_comm32, rot_spell x n hn h]
theorem neg_and31 (n : Nat) (hn : 1 ≤ n) (h : n ≤ 31) : bits .and .u64 (IntKind.u64.wrap (-(n : Int))) 31 = ((32 - n : Nat) : Int) := by
  have : ∀ k : Fin 32, 1 ≤ k.val → bits .and .u64 (IntKind.u64.wrap (-(k.val : Int))) 31 = ((32 - k.val : Nat) : Int) := by decide +kernel
  exact this ⟨n, by omega⟩ hn

end Go.Proofs.YtkcnihngkmaecaaGreat
namespace Go.Proofs.YtkcnihngkmaecaaGreat
open Go.RowKit
set_option linter.unusedVariables false

set_option maxRecDepth 100000 in
theorem rotl_any (x : UInt32) (n : Nat) (h1 : 1 ≤ n) (h2 : n ≤ 31) (w : World) :
    Calls Tryz.prog 122 #[.int .u32 (n32 x), .int .i64 (-(n : Int))] w fun e w' => e = .returned (.int .u32 (n32 (rot x n))) ∧ w = w' := by
  have hs := hide (rot_spell2 x n h1 h2)
  have ha := neg_and31 n h1 h2
  obtain ⟨m, hm⟩ : ∃ m, m = 32 - n := ⟨_, rfl⟩
  rw [← hm] at ha hs
  have m1 : 1 ≤ m := by omega
  have m2 : m ≤ 31 := by omega
  have m3 : 32 - m = n := by omega
  clear hm
  go_enter Tryz.func122, Tryz.ntmps122
  go_wp2
  go_ret
  refine ⟨?_, rfl⟩
  rw [← unhide hs]
  rfl

set_option maxRecDepth 100000 in
theorem rotr_any (x : UInt32) (n : Nat) (h1 : 1 ≤ n) (h2 : n ≤ 31) (w : World) :
    Calls Tryz.prog 121 #[.int .u32 (n32 x), .int .i64 n] w fun e w' => e = .returned (.int .u32 (n32 (rot x n))) ∧ w = w' := by
  go_enter Tryz.func121, Tryz.ntmps121
  go_wp2_with (go_at_call 122; refine (rotl_any x n h1 h2 _).mono ?_; rintro e w' ⟨rfl, rfl⟩)
  go_ret
  exact ⟨rfl, rfl⟩

theorem flip_same {P : Program} {f : FuncId} {args : Array Value} {w : World} {v : Value} (h : Calls P f args w fun e w' => e = .returned v ∧ w = w') : Calls P f args w fun e w' => e = .returned v ∧ w' = w :=
  h.mono fun _ _ ⟨a, b⟩ => ⟨a, b.symm⟩
theorem quiet_same2 {P : Program} {f : FuncId} {args : Array Value} {w : World} {a n : Nat} {v : Value} (h : Calls P f args (w.drewN (a + n)) fun e w' => e = .returned v ∧ w' = w.drewN (a + n)) : Calls P f args (w.drewN (a + n)) fun e w'' => e = .returned v ∧ ∃ m, w'' = w.drewN (a + m) :=
  h.mono fun _ _ ⟨x, y⟩ => ⟨x, n, y⟩
theorem rotr_i (x : UInt32) (n : Int) (w : World) (h1 : 1 ≤ n) (h2 : n ≤ 31) : Calls Tryz.prog 121 #[.int .u32 (n32 x), .int .i64 n] w fun e w' => e = .returned (.int .u32 (n32 (rot x n.toNat))) ∧ w' = w := by
  obtain ⟨k, rfl⟩ := Int.eq_ofNat_of_zero_le (show 0 ≤ n by omega)
  exact flip_same (rotr_any x k (by omega) (by omega) w)

attribute [local go_sem] xor32 and32 or32 add32

set_option maxRecDepth 100000 in
theorem turned_any (x : UInt32) (i j k : Nat) (hi : 1 ≤ i ∧ i ≤ 31) (hj : 1 ≤ j ∧ j ≤ 31) (hk : 1 ≤ k ∧ k ≤ 31) (w : World) :
    Calls Tryz.prog 120 #[.int .u32 (n32 x), .int .i64 i, .int .i64 j, .int .i64 k] w fun e w' => e = .returned (.int .u32 (n32 (rot x i ^^^ rot x j ^^^ rot x k))) ∧ w = w' := by
  go_enter Tryz.func120, Tryz.ntmps120
  go_wp2_with fail
  refine (rotr_any x i hi.1 hi.2 w).mono ?_
  rintro e w' ⟨rfl, rfl⟩
  go_wp2_with fail
  refine (rotr_any x j hj.1 hj.2 w).mono ?_
  rintro e w' ⟨rfl, rfl⟩
  go_wp2_with fail
  refine (rotr_any x k hk.1 hk.2 w).mono ?_
  rintro e w' ⟨rfl, rfl⟩
  go_wp2
  go_ret
  exact ⟨rfl, rfl⟩

theorem turned_e (x : UInt32) (w : World) : Calls Tryz.prog 120 #[.int .u32 (n32 x), .int .i64 6, .int .i64 11, .int .i64 25] w fun e w' => e = .returned (.int .u32 (n32 (rot x 6 ^^^ rot x 11 ^^^ rot x 25))) ∧ w' = w :=
  flip_same (turned_any x 6 11 25 (by decide) (by decide) (by decide) w)
theorem turned_a (x : UInt32) (w : World) : Calls Tryz.prog 120 #[.int .u32 (n32 x), .int .i64 2, .int .i64 13, .int .i64 22] w fun e w' => e = .returned (.int .u32 (n32 (rot x 2 ^^^ rot x 13 ^^^ rot x 22))) ∧ w' = w :=
  flip_same (turned_any x 2 13 22 (by decide) (by decide) (by decide) w)

end Go.Proofs.YtkcnihngkmaecaaGreat
namespace Go.Proofs.YtkcnihngkmaecaaGreat
open Go.RowKit
set_option linter.unusedVariables false

/-- one more byte behind a word -/
def pushByte (x : UInt32) (b : UInt8) : UInt32 := x <<< 8 ||| UInt32.ofNat b.toNat
theorem push_spell (x : UInt32) (b : UInt8) : bits .or .u32 (n32 x * 256 % 4294967296) b.toNat = n32 (pushByte x b) := by
  have hb := b.toNat_lt
  have hx := x.toNat_lt
  unfold pushByte n32
  have e1 : (x.toNat : Int) * 256 % 4294967296 = ((x.toNat * 256 % 4294967296 : Nat) : Int) := by omega
  rw [e1, u32_or_nat _ _ (Nat.mod_lt _ (by omega)) (by omega), UInt32.toNat_or, UInt32.toNat_shiftLeft, UInt32.toNat_ofNat']
  rw [Nat.mod_eq_of_lt (show b.toNat < 2 ^ 32 by omega), Nat.shiftLeft_eq]
  rfl

/-- word j of a block, of whose bytes the first k were read -/
def wpart (B : List UInt8) (k j : Nat) : UInt32 := (((B.take k).drop (4 * j)).take 4).foldl pushByte 0
/-- all 64 of them -/
def wparts (B : List UInt8) (k : Nat) : List UInt32 := (List.range 64).map (wpart B k)
theorem wparts_length (B : List UInt8) (k : Nat) : (wparts B k).length = 64 := by simp [wparts]
theorem wparts_get (B : List UInt8) (k j : Nat) (h : j < 64) : (wparts B k)[j]'(by rw [wparts_length]; exact h) = wpart B k j := by simp [wparts]
theorem wparts_zero (B : List UInt8) : wparts B 0 = List.replicate 64 0 := by
  apply List.ext_getElem
  · simp [wparts]
  · intro i h1 h2
    rw [List.getElem_replicate, wparts_get _ _ _ (by rw [wparts_length] at h1; exact h1)]
    simp [wpart]
theorem wpart_same (B : List UInt8) (k : Nat) (h : k < B.length) : wpart B (k + 1) (k / 4) = pushByte (wpart B k (k / 4)) B[k] := by
  have hl : ((B.take k).drop (4 * (k / 4))).length ≤ 3 := by simp only [List.length_drop, List.length_take]; omega
  have e1 : (B.take (k + 1)).drop (4 * (k / 4)) = (B.take k).drop (4 * (k / 4)) ++ [B[k]] := by
    rw [List.take_succ_eq_append_getElem h, List.drop_append_of_le_length (by rw [List.length_take]; omega)]
  unfold wpart
  rw [e1]
  generalize (B.take k).drop (4 * (k / 4)) = X at *
  rw [List.take_of_length_le (show (X ++ [B[k]]).length ≤ 4 by rw [List.length_append, List.length_singleton]; omega), List.take_of_length_le (show X.length ≤ 4 by omega), List.foldl_append]
  rfl
theorem wpart_other (B : List UInt8) (k j : Nat) (h : k < B.length) (hj : j ≠ k / 4) : wpart B (k + 1) j = wpart B k j := by
  unfold wpart
  congr 1
  rw [List.take_succ_eq_append_getElem h]
  by_cases hc : 4 * j ≤ k
  · rw [List.drop_append_of_le_length (by rw [List.length_take]; omega), List.take_append_of_le_length (by simp only [List.length_drop, List.length_take]; omega)]
  · rw [List.drop_eq_nil_of_le (by simp only [List.length_append, List.length_take, List.length_singleton]; omega), List.drop_eq_nil_of_le (by simp only [List.length_take]; omega)]
theorem wparts_step (B : List UInt8) (k : Nat) (h : k < B.length) (h64 : k < 64) : (wparts B k).set (k / 4) (pushByte (wpart B k (k / 4)) B[k]) = wparts B (k + 1) := by
  apply List.ext_getElem
  · simp [wparts]
  · intro i h1 h2
    simp only [List.length_set, wparts_length] at h1
    rw [List.getElem_set]
    by_cases e : k / 4 = i
    · rw [if_pos e]
      subst e
      rw [wparts_get _ _ _ h1, wpart_same B k h]
    · rw [if_neg e, wparts_get _ _ _ h1, wparts_get _ _ _ h1, wpart_other B k i h (fun h => e h.symm)]

def s0 (x : UInt32) : UInt32 := rot x 7 ^^^ rot x 18 ^^^ x >>> 3
def s1 (x : UInt32) : UInt32 := rot x 17 ^^^ rot x 19 ^^^ x >>> 10
/-- the next word behind the first t ones -/
def nextW (l : List UInt32) : UInt32 := s1 (l.getD (l.length - 2) 0) + l.getD (l.length - 7) 0 + s0 (l.getD (l.length - 15) 0) + l.getD (l.length - 16) 0
/-- the first 16 + n words -/
def schedN (B : List UInt8) : Nat → List UInt32
  | 0 => (wparts B 64).take 16
  | n + 1 => schedN B n ++ [nextW (schedN B n)]
/-- W0 to W63 -/
def sched (B : List UInt8) : List UInt32 := schedN B 48
theorem schedN_length (B : List UInt8) (n : Nat) : (schedN B n).length = 16 + n := by
  induction n with
  | zero => simp [schedN, wparts_length]
  | succ n ih => simp [schedN, ih]; omega

theorem run_index_agg {P : Program} (t e : TypeId) (n : Nat) (cs : Array Value) (k : IntKind) (i : Nat) (v : Value) (hu : P.underlying t = some (.array n e)) (hd : ∃ d, P.underlying e = some d ∧ (match d with | .struct _ | .array _ _ => true | _ => false) = false)
    (hs : (P.info? e).map (·.size) = some 1) (hi : i < n) (hv : cs[i]? = some v) (w : World) : (Instr.index t (.agg cs) (.int k i)).run P w = .ok v w := by
  obtain ⟨d, hd1, hd2⟩ := hd
  have hagg : (isAgg e).run P w = .ok false w := by
    unfold isAgg
    rw [Sem.run_bind, run_underlying hd1 w]
    cases d <;> simp_all
  cases hq : P.info? e with
  | none => simp [hq] at hs
  | some inf =>
    have hs1 : inf.size = 1 := by simpa [hq] using hs
    have c1 : (0 : Int) ≤ (i : Int) ∧ (i : Int) < (n : Int) := ⟨by omega, by omega⟩
    simp [Instr.index, asIntOf, run_underlying hu, c1, sizeOf, typeInfo, hq, hs1, part, hagg, hv]
    intro h
    omega

/-- a block of words -/
def WordsAt (w : World) (g : Nat) (t : TypeId) (L : List UInt32) : Prop := w.heap[g]? = some (.cells (uc L).toArray t (0, 0))
theorem WordsAt.cell {w : World} {g : Nat} {t : TypeId} {L : List UInt32} (h : WordsAt w g t L) (j : Nat) (hj : j < L.length) : w.cell? ⟨g, j, none⟩ = some (.int .u32 (n32 L[j])) := by
  rw [cell_of_row w g j _ t (0, 0) h]
  simp only [List.getElem?_toArray]
  exact uc_get L j hj
theorem WordsAt.free {w : World} {g : Nat} {t : TypeId} {L : List UInt32} (h : WordsAt w g t L) (j : Nat) : w.frozen? ⟨g, j, none⟩ = false := frozen_of_row w g j _ t h
theorem WordsAt.set {w : World} {g : Nat} {t : TypeId} {L : List UInt32} (h : WordsAt w g t L) (j : Nat) (x : UInt32) : WordsAt (w.setCell ⟨g, j, none⟩ (.int .u32 (n32 x))) g t (L.set j x) := by
  unfold WordsAt
  rw [heap_setCell_same w g j _ t _ h, ← uc_set]
  simp
theorem WordsAt.other {w : World} {g g' j : Nat} {t : TypeId} {L : List UInt32} (h : WordsAt w g t L) (v : Value) (hne : g ≠ g') : WordsAt (w.setCell ⟨g', j, none⟩ v) g t L := by
  unfold WordsAt
  rw [heap_setCell_other w ⟨g', j, none⟩ g v hne]
  exact h

theorem shr32 (x : UInt32) (n : Nat) (h : n < 32) : n32 x / 2 ^ n = n32 (x >>> UInt32.ofNat n) := by
  unfold n32
  rw [UInt32.toNat_shiftRight, UInt32.toNat_ofNat', Nat.mod_eq_of_lt (show n < 2 ^ 32 by omega), Nat.mod_eq_of_lt h, Nat.shiftRight_eq_div_pow, Int.natCast_ediv, Int.natCast_pow]
  rfl
theorem shr32_3 (x : UInt32) : n32 x / (8 : Int) = n32 (x >>> 3) := shr32 x 3 (by decide)
theorem shr32_10 (x : UInt32) : n32 x / (1024 : Int) = n32 (x >>> 10) := shr32 x 10 (by decide)

theorem wparts_64 (B : List UInt8) (hB : B.length = 64) : wparts B 64 = schedN B 0 ++ List.replicate 48 0 := by
  apply List.ext_getElem
  · rw [List.length_append, schedN_length, wparts_length, List.length_replicate]
  · intro i h1 h2
    rw [wparts_length] at h1
    rw [List.getElem_append]
    split
    · simp only [schedN, List.getElem_take]
    · rename_i hge
      rw [schedN_length] at hge
      rw [List.getElem_replicate, wparts_get _ _ _ h1]
      unfold wpart
      rw [List.drop_eq_nil_of_le (by rw [List.length_take]; omega)]
      rfl
/-- the words so far, and zeros behind them -/
def wfill (B : List UInt8) (n : Nat) : List UInt32 := schedN B n ++ List.replicate (48 - n) 0
theorem wfill_length (B : List UInt8) (n : Nat) (h : n ≤ 48) : (wfill B n).length = 64 := by
  unfold wfill
  rw [List.length_append, schedN_length, List.length_replicate]
  omega
theorem wfill_get (B : List UInt8) (n j : Nat) (h : n ≤ 48) (hj : j < 16 + n) : (wfill B n)[j]'(by rw [wfill_length B n h]; omega) = (schedN B n).getD j 0 := by
  unfold wfill
  rw [List.getElem_append_left (by rw [schedN_length]; exact hj)]
  simp [List.getD, schedN_length, hj]
theorem wfill_step (B : List UInt8) (n : Nat) (h : n < 48) : (wfill B n).set (16 + n) (nextW (schedN B n)) = wfill B (n + 1) := by
  unfold wfill
  rw [List.set_append_right _ _ (by rw [schedN_length]; omega), schedN_length, Nat.sub_self, show 48 - n = (48 - (n + 1)) + 1 by omega, List.replicate_succ, List.set_cons_zero]
  simp [schedN]
theorem wfill_full (B : List UInt8) : wfill B 48 = sched B := by
  unfold wfill sched
  rw [Nat.sub_self, List.replicate_zero, List.append_nil]

theorem heap3_a (w : World) (A B C : Obj) : (((w.alloc A).alloc B).alloc C).heap[w.heap.size]? = some A := by
  rw [Below.heap_alloc _ _ _ (by simp; omega)]
  exact heap_alloc2_old w A B
theorem heap3_b (w : World) (A B C : Obj) : (((w.alloc A).alloc B).alloc C).heap[w.heap.size + 1]? = some B := by
  rw [Below.heap_alloc _ _ _ (by simp)]
  exact heap_alloc2_new w A B
theorem heap3_c (w : World) (A B C : Obj) : (((w.alloc A).alloc B).alloc C).heap[w.heap.size + 1 + 1]? = some C := by
  have h := heap_alloc_new ((w.alloc A).alloc B) C
  have e : ((w.alloc A).alloc B).heap.size = w.heap.size + 1 + 1 := by simp
  rwa [e] at h

theorem results_cell_mid {P : Program} {fn : Func} {p : Tmp} {ty : TypeId} (h : fn.results = #[.cell p ty]) (tmps : Array Value) (w : World) (g o : Nat) (cs : List Value) (d : TypeDesc)
    (hp : tmps.getD p undef = .pointer (some ⟨g, o, none⟩)) (hg : w.rangeAt g o cs)
    (hu : P.underlying ty = some d) (hd : d.isRow = true) (hi : (P.info? ty).map (·.size) = some cs.length) :
    (results fn tmps).run P w = .ok (.agg cs.toArray) w := by
  have hp' : tmps[p]?.getD undef = .pointer (some ⟨g, o, none⟩) := by simpa using hp
  simp [results, h, hp', asAddr, run_loadVar_mid w g o ty cs d hg hu hd hi]
theorem below_setCells {B g : Nat} {w0 : World} (hBg : B ≤ g) : ∀ (vs : List Value) (o : Nat) (w : World), Below B w0 w → Below B w0 (w.setCells g o vs)
  | [], _, _, h => h
  | v :: vs, o, w, h => below_setCells hBg vs (o + 1) _ (h.setCell hBg v)

end Go.Proofs.YtkcnihngkmaecaaGreat
namespace Go.Proofs.YtkcnihngkmaecaaGreat
open Go.RowKit
set_option linter.unusedVariables false
attribute [local go_sem] xor32 and32 or32 add32 shr32_3 shr32_10

set_option maxRecDepth 100000 in
theorem spread_any (B : List UInt8) (hB : B.length = 64) (w : World) :
    Calls Tryz.prog 119 #[.agg (bc B).toArray] w fun e w' => e = .returned (.agg (uc (sched B)).toArray) ∧ Below w.heap.size w w' := by
  obtain ⟨cs, hcs⟩ : ∃ cs, cs = (bc B).toArray := ⟨_, rfl⟩
  rw [← hcs]
  have HC := hide hcs
  clear hcs
  go_enter Tryz.func119, Tryz.ntmps119
  go_wp2_with (refine wpList_load_row rfl 145 (.tmp 1) rfl w.heap.size rfl 145 cs (0, 0) _ ?hg Tryz.underlying145 rfl ?hi ?_)
  case hg => exact heap3_a _ _ _ _
  case hi => rw [unhide HC, List.size_toArray, bc_length, hB]; kernel_rfl
  go_loopw [10] (fun i wr => ∃ k : Nat, k ≤ 64 ∧ i = .int .i64 k ∧ WordsAt wr (w.heap.size + 1 + 1) 151 (wparts B k) ∧ WordsAt wr (w.heap.size + 1) 151 (wparts B 0) ∧ wr.heap.size = w.heap.size + 3 ∧ Below w.heap.size w wr) (fun i _ => 64 - (intOf i).toNat)
  case atStart =>
    refine ⟨0, by omega, rfl, ?_, ?_, by simp, ((((Below.refl _ _).alloc (Nat.le_refl _) _).alloc (by simp) _).alloc (by simp; omega) _)⟩
    · rw [wparts_zero]
      exact heap3_c _ _ _ _
    · rw [wparts_zero]
      exact heap3_b _ _ _ _
  case round =>
    obtain ⟨k, hk, rfl, hw1, hw2, hsz, hb⟩ := hrel
    by_cases hlt : k < 64
    · have c1 := hw1.cell (k / 4) (by rw [wparts_length]; omega)
      rw [wparts_get _ _ _ (by omega)] at c1
      have f1 := hw1.free (k / 4)
      have hkB : k < B.length := by omega
      have hix := run_index_agg (P := Tryz.prog) 145 5 64 cs .i64 k (.int .u8 (B[k]).toNat) Tryz.underlying145 ⟨_, Tryz.underlying5, rfl⟩ (by kernel_rfl) hlt (by rw [unhide HC]; simp only [List.getElem?_toArray]; exact bc_get B k hkB)
      have hsp := push_spell (wpart B k (k / 4)) B[k]
      have hst := hide (hw1.set (k / 4) (pushByte (wpart B k (k / 4)) B[k]))
      have hst2 := hide (hw2.other (j := k / 4) (g' := w.heap.size + 1 + 1) (.int .u32 (n32 (pushByte (wpart B k (k / 4)) B[k]))) (by omega))
      have hb2 := hide (hb.setCell (p := ⟨w.heap.size + 1 + 1, k / 4, none⟩) (by simp; omega) (.int .u32 (n32 (pushByte (wpart B k (k / 4)) B[k]))))
      rw [wparts_step B k hkB hlt] at hst
      have HSZ := hide hsz
      clear hw1 hw2 hb hsz
      have hk0 : (0 : Int) ≤ k := by omega
      have hbt := B[k].toNat_lt
      go_wp2
      go_roundw
      case rel => exact ⟨k + 1, by omega, by go_num, unhide hst, unhide hst2, by simp; exact unhide HSZ, unhide hb2⟩
      case measure => simp [intOf]; omega
    · have hk64 : k = 64 := by omega
      subst hk64
      clear hk hlt
      go_wp2
      go_loopw [6] (fun i wr => ∃ n : Nat, n ≤ 48 ∧ i = .int .i64 (16 + n : Nat) ∧ WordsAt wr (w.heap.size + 1 + 1) 151 (wfill B n) ∧ WordsAt wr (w.heap.size + 1) 151 (wparts B 0) ∧ wr.heap.size = w.heap.size + 3 ∧ Below w.heap.size w wr) (fun i _ => 64 - (intOf i).toNat)
      case atStart => exact ⟨0, by omega, rfl, by rw [wparts_64 B hB] at hw1; exact hw1, hw2, hsz, hb⟩
      case round =>
        clear hw1 hw2 hsz hb
        obtain ⟨n, hn, rfl, hw1, hw2, hsz, hb⟩ := hrel
        by_cases hlt : n < 48
        · obtain ⟨t, ht⟩ : ∃ t, t = 16 + n := ⟨_, rfl⟩
          have ht1 : 16 ≤ t := by omega
          have ht2 : t < 64 := by omega
          have gx : ∀ j, j < 16 + n → wr.cell? ⟨w.heap.size + 1 + 1, j, none⟩ = some (.int .u32 (n32 ((schedN B n).getD j 0))) := fun j hj => by
            rw [hw1.cell j (by rw [wfill_length B n hn]; omega), wfill_get B n j hn hj]
          have e15 := gx (t - 15) (by omega)
          have e2 := gx (t - 2) (by omega)
          have e7 := gx (t - 7) (by omega)
          have e16 := gx (t - 16) (by omega)
          rw [← ht]
          have HT := hide ht
          clear ht
          have f1 := hw1.free t
          have et : ∃ u, wr.cell? ⟨w.heap.size + 1 + 1, t, none⟩ = some u := ⟨_, hw1.cell t (by have := unhide HT; rw [wfill_length B n hn]; omega)⟩
          obtain ⟨u, et⟩ := et
          have t0 : (16 : Int) ≤ t := by omega
          have t9 : (t : Int) < 64 := by omega
          have t02 : (2 : Int) ≤ t := by omega
          have t07 : (7 : Int) ≤ t := by omega
          have t015 : (15 : Int) ≤ t := by omega
          have hst := hide (hw1.set t (nextW (schedN B n)))
          have hst2 := hide (hw2.other (j := t) (g' := w.heap.size + 1 + 1) (.int .u32 (n32 (nextW (schedN B n)))) (by omega))
          have HB := hide hb
          have hnx : Hid (nextW (schedN B n) = s1 ((schedN B n).getD (t - 2) 0) + (schedN B n).getD (t - 7) 0 + s0 ((schedN B n).getD (t - 15) 0) + (schedN B n).getD (t - 16) 0) := by
            show _ = _
            unfold nextW
            rw [schedN_length, ← unhide HT]
          have HSZ := hide hsz
          generalize (schedN B n).getD (t - 15) 0 = x15 at *
          generalize (schedN B n).getD (t - 2) 0 = x2 at *
          generalize (schedN B n).getD (t - 7) 0 = x7 at *
          generalize (schedN B n).getD (t - 16) 0 = x16 at *
          clear gx hw1 hw2 hb hsz hlt
          go_wp2
          go_big_quiet ((go_at_call 121; exact Calls.quiet_of_same (rotr_i _ _ _ (by decide) (by decide))))
          go_wp2
          go_big_quiet ((go_at_call 121; exact quiet_same2 (rotr_i _ _ _ (by decide) (by decide))))
          go_wp2
          go_region
          have hv : s1 x2 + x7 + s0 x15 + x16 = nextW (schedN B n) := (unhide hnx).symm
          unfold s1 s0 at hv
          go_wp2
          go_roundw
          case rel => exact ⟨n + 1, by have := unhide HT; omega, by have := unhide HT; go_num, by rw [← wfill_step B n (by have := unhide HT; omega), ← unhide HT]; exact unhide hst, unhide hst2, by simp; exact unhide HSZ, (below_drewN (unhide HB) _).setCell (by simp; omega) _⟩
          case measure => simp [intOf]; omega
        · have hn48 : n = 48 := by omega
          subst hn48
          rw [wfill_full] at hw1
          have hS1 : (uc (sched B)).toArray.size = 64 := by rw [List.size_toArray, uc_length, sched, schedN_length]
          have hS2 : (uc (sched B)).toArray.all (·.oneCell') = true := all_oneCell_toArray (uc_oneCell _)
          have hth : wr.there (w.heap.size + 1) 0 64 := fun j hj => by
            have e := hw2.cell j (by rw [wparts_length]; exact hj)
            rw [Nat.zero_add, e]
            exact ⟨rfl, hw2.free j⟩
          unfold WordsAt at hw1 hw2
          generalize hSe : (uc (sched B)).toArray = S at *
          have HSE := hide hSe
          clear hSe
          have HB := hide hb
          have H2 := hide hw2
          clear hb hw2 hsz HC hB
          go_wp2_with (first | (refine wpList_load_row rfl 151 (.tmp 3) rfl (w.heap.size + 1 + 1) rfl 151 S (0, 0) _ hw1 Tryz.underlying151 rfl ?hi2 ?_) | (refine wpList_store_mid rfl 151 (.tmp 2) (.tmp 79) rfl (w.heap.size + 1) 0 S rfl rfl ?ht3 ?hi3 hS2 ?_))
          case hi2 => rw [hS1]; kernel_rfl
          case ht3 => rw [hS1]; exact hth
          case hi3 => rw [hS1]; kernel_rfl
          refine bodyPost_ret (v := .agg S) ?_ rfl ⟨by rw [unhide HSE], below_setCells (by omega) _ _ _ (unhide HB)⟩
          refine results_cell_mid (P := Tryz.prog) (fn := Tryz.f119) (p := 2) (ty := 151) (by kernel_rfl) _ (wr.setCells (w.heap.size + 1) 0 S.toList) (w.heap.size + 1) 0 S.toList _ (by rfl) (World.rangeAt_setCells_same _ _ _ _ (by rw [Array.length_toList, hS1]; exact hth)) Tryz.underlying151 rfl (by rw [Array.length_toList, hS1]; kernel_rfl)
end Go.Proofs.YtkcnihngkmaecaaGreat
namespace Go.Proofs.YtkcnihngkmaecaaGreat
open Go.RowKit
set_option linter.unusedVariables false

/-- H0 to H7 -/
def H0 : List UInt32 := [0x6a09e667, 0xbb67ae85, 0x3c6ef372, 0xa54ff53a, 0x510e527f, 0x9b05688c, 0x1f83d9ab, 0x5be0cd19]
/-- K0 to K63 -/
def KK : List UInt32 := [
    0x428a2f98, 0x71374491, 0xb5c0fbcf, 0xe9b5dba5, 0x3956c25b, 0x59f111f1, 0x923f82a4, 0xab1c5ed5,
    0xd807aa98, 0x12835b01, 0x243185be, 0x550c7dc3, 0x72be5d74, 0x80deb1fe, 0x9bdc06a7, 0xc19bf174,
    0xe49b69c1, 0xefbe4786, 0x0fc19dc6, 0x240ca1cc, 0x2de92c6f, 0x4a7484aa, 0x5cb0a9dc, 0x76f988da,
    0x983e5152, 0xa831c66d, 0xb00327c8, 0xbf597fc7, 0xc6e00bf3, 0xd5a79147, 0x06ca6351, 0x14292967,
    0x27b70a85, 0x2e1b2138, 0x4d2c6dfc, 0x53380d13, 0x650a7354, 0x766a0abb, 0x81c2c92e, 0x92722c85,
    0xa2bfe8a1, 0xa81a664b, 0xc24b8b70, 0xc76c51a3, 0xd192e819, 0xd6990624, 0xf40e3585, 0x106aa070,
    0x19a4c116, 0x1e376c08, 0x2748774c, 0x34b0bcb5, 0x391c0cb3, 0x4ed8aa4a, 0x5b9cca4f, 0x682e6ff3,
    0x748f82ee, 0x78a5636f, 0x84c87814, 0x8cc70208, 0x90befffa, 0xa4506ceb, 0xbef9a3f7, 0xc67178f2]

theorem wpList_value {P : Program} {ops : Array Oper} {rest : List Oper} {o : Oper} {a : Act} {w : World} {Q : Exit → Act → World → Prop} (v : Value) (hg : o.guard = none) (t : TypeId) (ps : Array (Nat × Operand)) (ho : o.op = .build t ps)
    (hrun : (execOp a.eval o).run P w = .ok (.value v) w) (h : wpList P ops Q rest (a.put o.dst v) w) : wpList P ops Q (o :: rest) a w :=
  wpList_plain hg fun _ hK => by
    unfold Oper.wp
    rw [hrun]
    exact hK _ _ h

theorem start_any (w : World) :
    Calls Tryz.prog 113 #[] w fun e w' => e = .returned (.agg (uc H0).toArray) ∧ Below w.heap.size w w' := by
  go_enter Tryz.func113, Tryz.ntmps113
  go_wp2
  refine bodyPost_ret (v := .agg (uc H0).toArray) ?_ rfl ⟨rfl, (Below.refl _ _).alloc (Nat.le_refl _) _⟩
  exact results_cell_row (P := Tryz.prog) (fn := Tryz.f113) (p := 0) (ty := 143) (by kernel_rfl) _ _ w.heap.size 143 _ (0, 0) _ (by rfl) (heap_alloc_new _ _) Tryz.underlying143 rfl (by kernel_rfl)
theorem KK_size : (uc KK).toArray.size = 64 := by rw [List.size_toArray, uc_length]; rfl
theorem KK_one : (uc KK).toArray.all (·.oneCell') = true := all_oneCell_toArray (uc_oneCell _)
theorem zero64_there (w : World) (e : TypeId) : (w.alloc (.cells (uc (List.replicate 64 0)).toArray e)).there w.heap.size 0 64 := fun j hj => by
  have h : WordsAt (w.alloc (.cells (uc (List.replicate 64 0)).toArray e)) w.heap.size e (List.replicate 64 0) := heap_alloc_new _ _
  rw [Nat.zero_add, h.cell j (by rw [List.length_replicate]; exact hj)]
  exact ⟨rfl, h.free j⟩
set_option maxRecDepth 100000 in
theorem consts_any (w : World) :
    Calls Tryz.prog 118 #[] w fun e w' => e = .returned (.agg (uc KK).toArray) ∧ Below w.heap.size w w' := by
  obtain ⟨S, hS⟩ : ∃ S, S = (uc KK).toArray := ⟨_, rfl⟩
  have hS1 : S.size = 64 := by rw [hS, KK_size]
  have hS2 : S.all (·.oneCell') = true := by rw [hS, KK_one]
  have HS := hide hS
  clear hS
  go_enter Tryz.func118, Tryz.ntmps118
  go_wp2_with (first | (refine wpList_value (.agg S) rfl _ _ rfl ?hb ?_) | (refine wpList_store_mid rfl 151 (.tmp 0) (.tmp 1) rfl w.heap.size 0 S rfl rfl ?ht3 ?hi3 hS2 ?_))
  case hb => rw [unhide HS]; kernel_rfl
  case ht3 => rw [hS1]; exact zero64_there _ _
  case hi3 => rw [hS1]; kernel_rfl
  refine bodyPost_ret (v := .agg S) ?_ rfl ⟨by rw [unhide HS], below_setCells (Nat.le_refl _) _ _ _ ((Below.refl _ _).alloc (Nat.le_refl _) _)⟩
  refine results_cell_mid (P := Tryz.prog) (fn := Tryz.f118) (p := 0) (ty := 151) (by kernel_rfl) _ _ w.heap.size 0 S.toList _ (by rfl) (World.rangeAt_setCells_same _ _ _ _ (by rw [Array.length_toList, hS1]; exact zero64_there _ _)) Tryz.underlying151 rfl (by rw [Array.length_toList, hS1]; kernel_rfl)
end Go.Proofs.YtkcnihngkmaecaaGreat

/- Small laws on rows of bytes that a call owns, and on strings; nothing of the program. -/
import Derived.Test.YtlmmincpjflkdaaRows
import Derived.WalkKit
import Derived.WalkSpells
import Derived.WalkLawsBesides
import Derived.Laws.BytesString
import Derived.Lib.AppendStr
namespace Go.Proofs.Ytlmmincpjflkdaa
open Go.RowKit
set_option linter.unusedVariables false

theorem hide {p : Prop} (h : p) : Hid p := h
theorem unhide {p : Prop} (h : Hid p) : p := h

theorem blen (s : ByteArray) : s.data.toList.length = s.size := by simp

/-- bytes as cells -/
def bc (l : List UInt8) : List Value := l.map fun b => Value.int .u8 b.toNat

theorem bc_length (l : List UInt8) : (bc l).length = l.length := by simp [bc]
theorem bc_get (l : List UInt8) (j : Nat) (h : j < l.length) : (bc l)[j]? = some (Value.int .u8 (l[j]).toNat) := by simp [bc, h]
theorem bc_append (l m : List UInt8) : bc (l ++ m) = bc l ++ bc m := by simp [bc]
theorem bc_str (s : ByteArray) : Lib.strCells s = bc s.data.toList := rfl
theorem bc_oneCell (l : List UInt8) : ∀ u ∈ bc l, u.oneCell' = true := by
  intro u hu
  simp only [bc, List.mem_map] at hu
  obtain ⟨b, _, rfl⟩ := hu
  rfl

theorem foldl_push (l : List UInt8) : ∀ (s : ByteArray), (l.map fun b => ((b.toNat : Nat) : Int)).foldl (fun (r : ByteArray) (n : Int) => r.push (UInt8.ofNat n.toNat)) s = ⟨(s.data.toList ++ l).toArray⟩ := by
  induction l with
  | nil => intro s; simp
  | cons b l ih =>
    intro s
    simp only [List.map_cons, List.foldl_cons]
    rw [ih]
    simp [ByteArray.push]

theorem run_string_own {P : Program} {w : World} {base : Nat} {e : TypeId} {v : Value} {n : Nat} {l : List UInt8} (src dst : TypeId) (hs : P.underlying src = some (.slice e)) (he : P.underlying e = some (.int .u8)) (hd : P.underlying dst = some .string)
    (h : w.ownsRow base e 1 v n (bc l)) : (convert src dst v).run P w = .ok (.string ⟨l.toArray⟩) w := by
  have hl : l.length = n := by simpa [bc_length] using h.1
  rcases h.2 with ⟨rfl, h0⟩ | ⟨g, cap, cur, rfl, _, hg, hnc, hcm, hcs, htake⟩
  · rw [run_convert_bytes_string w src dst e none 0 0 hs he hd]
    have : l = [] := List.eq_nil_of_length_eq_zero (by omega)
    subst this
    rfl
  · rw [run_convert_bytes_string w src dst e _ _ _ hs he hd]
    have hc := run_loadCells_list (P := P) w ⟨g, 0, none⟩ (bc l) (h.cells rfl)
    rw [bc_length, hl] at hc
    rw [run_bytesToString w ⟨g, 0, none⟩ n cap (l.map fun b => ((b.toNat : Nat) : Int)) (by rw [hc]; simp [bc]), foldl_push]
    simp

/-- a byte out of a number -/
def byteOf (x : Int) : UInt8 := UInt8.ofNat x.toNat
theorem byteOf_toNat (x : Int) (h0 : 0 ≤ x) (h1 : x < 256) : ((byteOf x).toNat : Int) = x := by
  unfold byteOf
  rw [UInt8.toNat_ofNat']
  omega

theorem bc_set (l : List UInt8) (j : Nat) (x : Int) (h0 : 0 ≤ x) (h1 : x < 256) : (bc l).set j (Value.int .u8 x) = bc (l.set j (byteOf x)) := by
  simp [bc, List.map_set, byteOf_toNat x h0 h1]

/-- byte i of a number, counted from the low end -/
def byteAt (n : Int) (i : Nat) : UInt8 := byteOf (n / 2 ^ (8 * i) % 256)
/-- a number as bytes, the highest first; only the k lowest are written -/
def putL (n : Int) (size k : Nat) : List UInt8 := (List.range size).map fun j => if size - 1 - j < k then byteAt n (size - 1 - j) else 0
/-- a number as bytes, the highest first -/
def putB (n : Int) (size : Nat) : List UInt8 := (List.range size).map fun j => byteAt n (size - 1 - j)
theorem putL_zero (n : Int) (size : Nat) : putL n size 0 = List.replicate size 0 := by
  apply List.ext_getElem
  · simp [putL]
  · intro i h1 h2
    simp [putL]
theorem putL_full (n : Int) (size : Nat) : putL n size size = putB n size := by
  apply List.ext_getElem
  · simp [putL, putB]
  · intro i h1 h2
    simp [putL] at h1
    simp [putL, putB]
    intro h
    omega
theorem putL_length (n : Int) (size k : Nat) : (putL n size k).length = size := by simp [putL]
theorem putB_length (n : Int) (size : Nat) : (putB n size).length = size := by simp [putB]
theorem putL_step (n : Int) (size k : Nat) (h : k < size) : (putL n size k).set (size - 1 - k) (byteOf (n / 2 ^ (8 * k) % 256)) = putL n size (k + 1) := by
  apply List.ext_getElem
  · simp [putL]
  · intro i h1 h2
    simp [putL] at h1 h2
    rw [List.getElem_set]
    by_cases e : size - 1 - k = i
    · rw [if_pos e]
      have e2 : size - 1 - i = k := by omega
      simp [putL, e2, byteAt]
    · rw [if_neg e]
      simp only [putL, List.getElem_map, List.getElem_range]
      by_cases c : size - 1 - i < k
      · rw [if_pos c, if_pos (by omega)]
      · rw [if_neg c, if_neg (by omega)]

theorem made_bytes (n : Nat) : (madeCells #[Value.int .u8 0] n).toList = bc (List.replicate n 0) := by
  rw [toList_madeCells_one]
  simp [bc]

theorem putB_succ (n : Int) (k : Nat) : putB n (k + 1) = byteAt n k :: putB n k := by
  unfold putB
  rw [List.range_succ_eq_map, List.map_cons, List.map_map]
  congr 1
  apply List.map_congr_left
  intro j hj
  simp only [Function.comp]
  congr 1
  omega

theorem pow_succ8 (k : Nat) : (2 : Int) ^ (8 * (k + 1)) = 2 ^ (8 * k) * 256 := by
  rw [show 8 * (k + 1) = 8 * k + 8 by omega, Int.pow_add]
  rfl
theorem pow8_pos (k : Nat) : (0 : Int) < 2 ^ (8 * k) := Int.pow_pos (by omega)
theorem split8 (n : Int) (k : Nat) : n % 2 ^ (8 * (k + 1)) = (n / 2 ^ (8 * k) % 256) * 2 ^ (8 * k) + n % 2 ^ (8 * k) := by
  have hp := pow8_pos k
  rw [pow_succ8]
  generalize (2 : Int) ^ (8 * k) = P at *
  have h1 := Int.mul_ediv_add_emod n P
  have h2 := Int.mul_ediv_add_emod (n / P) 256
  have h3 := Int.mul_ediv_add_emod n (P * 256)
  have h4 : n / (P * 256) = n / P / 256 := (Int.ediv_ediv_of_nonneg (by omega)).symm
  rw [h4] at h3
  have h5 : P * (n / P) = P * (256 * (n / P / 256)) + n / P % 256 * P := by
    conv => lhs; rw [← h2]
    rw [Int.mul_add, Int.mul_comm (n / P % 256)]
  rw [Int.mul_assoc] at h3
  omega
theorem byteAt_val (n : Int) (k : Nat) : ((byteAt n k).toNat : Int) = n / 2 ^ (8 * k) % 256 := byteOf_toNat _ (by omega) (by omega)
theorem byte_lt (n m : Int) (k : Nat) : (byteAt n k < byteAt m k) ↔ n / 2 ^ (8 * k) % 256 < m / 2 ^ (8 * k) % 256 := by
  rw [UInt8.lt_iff_toNat_lt, ← byteAt_val, ← byteAt_val]
  omega
theorem byte_eq (n m : Int) (k : Nat) : (byteAt n k = byteAt m k) ↔ n / 2 ^ (8 * k) % 256 = m / 2 ^ (8 * k) % 256 := by
  rw [← UInt8.toNat_inj, ← byteAt_val, ← byteAt_val]
  omega

theorem lex_lt {q q' r r' P : Int} (h0 : 0 ≤ r) (h1 : r < P) (h2 : 0 ≤ r') (h3 : r' < P) : q * P + r < q' * P + r' ↔ q < q' ∨ q = q' ∧ r < r' := by
  constructor
  · intro h
    rcases Int.lt_trichotomy q q' with c | c | c
    · exact .inl c
    · subst c; exact .inr ⟨rfl, by omega⟩
    · have : (q' + 1) * P ≤ q * P := Int.mul_le_mul_of_nonneg_right (by omega) (by omega)
      rw [Int.add_mul] at this
      omega
  · rintro (c | ⟨rfl, c⟩)
    · have : (q + 1) * P ≤ q' * P := Int.mul_le_mul_of_nonneg_right (by omega) (by omega)
      rw [Int.add_mul] at this
      omega
    · omega

theorem putB_less (n m : Int) (k : Nat) : Op.bytesLess (putB n k) (putB m k) = decide (n % 2 ^ (8 * k) < m % 2 ^ (8 * k)) := by
  induction k with
  | zero => simp [putB, Op.bytesLess, Int.emod_one]
  | succ k ih =>
    have hp := pow8_pos k
    rw [putB_succ, putB_succ, Op.bytesLess, ih, split8, split8]
    rw [Bool.eq_iff_iff]
    simp only [Bool.or_eq_true, Bool.and_eq_true, decide_eq_true_eq, beq_iff_eq, byte_lt, byte_eq]
    rw [lex_lt (Int.emod_nonneg _ (by omega)) (Int.emod_lt_of_pos _ hp) (Int.emod_nonneg _ (by omega)) (Int.emod_lt_of_pos _ hp)]

theorem putB_inj (n m : Int) (k : Nat) : putB n k = putB m k ↔ n % 2 ^ (8 * k) = m % 2 ^ (8 * k) := by
  induction k with
  | zero => simp [putB, Int.emod_one]
  | succ k ih =>
    have hp := pow8_pos k
    rw [putB_succ, putB_succ, List.cons.injEq, ih, byte_eq, split8, split8]
    constructor
    · rintro ⟨h1, h2⟩
      rw [h1, h2]
    · intro h
      have a := lex_lt (q := n / 2 ^ (8 * k) % 256) (q' := m / 2 ^ (8 * k) % 256) (Int.emod_nonneg n (by omega)) (Int.emod_lt_of_pos n hp) (Int.emod_nonneg m (by omega)) (Int.emod_lt_of_pos m hp)
      have b := lex_lt (q := m / 2 ^ (8 * k) % 256) (q' := n / 2 ^ (8 * k) % 256) (Int.emod_nonneg m (by omega)) (Int.emod_lt_of_pos m hp) (Int.emod_nonneg n (by omega)) (Int.emod_lt_of_pos n hp)
      omega

theorem mod_of_div0 (n : Int) (k : Nat) (h0 : ¬ n < 0) (h : n / 2 ^ (8 * k) = 0) : n % 2 ^ (8 * k) = n := by
  have := Int.emod_def n (2 ^ (8 * k))
  rw [h] at this
  omega


/-- the number that bytes are, the highest first -/
def getV (l : List UInt8) : Int := l.foldl (fun n b => n * 256 + b.toNat) 0

theorem getF_putB (n : Int) (k : Nat) : ∀ a : Int, (putB n k).foldl (fun (m : Int) b => m * 256 + b.toNat) a = a * 2 ^ (8 * k) + n % 2 ^ (8 * k) := by
  induction k with
  | zero => intro a; simp [putB, Int.emod_one]
  | succ k ih =>
    intro a
    rw [putB_succ, List.foldl_cons, ih, split8, byteAt_val, pow_succ8]
    generalize (2 : Int) ^ (8 * k) = P
    rw [Int.add_mul, Int.mul_assoc, Int.mul_comm 256 P]
    omega
theorem getV_putB (n : Int) (k : Nat) (h0 : ¬ n < 0) (h : n / 2 ^ (8 * k) = 0) : getV (putB n k) = n := by
  unfold getV
  rw [getF_putB, mod_of_div0 n k h0 h]
  omega

/-- below B, and apart from block b, nothing has turned -/
structure Kept (B b : Nat) (w w' : World) : Prop where
  os : w'.os = w.os
  tape : w'.tape = w.tape
  output : w'.output = w.output
  size : w.heap.size ≤ w'.heap.size
  block : ∀ k, k < B → k ≠ b → w'.heap[k]? = w.heap[k]?

theorem Kept.refl (B b : Nat) (w : World) : Kept B b w w := ⟨rfl, rfl, rfl, Nat.le_refl _, fun _ _ _ => rfl⟩
theorem Kept.trans {B b : Nat} {x y z : World} (h : Kept B b x y) (k : Kept B b y z) : Kept B b x z :=
  ⟨k.os.trans h.os, k.tape.trans h.tape, k.output.trans h.output, Nat.le_trans h.size k.size, fun i hi hn => (k.block i hi hn).trans (h.block i hi hn)⟩
theorem Kept.of_below {B b : Nat} {x y : World} (h : Below B x y) : Kept B b x y := ⟨h.os, h.tape, h.output, h.size, fun i hi _ => h.block i hi⟩
theorem Kept.below {B b : Nat} {x y : World} (h : Kept B b x y) (C : Nat) (hB : C ≤ B) (hb : C ≤ b) : Below C x y :=
  ⟨h.os, h.tape, h.output, h.size, fun i hi => h.block i (by omega) (by omega)⟩
theorem Kept.mono {B C b : Nat} {x y : World} (h : Kept B b x y) (hB : C ≤ B) : Kept C b x y := ⟨h.os, h.tape, h.output, h.size, fun i hi hn => h.block i (by omega) hn⟩

theorem kept_set (B : Nat) (w : World) (b j : Nat) (x : Value) : Kept B b w (w.setCell ⟨b, j, none⟩ x) :=
  ⟨rfl, rfl, rfl, by simp, fun k _ hn => Below.heap_setCell _ _ _ _ hn⟩


end Go.Proofs.Ytlmmincpjflkdaa

/- Contract of sha's spread: the words W0 to W63 of a block. -/
import Derived.Test.YtcdnpdmcijiffaaShaA
import Derived.Deep.MidRow
namespace Go.Proofs.Ytcdnpdmcijiffaa
open Go.RowKit
set_option linter.unusedVariables false

/-- one more byte behind a word -/
def pushByte (x : UInt32) (b : UInt8) : UInt32 := x <<< 8 ||| UInt32.ofNat b.toNat
theorem push_spell (x : UInt32) (b : UInt8) : bits .or .u32 (n32 x * 256 % 4294967296) b.toNat = n32 (pushByte x b) := by
  have hb := b.toNat_lt
  have hx := x.toNat_lt
  unfold pushByte n32
  have e1 : (x.toNat : Int) * 256 % 4294967296 = ((x.toNat * 256 % 4294967296 : Nat) : Int) := by omega
  rw [e1, u32_or_nat _ _ (Nat.mod_lt _ (by omega)) (by omega), UInt32.toNat_or, UInt32.toNat_shiftLeft, UInt32.toNat_ofNat']
  rw [Nat.mod_eq_of_lt (show b.toNat < 2 ^ 32 by omega), Nat.shiftLeft_eq]
  rfl

/-- word j of a block, of whose bytes the first k were read -/
def wpart (B : List UInt8) (k j : Nat) : UInt32 := (((B.take k).drop (4 * j)).take 4).foldl pushByte 0
/-- all 64 of them -/
def wparts (B : List UInt8) (k : Nat) : List UInt32 := (List.range 64).map (wpart B k)
theorem wparts_length (B : List UInt8) (k : Nat) : (wparts B k).length = 64 := by simp [wparts]
theorem wparts_get (B : List UInt8) (k j : Nat) (h : j < 64) : (wparts B k)[j]'(by rw [wparts_length]; exact h) = wpart B k j := by simp [wparts]
theorem wparts_zero (B : List UInt8) : wparts B 0 = List.replicate 64 0 := by
  apply List.ext_getElem
  · simp [wparts]
  · intro i h1 h2
    rw [List.getElem_replicate, wparts_get _ _ _ (by rw [wparts_length] at h1; exact h1)]
    simp [wpart]
theorem wpart_same (B : List UInt8) (k : Nat) (h : k < B.length) : wpart B (k + 1) (k / 4) = pushByte (wpart B k (k / 4)) B[k] := by
  have hl : ((B.take k).drop (4 * (k / 4))).length ≤ 3 := by simp only [List.length_drop, List.length_take]; omega
  have e1 : (B.take (k + 1)).drop (4 * (k / 4)) = (B.take k).drop (4 * (k / 4)) ++ [B[k]] := by
    rw [List.take_succ_eq_append_getElem h, List.drop_append_of_le_length (by rw [List.length_take]; omega)]
  unfold wpart
  rw [e1]
  generalize (B.take k).drop (4 * (k / 4)) = X at *
  rw [List.take_of_length_le (show (X ++ [B[k]]).length ≤ 4 by rw [List.length_append, List.length_singleton]; omega), List.take_of_length_le (show X.length ≤ 4 by omega), List.foldl_append]
  rfl
theorem wpart_other (B : List UInt8) (k j : Nat) (h : k < B.length) (hj : j ≠ k / 4) : wpart B (k + 1) j = wpart B k j := by
  unfold wpart
  congr 1
  rw [List.take_succ_eq_append_getElem h]
  by_cases hc : 4 * j ≤ k
  · rw [List.drop_append_of_le_length (by rw [List.length_take]; omega), List.take_append_of_le_length (by simp only [List.length_drop, List.length_take]; omega)]
  · rw [List.drop_eq_nil_of_le (by simp only [List.length_append, List.length_take, List.length_singleton]; omega), List.drop_eq_nil_of_le (by simp only [List.length_take]; omega)]
theorem wparts_step (B : List UInt8) (k : Nat) (h : k < B.length) (h64 : k < 64) : (wparts B k).set (k / 4) (pushByte (wpart B k (k / 4)) B[k]) = wparts B (k + 1) := by
  apply List.ext_getElem
  · simp [wparts]
  · intro i h1 h2
    simp only [List.length_set, wparts_length] at h1
    rw [List.getElem_set]
    by_cases e : k / 4 = i
    · rw [if_pos e]
      subst e
      rw [wparts_get _ _ _ h1, wpart_same B k h]
    · rw [if_neg e, wparts_get _ _ _ h1, wparts_get _ _ _ h1, wpart_other B k i h (fun h => e h.symm)]

def s0 (x : UInt32) : UInt32 := rot x 7 ^^^ rot x 18 ^^^ x >>> 3
def s1 (x : UInt32) : UInt32 := rot x 17 ^^^ rot x 19 ^^^ x >>> 10
/-- the next word behind the first t ones -/
def nextW (l : List UInt32) : UInt32 := s1 (l.getD (l.length - 2) 0) + l.getD (l.length - 7) 0 + s0 (l.getD (l.length - 15) 0) + l.getD (l.length - 16) 0
/-- the first 16 + n words -/
def schedN (B : List UInt8) : Nat → List UInt32
  | 0 => (wparts B 64).take 16
  | n + 1 => schedN B n ++ [nextW (schedN B n)]
/-- W0 to W63 -/
def sched (B : List UInt8) : List UInt32 := schedN B 48
theorem schedN_length (B : List UInt8) (n : Nat) : (schedN B n).length = 16 + n := by
  induction n with
  | zero => simp [schedN, wparts_length]
  | succ n ih => simp [schedN, ih]; omega

theorem run_index_agg {P : Program} (t e : TypeId) (n : Nat) (cs : Array Value) (k : IntKind) (i : Nat) (v : Value) (hu : P.underlying t = some (.array n e)) (hd : ∃ d, P.underlying e = some d ∧ (match d with | .struct _ | .array _ _ => true | _ => false) = false)
    (hs : (P.info? e).map (·.size) = some 1) (hi : i < n) (hv : cs[i]? = some v) (w : World) : (Instr.index t (.agg cs) (.int k i)).run P w = .ok v w := by
  obtain ⟨d, hd1, hd2⟩ := hd
  have hagg : (isAgg e).run P w = .ok false w := by
    unfold isAgg
    rw [Sem.run_bind, run_underlying hd1 w]
    cases d <;> simp_all
  cases hq : P.info? e with
  | none => simp [hq] at hs
  | some inf =>
    have hs1 : inf.size = 1 := by simpa [hq] using hs
    have c1 : (0 : Int) ≤ (i : Int) ∧ (i : Int) < (n : Int) := ⟨by omega, by omega⟩
    simp [Instr.index, asIntOf, run_underlying hu, c1, sizeOf, typeInfo, hq, hs1, part, hagg, hv]
    intro h
    omega

/-- a block of words -/
def WordsAt (w : World) (g : Nat) (t : TypeId) (L : List UInt32) : Prop := w.heap[g]? = some (.cells (uc L).toArray t (0, 0))
theorem WordsAt.cell {w : World} {g : Nat} {t : TypeId} {L : List UInt32} (h : WordsAt w g t L) (j : Nat) (hj : j < L.length) : w.cell? ⟨g, j, none⟩ = some (.int .u32 (n32 L[j])) := by
  rw [cell_of_row w g j _ t (0, 0) h]
  simp only [List.getElem?_toArray]
  exact uc_get L j hj
theorem WordsAt.free {w : World} {g : Nat} {t : TypeId} {L : List UInt32} (h : WordsAt w g t L) (j : Nat) : w.frozen? ⟨g, j, none⟩ = false := frozen_of_row w g j _ t h
theorem WordsAt.set {w : World} {g : Nat} {t : TypeId} {L : List UInt32} (h : WordsAt w g t L) (j : Nat) (x : UInt32) : WordsAt (w.setCell ⟨g, j, none⟩ (.int .u32 (n32 x))) g t (L.set j x) := by
  unfold WordsAt
  rw [heap_setCell_same w g j _ t _ h, ← uc_set]
  simp
theorem WordsAt.other {w : World} {g g' j : Nat} {t : TypeId} {L : List UInt32} (h : WordsAt w g t L) (v : Value) (hne : g ≠ g') : WordsAt (w.setCell ⟨g', j, none⟩ v) g t L := by
  unfold WordsAt
  rw [heap_setCell_other w ⟨g', j, none⟩ g v hne]
  exact h

theorem shr32 (x : UInt32) (n : Nat) (h : n < 32) : n32 x / 2 ^ n = n32 (x >>> UInt32.ofNat n) := by
  unfold n32
  rw [UInt32.toNat_shiftRight, UInt32.toNat_ofNat', Nat.mod_eq_of_lt (show n < 2 ^ 32 by omega), Nat.mod_eq_of_lt h, Nat.shiftRight_eq_div_pow, Int.natCast_ediv, Int.natCast_pow]
  rfl
theorem shr32_3 (x : UInt32) : n32 x / (8 : Int) = n32 (x >>> 3) := shr32 x 3 (by decide)
theorem shr32_10 (x : UInt32) : n32 x / (1024 : Int) = n32 (x >>> 10) := shr32 x 10 (by decide)

theorem wparts_64 (B : List UInt8) (hB : B.length = 64) : wparts B 64 = schedN B 0 ++ List.replicate 48 0 := by
  apply List.ext_getElem
  · rw [List.length_append, schedN_length, wparts_length, List.length_replicate]
  · intro i h1 h2
    rw [wparts_length] at h1
    rw [List.getElem_append]
    split
    · simp only [schedN, List.getElem_take]
    · rename_i hge
      rw [schedN_length] at hge
      rw [List.getElem_replicate, wparts_get _ _ _ h1]
      unfold wpart
      rw [List.drop_eq_nil_of_le (by rw [List.length_take]; omega)]
      rfl
/-- the words so far, and zeros behind them -/
def wfill (B : List UInt8) (n : Nat) : List UInt32 := schedN B n ++ List.replicate (48 - n) 0
theorem wfill_length (B : List UInt8) (n : Nat) (h : n ≤ 48) : (wfill B n).length = 64 := by
  unfold wfill
  rw [List.length_append, schedN_length, List.length_replicate]
  omega
theorem wfill_get (B : List UInt8) (n j : Nat) (h : n ≤ 48) (hj : j < 16 + n) : (wfill B n)[j]'(by rw [wfill_length B n h]; omega) = (schedN B n).getD j 0 := by
  unfold wfill
  rw [List.getElem_append_left (by rw [schedN_length]; exact hj)]
  simp [List.getD, schedN_length, hj]
theorem wfill_step (B : List UInt8) (n : Nat) (h : n < 48) : (wfill B n).set (16 + n) (nextW (schedN B n)) = wfill B (n + 1) := by
  unfold wfill
  rw [List.set_append_right _ _ (by rw [schedN_length]; omega), schedN_length, Nat.sub_self, show 48 - n = (48 - (n + 1)) + 1 by omega, List.replicate_succ, List.set_cons_zero]
  simp [schedN]
theorem wfill_full (B : List UInt8) : wfill B 48 = sched B := by
  unfold wfill sched
  rw [Nat.sub_self, List.replicate_zero, List.append_nil]

theorem heap3_a (w : World) (A B C : Obj) : (((w.alloc A).alloc B).alloc C).heap[w.heap.size]? = some A := by
  rw [Below.heap_alloc _ _ _ (by simp; omega)]
  exact heap_alloc2_old w A B
theorem heap3_b (w : World) (A B C : Obj) : (((w.alloc A).alloc B).alloc C).heap[w.heap.size + 1]? = some B := by
  rw [Below.heap_alloc _ _ _ (by simp)]
  exact heap_alloc2_new w A B
theorem heap3_c (w : World) (A B C : Obj) : (((w.alloc A).alloc B).alloc C).heap[w.heap.size + 1 + 1]? = some C := by
  have h := heap_alloc_new ((w.alloc A).alloc B) C
  have e : ((w.alloc A).alloc B).heap.size = w.heap.size + 1 + 1 := by simp
  rwa [e] at h

theorem results_cell_mid {P : Program} {fn : Func} {p : Tmp} {ty : TypeId} (h : fn.results = #[.cell p ty]) (tmps : Array Value) (w : World) (g o : Nat) (cs : List Value) (d : TypeDesc)
    (hp : tmps.getD p undef = .pointer (some ⟨g, o, none⟩)) (hg : w.rangeAt g o cs)
    (hu : P.underlying ty = some d) (hd : d.isRow = true) (hi : (P.info? ty).map (·.size) = some cs.length) :
    (results fn tmps).run P w = .ok (.agg cs.toArray) w := by
  have hp' : tmps[p]?.getD undef = .pointer (some ⟨g, o, none⟩) := by simpa using hp
  simp [results, h, hp', asAddr, run_loadVar_mid w g o ty cs d hg hu hd hi]
theorem below_setCells {B g : Nat} {w0 : World} (hBg : B ≤ g) : ∀ (vs : List Value) (o : Nat) (w : World), Below B w0 w → Below B w0 (w.setCells g o vs)
  | [], _, _, h => h
  | v :: vs, o, w, h => below_setCells hBg vs (o + 1) _ (h.setCell hBg v)

end Go.Proofs.Ytcdnpdmcijiffaa

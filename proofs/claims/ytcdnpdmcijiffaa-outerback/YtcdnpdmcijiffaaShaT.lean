/- What a sum that is written to holds, as plain functions of the bytes; copy from a string into a row. -/
import Derived.Test.YtcdnpdmcijiffaaShaX
import Derived.Laws.CopyOwn
namespace Go.Proofs.Ytcdnpdmcijiffaa
open Go.RowKit
set_option linter.unusedVariables false

/-- the state of no bytes -/
def s8H : S8 := ⟨0x6a09e667, 0xbb67ae85, 0x3c6ef372, 0xa54ff53a, 0x510e527f, 0x9b05688c, 0x1f83d9ab, 0x5be0cd19⟩
theorem s8H_list : s8H.list = H0 := rfl
/-- the state behind the first n blocks of l -/
def mixN (l : List UInt8) : Nat → S8
  | 0 => s8H
  | n + 1 => mix (mixN l n) ((l.drop (64 * n)).take 64)
theorem mixN_append (l m : List UInt8) : ∀ n, 64 * n ≤ l.length → mixN (l ++ m) n = mixN l n
  | 0, _ => rfl
  | n + 1, h => by
    unfold mixN
    rw [mixN_append l m n (by omega), List.drop_append_of_le_length (by omega), List.take_append_of_le_length (by rw [List.length_drop]; omega)]

/-- what a sum holds of the bytes l: the state, and the bytes behind the last whole block -/
structure HashOf (l : List UInt8) (st : S8) (P : List UInt8) : Prop where
  state : st = mixN l (l.length / 64)
  len : P.length = 64
  tail : P.take (l.length % 64) = l.drop (64 * (l.length / 64))

/-- bytes laid over others -/
def over (P c : List UInt8) (r : Nat) : List UInt8 := P.take r ++ c ++ P.drop (r + c.length)
theorem over_length (P c : List UInt8) (r : Nat) (h : r + c.length ≤ P.length) : (over P c r).length = P.length := by
  unfold over
  simp only [List.length_append, List.length_take, List.length_drop]
  omega
theorem HashOf.more {l : List UInt8} {st : S8} {P : List UInt8} (h : HashOf l st P) (c : List UInt8) (hr : l.length % 64 + c.length < 64) : HashOf (l ++ c) st (over P c (l.length % 64)) := by
  have hp := h.len
  have hq : (l.length + c.length) / 64 = l.length / 64 := by omega
  have hm : (l.length + c.length) % 64 = l.length % 64 + c.length := by omega
  refine ⟨?_, by rw [over_length _ _ _ (by omega), hp], ?_⟩
  · rw [List.length_append, hq, mixN_append _ _ _ (by omega)]
    exact h.state
  · rw [List.length_append, hq, hm, List.drop_append_of_le_length (by omega), ← h.tail]
    unfold over
    rw [List.append_assoc, ← List.append_assoc, List.take_append_of_le_length (by simp only [List.length_append, List.length_take]; omega), List.take_of_length_le (by simp only [List.length_append, List.length_take]; omega)]
theorem HashOf.whole {l : List UInt8} {st : S8} {P : List UInt8} (h : HashOf l st P) (c : List UInt8) (hr : l.length % 64 + c.length = 64) (hc : 0 < c.length) :
    HashOf (l ++ c) (mix st (over P c (l.length % 64))) (over P c (l.length % 64)) := by
  have hp := h.len
  have hq : (l.length + c.length) / 64 = l.length / 64 + 1 := by omega
  have hm : (l.length + c.length) % 64 = 0 := by omega
  have ho : over P c (l.length % 64) = l.drop (64 * (l.length / 64)) ++ c := by
    have hd : P.drop (l.length % 64 + c.length) = [] := List.drop_eq_nil_of_le (by omega)
    unfold over
    rw [h.tail, hd, List.append_nil]
  refine ⟨?_, by rw [over_length _ _ _ (by omega), hp], ?_⟩
  · rw [List.length_append, hq]
    show _ = mix (mixN (l ++ c) (l.length / 64)) (((l ++ c).drop (64 * (l.length / 64))).take 64)
    rw [mixN_append _ _ _ (by omega), List.drop_append_of_le_length (by omega), ho, ← h.state]
    rw [List.take_of_length_le (by simp only [List.length_append, List.length_drop]; omega)]
  · rw [List.length_append, hm, List.take_zero, hq, List.drop_eq_nil_of_le (by simp only [List.length_append]; omega)]

theorem run_copy_string {P : Program} (w : World) (dT sT ty elem : TypeId) (g o dLen dCap : Nat) (s : ByteArray) (cur : List Value) (t : TypeId) (hu : P.underlying dT = some (.slice elem)) (hs : (P.info? elem).map (·.size) = some 1)
    (hg : w.heap[g]? = some (.cells cur.toArray t (0, 0))) (n : Nat) (hn : n = Nat.min s.size dLen) (hfit : o + n ≤ cur.length) :
    (Builtin.copy_ #[dT, sT] ty #[.slice (some ⟨g, o, none⟩) dLen dCap, .string s]).run P w = .ok (goInt n) (w.setRow g (cur.take o ++ bc (s.data.toList.take n) ++ cur.drop (o + n)).toArray) := by
  have hl : (bc (s.data.toList.take n)).length = n := by
    rw [bc_length, List.length_take, blen]
    have : n ≤ s.size := by rw [hn]; exact Nat.min_le_left _ _
    omega
  have hst := run_storeCells_at P g o t (bc (s.data.toList.take n)) 0 cur.toArray w hg (by rw [hl]; simpa using hfit) (bc_oneCell _)
  simp only [Nat.add_zero, hl] at hst
  have hf : (Builtin.firstCells 1 n (.string s)).run P w = .ok (bc (s.data.toList.take n)).toArray w := by
    simp [Builtin.firstCells, bc]
    apply Array.ext'
    simp
  cases hq : P.info? elem with
  | none => simp [hq] at hs
  | some inf =>
    have hs1 : inf.size = 1 := by simpa [hq] using hs
    simp only [hn] at hst hf ⊢
    simp [Builtin.copy_, run_underlying hu, Builtin.lenOf, sizeOf, typeInfo, hq, hs1, hf, hst]

theorem wp_copy_string {P : Program} {o : Oper} {a : Act} {w : World} {K : Act → World → Prop} {Q : Exit → Act → World → Prop} (d x : Operand) (dT sT : TypeId)
    (ho : o.op = .call { callee := .builtin .copy, args := #[d, x], argTypes := #[dT, sT] }) (elem : TypeId) (hu : P.underlying dT = some (.slice elem)) (hsz : (P.info? elem).map (·.size) = some 1)
    (g off dLen dCap : Nat) (s : ByteArray) (hd : a.eval d = .slice (some ⟨g, off, none⟩) dLen dCap) (hx : a.eval x = .string s) (cur : List Value) (t : TypeId) (hg : w.heap[g]? = some (.cells cur.toArray t (0, 0)))
    (n : Nat) (hn : n = Nat.min s.size dLen) (hfit : off + n ≤ cur.length)
    (h : ∀ w', Hid (w' = w.setRow g (cur.take off ++ bc (s.data.toList.take n) ++ cur.drop (off + n)).toArray) → K (a.put o.dst (goInt n)) w') : o.wp P a w K Q := by
  have hrun := run_copy_string (P := P) w dT sT o.type elem g off dLen dCap s cur t hu hsz hg n hn hfit
  have h := h _ rfl
  rw [List.append_assoc] at hrun h
  unfold Oper.wp
  simp [execOp, ho, resolve, invoke, builtin, hd, hx, hrun, Result.andThen]
  exact h
theorem step_copy_string {P : Program} {ops : Array Oper} {o : Oper} {a : Act} {w : World} {K : Act → World → Prop} {Q : Exit → Act → World → Prop} {E : Prop} (hgd : o.guard = none) (d x : Operand) (dT sT : TypeId)
    (ho : o.op = .call { callee := .builtin .copy, args := #[d, x], argTypes := #[dT, sT] }) (elem : TypeId) (hu : P.underlying dT = some (.slice elem)) (hsz : (P.info? elem).map (·.size) = some 1)
    (g off dLen dCap : Nat) (s : ByteArray) (hd : a.eval d = .slice (some ⟨g, off, none⟩) dLen dCap) (hx : a.eval x = .string s) (cur : List Value) (t : TypeId) (hg : w.heap[g]? = some (.cells cur.toArray t (0, 0)))
    (n : Nat) (hn : n = Nat.min s.size dLen) (hfit : off + n ≤ cur.length)
    (h : ∀ w', Hid (w' = w.setRow g (cur.take off ++ bc (s.data.toList.take n) ++ cur.drop (off + n)).toArray) → K (a.put o.dst (goInt n)) w') :
    if Region.wanted o (yielded ops a.tmps) = true then Oper.wp P o a w K Q else E := by
  have hw : Region.wanted o (yielded ops a.tmps) = true := by simp [Region.wanted, hgd]
  rw [if_pos hw]
  exact wp_copy_string d x dT sT ho elem hu hsz g off dLen dCap s hd hx cur t hg n hn hfit h
theorem wpList_copy_string {P : Program} {ops : Array Oper} {rest : List Oper} {o : Oper} {a : Act} {w : World} {Q : Exit → Act → World → Prop} (hgd : o.guard = none) (d x : Operand) (dT sT : TypeId)
    (ho : o.op = .call { callee := .builtin .copy, args := #[d, x], argTypes := #[dT, sT] }) (elem : TypeId) (hu : P.underlying dT = some (.slice elem)) (hsz : (P.info? elem).map (·.size) = some 1)
    (g off dLen dCap : Nat) (s : ByteArray) (hd : a.eval d = .slice (some ⟨g, off, none⟩) dLen dCap) (hx : a.eval x = .string s) (cur : List Value) (t : TypeId) (hg : w.heap[g]? = some (.cells cur.toArray t (0, 0)))
    (n : Nat) (hn : n = Nat.min s.size dLen) (hfit : off + n ≤ cur.length)
    (h : ∀ w', Hid (w' = w.setRow g (cur.take off ++ bc (s.data.toList.take n) ++ cur.drop (off + n)).toArray) → wpList P ops Q rest (a.put o.dst (goInt n)) w') : wpList P ops Q (o :: rest) a w :=
  wpList_plain hgd fun _ hK => wp_copy_string d x dT sT ho elem hu hsz g off dLen dCap s hd hx cur t hg n hn hfit (fun w' hw' => hK _ _ (h w' hw'))

end Go.Proofs.Ytcdnpdmcijiffaa

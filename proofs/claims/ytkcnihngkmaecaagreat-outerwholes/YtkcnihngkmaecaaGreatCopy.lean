/- A text copied into a row of bytes; nothing of the program. -/
import Derived.Test.YtkcnihngkmaecaaGreatLib
import Derived.Laws.DeepStrings4
namespace Go.Proofs.YtkcnihngkmaecaaGreat
open Go.RowKit
set_option linter.unusedVariables false

theorem run_copy_stringB {P : Program} (w : World) (dT sT ty elem : TypeId) (g o dLen dCap : Nat) (s : ByteArray) (cur : List Value) (t : TypeId) (hu : P.underlying dT = some (.slice elem)) (hs : (P.info? elem).map (·.size) = some 1)
    (hg : w.heap[g]? = some (.cells cur.toArray t (0, 0))) (n : Nat) (hn : n = Nat.min s.size dLen) (hfit : o + n ≤ cur.length) :
    (Builtin.copy_ #[dT, sT] ty #[.slice (some ⟨g, o, none⟩) dLen dCap, .string s]).run P w = .ok (goInt n) (w.setRow g (cur.take o ++ bc (s.data.toList.take n) ++ cur.drop (o + n)).toArray) := by
  have hl : (bc (s.data.toList.take n)).length = n := by
    rw [bc_length, List.length_take, blen]
    have : n ≤ s.size := by rw [hn]; exact Nat.min_le_left _ _
    omega
  have hst := run_storeCells_at P g o t (bc (s.data.toList.take n)) 0 cur.toArray w hg (by rw [hl]; simpa using hfit) (bc_oneCell _)
  simp only [Nat.add_zero, hl] at hst
  have hf : (Builtin.firstCells 1 n (.string s)).run P w = .ok (bc (s.data.toList.take n)).toArray w := by
    simp [Builtin.firstCells, bc]
    apply Array.ext'
    simp
  cases hq : P.info? elem with
  | none => simp [hq] at hs
  | some inf =>
    have hs1 : inf.size = 1 := by simpa [hq] using hs
    simp only [hn] at hst hf ⊢
    simp [Builtin.copy_, run_underlying hu, Builtin.lenOf, sizeOf, typeInfo, hq, hs1, hf, hst]

theorem wp_copy_stringB {P : Program} {o : Oper} {a : Act} {w : World} {K : Act → World → Prop} {Q : Exit → Act → World → Prop} (d x : Operand) (dT sT : TypeId)
    (ho : o.op = .call { callee := .builtin .copy, args := #[d, x], argTypes := #[dT, sT] }) (elem : TypeId) (hu : P.underlying dT = some (.slice elem)) (hsz : (P.info? elem).map (·.size) = some 1)
    (g off dLen dCap : Nat) (s : ByteArray) (hd : a.eval d = .slice (some ⟨g, off, none⟩) dLen dCap) (hx : a.eval x = .string s) (cur : List Value) (t : TypeId) (hg : w.heap[g]? = some (.cells cur.toArray t (0, 0)))
    (n : Nat) (hn : n = Nat.min s.size dLen) (hfit : off + n ≤ cur.length)
    (h : ∀ w', Hid (w' = w.setRow g (cur.take off ++ bc (s.data.toList.take n) ++ cur.drop (off + n)).toArray) → K (a.put o.dst (goInt n)) w') : o.wp P a w K Q := by
  have hrun := run_copy_stringB (P := P) w dT sT o.type elem g off dLen dCap s cur t hu hsz hg n hn hfit
  have h := h _ rfl
  rw [List.append_assoc] at hrun h
  unfold Oper.wp
  simp [execOp, ho, resolve, invoke, builtin, hd, hx, hrun, Result.andThen]
  exact h
theorem step_copy_stringB {P : Program} {ops : Array Oper} {o : Oper} {a : Act} {w : World} {K : Act → World → Prop} {Q : Exit → Act → World → Prop} {E : Prop} (hgd : o.guard = none) (d x : Operand) (dT sT : TypeId)
    (ho : o.op = .call { callee := .builtin .copy, args := #[d, x], argTypes := #[dT, sT] }) (elem : TypeId) (hu : P.underlying dT = some (.slice elem)) (hsz : (P.info? elem).map (·.size) = some 1)
    (g off dLen dCap : Nat) (s : ByteArray) (hd : a.eval d = .slice (some ⟨g, off, none⟩) dLen dCap) (hx : a.eval x = .string s) (cur : List Value) (t : TypeId) (hg : w.heap[g]? = some (.cells cur.toArray t (0, 0)))
    (n : Nat) (hn : n = Nat.min s.size dLen) (hfit : off + n ≤ cur.length)
    (h : ∀ w', Hid (w' = w.setRow g (cur.take off ++ bc (s.data.toList.take n) ++ cur.drop (off + n)).toArray) → K (a.put o.dst (goInt n)) w') :
    if Region.wanted o (yielded ops a.tmps) = true then Oper.wp P o a w K Q else E := by
  have hw : Region.wanted o (yielded ops a.tmps) = true := by simp [Region.wanted, hgd]
  rw [if_pos hw]
  exact wp_copy_stringB d x dT sT ho elem hu hsz g off dLen dCap s hd hx cur t hg n hn hfit h
theorem wpList_copy_stringB {P : Program} {ops : Array Oper} {rest : List Oper} {o : Oper} {a : Act} {w : World} {Q : Exit → Act → World → Prop} (hgd : o.guard = none) (d x : Operand) (dT sT : TypeId)
    (ho : o.op = .call { callee := .builtin .copy, args := #[d, x], argTypes := #[dT, sT] }) (elem : TypeId) (hu : P.underlying dT = some (.slice elem)) (hsz : (P.info? elem).map (·.size) = some 1)
    (g off dLen dCap : Nat) (s : ByteArray) (hd : a.eval d = .slice (some ⟨g, off, none⟩) dLen dCap) (hx : a.eval x = .string s) (cur : List Value) (t : TypeId) (hg : w.heap[g]? = some (.cells cur.toArray t (0, 0)))
    (n : Nat) (hn : n = Nat.min s.size dLen) (hfit : off + n ≤ cur.length)
    (h : ∀ w', Hid (w' = w.setRow g (cur.take off ++ bc (s.data.toList.take n) ++ cur.drop (off + n)).toArray) → wpList P ops Q rest (a.put o.dst (goInt n)) w') : wpList P ops Q (o :: rest) a w :=
  wpList_plain hgd fun _ hK => wp_copy_stringB d x dT sT ho elem hu hsz g off dLen dCap s hd hx cur t hg n hn hfit (fun w' hw' => hK _ _ (h w' hw'))

end Go.Proofs.YtkcnihngkmaecaaGreat

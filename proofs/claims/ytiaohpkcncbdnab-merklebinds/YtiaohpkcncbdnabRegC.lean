/- Laws of single operations, for regions that draw their order. -/
import Derived.Test.YtiaohpkcncbdnabRegB
import Derived.Test.YtiaohpkcncbdnabShaHb
import Derived.Test.YtiaohpkcncbdnabShaA
namespace Go.Proofs.Ytiaohpkcncbdnab
open Go.RowKit
set_option linter.unusedVariables false

section
variable {P : Program} {o : Oper} {a : Act} {w : World} {K : Act → World → Prop} {Q : Exit → Act → World → Prop}

theorem wp_mul64 (t t' : TypeId) (x y : Operand) (ho : o.op = .binOp .mul t x y t') (ht : P.underlying t = some (.int .i64)) (m n : Int)
    (hx : a.eval x = .int .i64 m) (hy : a.eval y = .int .i64 n) (h0 : -9223372036854775808 ≤ m * n) (h1 : m * n ≤ 9223372036854775807) (h : K (a.put o.dst (.int .i64 (m * n))) w) : o.wp P a w K Q := by
  refine wp_val _ ?_ h
  have hw : IntKind.i64.wrap (m * n) = m * n := IntWalk.i64_in _ ⟨h0, h1⟩
  simp only [execOp, ho, hx, hy]
  go_simp
  try rw [hw]
theorem wp_sub64 (t t' : TypeId) (x y : Operand) (ho : o.op = .binOp .sub t x y t') (ht : P.underlying t = some (.int .i64)) (m n : Int)
    (hx : a.eval x = .int .i64 m) (hy : a.eval y = .int .i64 n) (h0 : -9223372036854775808 ≤ m - n) (h1 : m - n ≤ 9223372036854775807) (h : K (a.put o.dst (.int .i64 (m - n))) w) : o.wp P a w K Q := by
  refine wp_val _ ?_ h
  have hw : IntKind.i64.wrap (m - n) = m - n := IntWalk.i64_in _ ⟨h0, h1⟩
  simp only [execOp, ho, hx, hy]
  go_simp
  try rw [hw]
theorem wp_addU32 (t t' : TypeId) (x y : Operand) (ho : o.op = .binOp .add t x y t') (ht : P.underlying t = some (.int .u32)) (m n r : Int)
    (hx : a.eval x = .int .u32 m) (hy : a.eval y = .int .u32 n) (hr : (m + n) % 4294967296 = r) (h : K (a.put o.dst (.int .u32 r)) w) : o.wp P a w K Q := by
  refine wp_val _ ?_ h
  have hw : IntKind.u32.wrap (m + n) = r := by rw [← hr]; simp [IntKind.wrap, IntKind.bits, IntKind.signed]
  simp only [execOp, ho, hx, hy]
  go_simp
  try rw [hw]
theorem wp_shlU32 (t t' : TypeId) (x y : Operand) (ho : o.op = .binOp .shl t x y t') (ht : P.underlying t = some (.int .u32)) (m r : Int) (n : Nat) (hn : n ≤ 32)
    (hx : a.eval x = .int .u32 m) (hy : a.eval y = .int .u64 n) (hr : m * 2 ^ n % 4294967296 = r) (h : K (a.put o.dst (.int .u32 r)) w) : o.wp P a w K Q := by
  refine wp_val _ ?_ h
  have hw : IntKind.u32.wrap (m * 2 ^ n) = r := by rw [← hr]; simp [IntKind.wrap, IntKind.bits, IntKind.signed]
  have h1 : (n : Int) ≤ 32 := by omega
  simp only [execOp, ho, hx, hy]
  go_simp
  try rw [hw]
theorem wp_conv832 (s t : TypeId) (x : Operand) (ho : o.op = .convert s t x) (hs : P.underlying s = some (.int .u8)) (ht : P.underlying t = some (.int .u32)) (m : Nat) (hm : m < 256)
    (hx : a.eval x = .int .u8 m) (h : K (a.put o.dst (.int .u32 m)) w) : o.wp P a w K Q := by
  refine wp_val _ ?_ h
  have hw : IntKind.u32.wrap (m : Int) = m := by simp [IntKind.wrap, IntKind.bits, IntKind.signed]; omega
  simp only [execOp, ho, hx]
  go_simp
  try rw [hw]
theorem wp_index_str (t : TypeId) (x y : Operand) (ho : o.op = .index t x y) (vx vy v : Value)
    (hx : a.eval x = vx) (hy : a.eval y = vy) (hr : ∀ w, (Instr.index t vx vy).run P w = .ok v w) (h : K (a.put o.dst v) w) : o.wp P a w K Q := by
  refine wp_val _ ?_ h
  simp [execOp, ho, hx, hy, hr]
theorem wp_indexAddr (t : TypeId) (x y : Operand) (ho : o.op = .indexAddr t x y) (vx vy v : Value)
    (hx : a.eval x = vx) (hy : a.eval y = vy) (hr : ∀ w, (Instr.indexAt t vx vy).run P w = .ok v w) (h : K (a.put o.dst v) w) : o.wp P a w K Q := by
  refine wp_val _ ?_ h
  simp [execOp, ho, hx, hy, hr]
theorem wp_load1 (t : TypeId) (x : Operand) (ho : o.op = .load t x) (vx v : Value) (hx : a.eval x = vx) (hr : (Instr.loadAt t vx).run P w = .ok v w)
    (h : K (a.put o.dst v) w) : o.wp P a w K Q := by
  refine wp_val _ ?_ h
  simp [execOp, ho, hx, hr]
theorem wp_buildR (t : TypeId) (n : Nat) (xs : Array (Nat × Operand)) (ho : o.op = .buildSlice t n xs) (ps : Array (Nat × Value)) (hp : xs.map (fun x => (x.1, a.eval x.2)) = ps) (v : Value) (w2 : World) (hr : (Instr.buildSlice t n ps).run P w = .ok v w2)
    (h : K (a.put o.dst v) w2) : o.wp P a w K Q := by
  unfold Oper.wp
  have : (execOp a.eval o).run P w = .ok (.value v) w2 := by
    simp only [execOp, ho]
    rw [show (xs.map fun (i, x) => (i, a.eval x)) = ps from hp]
    simp [hr]
  rw [this]
  exact h
end

theorem build32_1 (v : Int) (w : World) : (Instr.buildSlice 57 1 #[(0, .int .u32 v)]).run Try.prog w = .ok (.slice (some ⟨w.heap.size, 0, none⟩) 1 1) (w.alloc (.cells #[.int .u32 v] 61)) := by
  go_simp
theorem build32_8 (a b c d e f g h : Int) (w : World) : (Instr.buildSlice 57 8 #[(0, .int .u32 a), (1, .int .u32 b), (2, .int .u32 c), (3, .int .u32 d), (4, .int .u32 e), (5, .int .u32 f), (6, .int .u32 g), (7, .int .u32 h)]).run Try.prog w = .ok (.slice (some ⟨w.heap.size, 0, none⟩) 8 8) (w.alloc (.cells #[.int .u32 a, .int .u32 b, .int .u32 c, .int .u32 d, .int .u32 e, .int .u32 f, .int .u32 g, .int .u32 h] 61)) := by
  go_simp

theorem iaddr32 (g k n cap : Nat) (kk : Int) (hkk : kk = k) (h : k < n) (w : World) : (Instr.indexAt 57 (.slice (some ⟨g, 0, none⟩) n cap) (.int .i64 kk)).run Try.prog w = .ok (.pointer (some ⟨g, k, none⟩)) w := by
  subst hkk
  have h1 : (k : Int) < n := by omega
  go_simp
theorem load32 (p : Addr) (v : Value) (w : World) (h : w.cell? p = some v) : (Instr.loadAt 61 (.pointer (some p))).run Try.prog w = .ok v w := by
  go_simp

end Go.Proofs.Ytiaohpkcncbdnab

/- A region that draws its order and has guarded operations, all of which run, walked by an invariant. -/
import Derived.Test.YtahejlimdgniiabRegB
namespace Go.Proofs.Ytahejlimdgniiab
open Go.RowKit
set_option linter.unusedVariables false

theorem wp_region_invG {P : Program} {id : Nat} {ops : Array Oper} {Q : Exit → Act → World → Prop} {a : Act} {w : World} (hm : P.follows .mixedOrders = true) (htop : topOkB ops = true)
    (I : (Nat → Bool) → Act → World → Prop) (start : I (fun _ => false) a w.drew)
    (step : ∀ f a w i o, I f a w → ops[i]? = some o → f i = false → (∀ e ∈ o.after, Region.binds .any e = true → f e.on = true) →
      Region.wanted o (yielded ops a.tmps) = true ∧ o.wp P a w (fun a' w' => I (upd f i) a' w') Q)
    (fin : ∀ f a w, I f a w → (∀ i, i < ops.size → f i = true) → Q .normal a w) : (Code.region id ops true).wp P Q a w := by
  refine wp_region_invB hm (topOkB_spec htop) I start ?_ fin
  intro f a w i o hI ho hf hd
  obtain ⟨h1, h2⟩ := step f a w i o hI ho hf hd
  exact ⟨fun _ => h2, fun hw => by rw [h1] at hw; cases hw⟩

theorem wanted_of {ops : Array Oper} {o : Oper} {a : Act} (j d : Nat) (b : Bool) (hg : o.guard = some (j, b)) (hd : (ops[j]?).bind (·.dst) = some d) (hv : a.eval (.tmp d) = .bool b) : Region.wanted o (yielded ops a.tmps) = true := by
  have h2 : a.tmps[d]? = some (.bool b) := by
    have h3 : a.tmps[d]?.getD undef = .bool b := by simpa [Act.eval] using hv
    cases h4 : a.tmps[d]? with
    | none => rw [h4] at h3; cases h3
    | some v => rw [h4] at h3; exact congrArg some h3
  unfold Region.wanted yielded
  rw [hg]
  show ((match ((ops[j]?).bind (·.dst)).bind (a.tmps[·]?) with | some (.bool b) => some b | _ => none) == some b) = true
  rw [hd]
  simp [h2]

section
variable {P : Program} {o : Oper} {a : Act} {w : World} {K : Act → World → Prop} {Q : Exit → Act → World → Prop}
theorem wp_pickT (c x y : Operand) (ho : o.op = .pick c x y) (v : Value) (hc : a.eval c = .bool true) (hx : a.eval x = v) (h : K (a.put o.dst v) w) : o.wp P a w K Q := by
  refine wp_val _ ?_ h
  simp [execOp, ho, hc, hx, asBool]
theorem wp_pickF (c x y : Operand) (ho : o.op = .pick c x y) (v : Value) (hc : a.eval c = .bool false) (hy : a.eval y = v) (h : K (a.put o.dst v) w) : o.wp P a w K Q := by
  refine wp_val _ ?_ h
  simp [execOp, ho, hc, hy, asBool]
theorem wp_eq64T (t t' : TypeId) (x y : Operand) (ho : o.op = .binOp .eql t x y t') (ht : P.underlying t = some (.int .i64)) (m : Int)
    (hx : a.eval x = .int .i64 m) (hy : a.eval y = .int .i64 m) (h : K (a.put o.dst (.bool true)) w) : o.wp P a w K Q := by
  refine wp_val _ ?_ h
  simp only [execOp, ho, hx, hy]
  go_simp
theorem wp_load1 (t : TypeId) (x : Operand) (ho : o.op = .load t x) (vx v : Value) (hx : a.eval x = vx) (hr : (Instr.loadAt t vx).run P w = .ok v w)
    (h : K (a.put o.dst v) w) : o.wp P a w K Q := by
  refine wp_val _ ?_ h
  simp [execOp, ho, hx, hr]
theorem wp_ne64F (t t' : TypeId) (x y : Operand) (ho : o.op = .binOp .neq t x y t') (ht : P.underlying t = some (.int .i64)) (m : Int)
    (hx : a.eval x = .int .i64 m) (hy : a.eval y = .int .i64 m) (h : K (a.put o.dst (.bool false)) w) : o.wp P a w K Q := by
  refine wp_val _ ?_ h
  simp only [execOp, ho, hx, hy]
  go_simp
theorem wp_neStrF (t t' : TypeId) (x y : Operand) (ho : o.op = .binOp .neq t x y t') (ht : P.underlying t = some .string) (s : ByteArray)
    (hx : a.eval x = .string s) (hy : a.eval y = .string s) (h : K (a.put o.dst (.bool false)) w) : o.wp P a w K Q := by
  refine wp_val _ ?_ h
  simp only [execOp, ho, hx, hy]
  go_simp
end

end Go.Proofs.Ytahejlimdgniiab

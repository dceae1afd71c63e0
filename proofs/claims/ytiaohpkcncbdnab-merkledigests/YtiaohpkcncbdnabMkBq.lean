/- What the laws MerkleBinds and MerkleDigests do, whatever the world: they answer true and change nothing that was there. -/
import Derived.Test.YtiaohpkcncbdnabMkTo
import Derived.Test.YtiaohpkcncbdnabMkWr
import Derived.Test.YtiaohpkcncbdnabOpenFd
import Derived.Test.YtiaohpkcncbdnabSam3
namespace Go.Proofs.Ytiaohpkcncbdnab
open Go.RowKit
set_option linter.unusedVariables false

theorem quiet_val {P : Program} {ops : Array Oper} {C : World → Prop} {Post : Act → Prop} {o : Oper} {rest : List Oper} {a : Act} (hg : o.guard = none) (v : Value) (hrun : ∀ w, (execOp a.eval o).run P w = .ok (.value v) w) (h : wpQuiet P ops C Post rest (a.put o.dst v)) : wpQuiet P ops C Post (o :: rest) a := by
  unfold wpQuiet
  rw [if_pos (by unfold Region.wanted; rw [hg])]
  exact ⟨v, fun w _ => by unfold Oper.quietAt; rw [hrun]; exact ⟨rfl, rfl⟩, h⟩
theorem quiet_extract {P : Program} {ops : Array Oper} {C : World → Prop} {Post : Act → Prop} {o : Oper} {rest : List Oper} {a : Act} (hg : o.guard = none) (x : Operand) (k : Nat) (ho : o.op = .extract x k) (vs : Array Value) (v : Value)
    (hx : a.eval x = .tuple vs) (hv : vs[k]? = some v) (h : wpQuiet P ops C Post rest (a.put o.dst v)) : wpQuiet P ops C Post (o :: rest) a :=
  quiet_val hg v (fun w => by simp [execOp, ho, hx, Instr.extract, hv]) h
theorem quiet_assign {P : Program} {ops : Array Oper} {C : World → Prop} {Post : Act → Prop} {o : Oper} {rest : List Oper} {a : Act} (hg : o.guard = none) (x : Operand) (ho : o.op = .assign x) (v : Value) (hx : a.eval x = v)
    (h : wpQuiet P ops C Post rest (a.put o.dst v)) : wpQuiet P ops C Post (o :: rest) a :=
  quiet_val hg v (fun w => by simp [execOp, ho, hx]) h
theorem rest_climb (n i : Int) (d : By) (path : List By) (h : d.length ≤ 100) : (climbR n i d path).length ≤ 9 ∧ ∀ t ∈ climbR n i d path, t.length ≤ 2000 := by
  unfold climbR
  split
  · rename_i h0
    obtain ⟨h1, h2, h3, h4⟩ := foldE_ok h0
    obtain ⟨t1, t2, t3, t4⟩ := there_of h1
    have := plan_length n.toNat i.toNat 8 (by omega) (by omega)
    refine ⟨by rw [climbP_len shaSum _ _ _ h3.symm]; omega, fun t ht => ?_⟩
    have := climb_short _ _ _ h2 h4 t ht
    omega
  · simp
theorem rest_road (n i : Int) (s : By) (path : List By) (h : s.length ≤ 1024) : (roadR n i s path).length ≤ 9 ∧ ∀ t ∈ roadR n i s path, t.length ≤ 2000 := by
  unfold roadR
  split
  · rename_i h0
    obtain ⟨h1, h2, h3, h4⟩ := foldE_ok h0
    obtain ⟨t1, t2, t3, t4⟩ := there_of h1
    have := plan_length n.toNat i.toNat 8 (by omega) (by omega)
    refine ⟨by rw [List.length_cons, climbP_len shaSum _ _ _ h3.symm]; omega, fun t ht => ?_⟩
    rcases List.mem_cons.1 ht with rfl | ht
    · simp [leafT]; omega
    · have := climb_short _ _ _ h2 h4 t ht
      omega
  · simp

end Go.Proofs.Ytiaohpkcncbdnab

/- A region that draws its order, some guarded operations of which are passed by, walked by an invariant; small laws besides. -/
import Derived.Test.YtahejlimdgniiabRegH
import Derived.Test.YtahejlimdgniiabOctR
import Derived.Test.YtahejlimdgniiabFlds
namespace Go.Proofs.Ytahejlimdgniiab
open Go.RowKit
set_option linter.unusedVariables false

theorem wp_region_invS {P : Program} {id : Nat} {ops : Array Oper} {Q : Exit → Act → World → Prop} {a : Act} {w : World} (hm : P.follows .mixedOrders = true) (htop : topOkB ops = true)
    (I : (Nat → Bool) → Act → World → Prop) (start : I (fun _ => false) a w.drew)
    (step : ∀ f a w i o, I f a w → ops[i]? = some o → f i = false → (∀ e ∈ o.after, Region.binds .any e = true → f e.on = true) →
      (Region.wanted o (yielded ops a.tmps) = true ∧ o.wp P a w (fun a' w' => I (upd f i) a' w') Q) ∨ (Region.wanted o (yielded ops a.tmps) = false ∧ I (upd f i) (a.put o.dst undef) w))
    (fin : ∀ f a w, I f a w → (∀ i, i < ops.size → f i = true) → Q .normal a w) : (Code.region id ops true).wp P Q a w := by
  refine wp_region_invB hm (topOkB_spec htop) I start ?_ fin
  intro f a w i o hI ho hf hd
  rcases step f a w i o hI ho hf hd with ⟨h1, h2⟩ | ⟨h1, h2⟩
  · exact ⟨fun _ => h2, fun hw => by rw [h1] at hw; cases hw⟩
  · exact ⟨fun hw => (by rw [h1] at hw; cases hw), fun _ => h2⟩
theorem unwanted_of {ops : Array Oper} {o : Oper} {a : Act} (j d : Nat) (b : Bool) (hg : o.guard = some (j, b)) (hd : (ops[j]?).bind (·.dst) = some d) (hv : a.eval (.tmp d) = .bool (!b)) : Region.wanted o (yielded ops a.tmps) = false := by
  have h2 : a.tmps[d]? = some (.bool (!b)) := by
    have h3 : a.tmps[d]?.getD undef = .bool (!b) := by simpa [Act.eval] using hv
    cases h4 : a.tmps[d]? with
    | none => rw [h4] at h3; cases h3
    | some v => rw [h4] at h3; exact congrArg some h3
  unfold Region.wanted yielded
  rw [hg]
  show ((match ((ops[j]?).bind (·.dst)).bind (a.tmps[·]?) with | some (.bool b) => some b | _ => none) == some b) = false
  rw [hd]
  cases b <;> simp [h2]
section
variable {P : Program} {o : Oper} {a : Act} {w : World} {K : Act → World → Prop} {Q : Exit → Act → World → Prop}
theorem wp_eq64F (t t' : TypeId) (x y : Operand) (ho : o.op = .binOp .eql t x y t') (ht : P.underlying t = some (.int .i64)) (m n : Int) (hmn : (m == n) = false)
    (hx : a.eval x = .int .i64 m) (hy : a.eval y = .int .i64 n) (h : K (a.put o.dst (.bool false)) w) : o.wp P a w K Q := by
  refine wp_val _ ?_ h
  simp only [execOp, ho, hx, hy]
  go_simp
theorem wp_lenS (t : TypeId) (x : Operand) (ho : o.op = .call { callee := .builtin .len, args := #[x], argTypes := #[t] }) (ht : P.underlying t = some .string) (s : ByteArray)
    (hx : a.eval x = .string s) (h : K (a.put o.dst (.int .i64 s.size)) w) : o.wp P a w K Q := by
  refine wp_val _ ?_ h
  have hm : #[x].map a.eval = #[.string s] := by simp [hx]
  simp only [execOp, ho]
  go_simp
end
theorem fa_fld0 (g : Nat) (w : World) : (Instr.fieldAt 45 (.pointer (some ⟨g, 0, none⟩)) 0).run Try.prog w = .ok (.pointer (some ⟨g, 0, none⟩)) w := by go_simp
theorem fa_fld1 (g : Nat) (w : World) : (Instr.fieldAt 45 (.pointer (some ⟨g, 0, none⟩)) 1).run Try.prog w = .ok (.pointer (some ⟨g, 1, none⟩)) w := by go_simp
theorem fa_fld2 (g : Nat) (w : World) : (Instr.fieldAt 45 (.pointer (some ⟨g, 0, none⟩)) 2).run Try.prog w = .ok (.pointer (some ⟨g, 2, none⟩)) w := by go_simp
theorem fa_fld3 (g : Nat) (w : World) : (Instr.fieldAt 45 (.pointer (some ⟨g, 0, none⟩)) 3).run Try.prog w = .ok (.pointer (some ⟨g, 3, none⟩)) w := by go_simp
theorem loadI (p : Addr) (v : Value) (w : World) (h : w.cell? p = some v) : (Instr.loadAt 3 (.pointer (some p))).run Try.prog w = .ok v w := by go_simp
theorem loadS (p : Addr) (v : Value) (w : World) (h : w.cell? p = some v) : (Instr.loadAt 9 (.pointer (some p))).run Try.prog w = .ok v w := by go_simp
theorem Try.infoF : (Try.prog.info? 45).map (fun i => (i.zero, i.size, i.bytes)) = some (some (.agg #[.int .i64 0, .int .i64 0, .int .i64 0, .string ⟨#[]⟩]), 4, 40) := by kernel_rfl
theorem Try.undF : Try.prog.underlying 39 = some (.slice 45) := by kernel_rfl
theorem news_lit' (w : World) (xs : List Value) (t : TypeId) : ∀ j u, xs[j]? = some u → (w.alloc (.cells xs.toArray t)).cell? ((⟨w.heap.size, 0, none⟩ : Addr).add j) = some u := by
  intro j u h
  have hb := heap_alloc_new w (.cells xs.toArray t)
  rw [show (⟨w.heap.size, 0, none⟩ : Addr).add j = ⟨w.heap.size, j, none⟩ by unfold Addr.add; split <;> simp_all, cell_of_row _ _ j _ t (0, 0) hb]
  simpa using h
theorem own_shape4 {w : World} {base n size : Nat} {e : TypeId} {v : Value} {xs : List Value} (hown : w.ownsRow base e size v n xs) : ∃ ao cap, v = .slice ao n cap := by
  rcases hown.2 with ⟨h', h0⟩ | ⟨g, cap', cur, h', _⟩
  · exact ⟨none, 0, by rw [h', h0]⟩
  · exact ⟨_, _, h'⟩
theorem from_new' (s : ByteArray) (w : World) :
    Calls Try.prog 28 #[.string s] w fun x w' => ∃ b, x = .returned (.pointer (some ⟨b, 0, none⟩)) ∧ RdAt w' b (s, 0) ∧ w.heap.size ≤ b ∧ Below w.heap.size w w' := by
  refine (from_any s w).mono ?_
  rintro e w' ⟨rfl, h, rfl⟩
  exact ⟨_, rfl, h, Nat.le_refl _, (Below.refl _ _).alloc (Nat.le_refl _) _⟩

end Go.Proofs.Ytahejlimdgniiab

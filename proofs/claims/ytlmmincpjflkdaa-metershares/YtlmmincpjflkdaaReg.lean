/- A region that draws its order, walked by an invariant: one step an operation, whatever the order. -/
import Derived.Test.YtlmmincpjflkdaaLib
import Derived.Orders
import Derived.BigCall
import Derived.Deep.MidRow
namespace Go.Proofs.Ytlmmincpjflkdaa
open Go.RowKit
set_option linter.unusedVariables false

theorem countP_lt {α : Type} (p q : α → Bool) : ∀ l : List α, (∀ j ∈ l, q j = true → p j = true) → (∃ j, j ∈ l ∧ p j = true ∧ q j = false) → l.countP q < l.countP p
  | [], _, ⟨_, h, _⟩ => by cases h
  | x :: l, h, ⟨j, hj, hp, hq⟩ => by
    have hle : ∀ l : List α, (∀ j ∈ l, q j = true → p j = true) → l.countP q ≤ l.countP p := fun l hl => List.countP_mono_left hl
    rw [List.countP_cons, List.countP_cons]
    have hx := h x (by simp)
    have hl := hle l (fun j hj => h j (by simp [hj]))
    rcases List.mem_cons.1 hj with rfl | hj'
    · rw [hp, hq]; simp; omega
    · have := countP_lt p q l (fun j hj => h j (by simp [hj])) ⟨j, hj', hp, hq⟩
      cases hqx : q x
      · simp; omega
      · rw [hx hqx]; simp; omega

/-- what is listed, with one more -/
def upd (f : Nat → Bool) (i : Nat) : Nat → Bool := fun j => if j = i then true else f j

theorem getD_set (L : Array Bool) (i : Nat) (h : i < L.size) : (fun j => (L.setIfInBounds i true).getD j false) = upd (fun j => L.getD j false) i := by
  funext j
  unfold upd
  by_cases e : j = i
  · subst e; simp [Array.getD, h]
  · rw [if_neg e]
    have e' : i ≠ j := fun h => e h.symm
    simp [Array.getElem?_setIfInBounds_ne e']

theorem wpAny_inv {P : Program} {ops : Array Oper} {Q : Exit → Act → World → Prop} (md : Region.Mode) (htop : ∀ (i : Nat) (o : Oper), ops[i]? = some o → ∀ e ∈ o.after, e.on < i)
    (I : (Nat → Bool) → Act → World → Prop)
    (step : ∀ f a w i o, I f a w → ops[i]? = some o → f i = false → (∀ e ∈ o.after, Region.binds md e = true → f e.on = true) →
      (Region.wanted o (yielded ops a.tmps) = true → o.wp P a w (fun a' w' => I (upd f i) a' w') Q) ∧ (Region.wanted o (yielded ops a.tmps) = false → I (upd f i) (a.put o.dst undef) w))
    (fin : ∀ f a w, I f a w → (∀ i, i < ops.size → f i = true) → Q .normal a w) :
    ∀ (fuel : Nat) (L : Array Bool) (a : Act) (w : World), L.size = ops.size → I (fun i => L.getD i false) a w → (List.range ops.size).countP (fun i => !(L.getD i false)) ≤ fuel → wpAny P md ops Q fuel L a w := by
  have hfin : ∀ (L : Array Bool) (a : Act) (w : World), L.size = ops.size → I (fun i => L.getD i false) a w → Region.ready md ops L = [] → Q .normal a w := by
    intro L a w hsz hI hr
    refine fin _ a w hI ?_
    intro i
    induction i using Nat.strongRecOn with
    | _ i ih =>
      intro hi
      cases hL : L.getD i false with
      | true => rfl
      | false =>
        exfalso
        have hm : i ∈ Region.ready md ops L := by
          unfold Region.ready
          rw [List.mem_filter]
          refine ⟨List.mem_range.2 hi, ?_⟩
          have ho : ops[i]? = some ops[i] := Array.getElem?_eq_getElem hi
          have hLt : L.getD i true = false := by
            have hiL : i < L.size := by omega
            simp [Array.getD, hiL] at hL ⊢
            exact hL
          rw [ho, hLt]
          simp only [Option.map_some, Option.getD_some, Bool.not_false, Bool.true_and, Array.all_eq_true']
          intro e he
          have hlt := htop i _ ho e he
          have := ih e.on hlt (by omega)
          rw [this]
          simp
        rw [hr] at hm
        cases hm
  have hmem : ∀ (L : Array Bool) (i : Nat), L.size = ops.size → i ∈ Region.ready md ops L → i < ops.size ∧ L.getD i false = false ∧ ∀ o, ops[i]? = some o → ∀ e ∈ o.after, Region.binds md e = true → L.getD e.on false = true := by
    intro L i hsz hi
    unfold Region.ready at hi
    rw [List.mem_filter] at hi
    obtain ⟨h1, h2⟩ := hi
    have hi' := List.mem_range.1 h1
    have hiL : i < L.size := by omega
    rw [Bool.and_eq_true] at h2
    refine ⟨hi', ?_, ?_⟩
    · have := h2.1
      simp [Array.getD, hiL] at this ⊢
      exact this
    · intro o ho e he hb
      have h3 := h2.2
      rw [ho] at h3
      simp only [Option.map_some, Option.getD_some, Array.all_eq_true'] at h3
      have h4 := h3 e he
      rw [hb] at h4
      simpa using h4
  intro fuel
  induction fuel with
  | zero =>
    intro L a w hsz hI hc
    have hr : Region.ready md ops L = [] := by
      cases hq : Region.ready md ops L with
      | nil => rfl
      | cons i rest =>
        exfalso
        obtain ⟨h1, h2, _⟩ := hmem L i hsz (by rw [hq]; simp)
        have : 0 < (List.range ops.size).countP (fun i => !(L.getD i false)) := List.countP_pos_iff.2 ⟨i, List.mem_range.2 h1, by simp [h2]⟩
        omega
    exact ⟨hr, hfin L a w hsz hI hr⟩
  | succ fuel ih =>
    intro L a w hsz hI hc
    refine ⟨hfin L a w hsz hI, ?_⟩
    intro i hi
    obtain ⟨h1, h2, h3⟩ := hmem L i hsz hi
    have ho : ops[i]? = some ops[i] := Array.getElem?_eq_getElem h1
    have hst := step _ a w i ops[i] hI ho h2 (h3 _ ho)
    have next : ∀ a' w', I (upd (fun i => L.getD i false) i) a' w' → wpAny P md ops Q fuel (L.setIfInBounds i true) a' w' := by
      intro a' w' hI'
      have hg := getD_set L i (by omega)
      refine ih _ a' w' (by simpa using hsz) ?_ ?_
      · rw [hg]; exact hI'
      · have hlt : (List.range ops.size).countP (fun j => !((L.setIfInBounds i true).getD j false)) < (List.range ops.size).countP (fun j => !(L.getD j false)) := by
          refine countP_lt _ _ _ ?_ ⟨i, List.mem_range.2 h1, by simp [h2], ?_⟩
          · intro j _ hj
            have hgj : (L.setIfInBounds i true).getD j false = upd (fun j => L.getD j false) i j := congrFun hg j
            rw [hgj] at hj
            unfold upd at hj
            by_cases e : j = i
            · rw [if_pos e] at hj; simp at hj
            · rw [if_neg e] at hj; exact hj
          · have hgj : (L.setIfInBounds i true).getD i false = upd (fun j => L.getD j false) i i := congrFun hg i
            rw [hgj]
            simp [upd]
        omega
    unfold wpOp
    rw [ho]
    simp only
    by_cases hw : Region.wanted ops[i] (yielded ops a.tmps) = true
    · rw [if_pos hw]
      exact .inl (Oper.wp_mono next (hst.1 hw))
    · rw [if_neg hw]
      exact next _ _ (hst.2 (by simpa using hw))

theorem wp_region_inv {P : Program} {id : Nat} {ops : Array Oper} {Q : Exit → Act → World → Prop} {a : Act} {w : World} (hm : P.follows .mixedOrders = true)
    (htop : ∀ (i : Nat) (o : Oper), ops[i]? = some o → ∀ e ∈ o.after, e.on < i)
    (I : (Nat → Bool) → Act → World → Prop) (start : I (fun _ => false) a w.drew)
    (step : ∀ f a w i o, I f a w → ops[i]? = some o → f i = false → (∀ e ∈ o.after, Region.binds .any e = true → f e.on = true) →
      (Region.wanted o (yielded ops a.tmps) = true → o.wp P a w (fun a' w' => I (upd f i) a' w') Q) ∧ (Region.wanted o (yielded ops a.tmps) = false → I (upd f i) (a.put o.dst undef) w))
    (fin : ∀ f a w, I f a w → (∀ i, i < ops.size → f i = true) → Q .normal a w) : (Code.region id ops true).wp P Q a w := by
  refine wp_region_any hm (wpAny_inv .any htop I step fin _ _ a _ (by simp) ?_ ?_)
  · have : (fun i => (Array.replicate ops.size false).getD i false) = fun _ => false := by
      funext i
      by_cases h : i < ops.size <;> simp [Array.getD, h]
    rw [this]
    exact start
  · refine Nat.le_trans List.countP_le_length ?_
    simp

/-- a is A but for the slots S -/
structure Off (S : List Nat) (A a : Act) : Prop where
  size : a.tmps.size = A.tmps.size
  defers : a.defers = A.defers
  same : ∀ t, t ∉ S → a.tmps[t]? = A.tmps[t]?
theorem Off.refl (S : List Nat) (A : Act) : Off S A A := ⟨rfl, rfl, fun _ _ => rfl⟩
theorem Off.put {S : List Nat} {A a : Act} (h : Off S A a) (d : Nat) (v : Value) (hd : d ∈ S) : Off S A (a.put (some d) v) := by
  refine ⟨by simp [Act.put, h.size], h.defers, fun t ht => ?_⟩
  have hne : d ≠ t := fun e => ht (e ▸ hd)
  simp [Act.put, Array.getElem?_setIfInBounds_ne hne, h.same t ht]
theorem Off.eval {S : List Nat} {A a : Act} (h : Off S A a) (t : Nat) (ht : t ∉ S) : a.eval (.tmp t) = A.eval (.tmp t) := by
  simp [Act.eval, h.same t ht]
theorem eval_put_same (a : Act) (d : Nat) (v : Value) (h : d < a.tmps.size) : (a.put (some d) v).eval (.tmp d) = v := by
  simp [Act.eval, Act.put, h]
theorem eval_put_ne (a : Act) (d t : Nat) (v : Value) (h : d ≠ t) : (a.put (some d) v).eval (.tmp t) = a.eval (.tmp t) := by
  simp [Act.eval, Act.put, Array.getElem?_setIfInBounds_ne h]
theorem eval_put_none (a : Act) (v : Value) : a.put none v = a := rfl
theorem Off.all {a : Act} : ∀ (S : List Nat) (A : Act), Off S A a → a = S.foldl (fun c t => c.put (some t) (a.eval (.tmp t))) A
  | [], A, h => by
    obtain ⟨at_, ad⟩ := a
    obtain ⟨At, Ad⟩ := A
    have e1 : at_ = At := Array.ext_getElem? fun t => h.same t (by simp)
    have e2 : ad = Ad := h.defers
    subst e1 e2
    rfl
  | d :: S, A, h => by
    rw [List.foldl_cons]
    refine Off.all S _ ⟨by simp [Act.put, h.size], h.defers, fun t ht => ?_⟩
    by_cases e : d = t
    · subst e
      by_cases hd : d < A.tmps.size
      · have ha : d < a.tmps.size := by rw [h.size]; exact hd
        simp [Act.put, Act.eval, hd, ha]
      · have ha : ¬ d < a.tmps.size := by rw [h.size]; exact hd
        rw [Array.getElem?_eq_none (by omega), Array.getElem?_eq_none (by simp [Act.put]; omega)]
    · simp only [Act.put, Array.getElem?_setIfInBounds_ne e]
      exact h.same t (by simp [ht, Ne.symm e])

theorem wp_call {P : Program} {o : Oper} {a : Act} {w : World} {K : Act → World → Prop} {Q : Exit → Act → World → Prop} (f : FuncId) (xs : Array Operand) (ats : Array TypeId)
    (ho : o.op = .call { callee := .value (.func f), args := xs, argTypes := ats }) (henter : ∀ args w, (callFunc f args).run P w = .ok (.enter f args) w)
    (vs : Array Value) (hvs : xs.map a.eval = vs) {R : Ending → World → Prop} (hc : Calls P f vs w R) (h : ∀ e w', R e w' → ∃ v, e = .returned v ∧ K (a.put o.dst v) w') : o.wp P a w K Q := by
  obtain ⟨dst, op, ty, pos, after, guard⟩ := o
  simp only at ho
  subst ho
  unfold Oper.wp
  rw [execOp_call_go, henter]
  simp only [Array.empty_append, Array.append_empty, hvs]
  refine hc.mono fun e w' hr => ?_
  obtain ⟨v, rfl, hk⟩ := h e w' hr
  exact hk
theorem wp_alloc {P : Program} {o : Oper} {a : Act} {w : World} {K : Act → World → Prop} {Q : Exit → Act → World → Prop} (t : TypeId) (ho : o.op = .alloc t) (z : Value)
    (hz : ∀ w, (zeroValue t).run P w = .ok z w) (h : K (a.put o.dst (.pointer (some ⟨w.heap.size, 0, none⟩))) (w.alloc (.cells z.cells t))) : o.wp P a w K Q := by
  obtain ⟨dst, op, ty, pos, after, guard⟩ := o
  simp only at ho
  subst ho
  unfold Oper.wp
  have : (execOp a.eval { dst := dst, op := .alloc t, type := ty, pos := pos, after := after, guard := guard }).run P w = .ok (.value (.pointer (some ⟨w.heap.size, 0, none⟩))) (w.alloc (.cells z.cells t)) := by
    simp [execOp, Instr.alloc, hz, newVar, newRow]
  rw [this]
  exact h
/-- each operation waits for earlier ones alone -/
def topOk (ops : Array Oper) : Bool := (List.range ops.size).all fun i => match ops[i]? with | some o => o.after.all (fun e => decide (e.on < i)) | none => true
theorem topOk_spec {ops : Array Oper} (h : topOk ops = true) : ∀ (i : Nat) (o : Oper), ops[i]? = some o → ∀ e ∈ o.after, e.on < i := by
  intro i o ho e he
  have hi : i < ops.size := by
    rcases Nat.lt_or_ge i ops.size with h' | h'
    · exact h'
    · rw [Array.getElem?_eq_none h'] at ho; cases ho
  have := List.all_eq_true.1 h i (List.mem_range.2 hi)
  rw [ho] at this
  simp only [Array.all_eq_true'] at this
  exact of_decide_eq_true (this e he)

theorem wp_region_inv0 {P : Program} {id : Nat} {ops : Array Oper} {Q : Exit → Act → World → Prop} {a : Act} {w : World} (hm : P.follows .mixedOrders = true) (htop : topOk ops = true) (hng : ops.all (fun o => o.guard.isNone) = true)
    (I : (Nat → Bool) → Act → World → Prop) (start : I (fun _ => false) a w.drew)
    (step : ∀ f a w i o, I f a w → ops[i]? = some o → f i = false → (∀ e ∈ o.after, Region.binds .any e = true → f e.on = true) → o.wp P a w (fun a' w' => I (upd f i) a' w') Q)
    (fin : ∀ f a w, I f a w → (∀ i, i < ops.size → f i = true) → Q .normal a w) : (Code.region id ops true).wp P Q a w := by
  refine wp_region_inv hm (topOk_spec htop) I start ?_ fin
  intro f a w i o hI ho hf hd
  refine ⟨fun _ => step f a w i o hI ho hf hd, fun hw => ?_⟩
  exfalso
  have hmem : o ∈ ops := Array.mem_of_getElem? ho
  have hn := (Array.all_eq_true'.1 hng) o hmem
  unfold Region.wanted at hw
  cases hg : o.guard with
  | none => rw [hg] at hw; cases hw
  | some x => rw [hg] at hn; cases hn

theorem wp_val {P : Program} {o : Oper} {a : Act} {w : World} {K : Act → World → Prop} {Q : Exit → Act → World → Prop} (v : Value) (hrun : (execOp a.eval o).run P w = .ok (.value v) w) (h : K (a.put o.dst v) w) : o.wp P a w K Q := by
  unfold Oper.wp
  rw [hrun]
  exact h
theorem wp_move {P : Program} {o : Oper} {a : Act} {w : World} {K : Act → World → Prop} {Q : Exit → Act → World → Prop} (x : Operand) (ho : o.op = .move x) (h : K (a.put o.dst (a.eval x)) w) : o.wp P a w K Q := by
  refine wp_val _ ?_ h
  simp [execOp, ho]
theorem wp_assign {P : Program} {o : Oper} {a : Act} {w : World} {K : Act → World → Prop} {Q : Exit → Act → World → Prop} (x : Operand) (ho : o.op = .assign x) (h : K (a.put o.dst (a.eval x)) w) : o.wp P a w K Q := by
  refine wp_val _ ?_ h
  simp [execOp, ho]
theorem wp_nilCheck {P : Program} {o : Oper} {a : Act} {w : World} {K : Act → World → Prop} {Q : Exit → Act → World → Prop} (x : Operand) (ho : o.op = .nilCheck x) (p : Addr) (hx : a.eval x = .pointer (some p)) (h : K (a.put o.dst (.pointer (some p))) w) : o.wp P a w K Q := by
  refine wp_val _ ?_ h
  simp [execOp, ho, hx]
theorem wp_field {P : Program} {o : Oper} {a : Act} {w : World} {K : Act → World → Prop} {Q : Exit → Act → World → Prop} (t : TypeId) (x : Operand) (i : Nat) (ho : o.op = .fieldAddr t x i) (p q : Addr) (hx : a.eval x = .pointer (some p))
    (hrun : ∀ w, (Instr.fieldAt t (.pointer (some p)) i).run P w = .ok (.pointer (some q)) w) (h : K (a.put o.dst (.pointer (some q))) w) : o.wp P a w K Q := by
  refine wp_val _ ?_ h
  simp [execOp, ho, hx, hrun]

/-- what slots hold once their operation is done: (operation, slot, value) -/
def ValsOk (V : List (Nat × Nat × Value)) (f : Nat → Bool) (a : Act) : Prop := ∀ x ∈ V, f x.1 = true → a.eval (.tmp x.2.1) = x.2.2
theorem vals_put {V : List (Nat × Nat × Value)} {f : Nat → Bool} {a : Act} (hV : ValsOk V f a) (i d : Nat) (v : Value) (hd : d < a.tmps.size) (h1 : ∀ x ∈ V, x.2.1 = d → x.2.2 = v) (h2 : ∀ x ∈ V, x.1 = i → x.2.1 = d) : ValsOk V (upd f i) (a.put (some d) v) := by
  intro x hx hf
  by_cases e : x.2.1 = d
  · rw [e, eval_put_same _ _ _ hd, h1 x hx e]
  · rw [eval_put_ne _ _ _ _ (fun h => e h.symm)]
    refine hV x hx ?_
    have hne : x.1 ≠ i := fun h => e (h2 x hx h)
    unfold upd at hf
    rw [if_neg hne] at hf
    exact hf
theorem vals_none {V : List (Nat × Nat × Value)} {f : Nat → Bool} {a : Act} (hV : ValsOk V f a) (i : Nat) (v : Value) (h2 : ∀ x ∈ V, x.1 ≠ i) : ValsOk V (upd f i) (a.put none v) := by
  intro x hx hf
  refine hV x hx ?_
  unfold upd at hf
  rw [if_neg (h2 x hx)] at hf
  exact hf

theorem vals_start (V : List (Nat × Nat × Value)) (A : Act) : ValsOk V (fun _ => false) A := fun x _ h => by cases h

end Go.Proofs.Ytlmmincpjflkdaa

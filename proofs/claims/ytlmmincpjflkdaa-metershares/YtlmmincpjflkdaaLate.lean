/- A region that draws its order: a beginning whose operations read, or call what makes new memory alone, walked once in the order of the text; then a chain of effects, each of which waits for all ahead of it but for those that look at their operands alone; the chain is walked as it stands. -/
import Derived.Test.YtlmmincpjflkdaaFill
namespace Go.Proofs.Ytlmmincpjflkdaa
open Go.RowKit
set_option linter.unusedVariables false

/-- Q at a normal end, nothing else -/
def OnlyN (Q : Exit → Act → World → Prop) : Exit → Act → World → Prop
  | .normal, a, w => Q .normal a w
  | _, _, _ => False
theorem onlyN {Q : Exit → Act → World → Prop} {a : Act} {w : World} (h : Q .normal a w) : OnlyN Q .normal a w := h
theorem onlyN_out (Q : Exit → Act → World → Prop) : ¬ LetsOut (OnlyN Q) := fun ⟨_, _, h⟩ => h

/-- the same operation in another frame that holds the same operands -/
theorem wp_swap {P : Program} {o : Oper} {a b : Act} {w : World} {K K' : Act → World → Prop} {Q Q' : Exit → Act → World → Prop} (he : execOp b.eval o = execOp a.eval o)
    (h1 : ∀ v w', K (a.put o.dst v) w' → K' (b.put o.dst v) w') (h2 : ∀ d w', K ({ a with defers := d :: a.defers }.put o.dst undef) w' → K' ({ b with defers := d :: b.defers }.put o.dst undef) w')
    (h : o.wp P a w K (OnlyN Q)) : o.wp P b w K' Q' := by
  unfold Oper.wp at h ⊢
  rw [he]
  generalize (execOp a.eval o).run P w = r at *
  cases r with
  | ok n w' =>
    cases n <;> simp only [Oper.upon] at h ⊢
    case value v => exact h1 _ _ h
    case skip => exact h1 _ _ h
    case defer d => exact h2 _ _ h
    case enter f args =>
      refine h.mono fun e w'' he => ?_
      cases e with
      | returned v => exact h1 _ _ he
      | panicked c => exact he.elim
      | outgrown => exact absurd he (onlyN_out Q)
    case row r args => exact h.mono fun v w'' he => h1 _ _ he
  | halt x w' =>
    cases x <;> simp only [Oper.upon] at h
    case panic v => exact h.elim

/-- operation i waits for operation j, through at most n edges -/
def waits (ops : Array Oper) : Nat → Nat → Nat → Bool
  | 0, _, _ => false
  | n + 1, i, j => match ops[i]? with
    | some o => o.after.any fun e => Region.binds .any e && (e.on == j || waits ops n e.on j)
    | none => false
theorem waits_done {ops : Array Oper} {f : Nat → Bool} (hall : ∀ (i : Nat) (o : Oper), ops[i]? = some o → f i = true → ∀ e ∈ o.after, Region.binds .any e = true → f e.on = true) {j : Nat} : ∀ (n i : Nat) (o : Oper), ops[i]? = some o → (∀ e ∈ o.after, Region.binds .any e = true → f e.on = true) → waits ops n i j = true → f j = true := by
  intro n
  induction n with
  | zero => intro i o _ _ h; cases h
  | succ n ih =>
    intro i o ho hd h
    simp only [waits, ho, Array.any_eq_true', Bool.and_eq_true, Bool.or_eq_true, beq_iff_eq] at h
    obtain ⟨e, he, h1, h2⟩ := h
    have h3 := hd e he h1
    rcases h2 with h2 | h2
    · rwa [h2] at h3
    · cases hq : ops[e.on]? with
      | none =>
        cases n with
        | zero => cases h2
        | succ m => simp [waits, hq] at h2
      | some o' => exact ih e.on o' hq (hall e.on o' hq h3) h2

def lateOk (ops : Array Oper) (k : Nat) : Bool := (List.range ops.size).all fun i => decide (i < k) || (List.range i).all fun j => waits ops 4 i j || (decide (j < k) && match ops[j]? with | some o' => pureOp o' | none => true)
theorem lateOk_spec {ops : Array Oper} {k : Nat} (h : lateOk ops k = true) {i j : Nat} {o : Oper} (ho : ops[i]? = some o) (hi : k ≤ i) (hj : j < i) : waits ops 4 i j = true ∨ (j < k ∧ ∀ o', ops[j]? = some o' → pureOp o' = true) := by
  have h1 := List.all_eq_true.1 h i (List.mem_range.2 (at_lt ho))
  rw [decide_eq_false (by omega)] at h1
  simp only [Bool.false_or] at h1
  have h2 := List.all_eq_true.1 h1 j (List.mem_range.2 hj)
  simp only [Bool.or_eq_true, Bool.and_eq_true, decide_eq_true_eq] at h2
  rcases h2 with h3 | ⟨h3, h4⟩
  · exact .inl h3
  · refine .inr ⟨h3, fun o' ho' => ?_⟩
    rw [ho'] at h4
    exact h4

/-- each slot is written by one operation; what an operation reads is written by one that it waits for, or by an effect that waits for it -/
def ssaOk (ops : Array Oper) (k n : Nat) : Bool :=
  topOkB ops && ops.all (fun o => o.guard.isNone) && Region.noSelect ops &&
  ((List.range ops.size).all fun i => match ops[i]? with
    | some o => (match o.dst with | some s => decide (s < n) | none => true) &&
      ((List.range ops.size).all fun j => match ops[j]? with
        | some o' => (i == j || (match o.dst with | some s => !(o'.dst == some s) | none => true)) && (o.op.operands.all fun x => match x with
            | .tmp s => !(o'.dst == some s) || (o.after.any fun e => e.on == j && Region.binds .any e) || (decide (k ≤ j) && decide (i < j) && (o'.after.any fun e => e.on == i && Region.binds .any e))
            | _ => true)
        | none => true)
    | none => true)
structure SsaOk (ops : Array Oper) (k n : Nat) : Prop where
  lt : ∀ (i : Nat) (o : Oper) (s : Nat), ops[i]? = some o → o.dst = some s → s < n
  one : ∀ (i j : Nat) (o o' : Oper) (s : Nat), ops[i]? = some o → ops[j]? = some o' → o.dst = some s → o'.dst = some s → i = j
  reads : ∀ (i j : Nat) (o o' : Oper) (s : Nat), ops[i]? = some o → ops[j]? = some o' → Operand.tmp s ∈ o.op.operands → o'.dst = some s → (∃ e ∈ o.after, e.on = j ∧ Region.binds .any e = true) ∨ (k ≤ j ∧ i < j ∧ ∃ e ∈ o'.after, e.on = i ∧ Region.binds .any e = true)
theorem ssaOk_spec {ops : Array Oper} {k n : Nat} (h : ssaOk ops k n = true) : topOkB ops = true ∧ ops.all (fun o => o.guard.isNone) = true ∧ Region.noSelect ops = true ∧ SsaOk ops k n := by
  unfold ssaOk at h
  simp only [Bool.and_eq_true] at h
  obtain ⟨⟨⟨h1, h2⟩, h3⟩, h4⟩ := h
  refine ⟨h1, h2, h3, ?_⟩
  have key : ∀ (i : Nat) (o : Oper), ops[i]? = some o → (match o.dst with | some s => decide (s < n) | none => true) = true ∧ ∀ (j : Nat) (o' : Oper), ops[j]? = some o' → (i == j || (match o.dst with | some s => !(o'.dst == some s) | none => true)) = true ∧ ∀ x ∈ o.op.operands, (match x with
            | Operand.tmp s => !(o'.dst == some s) || (o.after.any fun e => e.on == j && Region.binds .any e) || (decide (k ≤ j) && decide (i < j) && (o'.after.any fun e => e.on == i && Region.binds .any e))
            | _ => true) = true := by
    intro i o ho
    have a1 := List.all_eq_true.1 h4 i (List.mem_range.2 (at_lt ho))
    rw [ho] at a1
    simp only [Bool.and_eq_true] at a1
    refine ⟨a1.1, fun j o' hj => ?_⟩
    have a2 := List.all_eq_true.1 a1.2 j (List.mem_range.2 (at_lt hj))
    rw [hj] at a2
    simp only [Bool.and_eq_true] at a2
    exact ⟨a2.1, fun x hx => (Array.all_eq_true'.1 a2.2) x hx⟩
  refine ⟨?_, ?_, ?_⟩
  · intro i o s ho hs
    have := (key i o ho).1
    rw [hs] at this
    exact of_decide_eq_true this
  · intro i j o o' s ho hj hs hs'
    have := ((key i o ho).2 j o' hj).1
    rw [hs, hs'] at this
    simp at this
    exact this
  · intro i j o o' s ho hj hx hs'
    have := ((key i o ho).2 j o' hj).2 _ hx
    simp only [hs', beq_self_eq_true, Bool.not_true, Bool.false_or, Bool.or_eq_true, Bool.and_eq_true, Array.any_eq_true', beq_iff_eq, decide_eq_true_eq] at this
    rcases this with ⟨e, he, h5, h6⟩ | ⟨⟨h5, h6⟩, e, he, h7, h8⟩
    · exact .inl ⟨e, he, h5, h6⟩
    · exact .inr ⟨h5, h6, e, he, h7, h8⟩

theorem put_tmps_ne (b : Act) (dst : Option Tmp) (v : Value) (t : Nat) (h : dst ≠ some t) : (b.put dst v).tmps[t]? = b.tmps[t]? := by
  cases hq : dst with
  | none => rfl
  | some d =>
    have : d ≠ t := fun e => h (by rw [hq, e])
    simp [Act.put, Array.getElem?_setIfInBounds_ne this]
theorem put_tmps_same (b : Act) (d : Nat) (v : Value) (h : d < b.tmps.size) : (b.put (some d) v).tmps[d]? = some v := by simp [Act.put, h]
theorem put_size (b : Act) (dst : Option Tmp) (v : Value) : (b.put dst v).tmps.size = b.tmps.size := by cases dst <;> simp [Act.put]
theorem put_defers (b : Act) (dst : Option Tmp) (v : Value) : (b.put dst v).defers = b.defers := by cases dst <;> rfl
theorem eval_of_tmps {a b : Act} {t : Nat} (h : a.tmps[t]? = b.tmps[t]?) : a.eval (.tmp t) = b.eval (.tmp t) := by
  simp only [Act.eval, Array.getD_eq_getD_getElem?]
  rw [h]
theorem tmps_of_eval {a : Act} {t : Nat} {v : Value} (h : a.eval (.tmp t) = v) (hl : t < a.tmps.size) : a.tmps[t]? = some v := by
  simp only [Act.eval, Array.getD_eq_getD_getElem?] at h
  rw [Array.getElem?_eq_getElem hl] at h ⊢
  simpa using h

theorem wp_region_late {P : Program} {id : Nat} {Q : Exit → Act → World → Prop} {a : Act} {w : World} {l : List Oper} (k : Nat) (A : Act)
    (hm : P.follows .mixedOrders = true) (hok : ssaOk l.toArray k a.tmps.size = true) (hla : lateOk l.toArray k = true)
    (hlex : ∀ x : Gb w, wpQuiet P l.toArray (fun w' => ∃ y : Gb x.w, w' = y.w) (fun a' => a' = A) (l.take k) a)
    (fin : ∀ (w' : World), Below w.heap.size w w' → wpList P l.toArray (OnlyN Q) (l.drop k) A w') : (Code.region id l.toArray true).wp P Q a w := by
  obtain ⟨htop, hng, hns, hB⟩ := ssaOk_spec hok
  have htop' := topOkB_spec htop
  have hsel : ∀ (o : Oper) cs b, o ∈ l.toArray → o.op ≠ .select cs b := by
    intro o cs b ho
    obtain ⟨j, hj⟩ := Array.getElem?_of_mem ho
    exact Region.noSelect_spec hns j o cs b hj
  have hgn : ∀ o ∈ l, o.guard = none := by
    intro o ho
    have := (Array.all_eq_true'.1 hng) o (by simpa using ho)
    simpa using this
  have hsub : (l.take k).Sublist l := List.take_sublist _ _
  have arr : ∀ i : Nat, l.toArray[i]? = l[i]? := fun i => by rw [List.getElem?_toArray]
  have hpw : (l.take k).Pairwise (fun o o' => (∀ s, o.dst = some s → o'.dst ≠ some s) ∧ (∀ s, Operand.tmp s ∈ o.op.operands → o'.dst ≠ some s)) := by
    rw [List.pairwise_iff_getElem]
    intro i j h1 h2 hij
    rw [List.length_take] at h1 h2
    have e1 : l.toArray[i]? = some (l.take k)[i] := by rw [arr, List.getElem_take]; exact List.getElem?_eq_getElem (by omega)
    have e2 : l.toArray[j]? = some (l.take k)[j] := by rw [arr, List.getElem_take]; exact List.getElem?_eq_getElem (by omega)
    refine ⟨fun s hs hs' => ?_, fun s hs hs' => ?_⟩
    · have := hB.one i j _ _ s e1 e2 hs hs'
      omega
    · rcases hB.reads i j _ _ s e1 e2 hs hs' with ⟨e, he, h3, h4⟩ | ⟨h3, _⟩
      · have := htop' i _ e1 e he h4
        omega
      · omega
  have hself : ∀ o ∈ l, ∀ s, Operand.tmp s ∈ o.op.operands → o.dst ≠ some s := by
    intro o ho s hs hs'
    obtain ⟨i, hi'⟩ := List.getElem?_of_mem ho
    have e1 : l.toArray[i]? = some o := by rw [arr]; exact hi'
    rcases hB.reads i i _ _ s e1 e1 hs hs' with ⟨e, he, h3, h4⟩ | ⟨_, h3, _⟩
    · have := htop' i _ e1 e he h4
      omega
    · omega
  have hlt : ∀ o ∈ l, ∀ s, o.dst = some s → s < a.tmps.size := by
    intro o ho s hs
    obtain ⟨i, hi'⟩ := List.getElem?_of_mem ho
    exact hB.lt i o s (by rw [arr]; exact hi') hs
  have lex := fun x : Gb w => lex_last (P := P) (ops := l.toArray) (C := fun w' => ∃ y : Gb x.w, w' = y.w) (A := A) hsel 0 (l.take k) a (fun o ho => by simpa using hsub.subset ho) (fun o ho => hgn o (hsub.subset ho)) (fun o ho => hlt o (hsub.subset ho)) hpw (fun o ho => hself o (hsub.subset ho)) (hlex x)
  obtain ⟨sz, df, out, each0⟩ := lex ⟨w, Below.refl _ _⟩
  have intake : ∀ (j : Nat) (o : Oper), l[j]? = some o → j < k → o ∈ l.take k := by
    intro j o hj hjk
    refine List.mem_of_getElem? (i := j) ?_
    rw [List.getElem?_take, if_pos hjk]
    exact hj
  refine wp_region_invB0 hm htop hng (fun f b wx => ∃ (As : Act) (s : Nat), b.tmps.size = A.tmps.size ∧ As.tmps.size = A.tmps.size ∧ b.defers = As.defers ∧
    (∀ i, k ≤ i → i < l.length → (f i = true ↔ i < k + s)) ∧
    (∀ (i : Nat) (o : Oper), l[i]? = some o → f i = true → ∀ e ∈ o.after, Region.binds .any e = true → f e.on = true) ∧
    (∀ t, (∀ (i : Nat) (o : Oper), k ≤ i → l[i]? = some o → f i = true → o.dst ≠ some t) → As.tmps[t]? = A.tmps[t]?) ∧
    (∀ t, (∀ (j : Nat) (o : Oper), j < k → l[j]? = some o → o.dst = some t → f j = true) → b.tmps[t]? = As.tmps[t]?) ∧
    (s = 0 → As = A ∧ Below w.heap.size w wx) ∧
    (0 < s → wpList P l.toArray (OnlyN Q) (l.drop (k + s)) As wx ∧ ∀ (j : Nat) (o : Oper), j < k → l[j]? = some o → f j = false → pureOp o = true)) ?start ?step ?fin
  case start =>
    refine ⟨A, 0, sz.symm, rfl, df.symm, fun i hi _ => ?_, fun i o _ h => (by cases h), fun _ _ => rfl, fun t ht => ?_, fun _ => ⟨rfl, (Below.refl _ _).drew⟩, fun h => absurd h (by omega)⟩
    · constructor
      · intro h; cases h
      · intro h; omega
    · refine (out t (fun o ho hs => ?_)).symm
      obtain ⟨j, hj⟩ := List.getElem?_of_mem ho
      rw [List.getElem?_take] at hj
      split at hj
      · rename_i hjk
        exact absurd (ht j o hjk hj hs) (by simp)
      · cases hj
  case step =>
    rintro f b wx i o ⟨As, s, s1, s2, s3, s4, s9, s5, s6, s7, s8⟩ ho hf hd
    rw [arr] at ho
    have hil := (List.getElem?_eq_some_iff.1 ho).1
    have u1 : upd f i i = true := by simp [upd]
    have u2 : ∀ j, j ≠ i → upd f i j = f j := fun j hj => by simp [upd, hj]
    have u3 : ∀ j, f j = true → upd f i j = true := fun j hj => by
      by_cases e : j = i
      · rw [e]; exact u1
      · rw [u2 j e]; exact hj
    have closed : ∀ (i' : Nat) (o' : Oper), l[i']? = some o' → upd f i i' = true → ∀ e ∈ o'.after, Region.binds .any e = true → upd f i e.on = true := by
      intro i' o' a2 a3 e he hb
      by_cases ei : i' = i
      · subst ei
        rw [ho] at a2
        obtain rfl := Option.some.inj a2
        exact u3 _ (hd e he hb)
      · rw [u2 i' ei] at a3
        exact u3 _ (s9 i' o' a2 a3 e he hb)
    have done : ∀ j, waits l.toArray 4 i j = true → f j = true := fun j hw => waits_done (ops := l.toArray) (f := f) (fun i' o' h' => s9 i' o' (by rw [← arr]; exact h')) 4 i o (by rw [arr]; exact ho) hd hw
    -- what the operation reads is as in As
    have rdAs : ∀ t, Operand.tmp t ∈ o.op.operands → b.eval (.tmp t) = As.eval (.tmp t) := by
      intro t ht
      refine eval_of_tmps (s6 t (fun j o' hjk hj hs => ?_))
      rcases hB.reads i j o o' t (by rw [arr]; exact ho) (by rw [arr]; exact hj) ht hs with ⟨e, he, h3, h4⟩ | ⟨h3, _⟩
      · have := hd e he h4
        rwa [h3] at this
      · omega
    by_cases hik : i < k
    · -- an operation of the beginning
      have rdA : ∀ t, Operand.tmp t ∈ o.op.operands → b.eval (.tmp t) = A.eval (.tmp t) := by
        intro t ht
        rw [rdAs t ht]
        refine eval_of_tmps (s5 t (fun j o' hjk hj hfj hs => ?_))
        rcases hB.reads i j o o' t (by rw [arr]; exact ho) (by rw [arr]; exact hj) ht hs with ⟨e, he, h3, h4⟩ | ⟨_, _, e, he, h3, h4⟩
        · have := htop' i o (by rw [arr]; exact ho) e he h4
          omega
        · have := s9 j o' hj hfj e he h4
          rw [h3, hf] at this
          cases this
      have congr' : ∀ C w' v, o.quietAt P A C w' v → o.quietAt P b C w' v := by
        intro C w' v this
        unfold Oper.quietAt at this ⊢
        rwa [execOp_congr o (fun cs' b' => hsel o cs' b' (by simpa using List.mem_of_getElem? ho)) (ρ := b.eval) (ρ' := A.eval) ?_]
        intro y hy
        cases y with
        | tmp t => exact rdA t hy
        | _ => rfl
      have keep : ∀ v, (∀ t, o.dst = some t → A.eval (.tmp t) = v) → (b.put o.dst v).tmps.size = A.tmps.size ∧ As.tmps.size = A.tmps.size ∧ (b.put o.dst v).defers = As.defers ∧
          (∀ i', k ≤ i' → i' < l.length → (upd f i i' = true ↔ i' < k + s)) ∧
          (∀ (i' : Nat) (o' : Oper), l[i']? = some o' → upd f i i' = true → ∀ e ∈ o'.after, Region.binds .any e = true → upd f i e.on = true) ∧
          (∀ t, (∀ (i' : Nat) (o' : Oper), k ≤ i' → l[i']? = some o' → upd f i i' = true → o'.dst ≠ some t) → As.tmps[t]? = A.tmps[t]?) ∧
          (∀ t, (∀ (j : Nat) (o' : Oper), j < k → l[j]? = some o' → o'.dst = some t → upd f i j = true) → (b.put o.dst v).tmps[t]? = As.tmps[t]?) := by
        intro v hv
        refine ⟨by rw [put_size]; exact s1, s2, by rw [put_defers]; exact s3, fun i' h1 h2 => by rw [u2 i' (by omega)]; exact s4 i' h1 h2, closed, fun t ht => s5 t (fun i' o' h1 h2 h3 => ht i' o' h1 h2 (u3 _ h3)), fun t ht => ?_⟩
        by_cases e : o.dst = some t
        · have hts : t < b.tmps.size := by rw [s1, sz]; exact hlt o (List.mem_of_getElem? ho) t e
          rw [e, put_tmps_same _ _ _ hts]
          have h1 : As.tmps[t]? = A.tmps[t]? := s5 t (fun i' o' hk' h' _ hs' => by
            have := hB.one i i' o o' t (by rw [arr]; exact ho) (by rw [arr]; exact h') e hs'
            omega)
          rw [h1, tmps_of_eval (hv t e) (by rw [← s1]; exact hts)]
        · rw [put_tmps_ne _ _ _ _ e]
          refine s6 t (fun j o' hjk hj hs => ?_)
          have := ht j o' hjk hj hs
          by_cases ej : j = i
          · subst ej
            rw [ho] at hj
            rw [← Option.some.inj hj] at hs
            exact absurd hs e
          · rwa [u2 j ej] at this
      rcases Nat.eq_zero_or_pos s with hs0 | hs0
      · obtain ⟨hAs, hbl⟩ := s7 hs0
        obtain ⟨_, _, _, each⟩ := lex ⟨wx, hbl⟩
        obtain ⟨v, hv1, hv2⟩ := each o (intake i o ho hik)
        have hquiet : o.quiet P b (fun w' => ∃ y : Gb wx, w' = y.w) (fun c => c = b.put o.dst v) := ⟨v, fun w' hw' => congr' _ _ _ (hv2 w' hw'), rfl⟩
        refine Oper.wp_of_quiet (C := fun w' => ∃ y : Gb wx, w' = y.w) ⟨⟨wx, Below.refl _ _⟩, rfl⟩ ?_ hquiet
        rintro c w' ⟨⟨_, hb'⟩, rfl⟩ rfl
        obtain ⟨k1, k2, k3, k4, k9, k5, k6⟩ := keep v hv1
        exact ⟨As, s, k1, k2, k3, k4, k9, k5, k6, fun _ => ⟨hAs, hbl.trans (hb'.mono hbl.size)⟩, fun h => absurd h (by omega)⟩
      · obtain ⟨hwl, hpu⟩ := s8 hs0
        have hpure := hpu i o hik ho hf
        obtain ⟨v, hv1, hv2⟩ := each0 o (intake i o ho hik)
        have hquiet : o.quiet P b (fun x => x = wx) (fun c => c = b.put o.dst v) := ⟨v, fun x hx => congr' _ _ _ (pure_quiet hpure (hv2 w ⟨⟨w, Below.refl _ _⟩, rfl⟩) _), rfl⟩
        refine Oper.wp_of_quiet (C := fun x => x = wx) rfl ?_ hquiet
        rintro c x rfl rfl
        obtain ⟨k1, k2, k3, k4, k9, k5, k6⟩ := keep v hv1
        refine ⟨As, s, k1, k2, k3, k4, k9, k5, k6, fun h => absurd h (by omega), fun _ => ⟨hwl, fun j o' hjk hj hfj => ?_⟩⟩
        by_cases ej : j = i
        · rw [ej, u1] at hfj; cases hfj
        · rw [u2 j ej] at hfj
          exact hpu j o' hjk hj hfj
    · -- an effect: the next one
      have hki : k ≤ i := by omega
      have hge : k + s ≤ i := by
        rcases Nat.lt_or_ge i (k + s) with h | h
        · rw [(s4 i hki hil).2 h] at hf; cases hf
        · exact h
      have hle : i ≤ k + s := by
        rcases Nat.lt_or_ge (k + s) i with h | h
        · rcases lateOk_spec hla (by rw [arr]; exact ho) hki h with h3 | ⟨h3, _⟩
          · have := (s4 (k + s) (by omega) (by omega)).1 (done _ h3)
            omega
          · omega
        · exact h
      have his : i = k + s := by omega
      have hpu' : ∀ (j : Nat) (o' : Oper), j < k → l[j]? = some o' → f j = false → pureOp o' = true := by
        intro j o' hjk hj hfj
        rcases lateOk_spec hla (by rw [arr]; exact ho) hki (show j < i by omega) with h3 | ⟨_, h4⟩
        · have := done _ h3
          rw [hfj] at this
          cases this
        · exact h4 o' (by rw [arr]; exact hj)
      have hwl : wpList P l.toArray (OnlyN Q) (l.drop (k + s)) As wx := by
        rcases Nat.eq_zero_or_pos s with hs0 | hs0
        · obtain ⟨hAs, hbl⟩ := s7 hs0
          rw [hAs, hs0]
          exact fin wx hbl
        · exact (s8 hs0).1
      rw [← his, List.drop_eq_getElem_cons hil] at hwl
      have hoi : l[i] = o := (List.getElem?_eq_some_iff.1 ho).2
      rw [hoi] at hwl
      unfold wpList at hwl
      rw [if_pos (by unfold Region.wanted; rw [hgn o (List.mem_of_getElem? ho)])] at hwl
      have hwp : o.wp P As wx (wpList P l.toArray (OnlyN Q) (l.drop (i + 1))) (OnlyN Q) := by
        rcases hwl with h | ⟨_, h⟩
        · exact h
        · exact absurd h (onlyN_out Q)
      have he : execOp b.eval o = execOp As.eval o := by
        refine execOp_congr o (fun cs' b' => hsel o cs' b' (by simpa using List.mem_of_getElem? ho)) ?_
        intro y hy
        cases y with
        | tmp t => exact rdAs t hy
        | _ => rfl
      have next : ∀ (As' b' : Act) w', As'.tmps.size = As.tmps.size → b'.tmps.size = b.tmps.size → b'.defers = As'.defers → (∀ t, o.dst ≠ some t → As'.tmps[t]? = As.tmps[t]? ∧ b'.tmps[t]? = b.tmps[t]?) → (∀ t, o.dst = some t → b'.tmps[t]? = As'.tmps[t]?) → wpList P l.toArray (OnlyN Q) (l.drop (i + 1)) As' w' →
          ∃ (As : Act) (s : Nat), b'.tmps.size = A.tmps.size ∧ As.tmps.size = A.tmps.size ∧ b'.defers = As.defers ∧ (∀ i', k ≤ i' → i' < l.length → (upd f i i' = true ↔ i' < k + s)) ∧
            (∀ (i' : Nat) (o : Oper), l[i']? = some o → upd f i i' = true → ∀ e ∈ o.after, Region.binds .any e = true → upd f i e.on = true) ∧
            (∀ t, (∀ (i' : Nat) (o : Oper), k ≤ i' → l[i']? = some o → upd f i i' = true → o.dst ≠ some t) → As.tmps[t]? = A.tmps[t]?) ∧
            (∀ t, (∀ (j : Nat) (o : Oper), j < k → l[j]? = some o → o.dst = some t → upd f i j = true) → b'.tmps[t]? = As.tmps[t]?) ∧
            (s = 0 → As = A ∧ Below w.heap.size w w') ∧ (0 < s → wpList P l.toArray (OnlyN Q) (l.drop (k + s)) As w' ∧ ∀ (j : Nat) (o : Oper), j < k → l[j]? = some o → upd f i j = false → pureOp o = true) := by
        intro As' b' w' h1 h2 h3 h4 h5 h6
        refine ⟨As', s + 1, h2.trans s1, h1.trans s2, h3, fun i' a1 a2 => ?_, closed, fun t ht => ?_, fun t ht => ?_, fun h => absurd h (by omega), fun _ => ⟨?_, fun j o' hjk hj hfj => ?_⟩⟩
        · by_cases e : i' = i
          · rw [e, u1]; constructor
            · intro _; omega
            · intro _; rfl
          · rw [u2 i' e, s4 i' a1 a2]
            omega
        · rw [(h4 t (ht i o hki ho u1)).1]
          exact s5 t (fun i' o' a1 a2 a3 => ht i' o' a1 a2 (u3 _ a3))
        · by_cases e : o.dst = some t
          · exact h5 t e
          · obtain ⟨c1, c2⟩ := h4 t e
            rw [c1, c2]
            refine s6 t (fun j o' hjk hj hs => ?_)
            have := ht j o' hjk hj hs
            rwa [u2 j (by omega)] at this
        · rw [show k + (s + 1) = i + 1 by omega]
          exact h6
        · rw [u2 j (by omega)] at hfj
          exact hpu' j o' hjk hj hfj
      have dlt : ∀ t, o.dst = some t → t < A.tmps.size := fun t ht => by rw [sz]; exact hlt o (List.mem_of_getElem? ho) t ht
      refine wp_swap he ?_ ?_ hwp
      · intro v w' hK
        refine next (As.put o.dst v) (b.put o.dst v) w' (put_size _ _ _) (put_size _ _ _) (by rw [put_defers, put_defers]; exact s3) (fun t ht => ⟨put_tmps_ne _ _ _ _ ht, put_tmps_ne _ _ _ _ ht⟩) (fun t ht => ?_) hK
        rw [ht, put_tmps_same _ _ _ (by rw [s1]; exact dlt t ht), put_tmps_same _ _ _ (by rw [s2]; exact dlt t ht)]
      · intro d w' hK
        refine next ({ As with defers := d :: As.defers }.put o.dst undef) ({ b with defers := d :: b.defers }.put o.dst undef) w' (by rw [put_size]) (by rw [put_size]) (by rw [put_defers, put_defers]; simp only [s3]) (fun t ht => ⟨put_tmps_ne _ _ _ _ ht, put_tmps_ne _ _ _ _ ht⟩) (fun t ht => ?_) hK
        have g1 : t < ({ b with defers := d :: b.defers } : Act).tmps.size := by show t < b.tmps.size; rw [s1]; exact dlt t ht
        have g2 : t < ({ As with defers := d :: As.defers } : Act).tmps.size := by show t < As.tmps.size; rw [s2]; exact dlt t ht
        rw [ht, put_tmps_same _ _ _ g1, put_tmps_same _ _ _ g2]
  case fin =>
    rintro f b wx ⟨As, s, s1, s2, s3, s4, _, s5, s6, s7, s8⟩ hall
    have hall' : ∀ i, i < l.length → f i = true := fun i hi => hall i (by simpa using hi)
    have hb : b = As := by
      obtain ⟨bt, bd⟩ := b
      obtain ⟨At, Ad⟩ := As
      simp only at s3
      subst s3
      simp only [Act.mk.injEq, and_true]
      exact Array.ext_getElem? fun t => s6 t (fun j o hjk hj _ => hall' j (List.getElem?_eq_some_iff.1 hj).1)
    have hdr : l.drop (k + s) = [] := by
      rw [List.drop_eq_nil_iff]
      rcases Nat.lt_or_ge (k + s) l.length with h | h
      · have := (s4 (k + s) (by omega) h).1 (hall' _ h)
        omega
      · exact h
    rw [hb]
    rcases Nat.eq_zero_or_pos s with hs0 | hs0
    · obtain ⟨hAs, hbl⟩ := s7 hs0
      have := fin wx hbl
      rw [hs0, Nat.add_zero] at hdr
      rw [hdr] at this
      rw [hAs]
      exact this
    · have := (s8 hs0).1
      rw [hdr] at this
      exact this

end Go.Proofs.Ytlmmincpjflkdaa

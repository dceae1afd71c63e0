/- A region that draws its order: some operations are effects, each of which waits for the effects ahead of it; the first effect makes new memory alone; all others read (walked once, in the order of the text), and do not read what an effect wrote; what need not come before the later effects looks at its operands alone. -/
import Derived.Test.YtlmmincpjflkdaaLate
namespace Go.Proofs.Ytlmmincpjflkdaa
open Go.RowKit
set_option linter.unusedVariables false

/-- what is no effect -/
def restM : List Bool → List Oper → List Oper
  | [], l => l
  | _ :: _, [] => []
  | true :: m, _ :: l => restM m l
  | false :: m, o :: l => o :: restM m l
/-- the effects -/
def effM : List Bool → List Oper → List Oper
  | [], _ => []
  | _ :: _, [] => []
  | true :: m, o :: l => o :: effM m l
  | false :: m, _ :: l => effM m l
theorem restM_sub : ∀ (m : List Bool) (l : List Oper), (restM m l).Sublist l
  | [], l => List.Sublist.refl _
  | _ :: _, [] => List.Sublist.refl _
  | true :: m, o :: l => (restM_sub m l).cons _
  | false :: m, o :: l => (restM_sub m l).cons_cons _
theorem restM_mem : ∀ (m : List Bool) (l : List Oper) (i : Nat) (o : Oper), l[i]? = some o → m[i]? ≠ some true → o ∈ restM m l
  | [], l, i, o, h, _ => List.mem_of_getElem? h
  | _ :: _, [], i, o, h, _ => by simp at h
  | true :: m, x :: l, 0, o, h, h' => absurd rfl h'
  | true :: m, x :: l, i + 1, o, h, h' => restM_mem m l i o (by simpa using h) (by simpa using h')
  | false :: m, x :: l, 0, o, h, h' => by simp at h; subst h; exact List.mem_cons_self
  | false :: m, x :: l, i + 1, o, h, h' => List.mem_cons_of_mem _ (restM_mem m l i o (by simpa using h) (by simpa using h'))
theorem restM_of : ∀ (m : List Bool) (l : List Oper) (o : Oper), o ∈ restM m l → ∃ i : Nat, l[i]? = some o ∧ m[i]? ≠ some true
  | [], l, o, h => by
    obtain ⟨i, hi⟩ := List.getElem?_of_mem h
    exact ⟨i, hi, by simp⟩
  | _ :: _, [], o, h => by cases h
  | true :: m, x :: l, o, h => by
    obtain ⟨i, h1, h2⟩ := restM_of m l o h
    exact ⟨i + 1, by simpa using h1, by simpa using h2⟩
  | false :: m, x :: l, o, h => by
    rcases List.mem_cons.1 h with rfl | h
    · exact ⟨0, rfl, by simp⟩
    · obtain ⟨i, h1, h2⟩ := restM_of m l o h
      exact ⟨i + 1, by simpa using h1, by simpa using h2⟩
theorem effM_at (m : List Bool) (l : List Oper) (i : Nat) (o : Oper) (h : l[i]? = some o) (h' : m[i]? = some true) : effM (m.drop i) (l.drop i) = o :: effM (m.drop (i + 1)) (l.drop (i + 1)) := by
  obtain ⟨h1, h2⟩ := List.getElem?_eq_some_iff.1 h
  obtain ⟨h3, h4⟩ := List.getElem?_eq_some_iff.1 h'
  rw [List.drop_eq_getElem_cons h1, List.drop_eq_getElem_cons h3, h2, h4]
  rfl
theorem effM_off (m : List Bool) (l : List Oper) (i : Nat) (h' : m[i]? ≠ some true) : effM (m.drop i) (l.drop i) = effM (m.drop (i + 1)) (l.drop (i + 1)) := by
  rcases Nat.lt_or_ge i m.length with h3 | h3
  · rw [List.drop_eq_getElem_cons h3]
    rw [List.getElem?_eq_getElem h3] at h'
    have h4 : m[i] = false := by
      cases h5 : m[i] with
      | false => rfl
      | true => rw [h5] at h'; exact absurd rfl h'
    rw [h4]
    rcases Nat.lt_or_ge i l.length with h1 | h1
    · rw [List.drop_eq_getElem_cons h1]
      rfl
    · rw [List.drop_eq_nil_of_le h1, List.drop_eq_nil_of_le (show l.length ≤ i + 1 by omega)]
      cases hd : List.drop (i + 1) m <;> rfl
  · rw [List.drop_eq_nil_of_le h3, List.drop_eq_nil_of_le (show m.length ≤ i + 1 by omega)]
    rfl
theorem effM_skip (m : List Bool) (l : List Oper) (p : Nat) : ∀ (d : Nat), (∀ j, p ≤ j → j < p + d → m[j]? ≠ some true) → effM (m.drop p) (l.drop p) = effM (m.drop (p + d)) (l.drop (p + d))
  | 0, _ => rfl
  | d + 1, h => by
    rw [effM_skip m l p d (fun j h1 h2 => h j h1 (by omega)), effM_off m l (p + d) (h _ (by omega) (by omega))]
    rfl

/-- an operation that hands back a value and leaves the world -/
def stillOp (o : Oper) : Bool := match o.op with | .move _ => true | .assign _ => true | .load _ _ => true | .indexAddr _ _ _ => true | .fieldAddr _ _ _ => true | .binOp _ _ _ _ _ => true | .nilCheck _ => true | .lookup _ _ _ _ => true | _ => false
theorem valued_quiet {P : Program} {C C' : World → Prop} {w : World} {v : Value} (s : Sem Value) (h : Oper.quietUpon P C w v ((do pure (Next.value (← s)) : Sem Next).run P w)) : Oper.quietUpon P C' w v ((do pure (Next.value (← s)) : Sem Next).run P w) := by
  rw [Sem.run_bind] at h ⊢
  cases hr : s.run P w with
  | ok u w' => rw [hr] at h; exact h
  | halt x w' => rw [hr] at h; exact h.elim
theorem pure_value {P : Program} {u : Value} {w w' : World} {n : Next} (h : Sem.run P (pure (Next.value u)) w = .ok n w') : ∃ u, n = .value u := by
  simp at h
  exact ⟨_, h.1.symm⟩
theorem nil_value {P : Program} {ρ : Operand → Value} {o : Oper} {x : Operand} (ho : o.op = .nilCheck x) {w w' : World} {n : Next} (h : (execOp ρ o).run P w = .ok n w') : ∃ u, n = .value u := by
  unfold execOp at h
  rw [ho] at h
  dsimp only at h
  split at h
  · simp [runtimePanic] at h
  · simp [runtimePanic] at h
  · simp [runtimePanic] at h
  · split at h
    · simp [runtimePanic] at h
    · rw [Sem.run_bind] at h
      cases hr : Sem.run P program w with
      | halt y w2 => rw [hr] at h; cases h
      | ok y w2 =>
        rw [hr] at h
        simp only [Result.andThen] at h
        rw [Sem.run_bind] at h
        cases hn : Sem.run P (nilAhead (y.types.size + Made.depth) _ _ _) w2 with
        | halt z w3 => rw [hn] at h; cases h
        | ok z w3 =>
          rw [hn] at h
          simp only [Result.andThen] at h
          split at h
          · rw [Sem.run_bind] at h
            simp [unsupported] at h
          · exact pure_value h
    · exact pure_value h
  · exact pure_value h
theorem nil_quiet {P : Program} {C C' : World → Prop} {w : World} {v : Value} {r : Result Next} (hn : ∀ n w', r = .ok n w' → ∃ u, n = .value u) (h : Oper.quietUpon P C w v r) : Oper.quietUpon P C' w v r := by
  cases r with
  | halt y w2 => exact h.elim
  | ok n w2 =>
    obtain ⟨u, rfl⟩ := hn n w2 rfl
    exact h
theorem still_quiet {P : Program} {o : Oper} {a : Act} {C : World → Prop} {w : World} {v : Value} (hp : stillOp o = true) (h : o.quietAt P a C w v) (C' : World → Prop) : o.quietAt P a C' w v := by
  obtain ⟨dst, op, ty, pos, after, guard⟩ := o
  unfold Oper.quietAt at h ⊢
  cases op <;> simp only [stillOp] at hp <;> try (cases hp; done)
  all_goals first | exact valued_quiet _ h | exact nil_quiet (fun n w' => nil_value rfl) h | exact h

/-- m: who is an effect; L: who looks at its operands alone -/
def effOk (l : List Oper) (m : List Bool) (L : List Nat) (e0 n : Nat) : Bool :=
  topOkB l.toArray && l.toArray.all (fun o => o.guard.isNone) && Region.noSelect l.toArray && (m[e0]? == some true) && decide (e0 < l.length) &&
  ((List.range l.length).all fun i => (List.range l.length).all fun j =>
    (!(m[i]? == some true) || (if m[j]? == some true then decide (i ≤ j) || waits l.toArray 8 i j else i == e0 || waits l.toArray 8 i j || L.contains j))) &&
  ((List.range l.length).all fun i => match l[i]? with
    | some o => (!(m[i]? == some true) || decide (e0 ≤ i)) && (m[i]? == some true || waits l.toArray 8 e0 i || stillOp o) && (match o.dst with | some s => decide (s < n) | none => true) &&
      ((List.range l.length).all fun j => match l[j]? with
        | some o' => (i == j || (match o.dst with | some s => !(o'.dst == some s) | none => true)) && (o.op.operands.all fun x => match x with
            | .tmp s => !(o'.dst == some s) || ((o.after.any fun e => e.on == j && Region.binds .any e) && (m[i]? == some true || !(m[j]? == some true)))
            | _ => true)
        | none => true)
    | none => true)
structure EffOk (l : List Oper) (m : List Bool) (L : List Nat) (e0 n : Nat) : Prop where
  top : topOkB l.toArray = true
  ng : l.toArray.all (fun o => o.guard.isNone) = true
  sel : Region.noSelect l.toArray = true
  em : m[e0]? = some true
  chain : ∀ i j, i < l.length → j < i → m[i]? = some true → m[j]? = some true → waits l.toArray 8 i j = true
  pend : ∀ i j, i < l.length → j < l.length → i ≠ e0 → m[i]? = some true → m[j]? ≠ some true → waits l.toArray 8 i j = true ∨ j ∈ L
  el : e0 < l.length
  still : ∀ (i : Nat) (o : Oper), l[i]? = some o → m[i]? ≠ some true → waits l.toArray 8 e0 i = true ∨ stillOp o = true
  fst : ∀ (i : Nat) (o : Oper), l[i]? = some o → m[i]? = some true → e0 ≤ i
  lt : ∀ (i : Nat) (o : Oper) (s : Nat), l[i]? = some o → o.dst = some s → s < n
  one : ∀ (i j : Nat) (o o' : Oper) (s : Nat), l[i]? = some o → l[j]? = some o' → o.dst = some s → o'.dst = some s → i = j
  reads : ∀ (i j : Nat) (o o' : Oper) (s : Nat), l[i]? = some o → l[j]? = some o' → Operand.tmp s ∈ o.op.operands → o'.dst = some s → (∃ e ∈ o.after, e.on = j ∧ Region.binds .any e = true) ∧ (m[i]? = some true ∨ m[j]? ≠ some true)
theorem effOk_spec {l : List Oper} {m : List Bool} {L : List Nat} {e0 n : Nat} (h : effOk l m L e0 n = true) : EffOk l m L e0 n := by
  unfold effOk at h
  simp only [Bool.and_eq_true, beq_iff_eq, decide_eq_true_eq] at h
  obtain ⟨⟨⟨⟨⟨⟨h1, h2⟩, h3⟩, h4⟩, h7⟩, h5⟩, h6⟩ := h
  have k5 := fun (i j : Nat) (hi : i < l.length) (hj : j < l.length) => List.all_eq_true.1 (List.all_eq_true.1 h5 i (List.mem_range.2 hi)) j (List.mem_range.2 hj)
  have key := fun (i : Nat) (o : Oper) (ho : l[i]? = some o) => by
    have a1 := List.all_eq_true.1 h6 i (List.mem_range.2 (List.getElem?_eq_some_iff.1 ho).1)
    rw [ho] at a1
    simp only [Bool.and_eq_true] at a1
    exact a1
  have key2 := fun (i : Nat) (o : Oper) (ho : l[i]? = some o) (j : Nat) (o' : Oper) (hj : l[j]? = some o') => by
    have a2 := List.all_eq_true.1 (key i o ho).2 j (List.mem_range.2 (List.getElem?_eq_some_iff.1 hj).1)
    rw [hj] at a2
    simp only [Bool.and_eq_true] at a2
    exact a2
  refine ⟨h1, h2, h3, h4, ?_, ?_, h7, ?_, ?_, ?_, ?_, ?_⟩
  · intro i j hi hj hmi hmj
    have := k5 i j hi (by omega)
    rw [hmi, hmj] at this
    simp only [beq_self_eq_true, Bool.not_true, Bool.false_or, if_true, Bool.or_eq_true, decide_eq_true_eq] at this
    rcases this with h | h
    · omega
    · exact h
  · intro i j hi hj hne hmi hmj
    have := k5 i j hi hj
    rw [hmi] at this
    rw [if_neg hmj] at this
    simp only [beq_self_eq_true, Bool.not_true, Bool.false_or, Bool.or_eq_true, beq_iff_eq, List.contains_iff_mem] at this
    rcases this with (h | h) | h
    · exact absurd h hne
    · exact .inl h
    · exact .inr h
  · intro i o ho hmi
    have := (key i o ho).1.1.2
    have hq : (m[i]? == some true) = false := by simpa using hmi
    rw [hq, Bool.false_or, Bool.or_eq_true] at this
    exact this
  · intro i o ho hmi
    have := (key i o ho).1.1.1
    rw [hmi] at this
    simpa using this
  · intro i o s ho hs
    have := (key i o ho).1.2
    rw [hs] at this
    exact of_decide_eq_true this
  · intro i j o o' s ho hj hs hs'
    have := (key2 i o ho j o' hj).1
    rw [hs, hs'] at this
    simp at this
    exact this
  · intro i j o o' s ho hj hx hs'
    have := (Array.all_eq_true'.1 (key2 i o ho j o' hj).2) _ hx
    simp only [hs', beq_self_eq_true, Bool.not_true, Bool.false_or, Bool.and_eq_true, Array.any_eq_true', beq_iff_eq, Bool.or_eq_true, Bool.not_eq_true', beq_eq_false_iff_ne] at this
    obtain ⟨⟨e, he, e1, e2⟩, h7⟩ := this
    exact ⟨⟨e, he, e1, e2⟩, h7⟩

theorem wp_region_eff {P : Program} {id : Nat} {Q : Exit → Act → World → Prop} {a : Act} {w : World} {l : List Oper} (m : List Bool) (L : List Nat) (e0 : Nat) (A : Act) (o0 : Oper) (le : List Oper)
    (hm : P.follows .mixedOrders = true) (hok : effOk l m L e0 a.tmps.size = true) (hle : effM m l = o0 :: le)
    (hlex : ∀ x : Gb w, wpQuiet P l.toArray (fun w' => ∃ y : Gb x.w, w' = y.w) (fun a' => a' = A) (restM m l) a)
    (hfree : ∀ j ∈ L, ∀ o, l[j]? = some o → ∀ w', wpQuiet P l.toArray (fun x => x = w') (fun a' => a' = A) [o] A)
    (fin0 : ∀ (w' : World), Below w.heap.size w w' → wpList P l.toArray (OnlyN fun _ a'' w'' => Below w'.heap.size w' w'' ∧ wpList P l.toArray (OnlyN Q) le a'' w'') [o0] A w') : (Code.region id l.toArray true).wp P Q a w := by
  have hB := effOk_spec hok
  have htop' := topOkB_spec hB.top
  have hsel : ∀ (o : Oper) cs b, o ∈ l.toArray → o.op ≠ .select cs b := by
    intro o cs b ho
    obtain ⟨j, hj⟩ := Array.getElem?_of_mem ho
    exact Region.noSelect_spec hB.sel j o cs b hj
  have hgn : ∀ o ∈ l, o.guard = none := by
    intro o ho
    have := (Array.all_eq_true'.1 hB.ng) o (by simpa using ho)
    simpa using this
  have ho0 : ∃ i : Nat, l[i]? = some o0 := by
    have : ∀ (m : List Bool) (l : List Oper) (o : Oper), o ∈ effM m l → o ∈ l := by
      intro m
      induction m with
      | nil => intro l o h; cases h
      | cons b m ih =>
        intro l o h
        cases l with
        | nil => cases h
        | cons x l =>
          cases b with
          | true =>
            rcases List.mem_cons.1 h with rfl | h
            · exact List.mem_cons_self
            · exact List.mem_cons_of_mem _ (ih l o h)
          | false => exact List.mem_cons_of_mem _ (ih l o h)
    exact List.getElem?_of_mem (this m l o0 (by rw [hle]; exact List.mem_cons_self))
  have fin : ∀ (w' : World), Below w.heap.size w w' → o0.wp P A w' (fun a'' w'' => Below w'.heap.size w' w'' ∧ wpList P l.toArray (OnlyN Q) le a'' w'') (OnlyN Q) := by
    intro w' hb
    obtain ⟨i, hi⟩ := ho0
    have h := fin0 w' hb
    unfold wpList at h
    rw [if_pos (by unfold Region.wanted; rw [hgn o0 (List.mem_of_getElem? hi)])] at h
    rcases h with h | ⟨_, h⟩
    · exact wp_swap rfl (fun v w'' hK => hK) (fun d w'' hK => hK) h
    · exact absurd h (onlyN_out _)
  have hsub : (restM m l).Sublist l := restM_sub _ _
  have arr : ∀ i : Nat, l.toArray[i]? = l[i]? := fun i => by rw [List.getElem?_toArray]
  have hpw : l.Pairwise (fun o o' => (∀ s, o.dst = some s → o'.dst ≠ some s) ∧ (∀ s, Operand.tmp s ∈ o.op.operands → o'.dst ≠ some s)) := by
    rw [List.pairwise_iff_getElem]
    intro i j h1 h2 hij
    have e1 : l[i]? = some l[i] := List.getElem?_eq_getElem h1
    have e2 : l[j]? = some l[j] := List.getElem?_eq_getElem h2
    refine ⟨fun s hs hs' => ?_, fun s hs hs' => ?_⟩
    · have := hB.one i j _ _ s e1 e2 hs hs'
      omega
    · obtain ⟨⟨e, he, h3, h4⟩, _⟩ := hB.reads i j _ _ s e1 e2 hs hs'
      have := htop' i _ (by rw [arr]; exact e1) e he h4
      omega
  have hself : ∀ o ∈ l, ∀ s, Operand.tmp s ∈ o.op.operands → o.dst ≠ some s := by
    intro o ho s hs hs'
    obtain ⟨i, e1⟩ := List.getElem?_of_mem ho
    obtain ⟨⟨e, he, h3, h4⟩, _⟩ := hB.reads i i _ _ s e1 e1 hs hs'
    have := htop' i _ (by rw [arr]; exact e1) e he h4
    omega
  have hlt : ∀ o ∈ l, ∀ s, o.dst = some s → s < a.tmps.size := by
    intro o ho s hs
    obtain ⟨i, hi'⟩ := List.getElem?_of_mem ho
    exact hB.lt i o s hi' hs
  have lex := fun x : Gb w => lex_last (P := P) (ops := l.toArray) (C := fun w' => ∃ y : Gb x.w, w' = y.w) (A := A) hsel 0 (restM m l) a (fun o ho => by simpa using hsub.subset ho) (fun o ho => hgn o (hsub.subset ho)) (fun o ho => hlt o (hsub.subset ho)) (hpw.sublist hsub) (fun o ho => hself o (hsub.subset ho)) (hlex x)
  obtain ⟨sz, df, out, each0⟩ := lex ⟨w, Below.refl _ _⟩
  have free : ∀ j ∈ L, ∀ o, l[j]? = some o → ∀ w', ∃ v, (∀ t, o.dst = some t → A.eval (.tmp t) = v) ∧ o.quietAt P A (fun x => x = w') w' v := by
    intro j hj o ho w'
    have h := hfree j hj o ho w'
    unfold wpQuiet at h
    rw [if_pos (by unfold Region.wanted; rw [hgn o (List.mem_of_getElem? ho)])] at h
    obtain ⟨v, h1, h2⟩ := h
    refine ⟨v, fun t ht => ?_, h1 w' rfl⟩
    have h2 : A.put o.dst v = A := h2
    rw [← h2, ht]
    simp only [Act.eval, Array.getD_eq_getD_getElem?]
    rw [put_tmps_same _ _ _ (by rw [sz]; exact hlt o (List.mem_of_getElem? ho) t ht)]
    rfl
  refine wp_region_invB0 hm hB.top hB.ng (fun f b wx => ∃ (As : Act) (c p : Nat), b.tmps.size = A.tmps.size ∧ As.tmps.size = A.tmps.size ∧ b.defers = As.defers ∧
    (∀ i, i < l.length → m[i]? = some true → (f i = true ↔ i < p)) ∧
    (∀ (i : Nat) (o : Oper), l[i]? = some o → f i = true → ∀ e ∈ o.after, Region.binds .any e = true → f e.on = true) ∧
    (∀ t, (∀ (i : Nat) (o : Oper), l[i]? = some o → m[i]? = some true → f i = true → o.dst ≠ some t) → As.tmps[t]? = A.tmps[t]?) ∧
    (∀ t, (∀ (j : Nat) (o : Oper), l[j]? = some o → m[j]? ≠ some true → o.dst = some t → f j = true) → b.tmps[t]? = As.tmps[t]?) ∧
    (c = 0 → As = A ∧ p = 0) ∧ (c ≤ 1 → Below w.heap.size w wx) ∧
    (0 < c → wpList P l.toArray (OnlyN Q) (effM (m.drop p) (l.drop p)) As wx ∧ e0 < p) ∧
    (0 < c → ∀ (j : Nat) (o : Oper), l[j]? = some o → m[j]? ≠ some true → f j = false → stillOp o = true) ∧
    (2 ≤ c → ∀ (j : Nat) (o : Oper), l[j]? = some o → m[j]? ≠ some true → f j = false → j ∈ L)) ?start ?step ?fin
  case start =>
    refine ⟨A, 0, 0, sz.symm, rfl, df.symm, fun i _ _ => ?_, fun i o _ h => (by cases h), fun _ _ => rfl, fun t ht => ?_, fun _ => ⟨rfl, rfl⟩, fun _ => (Below.refl _ _).drew, fun h => absurd h (by omega), fun h => absurd h (by omega), fun h => absurd h (by omega)⟩
    · constructor
      · intro h; cases h
      · intro h; omega
    · refine (out t (fun o ho hs => ?_)).symm
      obtain ⟨j, hj, hjm⟩ := restM_of m l o ho
      exact absurd (ht j o hj hjm hs) (by simp)
  case step =>
    rintro f b wx i o ⟨As, c, p, s1, s2, s3, s4, s9, s5, s6, s7, s7b, s8, s8a, s8b⟩ ho hf hd
    rw [arr] at ho
    have hil := (List.getElem?_eq_some_iff.1 ho).1
    have u1 : upd f i i = true := by simp [upd]
    have u2 : ∀ j, j ≠ i → upd f i j = f j := fun j hj => by simp [upd, hj]
    have u3 : ∀ j, f j = true → upd f i j = true := fun j hj => by
      by_cases e : j = i
      · rw [e]; exact u1
      · rw [u2 j e]; exact hj
    have closed : ∀ (i' : Nat) (o' : Oper), l[i']? = some o' → upd f i i' = true → ∀ e ∈ o'.after, Region.binds .any e = true → upd f i e.on = true := by
      intro i' o' a2 a3 e he hb
      by_cases ei : i' = i
      · subst ei
        rw [ho] at a2
        obtain rfl := Option.some.inj a2
        exact u3 _ (hd e he hb)
      · rw [u2 i' ei] at a3
        exact u3 _ (s9 i' o' a2 a3 e he hb)
    have done : ∀ j, waits l.toArray 8 i j = true → f j = true := fun j hw => waits_done (ops := l.toArray) (f := f) (fun i' o' h' => s9 i' o' (by rw [← arr]; exact h')) 8 i o (by rw [arr]; exact ho) hd hw
    -- what the operation reads is as in As
    have rdAs : ∀ t, Operand.tmp t ∈ o.op.operands → b.eval (.tmp t) = As.eval (.tmp t) := by
      intro t ht
      refine eval_of_tmps (s6 t (fun j o' hj hjm hs => ?_))
      obtain ⟨⟨e, he, h3, h4⟩, _⟩ := hB.reads i j o o' t ho hj ht hs
      have := hd e he h4
      rwa [h3] at this
    by_cases him : m[i]? = some true
    case neg =>
      -- no effect
      have rdA : ∀ t, Operand.tmp t ∈ o.op.operands → b.eval (.tmp t) = A.eval (.tmp t) := by
        intro t ht
        rw [rdAs t ht]
        refine eval_of_tmps (s5 t (fun j o' hj hjm hfj hs => ?_))
        rcases (hB.reads i j o o' t ho hj ht hs).2 with h | h
        · exact him h
        · exact h hjm
      have congr' : ∀ C w' v, o.quietAt P A C w' v → o.quietAt P b C w' v := by
        intro C w' v this
        unfold Oper.quietAt at this ⊢
        rwa [execOp_congr o (fun cs' b' => hsel o cs' b' (by simpa using List.mem_of_getElem? ho)) (ρ := b.eval) (ρ' := A.eval) ?_]
        intro y hy
        cases y with
        | tmp t => exact rdA t hy
        | _ => rfl
      have keep : ∀ v, (∀ t, o.dst = some t → A.eval (.tmp t) = v) → (b.put o.dst v).tmps.size = A.tmps.size ∧ As.tmps.size = A.tmps.size ∧ (b.put o.dst v).defers = As.defers ∧
          (∀ i', i' < l.length → m[i']? = some true → (upd f i i' = true ↔ i' < p)) ∧
          (∀ (i' : Nat) (o' : Oper), l[i']? = some o' → upd f i i' = true → ∀ e ∈ o'.after, Region.binds .any e = true → upd f i e.on = true) ∧
          (∀ t, (∀ (i' : Nat) (o' : Oper), l[i']? = some o' → m[i']? = some true → upd f i i' = true → o'.dst ≠ some t) → As.tmps[t]? = A.tmps[t]?) ∧
          (∀ t, (∀ (j : Nat) (o' : Oper), l[j]? = some o' → m[j]? ≠ some true → o'.dst = some t → upd f i j = true) → (b.put o.dst v).tmps[t]? = As.tmps[t]?) := by
        intro v hv
        refine ⟨by rw [put_size]; exact s1, s2, by rw [put_defers]; exact s3, fun i' h1 h2 => by rw [u2 i' (fun e => him (by rw [← e]; exact h2))]; exact s4 i' h1 h2, closed, fun t ht => s5 t (fun i' o' h1 h2 h3 => ht i' o' h1 h2 (u3 _ h3)), fun t ht => ?_⟩
        by_cases e : o.dst = some t
        · have hts : t < b.tmps.size := by rw [s1, sz]; exact hlt o (List.mem_of_getElem? ho) t e
          rw [e, put_tmps_same _ _ _ hts]
          have h1 : As.tmps[t]? = A.tmps[t]? := s5 t (fun i' o' h' hm' _ hs' => by
            have := hB.one i i' o o' t ho h' e hs'
            exact him (by rw [this]; exact hm'))
          rw [h1, tmps_of_eval (hv t e) (by rw [← s1]; exact hts)]
        · rw [put_tmps_ne _ _ _ _ e]
          refine s6 t (fun j o' hj hjm hs => ?_)
          have := ht j o' hj hjm hs
          by_cases ej : j = i
          · subst ej
            rw [ho] at hj
            rw [← Option.some.inj hj] at hs
            exact absurd hs e
          · rwa [u2 j ej] at this
      rcases Nat.eq_zero_or_pos c with hc | hc
      · -- no effect has run
        obtain ⟨_, _, _, each⟩ := lex ⟨wx, s7b (by omega)⟩
        obtain ⟨v, hv1, hv2⟩ := each o (restM_mem m l i o ho him)
        have hquiet : o.quiet P b (fun w' => ∃ y : Gb wx, w' = y.w) (fun c => c = b.put o.dst v) := ⟨v, fun w' hw' => congr' _ _ _ (hv2 w' hw'), rfl⟩
        refine Oper.wp_of_quiet (C := fun w' => ∃ y : Gb wx, w' = y.w) ⟨⟨wx, Below.refl _ _⟩, rfl⟩ ?_ hquiet
        rintro c' w' ⟨⟨_, hb'⟩, rfl⟩ rfl
        obtain ⟨k1, k2, k3, k4, k9, k5, k6⟩ := keep v hv1
        exact ⟨As, c, p, k1, k2, k3, k4, k9, k5, k6, s7, fun h => (s7b h).trans (hb'.mono (s7b h).size), fun h => absurd h (by omega), fun h => absurd h (by omega), fun h => absurd h (by omega)⟩
      · obtain ⟨v, hv1, hv2⟩ : ∃ v, (∀ t, o.dst = some t → A.eval (.tmp t) = v) ∧ o.quietAt P A (fun x => x = wx) wx v := by
          by_cases hc1 : c ≤ 1
          case neg => exact free i (s8b (by omega) i o ho him hf) o ho wx
          obtain ⟨_, _, _, each⟩ := lex ⟨wx, s7b hc1⟩
          obtain ⟨v, hv1, hv2⟩ := each o (restM_mem m l i o ho him)
          exact ⟨v, hv1, still_quiet (s8a hc i o ho him hf) (hv2 wx ⟨⟨wx, Below.refl _ _⟩, rfl⟩) _⟩
        have hquiet : o.quiet P b (fun x => x = wx) (fun c => c = b.put o.dst v) := ⟨v, fun x hx => by rw [hx]; exact congr' _ _ _ hv2, rfl⟩
        refine Oper.wp_of_quiet (C := fun x => x = wx) rfl ?_ hquiet
        rintro c' x rfl rfl
        obtain ⟨k1, k2, k3, k4, k9, k5, k6⟩ := keep v hv1
        have less : ∀ j, upd f i j = false → f j = false := fun j hj => by
          by_cases ej : j = i
          · rw [ej, u1] at hj; cases hj
          · rwa [u2 j ej] at hj
        exact ⟨As, c, p, k1, k2, k3, k4, k9, k5, k6, s7, s7b, s8, fun h j o' hj hjm hfj => s8a h j o' hj hjm (less j hfj), fun h j o' hj hjm hfj => s8b h j o' hj hjm (less j hfj)⟩
    case pos =>
      -- an effect: the next one
      have hge : p ≤ i := by
        rcases Nat.lt_or_ge i p with h | h
        · rw [(s4 i hil him).2 h] at hf; cases hf
        · exact h
      have hno : ∀ j, p ≤ j → j < i → m[j]? ≠ some true := by
        intro j h1 h2 h3
        have := (s4 j (by omega) h3).1 (done j (hB.chain i j hil h2 him h3))
        omega
      have heff : effM (m.drop p) (l.drop p) = o :: effM (m.drop (i + 1)) (l.drop (i + 1)) := by
        rw [effM_skip m l p (i - p) (fun j h1 h2 => hno j h1 (by omega)), show p + (i - p) = i by omega]
        exact effM_at m l i o ho him
      have hdlt : ∀ t, o.dst = some t → t < A.tmps.size := fun t ht => by rw [sz]; exact hlt o (List.mem_of_getElem? ho) t ht
      have he : execOp b.eval o = execOp As.eval o := by
        refine execOp_congr o (fun cs' b' => hsel o cs' b' (by simpa using List.mem_of_getElem? ho)) ?_
        intro y hy
        cases y with
        | tmp t => exact rdAs t hy
        | _ => rfl
      -- what waits still, behind this effect
      have hstill : ∀ (j : Nat) (o' : Oper), l[j]? = some o' → m[j]? ≠ some true → f j = false → stillOp o' = true := by
        intro j o' hj hjm hfj
        rcases Nat.eq_zero_or_pos c with hc | hc
        · have hp := (s7 hc).2
          have hi0 : i = e0 := by
            have h1 := hB.fst i o ho him
            rcases Nat.lt_or_ge e0 i with h2 | h2
            · exact absurd hB.em (hno e0 (by omega) h2)
            · omega
          rcases hB.still j o' hj hjm with h | h
          · rw [← hi0] at h
            have := done j h
            rw [hfj] at this
            cases this
          · exact h
        · exact s8a hc j o' hj hjm hfj
      have hLL : 0 < c → ∀ (j : Nat) (o' : Oper), l[j]? = some o' → m[j]? ≠ some true → f j = false → j ∈ L := by
        intro hc j o' hj hjm hfj
        rcases hB.pend i j hil (List.getElem?_eq_some_iff.1 hj).1 (by have := (s8 hc).2; omega) him hjm with h | h
        · have := done j h
          rw [hfj] at this
          cases this
        · exact h
      have next : ∀ (As' b' : Act) w', As'.tmps.size = As.tmps.size → b'.tmps.size = b.tmps.size → b'.defers = As'.defers → (∀ t, o.dst ≠ some t → As'.tmps[t]? = As.tmps[t]? ∧ b'.tmps[t]? = b.tmps[t]?) → (∀ t, o.dst = some t → b'.tmps[t]? = As'.tmps[t]?) →
          (c = 0 → Below w.heap.size w w') → wpList P l.toArray (OnlyN Q) (effM (m.drop (i + 1)) (l.drop (i + 1))) As' w' →
          ∃ (As : Act) (c p : Nat), b'.tmps.size = A.tmps.size ∧ As.tmps.size = A.tmps.size ∧ b'.defers = As.defers ∧
            (∀ i', i' < l.length → m[i']? = some true → (upd f i i' = true ↔ i' < p)) ∧
            (∀ (i' : Nat) (o : Oper), l[i']? = some o → upd f i i' = true → ∀ e ∈ o.after, Region.binds .any e = true → upd f i e.on = true) ∧
            (∀ t, (∀ (i' : Nat) (o : Oper), l[i']? = some o → m[i']? = some true → upd f i i' = true → o.dst ≠ some t) → As.tmps[t]? = A.tmps[t]?) ∧
            (∀ t, (∀ (j : Nat) (o : Oper), l[j]? = some o → m[j]? ≠ some true → o.dst = some t → upd f i j = true) → b'.tmps[t]? = As.tmps[t]?) ∧
            (c = 0 → As = A ∧ p = 0) ∧ (c ≤ 1 → Below w.heap.size w w') ∧
            (0 < c → wpList P l.toArray (OnlyN Q) (effM (m.drop p) (l.drop p)) As w' ∧ e0 < p) ∧
            (0 < c → ∀ (j : Nat) (o : Oper), l[j]? = some o → m[j]? ≠ some true → upd f i j = false → stillOp o = true) ∧
            (2 ≤ c → ∀ (j : Nat) (o : Oper), l[j]? = some o → m[j]? ≠ some true → upd f i j = false → j ∈ L) := by
        intro As' b' w' h1 h2 h3 h4 h5 h6 h7
        have ne : ∀ j, m[j]? ≠ some true → j ≠ i := fun j hj e => hj (by rw [e]; exact him)
        refine ⟨As', c + 1, i + 1, h2.trans s1, h1.trans s2, h3, fun i' a1 a2 => ?_, closed, fun t ht => ?_, fun t ht => ?_, fun h => absurd h (by omega), fun h => h6 (by omega), fun _ => ⟨h7, ?_⟩, fun _ j o' hj hjm hfj => ?_, fun h j o' hj hjm hfj => ?_⟩
        · by_cases e : i' = i
          · rw [e, u1]; constructor
            · intro _; omega
            · intro _; rfl
          · rw [u2 i' e, s4 i' a1 a2]
            constructor
            · intro h; omega
            · intro h
              rcases Nat.lt_or_ge i' p with h' | h'
              · exact h'
              · exact absurd a2 (hno i' h' (by omega))
        · rw [(h4 t (ht i o ho him u1)).1]
          exact s5 t (fun i' o' a1 a2 a3 => ht i' o' a1 a2 (u3 _ a3))
        · by_cases e : o.dst = some t
          · exact h5 t e
          · obtain ⟨c1, c2⟩ := h4 t e
            rw [c1, c2]
            refine s6 t (fun j o' hj hjm hs => ?_)
            have := ht j o' hj hjm hs
            rwa [u2 j (ne j hjm)] at this
        · have := hB.fst i o ho him
          omega
        · rw [u2 j (ne j hjm)] at hfj
          exact hstill j o' hj hjm hfj
        · rw [u2 j (ne j hjm)] at hfj
          exact hLL (by omega) j o' hj hjm hfj
      have hwp : o.wp P As wx (fun a'' w'' => (c = 0 → Below w.heap.size w w'') ∧ wpList P l.toArray (OnlyN Q) (effM (m.drop (i + 1)) (l.drop (i + 1))) a'' w'') (OnlyN Q) := by
        rcases Nat.eq_zero_or_pos c with hc | hc
        · obtain ⟨hAs, hp⟩ := s7 hc
          have hbl := s7b (by omega)
          rw [hp, List.drop_zero, List.drop_zero, hle] at heff
          injection heff with e1 e2
          rw [← e1, ← e2, hAs]
          exact Oper.wp_mono (fun a'' w'' h => ⟨fun _ => hbl.trans (h.1.mono hbl.size), h.2⟩) (fin wx hbl)
        · have hwl := (s8 hc).1
          rw [heff] at hwl
          unfold wpList at hwl
          rw [if_pos (by unfold Region.wanted; rw [hgn o (List.mem_of_getElem? ho)])] at hwl
          rcases hwl with h | ⟨_, h⟩
          · exact Oper.wp_mono (fun a'' w'' h => ⟨fun h0 => absurd h0 (by omega), h⟩) h
          · exact absurd h (onlyN_out Q)
      refine wp_swap he ?_ ?_ hwp
      · intro v w' hK
        refine next (As.put o.dst v) (b.put o.dst v) w' (put_size _ _ _) (put_size _ _ _) (by rw [put_defers, put_defers]; exact s3) (fun t ht => ⟨put_tmps_ne _ _ _ _ ht, put_tmps_ne _ _ _ _ ht⟩) (fun t ht => ?_) hK.1 hK.2
        rw [ht, put_tmps_same _ _ _ (by rw [s1]; exact hdlt t ht), put_tmps_same _ _ _ (by rw [s2]; exact hdlt t ht)]
      · intro d w' hK
        refine next ({ As with defers := d :: As.defers }.put o.dst undef) ({ b with defers := d :: b.defers }.put o.dst undef) w' (by rw [put_size]) (by rw [put_size]) (by rw [put_defers, put_defers]; simp only [s3]) (fun t ht => ⟨put_tmps_ne _ _ _ _ ht, put_tmps_ne _ _ _ _ ht⟩) (fun t ht => ?_) hK.1 hK.2
        have g1 : t < ({ b with defers := d :: b.defers } : Act).tmps.size := by show t < b.tmps.size; rw [s1]; exact hdlt t ht
        have g2 : t < ({ As with defers := d :: As.defers } : Act).tmps.size := by show t < As.tmps.size; rw [s2]; exact hdlt t ht
        rw [ht, put_tmps_same _ _ _ g1, put_tmps_same _ _ _ g2]
  case fin =>
    rintro f b wx ⟨As, c, p, s1, s2, s3, s4, _, s5, s6, s7, s7b, s8, s8a, s8b⟩ hall
    have hall' : ∀ i, i < l.length → f i = true := fun i hi => hall i (by simpa using hi)
    have hb : b = As := by
      obtain ⟨bt, bd⟩ := b
      obtain ⟨At, Ad⟩ := As
      simp only at s3
      subst s3
      simp only [Act.mk.injEq, and_true]
      exact Array.ext_getElem? fun t => s6 t (fun j o hj _ _ => hall' j (List.getElem?_eq_some_iff.1 hj).1)
    have hc : 0 < c := by
      rcases Nat.eq_zero_or_pos c with h | h
      · have := (s7 h).2
        have := (s4 e0 hB.el hB.em).1 (hall' e0 hB.el)
        omega
      · exact h
    have hnil : effM (m.drop p) (l.drop p) = [] := by
      rcases Nat.lt_or_ge p l.length with h | h
      · rw [effM_skip m l p (l.length - p) (fun j h1 h2 h3 => by
          have := (s4 j (by omega) h3).1 (hall' j (by omega))
          omega), show p + (l.length - p) = l.length by omega, List.drop_length]
        cases m.drop l.length <;> rfl
      · rw [List.drop_eq_nil_of_le h]
        cases m.drop p <;> rfl
    have := (s8 hc).1
    rw [hnil] at this
    rw [hb]
    exact this

end Go.Proofs.Ytlmmincpjflkdaa

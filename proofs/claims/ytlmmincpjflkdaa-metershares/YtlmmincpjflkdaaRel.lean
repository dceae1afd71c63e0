/- A region that draws its order, some of whose operations answer what hangs on the world: each of these is told by a relation that lasts; all others are walked once, in the order of the text. Guarded operations run. -/
import Derived.Test.YtlmmincpjflkdaaSame
import Derived.Test.YtlmmincpjflkdaaEff
namespace Go.Proofs.Ytlmmincpjflkdaa
open Go.RowKit
set_option linter.unusedVariables false

/-- which of the marked operations writes a slot -/
def wrB (m : List Bool) (l : List Oper) (s : Nat) : Option Nat := (List.range l.length).find? fun i => m[i]? == some true && ((l[i]?).bind (·.dst) == some s)
def relOk (l : List Oper) (m : List Bool) (gs : List (Nat × Bool)) (det S : List Nat) (n : Nat) : Bool :=
  topOkB l.toArray && Region.noSelect l.toArray && (S.all fun s => (wrB m l s).isSome) &&
  ((List.range l.length).all fun i => match l[i]? with
    | some o => (match o.dst with | some s => decide (s < n) && (!(m[i]? == some true) || S.contains s) | none => true) && (match o.guard with | none => true | some (g, b) => (o.after.any fun e => e.on == g && Region.binds .any e) && !(m[g]? == some true) && (match (l[g]?).bind (·.dst) with | some d => gs.contains (d, b) | none => false)) &&
      ((List.range l.length).all fun j => match l[j]? with
        | some o' => (i == j || (match o.dst with | some s => !(o'.dst == some s) | none => true)) && (o.op.operands.all fun x => match x with
            | .tmp s => !(o'.dst == some s) || ((o.after.any fun e => e.on == j && Region.binds .any e) && (m[i]? == some true || !(m[j]? == some true) || det.contains j))
            | _ => true)
        | none => true)
    | none => true)
structure RelOk (l : List Oper) (m : List Bool) (gs : List (Nat × Bool)) (det S : List Nat) (n : Nat) : Prop where
  top : topOkB l.toArray = true
  sel : Region.noSelect l.toArray = true
  lt : ∀ (i : Nat) (o : Oper) (s : Nat), l[i]? = some o → o.dst = some s → s < n
  sOf : ∀ s ∈ S, ∃ j, wrB m l s = some j
  inS : ∀ (i : Nat) (o : Oper) (s : Nat), l[i]? = some o → o.dst = some s → m[i]? = some true → s ∈ S
  guard : ∀ (i : Nat) (o : Oper) (g : Nat) (b : Bool), l[i]? = some o → o.guard = some (g, b) → (∃ e ∈ o.after, e.on = g ∧ Region.binds .any e = true) ∧ m[g]? ≠ some true ∧ ∃ d, (l[g]?).bind (·.dst) = some d ∧ (d, b) ∈ gs
  one : ∀ (i j : Nat) (o o' : Oper) (s : Nat), l[i]? = some o → l[j]? = some o' → o.dst = some s → o'.dst = some s → i = j
  reads : ∀ (i j : Nat) (o o' : Oper) (s : Nat), l[i]? = some o → l[j]? = some o' → Operand.tmp s ∈ o.op.operands → o'.dst = some s → (∃ e ∈ o.after, e.on = j ∧ Region.binds .any e = true) ∧ (m[i]? = some true ∨ m[j]? ≠ some true ∨ j ∈ det)
theorem relOk_spec {l : List Oper} {m : List Bool} {gs : List (Nat × Bool)} {det S : List Nat} {n : Nat} (h : relOk l m gs det S n = true) : RelOk l m gs det S n := by
  unfold relOk at h
  simp only [Bool.and_eq_true] at h
  obtain ⟨⟨⟨h1, h2⟩, h0⟩, h3⟩ := h
  have at_ : ∀ (i : Nat) (o : Oper), l[i]? = some o → (((match o.dst with | some s => decide (s < n) && (!(m[i]? == some true) || S.contains s) | none => true) && (match o.guard with | none => true | some (g, b) => (o.after.any fun e => e.on == g && Region.binds .any e) && !(m[g]? == some true) && (match (l[g]?).bind (·.dst) with | some d => gs.contains (d, b) | none => false))) = true) ∧
      ∀ (j : Nat) (o' : Oper), l[j]? = some o' → ((i == j || (match o.dst with | some s => !(o'.dst == some s) | none => true)) && (o.op.operands.all fun x => match x with
            | .tmp s => !(o'.dst == some s) || ((o.after.any fun e => e.on == j && Region.binds .any e) && (m[i]? == some true || !(m[j]? == some true) || det.contains j))
            | _ => true)) = true := by
    intro i o ho
    have h4 := List.all_eq_true.1 h3 i (List.mem_range.2 (List.getElem?_eq_some_iff.1 ho).1)
    rw [ho] at h4
    simp only [Bool.and_eq_true] at h4
    refine ⟨by rw [Bool.and_eq_true]; exact h4.1, fun j o' hj => ?_⟩
    have h5 := List.all_eq_true.1 h4.2 j (List.mem_range.2 (List.getElem?_eq_some_iff.1 hj).1)
    rw [hj] at h5
    exact h5
  refine ⟨h1, h2, ?_, fun s hs => Option.isSome_iff_exists.1 (List.all_eq_true.1 h0 s hs), ?_, ?_, ?_, ?_⟩
  · intro i o s ho hs
    have h4 := (at_ i o ho).1
    rw [Bool.and_eq_true, hs] at h4
    have h5 := h4.1
    simp only [Bool.and_eq_true, decide_eq_true_eq] at h5
    exact h5.1
  · intro i o s ho hs hmi
    have h4 := (at_ i o ho).1
    rw [Bool.and_eq_true, hs] at h4
    have h5 := h4.1
    simp only [Bool.and_eq_true, hmi] at h5
    simpa using h5.2
  · intro i o g b ho hg
    have h4 := (at_ i o ho).1
    rw [Bool.and_eq_true, hg] at h4
    have h5 := h4.2
    simp only [Bool.and_eq_true] at h5
    obtain ⟨⟨h6, h7⟩, h8⟩ := h5
    obtain ⟨e, he, e1⟩ := Array.any_eq_true'.1 h6
    simp only [Bool.and_eq_true, beq_iff_eq] at e1
    refine ⟨⟨e, he, e1.1, e1.2⟩, fun hc => by rw [hc] at h7; simp at h7, ?_⟩
    cases hq : (l[g]?).bind (·.dst) with
    | none => rw [hq] at h8; cases h8
    | some d =>
      rw [hq] at h8
      exact ⟨d, rfl, by simpa using h8⟩
  · intro i j o o' s ho hj hs hs'
    have h4 := (at_ i o ho).2 j o' hj
    rw [Bool.and_eq_true, hs] at h4
    have h5 := h4.1
    simp only [hs', Bool.or_eq_true, beq_iff_eq] at h5
    rcases h5 with h5 | h5
    · exact h5
    · simp at h5
  · intro i j o o' s ho hj hs hs'
    have h4 := (at_ i o ho).2 j o' hj
    rw [Bool.and_eq_true] at h4
    have h5 := Array.all_eq_true'.1 h4.2 (.tmp s) hs
    simp only [hs', Bool.or_eq_true, Bool.and_eq_true] at h5
    rcases h5 with h5 | ⟨h5, h6⟩
    · simp at h5
    · obtain ⟨e, he, e1⟩ := Array.any_eq_true'.1 h5
      simp only [Bool.and_eq_true, beq_iff_eq] at e1
      refine ⟨⟨e, he, e1.1, e1.2⟩, ?_⟩
      rcases h6 with (h6 | h6) | h6
      · exact .inl (by simpa using h6)
      · exact .inr (.inl (fun hc => by rw [hc] at h6; simp at h6))
      · exact .inr (.inr (by simpa using h6))
/-- the operands of a marked operation: what marked ones wrote is told by their relations, all else is as in the walk -/
def OpdOk (m : List Bool) (l : List Oper) (R : Nat → Value → World → Prop) (A b : Act) (x : World) (s : Nat) : Prop := match wrB m l s with | some j => R j (b.eval (.tmp s)) x | none => b.eval (.tmp s) = A.eval (.tmp s)
theorem wrB_some {m : List Bool} {l : List Oper} {s j : Nat} (h : wrB m l s = some j) : m[j]? = some true ∧ ∃ o, l[j]? = some o ∧ o.dst = some s := by
  unfold wrB at h
  have h1 := List.find?_some h
  simp only [Bool.and_eq_true, beq_iff_eq] at h1
  refine ⟨h1.1, ?_⟩
  cases hq : l[j]? with
  | none => rw [hq] at h1; cases h1.2
  | some o => rw [hq] at h1; exact ⟨o, rfl, h1.2⟩
theorem wrB_none {m : List Bool} {l : List Oper} {s : Nat} (h : wrB m l s = none) (j : Nat) (o : Oper) (ho : l[j]? = some o) (hmj : m[j]? = some true) : o.dst ≠ some s := fun e => by
  unfold wrB at h
  have h1 := List.find?_eq_none.1 h j (List.mem_range.2 (List.getElem?_eq_some_iff.1 ho).1)
  simp [hmj, ho, e] at h1
theorem wp_region_rel {P : Program} {id : Nat} {Q : Exit → Act → World → Prop} {a : Act} {w : World} {l : List Oper} (m : List Bool) (gs : List (Nat × Bool)) (det S : List Nat) (a0 A : Act) (Fr : World → World → Prop) (R : Nat → Value → World → Prop)
    (hm : P.follows .mixedOrders = true) (hok : relOk l m gs det S a.tmps.size = true)
    (Ft : ∀ x y z, Fr x y → Fr y z → Fr x z) (Fb : ∀ x y : World, Below x.heap.size x y → Fr x y)
    (hR : ∀ i v x y, R i v x → Fr x y → R i v y)
    (ha0 : Off S a a0)
    (hdet : ∀ i ∈ det, ∀ (o : Oper) (s : Nat), l[i]? = some o → o.dst = some s → ∀ v x, R i v x → v = a0.eval (.tmp s))
    (hlex : ∀ x, Fr w x → wpQuiet P l.toArray (fun w' => ∃ y : Gb x, w' = y.w) (fun a' => a' = A) (restM m l) a0)
    (hgA : ∀ g ∈ gs, A.eval (.tmp g.1) = .bool g.2)
    (hst : ∀ (i : Nat) (o : Oper), l[i]? = some o → m[i]? = some true → ∀ (x : World) (b : Act), Fr w x → (∀ s, Operand.tmp s ∈ o.op.operands → OpdOk m l R A b x s) → o.wp P b x (fun b' w' => ∃ v, b' = b.put o.dst v ∧ R i v w' ∧ Fr x w') Q)
    (fin : ∀ (b : Act) (w' : World), Fr w w' → Off S A b → (∀ (j : Nat) (o : Oper) (s : Nat), l[j]? = some o → m[j]? = some true → o.dst = some s → R j (b.eval (.tmp s)) w') → Q .normal b w') : (Code.region id l.toArray true).wp P Q a w := by
  have hB := relOk_spec hok
  have htop' := topOkB_spec hB.top
  have arr : ∀ i : Nat, l.toArray[i]? = l[i]? := fun i => by rw [List.getElem?_toArray]
  have hsel : ∀ (o : Oper) cs b, o ∈ l.toArray → o.op ≠ .select cs b := by
    intro o cs b ho
    obtain ⟨j, hj⟩ := Array.getElem?_of_mem ho
    exact Region.noSelect_spec hB.sel j o cs b hj
  have hgk : ∀ (i : Nat) (o : Oper), l[i]? = some o → GuardOk l.toArray A o := by
    intro i o ho
    cases hg : o.guard with
    | none => exact .inl hg
    | some g =>
      obtain ⟨_, _, d, h1, h2⟩ := hB.guard i o g.1 g.2 ho hg
      exact .inr ⟨g.1, g.2, d, hg, by rw [arr]; exact h1, hgA (d, g.2) h2⟩
  have goff : ∀ (i j : Nat) (o o' : Oper), l[i]? = some o → l[j]? = some o' → i ≤ j → GuardOff l.toArray o o'.dst := by
    intro i j o o' ho hj hij g b d hg hd hs
    obtain ⟨⟨e, he, e1, e2⟩, _⟩ := hB.guard i o g b ho hg
    have h3 := htop' i o (by rw [arr]; exact ho) e he e2
    rw [arr] at hd
    cases hq : l[g]? with
    | none => rw [hq] at hd; cases hd
    | some og =>
      rw [hq] at hd
      have := hB.one g j og o' d hq hj hd hs
      omega
  have hpw : l.Pairwise (fun o o' => (∀ s, o.dst = some s → o'.dst ≠ some s) ∧ (∀ s, Operand.tmp s ∈ o.op.operands → o'.dst ≠ some s) ∧ GuardOff l.toArray o o'.dst) := by
    rw [List.pairwise_iff_getElem]
    intro i j h1 h2 hij
    have e1 := List.getElem?_eq_getElem h1
    have e2 := List.getElem?_eq_getElem h2
    refine ⟨fun s hs hs' => ?_, fun s hs hs' => ?_, goff i j _ _ e1 e2 (Nat.le_of_lt hij)⟩
    · have := hB.one i j _ _ s e1 e2 hs hs'
      omega
    · obtain ⟨⟨e, he, h3, h4⟩, _⟩ := hB.reads i j _ _ s e1 e2 hs hs'
      have := htop' i _ (by rw [arr]; exact e1) e he h4
      omega
  have hself : ∀ o ∈ restM m l, (∀ s, Operand.tmp s ∈ o.op.operands → o.dst ≠ some s) ∧ GuardOff l.toArray o o.dst := by
    intro o ho
    obtain ⟨i, e1, _⟩ := restM_of m l o ho
    refine ⟨fun s hs hs' => ?_, goff i i o o e1 e1 (Nat.le_refl _)⟩
    obtain ⟨⟨e, he, h3, h4⟩, _⟩ := hB.reads i i _ _ s e1 e1 hs hs'
    have := htop' i _ (by rw [arr]; exact e1) e he h4
    omega
  have lex := fun (x : World) (hx : Fr w x) => lex_lastG (P := P) (ops := l.toArray) (C := fun w' => ∃ y : Gb x, w' = y.w) (A := A) hsel (restM m l) a0 (fun o ho => by obtain ⟨i, hi, _⟩ := restM_of m l o ho; simpa using List.mem_of_getElem? hi) (fun o ho => by obtain ⟨i, hi, _⟩ := restM_of m l o ho; exact hgk i o hi) (fun o ho s hs => by obtain ⟨i, hi, _⟩ := restM_of m l o ho; rw [ha0.size]; exact hB.lt i o s hi hs) (hpw.sublist (restM_sub m l)) hself (hlex x hx)
  have Fw : Fr w w := Fb _ _ (Below.refl _ _)
  obtain ⟨sz0, df0, out, _⟩ := lex w Fw
  have sz : A.tmps.size = a.tmps.size := sz0.trans ha0.size
  have df : A.defers = a.defers := df0.trans ha0.defers
  have outD : ∀ s, (∀ (j : Nat) (o : Oper), l[j]? = some o → m[j]? ≠ some true → o.dst ≠ some s) → A.tmps[s]? = a0.tmps[s]? := by
    intro s hs
    refine out s (fun o ho hd => ?_)
    obtain ⟨i, hi, hmi⟩ := restM_of m l o ho
    exact hs i o hi hmi hd
  refine wp_region_invB hm htop' (fun f b wx => b.tmps.size = A.tmps.size ∧ b.defers = A.defers ∧ Fr w wx ∧
    (∀ (j : Nat) (o : Oper) (t : Nat), l[j]? = some o → m[j]? ≠ some true → f j = true → o.dst = some t → b.eval (.tmp t) = A.eval (.tmp t)) ∧
    (∀ (j : Nat) (o : Oper) (t : Nat), l[j]? = some o → m[j]? = some true → f j = true → o.dst = some t → R j (b.eval (.tmp t)) wx) ∧
    (∀ t, (∀ (j : Nat) (o : Oper), l[j]? = some o → f j = true → o.dst ≠ some t) → b.tmps[t]? = a.tmps[t]?)) ?start ?step ?fin
  case start =>
    exact ⟨sz.symm, df.symm, Fb _ _ ((Below.refl _ _).drew), fun j o t _ _ h => (by cases h), fun j o t _ _ h => (by cases h), fun t _ => rfl⟩
  case step =>
    rintro f b wx i o ⟨s1, s2, s3, s4, s5, s6⟩ ho hf hd
    rw [arr] at ho
    have u1 : upd f i i = true := by simp [upd]
    have u2 : ∀ j, j ≠ i → upd f i j = f j := fun j hj => by simp [upd, hj]
    have u3 : ∀ j, f j = true → upd f i j = true := fun j hj => by
      by_cases e : j = i
      · rw [e]; exact u1
      · rw [u2 j e]; exact hj
    -- what is read of slots that no marked operation writes
    have rdN : ∀ t, Operand.tmp t ∈ o.op.operands → (∀ (j : Nat) (o' : Oper), l[j]? = some o' → m[j]? = some true → o'.dst ≠ some t) → b.eval (.tmp t) = A.eval (.tmp t) := by
      intro t ht hno
      by_cases hw : ∃ (j : Nat) (o' : Oper), l[j]? = some o' ∧ o'.dst = some t
      · obtain ⟨j, o', hj, hs'⟩ := hw
        obtain ⟨⟨e, he, h3, h4⟩, _⟩ := hB.reads i j o o' t ho hj ht hs'
        have hfj := hd e he h4
        rw [h3] at hfj
        exact s4 j o' t hj (fun h => hno j o' hj h hs') hfj hs'
      · refine eval_of_tmps ?_
        rw [s6 t (fun j o' hj _ hs' => hw ⟨j, o', hj, hs'⟩), outD t (fun j o' hj _ hs' => hw ⟨j, o', hj, hs'⟩)]
        by_cases hS : t ∈ S
        · obtain ⟨j, hj⟩ := hB.sOf t hS
          obtain ⟨_, o', ho', hd'⟩ := wrB_some hj
          exact absurd ⟨j, o', ho', hd'⟩ hw
        · exact (ha0.same t hS).symm
    have hwant : Region.wanted o (yielded l.toArray b.tmps) = true := by
      cases hg : o.guard with
      | none => unfold Region.wanted; rw [hg]
      | some g =>
        obtain ⟨⟨e, he, e1, e2⟩, h2, d, h5, h6⟩ := hB.guard i o g.1 g.2 ho hg
        refine wanted_at g.1 d g.2 hg (by rw [arr]; exact h5) ?_
        cases hq : l[g.1]? with
        | none => rw [hq] at h5; cases h5
        | some og =>
          rw [hq] at h5
          have hfj := hd e he e2
          rw [e1] at hfj
          rw [s4 g.1 og d hq h2 hfj h5]
          exact hgA (d, g.2) h6
    have pas : ∀ (b : Act) (v : Value) (t : Nat), o.dst ≠ some t → (b.put o.dst v).eval (.tmp t) = b.eval (.tmp t) := fun b v t h => eval_of_tmps (put_tmps_ne _ _ _ _ h)
    have same : ∀ (b : Act) (v : Value) (t : Nat), o.dst = some t → t < b.tmps.size → (b.put o.dst v).eval (.tmp t) = v := by
      intro b v t h hl
      rw [h]
      simp only [Act.eval, Array.getD_eq_getD_getElem?]
      rw [put_tmps_same _ _ _ hl]
      rfl
    have tlt : ∀ t, o.dst = some t → t < b.tmps.size := fun t h => by rw [s1, sz]; exact hB.lt i o t ho h
    have keep : ∀ (v : Value) (w' : World), Fr wx w' → (m[i]? ≠ some true → ∀ t, o.dst = some t → A.eval (.tmp t) = v) → (m[i]? = some true → R i v w') →
        (b.put o.dst v).tmps.size = A.tmps.size ∧ (b.put o.dst v).defers = A.defers ∧ Fr w w' ∧
        (∀ (j : Nat) (o' : Oper) (t : Nat), l[j]? = some o' → m[j]? ≠ some true → upd f i j = true → o'.dst = some t → (b.put o.dst v).eval (.tmp t) = A.eval (.tmp t)) ∧
        (∀ (j : Nat) (o' : Oper) (t : Nat), l[j]? = some o' → m[j]? = some true → upd f i j = true → o'.dst = some t → R j ((b.put o.dst v).eval (.tmp t)) w') ∧
        (∀ t, (∀ (j : Nat) (o' : Oper), l[j]? = some o' → upd f i j = true → o'.dst ≠ some t) → (b.put o.dst v).tmps[t]? = a.tmps[t]?) := by
      intro v w' hF hv hRv
      refine ⟨by rw [put_size]; exact s1, by rw [put_defers]; exact s2, Ft _ _ _ s3 hF, ?_, ?_, ?_⟩
      · intro j o' t hj hmj hu ht
        by_cases ej : j = i
        · subst ej
          rw [ho] at hj
          obtain rfl := Option.some.inj hj
          rw [same b v t ht (tlt t ht), hv hmj t ht]
        · rw [u2 j ej] at hu
          rw [pas b v t (fun h => ej (hB.one j i o' o t hj ho ht h))]
          exact s4 j o' t hj hmj hu ht
      · intro j o' t hj hmj hu ht
        by_cases ej : j = i
        · subst ej
          rw [ho] at hj
          obtain rfl := Option.some.inj hj
          rw [same b v t ht (tlt t ht)]
          exact hRv hmj
        · rw [u2 j ej] at hu
          rw [pas b v t (fun h => ej (hB.one j i o' o t hj ho ht h))]
          exact hR _ _ _ _ (s5 j o' t hj hmj hu ht) hF
      · intro t ht
        rw [put_tmps_ne _ _ _ _ (ht i o ho u1)]
        exact s6 t (fun j o' hj h3 => ht j o' hj (u3 _ h3))
    refine ⟨fun _ => ?_, fun hw => by rw [hwant] at hw; cases hw⟩
    by_cases hmi : m[i]? = some true
    · refine Oper.wp_mono ?_ (hst i o ho hmi wx b s3 (fun s hs => ?_))
      · rintro b' w' ⟨v, rfl, hRv, hF⟩
        exact keep v w' hF (fun h => absurd hmi h) (fun _ => hRv)
      · unfold OpdOk
        cases hq : wrB m l s with
        | none => exact rdN s hs (fun j o' hj hmj => wrB_none hq j o' hj hmj)
        | some j =>
          obtain ⟨hmj, o', ho', hd'⟩ := wrB_some hq
          obtain ⟨⟨e, he, h3, h4⟩, _⟩ := hB.reads i j o o' s ho ho' hs hd'
          have hfj := hd e he h4
          rw [h3] at hfj
          exact s5 j o' s ho' hmj hfj hd'
    · have rdy : ∀ y ∈ o.op.operands, b.eval y = A.eval y := by
        intro y hy
        cases y with
        | tmp t =>
          by_cases hw : ∃ (j : Nat) (o' : Oper), l[j]? = some o' ∧ m[j]? = some true ∧ o'.dst = some t
          · obtain ⟨j, o', hj, hmj, hs'⟩ := hw
            obtain ⟨⟨e, he, h3, h4⟩, h5⟩ := hB.reads i j o o' t ho hj hy hs'
            have hjd : j ∈ det := by
              rcases h5 with h5 | h5 | h5
              · exact absurd h5 hmi
              · exact absurd hmj h5
              · exact h5
            have hfj := hd e he h4
            rw [h3] at hfj
            rw [hdet j hjd o' t hj hs' _ _ (s5 j o' t hj hmj hfj hs')]
            refine (eval_of_tmps (outD t (fun j' o'' hj' hmj' hs'' => ?_))).symm
            have := hB.one j' j o'' o' t hj' hj hs'' hs'
            subst this
            exact hmj' hmj
          · exact rdN t hy (fun j o' hj hmj hs' => hw ⟨j, o', hj, hmj, hs'⟩)
        | _ => rfl
      obtain ⟨_, _, _, each⟩ := lex wx s3
      obtain ⟨v, hv1, hv2⟩ := each o (restM_mem m l i o ho hmi)
      have hquiet : o.quiet P b (fun w' => ∃ y : Gb wx, w' = y.w) (fun c => c = b.put o.dst v) := ⟨v, fun w' hw' => by
        have := hv2 w' hw'
        unfold Oper.quietAt at this ⊢
        rwa [execOp_congr o (fun cs' b' => hsel o cs' b' (by simpa using List.mem_of_getElem? ho)) (ρ := b.eval) (ρ' := A.eval) rdy], rfl⟩
      refine Oper.wp_of_quiet (C := fun w' => ∃ y : Gb wx, w' = y.w) ⟨⟨wx, Below.refl _ _⟩, rfl⟩ ?_ hquiet
      rintro c w' ⟨⟨_, hb'⟩, rfl⟩ rfl
      exact keep v _ (Fb _ _ hb') (fun _ t ht => hv1 t ht) (fun h => absurd h hmi)
  case fin =>
    rintro f b wx ⟨s1, s2, s3, s4, s5, s6⟩ hall
    have hall' : ∀ (i : Nat) (o : Oper), l[i]? = some o → f i = true := fun i o hi => hall i (by simpa using (List.getElem?_eq_some_iff.1 hi).1)
    refine fin b wx s3 ⟨s1, s2, fun t ht => ?_⟩ (fun j o s hj hmj hs => s5 j o s hj hmj (hall' j o hj) hs)
    by_cases hw : ∃ (j : Nat) (o' : Oper), l[j]? = some o' ∧ o'.dst = some t
    · obtain ⟨j, o', hj, hs'⟩ := hw
      by_cases hmj : m[j]? = some true
      · exact absurd (hB.inS j o' t hj hs' hmj) ht
      · have h5 := s4 j o' t hj hmj (hall' j o' hj) hs'
        have htl : t < a.tmps.size := hB.lt j o' t hj hs'
        simp only [Act.eval, Array.getD_eq_getD_getElem?] at h5
        rw [Array.getElem?_eq_getElem (by omega), Array.getElem?_eq_getElem (by omega)] at h5 ⊢
        simpa using h5
    · rw [s6 t (fun j o' hj _ hs' => hw ⟨j, o', hj, hs'⟩), outD t (fun j o' hj _ hs' => hw ⟨j, o', hj, hs'⟩)]
      exact (ha0.same t ht).symm
end Go.Proofs.Ytlmmincpjflkdaa

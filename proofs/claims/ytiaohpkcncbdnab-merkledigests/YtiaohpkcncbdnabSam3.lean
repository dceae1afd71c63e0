/- As XSame, with a tail: behind the chain operations that look at their operands alone, in whatever order. -/
import Derived.Test.YtiaohpkcncbdnabSame
namespace Go.Proofs.Ytiaohpkcncbdnab
open Go.RowKit
set_option linter.unusedVariables false

theorem wpQuiet_some {P : Program} {ops : Array Oper} {C : World → Prop} {Post : Act → Prop} : ∀ (l : List Oper) (a : Act), wpQuiet P ops C Post l a → ∃ A, Post A ∧ wpQuiet P ops C (fun a' => a' = A) l a
  | [], a, h => ⟨a, h, rfl⟩
  | o :: l, a, h => by
    unfold wpQuiet at h
    by_cases hw : Region.wanted o (yielded ops a.tmps) = true
    · rw [if_pos hw] at h
      obtain ⟨v, hv, hn⟩ := h
      obtain ⟨A, h1, h2⟩ := wpQuiet_some l _ hn
      refine ⟨A, h1, ?_⟩
      unfold wpQuiet
      rw [if_pos hw]
      exact ⟨v, hv, h2⟩
    · rw [if_neg hw] at h
      obtain ⟨A, h1, h2⟩ := wpQuiet_some l _ h
      refine ⟨A, h1, ?_⟩
      unfold wpQuiet
      rw [if_neg hw]
      exact h2

/-- the tail, walked in the order of the text -/
def TailQ (P : Program) (ops : Array Oper) (tail : List Oper) (Q : Exit → Act → World → Prop) : Exit → Act → World → Prop
  | .normal, b, w => wpQuiet P ops (fun x => x = w) (fun a' => Q .normal a' w) tail b
  | _, _, _ => False

def lateThree (l : List Oper) (k m : Nat) : Bool := (List.range l.length).all fun i => decide (i < k) || (List.range (min i m)).all fun j => ((reachTbl l)[i]?.getD []).contains j
theorem lateThree_spec {l : List Oper} {k m : Nat} (h : lateThree l k m = true) {f : Nat → Bool} (hall : ∀ (i : Nat) (o : Oper), l[i]? = some o → f i = true → ∀ e ∈ o.after, Region.binds .any e = true → f e.on = true)
    {i : Nat} {o : Oper} (ho : l[i]? = some o) (hi : k ≤ i) (hd : ∀ e ∈ o.after, Region.binds .any e = true → f e.on = true) {j : Nat} (hj : j < i) (hjm : j < m) : f j = true := by
  have h1 := List.all_eq_true.1 h i (List.mem_range.2 (List.getElem?_eq_some_iff.1 ho).1)
  rw [decide_eq_false (by omega), Bool.false_or] at h1
  have h2 := List.all_eq_true.1 h1 j (List.mem_range.2 (by omega))
  rw [List.contains_iff_mem] at h2
  cases hq : (reachTbl l)[i]? with
  | none => rw [hq] at h2; cases h2
  | some m' =>
    rw [hq] at h2
    exact reach_good l f hall l [] [] rfl rfl (fun i m h => by simp at h) i m' hq o ho hd j h2

def spreadOk3 (l : List Oper) (gs : List (Nat × Bool)) (k ka kb pa pb m n : Nat) : Bool :=
  topOkB l.toArray && Region.noSelect l.toArray && decide (ka < kb) && decide (kb < k) && decide (k < m) && decide (m ≤ l.length) && ((l[ka]?).bind (·.dst) == some pa) && ((l[kb]?).bind (·.dst) == some pb) && lateThree l k m &&
  ((List.range l.length).all fun i => match l[i]? with
    | some o => (match o.dst with | some s => decide (s < n) | none => true) && (decide (k ≤ i) || match o.guard with | none => true | some (g, b) => (o.after.any fun e => e.on == g && Region.binds .any e) && decide (g < k) && !(g == ka) && !(g == kb) && (match (l[g]?).bind (·.dst) with | some d => gs.contains (d, b) | none => false)) && (decide (i < m) || o.guard.isNone) &&
      ((List.range l.length).all fun j => match l[j]? with
        | some o' => (i == j || (match o.dst with | some s => !(o'.dst == some s) | none => true)) && (decide (k ≤ i) || o.op.operands.all fun x => match x with
            | .tmp s => !(o'.dst == some s) || ((o.after.any fun e => e.on == j && Region.binds .any e) && decide (j < k) && !(j == ka) && !(j == kb))
            | _ => true) && (decide (i < m) || decide (j < m) || o.op.operands.all fun x => match x with
            | .tmp s => !(o'.dst == some s) || (o.after.any fun e => e.on == j && Region.binds .any e)
            | _ => true)
        | none => true)
    | none => true)
structure SpreadOk3 (l : List Oper) (gs : List (Nat × Bool)) (k ka kb pa pb m n : Nat) : Prop where
  top : topOkB l.toArray = true
  sel : Region.noSelect l.toArray = true
  ab : ka < kb
  bk : kb < k
  km : k < m
  ml : m ≤ l.length
  da : (l[ka]?).bind (·.dst) = some pa
  db : (l[kb]?).bind (·.dst) = some pb
  late : lateThree l k m = true
  lt : ∀ (i : Nat) (o : Oper) (s : Nat), l[i]? = some o → o.dst = some s → s < n
  guard : ∀ (i : Nat) (o : Oper) (g : Nat) (b : Bool), l[i]? = some o → i < k → o.guard = some (g, b) → (∃ e ∈ o.after, e.on = g ∧ Region.binds .any e = true) ∧ g < k ∧ g ≠ ka ∧ g ≠ kb ∧ ∃ d, (l[g]?).bind (·.dst) = some d ∧ (d, b) ∈ gs
  free : ∀ (i : Nat) (o : Oper), l[i]? = some o → m ≤ i → o.guard = none
  one : ∀ (i j : Nat) (o o' : Oper) (s : Nat), l[i]? = some o → l[j]? = some o' → o.dst = some s → o'.dst = some s → i = j
  reads : ∀ (i j : Nat) (o o' : Oper) (s : Nat), l[i]? = some o → l[j]? = some o' → i < k → Operand.tmp s ∈ o.op.operands → o'.dst = some s → (∃ e ∈ o.after, e.on = j ∧ Region.binds .any e = true) ∧ j < k ∧ j ≠ ka ∧ j ≠ kb
  tail : ∀ (i j : Nat) (o o' : Oper) (s : Nat), l[i]? = some o → l[j]? = some o' → m ≤ i → m ≤ j → Operand.tmp s ∈ o.op.operands → o'.dst = some s → ∃ e ∈ o.after, e.on = j ∧ Region.binds .any e = true
theorem spreadOk3_spec {l : List Oper} {gs : List (Nat × Bool)} {k ka kb pa pb m n : Nat} (h : spreadOk3 l gs k ka kb pa pb m n = true) : SpreadOk3 l gs k ka kb pa pb m n := by
  unfold spreadOk3 at h
  simp only [Bool.and_eq_true, decide_eq_true_eq, beq_iff_eq] at h
  obtain ⟨⟨⟨⟨⟨⟨⟨⟨⟨h1, h2⟩, h3⟩, h4⟩, h5⟩, h5'⟩, h6⟩, h7⟩, h8⟩, h9⟩ := h
  have key := fun (i : Nat) (o : Oper) (ho : l[i]? = some o) => by
    have a1 := List.all_eq_true.1 h9 i (List.mem_range.2 (List.getElem?_eq_some_iff.1 ho).1)
    rw [ho] at a1
    simp only [Bool.and_eq_true] at a1
    exact a1
  have key2 := fun (i : Nat) (o : Oper) (ho : l[i]? = some o) (j : Nat) (o' : Oper) (hj : l[j]? = some o') => by
    have a2 := List.all_eq_true.1 (key i o ho).2 j (List.mem_range.2 (List.getElem?_eq_some_iff.1 hj).1)
    rw [hj] at a2
    simp only [Bool.and_eq_true] at a2
    exact a2
  refine ⟨h1, h2, h3, h4, h5, h5', h6, h7, h8, ?_, ?_, ?_, ?_, ?_, ?_⟩
  · intro i o s ho hs
    have := (key i o ho).1.1.1
    rw [hs] at this
    exact of_decide_eq_true this
  · intro i o g b ho hik hg
    have := (key i o ho).1.1.2
    rw [decide_eq_false (by omega), Bool.false_or, hg] at this
    simp only [Bool.and_eq_true, Array.any_eq_true', beq_iff_eq, decide_eq_true_eq, Bool.not_eq_true', beq_eq_false_iff_ne] at this
    obtain ⟨⟨⟨⟨⟨e, he, e1, e2⟩, h11⟩, h12⟩, h13⟩, h14⟩ := this
    refine ⟨⟨e, he, e1, e2⟩, h11, h12, h13, ?_⟩
    cases hd : (l[g]?).bind (·.dst) with
    | none => rw [hd] at h14; cases h14
    | some d =>
      rw [hd] at h14
      exact ⟨d, rfl, by simpa using h14⟩
  · intro i o ho him
    have := (key i o ho).1.2
    rw [decide_eq_false (by omega), Bool.false_or] at this
    simpa using this
  · intro i j o o' s ho hj hs hs'
    have := (key2 i o ho j o' hj).1.1
    rw [hs, hs'] at this
    simp at this
    exact this
  · intro i j o o' s ho hj hik hx hs'
    have := (key2 i o ho j o' hj).1.2
    rw [decide_eq_false (by omega), Bool.false_or] at this
    have := (Array.all_eq_true'.1 this) _ hx
    simp only [hs', beq_self_eq_true, Bool.not_true, Bool.false_or, Bool.and_eq_true, Array.any_eq_true', beq_iff_eq, decide_eq_true_eq, Bool.not_eq_true', beq_eq_false_iff_ne] at this
    obtain ⟨⟨⟨⟨e, he, e1, e2⟩, h11⟩, h12⟩, h13⟩ := this
    exact ⟨⟨e, he, e1, e2⟩, h11, h12, h13⟩
  · intro i j o o' s ho hj him hjm hx hs'
    have := (key2 i o ho j o' hj).2
    rw [decide_eq_false (by omega), decide_eq_false (by omega), Bool.false_or, Bool.false_or] at this
    have := (Array.all_eq_true'.1 this) _ hx
    simp only [hs', beq_self_eq_true, Bool.not_true, Bool.false_or, Array.any_eq_true', Bool.and_eq_true, beq_iff_eq] at this
    obtain ⟨e, he, e1, e2⟩ := this
    exact ⟨e, he, e1, e2⟩

theorem wp_region_same3 {P : Program} {id : Nat} {Q : Exit → Act → World → Prop} {a : Act} {w : World} {l : List Oper} (gs : List (Nat × Bool)) (k ka kb pa pb m : Nat) (A : Act) (Ra Rb : Value → World → Prop)
    (hm : P.follows .mixedOrders = true) (hok : spreadOk3 l gs k ka kb pa pb m a.tmps.size = true)
    (hra : ∀ v w w', Ra v w → Below w.heap.size w w' → Ra v w') (hrb : ∀ v w w', Rb v w → Below w.heap.size w w' → Rb v w')
    (hlex : ∀ x : Gb w, wpQuiet P l.toArray (fun w' => ∃ y : Gb x.w, w' = y.w) (fun a' => a' = A) (boxRest (l.take k) ka kb) a)
    (hgA : ∀ g ∈ gs, A.eval (.tmp g.1) = .bool g.2)
    (hsa : ∀ o, l[ka]? = some o → ∀ (x : Gb w) (b : Act), (∀ y ∈ o.op.operands, b.eval y = A.eval y) → o.wp P b x.w (fun b' w' => ∃ v, b' = b.put o.dst v ∧ Ra v w' ∧ Below x.w.heap.size x.w w') Q)
    (hsb : ∀ o, l[kb]? = some o → ∀ (x : Gb w) (b : Act), (∀ y ∈ o.op.operands, b.eval y = A.eval y) → o.wp P b x.w (fun b' w' => ∃ v, b' = b.put o.dst v ∧ Rb v w' ∧ Below x.w.heap.size x.w w') Q)
    (fin : ∀ (va vb : Value) (w' : World), Below w.heap.size w w' → Ra va w' → Rb vb w' → wpList P l.toArray (OnlyN (TailQ P l.toArray (l.drop m) Q)) ((l.take m).drop k) ((A.put (some pa) va).put (some pb) vb) w') : (Code.region id l.toArray true).wp P Q a w := by
  have hB := spreadOk3_spec hok
  have htop' := topOkB_spec hB.top
  have arr : ∀ i : Nat, l.toArray[i]? = l[i]? := fun i => by rw [List.getElem?_toArray]
  have hsel : ∀ (o : Oper) cs b, o ∈ l.toArray → o.op ≠ .select cs b := by
    intro o cs b ho
    obtain ⟨j, hj⟩ := Array.getElem?_of_mem ho
    exact Region.noSelect_spec hB.sel j o cs b hj
  have hgk : ∀ (i : Nat) (o : Oper), l[i]? = some o → i < k → GuardOk l.toArray A o := by
    intro i o ho hik
    cases hg : o.guard with
    | none => exact .inl hg
    | some g =>
      obtain ⟨_, _, _, _, d, h1, h2⟩ := hB.guard i o g.1 g.2 ho hik hg
      exact .inr ⟨g.1, g.2, d, hg, by rw [arr]; exact h1, hgA (d, g.2) h2⟩
  have hsub : (boxRest (l.take k) ka kb).Sublist (l.take k) := boxRest_sub _ _ _
  have intk : ∀ (i : Nat) (o : Oper), (l.take k)[i]? = some o → l[i]? = some o ∧ i < k := by
    intro i o h
    rw [List.getElem?_take] at h
    split at h
    · rename_i h'; exact ⟨h, h'⟩
    · cases h
  have idx : ∀ o ∈ boxRest (l.take k) ka kb, ∃ i : Nat, l[i]? = some o ∧ i < k := by
    intro o ho
    obtain ⟨i, hi⟩ := List.getElem?_of_mem (hsub.subset ho)
    exact ⟨i, (intk i o hi).1, (intk i o hi).2⟩
  have goff : ∀ (i j : Nat) (o o' : Oper), l[i]? = some o → l[j]? = some o' → i < k → i ≤ j → GuardOff l.toArray o o'.dst := by
    intro i j o o' ho hj hik hij g b d hg hd hs
    obtain ⟨⟨e, he, e1, e2⟩, h2, _⟩ := hB.guard i o g b ho hik hg
    have h3 := htop' i o (by rw [arr]; exact ho) e he e2
    rw [arr] at hd
    cases hq : l[g]? with
    | none => rw [hq] at hd; cases hd
    | some og =>
      rw [hq] at hd
      have := hB.one g j og o' d hq hj hd hs
      omega
  have hpw : (l.take k).Pairwise (fun o o' => (∀ s, o.dst = some s → o'.dst ≠ some s) ∧ (∀ s, Operand.tmp s ∈ o.op.operands → o'.dst ≠ some s) ∧ GuardOff l.toArray o o'.dst) := by
    rw [List.pairwise_iff_getElem]
    intro i j h1 h2 hij
    obtain ⟨e1, k1⟩ := intk i _ (List.getElem?_eq_getElem h1)
    obtain ⟨e2, k2⟩ := intk j _ (List.getElem?_eq_getElem h2)
    refine ⟨fun s hs hs' => ?_, fun s hs hs' => ?_, goff i j _ _ e1 e2 k1 (Nat.le_of_lt hij)⟩
    · have := hB.one i j _ _ s e1 e2 hs hs'
      omega
    · obtain ⟨⟨e, he, h3, h4⟩, _⟩ := hB.reads i j _ _ s e1 e2 k1 hs hs'
      have := htop' i _ (by rw [arr]; exact e1) e he h4
      omega
  have hself : ∀ o ∈ boxRest (l.take k) ka kb, (∀ s, Operand.tmp s ∈ o.op.operands → o.dst ≠ some s) ∧ GuardOff l.toArray o o.dst := by
    intro o ho
    obtain ⟨i, e1, k1⟩ := idx o ho
    refine ⟨fun s hs hs' => ?_, goff i i o o e1 e1 k1 (Nat.le_refl _)⟩
    obtain ⟨⟨e, he, h3, h4⟩, _⟩ := hB.reads i i _ _ s e1 e1 k1 hs hs'
    have := htop' i _ (by rw [arr]; exact e1) e he h4
    omega
  have lex := fun x : Gb w => lex_lastG (P := P) (ops := l.toArray) (C := fun w' => ∃ y : Gb x.w, w' = y.w) (A := A) hsel (boxRest (l.take k) ka kb) a (fun o ho => by obtain ⟨i, hi, _⟩ := idx o ho; simpa using List.mem_of_getElem? hi) (fun o ho => by obtain ⟨i, hi, h'⟩ := idx o ho; exact hgk i o hi h') (fun o ho s hs => by obtain ⟨i, hi, _⟩ := idx o ho; exact hB.lt i o s hi hs) (hpw.sublist hsub) hself (hlex x)
  obtain ⟨sz, df, out, _⟩ := lex ⟨w, Below.refl _ _⟩
  have inrest : ∀ (j : Nat) (o : Oper), l[j]? = some o → j < k → j ≠ ka → j ≠ kb → o ∈ boxRest (l.take k) ka kb := by
    intro j o hj hjk h1 h2
    exact boxRest_mem hB.ab (by rw [List.getElem?_take, if_pos hjk]; exact hj) h1 h2
  -- a slot that no operation of the beginning but the two writes
  have out' : ∀ s, (∀ (j : Nat) (o : Oper), l[j]? = some o → j < k → j ≠ ka → j ≠ kb → o.dst ≠ some s) → A.tmps[s]? = a.tmps[s]? := by
    intro s hs
    refine out s (fun o ho hd => ?_)
    unfold boxRest at ho
    obtain ⟨j, hj1, hj2⟩ := List.mem_eraseIdx_iff_getElem?.1 ho
    by_cases hlt : j < kb
    · rw [List.getElem?_eraseIdx, if_pos hlt] at hj2
      obtain ⟨e1, e2⟩ := intk _ _ hj2
      exact hs j o e1 e2 hj1 (by omega) hd
    · rw [List.getElem?_eraseIdx, if_neg hlt] at hj2
      obtain ⟨e1, e2⟩ := intk _ _ hj2
      exact hs (j + 1) o e1 e2 (by have := hB.ab; omega) (by omega) hd
  have hkm := hB.km
  have hml := hB.ml
  have tailIdx : ∀ (i : Nat) (o : Oper), l[i]? = some o → m ≤ i → (l.drop m)[i - m]? = some o := by
    intro i o ho hi
    rw [List.getElem?_drop, show m + (i - m) = i by omega]
    exact ho
  have tailMem : ∀ o ∈ l.drop m, ∃ i : Nat, l[i]? = some o ∧ m ≤ i := by
    intro o ho
    obtain ⟨i, hi⟩ := List.getElem?_of_mem ho
    rw [List.getElem?_drop] at hi
    exact ⟨m + i, hi, by omega⟩
  -- what the walk of the tail shows
  have tailW : ∀ (b : Act) (wx : World), b.tmps.size = a.tmps.size → wpQuiet P l.toArray (fun x => x = wx) (fun a' => Q .normal a' wx) (l.drop m) b → ∃ A3 : Act, Q .normal A3 wx ∧ A3.tmps.size = b.tmps.size ∧ A3.defers = b.defers ∧ (∀ t, (∀ (j : Nat) (o : Oper), l[j]? = some o → m ≤ j → o.dst ≠ some t) → A3.tmps[t]? = b.tmps[t]?) ∧ ∀ (j : Nat) (o : Oper), l[j]? = some o → m ≤ j → ∃ v, (∀ t, o.dst = some t → A3.eval (.tmp t) = v) ∧ o.quietAt P A3 (fun x => x = wx) wx v := by
    intro b wx hsz hq
    obtain ⟨A3, h1, h2⟩ := wpQuiet_some _ _ hq
    obtain ⟨g1, g2, g3, g4⟩ := lex_lastG (P := P) (ops := l.toArray) (C := fun x => x = wx) (A := A3) hsel (l.drop m) b (fun o ho => by obtain ⟨i, hi, _⟩ := tailMem o ho; simpa using List.mem_of_getElem? hi) (fun o ho => by obtain ⟨i, hi, h'⟩ := tailMem o ho; exact .inl (hB.free i o hi h')) (fun o ho s hs => by obtain ⟨i, hi, _⟩ := tailMem o ho; rw [hsz]; exact hB.lt i o s hi hs)
      (by
        rw [List.pairwise_iff_getElem]
        intro i j h3 h4 hij
        have e1 : l[m + i]? = some (l.drop m)[i] := by rw [← List.getElem?_drop]; exact List.getElem?_eq_getElem h3
        have e2 : l[m + j]? = some (l.drop m)[j] := by rw [← List.getElem?_drop]; exact List.getElem?_eq_getElem h4
        refine ⟨fun s hs hs' => ?_, fun s hs hs' => ?_, fun g' b' d' hg' _ => ?_⟩
        · have := hB.one _ _ _ _ s e1 e2 hs hs'
          omega
        · obtain ⟨e, he, h5, h6⟩ := hB.tail _ _ _ _ s e1 e2 (by omega) (by omega) hs hs'
          have := htop' _ _ (by rw [arr]; exact e1) e he h6
          omega
        · rw [hB.free _ _ e1 (by omega)] at hg'
          cases hg')
      (by
        intro o ho
        obtain ⟨i, hi, h'⟩ := tailMem o ho
        refine ⟨fun s hs hs' => ?_, fun g' b' d' hg' _ => ?_⟩
        · obtain ⟨e, he, h5, h6⟩ := hB.tail i i o o s hi hi h' h' hs hs'
          have := htop' i o (by rw [arr]; exact hi) e he h6
          omega
        · rw [hB.free i o hi h'] at hg'
          cases hg') h2
    refine ⟨A3, h1, g1, g2, fun t ht => g3 t (fun o ho hs => by obtain ⟨i, hi, h'⟩ := tailMem o ho; exact ht i o hi h' hs), fun j o hj hm' => ?_⟩
    obtain ⟨v, v1, v2⟩ := g4 o (List.mem_of_getElem? (tailIdx j o hj hm'))
    exact ⟨v, v1, v2 wx rfl⟩
  refine wp_region_invB hm htop' (fun f b wx => b.tmps.size = A.tmps.size ∧
    (∀ (i : Nat) (o : Oper), l[i]? = some o → f i = true → ∀ e ∈ o.after, Region.binds .any e = true → f e.on = true) ∧
    ∃ s, s ≤ m - k ∧ (∀ i, k ≤ i → i < m → (f i = true ↔ i < k + s)) ∧
      (s = 0 → b.defers = A.defers ∧ Below w.heap.size w wx ∧
        (∀ (j : Nat) (o : Oper) (t : Nat), l[j]? = some o → j < k → j ≠ ka → j ≠ kb → f j = true → o.dst = some t → b.eval (.tmp t) = A.eval (.tmp t)) ∧
        (∀ t, (∀ (j : Nat) (o : Oper), l[j]? = some o → j < k → f j = true → o.dst ≠ some t) → b.tmps[t]? = a.tmps[t]?) ∧
        (f ka = true → Ra (b.eval (.tmp pa)) wx) ∧ (f kb = true → Rb (b.eval (.tmp pb)) wx)) ∧
      (0 < s → ∀ j, j < k → f j = true) ∧
      (0 < s → s < m - k → wpList P l.toArray (OnlyN (TailQ P l.toArray (l.drop m) Q)) ((l.take m).drop (k + s)) b wx) ∧
      (s = m - k → ∃ b0 A3 : Act, Q .normal A3 wx ∧ A3.tmps.size = b.tmps.size ∧ A3.defers = b.defers ∧ (∀ t, (∀ (j : Nat) (o : Oper), l[j]? = some o → m ≤ j → o.dst ≠ some t) → A3.tmps[t]? = b0.tmps[t]?) ∧ (∀ (j : Nat) (o : Oper), l[j]? = some o → m ≤ j → ∃ v, (∀ t, o.dst = some t → A3.eval (.tmp t) = v) ∧ o.quietAt P A3 (fun x => x = wx) wx v) ∧
        (∀ (j : Nat) (o : Oper) (t : Nat), l[j]? = some o → m ≤ j → f j = true → o.dst = some t → b.eval (.tmp t) = A3.eval (.tmp t)) ∧ (∀ t, (∀ (j : Nat) (o : Oper), l[j]? = some o → m ≤ j → f j = true → o.dst ≠ some t) → b.tmps[t]? = b0.tmps[t]?))) ?start ?step ?fin
  case start =>
    refine ⟨sz.symm, fun i o _ h => (by cases h), 0, by omega, fun i hi _ => ?_, fun _ => ⟨df.symm, (Below.refl _ _).drew, fun j o t _ _ _ _ h => (by cases h), fun t _ => rfl, fun h => (by cases h), fun h => (by cases h)⟩, fun h => absurd h (by omega), fun h => absurd h (by omega), fun h => absurd h (by omega)⟩
    constructor
    · intro h; cases h
    · intro h; omega
  case step =>
    rintro f b wx i o ⟨s1, s9, s, s0, s4, s7, s8, s10, s11⟩ ho hf hd
    rw [arr] at ho
    have hil := (List.getElem?_eq_some_iff.1 ho).1
    have u1 : upd f i i = true := by simp [upd]
    have u2 : ∀ j, j ≠ i → upd f i j = f j := fun j hj => by simp [upd, hj]
    have u3 : ∀ j, f j = true → upd f i j = true := fun j hj => by
      by_cases e : j = i
      · rw [e]; exact u1
      · rw [u2 j e]; exact hj
    have closed : ∀ (i' : Nat) (o' : Oper), l[i']? = some o' → upd f i i' = true → ∀ e ∈ o'.after, Region.binds .any e = true → upd f i e.on = true := by
      intro i' o' a2 a3 e he hb
      by_cases ei : i' = i
      · subst ei
        rw [ho] at a2
        obtain rfl := Option.some.inj a2
        exact u3 _ (hd e he hb)
      · rw [u2 i' ei] at a3
        exact u3 _ (s9 i' o' a2 a3 e he hb)
    by_cases hik : i < k
    · -- an operation of the beginning
      have hs0 : s = 0 := by
        rcases Nat.eq_zero_or_pos s with h | h
        · exact h
        · rw [s8 h i hik] at hf; cases hf
      obtain ⟨t1, t2, t3, t4, t5, t6⟩ := s7 hs0
      have rd : ∀ t, Operand.tmp t ∈ o.op.operands → b.eval (.tmp t) = A.eval (.tmp t) := by
        intro t ht
        by_cases hw : ∃ (j : Nat) (o' : Oper), l[j]? = some o' ∧ o'.dst = some t
        · obtain ⟨j, o', hj, hs'⟩ := hw
          obtain ⟨⟨e, he, h3, h4⟩, h5, h6, h7⟩ := hB.reads i j o o' t ho hj hik ht hs'
          have hfj := hd e he h4
          rw [h3] at hfj
          exact t3 j o' t hj h5 h6 h7 hfj hs'
        · refine eval_of_tmps ?_
          rw [t4 t (fun j o' hj _ _ hs' => hw ⟨j, o', hj, hs'⟩), out' t (fun j o' hj _ _ _ hs' => hw ⟨j, o', hj, hs'⟩)]
      have rdy : ∀ y ∈ o.op.operands, b.eval y = A.eval y := by
        intro y hy
        cases y with
        | tmp t => exact rd t hy
        | _ => rfl
      have hwant : Region.wanted o (yielded l.toArray b.tmps) = true := by
        cases hg : o.guard with
        | none => unfold Region.wanted; rw [hg]
        | some g =>
          obtain ⟨⟨e, he, e1, e2⟩, h2, h3, h4, d, h5, h6⟩ := hB.guard i o g.1 g.2 ho hik hg
          refine wanted_at g.1 d g.2 hg (by rw [arr]; exact h5) ?_
          cases hq : l[g.1]? with
          | none => rw [hq] at h5; cases h5
          | some og =>
            rw [hq] at h5
            have hfj := hd e he e2
            rw [e1] at hfj
            rw [t3 g.1 og d hq h2 h3 h4 hfj h5]
            exact hgA (d, g.2) h6
      have pas : ∀ (b : Act) (v : Value) (t : Nat), o.dst ≠ some t → (b.put o.dst v).eval (.tmp t) = b.eval (.tmp t) := fun b v t h => eval_of_tmps (put_tmps_ne _ _ _ _ h)
      have same : ∀ (b : Act) (v : Value) (t : Nat), o.dst = some t → t < b.tmps.size → (b.put o.dst v).eval (.tmp t) = v := by
        intro b v t h hl
        rw [h]
        simp only [Act.eval, Array.getD_eq_getD_getElem?]
        rw [put_tmps_same _ _ _ hl]
        rfl
      have tlt : ∀ t, o.dst = some t → t < b.tmps.size := fun t h => by rw [s1, sz]; exact hB.lt i o t ho h
      -- what is kept, whatever the value
      have keep : ∀ (v : Value) (w' : World), Below wx.heap.size wx w' →
          (i ≠ ka → i ≠ kb → ∀ t, o.dst = some t → A.eval (.tmp t) = v) → (i = ka → Ra v w') → (i = kb → Rb v w') →
          (b.put o.dst v).tmps.size = A.tmps.size ∧ (∀ (i' : Nat) (o' : Oper), l[i']? = some o' → upd f i i' = true → ∀ e ∈ o'.after, Region.binds .any e = true → upd f i e.on = true) ∧
          ∃ s, s ≤ m - k ∧ (∀ i', k ≤ i' → i' < m → (upd f i i' = true ↔ i' < k + s)) ∧
            (s = 0 → (b.put o.dst v).defers = A.defers ∧ Below w.heap.size w w' ∧
              (∀ (j : Nat) (o' : Oper) (t : Nat), l[j]? = some o' → j < k → j ≠ ka → j ≠ kb → upd f i j = true → o'.dst = some t → (b.put o.dst v).eval (.tmp t) = A.eval (.tmp t)) ∧
              (∀ t, (∀ (j : Nat) (o' : Oper), l[j]? = some o' → j < k → upd f i j = true → o'.dst ≠ some t) → (b.put o.dst v).tmps[t]? = a.tmps[t]?) ∧
              (upd f i ka = true → Ra ((b.put o.dst v).eval (.tmp pa)) w') ∧ (upd f i kb = true → Rb ((b.put o.dst v).eval (.tmp pb)) w')) ∧
            (0 < s → ∀ j, j < k → upd f i j = true) ∧
            (0 < s → s < m - k → wpList P l.toArray (OnlyN (TailQ P l.toArray (l.drop m) Q)) ((l.take m).drop (k + s)) (b.put o.dst v) w') ∧
            (s = m - k → ∃ b0 A3 : Act, Q .normal A3 w' ∧ A3.tmps.size = (b.put o.dst v).tmps.size ∧ A3.defers = (b.put o.dst v).defers ∧ (∀ t, (∀ (j : Nat) (o : Oper), l[j]? = some o → m ≤ j → o.dst ≠ some t) → A3.tmps[t]? = b0.tmps[t]?) ∧ (∀ (j : Nat) (o : Oper), l[j]? = some o → m ≤ j → ∃ v, (∀ t, o.dst = some t → A3.eval (.tmp t) = v) ∧ o.quietAt P A3 (fun x => x = w') w' v) ∧
              (∀ (j : Nat) (o' : Oper) (t : Nat), l[j]? = some o' → m ≤ j → upd f i j = true → o'.dst = some t → (b.put o.dst v).eval (.tmp t) = A3.eval (.tmp t)) ∧ (∀ t, (∀ (j : Nat) (o' : Oper), l[j]? = some o' → m ≤ j → upd f i j = true → o'.dst ≠ some t) → (b.put o.dst v).tmps[t]? = b0.tmps[t]?)) := by
        intro v w' hb' hv hva hvb
        refine ⟨by rw [put_size]; exact s1, closed, 0, Nat.zero_le _, fun i' h1 h2 => by rw [u2 i' (by omega)]; have := s4 i' h1 h2; rw [hs0] at this; exact this, fun _ => ⟨by rw [put_defers]; exact t1, t2.trans (hb'.mono t2.size), ?_, ?_, ?_, ?_⟩, fun h => absurd h (Nat.lt_irrefl 0), fun h => absurd h (Nat.lt_irrefl 0), fun h => absurd h (Nat.ne_of_lt (Nat.sub_pos_of_lt hkm))⟩
        · intro j o' t hj hjk h1 h2 h3 h4
          by_cases ej : j = i
          · subst ej
            rw [ho] at hj
            obtain rfl := Option.some.inj hj
            rw [same b v t h4 (tlt t h4), hv h1 h2 t h4]
          · rw [u2 j ej] at h3
            rw [pas b v t (fun h => ej (hB.one j i o' o t hj ho h4 h))]
            exact t3 j o' t hj hjk h1 h2 h3 h4
        · intro t ht
          rw [put_tmps_ne _ _ _ _ (ht i o ho hik u1)]
          exact t4 t (fun j o' hj hjk h3 => ht j o' hj hjk (u3 _ h3))
        · intro h3
          cases hq : l[ka]? with
          | none => have := hB.da; rw [hq] at this; cases this
          | some oa =>
            have hda := hB.da
            rw [hq] at hda
            by_cases ei : i = ka
            · subst ei
              rw [ho] at hq
              obtain rfl := Option.some.inj hq
              rw [same b v pa hda (tlt pa hda)]
              exact hva rfl
            · rw [u2 ka (fun h => ei h.symm)] at h3
              rw [pas b v pa (fun h => ei (hB.one i ka o oa pa ho hq h hda))]
              exact hra _ _ _ (t5 h3) hb'
        · intro h3
          cases hq : l[kb]? with
          | none => have := hB.db; rw [hq] at this; cases this
          | some ob =>
            have hdb := hB.db
            rw [hq] at hdb
            by_cases ei : i = kb
            · subst ei
              rw [ho] at hq
              obtain rfl := Option.some.inj hq
              rw [same b v pb hdb (tlt pb hdb)]
              exact hvb rfl
            · rw [u2 kb (fun h => ei h.symm)] at h3
              rw [pas b v pb (fun h => ei (hB.one i kb o ob pb ho hq h hdb))]
              exact hrb _ _ _ (t6 h3) hb'
      refine ⟨fun _ => ?_, fun hw => by rw [hwant] at hw; cases hw⟩
      by_cases ea : i = ka
      · refine Oper.wp_mono ?_ (hsa o (by rw [← ea]; exact ho) ⟨wx, t2⟩ b rdy)
        rintro b' w' ⟨v, rfl, hR, hb'⟩
        exact keep v w' hb' (fun h => absurd ea h) (fun _ => hR) (fun h => by have := hB.ab; omega)
      by_cases eb : i = kb
      · refine Oper.wp_mono ?_ (hsb o (by rw [← eb]; exact ho) ⟨wx, t2⟩ b rdy)
        rintro b' w' ⟨v, rfl, hR, hb'⟩
        exact keep v w' hb' (fun _ h => absurd eb h) (fun h => absurd h ea) (fun _ => hR)
      obtain ⟨_, _, _, each⟩ := lex ⟨wx, t2⟩
      obtain ⟨v, hv1, hv2⟩ := each o (inrest i o ho hik ea eb)
      have hquiet : o.quiet P b (fun w' => ∃ y : Gb wx, w' = y.w) (fun c => c = b.put o.dst v) := ⟨v, fun w' hw' => by
        have := hv2 w' hw'
        unfold Oper.quietAt at this ⊢
        rwa [execOp_congr o (fun cs' b' => hsel o cs' b' (by simpa using List.mem_of_getElem? ho)) (ρ := b.eval) (ρ' := A.eval) rdy], rfl⟩
      refine Oper.wp_of_quiet (C := fun w' => ∃ y : Gb wx, w' = y.w) ⟨⟨wx, Below.refl _ _⟩, rfl⟩ ?_ hquiet
      rintro c w' ⟨⟨_, hb'⟩, rfl⟩ rfl
      exact keep v _ hb' (fun _ _ t ht => hv1 t ht) (fun h => absurd h ea) (fun h => absurd h eb)
    by_cases him : i < m
    · -- the next of the chain
      have hki : k ≤ i := by omega
      have before : ∀ j, j < i → f j = true := fun j hj => lateThree_spec hB.late s9 ho hki hd hj (by omega)
      have his : i = k + s := by
        rcases Nat.lt_trichotomy i (k + s) with h | h | h
        · rw [(s4 i hki him).2 h] at hf; cases hf
        · exact h
        · have := (s4 (k + s) (by omega) (by omega)).1 (before _ h)
          omega
      have hwl : wpList P l.toArray (OnlyN (TailQ P l.toArray (l.drop m) Q)) ((l.take m).drop i) b wx := by
        rcases Nat.eq_zero_or_pos s with hs0 | hs0
        · obtain ⟨t1, t2, t3, t4, t5, t6⟩ := s7 hs0
          have hka := hB.ab
          have hkb := hB.bk
          have hbeq : b = (A.put (some pa) (b.eval (.tmp pa))).put (some pb) (b.eval (.tmp pb)) := by
            have hpa : pa < A.tmps.size := by
              cases hq : l[ka]? with
              | none => have := hB.da; rw [hq] at this; cases this
              | some oa => have := hB.da; rw [hq] at this; rw [sz]; exact hB.lt ka oa pa hq this
            have hpb : pb < A.tmps.size := by
              cases hq : l[kb]? with
              | none => have := hB.db; rw [hq] at this; cases this
              | some ob => have := hB.db; rw [hq] at this; rw [sz]; exact hB.lt kb ob pb hq this
            obtain ⟨bt, bd⟩ := b
            obtain ⟨At, Ad⟩ := A
            simp only at t1 s1 hpa hpb
            subst t1
            simp only [Act.put, Act.mk.injEq, and_true]
            refine Array.ext_getElem? fun t => ?_
            by_cases e1 : pb = t
            · subst e1
              rw [Array.getElem?_setIfInBounds_self_of_lt (by simpa using hpb)]
              simp only [Act.eval, Array.getD_eq_getD_getElem?]
              rw [Array.getElem?_eq_getElem (by omega)]
              rfl
            rw [Array.getElem?_setIfInBounds_ne e1]
            by_cases e2 : pa = t
            · subst e2
              rw [Array.getElem?_setIfInBounds_self_of_lt hpa]
              simp only [Act.eval, Array.getD_eq_getD_getElem?]
              rw [Array.getElem?_eq_getElem (by omega)]
              rfl
            rw [Array.getElem?_setIfInBounds_ne e2]
            by_cases hw : ∃ (j : Nat) (o' : Oper), l[j]? = some o' ∧ j < k ∧ o'.dst = some t
            · obtain ⟨j, o', hj, hjk, hs'⟩ := hw
              have ja : j ≠ ka := by
                rintro rfl
                have := hB.da
                rw [hj] at this
                exact e2 (Option.some.inj (this.symm.trans hs'))
              have jb : j ≠ kb := by
                rintro rfl
                have := hB.db
                rw [hj] at this
                exact e1 (Option.some.inj (this.symm.trans hs'))
              have h5 := t3 j o' t hj hjk ja jb (before j (by omega)) hs'
              have htl : t < At.size := by
                have h := hB.lt j o' t hj hs'
                rw [← sz] at h
                exact h
              simp only [Act.eval, Array.getD_eq_getD_getElem?] at h5
              rw [Array.getElem?_eq_getElem (by omega), Array.getElem?_eq_getElem htl] at h5 ⊢
              simpa using h5
            · have h5 := t4 t (fun j o' hj hjk _ hs' => hw ⟨j, o', hj, hjk, hs'⟩)
              have h6 := out' t (fun j o' hj hjk _ _ hs' => hw ⟨j, o', hj, hjk, hs'⟩)
              exact h5.trans h6.symm
          rw [show i = k by omega]
          have := fin (b.eval (.tmp pa)) (b.eval (.tmp pb)) wx t2 (t5 (before ka (by omega))) (t6 (before kb (by omega)))
          rwa [← hbeq] at this
        · rw [his]
          exact s10 hs0 (by omega)
      rw [List.drop_eq_getElem_cons (l := l.take m) (i := i) (by rw [List.length_take]; omega)] at hwl
      have hoi : (l.take m)[i]'(by rw [List.length_take]; omega) = o := by rw [List.getElem_take]; exact (List.getElem?_eq_some_iff.1 ho).2
      rw [hoi] at hwl
      unfold wpList at hwl
      have next : ∀ (b' : Act) (w' : World), b'.tmps.size = b.tmps.size → wpList P l.toArray (OnlyN (TailQ P l.toArray (l.drop m) Q)) ((l.take m).drop (i + 1)) b' w' →
          b'.tmps.size = A.tmps.size ∧ (∀ (i' : Nat) (o' : Oper), l[i']? = some o' → upd f i i' = true → ∀ e ∈ o'.after, Region.binds .any e = true → upd f i e.on = true) ∧
          ∃ s, s ≤ m - k ∧ (∀ i', k ≤ i' → i' < m → (upd f i i' = true ↔ i' < k + s)) ∧
            (s = 0 → b'.defers = A.defers ∧ Below w.heap.size w w' ∧
              (∀ (j : Nat) (o' : Oper) (t : Nat), l[j]? = some o' → j < k → j ≠ ka → j ≠ kb → upd f i j = true → o'.dst = some t → b'.eval (.tmp t) = A.eval (.tmp t)) ∧
              (∀ t, (∀ (j : Nat) (o' : Oper), l[j]? = some o' → j < k → upd f i j = true → o'.dst ≠ some t) → b'.tmps[t]? = a.tmps[t]?) ∧
              (upd f i ka = true → Ra (b'.eval (.tmp pa)) w') ∧ (upd f i kb = true → Rb (b'.eval (.tmp pb)) w')) ∧
            (0 < s → ∀ j, j < k → upd f i j = true) ∧
            (0 < s → s < m - k → wpList P l.toArray (OnlyN (TailQ P l.toArray (l.drop m) Q)) ((l.take m).drop (k + s)) b' w') ∧
            (s = m - k → ∃ b0 A3 : Act, Q .normal A3 w' ∧ A3.tmps.size = b'.tmps.size ∧ A3.defers = b'.defers ∧ (∀ t, (∀ (j : Nat) (o : Oper), l[j]? = some o → m ≤ j → o.dst ≠ some t) → A3.tmps[t]? = b0.tmps[t]?) ∧ (∀ (j : Nat) (o : Oper), l[j]? = some o → m ≤ j → ∃ v, (∀ t, o.dst = some t → A3.eval (.tmp t) = v) ∧ o.quietAt P A3 (fun x => x = w') w' v) ∧
              (∀ (j : Nat) (o' : Oper) (t : Nat), l[j]? = some o' → m ≤ j → upd f i j = true → o'.dst = some t → b'.eval (.tmp t) = A3.eval (.tmp t)) ∧ (∀ t, (∀ (j : Nat) (o' : Oper), l[j]? = some o' → m ≤ j → upd f i j = true → o'.dst ≠ some t) → b'.tmps[t]? = b0.tmps[t]?)) := by
        intro b' w' h1 h2
        have notail : ∀ (j : Nat) (o' : Oper), l[j]? = some o' → m ≤ j → upd f i j = true → False := by
          intro j o' hj hmj hu
          rw [u2 j (by omega)] at hu
          have := lateThree_spec hB.late s9 hj (by omega) (s9 j o' hj hu) (show i < j by omega) him
          rw [hf] at this
          cases this
        refine ⟨h1.trans s1, closed, s + 1, by omega, fun i' a1 a2 => ?_, fun h => absurd h (by omega), fun _ j hj => u3 _ (before j (by omega)), fun _ _ => ?_, fun he => ?_⟩
        · by_cases e : i' = i
          · rw [e, u1]; constructor
            · intro _; omega
            · intro _; rfl
          · rw [u2 i' e, s4 i' a1 a2]
            omega
        · rw [show k + (s + 1) = i + 1 by omega]
          exact h2
        · rw [show (l.take m).drop (i + 1) = [] from List.drop_eq_nil_of_le (by rw [List.length_take]; omega)] at h2
          obtain ⟨A3, q1, q2, q3, q4, q5⟩ := tailW b' w' (h1.trans (s1.trans sz)) h2
          exact ⟨b', A3, q1, q2, q3, q4, q5, fun j o' t hj hmj hu => (notail j o' hj hmj hu).elim, fun t _ => rfl⟩
      refine ⟨fun hw => ?_, fun hw => ?_⟩
      · rw [if_pos hw] at hwl
        have hwp : o.wp P b wx (wpList P l.toArray (OnlyN (TailQ P l.toArray (l.drop m) Q)) ((l.take m).drop (i + 1))) (OnlyN (TailQ P l.toArray (l.drop m) Q)) := by
          rcases hwl with h | ⟨_, h⟩
          · exact h
          · exact absurd h (onlyN_out _)
        refine wp_swap rfl ?_ ?_ hwp
        · intro v w' hK
          exact next _ w' (put_size _ _ _) hK
        · intro d w' hK
          exact next _ w' (by rw [put_size]) hK
      · rw [if_neg (by rw [hw]; simp)] at hwl
        exact next _ wx (put_size _ _ _) hwl
    · -- one of the tail
      have hmi : m ≤ i := by omega
      have before : ∀ j, j < m → f j = true := fun j hj => lateThree_spec hB.late s9 ho (by omega) hd (by omega) hj
      have hsm : s = m - k := by
        rcases Nat.lt_or_ge s (m - k) with h | h
        · have := (s4 (k + s) (by omega) (by omega)).1 (before _ (by omega))
          omega
        · omega
      obtain ⟨b0, A3, q1, q2, q3, q4, q5, q6, q7⟩ := s11 hsm
      have rd : ∀ y ∈ o.op.operands, b.eval y = A3.eval y := by
        intro y hy
        cases y with
        | tmp t =>
          by_cases hw : ∃ (j : Nat) (o' : Oper), l[j]? = some o' ∧ m ≤ j ∧ o'.dst = some t
          · obtain ⟨j, o', hj, hmj, hs'⟩ := hw
            obtain ⟨e, he, h3, h4⟩ := hB.tail i j o o' t ho hj hmi hmj hy hs'
            have hfj := hd e he h4
            rw [h3] at hfj
            exact q6 j o' t hj hmj hfj hs'
          · refine eval_of_tmps ?_
            rw [q7 t (fun j o' hj hmj _ hs' => hw ⟨j, o', hj, hmj, hs'⟩), q4 t (fun j o' hj hmj hs' => hw ⟨j, o', hj, hmj, hs'⟩)]
        | _ => rfl
      obtain ⟨v, hv1, hv2⟩ := q5 i o ho hmi
      have tlt : ∀ t, o.dst = some t → t < b.tmps.size := fun t h => by rw [s1, sz]; exact hB.lt i o t ho h
      have hwant : Region.wanted o (yielded l.toArray b.tmps) = true := by unfold Region.wanted; rw [hB.free i o ho hmi]
      refine ⟨fun _ => ?_, fun hw => by rw [hwant] at hw; cases hw⟩
      have hquiet : o.quiet P b (fun x => x = wx) (fun c => c = b.put o.dst v) := ⟨v, fun x hx => by
        subst hx
        unfold Oper.quietAt at hv2 ⊢
        rwa [execOp_congr o (fun cs' b' => hsel o cs' b' (by simpa using List.mem_of_getElem? ho)) (ρ := b.eval) (ρ' := A3.eval) rd], rfl⟩
      refine Oper.wp_of_quiet (C := fun x => x = wx) rfl ?_ hquiet
      rintro c x rfl rfl
      refine ⟨by rw [put_size]; exact s1, closed, s, s0, fun i' h1 h2 => by rw [u2 i' (by omega)]; exact s4 i' h1 h2, fun h => absurd h (by omega), fun h j hj => u3 _ (s8 h j hj), fun h h' => absurd h' (by omega), fun _ => ⟨b0, A3, q1, by rw [put_size]; exact q2, by rw [put_defers]; exact q3, q4, q5, ?_, ?_⟩⟩
      · intro j o' t hj hmj hu hs'
        by_cases ej : j = i
        · subst ej
          rw [ho] at hj
          obtain rfl := Option.some.inj hj
          rw [hs']
          simp only [Act.eval, Array.getD_eq_getD_getElem?]
          rw [put_tmps_same _ _ _ (tlt t hs')]
          have := hv1 t hs'
          simp only [Act.eval, Array.getD_eq_getD_getElem?] at this
          rw [this]
          rfl
        · rw [u2 j ej] at hu
          rw [eval_of_tmps (put_tmps_ne b o.dst v t (fun h => ej (hB.one j i o' o t hj ho hs' h)))]
          exact q6 j o' t hj hmj hu hs'
      · intro t ht
        rw [put_tmps_ne _ _ _ _ (ht i o ho hmi u1)]
        exact q7 t (fun j o' hj hmj hu => ht j o' hj hmj (u3 _ hu))
  case fin =>
    rintro f b wx ⟨s1, s9, s, s0, s4, s7, s8, s10, s11⟩ hall
    have hall' : ∀ i, i < l.length → f i = true := fun i hi => hall i (by simpa using hi)
    have hsm : s = m - k := by
      rcases Nat.lt_or_ge s (m - k) with h | h
      · have := (s4 (k + s) (by omega) (by omega)).1 (hall' _ (by omega))
        omega
      · omega
    obtain ⟨b0, A3, q1, q2, q3, q4, q5, q6, q7⟩ := s11 hsm
    have hb : b = A3 := by
      obtain ⟨bt, bd⟩ := b
      obtain ⟨At, Ad⟩ := A3
      simp only at q2 q3
      subst q3
      simp only [Act.mk.injEq, and_true]
      refine Array.ext_getElem? fun t => ?_
      by_cases hw : ∃ (j : Nat) (o' : Oper), l[j]? = some o' ∧ m ≤ j ∧ o'.dst = some t
      · obtain ⟨j, o', hj, hmj, hs'⟩ := hw
        have h5 := q6 j o' t hj hmj (hall' j (List.getElem?_eq_some_iff.1 hj).1) hs'
        have htl : t < bt.size := by
          have h := hB.lt j o' t hj hs'
          rw [← sz, ← s1] at h
          exact h
        simp only [Act.eval, Array.getD_eq_getD_getElem?] at h5
        rw [Array.getElem?_eq_getElem htl, Array.getElem?_eq_getElem (by omega)] at h5 ⊢
        simpa using h5
      · exact (q7 t (fun j o' hj hmj _ hs' => hw ⟨j, o', hj, hmj, hs'⟩)).trans (q4 t (fun j o' hj hmj hs' => hw ⟨j, o', hj, hmj, hs'⟩)).symm
    rw [hb]
    exact q1

end Go.Proofs.Ytiaohpkcncbdnab

/- A region that draws its order: a beginning whose operations read, or call what makes new memory alone and answers the same in every world (walked once, in the order of the text), and two calls whose answers hang on the world (each by its contract); then a chain of operations, each of which waits for all ahead of it, walked as it stands. Guarded operations of the beginning all run. -/
import Derived.Test.YtlmmincpjflkdaaLate
namespace Go.Proofs.Ytlmmincpjflkdaa
open Go.RowKit
set_option linter.unusedVariables false

theorem wanted_at {ops : Array Oper} {o : Oper} {a : Act} (j d : Nat) (b : Bool) (hg : o.guard = some (j, b)) (hd : (ops[j]?).bind (·.dst) = some d) (hv : a.eval (.tmp d) = .bool b) : Region.wanted o (yielded ops a.tmps) = true := by
  have h2 : a.tmps[d]? = some (.bool b) := by
    have h3 : a.tmps[d]?.getD undef = .bool b := by simpa [Act.eval] using hv
    cases h4 : a.tmps[d]? with
    | none => rw [h4] at h3; cases h3
    | some v => rw [h4] at h3; exact congrArg some h3
  unfold Region.wanted yielded
  rw [hg]
  show ((match ((ops[j]?).bind (·.dst)).bind (a.tmps[·]?) with | some (.bool b) => some b | _ => none) == some b) = true
  rw [hd]
  simp [h2]

/-- the operation's guard says yes in frame A -/
def GuardOk (ops : Array Oper) (A : Act) (o : Oper) : Prop := o.guard = none ∨ ∃ j b d, o.guard = some (j, b) ∧ (ops[j]?).bind (·.dst) = some d ∧ A.eval (.tmp d) = .bool b
/-- slot s is not what the operation's guard looks at -/
def GuardOff (ops : Array Oper) (o : Oper) (s : Option Nat) : Prop := ∀ j b d, o.guard = some (j, b) → (ops[j]?).bind (·.dst) = some d → s ≠ some d
theorem GuardOk.wanted {ops : Array Oper} {A : Act} {o : Oper} (h : GuardOk ops A o) : Region.wanted o (yielded ops A.tmps) = true := by
  rcases h with h | ⟨j, b, d, h1, h2, h3⟩
  · unfold Region.wanted; rw [h]
  · exact wanted_at j d b h1 h2 h3

theorem lex_lastG {P : Program} {ops : Array Oper} {C : World → Prop} {A : Act} (hsel : ∀ (o : Oper) cs b, o ∈ ops → o.op ≠ .select cs b) : ∀ (l : List Oper) (a : Act), (∀ o ∈ l, o ∈ ops) → (∀ o ∈ l, GuardOk ops A o) → (∀ o ∈ l, ∀ s, o.dst = some s → s < a.tmps.size) →
    l.Pairwise (fun o o' => (∀ s, o.dst = some s → o'.dst ≠ some s) ∧ (∀ s, Operand.tmp s ∈ o.op.operands → o'.dst ≠ some s) ∧ GuardOff ops o o'.dst) → (∀ o ∈ l, (∀ s, Operand.tmp s ∈ o.op.operands → o.dst ≠ some s) ∧ GuardOff ops o o.dst) →
    wpQuiet P ops C (fun a' => a' = A) l a →
    A.tmps.size = a.tmps.size ∧ A.defers = a.defers ∧ (∀ s, (∀ o ∈ l, o.dst ≠ some s) → A.tmps[s]? = a.tmps[s]?) ∧ ∀ o ∈ l, ∃ v, (∀ s, o.dst = some s → A.eval (.tmp s) = v) ∧ ∀ w, C w → o.quietAt P A C w v
  | [], a, _, _, _, _, _, h => by
    have h : a = A := h
    subst h
    exact ⟨rfl, rfl, fun _ _ => rfl, fun o ho => by cases ho⟩
  | o :: l, a, hm, hg, hlt, hp, hself, h => by
    rw [List.pairwise_cons] at hp
    unfold wpQuiet at h
    by_cases hw : Region.wanted o (yielded ops a.tmps) = true
    case neg =>
      exfalso
      rw [if_neg hw] at h
      have hsz : (a.put o.dst undef).tmps.size = a.tmps.size := by
        cases o.dst <;> simp [Act.put]
      obtain ⟨i1, i2, i3, i4⟩ := lex_lastG hsel l (a.put o.dst undef) (fun x hx => hm x (by simp [hx])) (fun x hx => hg x (by simp [hx])) (fun x hx s hs => by rw [hsz]; exact hlt x (by simp [hx]) s hs) hp.2 (fun x hx => hself x (by simp [hx])) h
      rcases hg o (by simp) with h0 | ⟨j, b, d, h1, h2, h3⟩
      · exact hw (by unfold Region.wanted; rw [h0])
      · refine hw (wanted_at j d b h1 h2 ?_)
        rw [← h3]
        refine (eval_of_tmps ?_).symm
        rw [i3 d (fun x hx => (hp.1 x hx).2.2 j b d h1 h2)]
        exact put_tmps_ne _ _ _ _ ((hself o (by simp)).2 j b d h1 h2)
    rw [if_pos hw] at h
    obtain ⟨v, hv, hn⟩ := h
    have hsz : (a.put o.dst v).tmps.size = a.tmps.size := by
      cases o.dst <;> simp [Act.put]
    obtain ⟨i1, i2, i3, i4⟩ := lex_lastG hsel l (a.put o.dst v) (fun x hx => hm x (by simp [hx])) (fun x hx => hg x (by simp [hx])) (fun x hx s hs => by rw [hsz]; exact hlt x (by simp [hx]) s hs) hp.2 (fun x hx => hself x (by simp [hx])) hn
    have hd : (a.put o.dst v).defers = a.defers := by cases o.dst <;> rfl
    have out : ∀ s, (∀ x ∈ o :: l, x.dst ≠ some s) → A.tmps[s]? = a.tmps[s]? := by
      intro s hs
      rw [i3 s (fun x hx => hs x (by simp [hx]))]
      exact put_tmps_ne _ _ _ _ (hs o (by simp))
    refine ⟨i1.trans hsz, i2.trans hd, out, ?_⟩
    intro x hx
    rcases List.mem_cons.1 hx with rfl | hx
    · refine ⟨v, ?_, ?_⟩
      · intro s hs
        have h1 : A.tmps[s]? = (a.put x.dst v).tmps[s]? := i3 s (fun y hy => (hp.1 y hy).1 s hs)
        have h2 := hlt x (by simp) s hs
        rw [hs] at h1
        simp only [Act.eval, Array.getD_eq_getD_getElem?]
        rw [h1]
        simp [Act.put, h2]
      · intro w hC
        have := hv w hC
        unfold Oper.quietAt at this ⊢
        rwa [execOp_congr x (fun cs b => hsel x cs b (hm x (by simp))) (ρ := A.eval) (ρ' := a.eval) ?_]
        intro y hy
        cases y with
        | tmp s =>
          refine eval_of_tmps (out s (fun z hz => ?_))
          rcases List.mem_cons.1 hz with rfl | hz
          · exact (hself z (by simp)).1 s hy
          · exact (hp.1 z hz).2.1 s hy
        | _ => rfl
    · exact i4 x hx

/-- what each operation waits for, through other ones too -/
def reachStep (tbl : List (List Nat)) (o : Oper) : List (List Nat) := tbl ++ [((o.after.toList.filter (fun e => Region.binds .any e)).flatMap fun e => e.on :: (tbl[e.on]?.getD [])).eraseDups]
def reachTbl (l : List Oper) : List (List Nat) := l.foldl reachStep []
theorem reach_good (L : List Oper) (f : Nat → Bool) (hall : ∀ (i : Nat) (o : Oper), L[i]? = some o → f i = true → ∀ e ∈ o.after, Region.binds .any e = true → f e.on = true) :
    ∀ (rest pre : List Oper) (tbl : List (List Nat)), L = pre ++ rest → tbl.length = pre.length →
      (∀ (i : Nat) (m : List Nat), tbl[i]? = some m → ∀ o, L[i]? = some o → (∀ e ∈ o.after, Region.binds .any e = true → f e.on = true) → ∀ j ∈ m, f j = true) →
      ∀ (i : Nat) (m : List Nat), (rest.foldl reachStep tbl)[i]? = some m → ∀ o, L[i]? = some o → (∀ e ∈ o.after, Region.binds .any e = true → f e.on = true) → ∀ j ∈ m, f j = true
  | [], pre, tbl, hL, hlen, hg => hg
  | x :: rest, pre, tbl, hL, hlen, hg => by
    refine reach_good L f hall rest (pre ++ [x]) (reachStep tbl x) (by rw [hL]; simp) (by simp [reachStep, hlen]) ?_
    intro i m hm o ho hd j hj
    unfold reachStep at hm
    rcases Nat.lt_or_ge i tbl.length with h | h
    · rw [List.getElem?_append_left h] at hm
      exact hg i m hm o ho hd j hj
    · rw [List.getElem?_append_right h] at hm
      have hi : i = tbl.length := by
        rcases Nat.lt_or_ge tbl.length i with h' | h'
        · rw [List.getElem?_eq_none (by simp; omega)] at hm; cases hm
        · omega
      rw [hi, Nat.sub_self] at hm
      simp only [List.getElem?_cons_zero, Option.some.injEq] at hm
      rw [← hm, List.mem_eraseDups, List.mem_flatMap] at hj
      obtain ⟨e, he, hj⟩ := hj
      rw [List.mem_filter] at he
      have hox : x = o := by
        rw [hL, List.getElem?_append_right (by omega), hi, hlen, Nat.sub_self] at ho
        simpa using ho
      have h3 := hd e (by rw [← hox]; exact Array.mem_toList_iff.1 he.1) he.2
      rcases List.mem_cons.1 hj with rfl | hj
      · exact h3
      · cases hq : tbl[e.on]? with
        | none => rw [hq] at hj; cases hj
        | some m' =>
          rw [hq] at hj
          have hlt : e.on < L.length := by
            have := (List.getElem?_eq_some_iff.1 hq).1
            rw [hL, List.length_append]
            omega
          have ho' : L[e.on]? = some L[e.on] := List.getElem?_eq_getElem hlt
          exact hg e.on m' hq _ ho' (hall e.on _ ho' h3) j hj
def lateAll (l : List Oper) (k : Nat) : Bool := (List.range l.length).all fun i => decide (i < k) || (List.range i).all fun j => ((reachTbl l)[i]?.getD []).contains j
theorem lateAll_spec {l : List Oper} {k : Nat} (h : lateAll l k = true) {f : Nat → Bool} (hall : ∀ (i : Nat) (o : Oper), l[i]? = some o → f i = true → ∀ e ∈ o.after, Region.binds .any e = true → f e.on = true)
    {i : Nat} {o : Oper} (ho : l[i]? = some o) (hi : k ≤ i) (hd : ∀ e ∈ o.after, Region.binds .any e = true → f e.on = true) {j : Nat} (hj : j < i) : f j = true := by
  have h1 := List.all_eq_true.1 h i (List.mem_range.2 (List.getElem?_eq_some_iff.1 ho).1)
  rw [decide_eq_false (by omega), Bool.false_or] at h1
  have h2 := List.all_eq_true.1 h1 j (List.mem_range.2 hj)
  rw [List.contains_iff_mem] at h2
  cases hq : (reachTbl l)[i]? with
  | none => rw [hq] at h2; cases h2
  | some m =>
    rw [hq] at h2
    exact reach_good l f hall l [] [] rfl rfl (fun i m h => by simp at h) i m hq o ho hd j h2

/-- each slot is written by one operation; what an operation of the beginning reads is written outside, or by one that it waits for and that is none of the two; its guard is one that it waits for, and is in the list -/
def spreadOk (l : List Oper) (gs : List (Nat × Bool)) (k ka kb pa pb n : Nat) : Bool :=
  topOkB l.toArray && Region.noSelect l.toArray && decide (ka < kb) && decide (kb < k) && decide (k < l.length) && ((l[ka]?).bind (·.dst) == some pa) && ((l[kb]?).bind (·.dst) == some pb) && lateAll l k &&
  ((List.range l.length).all fun i => match l[i]? with
    | some o => (match o.dst with | some s => decide (s < n) | none => true) && (decide (k ≤ i) || match o.guard with | none => true | some (g, b) => (o.after.any fun e => e.on == g && Region.binds .any e) && decide (g < k) && !(g == ka) && !(g == kb) && (match (l[g]?).bind (·.dst) with | some d => gs.contains (d, b) | none => false)) &&
      ((List.range l.length).all fun j => match l[j]? with
        | some o' => (i == j || (match o.dst with | some s => !(o'.dst == some s) | none => true)) && (decide (k ≤ i) || o.op.operands.all fun x => match x with
            | .tmp s => !(o'.dst == some s) || ((o.after.any fun e => e.on == j && Region.binds .any e) && decide (j < k) && !(j == ka) && !(j == kb))
            | _ => true)
        | none => true)
    | none => true)
structure SpreadOk (l : List Oper) (gs : List (Nat × Bool)) (k ka kb pa pb n : Nat) : Prop where
  top : topOkB l.toArray = true
  sel : Region.noSelect l.toArray = true
  ab : ka < kb
  bk : kb < k
  kl : k < l.length
  da : (l[ka]?).bind (·.dst) = some pa
  db : (l[kb]?).bind (·.dst) = some pb
  late : lateAll l k = true
  lt : ∀ (i : Nat) (o : Oper) (s : Nat), l[i]? = some o → o.dst = some s → s < n
  guard : ∀ (i : Nat) (o : Oper) (g : Nat) (b : Bool), l[i]? = some o → i < k → o.guard = some (g, b) → (∃ e ∈ o.after, e.on = g ∧ Region.binds .any e = true) ∧ g < k ∧ g ≠ ka ∧ g ≠ kb ∧ ∃ d, (l[g]?).bind (·.dst) = some d ∧ (d, b) ∈ gs
  one : ∀ (i j : Nat) (o o' : Oper) (s : Nat), l[i]? = some o → l[j]? = some o' → o.dst = some s → o'.dst = some s → i = j
  reads : ∀ (i j : Nat) (o o' : Oper) (s : Nat), l[i]? = some o → l[j]? = some o' → i < k → Operand.tmp s ∈ o.op.operands → o'.dst = some s → (∃ e ∈ o.after, e.on = j ∧ Region.binds .any e = true) ∧ j < k ∧ j ≠ ka ∧ j ≠ kb
theorem spreadOk_spec {l : List Oper} {gs : List (Nat × Bool)} {k ka kb pa pb n : Nat} (h : spreadOk l gs k ka kb pa pb n = true) : SpreadOk l gs k ka kb pa pb n := by
  unfold spreadOk at h
  simp only [Bool.and_eq_true, decide_eq_true_eq, beq_iff_eq] at h
  obtain ⟨⟨⟨⟨⟨⟨⟨⟨h1, h2⟩, h3⟩, h4⟩, h5⟩, h6⟩, h7⟩, h8⟩, h9⟩ := h
  have key := fun (i : Nat) (o : Oper) (ho : l[i]? = some o) => by
    have a1 := List.all_eq_true.1 h9 i (List.mem_range.2 (List.getElem?_eq_some_iff.1 ho).1)
    rw [ho] at a1
    simp only [Bool.and_eq_true] at a1
    exact a1
  have key2 := fun (i : Nat) (o : Oper) (ho : l[i]? = some o) (j : Nat) (o' : Oper) (hj : l[j]? = some o') => by
    have a2 := List.all_eq_true.1 (key i o ho).2 j (List.mem_range.2 (List.getElem?_eq_some_iff.1 hj).1)
    rw [hj] at a2
    simp only [Bool.and_eq_true] at a2
    exact a2
  refine ⟨h1, h2, h3, h4, h5, h6, h7, h8, ?_, ?_, ?_, ?_⟩
  · intro i o s ho hs
    have := (key i o ho).1.1
    rw [hs] at this
    exact of_decide_eq_true this
  · intro i o g b ho hik hg
    have := (key i o ho).1.2
    rw [decide_eq_false (by omega), Bool.false_or, hg] at this
    simp only [Bool.and_eq_true, Array.any_eq_true', beq_iff_eq, decide_eq_true_eq, Bool.not_eq_true', beq_eq_false_iff_ne] at this
    obtain ⟨⟨⟨⟨⟨e, he, e1, e2⟩, h11⟩, h12⟩, h13⟩, h14⟩ := this
    refine ⟨⟨e, he, e1, e2⟩, h11, h12, h13, ?_⟩
    cases hd : (l[g]?).bind (·.dst) with
    | none => rw [hd] at h14; cases h14
    | some d =>
      rw [hd] at h14
      exact ⟨d, rfl, by simpa using h14⟩
  · intro i j o o' s ho hj hs hs'
    have := (key2 i o ho j o' hj).1
    rw [hs, hs'] at this
    simp at this
    exact this
  · intro i j o o' s ho hj hik hx hs'
    have := (key2 i o ho j o' hj).2
    rw [decide_eq_false (by omega), Bool.false_or] at this
    have := (Array.all_eq_true'.1 this) _ hx
    simp only [hs', beq_self_eq_true, Bool.not_true, Bool.false_or, Bool.and_eq_true, Array.any_eq_true', beq_iff_eq, decide_eq_true_eq, Bool.not_eq_true', beq_eq_false_iff_ne] at this
    obtain ⟨⟨⟨⟨e, he, e1, e2⟩, h11⟩, h12⟩, h13⟩ := this
    exact ⟨⟨e, he, e1, e2⟩, h11, h12, h13⟩

theorem wp_region_same {P : Program} {id : Nat} {Q : Exit → Act → World → Prop} {a : Act} {w : World} {l : List Oper} (gs : List (Nat × Bool)) (k ka kb pa pb : Nat) (A : Act) (Ra Rb : Value → World → Prop)
    (hm : P.follows .mixedOrders = true) (hok : spreadOk l gs k ka kb pa pb a.tmps.size = true)
    (hra : ∀ v w w', Ra v w → Below w.heap.size w w' → Ra v w') (hrb : ∀ v w w', Rb v w → Below w.heap.size w w' → Rb v w')
    (hlex : ∀ x : Gb w, wpQuiet P l.toArray (fun w' => ∃ y : Gb x.w, w' = y.w) (fun a' => a' = A) (boxRest (l.take k) ka kb) a)
    (hgA : ∀ g ∈ gs, A.eval (.tmp g.1) = .bool g.2)
    (hsa : ∀ o, l[ka]? = some o → ∀ (x : Gb w) (b : Act), (∀ y ∈ o.op.operands, b.eval y = A.eval y) → o.wp P b x.w (fun b' w' => ∃ v, b' = b.put o.dst v ∧ Ra v w' ∧ Below x.w.heap.size x.w w') Q)
    (hsb : ∀ o, l[kb]? = some o → ∀ (x : Gb w) (b : Act), (∀ y ∈ o.op.operands, b.eval y = A.eval y) → o.wp P b x.w (fun b' w' => ∃ v, b' = b.put o.dst v ∧ Rb v w' ∧ Below x.w.heap.size x.w w') Q)
    (fin : ∀ (va vb : Value) (w' : World), Below w.heap.size w w' → Ra va w' → Rb vb w' → wpList P l.toArray (OnlyN Q) (l.drop k) ((A.put (some pa) va).put (some pb) vb) w') : (Code.region id l.toArray true).wp P Q a w := by
  have hB := spreadOk_spec hok
  have htop' := topOkB_spec hB.top
  have arr : ∀ i : Nat, l.toArray[i]? = l[i]? := fun i => by rw [List.getElem?_toArray]
  have hsel : ∀ (o : Oper) cs b, o ∈ l.toArray → o.op ≠ .select cs b := by
    intro o cs b ho
    obtain ⟨j, hj⟩ := Array.getElem?_of_mem ho
    exact Region.noSelect_spec hB.sel j o cs b hj
  have hgk : ∀ (i : Nat) (o : Oper), l[i]? = some o → i < k → GuardOk l.toArray A o := by
    intro i o ho hik
    cases hg : o.guard with
    | none => exact .inl hg
    | some g =>
      obtain ⟨_, _, _, _, d, h1, h2⟩ := hB.guard i o g.1 g.2 ho hik hg
      exact .inr ⟨g.1, g.2, d, hg, by rw [arr]; exact h1, hgA (d, g.2) h2⟩
  have hsub : (boxRest (l.take k) ka kb).Sublist (l.take k) := boxRest_sub _ _ _
  have intk : ∀ (i : Nat) (o : Oper), (l.take k)[i]? = some o → l[i]? = some o ∧ i < k := by
    intro i o h
    rw [List.getElem?_take] at h
    split at h
    · rename_i h'; exact ⟨h, h'⟩
    · cases h
  have idx : ∀ o ∈ boxRest (l.take k) ka kb, ∃ i : Nat, l[i]? = some o ∧ i < k := by
    intro o ho
    obtain ⟨i, hi⟩ := List.getElem?_of_mem (hsub.subset ho)
    exact ⟨i, (intk i o hi).1, (intk i o hi).2⟩
  have goff : ∀ (i j : Nat) (o o' : Oper), l[i]? = some o → l[j]? = some o' → i < k → i ≤ j → GuardOff l.toArray o o'.dst := by
    intro i j o o' ho hj hik hij g b d hg hd hs
    obtain ⟨⟨e, he, e1, e2⟩, h2, _⟩ := hB.guard i o g b ho hik hg
    have h3 := htop' i o (by rw [arr]; exact ho) e he e2
    rw [arr] at hd
    cases hq : l[g]? with
    | none => rw [hq] at hd; cases hd
    | some og =>
      rw [hq] at hd
      have := hB.one g j og o' d hq hj hd hs
      omega
  have hpw : (l.take k).Pairwise (fun o o' => (∀ s, o.dst = some s → o'.dst ≠ some s) ∧ (∀ s, Operand.tmp s ∈ o.op.operands → o'.dst ≠ some s) ∧ GuardOff l.toArray o o'.dst) := by
    rw [List.pairwise_iff_getElem]
    intro i j h1 h2 hij
    obtain ⟨e1, k1⟩ := intk i _ (List.getElem?_eq_getElem h1)
    obtain ⟨e2, k2⟩ := intk j _ (List.getElem?_eq_getElem h2)
    refine ⟨fun s hs hs' => ?_, fun s hs hs' => ?_, goff i j _ _ e1 e2 k1 (Nat.le_of_lt hij)⟩
    · have := hB.one i j _ _ s e1 e2 hs hs'
      omega
    · obtain ⟨⟨e, he, h3, h4⟩, _⟩ := hB.reads i j _ _ s e1 e2 k1 hs hs'
      have := htop' i _ (by rw [arr]; exact e1) e he h4
      omega
  have hself : ∀ o ∈ boxRest (l.take k) ka kb, (∀ s, Operand.tmp s ∈ o.op.operands → o.dst ≠ some s) ∧ GuardOff l.toArray o o.dst := by
    intro o ho
    obtain ⟨i, e1, k1⟩ := idx o ho
    refine ⟨fun s hs hs' => ?_, goff i i o o e1 e1 k1 (Nat.le_refl _)⟩
    obtain ⟨⟨e, he, h3, h4⟩, _⟩ := hB.reads i i _ _ s e1 e1 k1 hs hs'
    have := htop' i _ (by rw [arr]; exact e1) e he h4
    omega
  have lex := fun x : Gb w => lex_lastG (P := P) (ops := l.toArray) (C := fun w' => ∃ y : Gb x.w, w' = y.w) (A := A) hsel (boxRest (l.take k) ka kb) a (fun o ho => by obtain ⟨i, hi, _⟩ := idx o ho; simpa using List.mem_of_getElem? hi) (fun o ho => by obtain ⟨i, hi, h'⟩ := idx o ho; exact hgk i o hi h') (fun o ho s hs => by obtain ⟨i, hi, _⟩ := idx o ho; exact hB.lt i o s hi hs) (hpw.sublist hsub) hself (hlex x)
  obtain ⟨sz, df, out, _⟩ := lex ⟨w, Below.refl _ _⟩
  have inrest : ∀ (j : Nat) (o : Oper), l[j]? = some o → j < k → j ≠ ka → j ≠ kb → o ∈ boxRest (l.take k) ka kb := by
    intro j o hj hjk h1 h2
    exact boxRest_mem hB.ab (by rw [List.getElem?_take, if_pos hjk]; exact hj) h1 h2
  -- a slot that no operation of the beginning but the two writes
  have out' : ∀ s, (∀ (j : Nat) (o : Oper), l[j]? = some o → j < k → j ≠ ka → j ≠ kb → o.dst ≠ some s) → A.tmps[s]? = a.tmps[s]? := by
    intro s hs
    refine out s (fun o ho hd => ?_)
    unfold boxRest at ho
    obtain ⟨j, hj1, hj2⟩ := List.mem_eraseIdx_iff_getElem?.1 ho
    by_cases hlt : j < kb
    · rw [List.getElem?_eraseIdx, if_pos hlt] at hj2
      obtain ⟨e1, e2⟩ := intk _ _ hj2
      exact hs j o e1 e2 hj1 (by omega) hd
    · rw [List.getElem?_eraseIdx, if_neg hlt] at hj2
      obtain ⟨e1, e2⟩ := intk _ _ hj2
      exact hs (j + 1) o e1 e2 (by have := hB.ab; omega) (by omega) hd
  refine wp_region_invB hm htop' (fun f b wx => b.tmps.size = A.tmps.size ∧
    (∀ (i : Nat) (o : Oper), l[i]? = some o → f i = true → ∀ e ∈ o.after, Region.binds .any e = true → f e.on = true) ∧
    ∃ s, (∀ i, k ≤ i → i < l.length → (f i = true ↔ i < k + s)) ∧
      (s = 0 → b.defers = A.defers ∧ Below w.heap.size w wx ∧
        (∀ (j : Nat) (o : Oper) (t : Nat), l[j]? = some o → j < k → j ≠ ka → j ≠ kb → f j = true → o.dst = some t → b.eval (.tmp t) = A.eval (.tmp t)) ∧
        (∀ t, (∀ (j : Nat) (o : Oper), l[j]? = some o → j < k → f j = true → o.dst ≠ some t) → b.tmps[t]? = a.tmps[t]?) ∧
        (f ka = true → Ra (b.eval (.tmp pa)) wx) ∧ (f kb = true → Rb (b.eval (.tmp pb)) wx)) ∧
      (0 < s → (∀ j, j < k → f j = true) ∧ wpList P l.toArray (OnlyN Q) (l.drop (k + s)) b wx)) ?start ?step ?fin
  case start =>
    refine ⟨sz.symm, fun i o _ h => (by cases h), 0, fun i hi _ => ?_, fun _ => ⟨df.symm, (Below.refl _ _).drew, fun j o t _ _ _ _ h => (by cases h), fun t _ => rfl, fun h => (by cases h), fun h => (by cases h)⟩, fun h => absurd h (by omega)⟩
    constructor
    · intro h; cases h
    · intro h; omega
  case step =>
    rintro f b wx i o ⟨s1, s9, s, s4, s7, s8⟩ ho hf hd
    rw [arr] at ho
    have hil := (List.getElem?_eq_some_iff.1 ho).1
    have u1 : upd f i i = true := by simp [upd]
    have u2 : ∀ j, j ≠ i → upd f i j = f j := fun j hj => by simp [upd, hj]
    have u3 : ∀ j, f j = true → upd f i j = true := fun j hj => by
      by_cases e : j = i
      · rw [e]; exact u1
      · rw [u2 j e]; exact hj
    have closed : ∀ (i' : Nat) (o' : Oper), l[i']? = some o' → upd f i i' = true → ∀ e ∈ o'.after, Region.binds .any e = true → upd f i e.on = true := by
      intro i' o' a2 a3 e he hb
      by_cases ei : i' = i
      · subst ei
        rw [ho] at a2
        obtain rfl := Option.some.inj a2
        exact u3 _ (hd e he hb)
      · rw [u2 i' ei] at a3
        exact u3 _ (s9 i' o' a2 a3 e he hb)
    by_cases hik : i < k
    · -- an operation of the beginning
      have hs0 : s = 0 := by
        rcases Nat.eq_zero_or_pos s with h | h
        · exact h
        · rw [(s8 h).1 i hik] at hf; cases hf
      obtain ⟨t1, t2, t3, t4, t5, t6⟩ := s7 hs0
      have rd : ∀ t, Operand.tmp t ∈ o.op.operands → b.eval (.tmp t) = A.eval (.tmp t) := by
        intro t ht
        by_cases hw : ∃ (j : Nat) (o' : Oper), l[j]? = some o' ∧ o'.dst = some t
        · obtain ⟨j, o', hj, hs'⟩ := hw
          obtain ⟨⟨e, he, h3, h4⟩, h5, h6, h7⟩ := hB.reads i j o o' t ho hj hik ht hs'
          have hfj := hd e he h4
          rw [h3] at hfj
          exact t3 j o' t hj h5 h6 h7 hfj hs'
        · refine eval_of_tmps ?_
          rw [t4 t (fun j o' hj _ _ hs' => hw ⟨j, o', hj, hs'⟩), out' t (fun j o' hj _ _ _ hs' => hw ⟨j, o', hj, hs'⟩)]
      have rdy : ∀ y ∈ o.op.operands, b.eval y = A.eval y := by
        intro y hy
        cases y with
        | tmp t => exact rd t hy
        | _ => rfl
      have hwant : Region.wanted o (yielded l.toArray b.tmps) = true := by
        cases hg : o.guard with
        | none => unfold Region.wanted; rw [hg]
        | some g =>
          obtain ⟨⟨e, he, e1, e2⟩, h2, h3, h4, d, h5, h6⟩ := hB.guard i o g.1 g.2 ho hik hg
          refine wanted_at g.1 d g.2 hg (by rw [arr]; exact h5) ?_
          cases hq : l[g.1]? with
          | none => rw [hq] at h5; cases h5
          | some og =>
            rw [hq] at h5
            have hfj := hd e he e2
            rw [e1] at hfj
            rw [t3 g.1 og d hq h2 h3 h4 hfj h5]
            exact hgA (d, g.2) h6
      have pas : ∀ (b : Act) (v : Value) (t : Nat), o.dst ≠ some t → (b.put o.dst v).eval (.tmp t) = b.eval (.tmp t) := fun b v t h => eval_of_tmps (put_tmps_ne _ _ _ _ h)
      have same : ∀ (b : Act) (v : Value) (t : Nat), o.dst = some t → t < b.tmps.size → (b.put o.dst v).eval (.tmp t) = v := by
        intro b v t h hl
        rw [h]
        simp only [Act.eval, Array.getD_eq_getD_getElem?]
        rw [put_tmps_same _ _ _ hl]
        rfl
      have tlt : ∀ t, o.dst = some t → t < b.tmps.size := fun t h => by rw [s1, sz]; exact hB.lt i o t ho h
      -- what is kept, whatever the value
      have keep : ∀ (v : Value) (w' : World), Below wx.heap.size wx w' →
          (i ≠ ka → i ≠ kb → ∀ t, o.dst = some t → A.eval (.tmp t) = v) → (i = ka → Ra v w') → (i = kb → Rb v w') →
          (b.put o.dst v).tmps.size = A.tmps.size ∧ (∀ (i' : Nat) (o' : Oper), l[i']? = some o' → upd f i i' = true → ∀ e ∈ o'.after, Region.binds .any e = true → upd f i e.on = true) ∧
          ∃ s, (∀ i', k ≤ i' → i' < l.length → (upd f i i' = true ↔ i' < k + s)) ∧
            (s = 0 → (b.put o.dst v).defers = A.defers ∧ Below w.heap.size w w' ∧
              (∀ (j : Nat) (o' : Oper) (t : Nat), l[j]? = some o' → j < k → j ≠ ka → j ≠ kb → upd f i j = true → o'.dst = some t → (b.put o.dst v).eval (.tmp t) = A.eval (.tmp t)) ∧
              (∀ t, (∀ (j : Nat) (o' : Oper), l[j]? = some o' → j < k → upd f i j = true → o'.dst ≠ some t) → (b.put o.dst v).tmps[t]? = a.tmps[t]?) ∧
              (upd f i ka = true → Ra ((b.put o.dst v).eval (.tmp pa)) w') ∧ (upd f i kb = true → Rb ((b.put o.dst v).eval (.tmp pb)) w')) ∧
            (0 < s → (∀ j, j < k → upd f i j = true) ∧ wpList P l.toArray (OnlyN Q) (l.drop (k + s)) (b.put o.dst v) w') := by
        intro v w' hb' hv hva hvb
        refine ⟨by rw [put_size]; exact s1, closed, 0, fun i' h1 h2 => by rw [u2 i' (by omega)]; have := s4 i' h1 h2; rw [hs0] at this; exact this, fun _ => ⟨by rw [put_defers]; exact t1, t2.trans (hb'.mono t2.size), ?_, ?_, ?_, ?_⟩, fun h => absurd h (by omega)⟩
        · intro j o' t hj hjk h1 h2 h3 h4
          by_cases ej : j = i
          · subst ej
            rw [ho] at hj
            obtain rfl := Option.some.inj hj
            rw [same b v t h4 (tlt t h4), hv h1 h2 t h4]
          · rw [u2 j ej] at h3
            rw [pas b v t (fun h => ej (hB.one j i o' o t hj ho h4 h))]
            exact t3 j o' t hj hjk h1 h2 h3 h4
        · intro t ht
          rw [put_tmps_ne _ _ _ _ (ht i o ho hik u1)]
          exact t4 t (fun j o' hj hjk h3 => ht j o' hj hjk (u3 _ h3))
        · intro h3
          cases hq : l[ka]? with
          | none => have := hB.da; rw [hq] at this; cases this
          | some oa =>
            have hda := hB.da
            rw [hq] at hda
            by_cases ei : i = ka
            · subst ei
              rw [ho] at hq
              obtain rfl := Option.some.inj hq
              rw [same b v pa hda (tlt pa hda)]
              exact hva rfl
            · rw [u2 ka (fun h => ei h.symm)] at h3
              rw [pas b v pa (fun h => ei (hB.one i ka o oa pa ho hq h hda))]
              exact hra _ _ _ (t5 h3) hb'
        · intro h3
          cases hq : l[kb]? with
          | none => have := hB.db; rw [hq] at this; cases this
          | some ob =>
            have hdb := hB.db
            rw [hq] at hdb
            by_cases ei : i = kb
            · subst ei
              rw [ho] at hq
              obtain rfl := Option.some.inj hq
              rw [same b v pb hdb (tlt pb hdb)]
              exact hvb rfl
            · rw [u2 kb (fun h => ei h.symm)] at h3
              rw [pas b v pb (fun h => ei (hB.one i kb o ob pb ho hq h hdb))]
              exact hrb _ _ _ (t6 h3) hb'
      refine ⟨fun _ => ?_, fun hw => by rw [hwant] at hw; cases hw⟩
      by_cases ea : i = ka
      · refine Oper.wp_mono ?_ (hsa o (by rw [← ea]; exact ho) ⟨wx, t2⟩ b rdy)
        rintro b' w' ⟨v, rfl, hR, hb'⟩
        exact keep v w' hb' (fun h => absurd ea h) (fun _ => hR) (fun h => by have := hB.ab; omega)
      by_cases eb : i = kb
      · refine Oper.wp_mono ?_ (hsb o (by rw [← eb]; exact ho) ⟨wx, t2⟩ b rdy)
        rintro b' w' ⟨v, rfl, hR, hb'⟩
        exact keep v w' hb' (fun _ h => absurd eb h) (fun h => absurd h ea) (fun _ => hR)
      obtain ⟨_, _, _, each⟩ := lex ⟨wx, t2⟩
      obtain ⟨v, hv1, hv2⟩ := each o (inrest i o ho hik ea eb)
      have hquiet : o.quiet P b (fun w' => ∃ y : Gb wx, w' = y.w) (fun c => c = b.put o.dst v) := ⟨v, fun w' hw' => by
        have := hv2 w' hw'
        unfold Oper.quietAt at this ⊢
        rwa [execOp_congr o (fun cs' b' => hsel o cs' b' (by simpa using List.mem_of_getElem? ho)) (ρ := b.eval) (ρ' := A.eval) rdy], rfl⟩
      refine Oper.wp_of_quiet (C := fun w' => ∃ y : Gb wx, w' = y.w) ⟨⟨wx, Below.refl _ _⟩, rfl⟩ ?_ hquiet
      rintro c w' ⟨⟨_, hb'⟩, rfl⟩ rfl
      exact keep v _ hb' (fun _ _ t ht => hv1 t ht) (fun h => absurd h ea) (fun h => absurd h eb)
    · -- the next of the chain
      have hki : k ≤ i := by omega
      have before : ∀ j, j < i → f j = true := fun j hj => lateAll_spec hB.late s9 ho hki hd hj
      have his : i = k + s := by
        rcases Nat.lt_trichotomy i (k + s) with h | h | h
        · rw [(s4 i hki hil).2 h] at hf; cases hf
        · exact h
        · have := (s4 (k + s) (by omega) (by omega)).1 (before _ h)
          omega
      have hwl : wpList P l.toArray (OnlyN Q) (l.drop i) b wx := by
        rcases Nat.eq_zero_or_pos s with hs0 | hs0
        · obtain ⟨t1, t2, t3, t4, t5, t6⟩ := s7 hs0
          have hka := hB.ab
          have hkb := hB.bk
          have hbeq : b = (A.put (some pa) (b.eval (.tmp pa))).put (some pb) (b.eval (.tmp pb)) := by
            have hpa : pa < A.tmps.size := by
              cases hq : l[ka]? with
              | none => have := hB.da; rw [hq] at this; cases this
              | some oa => have := hB.da; rw [hq] at this; rw [sz]; exact hB.lt ka oa pa hq this
            have hpb : pb < A.tmps.size := by
              cases hq : l[kb]? with
              | none => have := hB.db; rw [hq] at this; cases this
              | some ob => have := hB.db; rw [hq] at this; rw [sz]; exact hB.lt kb ob pb hq this
            obtain ⟨bt, bd⟩ := b
            obtain ⟨At, Ad⟩ := A
            simp only at t1 s1 hpa hpb
            subst t1
            simp only [Act.put, Act.mk.injEq, and_true]
            refine Array.ext_getElem? fun t => ?_
            by_cases e1 : pb = t
            · subst e1
              rw [Array.getElem?_setIfInBounds_self_of_lt (by simpa using hpb)]
              simp only [Act.eval, Array.getD_eq_getD_getElem?]
              rw [Array.getElem?_eq_getElem (by omega)]
              rfl
            rw [Array.getElem?_setIfInBounds_ne e1]
            by_cases e2 : pa = t
            · subst e2
              rw [Array.getElem?_setIfInBounds_self_of_lt hpa]
              simp only [Act.eval, Array.getD_eq_getD_getElem?]
              rw [Array.getElem?_eq_getElem (by omega)]
              rfl
            rw [Array.getElem?_setIfInBounds_ne e2]
            by_cases hw : ∃ (j : Nat) (o' : Oper), l[j]? = some o' ∧ j < k ∧ o'.dst = some t
            · obtain ⟨j, o', hj, hjk, hs'⟩ := hw
              have ja : j ≠ ka := by
                rintro rfl
                have := hB.da
                rw [hj] at this
                exact e2 (Option.some.inj (this.symm.trans hs'))
              have jb : j ≠ kb := by
                rintro rfl
                have := hB.db
                rw [hj] at this
                exact e1 (Option.some.inj (this.symm.trans hs'))
              have h5 := t3 j o' t hj hjk ja jb (before j (by omega)) hs'
              have htl : t < At.size := by
                have h := hB.lt j o' t hj hs'
                rw [← sz] at h
                exact h
              simp only [Act.eval, Array.getD_eq_getD_getElem?] at h5
              rw [Array.getElem?_eq_getElem (by omega), Array.getElem?_eq_getElem htl] at h5 ⊢
              simpa using h5
            · have h5 := t4 t (fun j o' hj hjk _ hs' => hw ⟨j, o', hj, hjk, hs'⟩)
              have h6 := out' t (fun j o' hj hjk _ _ hs' => hw ⟨j, o', hj, hjk, hs'⟩)
              exact h5.trans h6.symm
          rw [show i = k by omega]
          have := fin (b.eval (.tmp pa)) (b.eval (.tmp pb)) wx t2 (t5 (before ka (by omega))) (t6 (before kb (by omega)))
          rwa [← hbeq] at this
        · rw [his]
          exact (s8 hs0).2
      rw [List.drop_eq_getElem_cons hil] at hwl
      have hoi : l[i] = o := (List.getElem?_eq_some_iff.1 ho).2
      rw [hoi] at hwl
      unfold wpList at hwl
      have next : ∀ (b' : Act) (w' : World), b'.tmps.size = b.tmps.size → wpList P l.toArray (OnlyN Q) (l.drop (i + 1)) b' w' →
          b'.tmps.size = A.tmps.size ∧ (∀ (i' : Nat) (o' : Oper), l[i']? = some o' → upd f i i' = true → ∀ e ∈ o'.after, Region.binds .any e = true → upd f i e.on = true) ∧
          ∃ s, (∀ i', k ≤ i' → i' < l.length → (upd f i i' = true ↔ i' < k + s)) ∧
            (s = 0 → b'.defers = A.defers ∧ Below w.heap.size w w' ∧
              (∀ (j : Nat) (o' : Oper) (t : Nat), l[j]? = some o' → j < k → j ≠ ka → j ≠ kb → upd f i j = true → o'.dst = some t → b'.eval (.tmp t) = A.eval (.tmp t)) ∧
              (∀ t, (∀ (j : Nat) (o' : Oper), l[j]? = some o' → j < k → upd f i j = true → o'.dst ≠ some t) → b'.tmps[t]? = a.tmps[t]?) ∧
              (upd f i ka = true → Ra (b'.eval (.tmp pa)) w') ∧ (upd f i kb = true → Rb (b'.eval (.tmp pb)) w')) ∧
            (0 < s → (∀ j, j < k → upd f i j = true) ∧ wpList P l.toArray (OnlyN Q) (l.drop (k + s)) b' w') := by
        intro b' w' h1 h2
        refine ⟨h1.trans s1, closed, s + 1, fun i' a1 a2 => ?_, fun h => absurd h (by omega), fun _ => ⟨fun j hj => u3 _ (before j (by omega)), ?_⟩⟩
        · by_cases e : i' = i
          · rw [e, u1]; constructor
            · intro _; omega
            · intro _; rfl
          · rw [u2 i' e, s4 i' a1 a2]
            omega
        · rw [show k + (s + 1) = i + 1 by omega]
          exact h2
      refine ⟨fun hw => ?_, fun hw => ?_⟩
      · rw [if_pos hw] at hwl
        have hwp : o.wp P b wx (wpList P l.toArray (OnlyN Q) (l.drop (i + 1))) (OnlyN Q) := by
          rcases hwl with h | ⟨_, h⟩
          · exact h
          · exact absurd h (onlyN_out Q)
        refine wp_swap rfl ?_ ?_ hwp
        · intro v w' hK
          exact next _ w' (put_size _ _ _) hK
        · intro d w' hK
          exact next _ w' (by rw [put_size]) hK
      · rw [if_neg (by rw [hw]; simp)] at hwl
        exact next _ wx (put_size _ _ _) hwl
  case fin =>
    rintro f b wx ⟨s1, s9, s, s4, s7, s8⟩ hall
    have hall' : ∀ i, i < l.length → f i = true := fun i hi => hall i (by simpa using hi)
    have hdr : l.length ≤ k + s := by
      rcases Nat.lt_or_ge (k + s) l.length with h | h
      · have := (s4 (k + s) (by omega) h).1 (hall' _ h)
        omega
      · exact h
    rcases Nat.eq_zero_or_pos s with hs0 | hs0
    · have := hB.kl
      omega
    · have := (s8 hs0).2
      rw [List.drop_eq_nil_of_le hdr] at this
      exact this

end Go.Proofs.Ytlmmincpjflkdaa

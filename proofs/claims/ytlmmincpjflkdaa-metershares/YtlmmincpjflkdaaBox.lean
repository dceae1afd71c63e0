/- A region that draws its order, whose operations read or call what makes new memory alone, but for one: a new block that is made at any time and filled with one of the values. One walk, in the order of the text, serves every order. -/
import Derived.Test.YtlmmincpjflkdaaGrT
import Derived.Test.YtlmmincpjflkdaaRegB
import Derived.Laws.Tables
namespace Go.Proofs.Ytlmmincpjflkdaa
open Go.RowKit
set_option linter.unusedVariables false

/-- each slot is written by one operation; what an operation reads is written by one that it waits for; slot p by the block's maker ka, read by the filler ks alone -/
def boxOk (ops : Array Oper) (ka ks p n : Nat) : Bool :=
  topOkB ops && ops.all (fun o => o.guard.isNone) && Region.noSelect ops &&
  ((List.range ops.size).all fun i => match ops[i]? with
    | some o => (match o.dst with | some s => decide (s < n) | none => true) &&
      ((List.range ops.size).all fun j => match ops[j]? with
        | some o' => (i == j || (match o.dst with | some s => !(o'.dst == some s) | none => true)) && (o.op.operands.all fun x => match x with
            | .tmp s => !(o'.dst == some s) || ((o.after.any fun e => e.on == j && Region.binds .any e) && (!(j == ka) || i == ks))
            | _ => true)
        | none => true)
    | none => true)

structure BoxOk (ops : Array Oper) (ka ks n : Nat) : Prop where
  lt : ∀ (i : Nat) (o : Oper) (s : Nat), ops[i]? = some o → o.dst = some s → s < n
  one : ∀ (i j : Nat) (o o' : Oper) (s : Nat), ops[i]? = some o → ops[j]? = some o' → o.dst = some s → o'.dst = some s → i = j
  reads : ∀ (i j : Nat) (o o' : Oper) (s : Nat), ops[i]? = some o → ops[j]? = some o' → Operand.tmp s ∈ o.op.operands → o'.dst = some s → (∃ e ∈ o.after, e.on = j ∧ Region.binds .any e = true) ∧ (j = ka → i = ks)

theorem at_lt {α : Type} {ops : Array α} {i : Nat} {o : α} (h : ops[i]? = some o) : i < ops.size := by
  rcases Nat.lt_or_ge i ops.size with h' | h'
  · exact h'
  · rw [Array.getElem?_eq_none h'] at h; cases h

theorem boxOk_spec {ops : Array Oper} {ka ks p n : Nat} (h : boxOk ops ka ks p n = true) : topOkB ops = true ∧ ops.all (fun o => o.guard.isNone) = true ∧ Region.noSelect ops = true ∧ BoxOk ops ka ks n := by
  unfold boxOk at h
  simp only [Bool.and_eq_true] at h
  obtain ⟨⟨⟨h1, h2⟩, h3⟩, h4⟩ := h
  refine ⟨h1, h2, h3, ?_⟩
  have key : ∀ (i : Nat) (o : Oper), ops[i]? = some o → (match o.dst with | some s => decide (s < n) | none => true) = true ∧ ∀ (j : Nat) (o' : Oper), ops[j]? = some o' → (i == j || (match o.dst with | some s => !(o'.dst == some s) | none => true)) = true ∧ ∀ x ∈ o.op.operands, (match x with
            | Operand.tmp s => !(o'.dst == some s) || ((o.after.any fun e => e.on == j && Region.binds .any e) && (!(j == ka) || i == ks))
            | _ => true) = true := by
    intro i o ho
    have a1 := List.all_eq_true.1 h4 i (List.mem_range.2 (at_lt ho))
    rw [ho] at a1
    simp only [Bool.and_eq_true] at a1
    refine ⟨a1.1, fun j o' hj => ?_⟩
    have a2 := List.all_eq_true.1 a1.2 j (List.mem_range.2 (at_lt hj))
    rw [hj] at a2
    simp only [Bool.and_eq_true] at a2
    exact ⟨a2.1, fun x hx => (Array.all_eq_true'.1 a2.2) x hx⟩
  refine ⟨?_, ?_, ?_⟩
  · intro i o s ho hs
    have := (key i o ho).1
    rw [hs] at this
    exact of_decide_eq_true this
  · intro i j o o' s ho hj hs hs'
    have := ((key i o ho).2 j o' hj).1
    rw [hs, hs'] at this
    simp at this
    exact this
  · intro i j o o' s ho hj hx hs'
    have := ((key i o ho).2 j o' hj).2 _ hx
    simp only [hs', beq_self_eq_true, Bool.not_true, Bool.false_or, Bool.and_eq_true, Array.any_eq_true', Bool.or_eq_true, beq_iff_eq, Bool.not_eq_true', beq_eq_false_iff_ne] at this
    obtain ⟨⟨e, he, h5, h6⟩, h7⟩ := this
    refine ⟨⟨e, he, h5, h6⟩, fun hk => ?_⟩
    rcases h7 with h7 | h7
    · exact absurd hk h7
    · exact h7

/-- what the walk in the order of the text shows, said of its last frame -/
theorem lex_last {P : Program} {ops : Array Oper} {C : World → Prop} {A : Act} (hsel : ∀ (o : Oper) cs b, o ∈ ops → o.op ≠ .select cs b) (n : Nat) : ∀ (l : List Oper) (a : Act), (∀ o ∈ l, o ∈ ops) → (∀ o ∈ l, o.guard = none) → (∀ o ∈ l, ∀ s, o.dst = some s → s < a.tmps.size) →
    l.Pairwise (fun o o' => (∀ s, o.dst = some s → o'.dst ≠ some s) ∧ (∀ s, Operand.tmp s ∈ o.op.operands → o'.dst ≠ some s)) → (∀ o ∈ l, ∀ s, Operand.tmp s ∈ o.op.operands → o.dst ≠ some s) →
    wpQuiet P ops C (fun a' => a' = A) l a →
    A.tmps.size = a.tmps.size ∧ A.defers = a.defers ∧ (∀ s, (∀ o ∈ l, o.dst ≠ some s) → A.tmps[s]? = a.tmps[s]?) ∧ ∀ o ∈ l, ∃ v, (∀ s, o.dst = some s → A.eval (.tmp s) = v) ∧ ∀ w, C w → o.quietAt P A C w v
  | [], a, _, _, _, _, _, h => by
    have h : a = A := h
    subst h
    exact ⟨rfl, rfl, fun _ _ => rfl, fun o ho => by cases ho⟩
  | o :: l, a, hm, hg, hlt, hp, hself, h => by
    rw [List.pairwise_cons] at hp
    have hw : Region.wanted o (yielded ops a.tmps) = true := by
      unfold Region.wanted
      rw [hg o (by simp)]
    unfold wpQuiet at h
    rw [if_pos hw] at h
    obtain ⟨v, hv, hn⟩ := h
    have hsz : (a.put o.dst v).tmps.size = a.tmps.size := by
      cases o.dst <;> simp [Act.put]
    obtain ⟨i1, i2, i3, i4⟩ := lex_last hsel n l (a.put o.dst v) (fun x hx => hm x (by simp [hx])) (fun x hx => hg x (by simp [hx])) (fun x hx s hs => by rw [hsz]; exact hlt x (by simp [hx]) s hs) hp.2 (fun x hx => hself x (by simp [hx])) hn
    have hd : (a.put o.dst v).defers = a.defers := by cases o.dst <;> rfl
    have out : ∀ s, (∀ x ∈ o :: l, x.dst ≠ some s) → A.tmps[s]? = a.tmps[s]? := by
      intro s hs
      rw [i3 s (fun x hx => hs x (by simp [hx]))]
      cases hq : o.dst with
      | none => rfl
      | some d =>
        have : d ≠ s := fun e => hs o (by simp) (by rw [hq, e])
        simp [Act.put, Array.getElem?_setIfInBounds_ne this]
    refine ⟨i1.trans hsz, i2.trans hd, out, ?_⟩
    intro x hx
    rcases List.mem_cons.1 hx with rfl | hx
    · refine ⟨v, ?_, ?_⟩
      · intro s hs
        have h1 : A.tmps[s]? = (a.put x.dst v).tmps[s]? := i3 s (fun y hy => (hp.1 y hy).1 s hs)
        have h2 := hlt x (by simp) s hs
        rw [hs] at h1
        simp only [Act.eval, Array.getD_eq_getD_getElem?]
        rw [h1]
        simp [Act.put, h2]
      · intro w hC
        have := hv w hC
        unfold Oper.quietAt at this ⊢
        rwa [execOp_congr x (fun cs b => hsel x cs b (hm x (by simp))) (ρ := A.eval) (ρ' := a.eval) ?_]
        intro y hy
        cases y with
        | tmp s =>
          have h1 := out s (fun z hz => by
            rcases List.mem_cons.1 hz with rfl | hz
            · exact hself z (by simp) s hy
            · exact (hp.1 z hz).2 s hy)
          simp only [Act.eval, Array.getD_eq_getD_getElem?]
          rw [h1]
        | _ => rfl
    · exact i4 x hx

/-- all operations but two -/
def boxRest (l : List Oper) (ka ks : Nat) : List Oper := (l.eraseIdx ks).eraseIdx ka
theorem boxRest_mem {l : List Oper} {ka ks i : Nat} {o : Oper} (hk : ka < ks) (h : l[i]? = some o) (h1 : i ≠ ka) (h2 : i ≠ ks) : o ∈ boxRest l ka ks := by
  unfold boxRest
  rw [List.mem_eraseIdx_iff_getElem?]
  rcases Nat.lt_or_gt_of_ne h2 with h' | h'
  · exact ⟨i, h1, by rw [List.getElem?_eraseIdx, if_pos h']; exact h⟩
  · refine ⟨i - 1, by omega, ?_⟩
    rw [List.getElem?_eraseIdx, if_neg (by omega), show i - 1 + 1 = i by omega]
    exact h
theorem boxRest_sub (l : List Oper) (ka ks : Nat) : (boxRest l ka ks).Sublist l := (List.eraseIdx_sublist _ _).trans (List.eraseIdx_sublist _ _)

theorem wp_region_box {P : Program} {id : Nat} {Q : Exit → Act → World → Prop} {a : Act} {w : World} {l : List Oper} (ka ks p q : Nat) (t : TypeId) (z cs : Array Value) (A : Act) (hk : ka < ks) (hpq : p ≠ q)
    (hm : P.follows .mixedOrders = true) (hok : boxOk l.toArray ka ks p a.tmps.size = true)
    (hka : (l[ka]?).map (fun o => (o.dst, match o.op with | .alloc t' => some t' | _ => none)) = some (some p, some t))
    (hks : (l[ks]?).map (fun o => (o.dst, match o.op with | .store t' (.tmp x) (.tmp y) => some (t', x, y) | _ => none)) = some (none, some (t, p, q)))
    (hz : ∀ w, (zeroValue t).run P w = .ok (.agg z) w) (hzs : z.size = cs.size) (hi : (P.info? t).map (·.size) = some cs.size) (hone : cs.all (·.oneCell') = true)
    (hlex : ∀ x : Gb w, wpQuiet P l.toArray (fun w' => ∃ y : Gb x.w, w' = y.w) (fun a' => a' = A) (boxRest l ka ks) a)
    (hq : A.eval (.tmp q) = .agg cs)
    (fin : ∀ (b : Nat) (w' : World), Below w.heap.size w w' → w.heap.size ≤ b → w'.heap[b]? = some (.cells cs t (0, 0)) → Q .normal (A.put (some p) (.pointer (some ⟨b, 0, none⟩))) w') : (Code.region id l.toArray true).wp P Q a w := by
  obtain ⟨htop, hng, hns, hB⟩ := boxOk_spec hok
  have htop' := topOkB_spec htop
  obtain ⟨oa, hoa, da, ea⟩ : ∃ oa, l[ka]? = some oa ∧ oa.dst = some p ∧ oa.op = .alloc t := by
    cases h : l[ka]? with
    | none => rw [h] at hka; cases hka
    | some o =>
      rw [h] at hka
      simp only [Option.map_some, Option.some.injEq, Prod.mk.injEq] at hka
      refine ⟨o, rfl, hka.1, ?_⟩
      have h2 := hka.2
      split at h2
      · rename_i t' ht; rw [ht, Option.some.inj h2]
      · cases h2
  obtain ⟨os, hos, ds, es⟩ : ∃ os, l[ks]? = some os ∧ os.dst = none ∧ os.op = .store t (.tmp p) (.tmp q) := by
    cases h : l[ks]? with
    | none => rw [h] at hks; cases hks
    | some o =>
      rw [h] at hks
      simp only [Option.map_some, Option.some.injEq, Prod.mk.injEq] at hks
      refine ⟨o, rfl, hks.1, ?_⟩
      have h2 := hks.2
      split at h2
      · rename_i t' x y ht
        simp only [Option.some.injEq, Prod.mk.injEq] at h2
        obtain ⟨rfl, rfl, rfl⟩ := h2
        exact ht
      · cases h2
  have hsel : ∀ (o : Oper) cs b, o ∈ l.toArray → o.op ≠ .select cs b := by
    intro o cs b ho
    obtain ⟨j, hj⟩ := Array.getElem?_of_mem ho
    exact Region.noSelect_spec hns j o cs b hj
  have hgn : ∀ o ∈ l, o.guard = none := by
    intro o ho
    have := (Array.all_eq_true'.1 hng) o (by simpa using ho)
    simpa using this
  have hsub := boxRest_sub l ka ks
  have arr : ∀ i : Nat, l.toArray[i]? = l[i]? := fun i => by rw [List.getElem?_toArray]
  have hpw : l.Pairwise (fun o o' => (∀ s, o.dst = some s → o'.dst ≠ some s) ∧ (∀ s, Operand.tmp s ∈ o.op.operands → o'.dst ≠ some s)) := by
    rw [List.pairwise_iff_getElem]
    intro i j h1 h2 hij
    have e1 : l.toArray[i]? = some l[i] := by rw [arr]; exact List.getElem?_eq_getElem h1
    have e2 : l.toArray[j]? = some l[j] := by rw [arr]; exact List.getElem?_eq_getElem h2
    refine ⟨fun s hs hs' => ?_, fun s hs hs' => ?_⟩
    · have := hB.one i j _ _ s e1 e2 hs hs'
      omega
    · obtain ⟨⟨e, he, h3, h4⟩, _⟩ := hB.reads i j _ _ s e1 e2 hs hs'
      have := htop' i _ e1 e he h4
      omega
  have hself : ∀ o ∈ l, ∀ s, Operand.tmp s ∈ o.op.operands → o.dst ≠ some s := by
    intro o ho s hs hs'
    obtain ⟨i, hi'⟩ := List.getElem?_of_mem ho
    have e1 : l.toArray[i]? = some o := by rw [arr]; exact hi'
    obtain ⟨⟨e, he, h3, h4⟩, _⟩ := hB.reads i i _ _ s e1 e1 hs hs'
    have := htop' i _ e1 e he h4
    omega
  have hlt : ∀ o ∈ l, ∀ s, o.dst = some s → s < a.tmps.size := by
    intro o ho s hs
    obtain ⟨i, hi'⟩ := List.getElem?_of_mem ho
    exact hB.lt i o s (by rw [arr]; exact hi') hs
  have lex := fun x : Gb w => lex_last (P := P) (ops := l.toArray) (C := fun w' => ∃ y : Gb x.w, w' = y.w) (A := A) hsel 0 (boxRest l ka ks) a (fun o ho => by simpa using hsub.subset ho) (fun o ho => hgn o (hsub.subset ho)) (fun o ho => hlt o (hsub.subset ho)) (hpw.sublist hsub) (fun o ho => hself o (hsub.subset ho)) (hlex x)
  obtain ⟨sz, df, out, _⟩ := lex ⟨w, Below.refl _ _⟩
  refine wp_region_invB0 hm htop hng (fun f b wx => b.tmps.size = A.tmps.size ∧ b.defers = A.defers ∧
    (∀ s, (∀ j o, l[j]? = some o → f j = true → o.dst ≠ some s) → b.tmps[s]? = a.tmps[s]?) ∧
    (∀ j o s, l[j]? = some o → f j = true → j ≠ ka → o.dst = some s → b.eval (.tmp s) = A.eval (.tmp s)) ∧
    Below w.heap.size w wx ∧ (f ks = true → f ka = true) ∧
    (f ka = true → ∃ g, b.eval (.tmp p) = .pointer (some ⟨g, 0, none⟩) ∧ w.heap.size ≤ g ∧ wx.heap[g]? = some (.cells (if f ks = true then cs else z) t (0, 0)))) ?start ?step ?fin
  case start => exact ⟨sz.symm, df.symm, fun s _ => rfl, fun j o s _ h => by simp at h, (Below.refl _ _).drew, fun h => by simp at h, fun h => by simp at h⟩
  case step =>
    rintro f b wx i o ⟨s1, s2, s3, s4, s5, s6, s7⟩ ho hf hd
    rw [arr] at ho
    have rd : ∀ s, Operand.tmp s ∈ o.op.operands → s ≠ p → b.eval (.tmp s) = A.eval (.tmp s) := by
      intro s hs hsp
      by_cases hw : ∃ (j : Nat) (o' : Oper), l[j]? = some o' ∧ o'.dst = some s
      · obtain ⟨j, o', hj, hs'⟩ := hw
        obtain ⟨⟨e, he, h3, h4⟩, _⟩ := hB.reads i j o o' s (by rw [arr]; exact ho) (by rw [arr]; exact hj) hs hs'
        have hfj := hd e he h4
        rw [h3] at hfj
        refine s4 j o' s hj hfj ?_ hs'
        rintro rfl
        rw [hoa] at hj
        have := Option.some.inj hj
        rw [← this, da] at hs'
        exact hsp (Option.some.inj hs').symm
      · have h1 := s3 s (fun j o' hj _ hs' => hw ⟨j, o', hj, hs'⟩)
        have h2 := out s (fun o' ho' hs' => by
          obtain ⟨j, hj⟩ := List.getElem?_of_mem (hsub.subset ho')
          exact hw ⟨j, o', hj, hs'⟩)
        simp only [Act.eval, Array.getD_eq_getD_getElem?]
        rw [h1, h2]
    have u1 : upd f i i = true := by simp [upd]
    have u2 : ∀ j, j ≠ i → upd f i j = f j := fun j hj => by simp [upd, hj]
    have put3 : ∀ v, ∀ s, (∀ j o', l[j]? = some o' → upd f i j = true → o'.dst ≠ some s) → (b.put o.dst v).tmps[s]? = a.tmps[s]? := by
      intro v s hs
      have hne : o.dst ≠ some s := hs i o ho u1
      have h1 : (b.put o.dst v).tmps[s]? = b.tmps[s]? := by
        cases hq' : o.dst with
        | none => rfl
        | some d =>
          have : d ≠ s := fun e => hne (by rw [hq', e])
          simp [Act.put, Array.getElem?_setIfInBounds_ne this]
      rw [h1]
      refine s3 s (fun j o' hj hfj => hs j o' hj ?_)
      by_cases e : j = i
      · rw [e]; exact u1
      · rw [u2 j e]; exact hfj
    have hsz : ∀ v, (b.put o.dst v).tmps.size = A.tmps.size := fun v => by rw [← s1]; cases o.dst <;> simp [Act.put]
    have hdf : ∀ v, (b.put o.dst v).defers = A.defers := fun v => by rw [← s2]; cases o.dst <;> rfl
    have evo : ∀ v s, o.dst ≠ some s → (b.put o.dst v).eval (.tmp s) = b.eval (.tmp s) := by
      intro v s hs
      cases hq' : o.dst with
      | none => rfl
      | some d => exact eval_put_ne _ _ _ _ (fun e => hs (by rw [hq', e]))
    by_cases ia : i = ka
    · subst ia
      rw [hoa] at ho
      obtain rfl := Option.some.inj ho
      have hks' : f ks = false := by
        cases h : f ks with
        | false => rfl
        | true => rw [s6 h] at hf; cases hf
      refine wp_alloc t ea (.agg z) hz ?_
      have hp : (b.put oa.dst (.pointer (some ⟨wx.heap.size, 0, none⟩))).eval (.tmp p) = .pointer (some ⟨wx.heap.size, 0, none⟩) := by
        rw [da]
        exact eval_put_same _ _ _ (by rw [s1, sz]; exact hlt oa (List.mem_of_getElem? hoa) p da)
      refine ⟨hsz _, hdf _, put3 _, ?_, s5.alloc s5.size _, fun _ => u1, fun _ => ⟨wx.heap.size, hp, s5.size, ?_⟩⟩
      · intro j o' s hj hfj hji hs
        rw [u2 j hji] at hfj
        rw [evo _ s (fun e => hji (hB.one j i o' oa s (by rw [arr]; exact hj) (by rw [arr]; exact hoa) hs e))]
        exact s4 j o' s hj hfj hji hs
      · rw [u2 ks (by omega), hks']
        exact heap_alloc_new wx _
    by_cases is : i = ks
    · subst is
      rw [hos] at ho
      obtain rfl := Option.some.inj ho
      have hfa : f ka = true := by
        obtain ⟨⟨e, he, h3, h4⟩, _⟩ := hB.reads i ka os oa p (by rw [arr]; exact hos) (by rw [arr]; exact hoa) (by rw [es]; simp [Op.operands]) da
        rw [← h3]
        exact hd e he h4
      obtain ⟨g, g1, g2, g3⟩ := s7 hfa
      rw [hf] at g3
      have hqv : b.eval (.tmp q) = .agg cs := by rw [rd q (by rw [es]; simp [Op.operands]) (fun e => hpq e.symm)]; exact hq
      refine wp_store_row t (.tmp p) (.tmp q) es g cs g1 hqv t z g3 hi hzs hone ?_
      have hbw : Below w.heap.size w (wx.setRow g cs) := ⟨s5.os, s5.tape, s5.output, by simpa [World.setRow] using s5.size, fun k hk' => (setRow_other wx g k cs (by omega)).trans (s5.block k hk')⟩
      refine ⟨hsz _, hdf _, put3 _, ?_, hbw, fun _ => by rw [u2 ka (fun e => ia e.symm)]; exact hfa, fun _ => ⟨g, ?_, g2, ?_⟩⟩
      · intro j o' s hj hfj hji hs
        have hji' : j ≠ i := by
          rintro rfl
          rw [hos] at hj
          have := Option.some.inj hj
          rw [← this, ds] at hs
          cases hs
        rw [u2 j hji'] at hfj
        rw [evo _ s (by rw [ds]; simp)]
        exact s4 j o' s hj hfj hji hs
      · rw [evo _ p (by rw [ds]; simp)]
        exact g1
      · rw [if_pos u1]
        exact setRow_heap wx g z _ t _ g3
    have hmem := boxRest_mem hk ho ia is
    obtain ⟨_, _, _, each⟩ := lex ⟨wx, s5⟩
    obtain ⟨v, hv1, hv2⟩ := each o hmem
    have hpo : o.dst ≠ some p := fun e => ia (hB.one i ka o oa p (by rw [arr]; exact ho) (by rw [arr]; exact hoa) e da)
    have hquiet : o.quiet P b (fun w' => ∃ y : Gb wx, w' = y.w) (fun c => c = b.put o.dst v) := by
      refine ⟨v, fun w' hw' => ?_, rfl⟩
      have := hv2 w' hw'
      unfold Oper.quietAt at this ⊢
      rwa [execOp_congr o (fun cs' b' => hsel o cs' b' (by simpa using List.mem_of_getElem? ho)) (ρ := b.eval) (ρ' := A.eval) ?_]
      intro y hy
      cases y with
      | tmp s =>
        refine rd s hy ?_
        rintro rfl
        have := (hB.reads i ka o oa s (by rw [arr]; exact ho) (by rw [arr]; exact hoa) hy da).2 rfl
        exact is this
      | _ => rfl
    refine Oper.wp_of_quiet (C := fun w' => ∃ y : Gb wx, w' = y.w) ⟨⟨wx, Below.refl _ _⟩, rfl⟩ ?_ hquiet
    rintro c w' ⟨⟨_, hb'⟩, rfl⟩ rfl
    refine ⟨hsz _, hdf _, put3 _, ?_, s5.trans (hb'.mono s5.size), fun h => ?_, fun h => ?_⟩
    · intro j o' s hj hfj hji hs
      by_cases e : j = i
      · subst e
        rw [ho] at hj
        obtain rfl := Option.some.inj hj
        rw [hv1 s hs, hs]
        exact eval_put_same _ _ _ (by rw [s1, sz]; exact hlt o (List.mem_of_getElem? ho) s hs)
      · rw [u2 j e] at hfj
        rw [evo _ s (fun e' => e (hB.one j i o' o s (by rw [arr]; exact hj) (by rw [arr]; exact ho) hs e'))]
        exact s4 j o' s hj hfj hji hs
    · rw [u2 ks (fun e => is e.symm)] at h
      rw [u2 ka (fun e => ia e.symm)]
      exact s6 h
    · rw [u2 ka (fun e => ia e.symm)] at h
      obtain ⟨g, g1, g2, g3⟩ := s7 h
      refine ⟨g, by rw [evo _ p hpo]; exact g1, g2, ?_⟩
      rw [u2 ks (fun e => is e.symm)]
      exact (hb'.block g (at_lt g3)).trans g3
  case fin =>
    rintro f b wx ⟨s1, s2, s3, s4, s5, s6, s7⟩ hall
    obtain ⟨g, g1, g2, g3⟩ := s7 (hall ka (by simpa using List.getElem?_eq_some_iff.1 hoa |>.1))
    rw [hall ks (by simpa using List.getElem?_eq_some_iff.1 hos |>.1)] at g3
    have hb : b = A.put (some p) (.pointer (some ⟨g, 0, none⟩)) := by
      obtain ⟨bt, bd⟩ := b
      obtain ⟨At, Ad⟩ := A
      simp only at s1 s2
      subst s2
      simp only [Act.put, Act.mk.injEq, and_true]
      refine Array.ext_getElem? fun s => ?_
      have hps : p < At.size := by
        have := hlt oa (List.mem_of_getElem? hoa) p da
        rw [← sz] at this
        exact this
      by_cases e : p = s
      · subst e
        have hbp : p < bt.size := by rw [s1]; exact hps
        simp only [Act.eval, Array.getD_eq_getD_getElem?] at g1
        rw [Array.getElem?_eq_getElem hbp] at g1 ⊢
        simp only [Option.getD_some] at g1
        rw [g1]
        simp [hps]
      · rw [Array.getElem?_setIfInBounds_ne e]
        by_cases hw : ∃ (j : Nat) (o' : Oper), l[j]? = some o' ∧ o'.dst = some s
        · obtain ⟨j, o', hj, hs'⟩ := hw
          have hjk : j ≠ ka := by
            rintro rfl
            rw [hoa] at hj
            have := Option.some.inj hj
            rw [← this, da] at hs'
            exact e (Option.some.inj hs')
          have h1 := s4 j o' s hj (hall j (by simpa using List.getElem?_eq_some_iff.1 hj |>.1)) hjk hs'
          have h2 : s < At.size := by
            have := hlt o' (List.mem_of_getElem? hj) s hs'
            rw [← sz] at this
            exact this
          have h3 : s < bt.size := by rw [s1]; exact h2
          simp only [Act.eval, Array.getD_eq_getD_getElem?] at h1
          rw [Array.getElem?_eq_getElem h2, Array.getElem?_eq_getElem h3] at h1 ⊢
          simpa using h1
        · have h1 := s3 s (fun j o' hj _ hs' => hw ⟨j, o', hj, hs'⟩)
          have h2 := out s (fun o' ho' hs' => by
            obtain ⟨j, hj⟩ := List.getElem?_of_mem (hsub.subset ho')
            exact hw ⟨j, o', hj, hs'⟩)
          simp only at h1 h2
          rw [h1, h2]
    rw [hb]
    exact fin g wx s5 g2 g3

end Go.Proofs.Ytlmmincpjflkdaa

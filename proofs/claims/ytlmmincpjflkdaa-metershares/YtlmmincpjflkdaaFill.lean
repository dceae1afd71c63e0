/- A region that draws its order, whose operations read or call what makes new memory alone, but for one that fills a block that was there; what need not wait for that one looks at no memory. One walk, in the order of the text, serves every order. -/
import Derived.Test.YtlmmincpjflkdaaBox
namespace Go.Proofs.Ytlmmincpjflkdaa
open Go.RowKit
set_option linter.unusedVariables false

/-- an operation that looks at its operands alone -/
def pureOp (o : Oper) : Bool := match o.op with | .move _ => true | .assign _ => true | .extract _ _ => true | _ => false
theorem pure_quiet {P : Program} {o : Oper} {a : Act} {C : World → Prop} {w w' : World} {v : Value} (hp : pureOp o = true) (h : o.quietAt P a C w v) (C' : World → Prop) : o.quietAt P a C' w' v := by
  obtain ⟨dst, op, ty, pos, after, guard⟩ := o
  unfold Oper.quietAt at h ⊢
  cases op <;> simp only [pureOp] at hp <;> try (cases hp; done)
  case move x => simp [execOp, Oper.quietUpon] at h ⊢; exact h
  case assign x => simp [execOp, Oper.quietUpon] at h ⊢; exact h
  case extract x k =>
    simp only [execOp] at h ⊢
    cases hx : a.eval x with
    | tuple vs =>
      rw [hx] at h
      cases hk : vs[k]? with
      | none => simp [Instr.extract, hk, Oper.quietUpon] at h
      | some u => simp [Instr.extract, hk, Oper.quietUpon] at h ⊢; exact h
    | _ => rw [hx] at h; simp [Instr.extract, Oper.quietUpon] at h

def fillOk (ops : Array Oper) (ks : Nat) : Bool := match ops[ks]? with
  | some os => (List.range ops.size).all fun i => i == ks || (os.after.any fun e => e.on == i && Region.binds .any e) || (match ops[i]? with | some o => pureOp o | none => true)
  | none => false
theorem fillOk_spec {ops : Array Oper} {ks : Nat} (h : fillOk ops ks = true) {os : Oper} (hs : ops[ks]? = some os) {i : Nat} {o : Oper} (ho : ops[i]? = some o) (hi : i ≠ ks) : (∃ e ∈ os.after, e.on = i ∧ Region.binds .any e = true) ∨ pureOp o = true := by
  unfold fillOk at h
  rw [hs] at h
  have := List.all_eq_true.1 h i (List.mem_range.2 (at_lt ho))
  rw [ho] at this
  simp only [Bool.or_eq_true, beq_iff_eq, Array.any_eq_true', Bool.and_eq_true] at this
  rcases this with (h1 | ⟨e, he, h2, h3⟩) | h1
  · exact absurd h1 hi
  · exact .inl ⟨e, he, h2, h3⟩
  · exact .inr h1

theorem fillRest_mem {l : List Oper} {ks i : Nat} {o : Oper} (h : l[i]? = some o) (h2 : i ≠ ks) : o ∈ l.eraseIdx ks := by
  rw [List.mem_eraseIdx_iff_getElem?]
  exact ⟨i, h2, h⟩

theorem wp_region_fill {P : Program} {id : Nat} {Q : Exit → Act → World → Prop} {a : Act} {w : World} {l : List Oper} (ks p q g : Nat) (t t' : TypeId) (old cs : Array Value) (A : Act)
    (hm : P.follows .mixedOrders = true) (hok : boxOk l.toArray l.length ks p a.tmps.size = true) (hfo : fillOk l.toArray ks = true)
    (hks : (l[ks]?).map (fun o => (o.dst, match o.op with | .store t' (.tmp x) (.tmp y) => some (t', x, y) | _ => none)) = some (none, some (t, p, q)))
    (hp : A.eval (.tmp p) = .pointer (some ⟨g, 0, none⟩)) (hg : w.heap[g]? = some (.cells old t' (0, 0)))
    (hzs : old.size = cs.size) (hi : (P.info? t).map (·.size) = some cs.size) (hone : cs.all (·.oneCell') = true)
    (hlex : ∀ x : Gb w, wpQuiet P l.toArray (fun w' => ∃ y : Gb x.w, w' = y.w) (fun a' => a' = A) (l.eraseIdx ks) a)
    (hq : A.eval (.tmp q) = .agg cs)
    (fin : ∀ (w' : World), Below w.heap.size w w' → Q .normal A (w'.setRow g cs)) : (Code.region id l.toArray true).wp P Q a w := by
  obtain ⟨htop, hng, hns, hB⟩ := boxOk_spec hok
  have htop' := topOkB_spec htop
  obtain ⟨os, hos, ds, es⟩ : ∃ os, l[ks]? = some os ∧ os.dst = none ∧ os.op = .store t (.tmp p) (.tmp q) := by
    cases h : l[ks]? with
    | none => rw [h] at hks; cases hks
    | some o =>
      rw [h] at hks
      simp only [Option.map_some, Option.some.injEq, Prod.mk.injEq] at hks
      refine ⟨o, rfl, hks.1, ?_⟩
      have h2 := hks.2
      split at h2
      · rename_i t' x y ht
        simp only [Option.some.injEq, Prod.mk.injEq] at h2
        obtain ⟨rfl, rfl, rfl⟩ := h2
        exact ht
      · cases h2
  have hsel : ∀ (o : Oper) cs b, o ∈ l.toArray → o.op ≠ .select cs b := by
    intro o cs b ho
    obtain ⟨j, hj⟩ := Array.getElem?_of_mem ho
    exact Region.noSelect_spec hns j o cs b hj
  have hgn : ∀ o ∈ l, o.guard = none := by
    intro o ho
    have := (Array.all_eq_true'.1 hng) o (by simpa using ho)
    simpa using this
  have hsub : (l.eraseIdx ks).Sublist l := List.eraseIdx_sublist _ _
  have arr : ∀ i : Nat, l.toArray[i]? = l[i]? := fun i => by rw [List.getElem?_toArray]
  have hpw : l.Pairwise (fun o o' => (∀ s, o.dst = some s → o'.dst ≠ some s) ∧ (∀ s, Operand.tmp s ∈ o.op.operands → o'.dst ≠ some s)) := by
    rw [List.pairwise_iff_getElem]
    intro i j h1 h2 hij
    have e1 : l.toArray[i]? = some l[i] := by rw [arr]; exact List.getElem?_eq_getElem h1
    have e2 : l.toArray[j]? = some l[j] := by rw [arr]; exact List.getElem?_eq_getElem h2
    refine ⟨fun s hs hs' => ?_, fun s hs hs' => ?_⟩
    · have := hB.one i j _ _ s e1 e2 hs hs'
      omega
    · obtain ⟨⟨e, he, h3, h4⟩, _⟩ := hB.reads i j _ _ s e1 e2 hs hs'
      have := htop' i _ e1 e he h4
      omega
  have hself : ∀ o ∈ l, ∀ s, Operand.tmp s ∈ o.op.operands → o.dst ≠ some s := by
    intro o ho s hs hs'
    obtain ⟨i, hi'⟩ := List.getElem?_of_mem ho
    have e1 : l.toArray[i]? = some o := by rw [arr]; exact hi'
    obtain ⟨⟨e, he, h3, h4⟩, _⟩ := hB.reads i i _ _ s e1 e1 hs hs'
    have := htop' i _ e1 e he h4
    omega
  have hlt : ∀ o ∈ l, ∀ s, o.dst = some s → s < a.tmps.size := by
    intro o ho s hs
    obtain ⟨i, hi'⟩ := List.getElem?_of_mem ho
    exact hB.lt i o s (by rw [arr]; exact hi') hs
  have lex := fun x : Gb w => lex_last (P := P) (ops := l.toArray) (C := fun w' => ∃ y : Gb x.w, w' = y.w) (A := A) hsel 0 (l.eraseIdx ks) a (fun o ho => by simpa using hsub.subset ho) (fun o ho => hgn o (hsub.subset ho)) (fun o ho => hlt o (hsub.subset ho)) (hpw.sublist hsub) (fun o ho => hself o (hsub.subset ho)) (hlex x)
  obtain ⟨sz, df, out, each0⟩ := lex ⟨w, Below.refl _ _⟩
  refine wp_region_invB0 hm htop hng (fun f b wx => b.tmps.size = A.tmps.size ∧ b.defers = A.defers ∧
    (∀ s, (∀ j o, l[j]? = some o → f j = true → o.dst ≠ some s) → b.tmps[s]? = a.tmps[s]?) ∧
    (∀ j o s, l[j]? = some o → f j = true → o.dst = some s → b.eval (.tmp s) = A.eval (.tmp s)) ∧
    (f ks = false → Below w.heap.size w wx) ∧ (f ks = true → (∀ e ∈ os.after, Region.binds .any e = true → f e.on = true) ∧ ∃ w', Below w.heap.size w w' ∧ wx = w'.setRow g cs)) ?start ?step ?fin
  case start => exact ⟨sz.symm, df.symm, fun s _ => rfl, fun j o s _ h => by simp at h, fun _ => (Below.refl _ _).drew, fun h => by simp at h⟩
  case step =>
    rintro f b wx i o ⟨s1, s2, s3, s4, s5, s6⟩ ho hf hd
    rw [arr] at ho
    have rd : ∀ s, Operand.tmp s ∈ o.op.operands → b.eval (.tmp s) = A.eval (.tmp s) := by
      intro s hs
      by_cases hw : ∃ (j : Nat) (o' : Oper), l[j]? = some o' ∧ o'.dst = some s
      · obtain ⟨j, o', hj, hs'⟩ := hw
        obtain ⟨⟨e, he, h3, h4⟩, _⟩ := hB.reads i j o o' s (by rw [arr]; exact ho) (by rw [arr]; exact hj) hs hs'
        have hfj := hd e he h4
        rw [h3] at hfj
        exact s4 j o' s hj hfj hs'
      · have h1 := s3 s (fun j o' hj _ hs' => hw ⟨j, o', hj, hs'⟩)
        have h2 := out s (fun o' ho' hs' => by
          obtain ⟨j, hj⟩ := List.getElem?_of_mem (hsub.subset ho')
          exact hw ⟨j, o', hj, hs'⟩)
        simp only [Act.eval, Array.getD_eq_getD_getElem?]
        rw [h1, h2]
    have u1 : upd f i i = true := by simp [upd]
    have u2 : ∀ j, j ≠ i → upd f i j = f j := fun j hj => by simp [upd, hj]
    have u3 : ∀ j, f j = true → upd f i j = true := fun j hj => by
      by_cases e : j = i
      · rw [e]; exact u1
      · rw [u2 j e]; exact hj
    have put3 : ∀ v, ∀ s, (∀ j o', l[j]? = some o' → upd f i j = true → o'.dst ≠ some s) → (b.put o.dst v).tmps[s]? = a.tmps[s]? := by
      intro v s hs
      have hne : o.dst ≠ some s := hs i o ho u1
      have h1 : (b.put o.dst v).tmps[s]? = b.tmps[s]? := by
        cases hq' : o.dst with
        | none => rfl
        | some d =>
          have : d ≠ s := fun e => hne (by rw [hq', e])
          simp [Act.put, Array.getElem?_setIfInBounds_ne this]
      rw [h1]
      exact s3 s (fun j o' hj hfj => hs j o' hj (u3 j hfj))
    have hsz : ∀ v, (b.put o.dst v).tmps.size = A.tmps.size := fun v => by rw [← s1]; cases o.dst <;> simp [Act.put]
    have hdf : ∀ v, (b.put o.dst v).defers = A.defers := fun v => by rw [← s2]; cases o.dst <;> rfl
    have evo : ∀ v s, o.dst ≠ some s → (b.put o.dst v).eval (.tmp s) = b.eval (.tmp s) := by
      intro v s hs
      cases hq' : o.dst with
      | none => rfl
      | some d => exact eval_put_ne _ _ _ _ (fun e => hs (by rw [hq', e]))
    by_cases is : i = ks
    · subst is
      rw [hos] at ho
      obtain rfl := Option.some.inj ho
      have hpv : b.eval (.tmp p) = .pointer (some ⟨g, 0, none⟩) := by rw [rd p (by rw [es]; simp [Op.operands])]; exact hp
      have hqv : b.eval (.tmp q) = .agg cs := by rw [rd q (by rw [es]; simp [Op.operands])]; exact hq
      have hbl := s5 hf
      have hgx : wx.heap[g]? = some (.cells old t' (0, 0)) := (hbl.block g (at_lt hg)).trans hg
      refine wp_store_row t (.tmp p) (.tmp q) es g cs hpv hqv t' old hgx hi hzs hone ?_
      refine ⟨hsz _, hdf _, put3 _, ?_, fun h => (by rw [u1] at h; cases h), fun _ => ⟨fun e he hb => u3 _ (hd e he hb), wx, hbl, rfl⟩⟩
      intro j o' s hj hfj hs
      have hji' : j ≠ i := by
        rintro rfl
        rw [hos] at hj
        have := Option.some.inj hj
        rw [← this, ds] at hs
        cases hs
      rw [u2 j hji'] at hfj
      rw [evo _ s (by rw [ds]; simp)]
      exact s4 j o' s hj hfj hs
    have hmem := fillRest_mem ho is
    have close : ∀ v, (∀ s, o.dst = some s → A.eval (.tmp s) = v) → ∀ j o' s, l[j]? = some o' → upd f i j = true → o'.dst = some s → (b.put o.dst v).eval (.tmp s) = A.eval (.tmp s) := by
      intro v hv1 j o' s hj hfj hs
      by_cases e : j = i
      · subst e
        rw [ho] at hj
        obtain rfl := Option.some.inj hj
        rw [hv1 s hs, hs]
        exact eval_put_same _ _ _ (by rw [s1, sz]; exact hlt o (List.mem_of_getElem? ho) s hs)
      · rw [u2 j e] at hfj
        rw [evo _ s (fun e' => e (hB.one j i o' o s (by rw [arr]; exact hj) (by rw [arr]; exact ho) hs e'))]
        exact s4 j o' s hj hfj hs
    have congr' : ∀ C w' v, o.quietAt P A C w' v → o.quietAt P b C w' v := by
      intro C w' v this
      unfold Oper.quietAt at this ⊢
      rwa [execOp_congr o (fun cs' b' => hsel o cs' b' (by simpa using List.mem_of_getElem? ho)) (ρ := b.eval) (ρ' := A.eval) ?_]
      intro y hy
      cases y with
      | tmp s => exact rd s hy
      | _ => rfl
    cases hfk : f ks with
    | false =>
      have hbl := s5 hfk
      obtain ⟨_, _, _, each⟩ := lex ⟨wx, hbl⟩
      obtain ⟨v, hv1, hv2⟩ := each o hmem
      have hquiet : o.quiet P b (fun w' => ∃ y : Gb wx, w' = y.w) (fun c => c = b.put o.dst v) := ⟨v, fun w' hw' => congr' _ _ _ (hv2 w' hw'), rfl⟩
      refine Oper.wp_of_quiet (C := fun w' => ∃ y : Gb wx, w' = y.w) ⟨⟨wx, Below.refl _ _⟩, rfl⟩ ?_ hquiet
      rintro c w' ⟨⟨_, hb'⟩, rfl⟩ rfl
      exact ⟨hsz _, hdf _, put3 _, close v hv1, fun _ => hbl.trans (hb'.mono hbl.size), fun h => by rw [u2 ks (fun e => is e.symm), hfk] at h; cases h⟩
    | true =>
      obtain ⟨hall, w', hb', hwx⟩ := s6 hfk
      have hpure : pureOp o = true := by
        rcases fillOk_spec hfo (by rw [arr]; exact hos) (by rw [arr]; exact ho) is with ⟨e, he, h2, h3⟩ | h
        · have := hall e he h3
          rw [h2, hf] at this
          cases this
        · exact h
      obtain ⟨v, hv1, hv2⟩ := each0 o hmem
      have hquiet : o.quiet P b (fun x => x = wx) (fun c => c = b.put o.dst v) := ⟨v, fun x hx => congr' _ _ _ (pure_quiet hpure (hv2 w ⟨⟨w, Below.refl _ _⟩, rfl⟩) _), rfl⟩
      refine Oper.wp_of_quiet (C := fun x => x = wx) rfl ?_ hquiet
      rintro c x rfl rfl
      exact ⟨hsz _, hdf _, put3 _, close v hv1, fun h => (by rw [u2 ks (fun e => is e.symm), hfk] at h; cases h), fun _ => ⟨fun e he hb => u3 _ (hall e he hb), w', hb', hwx⟩⟩
  case fin =>
    rintro f b wx ⟨s1, s2, s3, s4, s5, s6⟩ hall
    obtain ⟨_, w', hb', rfl⟩ := s6 (hall ks (by simpa using List.getElem?_eq_some_iff.1 hos |>.1))
    have hb : b = A := by
      obtain ⟨bt, bd⟩ := b
      obtain ⟨At, Ad⟩ := A
      simp only at s1 s2
      subst s2
      simp only [Act.mk.injEq, and_true]
      refine Array.ext_getElem? fun s => ?_
      by_cases hw : ∃ (j : Nat) (o' : Oper), l[j]? = some o' ∧ o'.dst = some s
      · obtain ⟨j, o', hj, hs'⟩ := hw
        have h1 := s4 j o' s hj (hall j (by simpa using List.getElem?_eq_some_iff.1 hj |>.1)) hs'
        have h2 : s < At.size := by
          have := hlt o' (List.mem_of_getElem? hj) s hs'
          rw [← sz] at this
          exact this
        have h3 : s < bt.size := by rw [s1]; exact h2
        simp only [Act.eval, Array.getD_eq_getD_getElem?] at h1
        rw [Array.getElem?_eq_getElem h2, Array.getElem?_eq_getElem h3] at h1 ⊢
        simpa using h1
      · have h1 := s3 s (fun j o' hj _ hs' => hw ⟨j, o', hj, hs'⟩)
        have h2 := out s (fun o' ho' hs' => by
          obtain ⟨j, hj⟩ := List.getElem?_of_mem (hsub.subset ho')
          exact hw ⟨j, o', hj, hs'⟩)
        simp only at h1 h2
        rw [h1, h2]
    rw [hb]
    exact fin w' hb'

end Go.Proofs.Ytlmmincpjflkdaa

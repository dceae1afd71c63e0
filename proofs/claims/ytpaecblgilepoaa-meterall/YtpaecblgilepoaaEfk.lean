/- A drawn region with three effects: new memory, a turn of it, a store; the others may look at what a predicate keeps. -/
import Derived.Test.YtpaecblgilepoaaEff
namespace Go.Proofs.Ytpaecblgilepoaa
open Go.RowKit
set_option linter.unusedVariables false

def effW (P : Program) (Q : Exit → Act → World → Prop) (F : World → Prop) : List Oper → Act → World → Prop
  | [], a, w => Q .normal a w
  | o :: r, a, w => o.wp P a w (fun a' w' => F w' ∧ effW P Q F r a' w') (OnlyN Q)
theorem wp_region_efk {P : Program} {id : Nat} {Q : Exit → Act → World → Prop} {a : Act} {w : World} {l : List Oper} (m : List Bool) (L : List Nat) (e0 : Nat) (A : Act) (o0 o1 o2 : Oper) (F : World → Prop)
    (hm : P.follows .mixedOrders = true) (hok : effOk l m L e0 a.tmps.size = true) (hle : effM m l = [o0, o1, o2])
    (hlex : ∀ x : Gb w, wpQuiet P l.toArray (fun w' => ∃ y : Gb x.w, w' = y.w) (fun a' => a' = A) (restM m l) a)
    (hfree : ∀ j ∈ L, ∀ o, l[j]? = some o → ∀ w', F w' → wpQuiet P l.toArray (fun x => x = w') (fun a' => a' = A) [o] A)
    (fin0 : ∀ (w' : World), Below w.heap.size w w' → wpList P l.toArray (OnlyN fun _ a1 w1 => Below w'.heap.size w' w1 ∧ wpList P l.toArray (OnlyN fun _ a2 w2 => F w2 ∧ wpList P l.toArray (OnlyN fun _ a3 w3 => F w3 ∧ Q .normal a3 w3) [o2] a2 w2) [o1] a1 w1) [o0] A w') : (Code.region id l.toArray true).wp P Q a w := by
  have hB := effOk_spec hok
  have htop' := topOkB_spec hB.top
  have hsel : ∀ (o : Oper) cs b, o ∈ l.toArray → o.op ≠ .select cs b := by
    intro o cs b ho
    obtain ⟨j, hj⟩ := Array.getElem?_of_mem ho
    exact Region.noSelect_spec hB.sel j o cs b hj
  have hgn : ∀ o ∈ l, o.guard = none := by
    intro o ho
    have := (Array.all_eq_true'.1 hB.ng) o (by simpa using ho)
    simpa using this
  have hin : ∀ o ∈ effM m l, o ∈ l := by
    have : ∀ (m : List Bool) (l : List Oper) (o : Oper), o ∈ effM m l → o ∈ l := by
      intro m
      induction m with
      | nil => intro l o h; cases h
      | cons b m ih =>
        intro l o h
        cases l with
        | nil => cases h
        | cons x l =>
          cases b with
          | true =>
            rcases List.mem_cons.1 h with rfl | h
            · exact List.mem_cons_self
            · exact List.mem_cons_of_mem _ (ih l o h)
          | false => exact List.mem_cons_of_mem _ (ih l o h)
    exact this m l
  have conv : ∀ (o : Oper), o ∈ l → ∀ (b : Act) (x : World) (K : Act → World → Prop), wpList P l.toArray (OnlyN fun _ a' w' => K a' w') [o] b x → o.wp P b x K (OnlyN Q) := by
    intro o ho b x K h
    unfold wpList at h
    rw [if_pos (by unfold Region.wanted; rw [hgn o ho])] at h
    rcases h with h | ⟨_, h⟩
    · exact wp_swap rfl (fun v w'' hK => hK) (fun d w'' hK => hK) h
    · exact absurd h (onlyN_out _)
  have fin : ∀ (w' : World), Below w.heap.size w w' → o0.wp P A w' (fun a'' w'' => Below w'.heap.size w' w'' ∧ effW P Q F [o1, o2] a'' w'') (OnlyN Q) := by
    intro w' hb
    refine Oper.wp_mono (fun a1 w1 h => ⟨h.1, ?_⟩) (conv o0 (hin o0 (by rw [hle]; simp)) A w' _ (fin0 w' hb))
    refine Oper.wp_mono (fun a2 w2 h => ⟨h.1, ?_⟩) (conv o1 (hin o1 (by rw [hle]; simp)) a1 w1 _ h.2)
    exact conv o2 (hin o2 (by rw [hle]; simp)) a2 w2 _ h.2
  have hsub : (restM m l).Sublist l := restM_sub _ _
  have arr : ∀ i : Nat, l.toArray[i]? = l[i]? := fun i => by rw [List.getElem?_toArray]
  have hpw : l.Pairwise (fun o o' => (∀ s, o.dst = some s → o'.dst ≠ some s) ∧ (∀ s, Operand.tmp s ∈ o.op.operands → o'.dst ≠ some s)) := by
    rw [List.pairwise_iff_getElem]
    intro i j h1 h2 hij
    have e1 : l[i]? = some l[i] := List.getElem?_eq_getElem h1
    have e2 : l[j]? = some l[j] := List.getElem?_eq_getElem h2
    refine ⟨fun s hs hs' => ?_, fun s hs hs' => ?_⟩
    · have := hB.one i j _ _ s e1 e2 hs hs'
      omega
    · obtain ⟨⟨e, he, h3, h4⟩, _⟩ := hB.reads i j _ _ s e1 e2 hs hs'
      have := htop' i _ (by rw [arr]; exact e1) e he h4
      omega
  have hself : ∀ o ∈ l, ∀ s, Operand.tmp s ∈ o.op.operands → o.dst ≠ some s := by
    intro o ho s hs hs'
    obtain ⟨i, e1⟩ := List.getElem?_of_mem ho
    obtain ⟨⟨e, he, h3, h4⟩, _⟩ := hB.reads i i _ _ s e1 e1 hs hs'
    have := htop' i _ (by rw [arr]; exact e1) e he h4
    omega
  have hlt : ∀ o ∈ l, ∀ s, o.dst = some s → s < a.tmps.size := by
    intro o ho s hs
    obtain ⟨i, hi'⟩ := List.getElem?_of_mem ho
    exact hB.lt i o s hi' hs
  have lex := fun x : Gb w => lex_last (P := P) (ops := l.toArray) (C := fun w' => ∃ y : Gb x.w, w' = y.w) (A := A) hsel 0 (restM m l) a (fun o ho => by simpa using hsub.subset ho) (fun o ho => hgn o (hsub.subset ho)) (fun o ho => hlt o (hsub.subset ho)) (hpw.sublist hsub) (fun o ho => hself o (hsub.subset ho)) (hlex x)
  obtain ⟨sz, df, out, each0⟩ := lex ⟨w, Below.refl _ _⟩
  have free : ∀ j ∈ L, ∀ o, l[j]? = some o → ∀ w', F w' → ∃ v, (∀ t, o.dst = some t → A.eval (.tmp t) = v) ∧ o.quietAt P A (fun x => x = w') w' v := by
    intro j hj o ho w' hF
    have h := hfree j hj o ho w' hF
    unfold wpQuiet at h
    rw [if_pos (by unfold Region.wanted; rw [hgn o (List.mem_of_getElem? ho)])] at h
    obtain ⟨v, h1, h2⟩ := h
    refine ⟨v, fun t ht => ?_, h1 w' rfl⟩
    have h2 : A.put o.dst v = A := h2
    rw [← h2, ht]
    simp only [Act.eval, Array.getD_eq_getD_getElem?]
    rw [put_tmps_same _ _ _ (by rw [sz]; exact hlt o (List.mem_of_getElem? ho) t ht)]
    rfl
  refine wp_region_invB0 hm hB.top hB.ng (fun f b wx => ∃ (As : Act) (c p : Nat), b.tmps.size = A.tmps.size ∧ As.tmps.size = A.tmps.size ∧ b.defers = As.defers ∧
    (∀ i, i < l.length → m[i]? = some true → (f i = true ↔ i < p)) ∧
    (∀ (i : Nat) (o : Oper), l[i]? = some o → f i = true → ∀ e ∈ o.after, Region.binds .any e = true → f e.on = true) ∧
    (∀ t, (∀ (i : Nat) (o : Oper), l[i]? = some o → m[i]? = some true → f i = true → o.dst ≠ some t) → As.tmps[t]? = A.tmps[t]?) ∧
    (∀ t, (∀ (j : Nat) (o : Oper), l[j]? = some o → m[j]? ≠ some true → o.dst = some t → f j = true) → b.tmps[t]? = As.tmps[t]?) ∧
    (c = 0 → As = A ∧ p = 0) ∧ (c ≤ 1 → Below w.heap.size w wx) ∧
    (0 < c → effW P Q F (effM (m.drop p) (l.drop p)) As wx ∧ e0 < p) ∧
    (0 < c → ∀ (j : Nat) (o : Oper), l[j]? = some o → m[j]? ≠ some true → f j = false → stillOp o = true) ∧
    (2 ≤ c → ∀ (j : Nat) (o : Oper), l[j]? = some o → m[j]? ≠ some true → f j = false → j ∈ L) ∧ (2 ≤ c → F wx)) ?start ?step ?fin
  case start =>
    refine ⟨A, 0, 0, sz.symm, rfl, df.symm, fun i _ _ => ?_, fun i o _ h => (by cases h), fun _ _ => rfl, fun t ht => ?_, fun _ => ⟨rfl, rfl⟩, fun _ => (Below.refl _ _).drew, fun h => absurd h (by omega), fun h => absurd h (by omega), fun h => absurd h (by omega), fun h => absurd h (by omega)⟩
    · constructor
      · intro h; cases h
      · intro h; omega
    · refine (out t (fun o ho hs => ?_)).symm
      obtain ⟨j, hj, hjm⟩ := restM_of m l o ho
      exact absurd (ht j o hj hjm hs) (by simp)
  case step =>
    rintro f b wx i o ⟨As, c, p, s1, s2, s3, s4, s9, s5, s6, s7, s7b, s8, s8a, s8b, s8c⟩ ho hf hd
    rw [arr] at ho
    have hil := (List.getElem?_eq_some_iff.1 ho).1
    have u1 : upd f i i = true := by simp [upd]
    have u2 : ∀ j, j ≠ i → upd f i j = f j := fun j hj => by simp [upd, hj]
    have u3 : ∀ j, f j = true → upd f i j = true := fun j hj => by
      by_cases e : j = i
      · rw [e]; exact u1
      · rw [u2 j e]; exact hj
    have closed : ∀ (i' : Nat) (o' : Oper), l[i']? = some o' → upd f i i' = true → ∀ e ∈ o'.after, Region.binds .any e = true → upd f i e.on = true := by
      intro i' o' a2 a3 e he hb
      by_cases ei : i' = i
      · subst ei
        rw [ho] at a2
        obtain rfl := Option.some.inj a2
        exact u3 _ (hd e he hb)
      · rw [u2 i' ei] at a3
        exact u3 _ (s9 i' o' a2 a3 e he hb)
    have done : ∀ j, waits l.toArray 8 i j = true → f j = true := fun j hw => waits_done (ops := l.toArray) (f := f) (fun i' o' h' => s9 i' o' (by rw [← arr]; exact h')) 8 i o (by rw [arr]; exact ho) hd hw
    -- what the operation reads is as in As
    have rdAs : ∀ t, Operand.tmp t ∈ o.op.operands → b.eval (.tmp t) = As.eval (.tmp t) := by
      intro t ht
      refine eval_of_tmps (s6 t (fun j o' hj hjm hs => ?_))
      obtain ⟨⟨e, he, h3, h4⟩, _⟩ := hB.reads i j o o' t ho hj ht hs
      have := hd e he h4
      rwa [h3] at this
    by_cases him : m[i]? = some true
    case neg =>
      -- no effect
      have rdA : ∀ t, Operand.tmp t ∈ o.op.operands → b.eval (.tmp t) = A.eval (.tmp t) := by
        intro t ht
        rw [rdAs t ht]
        refine eval_of_tmps (s5 t (fun j o' hj hjm hfj hs => ?_))
        rcases (hB.reads i j o o' t ho hj ht hs).2 with h | h
        · exact him h
        · exact h hjm
      have congr' : ∀ C w' v, o.quietAt P A C w' v → o.quietAt P b C w' v := by
        intro C w' v this
        unfold Oper.quietAt at this ⊢
        rwa [execOp_congr o (fun cs' b' => hsel o cs' b' (by simpa using List.mem_of_getElem? ho)) (ρ := b.eval) (ρ' := A.eval) ?_]
        intro y hy
        cases y with
        | tmp t => exact rdA t hy
        | _ => rfl
      have keep : ∀ v, (∀ t, o.dst = some t → A.eval (.tmp t) = v) → (b.put o.dst v).tmps.size = A.tmps.size ∧ As.tmps.size = A.tmps.size ∧ (b.put o.dst v).defers = As.defers ∧
          (∀ i', i' < l.length → m[i']? = some true → (upd f i i' = true ↔ i' < p)) ∧
          (∀ (i' : Nat) (o' : Oper), l[i']? = some o' → upd f i i' = true → ∀ e ∈ o'.after, Region.binds .any e = true → upd f i e.on = true) ∧
          (∀ t, (∀ (i' : Nat) (o' : Oper), l[i']? = some o' → m[i']? = some true → upd f i i' = true → o'.dst ≠ some t) → As.tmps[t]? = A.tmps[t]?) ∧
          (∀ t, (∀ (j : Nat) (o' : Oper), l[j]? = some o' → m[j]? ≠ some true → o'.dst = some t → upd f i j = true) → (b.put o.dst v).tmps[t]? = As.tmps[t]?) := by
        intro v hv
        refine ⟨by rw [put_size]; exact s1, s2, by rw [put_defers]; exact s3, fun i' h1 h2 => by rw [u2 i' (fun e => him (by rw [← e]; exact h2))]; exact s4 i' h1 h2, closed, fun t ht => s5 t (fun i' o' h1 h2 h3 => ht i' o' h1 h2 (u3 _ h3)), fun t ht => ?_⟩
        by_cases e : o.dst = some t
        · have hts : t < b.tmps.size := by rw [s1, sz]; exact hlt o (List.mem_of_getElem? ho) t e
          rw [e, put_tmps_same _ _ _ hts]
          have h1 : As.tmps[t]? = A.tmps[t]? := s5 t (fun i' o' h' hm' _ hs' => by
            have := hB.one i i' o o' t ho h' e hs'
            exact him (by rw [this]; exact hm'))
          rw [h1, tmps_of_eval (hv t e) (by rw [← s1]; exact hts)]
        · rw [put_tmps_ne _ _ _ _ e]
          refine s6 t (fun j o' hj hjm hs => ?_)
          have := ht j o' hj hjm hs
          by_cases ej : j = i
          · subst ej
            rw [ho] at hj
            rw [← Option.some.inj hj] at hs
            exact absurd hs e
          · rwa [u2 j ej] at this
      rcases Nat.eq_zero_or_pos c with hc | hc
      · -- no effect has run
        obtain ⟨_, _, _, each⟩ := lex ⟨wx, s7b (by omega)⟩
        obtain ⟨v, hv1, hv2⟩ := each o (restM_mem m l i o ho him)
        have hquiet : o.quiet P b (fun w' => ∃ y : Gb wx, w' = y.w) (fun c => c = b.put o.dst v) := ⟨v, fun w' hw' => congr' _ _ _ (hv2 w' hw'), rfl⟩
        refine Oper.wp_of_quiet (C := fun w' => ∃ y : Gb wx, w' = y.w) ⟨⟨wx, Below.refl _ _⟩, rfl⟩ ?_ hquiet
        rintro c' w' ⟨⟨_, hb'⟩, rfl⟩ rfl
        obtain ⟨k1, k2, k3, k4, k9, k5, k6⟩ := keep v hv1
        exact ⟨As, c, p, k1, k2, k3, k4, k9, k5, k6, s7, fun h => (s7b h).trans (hb'.mono (s7b h).size), fun h => absurd h (by omega), fun h => absurd h (by omega), fun h => absurd h (by omega), fun h => absurd h (by omega)⟩
      · obtain ⟨v, hv1, hv2⟩ : ∃ v, (∀ t, o.dst = some t → A.eval (.tmp t) = v) ∧ o.quietAt P A (fun x => x = wx) wx v := by
          by_cases hc1 : c ≤ 1
          case neg => exact free i (s8b (by omega) i o ho him hf) o ho wx (s8c (by omega))
          obtain ⟨_, _, _, each⟩ := lex ⟨wx, s7b hc1⟩
          obtain ⟨v, hv1, hv2⟩ := each o (restM_mem m l i o ho him)
          exact ⟨v, hv1, still_quiet (s8a hc i o ho him hf) (hv2 wx ⟨⟨wx, Below.refl _ _⟩, rfl⟩) _⟩
        have hquiet : o.quiet P b (fun x => x = wx) (fun c => c = b.put o.dst v) := ⟨v, fun x hx => by rw [hx]; exact congr' _ _ _ hv2, rfl⟩
        refine Oper.wp_of_quiet (C := fun x => x = wx) rfl ?_ hquiet
        rintro c' x rfl rfl
        obtain ⟨k1, k2, k3, k4, k9, k5, k6⟩ := keep v hv1
        have less : ∀ j, upd f i j = false → f j = false := fun j hj => by
          by_cases ej : j = i
          · rw [ej, u1] at hj; cases hj
          · rwa [u2 j ej] at hj
        exact ⟨As, c, p, k1, k2, k3, k4, k9, k5, k6, s7, s7b, s8, fun h j o' hj hjm hfj => s8a h j o' hj hjm (less j hfj), fun h j o' hj hjm hfj => s8b h j o' hj hjm (less j hfj), s8c⟩
    case pos =>
      -- an effect: the next one
      have hge : p ≤ i := by
        rcases Nat.lt_or_ge i p with h | h
        · rw [(s4 i hil him).2 h] at hf; cases hf
        · exact h
      have hno : ∀ j, p ≤ j → j < i → m[j]? ≠ some true := by
        intro j h1 h2 h3
        have := (s4 j (by omega) h3).1 (done j (hB.chain i j hil h2 him h3))
        omega
      have heff : effM (m.drop p) (l.drop p) = o :: effM (m.drop (i + 1)) (l.drop (i + 1)) := by
        rw [effM_skip m l p (i - p) (fun j h1 h2 => hno j h1 (by omega)), show p + (i - p) = i by omega]
        exact effM_at m l i o ho him
      have hdlt : ∀ t, o.dst = some t → t < A.tmps.size := fun t ht => by rw [sz]; exact hlt o (List.mem_of_getElem? ho) t ht
      have he : execOp b.eval o = execOp As.eval o := by
        refine execOp_congr o (fun cs' b' => hsel o cs' b' (by simpa using List.mem_of_getElem? ho)) ?_
        intro y hy
        cases y with
        | tmp t => exact rdAs t hy
        | _ => rfl
      -- what waits still, behind this effect
      have hstill : ∀ (j : Nat) (o' : Oper), l[j]? = some o' → m[j]? ≠ some true → f j = false → stillOp o' = true := by
        intro j o' hj hjm hfj
        rcases Nat.eq_zero_or_pos c with hc | hc
        · have hp := (s7 hc).2
          have hi0 : i = e0 := by
            have h1 := hB.fst i o ho him
            rcases Nat.lt_or_ge e0 i with h2 | h2
            · exact absurd hB.em (hno e0 (by omega) h2)
            · omega
          rcases hB.still j o' hj hjm with h | h
          · rw [← hi0] at h
            have := done j h
            rw [hfj] at this
            cases this
          · exact h
        · exact s8a hc j o' hj hjm hfj
      have hLL : 0 < c → ∀ (j : Nat) (o' : Oper), l[j]? = some o' → m[j]? ≠ some true → f j = false → j ∈ L := by
        intro hc j o' hj hjm hfj
        rcases hB.pend i j hil (List.getElem?_eq_some_iff.1 hj).1 (by have := (s8 hc).2; omega) him hjm with h | h
        · have := done j h
          rw [hfj] at this
          cases this
        · exact h
      have next : ∀ (As' b' : Act) w', As'.tmps.size = As.tmps.size → b'.tmps.size = b.tmps.size → b'.defers = As'.defers → (∀ t, o.dst ≠ some t → As'.tmps[t]? = As.tmps[t]? ∧ b'.tmps[t]? = b.tmps[t]?) → (∀ t, o.dst = some t → b'.tmps[t]? = As'.tmps[t]?) →
          (c = 0 → Below w.heap.size w w') → (1 ≤ c → F w') → effW P Q F (effM (m.drop (i + 1)) (l.drop (i + 1))) As' w' →
          ∃ (As : Act) (c p : Nat), b'.tmps.size = A.tmps.size ∧ As.tmps.size = A.tmps.size ∧ b'.defers = As.defers ∧
            (∀ i', i' < l.length → m[i']? = some true → (upd f i i' = true ↔ i' < p)) ∧
            (∀ (i' : Nat) (o : Oper), l[i']? = some o → upd f i i' = true → ∀ e ∈ o.after, Region.binds .any e = true → upd f i e.on = true) ∧
            (∀ t, (∀ (i' : Nat) (o : Oper), l[i']? = some o → m[i']? = some true → upd f i i' = true → o.dst ≠ some t) → As.tmps[t]? = A.tmps[t]?) ∧
            (∀ t, (∀ (j : Nat) (o : Oper), l[j]? = some o → m[j]? ≠ some true → o.dst = some t → upd f i j = true) → b'.tmps[t]? = As.tmps[t]?) ∧
            (c = 0 → As = A ∧ p = 0) ∧ (c ≤ 1 → Below w.heap.size w w') ∧
            (0 < c → effW P Q F (effM (m.drop p) (l.drop p)) As w' ∧ e0 < p) ∧
            (0 < c → ∀ (j : Nat) (o : Oper), l[j]? = some o → m[j]? ≠ some true → upd f i j = false → stillOp o = true) ∧
            (2 ≤ c → ∀ (j : Nat) (o : Oper), l[j]? = some o → m[j]? ≠ some true → upd f i j = false → j ∈ L) ∧ (2 ≤ c → F w') := by
        intro As' b' w' h1 h2 h3 h4 h5 h6 h8 h7
        have ne : ∀ j, m[j]? ≠ some true → j ≠ i := fun j hj e => hj (by rw [e]; exact him)
        refine ⟨As', c + 1, i + 1, h2.trans s1, h1.trans s2, h3, fun i' a1 a2 => ?_, closed, fun t ht => ?_, fun t ht => ?_, fun h => absurd h (by omega), fun h => h6 (by omega), fun _ => ⟨h7, ?_⟩, fun _ j o' hj hjm hfj => ?_, fun h j o' hj hjm hfj => ?_, fun h => h8 (by omega)⟩
        · by_cases e : i' = i
          · rw [e, u1]; constructor
            · intro _; omega
            · intro _; rfl
          · rw [u2 i' e, s4 i' a1 a2]
            constructor
            · intro h; omega
            · intro h
              rcases Nat.lt_or_ge i' p with h' | h'
              · exact h'
              · exact absurd a2 (hno i' h' (by omega))
        · rw [(h4 t (ht i o ho him u1)).1]
          exact s5 t (fun i' o' a1 a2 a3 => ht i' o' a1 a2 (u3 _ a3))
        · by_cases e : o.dst = some t
          · exact h5 t e
          · obtain ⟨c1, c2⟩ := h4 t e
            rw [c1, c2]
            refine s6 t (fun j o' hj hjm hs => ?_)
            have := ht j o' hj hjm hs
            rwa [u2 j (ne j hjm)] at this
        · have := hB.fst i o ho him
          omega
        · rw [u2 j (ne j hjm)] at hfj
          exact hstill j o' hj hjm hfj
        · rw [u2 j (ne j hjm)] at hfj
          exact hLL (by omega) j o' hj hjm hfj
      have hwp : o.wp P As wx (fun a'' w'' => (c = 0 → Below w.heap.size w w'') ∧ (1 ≤ c → F w'') ∧ effW P Q F (effM (m.drop (i + 1)) (l.drop (i + 1))) a'' w'') (OnlyN Q) := by
        rcases Nat.eq_zero_or_pos c with hc | hc
        · obtain ⟨hAs, hp⟩ := s7 hc
          have hbl := s7b (by omega)
          rw [hp, List.drop_zero, List.drop_zero, hle] at heff
          injection heff with e1 e2
          rw [← e1, ← e2, hAs]
          exact Oper.wp_mono (fun a'' w'' h => ⟨fun _ => hbl.trans (h.1.mono hbl.size), fun h0 => absurd h0 (by omega), h.2⟩) (fin wx hbl)
        · have hwl := (s8 hc).1
          rw [heff] at hwl
          exact Oper.wp_mono (fun a'' w'' h => ⟨fun h0 => absurd h0 (by omega), fun _ => h.1, h.2⟩) hwl
      refine wp_swap he ?_ ?_ hwp
      · intro v w' hK
        refine next (As.put o.dst v) (b.put o.dst v) w' (put_size _ _ _) (put_size _ _ _) (by rw [put_defers, put_defers]; exact s3) (fun t ht => ⟨put_tmps_ne _ _ _ _ ht, put_tmps_ne _ _ _ _ ht⟩) (fun t ht => ?_) hK.1 hK.2.1 hK.2.2
        rw [ht, put_tmps_same _ _ _ (by rw [s1]; exact hdlt t ht), put_tmps_same _ _ _ (by rw [s2]; exact hdlt t ht)]
      · intro d w' hK
        refine next ({ As with defers := d :: As.defers }.put o.dst undef) ({ b with defers := d :: b.defers }.put o.dst undef) w' (by rw [put_size]) (by rw [put_size]) (by rw [put_defers, put_defers]; simp only [s3]) (fun t ht => ⟨put_tmps_ne _ _ _ _ ht, put_tmps_ne _ _ _ _ ht⟩) (fun t ht => ?_) hK.1 hK.2.1 hK.2.2
        have g1 : t < ({ b with defers := d :: b.defers } : Act).tmps.size := by show t < b.tmps.size; rw [s1]; exact hdlt t ht
        have g2 : t < ({ As with defers := d :: As.defers } : Act).tmps.size := by show t < As.tmps.size; rw [s2]; exact hdlt t ht
        rw [ht, put_tmps_same _ _ _ g1, put_tmps_same _ _ _ g2]
  case fin =>
    rintro f b wx ⟨As, c, p, s1, s2, s3, s4, _, s5, s6, s7, s7b, s8, s8a, s8b, s8c⟩ hall
    have hall' : ∀ i, i < l.length → f i = true := fun i hi => hall i (by simpa using hi)
    have hb : b = As := by
      obtain ⟨bt, bd⟩ := b
      obtain ⟨At, Ad⟩ := As
      simp only at s3
      subst s3
      simp only [Act.mk.injEq, and_true]
      exact Array.ext_getElem? fun t => s6 t (fun j o hj _ _ => hall' j (List.getElem?_eq_some_iff.1 hj).1)
    have hc : 0 < c := by
      rcases Nat.eq_zero_or_pos c with h | h
      · have := (s7 h).2
        have := (s4 e0 hB.el hB.em).1 (hall' e0 hB.el)
        omega
      · exact h
    have hnil : effM (m.drop p) (l.drop p) = [] := by
      rcases Nat.lt_or_ge p l.length with h | h
      · rw [effM_skip m l p (l.length - p) (fun j h1 h2 h3 => by
          have := (s4 j (by omega) h3).1 (hall' j (by omega))
          omega), show p + (l.length - p) = l.length by omega, List.drop_length]
        cases m.drop l.length <;> rfl
      · rw [List.drop_eq_nil_of_le h]
        cases m.drop p <;> rfl
    have := (s8 hc).1
    rw [hnil] at this
    rw [hb]
    exact this

end Go.Proofs.Ytpaecblgilepoaa

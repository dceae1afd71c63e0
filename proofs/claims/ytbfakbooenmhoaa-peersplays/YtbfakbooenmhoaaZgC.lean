/- PeersPlays: the walk. A region that draws its order: marked operations, of which some wait for one another and take the world through given states. PeersPlays: what memory may do in the region that plays an act; its states. PeersPlays: the walk. PeersPlays: whatever the arguments. -/
import Derived.Test.YtbfakbooenmhoaaQgA
import Derived.Test.YtbfakbooenmhoaaQgB
import Derived.Test.YtbfakbooenmhoaaQaO
import Derived.Test.YtbfakbooenmhoaaRsd
import Derived.ProofKit
import Derived.ChangeOld
namespace Go.Proofs.Ytbfakbooenmhoaa
open Go.RowKit
set_option linter.unusedVariables false
attribute [local go_sem] Oper.semAt_some

set_option maxRecDepth 100000 in
set_option maxHeartbeats 4000000 in
theorem peersPlays_bad (room tmo : Int) (v : Value) (w : World) (h : ¬ ((1 ≤ room ∧ room ≤ 15) ∧ (1 ≤ tmo ∧ tmo ≤ 1099511627776))) :
    Calls Try.prog 3 #[.int .i64 room, .int .i64 tmo, v] w fun e w' => e = .returned (.bool true) ∧ Below w.heap.size w w' := by
  have g1 := hide (new_no room tmo w h)
  have hc : room < 1 ∨ (¬ room < 1 ∧ 15 < room) ∨ (¬ room < 1 ∧ ¬ 15 < room ∧ tmo < 1) ∨ (¬ room < 1 ∧ ¬ 15 < room ∧ ¬ tmo < 1 ∧ 1099511627776 < tmo) := by omega
  clear h
  rcases hc with h | ⟨h1, h2⟩ | ⟨h1, h2, h3⟩ | ⟨h1, h2, h3, h4⟩
  all_goals
    go_enter Try.func3, Try.ntmps3
    go_wp2_with fail
    refine (unhide g1).mono ?_
    rintro e w1 ⟨rfl, rfl⟩
    go_wp2_with fail
    refine (pawake_any w).mono ?_
    rintro e w2 ⟨rfl, b2⟩
    have B2 := hide b2
    clear b2
    go_wp2
    go_ret
    exact ⟨rfl, unhide B2⟩
end Go.Proofs.Ytbfakbooenmhoaa
namespace Go.Proofs.Ytbfakbooenmhoaa
open Go.RowKit
set_option linter.unusedVariables false

theorem wp_region_rse {P : Program} {id : Nat} {Q : Exit → Act → World → Prop} {a : Act} {w : World} {l : List Oper} (m mc : List Bool) (gs : List (Nat × Bool)) (det S : List Nat) (a0 A : Act) (Fr : World → World → Prop) (R : Nat → Value → World → Prop) (T : Nat → Act → World → Prop) (Z : Nat → World → Prop)
    (hm : P.follows .mixedOrders = true) (hok : relOk l m gs det S a.tmps.size = true)
    (hch : mchainOk l mc = true) (hmc : ∀ i : Nat, mc[i]? = some true → m[i]? = some true) (Z0 : ∀ x, Below w.heap.size w x → Z 0 x) (Zb : ∀ k x y, Z k x → Below x.heap.size x y → Z k y)
    (Ft : ∀ x y z, Fr x y → Fr y z → Fr x z) (Fb : ∀ x y : World, Below x.heap.size x y → Fr x y)
    (hR : ∀ i v x y, R i v x → Fr x y → R i v y)
    (hT : ∀ i b x y, T i b x → Fr x y → T i b y)
    (hTb : ∀ (i : Nat) (o : Oper), l[i]? = some o → ∀ (b b' : Act) (x : World), (∀ s, Operand.tmp s ∈ o.op.operands → b'.eval (.tmp s) = b.eval (.tmp s)) → T i b x → T i b' x)
    (ha0 : Off S a a0)
    (hdet : ∀ i ∈ det, ∀ (o : Oper) (s : Nat), l[i]? = some o → o.dst = some s → ∀ v x, R i v x → v = a0.eval (.tmp s))
    (hlex : ∀ x, Fr w x → wpQuiet P l.toArray (fun w' => ∃ y : Gb x, w' = y.w) (fun a' => a' = A) (restM m l) a0)
    (hgA : ∀ g ∈ gs, A.eval (.tmp g.1) = .bool g.2)
    (hst : ∀ (i : Nat) (o : Oper), l[i]? = some o → mc[i]? = some true → ∀ (x : World) (b : Act), Fr w x → Z (cnt mc i) x → (∀ s, Operand.tmp s ∈ o.op.operands → OpdOk m l R A b x s) → o.wp P b x (fun b' w' => ∃ v, b' = b.put o.dst v ∧ (o.dst ≠ none → R i v w') ∧ (o.dst = none → T i b w') ∧ Fr x w' ∧ Z (cnt mc i + 1) w') Q)
    (hsf : ∀ (i : Nat) (o : Oper), l[i]? = some o → m[i]? = some true → mc[i]? ≠ some true → ∀ (k : Nat) (x : World) (b : Act), Fr w x → Z k x → (∀ s, Operand.tmp s ∈ o.op.operands → OpdOk m l R A b x s) → o.wp P b x (fun b' w' => ∃ v, b' = b.put o.dst v ∧ (o.dst ≠ none → R i v w') ∧ (o.dst = none → T i b w') ∧ Fr x w' ∧ Z k w') Q)
    (fin : ∀ (b : Act) (w' : World), Fr w w' → Off S A b → (∀ (j : Nat) (o : Oper) (s : Nat), l[j]? = some o → m[j]? = some true → o.dst = some s → R j (b.eval (.tmp s)) w') → (∀ (j : Nat) (o : Oper), l[j]? = some o → m[j]? = some true → o.dst = none → T j b w') → Z (cnt mc l.length) w' → Q .normal b w') : (Code.region id l.toArray true).wp P Q a w := by
  have hB := relOk_spec hok
  have htop' := topOkB_spec hB.top
  have arr : ∀ i : Nat, l.toArray[i]? = l[i]? := fun i => by rw [List.getElem?_toArray]
  have hsel : ∀ (o : Oper) cs b, o ∈ l.toArray → o.op ≠ .select cs b := by
    intro o cs b ho
    obtain ⟨j, hj⟩ := Array.getElem?_of_mem ho
    exact Region.noSelect_spec hB.sel j o cs b hj
  have hgk : ∀ (i : Nat) (o : Oper), l[i]? = some o → GuardOk l.toArray A o := by
    intro i o ho
    cases hg : o.guard with
    | none => exact .inl hg
    | some g =>
      obtain ⟨_, _, d, h1, h2⟩ := hB.guard i o g.1 g.2 ho hg
      exact .inr ⟨g.1, g.2, d, hg, by rw [arr]; exact h1, hgA (d, g.2) h2⟩
  have goff : ∀ (i j : Nat) (o o' : Oper), l[i]? = some o → l[j]? = some o' → i ≤ j → GuardOff l.toArray o o'.dst := by
    intro i j o o' ho hj hij g b d hg hd hs
    obtain ⟨⟨e, he, e1, e2⟩, _⟩ := hB.guard i o g b ho hg
    have h3 := htop' i o (by rw [arr]; exact ho) e he e2
    rw [arr] at hd
    cases hq : l[g]? with
    | none => rw [hq] at hd; cases hd
    | some og =>
      rw [hq] at hd
      have := hB.one g j og o' d hq hj hd hs
      omega
  have hpw : l.Pairwise (fun o o' => (∀ s, o.dst = some s → o'.dst ≠ some s) ∧ (∀ s, Operand.tmp s ∈ o.op.operands → o'.dst ≠ some s) ∧ GuardOff l.toArray o o'.dst) := by
    rw [List.pairwise_iff_getElem]
    intro i j h1 h2 hij
    have e1 := List.getElem?_eq_getElem h1
    have e2 := List.getElem?_eq_getElem h2
    refine ⟨fun s hs hs' => ?_, fun s hs hs' => ?_, goff i j _ _ e1 e2 (Nat.le_of_lt hij)⟩
    · have := hB.one i j _ _ s e1 e2 hs hs'
      omega
    · obtain ⟨⟨e, he, h3, h4⟩, _⟩ := hB.reads i j _ _ s e1 e2 hs hs'
      have := htop' i _ (by rw [arr]; exact e1) e he h4
      omega
  have hself : ∀ o ∈ restM m l, (∀ s, Operand.tmp s ∈ o.op.operands → o.dst ≠ some s) ∧ GuardOff l.toArray o o.dst := by
    intro o ho
    obtain ⟨i, e1, _⟩ := restM_of m l o ho
    refine ⟨fun s hs hs' => ?_, goff i i o o e1 e1 (Nat.le_refl _)⟩
    obtain ⟨⟨e, he, h3, h4⟩, _⟩ := hB.reads i i _ _ s e1 e1 hs hs'
    have := htop' i _ (by rw [arr]; exact e1) e he h4
    omega
  have lex := fun (x : World) (hx : Fr w x) => lex_lastG (P := P) (ops := l.toArray) (C := fun w' => ∃ y : Gb x, w' = y.w) (A := A) hsel (restM m l) a0 (fun o ho => by obtain ⟨i, hi, _⟩ := restM_of m l o ho; simpa using List.mem_of_getElem? hi) (fun o ho => by obtain ⟨i, hi, _⟩ := restM_of m l o ho; exact hgk i o hi) (fun o ho s hs => by obtain ⟨i, hi, _⟩ := restM_of m l o ho; rw [ha0.size]; exact hB.lt i o s hi hs) (hpw.sublist (restM_sub m l)) hself (hlex x hx)
  have Fw : Fr w w := Fb _ _ (Below.refl _ _)
  obtain ⟨sz0, df0, out, _⟩ := lex w Fw
  have sz : A.tmps.size = a.tmps.size := sz0.trans ha0.size
  have df : A.defers = a.defers := df0.trans ha0.defers
  have outD : ∀ s, (∀ (j : Nat) (o : Oper), l[j]? = some o → m[j]? ≠ some true → o.dst ≠ some s) → A.tmps[s]? = a0.tmps[s]? := by
    intro s hs
    refine out s (fun o ho hd => ?_)
    obtain ⟨i, hi, hmi⟩ := restM_of m l o ho
    exact hs i o hi hmi hd
  refine wp_region_invB hm htop' (fun f b wx => b.tmps.size = A.tmps.size ∧ b.defers = A.defers ∧ Fr w wx ∧
    (∀ (j : Nat) (o : Oper) (t : Nat), l[j]? = some o → m[j]? ≠ some true → f j = true → o.dst = some t → b.eval (.tmp t) = A.eval (.tmp t)) ∧
    (∀ (j : Nat) (o : Oper) (t : Nat), l[j]? = some o → m[j]? = some true → f j = true → o.dst = some t → R j (b.eval (.tmp t)) wx) ∧
    (∀ t, (∀ (j : Nat) (o : Oper), l[j]? = some o → f j = true → o.dst ≠ some t) → b.tmps[t]? = a.tmps[t]?) ∧
    (∀ (j : Nat) (o : Oper), l[j]? = some o → m[j]? = some true → f j = true → o.dst = none → T j b wx ∧ ∀ (i' : Nat) (o' : Oper) (s : Nat), l[i']? = some o' → o'.dst = some s → Operand.tmp s ∈ o.op.operands → f i' = true) ∧
    (∀ (i : Nat) (o : Oper), l[i]? = some o → f i = true → ∀ e ∈ o.after, Region.binds .any e = true → f e.on = true) ∧
    (∃ p, p ≤ l.length ∧ Z (cnt mc p) wx ∧ (∀ i, i < l.length → mc[i]? = some true → (f i = true ↔ i < p)))) ?start ?step ?fin
  case start =>
    exact ⟨sz.symm, df.symm, Fb _ _ ((Below.refl _ _).drew), fun j o t _ _ h => (by cases h), fun j o t _ _ h => (by cases h), fun t _ => rfl, fun j o _ _ h => (by cases h), fun i o _ h => (by cases h), 0, Nat.zero_le _, Z0 _ ((Below.refl _ _).drew), fun i _ _ => ⟨fun h => (by cases h), fun h => absurd h (Nat.not_lt_zero _)⟩⟩
  case step =>
    rintro f b wx i o ⟨s1, s2, s3, s4, s5, s6, s7, s9, p, hp, sz9, sp⟩ ho hf hd
    rw [arr] at ho
    have u1 : upd f i i = true := by simp [upd]
    have u2 : ∀ j, j ≠ i → upd f i j = f j := fun j hj => by simp [upd, hj]
    have u3 : ∀ j, f j = true → upd f i j = true := fun j hj => by
      by_cases e : j = i
      · rw [e]; exact u1
      · rw [u2 j e]; exact hj
    have hil := (List.getElem?_eq_some_iff.1 ho).1
    have closed : ∀ (i' : Nat) (o' : Oper), l[i']? = some o' → upd f i i' = true → ∀ e ∈ o'.after, Region.binds .any e = true → upd f i e.on = true := by
      intro i' o' a2 a3 e he hb
      by_cases ei : i' = i
      · subst ei
        rw [ho] at a2
        obtain rfl := Option.some.inj a2
        exact u3 _ (hd e he hb)
      · rw [u2 i' ei] at a3
        exact u3 _ (s9 i' o' a2 a3 e he hb)
    -- what is read of slots that no marked operation writes
    have rdN : ∀ t, Operand.tmp t ∈ o.op.operands → (∀ (j : Nat) (o' : Oper), l[j]? = some o' → m[j]? = some true → o'.dst ≠ some t) → b.eval (.tmp t) = A.eval (.tmp t) := by
      intro t ht hno
      by_cases hw : ∃ (j : Nat) (o' : Oper), l[j]? = some o' ∧ o'.dst = some t
      · obtain ⟨j, o', hj, hs'⟩ := hw
        obtain ⟨⟨e, he, h3, h4⟩, _⟩ := hB.reads i j o o' t ho hj ht hs'
        have hfj := hd e he h4
        rw [h3] at hfj
        exact s4 j o' t hj (fun h => hno j o' hj h hs') hfj hs'
      · refine eval_of_tmps ?_
        rw [s6 t (fun j o' hj _ hs' => hw ⟨j, o', hj, hs'⟩), outD t (fun j o' hj _ hs' => hw ⟨j, o', hj, hs'⟩)]
        by_cases hS : t ∈ S
        · obtain ⟨j, hj⟩ := hB.sOf t hS
          obtain ⟨_, o', ho', hd'⟩ := wrB_some hj
          exact absurd ⟨j, o', ho', hd'⟩ hw
        · exact (ha0.same t hS).symm
    have hwant : Region.wanted o (yielded l.toArray b.tmps) = true := by
      cases hg : o.guard with
      | none => unfold Region.wanted; rw [hg]
      | some g =>
        obtain ⟨⟨e, he, e1, e2⟩, h2, d, h5, h6⟩ := hB.guard i o g.1 g.2 ho hg
        refine wanted_at g.1 d g.2 hg (by rw [arr]; exact h5) ?_
        cases hq : l[g.1]? with
        | none => rw [hq] at h5; cases h5
        | some og =>
          rw [hq] at h5
          have hfj := hd e he e2
          rw [e1] at hfj
          rw [s4 g.1 og d hq h2 hfj h5]
          exact hgA (d, g.2) h6
    have pas : ∀ (b : Act) (v : Value) (t : Nat), o.dst ≠ some t → (b.put o.dst v).eval (.tmp t) = b.eval (.tmp t) := fun b v t h => eval_of_tmps (put_tmps_ne _ _ _ _ h)
    have same : ∀ (b : Act) (v : Value) (t : Nat), o.dst = some t → t < b.tmps.size → (b.put o.dst v).eval (.tmp t) = v := by
      intro b v t h hl
      rw [h]
      simp only [Act.eval, Array.getD_eq_getD_getElem?]
      rw [put_tmps_same _ _ _ hl]
      rfl
    have tlt : ∀ t, o.dst = some t → t < b.tmps.size := fun t h => by rw [s1, sz]; exact hB.lt i o t ho h
    have keep : ∀ (v : Value) (w' : World), Fr wx w' → (m[i]? ≠ some true → ∀ t, o.dst = some t → A.eval (.tmp t) = v) → (m[i]? = some true → (o.dst ≠ none → R i v w') ∧ (o.dst = none → T i b w')) →
        (b.put o.dst v).tmps.size = A.tmps.size ∧ (b.put o.dst v).defers = A.defers ∧ Fr w w' ∧
        (∀ (j : Nat) (o' : Oper) (t : Nat), l[j]? = some o' → m[j]? ≠ some true → upd f i j = true → o'.dst = some t → (b.put o.dst v).eval (.tmp t) = A.eval (.tmp t)) ∧
        (∀ (j : Nat) (o' : Oper) (t : Nat), l[j]? = some o' → m[j]? = some true → upd f i j = true → o'.dst = some t → R j ((b.put o.dst v).eval (.tmp t)) w') ∧
        (∀ t, (∀ (j : Nat) (o' : Oper), l[j]? = some o' → upd f i j = true → o'.dst ≠ some t) → (b.put o.dst v).tmps[t]? = a.tmps[t]?) ∧
        (∀ (j : Nat) (o' : Oper), l[j]? = some o' → m[j]? = some true → upd f i j = true → o'.dst = none → T j (b.put o.dst v) w' ∧ ∀ (i' : Nat) (o2 : Oper) (s : Nat), l[i']? = some o2 → o2.dst = some s → Operand.tmp s ∈ o'.op.operands → upd f i i' = true) := by
      intro v w' hF hv hRv
      refine ⟨by rw [put_size]; exact s1, by rw [put_defers]; exact s2, Ft _ _ _ s3 hF, ?_, ?_, ?_, ?_⟩
      · intro j o' t hj hmj hu ht
        by_cases ej : j = i
        · subst ej
          rw [ho] at hj
          obtain rfl := Option.some.inj hj
          rw [same b v t ht (tlt t ht), hv hmj t ht]
        · rw [u2 j ej] at hu
          rw [pas b v t (fun h => ej (hB.one j i o' o t hj ho ht h))]
          exact s4 j o' t hj hmj hu ht
      · intro j o' t hj hmj hu ht
        by_cases ej : j = i
        · subst ej
          rw [ho] at hj
          obtain rfl := Option.some.inj hj
          rw [same b v t ht (tlt t ht)]
          exact (hRv hmj).1 (by rw [ht]; exact Option.some_ne_none _)
        · rw [u2 j ej] at hu
          rw [pas b v t (fun h => ej (hB.one j i o' o t hj ho ht h))]
          exact hR _ _ _ _ (s5 j o' t hj hmj hu ht) hF
      · intro t ht
        rw [put_tmps_ne _ _ _ _ (ht i o ho u1)]
        exact s6 t (fun j o' hj h3 => ht j o' hj (u3 _ h3))
      · intro j o' hj hmj hu hn
        by_cases ej : j = i
        · subst ej
          rw [ho] at hj
          obtain rfl := Option.some.inj hj
          refine ⟨hTb j o ho b _ w' (fun s _ => by rw [hn]; rfl) ((hRv hmj).2 hn), fun i' o2 s hi' hs hop => ?_⟩
          obtain ⟨⟨e, he, h3, h4⟩, _⟩ := hB.reads j i' o o2 s ho hi' hop hs
          have hfj := hd e he h4
          rw [h3] at hfj
          exact u3 _ hfj
        · rw [u2 j ej] at hu
          obtain ⟨t1, t2⟩ := s7 j o' hj hmj hu hn
          refine ⟨hTb j o' hj b _ w' (fun s hs => pas b v s (fun h => ?_)) (hT _ _ _ _ t1 hF), fun i' o2 s hi' hs hop => u3 _ (t2 i' o2 s hi' hs hop)⟩
          have := t2 i o s ho h hs
          rw [hf] at this
          cases this
    refine ⟨fun _ => ?_, fun hw => by rw [hwant] at hw; cases hw⟩
    by_cases hmi : mc[i]? = some true
    · have hpi : p ≤ i := by
        rcases Nat.lt_or_ge i p with h | h
        · rw [(sp i hil hmi).2 h] at hf; cases hf
        · exact h
      have hno : ∀ j, p ≤ j → j < i → mc[j]? ≠ some true := by
        intro j h1 h2 hmj
        have hw := mchainOk_spec hch i j hil h2 hmi hmj
        have hfj := waits_done (ops := l.toArray) (f := f) (fun i' o' h' => s9 i' o' (by rw [← arr]; exact h')) 8 i o (by rw [arr]; exact ho) hd hw
        have := (sp j (by omega) hmj).1 hfj
        omega
      rw [cnt_skip mc p i hpi hno] at sz9
      refine Oper.wp_mono ?_ (hst i o ho hmi wx b s3 sz9 (fun s hs => ?_))
      · rintro b' w' ⟨v, rfl, hRv, hTv, hF, hZ⟩
        obtain ⟨k1, k2, k3, k4, k5, k6, k7⟩ := keep v w' hF (fun h => absurd (hmc i hmi) h) (fun _ => ⟨hRv, hTv⟩)
        refine ⟨k1, k2, k3, k4, k5, k6, k7, closed, i + 1, hil, by rw [cnt_succ mc i hmi]; exact hZ, fun j hj hmj => ?_⟩
        by_cases ej : j = i
        · subst ej; rw [u1]; exact ⟨fun _ => by omega, fun _ => rfl⟩
        · rw [u2 j ej, sp j hj hmj]
          constructor
          · intro h; omega
          · intro h
            rcases Nat.lt_or_ge j p with h' | h'
            · exact h'
            · exact absurd hmj (hno j h' (by omega))
      · unfold OpdOk
        cases hq : wrB m l s with
        | none => exact rdN s hs (fun j o' hj hmj => wrB_none hq j o' hj hmj)
        | some j =>
          obtain ⟨hmj, o', ho', hd'⟩ := wrB_some hq
          obtain ⟨⟨e, he, h3, h4⟩, _⟩ := hB.reads i j o o' s ho ho' hs hd'
          have hfj := hd e he h4
          rw [h3] at hfj
          exact s5 j o' s ho' hmj hfj hd'
    · by_cases hmf : m[i]? = some true
      · refine Oper.wp_mono ?_ (hsf i o ho hmf hmi (cnt mc p) wx b s3 sz9 (fun s hs => ?_))
        · rintro b' w' ⟨v, rfl, hRv, hTv, hF, hZ⟩
          obtain ⟨k1, k2, k3, k4, k5, k6, k7⟩ := keep v w' hF (fun h => absurd hmf h) (fun _ => ⟨hRv, hTv⟩)
          exact ⟨k1, k2, k3, k4, k5, k6, k7, closed, p, hp, hZ, fun j hj hmj => by rw [u2 j (fun e => hmi (e ▸ hmj))]; exact sp j hj hmj⟩
        · unfold OpdOk
          cases hq : wrB m l s with
          | none => exact rdN s hs (fun j o' hj hmj => wrB_none hq j o' hj hmj)
          | some j =>
            obtain ⟨hmj, o', ho', hd'⟩ := wrB_some hq
            obtain ⟨⟨e, he, h3, h4⟩, _⟩ := hB.reads i j o o' s ho ho' hs hd'
            have hfj := hd e he h4
            rw [h3] at hfj
            exact s5 j o' s ho' hmj hfj hd'
      · have rdy : ∀ y ∈ o.op.operands, b.eval y = A.eval y := by
          intro y hy
          cases y with
          | tmp t =>
            by_cases hw : ∃ (j : Nat) (o' : Oper), l[j]? = some o' ∧ m[j]? = some true ∧ o'.dst = some t
            · obtain ⟨j, o', hj, hmj, hs'⟩ := hw
              obtain ⟨⟨e, he, h3, h4⟩, h5⟩ := hB.reads i j o o' t ho hj hy hs'
              have hjd : j ∈ det := by
                rcases h5 with h5 | h5 | h5
                · exact absurd h5 hmf
                · exact absurd hmj h5
                · exact h5
              have hfj := hd e he h4
              rw [h3] at hfj
              rw [hdet j hjd o' t hj hs' _ _ (s5 j o' t hj hmj hfj hs')]
              refine (eval_of_tmps (outD t (fun j' o'' hj' hmj' hs'' => ?_))).symm
              have := hB.one j' j o'' o' t hj' hj hs'' hs'
              subst this
              exact hmj' hmj
            · exact rdN t hy (fun j o' hj hmj hs' => hw ⟨j, o', hj, hmj, hs'⟩)
          | _ => rfl
        obtain ⟨_, _, _, each⟩ := lex wx s3
        obtain ⟨v, hv1, hv2⟩ := each o (restM_mem m l i o ho hmf)
        have hquiet : o.quiet P b (fun w' => ∃ y : Gb wx, w' = y.w) (fun c => c = b.put o.dst v) := ⟨v, fun w' hw' => by
          have := hv2 w' hw'
          unfold Oper.quietAt at this ⊢
          rwa [execOp_congr o (fun cs' b' => hsel o cs' b' (by simpa using List.mem_of_getElem? ho)) (ρ := b.eval) (ρ' := A.eval) rdy], rfl⟩
        refine Oper.wp_of_quiet (C := fun w' => ∃ y : Gb wx, w' = y.w) ⟨⟨wx, Below.refl _ _⟩, rfl⟩ ?_ hquiet
        rintro c w' ⟨⟨_, hb'⟩, rfl⟩ rfl
        obtain ⟨k1, k2, k3, k4, k5, k6, k7⟩ := keep v _ (Fb _ _ hb') (fun _ t ht => hv1 t ht) (fun h => absurd h hmf)
        exact ⟨k1, k2, k3, k4, k5, k6, k7, closed, p, hp, Zb _ _ _ sz9 hb', fun j hj hmj => by rw [u2 j (fun e => hmi (e ▸ hmj))]; exact sp j hj hmj⟩
  case fin =>
    rintro f b wx ⟨s1, s2, s3, s4, s5, s6, s7, _, p, hp, sz9, sp⟩ hall
    have hall' : ∀ (i : Nat) (o : Oper), l[i]? = some o → f i = true := fun i o hi => hall i (by simpa using (List.getElem?_eq_some_iff.1 hi).1)
    refine fin b wx s3 ⟨s1, s2, fun t ht => ?_⟩ (fun j o s hj hmj hs => s5 j o s hj hmj (hall' j o hj) hs) (fun j o hj hmj hn => (s7 j o hj hmj (hall' j o hj) hn).1) (by
      rw [← cnt_skip mc p l.length hp (fun j h1 h2 hmj => by
        have := (sp j h2 hmj).1 (hall j (by simpa using h2))
        omega)]
      exact sz9)
    by_cases hw : ∃ (j : Nat) (o' : Oper), l[j]? = some o' ∧ o'.dst = some t
    · obtain ⟨j, o', hj, hs'⟩ := hw
      by_cases hmj : m[j]? = some true
      · exact absurd (hB.inS j o' t hj hs' hmj) ht
      · have h5 := s4 j o' t hj hmj (hall' j o' hj) hs'
        have htl : t < a.tmps.size := hB.lt j o' t hj hs'
        simp only [Act.eval, Array.getD_eq_getD_getElem?] at h5
        rw [Array.getElem?_eq_getElem (by omega), Array.getElem?_eq_getElem (by omega)] at h5 ⊢
        simpa using h5
    · rw [s6 t (fun j o' hj _ hs' => hw ⟨j, o', hj, hs'⟩), outD t (fun j o' hj _ hs' => hw ⟨j, o', hj, hs'⟩)]
      exact (ha0.same t ht).symm
end Go.Proofs.Ytbfakbooenmhoaa
namespace Go.Proofs.Ytbfakbooenmhoaa
open Go.RowKit
set_option linter.unusedVariables false
attribute [local go_sem] Oper.semAt_some

/-- the table and its peers may turn; a new block of a table may get the answer -/
structure Fp (B : Nat) (room tmo : Int) (L : List Pr) (Bs : List Int) (m : Nat) (x y : World) : Prop where
  os : y.os = x.os
  tape : y.tape = x.tape
  output : y.output = x.output
  size : x.heap.size ≤ y.heap.size
  low : ∀ k, k < B → k < x.heap.size → y.heap[k]? = x.heap[k]?
  row : ∀ (k : Nat) (cs : Array Value) (T : TypeId), x.heap[k]? = some (.cells cs T (0, 0)) → T ≠ 67 → T ≠ 46 → y.heap[k]? = x.heap[k]? ∨ (m ≤ k ∧ Zb x k ∧ Gd B room tmo L Bs y k)
theorem Fp.dt {B B' : Nat} {room tmo : Int} {L L' : List Pr} {Bs Bs' : List Int} {m : Nat} {x y : World} (f : Fp B room tmo L Bs m x y) {v vb : Value} (h : Dt B' x v vb L' Bs') : Dt B' y v vb L' Bs' :=
  dt_types h fun k cs T hk hT => by
    rcases f.row k cs T hk (by rcases hT with e | e <;> (rw [e]; decide)) (by rcases hT with e | e <;> (rw [e]; decide)) with h1 | ⟨_, h1, _⟩
    · exact h1
    · obtain ⟨cs', h1, _⟩ := h1
      rw [hk] at h1
      simp only [Option.some.injEq, Obj.cells.injEq] at h1
      rcases hT with e | e <;> (rw [e] at h1; exact absurd h1.2.1 (by decide))
theorem Fp.gd {B : Nat} {room tmo : Int} {L : List Pr} {Bs : List Int} {m : Nat} {x y : World} (f : Fp B room tmo L Bs m x y) {k : Nat} (h : Gd B room tmo L Bs x k) : Gd B room tmo L Bs y k := by
  obtain ⟨v, vb, h1, h2⟩ := h.ex
  rcases f.row k _ _ h1 (by decide) (by decide) with h3 | ⟨_, _, h3⟩
  · exact ⟨v, vb, h3.trans h1, f.dt h2⟩
  · exact h3
theorem Fp.zb {B : Nat} {room tmo : Int} {L : List Pr} {Bs : List Int} {m : Nat} {x y : World} (f : Fp B room tmo L Bs m x y) {k : Nat} (h : Zb x k) : Zb y k := by
  obtain ⟨cs, h1, h2⟩ := h
  rcases f.row k _ _ h1 (by decide) (by decide) with h3 | ⟨_, _, h3⟩
  · exact ⟨cs, h3.trans h1, h2⟩
  · exact h3.zb
theorem Fp.trans {B : Nat} {room tmo : Int} {L : List Pr} {Bs : List Int} {m : Nat} {x y z : World} (f : Fp B room tmo L Bs m x y) (g : Fp B room tmo L Bs m y z) : Fp B room tmo L Bs m x z := by
  refine ⟨g.os.trans f.os, g.tape.trans f.tape, g.output.trans f.output, Nat.le_trans f.size g.size, fun k hk hl => (g.low k hk (Nat.lt_of_lt_of_le hl f.size)).trans (f.low k hk hl), fun k cs T hk t1 t2 => ?_⟩
  rcases f.row k cs T hk t1 t2 with h1 | ⟨h1, h2, h3⟩
  · rcases g.row k cs T (h1.trans hk) t1 t2 with h4 | ⟨h4, h5, h6⟩
    · exact .inl (h4.trans h1)
    · exact .inr ⟨h4, by unfold Zb at h5 ⊢; rw [← h1]; exact h5, h6⟩
  · exact .inr ⟨h1, h2, g.gd h3⟩
theorem Fp.of_below {B : Nat} {room tmo : Int} {L : List Pr} {Bs : List Int} {m : Nat} {x y : World} (h : Below x.heap.size x y) : Fp B room tmo L Bs m x y :=
  ⟨h.os, h.tape, h.output, h.size, fun k _ hl => h.block k hl, fun k cs T hk _ _ => .inl (h.block k (lt_of_block hk))⟩
theorem Fp.of_fz {B : Nat} {room tmo : Int} {L : List Pr} {Bs : List Int} {m : Nat} {x y : World} (h : Fz B room tmo L Bs m x y) (hm : B ≤ m) : Fp B room tmo L Bs m x y :=
  ⟨h.os, h.tape, h.output, h.size, fun k hk hl => by
    rcases h.block k hl with h1 | ⟨h1, _⟩
    · exact h1
    · omega, fun k cs T hk _ _ => h.block k (lt_of_block hk)⟩
theorem Fp.of_kt {B b : Nat} {room tmo : Int} {L : List Pr} {Bs : List Int} {m : Nat} {P : Nat → Option Nat} {C : Nat → Pr} {Bn : Nat → Bool} {x y : World} (h : Tb B x b room tmo P C Bn) (k : KT b P x y) : Fp B room tmo L Bs m x y :=
  ⟨k.os, k.tape, k.output, k.size, fun i hi hl => k.block i hl (fun e => by have := h.own; omega) (fun p hp e => by have := h.ownp p i hp e; omega), fun i cs T hi t1 t2 => .inl ((kt_keep h k hi t1 t2).trans hi.symm)⟩
/-- ahead of the call (0), behind it (1) -/
structure PZ (B b rb : Nat) (room tmo : Int) (P : Nat → Option Nat) (C : Nat → Pr) (Bn : Nat → Bool) (v vb : Value) (L : List Pr) (Bs : List Int) (L' : List Pr) (Bs' : List Int) (k : Nat) (x : World) : Prop where
  tb : ∃ P' C' Bn', (if k = 0 then REq P C Bn else Jt L' Bs') P' C' Bn' ∧ Tb B x b room tmo P' C' Bn'
  dt : Dt B x v vb L Bs
  r : x.heap[rb]? = some (.cells #[.int .i64 room, .int .i64 tmo, v, vb] 29 (0, 0))
  sz : B ≤ x.heap.size
theorem PZ.up {B b rb : Nat} {room tmo : Int} {P : Nat → Option Nat} {C : Nat → Pr} {Bn : Nat → Bool} {v vb : Value} {L : List Pr} {Bs : List Int} {L' : List Pr} {Bs' : List Int} {k : Nat} {x y : World} (h : PZ B b rb room tmo P C Bn v vb L Bs L' Bs' k x) (hb : Below x.heap.size x y) : PZ B b rb room tmo P C Bn v vb L Bs L' Bs' k y := by
  obtain ⟨P', C', Bn', h1, h2⟩ := h.tb
  exact ⟨⟨P', C', Bn', h1, h2.up hb⟩, h.dt.up hb, (hb.block _ (lt_of_block h.r)).trans h.r, Nat.le_trans h.sz hb.size⟩
theorem PZ.first {B b rb : Nat} {room tmo : Int} {P : Nat → Option Nat} {C : Nat → Pr} {Bn : Nat → Bool} {v vb : Value} {L : List Pr} {Bs : List Int} {L' : List Pr} {Bs' : List Int} {x : World} (h : PZ B b rb room tmo P C Bn v vb L Bs L' Bs' 0 x) : Tb B x b room tmo P C Bn := by
  obtain ⟨P', C', Bn', h1, h2⟩ := h.tb
  rw [if_pos rfl] at h1
  obtain ⟨rfl, rfl, rfl⟩ : P' = P ∧ C' = C ∧ Bn' = Bn := h1
  exact h2
theorem PZ.call {B b rb : Nat} {room tmo : Int} {P : Nat → Option Nat} {C : Nat → Pr} {Bn : Nat → Bool} {v vb : Value} {L : List Pr} {Bs : List Int} {L' : List Pr} {Bs' : List Int} {m : Nat} {x y : World} (h : PZ B b rb room tmo P C Bn v vb L Bs L' Bs' 0 x) (hr : PRes B b room tmo P (Jt L' Bs') x y) : PZ B b rb room tmo P C Bn v vb L Bs L' Bs' 1 y ∧ Fp B room tmo L' Bs' m x y := by
  have ht := h.first
  exact ⟨⟨by rw [if_neg (by decide)]; exact hr.ex, kt_dt ht hr.kt h.dt, kt_keep ht hr.kt h.r (by decide) (by decide), Nat.le_trans h.sz hr.kt.size⟩, Fp.of_kt ht hr.kt⟩
theorem PZ.store {B b rb : Nat} {room tmo : Int} {P : Nat → Option Nat} {C : Nat → Pr} {Bn : Nat → Bool} {v vb : Value} {L : List Pr} {Bs : List Int} {L' : List Pr} {Bs' : List Int} {m k g : Nat} {x : World} (h : PZ B b rb room tmo P C Bn v vb L Bs L' Bs' k x) (hg : Zb x g) (hn : rb ≠ g) (hm : m ≤ g) (hB : B ≤ m) {v1 v2 : Value} (hd : Dt B x v1 v2 L' Bs') :
    PZ B b rb room tmo P C Bn v vb L Bs L' Bs' k (x.setRow g #[.int .i64 room, .int .i64 tmo, v1, v2]) ∧ Fp B room tmo L' Bs' m x (x.setRow g #[.int .i64 room, .int .i64 tmo, v1, v2]) ∧ Gd B room tmo L' Bs' (x.setRow g #[.int .i64 room, .int .i64 tmo, v1, v2]) g := by
  have hz := fz_store (room := room) (tmo := tmo) hm hg hd
  obtain ⟨cs0, hc0, _⟩ := hg
  have ne : ∀ {q : Nat} {cs : Array Value} {T : TypeId}, x.heap[q]? = some (.cells cs T (0, 0)) → T ≠ 29 → q ≠ g := fun h1 h2 e => by
    subst e
    rw [hc0] at h1
    simp only [Option.some.injEq, Obj.cells.injEq] at h1
    exact h2 h1.2.1.symm
  obtain ⟨P', C', Bn', h1, h2⟩ := h.tb
  refine ⟨⟨⟨P', C', Bn', h1, h2.keep ?_ ?_⟩, dt_setRow h.dt hc0 _, (setRow_other _ g rb _ hn).trans h.r, Nat.le_trans h.sz hz.1.size⟩, Fp.of_fz hz.1 hB, hz.2⟩
  · obtain ⟨cs, hc⟩ := h2.tb.blk
    exact setRow_other _ g b _ (ne hc (by decide))
  · intro p q hp hq
    exact setRow_other _ g q _ (ne (h2.tb.pe p q hp hq) (by decide))
end Go.Proofs.Ytbfakbooenmhoaa
namespace Go.Proofs.Ytbfakbooenmhoaa
open Go.RowKit
set_option linter.unusedVariables false
attribute [local go_sem] Oper.semAt_some

theorem pas_rangeP {w x : World} {a0 : Option Addr} {l : List Pa} (h : PasAt w a0 l) (hb : Below w.heap.size w x) {i : Nat} {p : Pa} (hp : l[i]? = some p) : ∃ g o, a0 = some ⟨g, o, none⟩ ∧ g < w.heap.size ∧ x.rangeAt g (o + i * 7) p.cl := by
  obtain ⟨g, o, h1, h2, h3⟩ := h i p hp
  exact ⟨g, o, h1, h2, fun j v hv => (hb.cell (p := ⟨g, o + i * 7 + j, none⟩) h2).trans (h3 j v hv)⟩
/-- what the operations of the region answer -/
def RP (B : Nat) (room tmo : Int) (L : List Pr) (Bs : List Int) (m : Nat) (i : Nat) (v : Value) (x : World) : Prop :=
  if i = 6 ∨ i = 7 then ∃ v1 v2, v = .tuple #[tabV room tmo v1 v2, .bool true] ∧ Dt B x v1 v2 L Bs
  else if i = 8 then ∃ v1 v2, v = tabV room tmo v1 v2 ∧ Dt B x v1 v2 L Bs
  else if i = 10 then ∃ g, v = .pointer (some ⟨g, 0, none⟩) ∧ m ≤ g ∧ Zb x g
  else v = .bool true
theorem RP.stay {B : Nat} {room tmo : Int} {L : List Pr} {Bs : List Int} {m i : Nat} {v : Value} {x y : World} (h : RP B room tmo L Bs m i v x) (f : Fp B room tmo L Bs m x y) : RP B room tmo L Bs m i v y := by
  unfold RP at h ⊢
  by_cases c1 : i = 6 ∨ i = 7
  · rw [if_pos c1] at h ⊢
    obtain ⟨v1, v2, h1, h2⟩ := h
    exact ⟨v1, v2, h1, f.dt h2⟩
  · rw [if_neg c1] at h ⊢
    by_cases c2 : i = 8
    · rw [if_pos c2] at h ⊢
      obtain ⟨v1, v2, h1, h2⟩ := h
      exact ⟨v1, v2, h1, f.dt h2⟩
    · rw [if_neg c2] at h ⊢
      by_cases c3 : i = 10
      · rw [if_pos c3] at h ⊢
        obtain ⟨g, h1, h2, h3⟩ := h
        exact ⟨g, h1, h2, f.zb h3⟩
      · rw [if_neg c3] at h ⊢
        exact h
/-- both tables, ahead of an act -/
structure PS (w : World) (b rb : Nat) (room tmo : Int) (i : Nat) (x : World) : Prop where
  ex : ∃ P C Bn v vb Bs, Tb w.heap.size x b room tmo P C Bn ∧ Dt w.heap.size x v vb (lst P C 16) Bs ∧ Bk Bs Bn ∧ Bs.length ≤ i ∧ x.heap[rb]? = some (.cells #[.int .i64 room, .int .i64 tmo, v, vb] 29 (0, 0))
  be : Below w.heap.size w x
  lo : w.heap.size ≤ rb
theorem PS.up {w : World} {b rb : Nat} {room tmo : Int} {i : Nat} {x y : World} (h : PS w b rb room tmo i x) (hb : Below x.heap.size x y) : PS w b rb room tmo i y := by
  obtain ⟨P, C, Bn, v, vb, Bs, h1, h2, h3, h4, h5⟩ := h.ex
  exact ⟨⟨P, C, Bn, v, vb, Bs, h1.up hb, h2.up hb, h3, h4, (hb.block _ (lt_of_block h5)).trans h5⟩, h.be.trans (hb.mono h.be.size), h.lo⟩
theorem PS.more {w : World} {b rb : Nat} {room tmo : Int} {i : Nat} {x : World} (h : PS w b rb room tmo i x) : PS w b rb room tmo (i + 1) x := by
  obtain ⟨P, C, Bn, v, vb, Bs, h1, h2, h3, h4, h5⟩ := h.ex
  exact ⟨⟨P, C, Bn, v, vb, Bs, h1, h2, h3, Nat.le_succ_of_le h4, h5⟩, h.be, h.lo⟩
theorem PS.of {w : World} {b rb : Nat} {room tmo : Int} {i : Nat} {z : World} {P : Nat → Option Nat} {C : Nat → Pr} {Bn : Nat → Bool} {v1 v2 : Value} {Bs : List Int} {old : Array Value} (h : Tb w.heap.size z b room tmo P C Bn) (hd : Dt w.heap.size z v1 v2 (lst P C 16) Bs) (hb : Bk Bs Bn) (hl : Bs.length ≤ i) (hr : z.heap[rb]? = some (.cells old 29 (0, 0))) (be : Below w.heap.size w z) (lo : w.heap.size ≤ rb) :
    PS w b rb room tmo i (z.setRow rb #[.int .i64 room, .int .i64 tmo, v1, v2]) := by
  have ne : ∀ {q : Nat} {cs : Array Value} {T : TypeId}, z.heap[q]? = some (.cells cs T (0, 0)) → T ≠ 29 → q ≠ rb := fun h1 h2 e => by
    subst e
    rw [hr] at h1
    simp only [Option.some.injEq, Obj.cells.injEq] at h1
    exact h2 h1.2.1.symm
  refine ⟨⟨P, C, Bn, v1, v2, Bs, h.keep ?_ ?_, dt_setRow hd hr _, hb, hl, setRow_heap _ _ _ _ _ _ hr⟩, ⟨be.os, be.tape, be.output, by simpa [World.setRow] using be.size, fun k hk => (setRow_other _ _ k _ (by omega)).trans (be.block k hk)⟩, lo⟩
  · obtain ⟨cs, hc⟩ := h.tb.blk
    exact setRow_other _ rb b _ (ne hc (by decide))
  · intro p q hp hq
    exact setRow_other _ rb q _ (ne (h.tb.pe p q hp hq) (by decide))
/-- a cell holds a value -/
def LivesAt (w : World) (a : Addr) (v : Value) : Prop := w.cell? a = some v
theorem LivesAt.up {w x : World} {g o : Nat} {v : Value} (h : LivesAt w ⟨g, o, none⟩ v) (hb : Below w.heap.size w x) : x.cell? ⟨g, o, none⟩ = some v := cell_below h hb
/-- a peer lies in a new block -/
structure NewPe (w : World) (c : Pr) (x : World) : Prop where
  blk : x.heap[w.heap.size]? = some (.cells c.cl.toArray 46 (0, 0))
  be : Below w.heap.size w x
theorem newPe (w : World) (c : Pr) : NewPe w c ((w.alloc (.cells zP.cl.toArray 46)).setRow w.heap.size c.cl.toArray) := by
  have h1 := heap_alloc_new w (.cells zP.cl.toArray 46)
  have h2 : Below w.heap.size w (w.alloc (.cells zP.cl.toArray 46)) := (Below.refl _ _).alloc (Nat.le_refl _) _
  exact ⟨setRow_heap _ _ _ _ _ _ h1, ⟨h2.os, h2.tape, h2.output, by simp [World.setRow], fun i hi => (setRow_other _ _ i _ (by omega)).trans (h2.block i hi)⟩⟩
set_option maxRecDepth 100000 in
set_option maxHeartbeats 4000000 in
theorem peersPlays_good (room tmo : Int) (a0 : Option Addr) (l : List Pa) (c : Nat) (w : World) (h1 : 1 ≤ room ∧ room ≤ 15) (h2 : 1 ≤ tmo ∧ tmo ≤ 1099511627776) (hA : PasAt w a0 l) (hO : PasOk l c) :
    Calls Try.prog 3 #[.int .i64 room, .int .i64 tmo, .slice a0 l.length c] w fun e w' => e = .returned (.bool true) ∧ Below w.heap.size w w' := by
  have g1 := hide (new_yes room tmo w h1 h2)
  have HA := hide hA
  have HRM := hide h1
  have HSZ := hide hO.2.2
  have hlm : (l.length : Int) ≤ 9223372036854775807 := by
    have := hO.1
    have := hO.2.1
    unfold maxLen at this
    omega
  generalize hn : l.length = n at *
  have HN := hide hn
  have k1 : ¬ room < 1 := by omega
  have k2 : ¬ 15 < room := by omega
  have k3 : ¬ tmo < 1 := by omega
  have k4 : ¬ 1099511627776 < tmo := by omega
  clear hA hO h1 h2 hn
  go_enter Try.func3, Try.ntmps3
  go_wp2_with fail
  refine (unhide g1).mono ?_
  rintro e w1 ⟨rfl, e1⟩
  have hT := newTb w.heap.size room tmo w (Nat.le_refl _)
  have B0 := (Below.refl w.heap.size w).alloc (Nat.le_refl _) (.cells (newT room tmo) 67)
  rw [← e1] at hT B0
  have HT := hide hT
  have HB := hide B0
  clear hT B0 e1 g1
  go_wp2_with fail
  refine (pawake_any _).mono ?_
  rintro e w2 ⟨rfl, b2⟩
  have HPS : Hid (PS w w.heap.size w1.heap.size room tmo 0 w2) := by
    have hb3 : Below w1.heap.size w1 (w1.alloc (.cells #[.int .i64 room, .int .i64 tmo, .slice none 0 0, .slice none 0 0] 29)) := (Below.refl _ _).alloc (Nat.le_refl _) _
    have hb0 := (unhide HB).trans (hb3.mono (unhide HB).size)
    have hb2 := hb0.trans (b2.mono hb0.size)
    refine ⟨⟨noP, _, noB, _, _, [], ((unhide HT).up hb3).up b2, nil_dt _ _, fun q => (Bool.and_false _).symm, Nat.le_refl _, (b2.block _ (by simp)).trans (heap_alloc_new w1 _)⟩, hb2, (unhide HB).size⟩
  clear b2 HT HB
  go_wp2_with fail
  generalize hb : w.heap.size = b at *
  generalize hab : w1.heap.size = rb at *
  have HBB := hide hb
  have HAB := hide hab
  clear hb hab
  go_loopw [9] (fun iv wr => ∃ (i : Nat), i ≤ n ∧ iv = .int .i64 i ∧ PS w b rb room tmo i wr) (fun iv _ => n - (intOf iv).toNat)
  case atStart => exact ⟨0, by omega, rfl, unhide HPS⟩
  case round =>
    obtain ⟨i, hin, rfl, hps⟩ := hrel
    have HS := hide hps
    clear hps HPS
    by_cases hlt : i < n ∧ i < 60
    · have q1 : (i : Int) < n := by omega
      have q2 : (i : Int) < 60 := by omega
      obtain ⟨p, hp⟩ : ∃ p, l[i]? = some p := ⟨_, List.getElem?_eq_getElem (by rw [unhide HN]; exact hlt.1)⟩
      obtain ⟨gd, od, rfl, hgl, hra⟩ := pas_rangeP (unhide HA) (unhide HS).be hp
      have hsz := unhide HSZ p (List.mem_of_getElem? hp)
      have HRX : Hid (∀ x, Below w.heap.size w x → x.rangeAt gd (od + i * 7) p.cl) := by
        intro x hx
        obtain ⟨g', o', h1, _, h2⟩ := pas_rangeP (unhide HA) hx hp
        cases h1
        exact h2
      obtain ⟨kd, nd, nn, px, py, s, on⟩ := p
      have c5 : wr.cell? ⟨gd, od + i * 7 + 5, none⟩ = some (.string s) := hra 5 _ rfl
      clear hp hgl
      by_cases hs : 100 < s.size
      · have q3 : (100 : Int) < s.size := by omega
        clear hra
        go_wp2
        go_roundw
        case rel => exact ⟨i + 1, by omega, by go_num, unhide (hide (unhide HS).more)⟩
        case measure => simp [intOf]; omega
      · have q3 : ¬ (100 : Int) < s.size := by omega
        have HRA : Hid (wr.rangeAt gd (od + i * 7) [.int .i64 kd, .int .i64 nd, .int .i64 nn, .int .i64 px, .int .i64 py, .string s, .bool on]) := hra
        have HPL : Hid ((Try.prog.info? 33).map (·.size) = some [Value.int .i64 kd, .int .i64 nd, .int .i64 nn, .int .i64 px, .int .i64 py, .string s, .bool on].length) := by
          show _ = _
          kernel_rfl
        clear hra hs
        go_wp2_with fail
        obtain ⟨P, C, Bn, v, vb, Bs, t1, t2, t3, t4, t5⟩ := (unhide HS).ex
        obtain ⟨L', Bs', hl', hdo⟩ := do_play ⟨kd, nd, nn, px, py, s, on⟩ w.heap.size b room tmo P C Bn v vb Bs wr t1 (unhide HRM).2 t3 (by omega)
        have HDO := hide hdo
        have hBm : w.heap.size ≤ wr.heap.size := (unhide HS).be.size
        have hrb : rb < wr.heap.size := lt_of_block t5
        have HZ := hide (show PZ w.heap.size b rb room tmo P C Bn v vb (lst P C 16) Bs L' Bs' 0 wr from ⟨⟨P, C, Bn, ⟨rfl, rfl, rfl⟩, t1⟩, t2, t5, hBm⟩)
        obtain ⟨av, cv, rfl⟩ := ownDe_shape t2.oL
        obtain ⟨ab, cb, rfl⟩ := ownI_shape t2.oB
        have HR := hide t5
        have HLB := hide (show Bs'.length ≤ i + 1 by omega)
        have HM := hide (And.intro hBm hrb)
        clear t1 t2 t3 t4 t5 hdo hl' hBm hrb
        generalize lst P C 16 = LL at *
        generalize LL.length = nl at *
        generalize Bs.length = nbb at *
        refine wp_region_rse [false, false, false, false, false, false, true, true, true, true, true, true, true] [false, false, false, false, false, false, true, false, false, false, false, false, false] [] [] [72, 65, 73, 74, 10, 11] _ ?A9 (Fp w.heap.size room tmo L' Bs' wr.heap.size) (RP w.heap.size room tmo L' Bs' wr.heap.size) (fun i b x => i = 11 → ∃ g, b.eval (.tmp 10) = .pointer (some ⟨g, 0, none⟩) ∧ wr.heap.size ≤ g ∧ Gd w.heap.size room tmo L' Bs' x g) (PZ w.heap.size b rb room tmo P C Bn (.slice av nl cv) (.slice ab nbb cb) LL Bs L' Bs') (by kernel_rfl) (by kernel_rfl) (by kernel_rfl) ?hmc (fun x hx => (unhide HZ).up hx) (fun k x y h hb => h.up hb) (fun x y z h1 h2 => h1.trans h2) (fun x y h => Fp.of_below h) (fun j v x y h hf => h.stay hf) ?hT1 ?hT2 (Off.refl _ _) (by simp) ?lex (by simp) ?st ?sf ?fin
        case hmc =>
          intro j hj
          have hj : j ∈ [6] := mask_in hj
          simp only [List.mem_cons, List.not_mem_nil, or_false] at hj
          subst hj
          rfl
        case hT1 =>
          intro j bq x y h hf e
          obtain ⟨g, h1, h2, h3⟩ := h e
          exact ⟨g, h1, h2, hf.gd h3⟩
        case hT2 =>
          intro j o ho bq bq' x hop h e
          subst e
          simp only [List.getElem?_cons_succ, List.getElem?_cons_zero, Option.some.injEq] at ho
          subst ho
          obtain ⟨g, h1, h2⟩ := h rfl
          exact ⟨g, (hop 10 (by simp [Op.operands])).trans h1, h2⟩
        case lex =>
          intro z hz
          have hneX := gb_ne z
          have hbz : Below w.heap.size w z := (unhide HS).be.trans ⟨hz.os, hz.tape, hz.output, hz.size, fun k hk => hz.low k hk (Nat.lt_of_lt_of_le hk (unhide HM).1)⟩
          have hr := unhide HRX z hbz
          have hrz : z.heap[rb]? = some (.cells #[.int .i64 room, .int .i64 tmo, .slice av nl cv, .slice ab nbb cb] 29 (0, 0)) := by
            rcases hz.row rb _ _ (unhide HR) (by decide) (by decide) with h1 | ⟨h1, _⟩
            · exact h1.trans (unhide HR)
            · exact absurd (unhide HM).2 (by omega)
          obtain ⟨r0, r1, r2, r3⟩ := four_cells hrz
          have a0 : z.cell? ⟨gd, od + i * 7, none⟩ = some (.int .i64 kd) := hr 0 _ rfl
          have y0 : ∀ y : Gb z, y.w.cell? ⟨gd, od + i * 7, none⟩ = some (.int .i64 kd) := fun y => gb_cell a0 y
          have y1 : ∀ y : Gb z, y.w.cell? ⟨gd, od + i * 7 + 1, none⟩ = some (.int .i64 nd) := fun y => gb_cell (hr 1 _ rfl) y
          have y2 : ∀ y : Gb z, y.w.cell? ⟨gd, od + i * 7 + 2, none⟩ = some (.int .i64 nn) := fun y => gb_cell (hr 2 _ rfl) y
          have y3 : ∀ y : Gb z, y.w.cell? ⟨gd, od + i * 7 + 3, none⟩ = some (.int .i64 px) := fun y => gb_cell (hr 3 _ rfl) y
          have y4 : ∀ y : Gb z, y.w.cell? ⟨gd, od + i * 7 + 4, none⟩ = some (.int .i64 py) := fun y => gb_cell (hr 4 _ rfl) y
          have y5 : ∀ y : Gb z, y.w.cell? ⟨gd, od + i * 7 + 5, none⟩ = some (.string s) := fun y => gb_cell (hr 5 _ rfl) y
          have y6 : ∀ y : Gb z, y.w.cell? ⟨gd, od + i * 7 + 6, none⟩ = some (.bool on) := fun y => gb_cell (hr 6 _ rfl) y
          have e0 : ∀ y : Gb z, y.w.cell? ⟨rb, 0, none⟩ = some (.int .i64 room) := fun y => gb_cell r0 y
          have e1 : ∀ y : Gb z, y.w.cell? ⟨rb, 1, none⟩ = some (.int .i64 tmo) := fun y => gb_cell r1 y
          have e2 : ∀ y : Gb z, y.w.cell? ⟨rb, 2, none⟩ = some (.slice av nl cv) := fun y => gb_cell r2 y
          have e3 : ∀ y : Gb z, y.w.cell? ⟨rb, 3, none⟩ = some (.slice ab nbb cb) := fun y => gb_cell r3 y
          clear hbz hr hrz r0 r1 r2 r3 a0
          dsimp only [restM]
          repeat (go_big_quiet_step (fail))
          refine wpQuiet_nil ?_
          exact rfl
        case st =>
          intro j o ho hmj z bq hz hZ hop
          have hj : j ∈ [6] := mask_in hmj
          simp only [List.mem_cons, List.not_mem_nil, or_false] at hj
          subst hj
          simp only [List.getElem?_cons_succ, List.getElem?_cons_zero, Option.some.injEq] at ho
          subst ho
          have y0 : bq.eval (.tmp 66) = .pointer (some ⟨b, 0, none⟩) := hop 66 (by simp [Op.operands, Call.operands])
          have y1 : bq.eval (.tmp 67) = .agg #[.int .i64 room, .int .i64 tmo, .slice av nl cv, .slice ab nbb cb] := hop 67 (by simp [Op.operands, Call.operands])
          have y2 : bq.eval (.tmp 71) = .agg #[.int .i64 kd, .int .i64 nd, .int .i64 nn, .int .i64 px, .int .i64 py, .string s, .bool on] := hop 71 (by simp [Op.operands, Call.operands])
          have hZ' : PZ w.heap.size b rb room tmo P C Bn (.slice av nl cv) (.slice ab nbb cb) LL Bs L' Bs' 0 z := hZ
          refine wp_call 10 #[.tmp 66, .tmp 67, .tmp 71] _ rfl Try.call10 #[.pointer (some ⟨b, 0, none⟩), .agg #[.int .i64 room, .int .i64 tmo, .slice av nl cv, .slice ab nbb cb], .agg #[.int .i64 kd, .int .i64 nd, .int .i64 nn, .int .i64 px, .int .i64 py, .string s, .bool on]] (by simp [y0, y1, y2]) (unhide HDO z hZ'.first hZ'.dt hZ'.sz) ?_
          rintro e w7 hres
          obtain ⟨v1, v2, r, rfl, hr, hd7⟩ := hres.ex
          obtain rfl : r = true := hr.2 trivial
          obtain ⟨z2, f2⟩ := hZ'.call (m := wr.heap.size) hres.pr
          exact ⟨_, rfl, _, rfl, fun _ => ⟨v1, v2, rfl, hd7⟩, fun h => (by cases h), f2, z2⟩
        case sf =>
          intro j o ho hmj hmn k z bq hz hZ hop
          have hj : j ∈ [6, 7, 8, 9, 10, 11, 12] := mask_in hmj
          simp only [List.mem_cons, List.not_mem_nil, or_false] at hj
          rcases hj with rfl | rfl | rfl | rfl | rfl | rfl | rfl
          · exact absurd rfl hmn
          all_goals
            simp only [List.getElem?_cons_succ, List.getElem?_cons_zero, Option.some.injEq] at ho
            subst ho
          · obtain ⟨v1, vb, y0, hd⟩ : ∃ v1 vb, bq.eval (.tmp 72) = .tuple #[tabV room tmo v1 vb, .bool true] ∧ Dt w.heap.size z v1 vb L' Bs' := hop 72 (by simp [Op.operands])
            refine Oper.wp_mono ?_ (?_ : Oper.wp _ _ _ _ (fun b' w' => b' = bq.put (some 65) (.tuple #[tabV room tmo v1 vb, .bool true]) ∧ w' = z) _)
            · rintro b' w' ⟨rfl, rfl⟩
              exact ⟨_, rfl, fun _ => ⟨v1, vb, rfl, hd⟩, fun h => (by cases h), Fp.of_below (Below.refl _ _), hZ⟩
            · have y0' : bq.tmps[72]?.getD undef = .tuple #[tabV room tmo v1 vb, .bool true] := by simpa [Act.eval] using y0
              go_simp
          · obtain ⟨v1, vb, y0, hd⟩ : ∃ v1 vb, bq.eval (.tmp 65) = .tuple #[tabV room tmo v1 vb, .bool true] ∧ Dt w.heap.size z v1 vb L' Bs' := hop 65 (by simp [Op.operands])
            refine Oper.wp_mono ?_ (?_ : Oper.wp _ _ _ _ (fun b' w' => b' = bq.put (some 73) (tabV room tmo v1 vb) ∧ w' = z) _)
            · rintro b' w' ⟨rfl, rfl⟩
              exact ⟨_, rfl, fun _ => ⟨v1, vb, rfl, hd⟩, fun h => (by cases h), Fp.of_below (Below.refl _ _), hZ⟩
            · have y0' : bq.tmps[65]?.getD undef = .tuple #[tabV room tmo v1 vb, .bool true] := by simpa [Act.eval] using y0
              go_simp
          · obtain ⟨v1, vb, y0, hd⟩ : ∃ v1 vb, bq.eval (.tmp 65) = .tuple #[tabV room tmo v1 vb, .bool true] ∧ Dt w.heap.size z v1 vb L' Bs' := hop 65 (by simp [Op.operands])
            refine Oper.wp_mono ?_ (?_ : Oper.wp _ _ _ _ (fun b' w' => b' = bq.put (some 74) (.bool true) ∧ w' = z) _)
            · rintro b' w' ⟨rfl, rfl⟩
              exact ⟨_, rfl, fun _ => rfl, fun h => (by cases h), Fp.of_below (Below.refl _ _), hZ⟩
            · have y0' : bq.tmps[65]?.getD undef = .tuple #[tabV room tmo v1 vb, .bool true] := by simpa [Act.eval] using y0
              go_simp
          · refine Oper.wp_mono ?_ (?_ : Oper.wp _ _ _ _ (fun b' w' => b' = bq.put (some 10) (.pointer (some ⟨z.heap.size, 0, none⟩)) ∧ w' = z.alloc (.cells zT 29)) _)
            · rintro b' w' ⟨rfl, rfl⟩
              have hb3 : Below z.heap.size z (z.alloc (.cells zT 29)) := (Below.refl _ _).alloc (Nat.le_refl _) _
              exact ⟨_, rfl, fun _ => ⟨_, rfl, hz.size, _, heap_alloc_new z _, rfl⟩, fun h => (by cases h), Fp.of_below hb3, hZ.up hb3⟩
            · go_simp
          · obtain ⟨g, y0, hm, hzb⟩ : ∃ g, bq.eval (.tmp 10) = .pointer (some ⟨g, 0, none⟩) ∧ wr.heap.size ≤ g ∧ Zb z g := hop 10 (by simp [Op.operands])
            obtain ⟨v1, vb, y1, hd⟩ : ∃ v1 vb, bq.eval (.tmp 73) = tabV room tmo v1 vb ∧ Dt w.heap.size z v1 vb L' Bs' := hop 73 (by simp [Op.operands])
            obtain ⟨z1, z2, z3⟩ := hZ.store hzb (by have := (unhide HM).2; omega) hm (unhide HM).1 hd
            obtain ⟨cs, hc, hcs⟩ := hzb
            have hoc : (#[.int .i64 room, .int .i64 tmo, v1, vb] : Array Value).all (·.oneCell') = true := by
              obtain ⟨av, cv, rfl⟩ := ownDe_shape hd.oL
              obtain ⟨ab, cb, rfl⟩ := ownI_shape hd.oB
              simp [Value.oneCell']
            refine wp_store_row 29 (.tmp 10) (.tmp 73) rfl g #[.int .i64 room, .int .i64 tmo, v1, vb] y0 y1 29 cs hc (by kernel_rfl) hcs hoc ?_
            exact ⟨undef, rfl, fun h => absurd rfl h, fun _ _ => ⟨g, y0, hm, z3⟩, z2, z1⟩
          · have y0 : bq.eval (.tmp 74) = .bool true := hop 74 (by simp [Op.operands])
            refine Oper.wp_mono ?_ (?_ : Oper.wp _ _ _ _ (fun b' w' => b' = bq.put (some 11) (.bool true) ∧ w' = z) _)
            · rintro b' w' ⟨rfl, rfl⟩
              exact ⟨_, rfl, fun _ => rfl, fun h => (by cases h), Fp.of_below (Below.refl _ _), hZ⟩
            · have y0' : bq.tmps[74]?.getD undef = .bool true := by simpa [Act.eval] using y0
              go_simp
        case fin =>
          intro bq z hz hoff hrel hT hZ
          obtain ⟨g, yg, hg, hgd⟩ := hT 11 _ rfl rfl rfl rfl
          obtain ⟨v1, v2, hc, hd⟩ := hgd.ex
          have y11 : bq.eval (.tmp 11) = .bool true := hrel 12 _ 11 rfl rfl rfl
          have hall := Off.all _ _ hoff
          simp only [List.foldl_cons, List.foldl_nil] at hall
          rw [yg, y11] at hall
          generalize bq.eval (.tmp 72) = v72 at hall
          generalize bq.eval (.tmp 65) = v65 at hall
          generalize bq.eval (.tmp 73) = v73 at hall
          generalize bq.eval (.tmp 74) = v74 at hall
          rw [hall]
          have hbz : Below w.heap.size w z := (unhide HS).be.trans ⟨hz.os, hz.tape, hz.output, hz.size, fun k hk => hz.low k hk (Nat.lt_of_lt_of_le hk (unhide HM).1)⟩
          have hZ' : PZ w.heap.size b rb room tmo P C Bn (.slice av nl cv) (.slice ab nbb cb) LL Bs L' Bs' 1 z := hZ
          have hrz := hide hZ'.r
          obtain ⟨P', C', Bn', j1, j2⟩ := hZ'.tb
          rw [if_neg (by decide)] at j1
          obtain ⟨rfl, hbk⟩ := j1
          have HOC : Hid ((#[.int .i64 room, .int .i64 tmo, v1, v2] : Array Value).all (·.oneCell') = true) := by
            obtain ⟨av, cv, rfl⟩ := ownDe_shape hd.oL
            obtain ⟨ab, cb, rfl⟩ := ownI_shape hd.oB
            show _ = _
            simp [Value.oneCell']
          have HPS2 := hide (PS.of j2 hd hbk (unhide HLB) (unhide hrz) hbz (unhide HS).lo)
          obtain ⟨d0, d1, d2, d3⟩ := four_cells hc
          clear hc hd j2 hbk hbz hZ' hZ hT hrel hoff hall y11 yg hg hgd hz
          clear HS HZ HR HM HDO HRA HPL c5
          simp only [Act.put, List.setIfInBounds_toArray, List.set_cons_succ, List.set_cons_zero]
          go_wp2_with (refine wpList_store_row_to rfl 29 (.tmp 8) (.tmp 75) rfl rb #[.int .i64 room, .int .i64 tmo, v1, v2] rfl rfl 29 #[.int .i64 room, .int .i64 tmo, .slice av nl cv, .slice ab nbb cb] (unhide hrz) (by kernel_rfl) (by rfl) (unhide HOC) (fun w' => PS w b rb room tmo (i + 1) w') (unhide HPS2) ?_)
          intro w6 h6
          have HS6 := hide h6
          clear h6 HPS2 hrz d0 d1 d2 d3 HOC
          go_wp2_with fail
          obtain ⟨P6, C6, Bn6, v6, vb6, Bs6, t1, t2, t3, t4, t5⟩ := (unhide HS6).ex
          refine (list_any _ b room tmo P6 C6 Bn6 t1.tb).mono ?_
          rintro e w7 ⟨v7, rfl, hR⟩
          have HS7 := hide ((unhide HS6).up hR.be)
          have u1 := t1.up hR.be
          have u2 := t2.up hR.be
          have u5 := (hR.be.block _ (lt_of_block t5)).trans t5
          have hbn : (isPr nd && Bn6 nd.toNat) = hasI Bs6 nd := (t3 nd).symm
          obtain ⟨a7, c7, rfl, hpe7, hbl7⟩ := own_pes hR.own
          obtain ⟨a8, c8, rfl, hpe8, hbl8⟩ := own_des u2.oL
          obtain ⟨a9, c9, rfl, hI9, _, _⟩ := OwnI.ints u2.oB
          have hI9 := hI9
          have hnB := u2.nB
          have hLEN := hide (fun x : Gb w7 => len_any x.w b room tmo P6 C6 Bn6 (u1.up x.ok).tb)
          have hBAN := hide (fun x : Gb w7 => banned_any nd b room tmo P6 C6 Bn6 x.w (u1.up x.ok).tb)
          have hHAS := hide (fun x : Gb w7 => rhas_any a9 Bs6 c9 nd x.w (hI9.below x.ok) (by unfold maxLen; omega))
          rw [hbn] at hBAN
          have HU1 := hide u1
          have HU2 := hide u2
          have HND := hide u1.nds
          have HP7 := hide hpe7
          have HP8 := hide hpe8
          have HB7 := hide (fun a ha => (hbl7 a ha).2)
          have HB8 := hide (fun a ha => (hbl8 a ha).2)
          have hn16 := u2.nL
          obtain ⟨r0, r1, r2, r3⟩ := four_cells u5
          have HRB : Hid (LivesAt w7 ⟨rb, 2, none⟩ (.slice a8 (lst P6 C6 16).length c8)) := r2
          have HRR : Hid (w7.heap[rb]? = some (.cells #[.int .i64 room, .int .i64 tmo, .slice a8 (lst P6 C6 16).length c8, .slice a9 Bs6.length c9] 29 (0, 0))) := u5
          obtain ⟨bb, hbb⟩ : ∃ bb, bb = hasI Bs6 nd := ⟨_, rfl⟩
          rw [← hbb] at hBAN hHAS
          obtain ⟨m, hm⟩ : ∃ m, m = (lst P6 C6 16).length := ⟨_, rfl⟩
          rw [← hm] at hLEN hn16 r2 HRB HRR ⊢
          have HMM := hide hm
          generalize Bs6.length = nb6 at *
          have hra7 := unhide HRX w7 (unhide HS7).be
          have HRA7 := hide hra7
          clear t1 t2 t3 t4 t5 hR u1 u2 u5 hbn hpe7 hbl7 hpe8 hbl8 hI9 hnB hbb hm HS6
          have hneX := gb_ne w7
          have y1 : ∀ y : Gb w7, y.w.cell? ⟨gd, od + i * 7 + 1, none⟩ = some (.int .i64 nd) := fun y => gb_cell (hra7 1 _ rfl) y
          have e2 : ∀ y : Gb w7, y.w.cell? ⟨rb, 2, none⟩ = some (.slice a8 m c8) := fun y => gb_cell r2 y
          have e3 : ∀ y : Gb w7, y.w.cell? ⟨rb, 3, none⟩ = some (.slice a9 nb6 c9) := fun y => gb_cell r3 y
          clear hra7 r0 r1 r2 r3
          go_wp2_with fail
          refine wp_region_grB (by kernel_rfl) (by kernel_rfl) ?_
          repeat (go_big_quiet_step (first | (go_at_call 12; exact gb_call (unhide hLEN _)) | (go_at_call 13; exact gb_same (unhide hBAN _)) | (go_at_call 14; exact gb_same (unhide hHAS _))))
          refine wpQuiet_nil ?_
          rintro wz ⟨xz, rfl⟩
          have HB8' := hide xz.ok
          clear y1 e2 e3
          generalize xz.w = w8 at *
          go_wp2_with fail
          obtain ⟨wo, hwo⟩ : ∃ x, x = wr := ⟨_, rfl⟩
          clear hwo
          go_loopw [13] (fun kv wz => ∃ (k : Nat), k ≤ m ∧ kv = .int .i64 k ∧ Below w7.heap.size w7 wz) (fun kv _ => m - (intOf kv).toNat)
          case atStart => exact ⟨0, by omega, rfl, unhide HB8'⟩
          case round =>
            obtain ⟨k, hkm, rfl, hbk⟩ := hrel
            have HBK := hide hbk
            clear hbk
            by_cases hkl : k < m
            · have q5 : (k : Int) < m := by omega
              obtain ⟨c0, hc0⟩ : ∃ c0, (lst P6 C6 16)[k]? = some c0 := ⟨_, List.getElem?_eq_getElem (by rw [← unhide HMM]; exact hkl)⟩
              obtain ⟨g7, rfl, hr7⟩ := (unhide HP7).up (unhide HB7) (unhide HBK) k c0 hc0
              obtain ⟨g8, rfl, hr8⟩ := (unhide HP8).up (unhide HB8) (unhide HBK) k c0 hc0
              have hr5 := ((unhide HRB).up (unhide HBK))
              have hREF := hide (fun x => ref18_any c0 x)
              obtain ⟨cd, cx, cy, chv, cwa, cop, cos, cse, cnw, cra⟩ := c0
              unfold Pr.cl at hREF
              dsimp only at hREF
              have hneY := gb_ne wr
              have e2 : ∀ y : Gb wr, y.w.cell? ⟨rb, 2, none⟩ = some (.slice (some ⟨g8, 0, none⟩) m c8) := fun y => gb_cell hr5 y
              have f0 : ∀ y : Gb wr, y.w.cell? ⟨g7, k * 10, none⟩ = some (.int .i64 cd) := fun y => gb_cell (hr7 0 _ rfl) y
              have f1 : ∀ y : Gb wr, y.w.cell? ⟨g7, k * 10 + 1, none⟩ = some (.int .i64 cx) := fun y => gb_cell (hr7 1 _ rfl) y
              have f2 : ∀ y : Gb wr, y.w.cell? ⟨g7, k * 10 + 2, none⟩ = some (.int .i64 cy) := fun y => gb_cell (hr7 2 _ rfl) y
              have f3 : ∀ y : Gb wr, y.w.cell? ⟨g7, k * 10 + 3, none⟩ = some (.string chv) := fun y => gb_cell (hr7 3 _ rfl) y
              have f4 : ∀ y : Gb wr, y.w.cell? ⟨g7, k * 10 + 4, none⟩ = some (.bool cwa) := fun y => gb_cell (hr7 4 _ rfl) y
              have f5 : ∀ y : Gb wr, y.w.cell? ⟨g7, k * 10 + 5, none⟩ = some (.bool cop) := fun y => gb_cell (hr7 5 _ rfl) y
              have f6 : ∀ y : Gb wr, y.w.cell? ⟨g7, k * 10 + 6, none⟩ = some (.bool cos) := fun y => gb_cell (hr7 6 _ rfl) y
              have f7 : ∀ y : Gb wr, y.w.cell? ⟨g7, k * 10 + 7, none⟩ = some (.int .i64 cse) := fun y => gb_cell (hr7 7 _ rfl) y
              have f8 : ∀ y : Gb wr, y.w.cell? ⟨g7, k * 10 + 8, none⟩ = some (.int .i64 cnw) := fun y => gb_cell (hr7 8 _ rfl) y
              have f9 : ∀ y : Gb wr, y.w.cell? ⟨g7, k * 10 + 9, none⟩ = some (.int .i64 cra) := fun y => gb_cell (hr7 9 _ rfl) y
              have h0 : ∀ y : Gb wr, y.w.cell? ⟨g8, k * 10, none⟩ = some (.int .i64 cd) := fun y => gb_cell (hr8 0 _ rfl) y
              have h1 : ∀ y : Gb wr, y.w.cell? ⟨g8, k * 10 + 1, none⟩ = some (.int .i64 cx) := fun y => gb_cell (hr8 1 _ rfl) y
              have h2 : ∀ y : Gb wr, y.w.cell? ⟨g8, k * 10 + 2, none⟩ = some (.int .i64 cy) := fun y => gb_cell (hr8 2 _ rfl) y
              have h3 : ∀ y : Gb wr, y.w.cell? ⟨g8, k * 10 + 3, none⟩ = some (.string chv) := fun y => gb_cell (hr8 3 _ rfl) y
              have h4 : ∀ y : Gb wr, y.w.cell? ⟨g8, k * 10 + 4, none⟩ = some (.bool cwa) := fun y => gb_cell (hr8 4 _ rfl) y
              have h5 : ∀ y : Gb wr, y.w.cell? ⟨g8, k * 10 + 5, none⟩ = some (.bool cop) := fun y => gb_cell (hr8 5 _ rfl) y
              have h6 : ∀ y : Gb wr, y.w.cell? ⟨g8, k * 10 + 6, none⟩ = some (.bool cos) := fun y => gb_cell (hr8 6 _ rfl) y
              have h7 : ∀ y : Gb wr, y.w.cell? ⟨g8, k * 10 + 7, none⟩ = some (.int .i64 cse) := fun y => gb_cell (hr8 7 _ rfl) y
              have h8 : ∀ y : Gb wr, y.w.cell? ⟨g8, k * 10 + 8, none⟩ = some (.int .i64 cnw) := fun y => gb_cell (hr8 8 _ rfl) y
              have h9 : ∀ y : Gb wr, y.w.cell? ⟨g8, k * 10 + 9, none⟩ = some (.int .i64 cra) := fun y => gb_cell (hr8 9 _ rfl) y
              clear hr7 hr8 hr5 hc0
              go_wp2_with fail
              refine wp_region_grB (by kernel_rfl) (by kernel_rfl) ?_
              repeat (go_big_quiet_step ((go_at_call 15; exact gb_call (unhide hREF _))))
              refine wpQuiet_nil ?_
              rintro wz ⟨xz, rfl⟩
              have HB9' := hide ((unhide HBK).trans (xz.ok.mono (unhide HBK).size))
              clear e2 f0 f1 f2 f3 f4 f5 f6 f7 f8 f9 h0 h1 h2 h3 h4 h5 h6 h7 h8 h9 hneY HBK hREF
              generalize xz.w = wz at *
              go_wp2
              go_roundw
              case rel => exact ⟨k + 1, by omega, by go_num, unhide HB9'⟩
              case measure => simp [intOf]; omega
            · have q5 : ¬ (k : Int) < m := by omega
              have hkk : k = m := by omega
              have HSE := hide ((unhide HS7).up (unhide HBK))
              have HDT : Hid (Dt w.heap.size w7 (.slice a8 m c8) (.slice a9 nb6 c9) (lst P6 C6 16) Bs6) := by rw [unhide HMM]; exact unhide HU2
              have HU1 := hide ((unhide HU1).up (unhide HBK))
              have hnd1 : wr.cell? ⟨gd, od + i * 7 + 1, none⟩ = some (.int .i64 nd) := unhide HRX wr (unhide HSE).be 1 _ rfl
              cases ht : th P6 nd with
              | true =>
                obtain ⟨p, hpn, p1, p2, g6, hg6⟩ := th_yes ht
                obtain ⟨at6, ha1, ha2⟩ := (fnd_th (unhide HND)).1 ht
                rw [hpn, Int.toNat_natCast] at ha2
                have hget := hide (get_yes p g6 b room tmo P6 C6 Bn6 wr (unhide HU1).tb ⟨p1, p2⟩ hg6)
                rw [← hpn] at hget
                have hfi := fun (x : World) (hx : Dt w.heap.size x (.slice a8 m c8) (.slice a9 nb6 c9) (lst P6 C6 16) Bs6) => dfind_any w.heap.size room tmo nd _ _ _ _ x hx
                rw [ha1] at hfi
                have HAT := hide ha2
                have hlt6 : at6 < m := by have := (List.getElem?_eq_some_iff.1 ha2).1; rw [unhide HMM]; exact this
                generalize C6 p = c6 at *
                clear ht hpn p1 p2 hg6 ha1 ha2
                have HFI := hide hfi
                clear hfi
                go_wp2_with fail
                refine (unhide hget).mono ?_
                rintro e w9 ⟨rfl, b9⟩
                have HN9 := hide (newPe w9 c6)
                have HO9 := hide (heap_alloc_new w9 (.cells zP.cl.toArray 46))
                have HI9 := hide (pr_info c6)
                have HA9 := hide (pr_all c6)
                have HB9 := hide ((unhide HBK).trans (b9.mono (unhide HBK).size))
                have HCC : Hid (∃ cc, cc = c6.cl.toArray) := ⟨_, rfl⟩
                obtain ⟨cc, hcc⟩ := unhide HCC
                have HCD := hide hcc
                rw [← hcc] at HI9 HA9 ⊢
                clear b9 hget HCC hcc
                unfold zP Pr.cl at HO9
                dsimp only at HO9
                go_wp2_with (refine wpList_store_row_to rfl 46 (.tmp 14) (.tmp 138) rfl w9.heap.size cc rfl rfl 46 _ (unhide HO9) (unhide HI9) (by rw [unhide HCD]; rfl) (unhide HA9) (NewPe w9 c6) (by rw [unhide HCD]; exact unhide HN9) ?_)
                intro w10 h10
                have HB10 := hide ((unhide HB9).trans (h10.be.mono (unhide HB9).size))
                have HS10 := hide ((unhide HS7).up (unhide HB10))
                have hfi := hide (fun x : Gb w10 => unhide HFI x.w (((unhide HDT).up (unhide HB10)).up x.ok))
                obtain ⟨r0, r1, r2, r3⟩ := four_cells (((unhide HB10).block _ (lt_of_block (unhide HRR))).trans (unhide HRR))
                have hn1 : w10.cell? ⟨gd, od + i * 7 + 1, none⟩ = some (.int .i64 nd) := unhide HRX w10 (unhide HS10).be 1 _ rfl
                obtain ⟨g8, rfl, hr8⟩ := (unhide HP8).up (unhide HB8) (unhide HB10) at6 c6 (unhide HAT)
                have hbk := h10.blk
                have hREF := hide (fun x => ref18_any c6 x)
                clear h10
                have hneY := gb_ne w10
                have e0 : ∀ y : Gb w10, y.w.cell? ⟨rb, 0, none⟩ = some (.int .i64 room) := fun y => gb_cell r0 y
                have e1 : ∀ y : Gb w10, y.w.cell? ⟨rb, 1, none⟩ = some (.int .i64 tmo) := fun y => gb_cell r1 y
                have e2 : ∀ y : Gb w10, y.w.cell? ⟨rb, 2, none⟩ = some (.slice (some ⟨g8, 0, none⟩) m c8) := fun y => gb_cell r2 y
                have e3 : ∀ y : Gb w10, y.w.cell? ⟨rb, 3, none⟩ = some (.slice a9 nb6 c9) := fun y => gb_cell r3 y
                have y1 : ∀ y : Gb w10, y.w.cell? ⟨gd, od + i * 7 + 1, none⟩ = some (.int .i64 nd) := fun y => gb_cell hn1 y
                clear r0 r1 r2 r3 hn1
                go_wp2_with fail
                refine wp_region_grB (by kernel_rfl) (by kernel_rfl) ?_
                repeat (go_big_quiet_step ((go_at_call 17; exact gb_call (unhide hfi _))))
                refine wpQuiet_nil ?_
                rintro wz ⟨xz, rfl⟩
                clear hneY e0 e1 e2 e3 y1 hfi
                have HBX := hide xz.ok
                have hr5 : xz.w.cell? ⟨rb, 2, none⟩ = some (.slice (some ⟨g8, 0, none⟩) m c8) := (unhide HRB).up ((unhide HB10).trans (xz.ok.mono (unhide HB10).size))
                have hr8' := fun (j : Nat) (v : Value) (h : c6.cl[j]? = some v) => cell_below (hr8 j v h) xz.ok
                have hb7 := (xz.ok.block _ (lt_of_block hbk)).trans hbk
                obtain ⟨cd, cx, cy, chv, cwa, cop, cos, cse, cnw, cra⟩ := c6
                unfold Pr.cl at hREF hb7
                dsimp only at hREF hb7
                generalize xz.w = w11 at *
                have hneY := gb_ne w11
                have d1 : decide ((0 : Int) ≤ at6) = true := decide_eq_true (by omega)
                have q6 : (at6 : Int) < m := by omega
                have e2 : ∀ y : Gb w11, y.w.cell? ⟨rb, 2, none⟩ = some (.slice (some ⟨g8, 0, none⟩) m c8) := fun y => gb_cell hr5 y
                have f0 : ∀ y : Gb w11, y.w.cell? ⟨w9.heap.size, 0, none⟩ = some (.int .i64 cd) := fun y => gb_cell (by simp [World.cell?, hb7]) y
                have f1 : ∀ y : Gb w11, y.w.cell? ⟨w9.heap.size, 1, none⟩ = some (.int .i64 cx) := fun y => gb_cell (by simp [World.cell?, hb7]) y
                have f2 : ∀ y : Gb w11, y.w.cell? ⟨w9.heap.size, 2, none⟩ = some (.int .i64 cy) := fun y => gb_cell (by simp [World.cell?, hb7]) y
                have f3 : ∀ y : Gb w11, y.w.cell? ⟨w9.heap.size, 3, none⟩ = some (.string chv) := fun y => gb_cell (by simp [World.cell?, hb7]) y
                have f4 : ∀ y : Gb w11, y.w.cell? ⟨w9.heap.size, 4, none⟩ = some (.bool cwa) := fun y => gb_cell (by simp [World.cell?, hb7]) y
                have f5 : ∀ y : Gb w11, y.w.cell? ⟨w9.heap.size, 5, none⟩ = some (.bool cop) := fun y => gb_cell (by simp [World.cell?, hb7]) y
                have f6 : ∀ y : Gb w11, y.w.cell? ⟨w9.heap.size, 6, none⟩ = some (.bool cos) := fun y => gb_cell (by simp [World.cell?, hb7]) y
                have f7 : ∀ y : Gb w11, y.w.cell? ⟨w9.heap.size, 7, none⟩ = some (.int .i64 cse) := fun y => gb_cell (by simp [World.cell?, hb7]) y
                have f8 : ∀ y : Gb w11, y.w.cell? ⟨w9.heap.size, 8, none⟩ = some (.int .i64 cnw) := fun y => gb_cell (by simp [World.cell?, hb7]) y
                have f9 : ∀ y : Gb w11, y.w.cell? ⟨w9.heap.size, 9, none⟩ = some (.int .i64 cra) := fun y => gb_cell (by simp [World.cell?, hb7]) y
                have h0 : ∀ y : Gb w11, y.w.cell? ⟨g8, at6 * 10, none⟩ = some (.int .i64 cd) := fun y => gb_cell (hr8' 0 _ rfl) y
                have h1 : ∀ y : Gb w11, y.w.cell? ⟨g8, at6 * 10 + 1, none⟩ = some (.int .i64 cx) := fun y => gb_cell (hr8' 1 _ rfl) y
                have h2 : ∀ y : Gb w11, y.w.cell? ⟨g8, at6 * 10 + 2, none⟩ = some (.int .i64 cy) := fun y => gb_cell (hr8' 2 _ rfl) y
                have h3 : ∀ y : Gb w11, y.w.cell? ⟨g8, at6 * 10 + 3, none⟩ = some (.string chv) := fun y => gb_cell (hr8' 3 _ rfl) y
                have h4 : ∀ y : Gb w11, y.w.cell? ⟨g8, at6 * 10 + 4, none⟩ = some (.bool cwa) := fun y => gb_cell (hr8' 4 _ rfl) y
                have h5 : ∀ y : Gb w11, y.w.cell? ⟨g8, at6 * 10 + 5, none⟩ = some (.bool cop) := fun y => gb_cell (hr8' 5 _ rfl) y
                have h6 : ∀ y : Gb w11, y.w.cell? ⟨g8, at6 * 10 + 6, none⟩ = some (.bool cos) := fun y => gb_cell (hr8' 6 _ rfl) y
                have h7 : ∀ y : Gb w11, y.w.cell? ⟨g8, at6 * 10 + 7, none⟩ = some (.int .i64 cse) := fun y => gb_cell (hr8' 7 _ rfl) y
                have h8 : ∀ y : Gb w11, y.w.cell? ⟨g8, at6 * 10 + 8, none⟩ = some (.int .i64 cnw) := fun y => gb_cell (hr8' 8 _ rfl) y
                have h9 : ∀ y : Gb w11, y.w.cell? ⟨g8, at6 * 10 + 9, none⟩ = some (.int .i64 cra) := fun y => gb_cell (hr8' 9 _ rfl) y
                clear hr8 hr8' hb7 hbk hr5
                go_wp2_with fail
                refine wp_region_grB (by kernel_rfl) (by kernel_rfl) ?_
                repeat (go_big_quiet_step ((go_at_call 15; exact gb_call (unhide hREF _))))
                refine wpQuiet_nil ?_
                rintro wz ⟨xz2, rfl⟩
                have HF := hide (((unhide HS10).up (unhide HBX)).up xz2.ok)
                clear hneY e2 f0 h0 f1 h1 f2 h2 f3 h3 f4 h4 f5 h5 f6 h6 f7 h7 f8 h8 f9 h9
                generalize xz2.w = w12 at *
                go_wp2
                go_roundw
                case rel => exact ⟨i + 1, by omega, by go_num, unhide HF⟩
                case measure => simp [intOf]; omega
              | false =>
                have hget := hide (get_no nd b room tmo P6 C6 Bn6 wr (unhide HU1).tb (th_no ht))
                have ha1 := (fnd_th (unhide HND)).2 ht
                have hfi := fun (x : World) (hx : Dt w.heap.size x (.slice a8 m c8) (.slice a9 nb6 c9) (lst P6 C6 16) Bs6) => dfind_any w.heap.size room tmo nd _ _ _ _ x hx
                rw [ha1] at hfi
                obtain ⟨c6, hc6⟩ : ∃ c6, c6 = zP := ⟨_, rfl⟩
                rw [← hc6] at hget
                clear ht ha1 hc6
                have HFI := hide hfi
                clear hfi
                go_wp2_with fail
                refine (unhide hget).mono ?_
                rintro e w9 ⟨rfl, b9⟩
                have HN9 := hide (newPe w9 c6)
                have HO9 := hide (heap_alloc_new w9 (.cells zP.cl.toArray 46))
                have HI9 := hide (pr_info c6)
                have HA9 := hide (pr_all c6)
                have HB9 := hide ((unhide HBK).trans (b9.mono (unhide HBK).size))
                have HCC : Hid (∃ cc, cc = c6.cl.toArray) := ⟨_, rfl⟩
                obtain ⟨cc, hcc⟩ := unhide HCC
                have HCD := hide hcc
                rw [← hcc] at HI9 HA9 ⊢
                clear b9 hget HCC hcc
                unfold zP Pr.cl at HO9
                dsimp only at HO9
                go_wp2_with (refine wpList_store_row_to rfl 46 (.tmp 14) (.tmp 138) rfl w9.heap.size cc rfl rfl 46 _ (unhide HO9) (unhide HI9) (by rw [unhide HCD]; rfl) (unhide HA9) (NewPe w9 c6) (by rw [unhide HCD]; exact unhide HN9) ?_)
                intro w10 h10
                have HB10 := hide ((unhide HB9).trans (h10.be.mono (unhide HB9).size))
                have HS10 := hide ((unhide HS7).up (unhide HB10))
                have hfi := hide (fun x : Gb w10 => unhide HFI x.w (((unhide HDT).up (unhide HB10)).up x.ok))
                obtain ⟨r0, r1, r2, r3⟩ := four_cells (((unhide HB10).block _ (lt_of_block (unhide HRR))).trans (unhide HRR))
                have hn1 : w10.cell? ⟨gd, od + i * 7 + 1, none⟩ = some (.int .i64 nd) := unhide HRX w10 (unhide HS10).be 1 _ rfl
                clear h10
                have hneY := gb_ne w10
                have e0 : ∀ y : Gb w10, y.w.cell? ⟨rb, 0, none⟩ = some (.int .i64 room) := fun y => gb_cell r0 y
                have e1 : ∀ y : Gb w10, y.w.cell? ⟨rb, 1, none⟩ = some (.int .i64 tmo) := fun y => gb_cell r1 y
                have e2 : ∀ y : Gb w10, y.w.cell? ⟨rb, 2, none⟩ = some (.slice a8 m c8) := fun y => gb_cell r2 y
                have e3 : ∀ y : Gb w10, y.w.cell? ⟨rb, 3, none⟩ = some (.slice a9 nb6 c9) := fun y => gb_cell r3 y
                have y1 : ∀ y : Gb w10, y.w.cell? ⟨gd, od + i * 7 + 1, none⟩ = some (.int .i64 nd) := fun y => gb_cell hn1 y
                clear r0 r1 r2 r3 hn1
                go_wp2_with fail
                refine wp_region_grB (by kernel_rfl) (by kernel_rfl) ?_
                repeat (go_big_quiet_step ((go_at_call 17; exact gb_call (unhide hfi _))))
                refine wpQuiet_nil ?_
                rintro wz ⟨xz, rfl⟩
                clear hneY e0 e1 e2 e3 y1 hfi
                have HBX := hide xz.ok
                generalize xz.w = w11 at *
                have hneY := gb_ne w11
                go_wp2_with fail
                refine wp_region_grB (by kernel_rfl) (by kernel_rfl) ?_
                repeat (go_big_quiet_step (fail))
                refine wpQuiet_nil ?_
                rintro wz ⟨xz2, rfl⟩
                have HF := hide (((unhide HS10).up (unhide HBX)).up xz2.ok)
                clear hneY
                generalize xz2.w = w12 at *
                go_wp2
                go_roundw
                case rel => exact ⟨i + 1, by omega, by go_num, unhide HF⟩
                case measure => simp [intOf]; omega
    · have HB9 := hide (unhide HS).be
      clear HS
      by_cases hlt1 : i < n
      · have q1 : (i : Int) < n := by omega
        have q2 : ¬ (i : Int) < 60 := by omega
        go_wp2
        go_ret
        exact ⟨rfl, unhide HB9⟩
      · have q1 : ¬ (i : Int) < n := by omega
        go_wp2
        go_ret
        exact ⟨rfl, unhide HB9⟩
end Go.Proofs.Ytbfakbooenmhoaa
namespace Go.Proofs.Ytbfakbooenmhoaa
open Go.ChangeShapes Go.WideShapes Go.ChangeAt Go.RowKit Go.Deep
set_option linter.unusedVariables false

theorem peersPlays_any (room tmo : Int) (a0 : Option Addr) (l : List Pa) (c : Nat) (w : World) (hA : PasAt w a0 l) (hO : PasOk l c) :
    Calls Try.prog 3 #[.int .i64 room, .int .i64 tmo, .slice a0 l.length c] w fun e w' => e = .returned (.bool true) ∧ Below w.heap.size w w' := by
  by_cases h : (1 ≤ room ∧ room ≤ 15) ∧ (1 ≤ tmo ∧ tmo ≤ 1099511627776)
  · exact peersPlays_good room tmo a0 l c w h.1 h.2 hA hO
  · exact peersPlays_bad room tmo _ w h
end Go.Proofs.Ytbfakbooenmhoaa

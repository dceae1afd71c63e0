/- A region that draws its order and turns the world step by step: the marked operations wait for one another, and each takes the world on by one step of a given row of states; all others read, in whatever state, and are walked once, in the order of the text. Guarded operations run. -/
import Derived.Test.YtlmmincpjflkdaaRel
namespace Go.Proofs.Ytlmmincpjflkdaa
open Go.RowKit
set_option linter.unusedVariables false

/-- the marked operations wait for one another -/
def mchainOk (l : List Oper) (m : List Bool) : Bool :=
  (List.range l.length).all fun i => (List.range i).all fun j => !(m[i]? == some true) || !(m[j]? == some true) || waits l.toArray 8 i j
theorem mchainOk_spec {l : List Oper} {m : List Bool} (h : mchainOk l m = true) (i j : Nat) (hi : i < l.length) (hj : j < i) (hmi : m[i]? = some true) (hmj : m[j]? = some true) : waits l.toArray 8 i j = true := by
  have h1 := List.all_eq_true.1 (List.all_eq_true.1 h i (List.mem_range.2 hi)) j (List.mem_range.2 hj)
  rw [hmi, hmj] at h1
  simpa using h1
/-- each marked operation takes the world from one state to the next one -/
def doAll (P : Program) (ops : Array Oper) (A : Act) (S : Nat → World → Prop) : Nat → List Oper → Prop
  | _, [] => True
  | k, o :: es => (∀ x, S k x → wpList P ops (OnlyN fun _ b' w' => b' = A ∧ S (k + 1) w') [o] A x) ∧ doAll P ops A S (k + 1) es
/-- the indexes of marked operations -/
def marks (m : List Bool) : List Nat := (List.range m.length).filter fun i => m[i]? == some true
theorem marks_mem {m : List Bool} {i : Nat} (h : m[i]? = some true) : i ∈ marks m := by
  unfold marks
  rw [List.mem_filter, List.mem_range]
  exact ⟨(List.getElem?_eq_some_iff.1 h).1, by rw [h]; rfl⟩

theorem wp_region_do {P : Program} {id : Nat} {Q : Exit → Act → World → Prop} {a : Act} {w : World} {l : List Oper} (m : List Bool) (gs : List (Nat × Bool)) (SL : List Nat) (a0 A : Act) (S : Nat → World → Prop) (r : Nat)
    (hm : P.follows .mixedOrders = true) (hok : relOk l m gs (marks m) SL a.tmps.size = true) (hch : mchainOk l m = true) (hr : (effM m l).length = r)
    (S0 : ∀ x, Below w.heap.size w x → S 0 x) (Sb : ∀ k x y, S k x → Below x.heap.size x y → S k y)
    (ha0 : Off SL a a0)
    (hlex : ∀ k x, S k x → wpQuiet P l.toArray (fun w' => ∃ y : Gb x, w' = y.w) (fun a' => a' = A) (restM m l) a0)
    (hgA : ∀ g ∈ gs, A.eval (.tmp g.1) = .bool g.2)
    (hdo : doAll P l.toArray A S 0 (effM m l))
    (fin : ∀ w', S r w' → Q .normal A w') : (Code.region id l.toArray true).wp P Q a w := by
  have hB := relOk_spec hok
  have htop' := topOkB_spec hB.top
  have arr : ∀ i : Nat, l.toArray[i]? = l[i]? := fun i => by rw [List.getElem?_toArray]
  have hsel : ∀ (o : Oper) cs b, o ∈ l.toArray → o.op ≠ .select cs b := by
    intro o cs b ho
    obtain ⟨j, hj⟩ := Array.getElem?_of_mem ho
    exact Region.noSelect_spec hB.sel j o cs b hj
  have hgk : ∀ (i : Nat) (o : Oper), l[i]? = some o → GuardOk l.toArray A o := by
    intro i o ho
    cases hg : o.guard with
    | none => exact .inl hg
    | some g =>
      obtain ⟨_, _, d, h1, h2⟩ := hB.guard i o g.1 g.2 ho hg
      exact .inr ⟨g.1, g.2, d, hg, by rw [arr]; exact h1, hgA (d, g.2) h2⟩
  have goff : ∀ (i j : Nat) (o o' : Oper), l[i]? = some o → l[j]? = some o' → i ≤ j → GuardOff l.toArray o o'.dst := by
    intro i j o o' ho hj hij g b d hg hd hs
    obtain ⟨⟨e, he, e1, e2⟩, _⟩ := hB.guard i o g b ho hg
    have h3 := htop' i o (by rw [arr]; exact ho) e he e2
    rw [arr] at hd
    cases hq : l[g]? with
    | none => rw [hq] at hd; cases hd
    | some og =>
      rw [hq] at hd
      have := hB.one g j og o' d hq hj hd hs
      omega
  have hpw : l.Pairwise (fun o o' => (∀ s, o.dst = some s → o'.dst ≠ some s) ∧ (∀ s, Operand.tmp s ∈ o.op.operands → o'.dst ≠ some s) ∧ GuardOff l.toArray o o'.dst) := by
    rw [List.pairwise_iff_getElem]
    intro i j h1 h2 hij
    have e1 := List.getElem?_eq_getElem h1
    have e2 := List.getElem?_eq_getElem h2
    refine ⟨fun s hs hs' => ?_, fun s hs hs' => ?_, goff i j _ _ e1 e2 (Nat.le_of_lt hij)⟩
    · have := hB.one i j _ _ s e1 e2 hs hs'
      omega
    · obtain ⟨⟨e, he, h3, h4⟩, _⟩ := hB.reads i j _ _ s e1 e2 hs hs'
      have := htop' i _ (by rw [arr]; exact e1) e he h4
      omega
  have hself : ∀ o ∈ restM m l, (∀ s, Operand.tmp s ∈ o.op.operands → o.dst ≠ some s) ∧ GuardOff l.toArray o o.dst := by
    intro o ho
    obtain ⟨i, e1, _⟩ := restM_of m l o ho
    refine ⟨fun s hs hs' => ?_, goff i i o o e1 e1 (Nat.le_refl _)⟩
    obtain ⟨⟨e, he, h3, h4⟩, _⟩ := hB.reads i i _ _ s e1 e1 hs hs'
    have := htop' i _ (by rw [arr]; exact e1) e he h4
    omega
  have lex := fun (k : Nat) (x : World) (hx : S k x) => lex_lastG (P := P) (ops := l.toArray) (C := fun w' => ∃ y : Gb x, w' = y.w) (A := A) hsel (restM m l) a0 (fun o ho => by obtain ⟨i, hi, _⟩ := restM_of m l o ho; simpa using List.mem_of_getElem? hi) (fun o ho => by obtain ⟨i, hi, _⟩ := restM_of m l o ho; exact hgk i o hi) (fun o ho s hs => by obtain ⟨i, hi, _⟩ := restM_of m l o ho; rw [ha0.size]; exact hB.lt i o s hi hs) (hpw.sublist (restM_sub m l)) hself (hlex k x hx)
  have Sw : S 0 w := S0 w (Below.refl _ _)
  obtain ⟨sz0, df0, out, _⟩ := lex 0 w Sw
  have sz : A.tmps.size = a.tmps.size := sz0.trans ha0.size
  have df : A.defers = a.defers := df0.trans ha0.defers
  have outD : ∀ s, (∀ (j : Nat) (o : Oper), l[j]? = some o → m[j]? ≠ some true → o.dst ≠ some s) → A.tmps[s]? = a0.tmps[s]? := by
    intro s hs
    refine out s (fun o ho hd => ?_)
    obtain ⟨i, hi, hmi⟩ := restM_of m l o ho
    exact hs i o hi hmi hd
  refine wp_region_invB hm htop' (fun f b wx => b.tmps.size = A.tmps.size ∧ b.defers = A.defers ∧
    (∀ (i : Nat) (o : Oper), l[i]? = some o → f i = true → ∀ e ∈ o.after, Region.binds .any e = true → f e.on = true) ∧
    (∃ p k, S k wx ∧ (∀ i, i < l.length → m[i]? = some true → (f i = true ↔ i < p)) ∧ doAll P l.toArray A S k (effM (m.drop p) (l.drop p)) ∧ k + (effM (m.drop p) (l.drop p)).length = r) ∧
    (∀ (j : Nat) (o : Oper) (t : Nat), l[j]? = some o → f j = true → o.dst = some t → b.eval (.tmp t) = A.eval (.tmp t)) ∧
    (∀ t, (∀ (j : Nat) (o : Oper), l[j]? = some o → f j = true → o.dst ≠ some t) → b.tmps[t]? = a.tmps[t]?)) ?start ?step ?fin
  case start =>
    refine ⟨sz.symm, df.symm, fun i o _ h => (by cases h), ⟨0, 0, S0 _ ((Below.refl _ _).drew), fun i _ _ => ⟨fun h => (by cases h), fun h => absurd h (Nat.not_lt_zero _)⟩, hdo, by simpa using hr⟩, fun j o t _ h => (by cases h), fun t _ => rfl⟩
  case step =>
    rintro f b wx i o ⟨s1, s2, s9, ⟨p, k, s3, s7, s8, s10⟩, s4, s6⟩ ho hf hd
    rw [arr] at ho
    have hil := (List.getElem?_eq_some_iff.1 ho).1
    have u1 : upd f i i = true := by simp [upd]
    have u2 : ∀ j, j ≠ i → upd f i j = f j := fun j hj => by simp [upd, hj]
    have u3 : ∀ j, f j = true → upd f i j = true := fun j hj => by
      by_cases e : j = i
      · rw [e]; exact u1
      · rw [u2 j e]; exact hj
    have closed : ∀ (i' : Nat) (o' : Oper), l[i']? = some o' → upd f i i' = true → ∀ e ∈ o'.after, Region.binds .any e = true → upd f i e.on = true := by
      intro i' o' a2 a3 e he hb
      by_cases ei : i' = i
      · subst ei
        rw [ho] at a2
        obtain rfl := Option.some.inj a2
        exact u3 _ (hd e he hb)
      · rw [u2 i' ei] at a3
        exact u3 _ (s9 i' o' a2 a3 e he hb)
    have rdN : ∀ t, Operand.tmp t ∈ o.op.operands → b.eval (.tmp t) = A.eval (.tmp t) := by
      intro t ht
      by_cases hw : ∃ (j : Nat) (o' : Oper), l[j]? = some o' ∧ o'.dst = some t
      · obtain ⟨j, o', hj, hs'⟩ := hw
        obtain ⟨⟨e, he, h3, h4⟩, _⟩ := hB.reads i j o o' t ho hj ht hs'
        have hfj := hd e he h4
        rw [h3] at hfj
        exact s4 j o' t hj hfj hs'
      · refine eval_of_tmps ?_
        rw [s6 t (fun j o' hj _ hs' => hw ⟨j, o', hj, hs'⟩), outD t (fun j o' hj _ hs' => hw ⟨j, o', hj, hs'⟩)]
        by_cases hS : t ∈ SL
        · obtain ⟨j, hj⟩ := hB.sOf t hS
          obtain ⟨_, o', ho', hd'⟩ := wrB_some hj
          exact absurd ⟨j, o', ho', hd'⟩ hw
        · exact (ha0.same t hS).symm
    have he : execOp b.eval o = execOp A.eval o := by
      refine execOp_congr o (fun cs' b' => hsel o cs' b' (by simpa using List.mem_of_getElem? ho)) ?_
      intro y hy
      cases y with
      | tmp t => exact rdN t hy
      | _ => rfl
    have hwant : Region.wanted o (yielded l.toArray b.tmps) = true := by
      cases hg : o.guard with
      | none => unfold Region.wanted; rw [hg]
      | some g =>
        obtain ⟨⟨e, he, e1, e2⟩, h2, d, h5, h6⟩ := hB.guard i o g.1 g.2 ho hg
        refine wanted_at g.1 d g.2 hg (by rw [arr]; exact h5) ?_
        cases hq : l[g.1]? with
        | none => rw [hq] at h5; cases h5
        | some og =>
          rw [hq] at h5
          have hfj := hd e he e2
          rw [e1] at hfj
          rw [s4 g.1 og d hq hfj h5]
          exact hgA (d, g.2) h6
    have pas : ∀ (b : Act) (v : Value) (t : Nat), o.dst ≠ some t → (b.put o.dst v).eval (.tmp t) = b.eval (.tmp t) := fun b v t h => eval_of_tmps (put_tmps_ne _ _ _ _ h)
    have same : ∀ (b : Act) (v : Value) (t : Nat), o.dst = some t → t < b.tmps.size → (b.put o.dst v).eval (.tmp t) = v := by
      intro b v t h hl
      rw [h]
      simp only [Act.eval, Array.getD_eq_getD_getElem?]
      rw [put_tmps_same _ _ _ hl]
      rfl
    have tlt : ∀ t, o.dst = some t → t < b.tmps.size := fun t h => by rw [s1, sz]; exact hB.lt i o t ho h
    have keep : ∀ (v : Value), (∀ t, o.dst = some t → A.eval (.tmp t) = v) →
        (b.put o.dst v).tmps.size = A.tmps.size ∧ (b.put o.dst v).defers = A.defers ∧
        (∀ (j : Nat) (o' : Oper) (t : Nat), l[j]? = some o' → upd f i j = true → o'.dst = some t → (b.put o.dst v).eval (.tmp t) = A.eval (.tmp t)) ∧
        (∀ t, (∀ (j : Nat) (o' : Oper), l[j]? = some o' → upd f i j = true → o'.dst ≠ some t) → (b.put o.dst v).tmps[t]? = a.tmps[t]?) := by
      intro v hv
      refine ⟨by rw [put_size]; exact s1, by rw [put_defers]; exact s2, ?_, ?_⟩
      · intro j o' t hj hu ht
        by_cases ej : j = i
        · subst ej
          rw [ho] at hj
          obtain rfl := Option.some.inj hj
          rw [same b v t ht (tlt t ht), hv t ht]
        · rw [u2 j ej] at hu
          rw [pas b v t (fun h => ej (hB.one j i o' o t hj ho ht h))]
          exact s4 j o' t hj hu ht
      · intro t ht
        rw [put_tmps_ne _ _ _ _ (ht i o ho u1)]
        exact s6 t (fun j o' hj h3 => ht j o' hj (u3 _ h3))
    refine ⟨fun _ => ?_, fun hw => by rw [hwant] at hw; cases hw⟩
    by_cases hmi : m[i]? = some true
    · -- the next marked one
      have hpi : p ≤ i := by
        rcases Nat.lt_or_ge i p with h | h
        · rw [(s7 i hil hmi).2 h] at hf; cases hf
        · exact h
      have hno : ∀ j, p ≤ j → j < p + (i - p) → m[j]? ≠ some true := by
        intro j h1 h2 hmj
        have hji : j < i := by omega
        have hw := mchainOk_spec hch i j hil hji hmi hmj
        have hfj := waits_done (ops := l.toArray) (f := f) (fun i' o' h' => s9 i' o' (by rw [← arr]; exact h')) 8 i o (by rw [arr]; exact ho) hd hw
        have := (s7 j (by omega) hmj).1 hfj
        omega
      have e1 := effM_skip m l p (i - p) hno
      rw [show p + (i - p) = i by omega, effM_at m l i o ho hmi] at e1
      rw [e1] at s8 s10
      obtain ⟨hst, hrest⟩ := s8
      have hwl := hst wx s3
      unfold wpList at hwl
      rw [if_pos ((hgk i o ho).wanted)] at hwl
      have hwp : o.wp P A wx (wpList P l.toArray (OnlyN fun _ b' w' => b' = A ∧ S (k + 1) w') []) (OnlyN fun _ b' w' => b' = A ∧ S (k + 1) w') := by
        rcases hwl with h | ⟨_, h⟩
        · exact h
        · exact absurd h (onlyN_out _)
      refine wp_swap he ?_ ?_ hwp
      · intro v w' hK
        have hK' : A.put o.dst v = A ∧ S (k + 1) w' := hK
        obtain ⟨hA, hS⟩ := hK'
        have hv : ∀ t, o.dst = some t → A.eval (.tmp t) = v := fun t ht => by
          rw [← hA]; exact same A v t ht (by rw [sz, ← sz]; have := tlt t ht; rw [s1] at this; exact this)
        obtain ⟨k1, k2, k3, k4⟩ := keep v hv
        refine ⟨k1, k2, closed, ⟨i + 1, k + 1, hS, fun j hj hmj => ?_, hrest, by rw [List.length_cons] at s10; omega⟩, k3, k4⟩
        by_cases ej : j = i
        · subst ej; rw [u1]; exact ⟨fun _ => by omega, fun _ => rfl⟩
        · rw [u2 j ej, s7 j hj hmj]
          constructor
          · intro h; omega
          · intro h
            rcases Nat.lt_or_ge j p with h' | h'
            · exact h'
            · exact absurd hmj (hno j h' (by omega))
      · intro d w' hK
        have hK' : ({ A with defers := d :: A.defers } : Act).put o.dst undef = A ∧ S (k + 1) w' := hK
        have h1 := congrArg Act.defers hK'.1
        rw [put_defers] at h1
        exact absurd (congrArg List.length h1) (by simp)
    · obtain ⟨_, _, _, each⟩ := lex k wx s3
      obtain ⟨v, hv1, hv2⟩ := each o (restM_mem m l i o ho hmi)
      have hquiet : o.quiet P b (fun w' => ∃ y : Gb wx, w' = y.w) (fun c => c = b.put o.dst v) := ⟨v, fun w' hw' => by
        have := hv2 w' hw'
        unfold Oper.quietAt at this ⊢
        rwa [he], rfl⟩
      refine Oper.wp_of_quiet (C := fun w' => ∃ y : Gb wx, w' = y.w) ⟨⟨wx, Below.refl _ _⟩, rfl⟩ ?_ hquiet
      rintro c w' ⟨⟨_, hb'⟩, rfl⟩ rfl
      obtain ⟨k1, k2, k3, k4⟩ := keep v hv1
      exact ⟨k1, k2, closed, ⟨p, k, Sb k _ _ s3 hb', fun j hj hmj => by rw [u2 j (fun e => hmi (e ▸ hmj))]; exact s7 j hj hmj, s8, s10⟩, k3, k4⟩
  case fin =>
    rintro f b wx ⟨s1, s2, _, ⟨p, k, s3, s7, _, s10⟩, s4, s6⟩ hall
    have hall' : ∀ (i : Nat) (o : Oper), l[i]? = some o → f i = true := fun i o hi => hall i (by simpa using (List.getElem?_eq_some_iff.1 hi).1)
    have hz : effM (m.drop p) (l.drop p) = [] := by
      rw [effM_skip m l p (l.length - p) (fun j h1 h2 hmj => ?_), List.drop_eq_nil_of_le (show l.length ≤ p + (l.length - p) by omega)]
      · cases hd : List.drop (p + (l.length - p)) m <;> rfl
      · have hj : j < l.length := by omega
        have := (s7 j hj hmj).1 (hall j (by simpa using hj))
        omega
    rw [hz] at s10
    have hk : k = r := by simpa using s10
    subst hk
    have hb : b = A := by
      obtain ⟨bt, bd⟩ := b
      obtain ⟨At, Ad⟩ := A
      simp only at s2
      subst s2
      simp only [Act.mk.injEq, and_true]
      refine Array.ext_getElem? fun t => ?_
      by_cases hw : ∃ (j : Nat) (o' : Oper), l[j]? = some o' ∧ o'.dst = some t
      · obtain ⟨j, o', hj, hs'⟩ := hw
        have h5 := s4 j o' t hj (hall' j o' hj) hs'
        have htl : t < a.tmps.size := hB.lt j o' t hj hs'
        have s1' : bt.size = At.size := s1
        have sz' : At.size = a.tmps.size := sz
        simp only [Act.eval, Array.getD_eq_getD_getElem?] at h5
        rw [Array.getElem?_eq_getElem (by omega), Array.getElem?_eq_getElem (by omega)] at h5 ⊢
        simpa using h5
      · have h6 := s6 t (fun j o' hj _ hs' => hw ⟨j, o', hj, hs'⟩)
        have h7 := outD t (fun j o' hj _ hs' => hw ⟨j, o', hj, hs'⟩)
        have h6' : bt[t]? = a.tmps[t]? := h6
        have h7' : At[t]? = a0.tmps[t]? := h7
        rw [h6', h7']
        by_cases hS : t ∈ SL
        · obtain ⟨j, hj⟩ := hB.sOf t hS
          obtain ⟨_, o', ho', hd'⟩ := wrB_some hj
          exact absurd ⟨j, o', ho', hd'⟩ hw
        · exact (ha0.same t hS).symm
    rw [hb]
    exact fin wx s3

end Go.Proofs.Ytlmmincpjflkdaa

/- Mathematics of the numbers that are needed. -/
import Derived.Test.YtfihpmhobjjaaaaPeM
namespace Go.Proofs.Ytfihpmhobjjaaaa
set_option linter.unusedVariables false

/-- is a number in a row? -/
def inR (R : List (List Nat)) (i : Nat) : Bool := R.any fun r => decide (i ∈ r)
/-- what is known behind peeling -/
def pl (n : Nat) (R : List (List Nat)) (S : Nat → Bool) : Nat → Bool := (peelF n S R).2
def orS (S : Nat → Bool) (A : List Nat) : Nat → Bool := fun j => decide (j ∈ A) || S j
/-- the numbers that are in no row, and are not known -/
def loN (n : Nat) (R : List (List Nat)) (S : Nat → Bool) : List Nat := (List.range n).filter fun i => !inR R i && !S i
/-- going up: those that are not known, each made known and peeled with -/
def goN (n : Nat) (R : List (List Nat)) : List Nat → (Nat → Bool) → List Nat
  | [], _ => []
  | i :: l, S => if S i = true then goN n R l S else i :: goN n R l (pl n R (mkS S i))
def goS (n : Nat) (R : List (List Nat)) : List Nat → (Nat → Bool) → (Nat → Bool)
  | [], S => S
  | i :: l, S => if S i = true then goS n R l S else goS n R l (pl n R (mkS S i))
/-- the program's answer -/
def needN (n : Nat) (R : List (List Nat)) (K : List Nat) : List Nat := loN n R (inS K) ++ goN n R (List.range n) (pl n R (orS (inS K) (loN n R (inS K))))
/-- what the document takes next -/
def unN (n : Nat) (T : Nat → Bool) : List Nat := (List.range n).filter fun i => !T i
def nxt (n : Nat) (R : List (List Nat)) (T : Nat → Bool) : Option Nat := match (loN n R T).head? with
  | some a => some a
  | none => (unN n T).head?
def docF (n : Nat) (R : List (List Nat)) : Nat → (Nat → Bool) → List Nat
  | 0, _ => []
  | f + 1, T => match nxt n R T with
    | none => []
    | some i => i :: docF n R f (pl n R (mkS T i))
theorem docF_some {n : Nat} {R : List (List Nat)} {T : Nat → Bool} {i : Nat} (h : nxt n R T = some i) (f : Nat) : docF n R (f + 1) T = i :: docF n R f (pl n R (mkS T i)) := by
  show (match nxt n R T with | none => [] | some i => i :: docF n R f (pl n R (mkS T i))) = _
  rw [h]
theorem docF_none {n : Nat} {R : List (List Nat)} {T : Nat → Bool} (h : nxt n R T = none) : ∀ f, docF n R f T = []
  | 0 => rfl
  | f + 1 => by
    show (match nxt n R T with | none => [] | some i => i :: docF n R f (pl n R (mkS T i))) = _
    rw [h]
theorem pl_up {n : Nat} {R : List (List Nat)} {S : Nat → Bool} {j : Nat} (h : S j = true) : pl n R S j = true := peelF_up _ _ _ h
theorem pl_shut {n : Nat} {R : List (List Nat)} (hR : RLt n R) (S : Nat → Bool) : Shut (pl n R S) R := peelF_shut hR n S (un_le _ _)
theorem shut_pl {n : Nat} {R : List (List Nat)} {T : Nat → Bool} (h : Shut T R) : pl n R T = T := by
  unfold pl
  rw [peelF_none (ripe1_no h)]
theorem pl_least {n : Nat} {R : List (List Nat)} (hN : ∀ r ∈ R, r.Nodup) {S T : Nat → Bool} (hT : Shut T R) (h : ∀ j, S j = true → T j = true) (j : Nat) (hj : pl n R S j = true) : T j = true := peelF_least hN hT n S h j hj
theorem inR_of {R : List (List Nat)} {r : List Nat} {i : Nat} (hr : r ∈ R) (hi : i ∈ r) : inR R i = true := by
  unfold inR
  rw [List.any_eq_true]
  exact ⟨r, hr, by simpa using hi⟩
/-- peeling makes no number known that is in no row -/
theorem peelF_loose {R : List (List Nat)} {i : Nat} (hi : inR R i = false) : ∀ (f : Nat) (S : Nat → Bool), (peelF f S R).2 i = S i := by
  intro f
  induction f with
  | zero => intro S; rfl
  | succ f ih =>
    intro S
    cases h : ripe1 S 0 R with
    | none => rw [peelF_none h]
    | some p =>
      rw [peelF_some h]
      show (peelF f (mkS S p.2) R).2 i = S i
      rw [ih]
      obtain ⟨t, h1, h2, h3⟩ := ripe1_some h
      obtain ⟨a, _, _⟩ := lstN_some h3
      have hne : ¬ i = p.2 := fun e => by
        subst e
        rw [inR_of (List.getElem_mem h2) a] at hi
        cases hi
      simp [mkS, hne]
theorem pl_loose {n : Nat} {R : List (List Nat)} {i : Nat} (hi : inR R i = false) (S : Nat → Bool) : pl n R S i = S i := peelF_loose hi n S
theorem lstN_mk {R : List (List Nat)} {T : Nat → Bool} {a : Nat} {r : List Nat} (ha : inR R a = false) (hr : r ∈ R) : lstN (mkS T a) r = lstN T r := by
  unfold lstN unk
  congr 1
  refine List.filter_congr (fun i hi => ?_)
  have hne : ¬ i = a := fun e => by
    subst e
    rw [inR_of hr hi] at ha
    cases ha
  simp [mkS, hne]
theorem shut_mk {R : List (List Nat)} {T : Nat → Bool} {a : Nat} (h : Shut T R) (ha : inR R a = false) : Shut (mkS T a) R := fun r hr => by
  rw [lstN_mk ha hr]
  exact h r hr
theorem orS_nil (S : Nat → Bool) : orS S [] = S := by funext j; simp [orS]
theorem orS_cons (S : Nat → Bool) (a : Nat) (A : List Nat) : orS (mkS S a) A = orS S (a :: A) := by
  funext j
  simp only [orS, mkS, List.mem_cons]
  by_cases h1 : j = a <;> by_cases h2 : j ∈ A <;> simp [h1, h2]
theorem filter_cons_next {p : Nat → Bool} : ∀ {l : List Nat} {a : Nat} {A : List Nat}, l.Nodup → l.filter p = a :: A → l.filter (fun i => p i && !decide (i = a)) = A
  | [], a, A, _, h => by simp at h
  | x :: l, a, A, hn, h => by
    rw [List.nodup_cons] at hn
    rw [List.filter_cons] at h
    cases hp : p x with
    | true =>
      rw [hp] at h
      simp at h
      obtain ⟨rfl, hA⟩ := h
      rw [List.filter_cons]
      simp
      rw [← hA]
      refine List.filter_congr (fun i hi => ?_)
      have : ¬ i = x := fun e => hn.1 (e ▸ hi)
      simp [this]
    | false =>
      rw [hp] at h
      simp at h
      rw [List.filter_cons, hp]
      simp
      exact filter_cons_next hn.2 h
theorem loN_next {n : Nat} {R : List (List Nat)} {T : Nat → Bool} {a : Nat} {A : List Nat} (h : loN n R T = a :: A) : inR R a = false ∧ T a = false ∧ loN n R (mkS T a) = A := by
  have hm : a ∈ loN n R T := by rw [h]; simp
  unfold loN at hm
  rw [List.mem_filter] at hm
  have h2 := hm.2
  simp at h2
  refine ⟨h2.1, h2.2, ?_⟩
  have := filter_cons_next (p := fun i => !inR R i && !T i) List.nodup_range h
  rw [← this]
  unfold loN
  refine List.filter_congr (fun i hi => ?_)
  simp only [mkS]
  cases inR R i <;> cases T i <;> by_cases e : i = a <;> simp [e]
/-- first all that are in no row -/
theorem docF_one {n : Nat} {R : List (List Nat)} : ∀ (A : List Nat) (T : Nat → Bool) (f : Nat), Shut T R → loN n R T = A → docF n R (f + A.length) T = A ++ docF n R f (orS T A)
  | [], T, f, _, _ => by rw [orS_nil]; rfl
  | a :: A, T, f, hT, hA => by
    obtain ⟨h1, h2, h3⟩ := loN_next hA
    have hn : nxt n R T = some a := by unfold nxt; rw [hA]; rfl
    rw [List.length_cons, show f + (A.length + 1) = f + A.length + 1 by omega, docF_some hn, shut_pl (shut_mk hT h1), docF_one A (mkS T a) f (shut_mk hT h1) h3, orS_cons]
    rfl
theorem goN_skip {n : Nat} {R : List (List Nat)} : ∀ (l l' : List Nat) (S : Nat → Bool), (∀ x ∈ l, S x = true) → goN n R (l ++ l') S = goN n R l' S
  | [], _, _, _ => rfl
  | x :: l, l', S, h => by
    rw [List.cons_append]
    show (if S x = true then goN n R (l ++ l') S else _) = _
    rw [if_pos (h x (by simp))]
    exact goN_skip l l' S (fun y hy => h y (by simp [hy]))
theorem filter_split {p : Nat → Bool} : ∀ {l : List Nat} {i : Nat} {t : List Nat}, l.filter p = i :: t → ∃ l1 l2, l = l1 ++ i :: l2 ∧ (∀ x ∈ l1, p x = false) ∧ p i = true
  | [], i, t, h => by simp at h
  | x :: l, i, t, h => by
    rw [List.filter_cons] at h
    cases hp : p x with
    | true =>
      rw [hp] at h
      simp at h
      obtain ⟨rfl, _⟩ := h
      exact ⟨[], l, rfl, by simp, hp⟩
    | false =>
      rw [hp] at h
      simp at h
      obtain ⟨l1, l2, h1, h2, h3⟩ := filter_split h
      refine ⟨x :: l1, l2, by rw [h1]; rfl, fun y hy => ?_, h3⟩
      rcases List.mem_cons.1 hy with rfl | hy
      · exact hp
      · exact h2 y hy
/-- then going up -/
theorem docF_two {n : Nat} {R : List (List Nat)} (hR : RLt n R) : ∀ (f : Nat) (T : Nat → Bool), loN n R T = [] → un n T ≤ f → docF n R f T = goN n R (List.range n) T := by
  intro f
  induction f with
  | zero =>
    intro T h0 hu
    have hall : ∀ x ∈ List.range n, T x = true := fun x hx => by
      have he : (List.range n).filter (fun i => !T i) = [] := List.eq_nil_of_length_eq_zero (Nat.le_zero.1 hu)
      have := List.filter_eq_nil_iff.1 he x hx
      simpa using this
    have := goN_skip (n := n) (R := R) (List.range n) [] T hall
    rw [List.append_nil] at this
    rw [this]
    rfl
  | succ f ih =>
    intro T h0 hu
    cases hh : unN n T with
    | nil =>
      have hn : nxt n R T = none := by unfold nxt; rw [h0, hh]; rfl
      have hall : ∀ x ∈ List.range n, T x = true := fun x hx => by
        have := List.filter_eq_nil_iff.1 (show (List.range n).filter (fun i => !T i) = [] from hh) x hx
        simpa using this
      have := goN_skip (n := n) (R := R) (List.range n) [] T hall
      rw [List.append_nil] at this
      rw [docF_none hn, this]
      rfl
    | cons i t =>
      have hn : nxt n R T = some i := by unfold nxt; rw [h0, hh]; rfl
      obtain ⟨l1, l2, e, h1, h2⟩ := filter_split (show (List.range n).filter (fun i => !T i) = i :: t from hh)
      have hTi : T i = false := by simpa using h2
      have hin : i < n := by
        have : i ∈ List.range n := by rw [e]; simp
        exact List.mem_range.1 this
      have hk1 : ∀ x ∈ l1, T x = true := fun x hx => by simpa using h1 x hx
      have hl' : loN n R (pl n R (mkS T i)) = [] := by
        unfold loN at h0 ⊢
        rw [List.filter_eq_nil_iff] at h0 ⊢
        intro x hx hq
        refine h0 x hx ?_
        simp at hq ⊢
        refine ⟨hq.1, ?_⟩
        cases hTx : T x with
        | false => rfl
        | true =>
          have := pl_up (n := n) (R := R) (mkS_up (i := i) hTx)
          rw [this] at hq
          cases hq.2
      have hun : un n (pl n R (mkS T i)) ≤ f := by
        have h3 := un_mk hin hTi
        have h4 : un n (pl n R (mkS T i)) ≤ un n (mkS T i) := by
          unfold un
          rw [← List.countP_eq_length_filter, ← List.countP_eq_length_filter]
          refine List.countP_mono_left (fun x _ hx => ?_)
          cases hq : mkS T i x with
          | false => rfl
          | true => rw [pl_up hq] at hx; cases hx
        omega
      rw [docF_some hn, ih _ hl' hun, e, goN_skip l1 (i :: l2) T hk1]
      show i :: _ = (if T i = true then _ else i :: goN n R l2 (pl n R (mkS T i)))
      rw [if_neg (by rw [hTi]; simp), goN_skip l1 (i :: l2) _ (fun x hx => pl_up (mkS_up (hk1 x hx)))]
      show i :: (if pl n R (mkS T i) i = true then goN n R l2 (pl n R (mkS T i)) else _) = _
      rw [if_pos (pl_up (mkS_self T i))]
/-- the document's answer is the program's -/
theorem doc_needs {n : Nat} {R : List (List Nat)} (hR : RLt n R) (hN : ∀ r ∈ R, r.Nodup) (K : List Nat) : docF n R (n + 1) (pl n R (inS K)) = needN n R K := by
  have hA : loN n R (pl n R (inS K)) = loN n R (inS K) := by
    unfold loN
    refine List.filter_congr (fun i hi => ?_)
    cases h : inR R i with
    | true => rfl
    | false => rw [pl_loose h]
  have hS := pl_shut hR (inS K)
  have hlen : (loN n R (inS K)).length ≤ un n (pl n R (inS K)) := by
    rw [← hA]
    unfold loN un
    rw [← List.countP_eq_length_filter, ← List.countP_eq_length_filter]
    refine List.countP_mono_left (fun x _ hx => ?_)
    simp at hx
    simp [hx.2]
  have hun := un_le n (pl n R (inS K))
  have e1 := docF_one (n := n) (R := R) (loN n R (inS K)) (pl n R (inS K)) (n + 1 - (loN n R (inS K)).length) hS hA
  rw [show n + 1 - (loN n R (inS K)).length + (loN n R (inS K)).length = n + 1 by omega] at e1
  rw [e1]
  unfold needN
  congr 1
  have hshut : Shut (orS (pl n R (inS K)) (loN n R (inS K))) R := by
    have : ∀ (A : List Nat) (T : Nat → Bool), Shut T R → (∀ a ∈ A, inR R a = false) → Shut (orS T A) R := by
      intro A
      induction A with
      | nil => intro T hT _; rw [orS_nil]; exact hT
      | cons a A ih =>
        intro T hT hA
        rw [← orS_cons]
        exact ih (mkS T a) (shut_mk hT (hA a (by simp))) (fun b hb => hA b (by simp [hb]))
    refine this _ _ hS (fun a ha => ?_)
    unfold loN at ha
    rw [List.mem_filter] at ha
    have := ha.2
    simp at this
    exact this.1
  have eset : orS (pl n R (inS K)) (loN n R (inS K)) = pl n R (orS (inS K) (loN n R (inS K))) := by
    funext j
    have h1 : pl n R (orS (inS K) (loN n R (inS K))) j = true → orS (pl n R (inS K)) (loN n R (inS K)) j = true := fun h =>
      pl_least hN hshut (fun i hi => by
        simp only [orS, Bool.or_eq_true] at hi ⊢
        rcases hi with hi | hi
        · exact .inl hi
        · exact .inr (pl_up hi)) j h
    have h2 : orS (pl n R (inS K)) (loN n R (inS K)) j = true → pl n R (orS (inS K) (loN n R (inS K))) j = true := fun h => by
      simp only [orS, Bool.or_eq_true] at h
      rcases h with h | h
      · exact pl_up (by simp only [orS, h, Bool.true_or])
      · exact pl_least hN (pl_shut hR _) (fun i hi => pl_up (by simp only [orS, hi, Bool.or_true])) j h
    cases ha : orS (pl n R (inS K)) (loN n R (inS K)) j <;> cases hb : pl n R (orS (inS K) (loN n R (inS K))) j <;> simp_all
  rw [eset]
  have hlo : loN n R (pl n R (orS (inS K) (loN n R (inS K)))) = [] := by
    rw [← eset]
    unfold loN
    rw [List.filter_eq_nil_iff]
    intro x hx hq
    simp at hq
    have hxl : x ∈ loN n R (inS K) := by
      unfold loN
      rw [List.mem_filter]
      refine ⟨hx, ?_⟩
      simp only [orS, Bool.or_eq_false_iff] at hq
      have := hq.2.2
      rw [pl_loose hq.1] at this
      simp [hq.1, this]
    have h9 : orS (pl n R (inS K)) (loN n R (inS K)) x = true := by
      simp only [orS, decide_eq_true hxl, Bool.true_or]
    have h8 := hq.2
    unfold loN at h9
    rw [h9] at h8
    cases h8
  refine docF_two hR _ _ hlo ?_
  have := un_le n (pl n R (orS (inS K) (loN n R (inS K))))
  have h7 : un n (pl n R (orS (inS K) (loN n R (inS K)))) + (loN n R (inS K)).length ≤ n := by
    have hsub : (unN n (pl n R (orS (inS K) (loN n R (inS K)))) ++ loN n R (inS K)).length ≤ (List.range n).length := by
      refine List.Nodup.length_le_of_subset ?_ ?_
      · rw [List.nodup_append]
        refine ⟨List.nodup_range.filter _, List.nodup_range.filter _, fun a ha b hb e => ?_⟩
        subst e
        unfold unN at ha
        rw [List.mem_filter] at ha
        have h1 := ha.2
        have h2 := pl_up (n := n) (R := R) (S := orS (inS K) (loN n R (inS K))) (j := a) (by simp [orS, hb])
        rw [h2] at h1
        cases h1
      · intro a ha
        rcases List.mem_append.1 ha with h | h
        · unfold unN at h
          exact (List.mem_filter.1 h).1
        · unfold loN at h
          exact (List.mem_filter.1 h).1
    rw [List.length_append, List.length_range] at hsub
    exact hsub
  omega
theorem goS_up {n : Nat} {R : List (List Nat)} : ∀ (l : List Nat) (S : Nat → Bool) (j : Nat), S j = true → goS n R l S j = true
  | [], S, j, h => h
  | i :: l, S, j, h => by
    show (if S i = true then goS n R l S else goS n R l (pl n R (mkS S i))) j = true
    by_cases hi : S i = true
    · rw [if_pos hi]; exact goS_up l S j h
    · rw [if_neg hi]; exact goS_up l _ j (pl_up (mkS_up h))
theorem goS_all {n : Nat} {R : List (List Nat)} : ∀ (l : List Nat) (S : Nat → Bool) (j : Nat), j ∈ l → goS n R l S j = true
  | i :: l, S, j, h => by
    show (if S i = true then goS n R l S else goS n R l (pl n R (mkS S i))) j = true
    by_cases hi : S i = true
    · rw [if_pos hi]
      rcases List.mem_cons.1 h with rfl | h
      · exact goS_up l S j hi
      · exact goS_all l S j h
    · rw [if_neg hi]
      rcases List.mem_cons.1 h with rfl | h
      · exact goS_up l _ j (pl_up (mkS_self S j))
      · exact goS_all l _ j h
theorem goS_least {n : Nat} {R : List (List Nat)} (hN : ∀ r ∈ R, r.Nodup) {T : Nat → Bool} (hT : Shut T R) : ∀ (l : List Nat) (S : Nat → Bool), (∀ j, S j = true → T j = true) → (∀ j ∈ goN n R l S, T j = true) → ∀ j, goS n R l S j = true → T j = true
  | [], S, h, _, j, hj => h j hj
  | i :: l, S, h, hg, j, hj => by
    by_cases hi : S i = true
    · have e1 : goS n R (i :: l) S = goS n R l S := by show (if S i = true then _ else _) = _; rw [if_pos hi]
      have e2 : goN n R (i :: l) S = goN n R l S := by show (if S i = true then _ else _) = _; rw [if_pos hi]
      rw [e1] at hj
      rw [e2] at hg
      exact goS_least hN hT l S h hg j hj
    · have e1 : goS n R (i :: l) S = goS n R l (pl n R (mkS S i)) := by show (if S i = true then _ else _) = _; rw [if_neg hi]
      have e2 : goN n R (i :: l) S = i :: goN n R l (pl n R (mkS S i)) := by show (if S i = true then _ else _) = _; rw [if_neg hi]
      rw [e1] at hj
      rw [e2] at hg
      refine goS_least hN hT l _ (fun k hk => pl_least hN hT (fun q hq => ?_) k hk) (fun k hk => hg k (by simp [hk])) j hj
      rcases mkS_cases hq with rfl | hq
      · exact hg q (by simp)
      · exact h q hq
/-- with what is needed all get known -/
theorem needs_all {n : Nat} {R : List (List Nat)} (hR : RLt n R) (hN : ∀ r ∈ R, r.Nodup) {K A : List Nat} (h : ∀ i, i < n → (i ∈ A ↔ i ∈ K ∨ i ∈ needN n R K)) (hK : ∀ i ∈ K, i < n) : knN n R A = List.range n := by
  unfold knN
  rw [List.filter_eq_self]
  intro i hi
  have hT : Shut (pl n R (inS A)) R := pl_shut hR _
  have hlo : ∀ j ∈ loN n R (inS K), pl n R (inS A) j = true := fun j hj => by
    have hjn : j < n := by unfold loN at hj; exact List.mem_range.1 (List.mem_filter.1 hj).1
    refine pl_up ?_
    have : j ∈ A := (h j hjn).2 (.inr (by unfold needN; exact List.mem_append_left _ hj))
    simp [inS, this]
  have hKT : ∀ j ∈ K, pl n R (inS A) j = true := fun j hj => by
    refine pl_up ?_
    have : j ∈ A := (h j (hK j hj)).2 (.inl hj)
    simp [inS, this]
  refine goS_least (n := n) hN hT (List.range n) (pl n R (orS (inS K) (loN n R (inS K)))) (fun j hj => ?_) (fun j hj => ?_) i (goS_all _ _ i hi)
  · refine pl_least hN hT (fun q hq => ?_) j hj
    simp only [orS, Bool.or_eq_true, decide_eq_true_eq] at hq
    rcases hq with hq | hq
    · exact hlo q hq
    · exact hKT q (by simpa [inS] using hq)
  · have hjn : j < n := by
      have hsub : ∀ (l : List Nat) (S : Nat → Bool), ∀ x ∈ goN n R l S, x ∈ l := by
        intro l
        induction l with
        | nil => intro S x hx; exact hx
        | cons a l ih =>
          intro S x hx
          by_cases ha : S a = true
          · have e2 : goN n R (a :: l) S = goN n R l S := by show (if S a = true then _ else _) = _; rw [if_pos ha]
            rw [e2] at hx
            exact List.mem_cons_of_mem _ (ih S x hx)
          · have e2 : goN n R (a :: l) S = a :: goN n R l (pl n R (mkS S a)) := by show (if S a = true then _ else _) = _; rw [if_neg ha]
            rw [e2] at hx
            rcases List.mem_cons.1 hx with rfl | hx
            · simp
            · exact List.mem_cons_of_mem _ (ih _ x hx)
      exact List.mem_range.1 (hsub _ _ j hj)
    refine pl_up ?_
    have : j ∈ A := (h j hjn).2 (.inr (by unfold needN; exact List.mem_append_right _ hj))
    simp [inS, this]
end Go.Proofs.Ytfihpmhobjjaaaa

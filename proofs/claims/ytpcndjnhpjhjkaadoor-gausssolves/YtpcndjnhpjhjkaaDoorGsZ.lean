/- Equations: FewEqns; what the document's Solve answers, as mathematics. A region that draws its order, with effects (as in Eff): here an effect may also write a slot that an operation without effect reads, if it waits for that operation. The law's Refs: equations as the document takes them. The document's Solve: equations that may be. The document's Solve: equations that may be. The document's Solve: equations that may not be; all equations. The law GaussSolves, walked. An argument that is a slice of equations, opened. -/
import Derived.Test.YtpcndjnhpjhjkaaDoorGaV
import Derived.Test.YtpcndjnhpjhjkaaDoorGaO
import Derived.Test.YtpcndjnhpjhjkaaDoorGaX
import Derived.Test.YtpcndjnhpjhjkaaDoorGdG
import Derived.Test.YtpcndjnhpjhjkaaDoorEff
import Derived.ProofKit
import Derived.OpenShut
import Derived.Deep.Slices
import Derived.ChangeOld
import Derived.Deep.Strs
import Derived.ChangeSame
namespace Go.Proofs.YtpcndjnhpjhjkaaDoor
open Go.RowKit
set_option linter.unusedVariables false
attribute [local go_sem] Oper.semAt_some

def fewE (n : Int) (E : List Eq2) : Bool := decide (n ≤ 60 ∧ E.length ≤ 40 ∧ ∀ x ∈ E, x.1.length ≤ 80 ∧ x.2.length ≤ 100)
set_option maxRecDepth 100000 in
set_option maxHeartbeats 1000000 in
theorem fewE_any (n : Int) (E : List Eq2) (a0 : Option Addr) (c : Nat) (hk : E.length ≤ maxLen) (hk2 : ∀ x ∈ E, x.1.length ≤ maxLen ∧ x.2.length ≤ maxLen) (w : World) (hI : EqnsA w a0 E) :
    Calls Tryd.prog 20 #[.int .i64 n, .slice a0 E.length c] w fun e w' => e = .returned (.bool (fewE n E)) ∧ w = w' := by
  unfold maxLen at hk hk2
  by_cases h0 : n ≤ 60 ∧ E.length ≤ 40
  · have HI := hide hI
    have H2 := hide hk2
    have HE : Hid (fewE n E = decide (∀ x ∈ E, x.1.length ≤ 80 ∧ x.2.length ≤ 100)) := by
      show _ = _
      unfold fewE
      simp [h0.1, h0.2]
    generalize fewE n E = V at *
    have q1 : ¬ 60 < n := by omega
    have q2 : ¬ (40 : Int) < E.length := by omega
    have d1 : decide (60 < n) = false := decide_eq_false q1
    have d2 : decide ((40 : Int) < E.length) = false := decide_eq_false q2
    generalize hL : E.length = m at *
    have HL := hide hL
    clear hI hL hk2 h0
    go_enter Tryd.func20, Tryd.ntmps20
    go_wp2_with fail
    go_loopw [5] (fun v wr => w = wr ∧ ∃ k : Nat, k ≤ m ∧ v = .int .i64 k ∧ ∀ x ∈ E.take k, x.1.length ≤ 80 ∧ x.2.length ≤ 100) (fun v _ => m - (intOf v).toNat)
    case atStart => exact ⟨rfl, 0, by omega, rfl, by simp⟩
    case round =>
      obtain ⟨rfl, k, hk', rfl, ha⟩ := hrel
      by_cases hlt : k < m
      · have hlt' : k < E.length := by rw [unhide HL]; exact hlt
        obtain ⟨g, o, rfl, b, cc, c0, c1, i0⟩ := unhide HI k hlt'
        have q4 : (k : Int) < m := by omega
        have hl2 := unhide H2 _ (List.getElem_mem hlt')
        have hbl : (bs E[k].2).size = E[k].2.length := bs_size _
        by_cases h8 : E[k].1.length ≤ 80
        · have q5 : ¬ (80 : Int) < E[k].1.length := by omega
          have d5 : decide ((80 : Int) < E[k].1.length) = false := decide_eq_false q5
          by_cases h9 : E[k].2.length ≤ 100
          · have HA2 : Hid (∀ x ∈ E.take (k + 1), x.1.length ≤ 80 ∧ x.2.length ≤ 100) := by
              intro r hr
              rw [List.take_succ_eq_append_getElem hlt', List.mem_append] at hr
              rcases hr with hr | hr
              · exact ha r hr
              · simp at hr; rw [hr]; exact ⟨h8, h9⟩
            have q6 : ¬ (100 : Int) < (bs E[k].2).size := by rw [hbl]; omega
            have d6 : decide ((100 : Int) < (bs E[k].2).size) = false := decide_eq_false q6
            generalize E[k].1.length = rl at *
            generalize bs E[k].2 = sl at *
            clear ha i0 hlt' h8 h9 hbl hl2
            go_wp2
            go_roundw
            case rel => exact ⟨trivial, k + 1, by omega, by go_num, unhide HA2⟩
            case measure => simp [intOf]; omega
          · have e2 : V = false := by
              rw [unhide HE]
              exact decide_eq_false (fun h => h9 (h _ (List.getElem_mem hlt')).2)
            subst e2
            have q6 : (100 : Int) < (bs E[k].2).size := by rw [hbl]; omega
            have d6 : decide ((100 : Int) < (bs E[k].2).size) = true := decide_eq_true q6
            generalize E[k].1.length = rl at *
            generalize bs E[k].2 = sl at *
            clear ha i0 hlt' h8 h9 hbl hl2
            go_wp2
            go_ret
            exact ⟨rfl, rfl⟩
        · have e2 : V = false := by
            rw [unhide HE]
            exact decide_eq_false (fun h => h8 (h _ (List.getElem_mem hlt')).1)
          subst e2
          have q5 : (80 : Int) < E[k].1.length := by omega
          have d5 : decide ((80 : Int) < E[k].1.length) = true := decide_eq_true q5
          generalize E[k].1.length = rl at *
          generalize bs E[k].2 = sl at *
          clear ha i0 hlt' h8 hbl hl2
          go_wp2
          go_ret
          exact ⟨rfl, rfl⟩
      · have hkm : k = m := by omega
        subst hkm
        have e2 : V = true := by
          rw [unhide HE]
          rw [List.take_of_length_le (by rw [unhide HL]; exact Nat.le_refl _)] at ha
          exact decide_eq_true ha
        subst e2
        have q4 : ¬ (k : Int) < k := by omega
        clear ha
        go_wp2
        go_ret
        exact ⟨rfl, rfl⟩
  · have e : fewE n E = false := by
      unfold fewE
      exact decide_eq_false (fun h => h0 ⟨h.1, h.2.1⟩)
    rw [e]
    generalize E.length = m at *
    clear hI e hk2
    by_cases q1 : 60 < n
    · have d1 : decide (60 < n) = true := decide_eq_true q1
      go_enter Tryd.func20, Tryd.ntmps20
      go_wp2
      go_ret
      exact ⟨rfl, rfl⟩
    · have d1 : decide (60 < n) = false := decide_eq_false q1
      have q2 : (40 : Int) < m := by omega
      have d2 : decide ((40 : Int) < m) = true := decide_eq_true q2
      go_enter Tryd.func20, Tryd.ntmps20
      go_wp2
      go_ret
      exact ⟨rfl, rfl⟩
/-- what the document finds for a number -/
def fndS (i : Nat) (b : By) (x : Ln) : By := if onlyB x.1 = true ∧ fb x.1 = i then x.2 else b
def fnd (D : List Ln) (i : Nat) : By := D.foldl (fndS i) []
theorem slv_fnd : ∀ (K : List Ln) (B : List By) (i : Nat), i < B.length → (K.foldl slvS B).getD i [] = K.foldl (fndS i) (B.getD i [])
  | [], B, i, _ => rfl
  | x :: K, B, i, h => by
    rw [List.foldl_cons, List.foldl_cons, slv_fnd K _ i (by rw [slvS_len]; exact h)]
    congr 1
    unfold slvS fndS
    by_cases h1 : onlyB x.1 = true
    · rw [if_pos h1]
      by_cases h2 : fb x.1 = i
      · rw [if_pos ⟨h1, h2⟩]
        subst h2
        simp [List.getD, h]
      · rw [if_neg (fun e => h2 e.2)]
        simp [List.getD, List.getElem?_set_ne h2]
    · rw [if_neg h1, if_neg (fun e => h1 e.1)]
theorem slv_map (n : Nat) (K : List Ln) : slv n K = (List.range n).map (fnd K) := by
  apply List.ext_getElem
  · unfold slv
    rw [slv_fold]
    simp
  · intro i h1 h2
    have hi : i < n := by simpa using h2
    have h3 := slv_fnd K (List.replicate n []) i (by simpa using hi)
    have h4 : (slv n K).getD i [] = (slv n K)[i] := by simp [List.getD, h1]
    rw [← h4]
    show (K.foldl slvS (List.replicate n [])).getD i [] = _
    rw [h3]
    simp [fnd, List.getD, hi]
end Go.Proofs.YtpcndjnhpjhjkaaDoor
namespace Go.Proofs.YtpcndjnhpjhjkaaDoor
open Go.RowKit
set_option linter.unusedVariables false

/-- m: who is an effect; L: who looks at its operands alone -/
def efgOk (l : List Oper) (m : List Bool) (L : List Nat) (e0 n : Nat) : Bool :=
  topOkB l.toArray && l.toArray.all (fun o => o.guard.isNone) && Region.noSelect l.toArray && (m[e0]? == some true) && decide (e0 < l.length) &&
  ((List.range l.length).all fun i => (List.range l.length).all fun j =>
    (!(m[i]? == some true) || (if m[j]? == some true then decide (i ≤ j) || waits l.toArray 8 i j else i == e0 || waits l.toArray 8 i j || L.contains j))) &&
  ((List.range l.length).all fun i => match l[i]? with
    | some o => (!(m[i]? == some true) || decide (e0 ≤ i)) && (m[i]? == some true || waits l.toArray 8 e0 i || stillOp o) && (match o.dst with | some s => decide (s < n) | none => true) &&
      ((List.range l.length).all fun j => match l[j]? with
        | some o' => (i == j || (match o.dst with | some s => !(o'.dst == some s) | none => true)) && (o.op.operands.all fun x => match x with
            | .tmp s => !(o'.dst == some s) || ((o.after.any fun e => e.on == j && Region.binds .any e) && (m[i]? == some true || !(m[j]? == some true))) || (m[j]? == some true && !(m[i]? == some true) && waits l.toArray 8 j i)
            | _ => true)
        | none => true)
    | none => true)
structure EfgOk (l : List Oper) (m : List Bool) (L : List Nat) (e0 n : Nat) : Prop where
  top : topOkB l.toArray = true
  ng : l.toArray.all (fun o => o.guard.isNone) = true
  sel : Region.noSelect l.toArray = true
  em : m[e0]? = some true
  chain : ∀ i j, i < l.length → j < i → m[i]? = some true → m[j]? = some true → waits l.toArray 8 i j = true
  pend : ∀ i j, i < l.length → j < l.length → i ≠ e0 → m[i]? = some true → m[j]? ≠ some true → waits l.toArray 8 i j = true ∨ j ∈ L
  el : e0 < l.length
  still : ∀ (i : Nat) (o : Oper), l[i]? = some o → m[i]? ≠ some true → waits l.toArray 8 e0 i = true ∨ stillOp o = true
  fst : ∀ (i : Nat) (o : Oper), l[i]? = some o → m[i]? = some true → e0 ≤ i
  lt : ∀ (i : Nat) (o : Oper) (s : Nat), l[i]? = some o → o.dst = some s → s < n
  one : ∀ (i j : Nat) (o o' : Oper) (s : Nat), l[i]? = some o → l[j]? = some o' → o.dst = some s → o'.dst = some s → i = j
  reads : ∀ (i j : Nat) (o o' : Oper) (s : Nat), l[i]? = some o → l[j]? = some o' → Operand.tmp s ∈ o.op.operands → o'.dst = some s → ((∃ e ∈ o.after, e.on = j ∧ Region.binds .any e = true) ∧ (m[i]? = some true ∨ m[j]? ≠ some true)) ∨ (m[j]? = some true ∧ m[i]? ≠ some true ∧ waits l.toArray 8 j i = true)
theorem efgOk_spec {l : List Oper} {m : List Bool} {L : List Nat} {e0 n : Nat} (h : efgOk l m L e0 n = true) : EfgOk l m L e0 n := by
  unfold efgOk at h
  simp only [Bool.and_eq_true, beq_iff_eq, decide_eq_true_eq] at h
  obtain ⟨⟨⟨⟨⟨⟨h1, h2⟩, h3⟩, h4⟩, h7⟩, h5⟩, h6⟩ := h
  have k5 := fun (i j : Nat) (hi : i < l.length) (hj : j < l.length) => List.all_eq_true.1 (List.all_eq_true.1 h5 i (List.mem_range.2 hi)) j (List.mem_range.2 hj)
  have key := fun (i : Nat) (o : Oper) (ho : l[i]? = some o) => by
    have a1 := List.all_eq_true.1 h6 i (List.mem_range.2 (List.getElem?_eq_some_iff.1 ho).1)
    rw [ho] at a1
    simp only [Bool.and_eq_true] at a1
    exact a1
  have key2 := fun (i : Nat) (o : Oper) (ho : l[i]? = some o) (j : Nat) (o' : Oper) (hj : l[j]? = some o') => by
    have a2 := List.all_eq_true.1 (key i o ho).2 j (List.mem_range.2 (List.getElem?_eq_some_iff.1 hj).1)
    rw [hj] at a2
    simp only [Bool.and_eq_true] at a2
    exact a2
  refine ⟨h1, h2, h3, h4, ?_, ?_, h7, ?_, ?_, ?_, ?_, ?_⟩
  · intro i j hi hj hmi hmj
    have := k5 i j hi (by omega)
    rw [hmi, hmj] at this
    simp only [beq_self_eq_true, Bool.not_true, Bool.false_or, if_true, Bool.or_eq_true, decide_eq_true_eq] at this
    rcases this with h | h
    · omega
    · exact h
  · intro i j hi hj hne hmi hmj
    have := k5 i j hi hj
    rw [hmi] at this
    rw [if_neg hmj] at this
    simp only [beq_self_eq_true, Bool.not_true, Bool.false_or, Bool.or_eq_true, beq_iff_eq, List.contains_iff_mem] at this
    rcases this with (h | h) | h
    · exact absurd h hne
    · exact .inl h
    · exact .inr h
  · intro i o ho hmi
    have := (key i o ho).1.1.2
    have hq : (m[i]? == some true) = false := by simpa using hmi
    rw [hq, Bool.false_or, Bool.or_eq_true] at this
    exact this
  · intro i o ho hmi
    have := (key i o ho).1.1.1
    rw [hmi] at this
    simpa using this
  · intro i o s ho hs
    have := (key i o ho).1.2
    rw [hs] at this
    exact of_decide_eq_true this
  · intro i j o o' s ho hj hs hs'
    have := (key2 i o ho j o' hj).1
    rw [hs, hs'] at this
    simp at this
    exact this
  · intro i j o o' s ho hj hx hs'
    have := (Array.all_eq_true'.1 (key2 i o ho j o' hj).2) _ hx
    simp only [hs', beq_self_eq_true, Bool.not_true, Bool.false_or, Bool.and_eq_true, Array.any_eq_true', beq_iff_eq, Bool.or_eq_true, Bool.not_eq_true', beq_eq_false_iff_ne] at this
    rcases this with ⟨⟨e, he, e1, e2⟩, h7⟩ | ⟨⟨h7, h8⟩, h9⟩
    · exact .inl ⟨⟨e, he, e1, e2⟩, h7⟩
    · exact .inr ⟨h7, h8, h9⟩
theorem restM_pairwise {R : Oper → Oper → Prop} : ∀ (m : List Bool) (l : List Oper), (∀ (i j : Nat) (o o' : Oper), i < j → l[i]? = some o → l[j]? = some o' → m[i]? ≠ some true → m[j]? ≠ some true → R o o') → (restM m l).Pairwise R
  | [], l, h => by
    show l.Pairwise R
    rw [List.pairwise_iff_getElem]
    intro i j h1 h2 hij
    exact h i j _ _ hij (List.getElem?_eq_getElem h1) (List.getElem?_eq_getElem h2) (by simp) (by simp)
  | _ :: _, [], _ => List.Pairwise.nil
  | true :: m, x :: l, h => restM_pairwise m l (fun i j o o' hij h1 h2 h3 h4 => h (i + 1) (j + 1) o o' (by omega) (by simpa using h1) (by simpa using h2) (by simpa using h3) (by simpa using h4))
  | false :: m, x :: l, h => by
    refine List.Pairwise.cons (fun o' ho' => ?_) (restM_pairwise m l (fun i j o o' hij h1 h2 h3 h4 => h (i + 1) (j + 1) o o' (by omega) (by simpa using h1) (by simpa using h2) (by simpa using h3) (by simpa using h4)))
    obtain ⟨j, h1, h2⟩ := restM_of m l o' ho'
    exact h 0 (j + 1) x o' (by omega) rfl (by simpa using h1) (by simp) (by simpa using h2)
theorem wp_region_efg {P : Program} {id : Nat} {Q : Exit → Act → World → Prop} {a : Act} {w : World} {l : List Oper} (m : List Bool) (L : List Nat) (e0 : Nat) (A : Act) (o0 : Oper) (le : List Oper)
    (hm : P.follows .mixedOrders = true) (hok : efgOk l m L e0 a.tmps.size = true) (hle : effM m l = o0 :: le)
    (hlex : ∀ x : Gb w, wpQuiet P l.toArray (fun w' => ∃ y : Gb x.w, w' = y.w) (fun a' => a' = A) (restM m l) a)
    (hfree : ∀ j ∈ L, ∀ o, l[j]? = some o → ∀ w', wpQuiet P l.toArray (fun x => x = w') (fun a' => a' = A) [o] A)
    (fin0 : ∀ (w' : World), Below w.heap.size w w' → wpList P l.toArray (OnlyN fun _ a'' w'' => Below w'.heap.size w' w'' ∧ wpList P l.toArray (OnlyN Q) le a'' w'') [o0] A w') : (Code.region id l.toArray true).wp P Q a w := by
  have hB := efgOk_spec hok
  have htop' := topOkB_spec hB.top
  have hsel : ∀ (o : Oper) cs b, o ∈ l.toArray → o.op ≠ .select cs b := by
    intro o cs b ho
    obtain ⟨j, hj⟩ := Array.getElem?_of_mem ho
    exact Region.noSelect_spec hB.sel j o cs b hj
  have hgn : ∀ o ∈ l, o.guard = none := by
    intro o ho
    have := (Array.all_eq_true'.1 hB.ng) o (by simpa using ho)
    simpa using this
  have ho0 : ∃ i : Nat, l[i]? = some o0 := by
    have : ∀ (m : List Bool) (l : List Oper) (o : Oper), o ∈ effM m l → o ∈ l := by
      intro m
      induction m with
      | nil => intro l o h; cases h
      | cons b m ih =>
        intro l o h
        cases l with
        | nil => cases h
        | cons x l =>
          cases b with
          | true =>
            rcases List.mem_cons.1 h with rfl | h
            · exact List.mem_cons_self
            · exact List.mem_cons_of_mem _ (ih l o h)
          | false => exact List.mem_cons_of_mem _ (ih l o h)
    exact List.getElem?_of_mem (this m l o0 (by rw [hle]; exact List.mem_cons_self))
  have fin : ∀ (w' : World), Below w.heap.size w w' → o0.wp P A w' (fun a'' w'' => Below w'.heap.size w' w'' ∧ wpList P l.toArray (OnlyN Q) le a'' w'') (OnlyN Q) := by
    intro w' hb
    obtain ⟨i, hi⟩ := ho0
    have h := fin0 w' hb
    unfold wpList at h
    rw [if_pos (by unfold Region.wanted; rw [hgn o0 (List.mem_of_getElem? hi)])] at h
    rcases h with h | ⟨_, h⟩
    · exact wp_swap rfl (fun v w'' hK => hK) (fun d w'' hK => hK) h
    · exact absurd h (onlyN_out _)
  have hsub : (restM m l).Sublist l := restM_sub _ _
  have arr : ∀ i : Nat, l.toArray[i]? = l[i]? := fun i => by rw [List.getElem?_toArray]
  have hpw : (restM m l).Pairwise (fun o o' => (∀ s, o.dst = some s → o'.dst ≠ some s) ∧ (∀ s, Operand.tmp s ∈ o.op.operands → o'.dst ≠ some s)) := by
    refine restM_pairwise m l (fun i j o o' hij e1 e2 hm1 hm2 => ⟨fun s hs hs' => ?_, fun s hs hs' => ?_⟩)
    · have := hB.one i j _ _ s e1 e2 hs hs'
      omega
    · rcases hB.reads i j _ _ s e1 e2 hs hs' with ⟨⟨e, he, h3, h4⟩, _⟩ | ⟨h, _⟩
      · have := htop' i _ (by rw [arr]; exact e1) e he h4
        omega
      · exact absurd h hm2
  have hself : ∀ o ∈ l, ∀ s, Operand.tmp s ∈ o.op.operands → o.dst ≠ some s := by
    intro o ho s hs hs'
    obtain ⟨i, e1⟩ := List.getElem?_of_mem ho
    rcases hB.reads i i _ _ s e1 e1 hs hs' with ⟨⟨e, he, h3, h4⟩, _⟩ | ⟨h5, h6, _⟩
    · have := htop' i _ (by rw [arr]; exact e1) e he h4
      omega
    · exact absurd h5 h6
  have hlt : ∀ o ∈ l, ∀ s, o.dst = some s → s < a.tmps.size := by
    intro o ho s hs
    obtain ⟨i, hi'⟩ := List.getElem?_of_mem ho
    exact hB.lt i o s hi' hs
  have lex := fun x : Gb w => lex_last (P := P) (ops := l.toArray) (C := fun w' => ∃ y : Gb x.w, w' = y.w) (A := A) hsel 0 (restM m l) a (fun o ho => by simpa using hsub.subset ho) (fun o ho => hgn o (hsub.subset ho)) (fun o ho => hlt o (hsub.subset ho)) hpw (fun o ho => hself o (hsub.subset ho)) (hlex x)
  obtain ⟨sz, df, out, each0⟩ := lex ⟨w, Below.refl _ _⟩
  have free : ∀ j ∈ L, ∀ o, l[j]? = some o → ∀ w', ∃ v, (∀ t, o.dst = some t → A.eval (.tmp t) = v) ∧ o.quietAt P A (fun x => x = w') w' v := by
    intro j hj o ho w'
    have h := hfree j hj o ho w'
    unfold wpQuiet at h
    rw [if_pos (by unfold Region.wanted; rw [hgn o (List.mem_of_getElem? ho)])] at h
    obtain ⟨v, h1, h2⟩ := h
    refine ⟨v, fun t ht => ?_, h1 w' rfl⟩
    have h2 : A.put o.dst v = A := h2
    rw [← h2, ht]
    simp only [Act.eval, Array.getD_eq_getD_getElem?]
    rw [put_tmps_same _ _ _ (by rw [sz]; exact hlt o (List.mem_of_getElem? ho) t ht)]
    rfl
  refine wp_region_invB0 hm hB.top hB.ng (fun f b wx => ∃ (As : Act) (c p : Nat), b.tmps.size = A.tmps.size ∧ As.tmps.size = A.tmps.size ∧ b.defers = As.defers ∧
    (∀ i, i < l.length → m[i]? = some true → (f i = true ↔ i < p)) ∧
    (∀ (i : Nat) (o : Oper), l[i]? = some o → f i = true → ∀ e ∈ o.after, Region.binds .any e = true → f e.on = true) ∧
    (∀ t, (∀ (i : Nat) (o : Oper), l[i]? = some o → m[i]? = some true → f i = true → o.dst ≠ some t) → As.tmps[t]? = A.tmps[t]?) ∧
    (∀ t, (∀ (j : Nat) (o : Oper), l[j]? = some o → m[j]? ≠ some true → o.dst = some t → f j = true) → b.tmps[t]? = As.tmps[t]?) ∧
    (c = 0 → As = A ∧ p = 0) ∧ (c ≤ 1 → Below w.heap.size w wx) ∧
    (0 < c → wpList P l.toArray (OnlyN Q) (effM (m.drop p) (l.drop p)) As wx ∧ e0 < p) ∧
    (0 < c → ∀ (j : Nat) (o : Oper), l[j]? = some o → m[j]? ≠ some true → f j = false → stillOp o = true) ∧
    (2 ≤ c → ∀ (j : Nat) (o : Oper), l[j]? = some o → m[j]? ≠ some true → f j = false → j ∈ L)) ?start ?step ?fin
  case start =>
    refine ⟨A, 0, 0, sz.symm, rfl, df.symm, fun i _ _ => ?_, fun i o _ h => (by cases h), fun _ _ => rfl, fun t ht => ?_, fun _ => ⟨rfl, rfl⟩, fun _ => (Below.refl _ _).drew, fun h => absurd h (by omega), fun h => absurd h (by omega), fun h => absurd h (by omega)⟩
    · constructor
      · intro h; cases h
      · intro h; omega
    · refine (out t (fun o ho hs => ?_)).symm
      obtain ⟨j, hj, hjm⟩ := restM_of m l o ho
      exact absurd (ht j o hj hjm hs) (by simp)
  case step =>
    rintro f b wx i o ⟨As, c, p, s1, s2, s3, s4, s9, s5, s6, s7, s7b, s8, s8a, s8b⟩ ho hf hd
    rw [arr] at ho
    have hil := (List.getElem?_eq_some_iff.1 ho).1
    have u1 : upd f i i = true := by simp [upd]
    have u2 : ∀ j, j ≠ i → upd f i j = f j := fun j hj => by simp [upd, hj]
    have u3 : ∀ j, f j = true → upd f i j = true := fun j hj => by
      by_cases e : j = i
      · rw [e]; exact u1
      · rw [u2 j e]; exact hj
    have closed : ∀ (i' : Nat) (o' : Oper), l[i']? = some o' → upd f i i' = true → ∀ e ∈ o'.after, Region.binds .any e = true → upd f i e.on = true := by
      intro i' o' a2 a3 e he hb
      by_cases ei : i' = i
      · subst ei
        rw [ho] at a2
        obtain rfl := Option.some.inj a2
        exact u3 _ (hd e he hb)
      · rw [u2 i' ei] at a3
        exact u3 _ (s9 i' o' a2 a3 e he hb)
    have done : ∀ j, waits l.toArray 8 i j = true → f j = true := fun j hw => waits_done (ops := l.toArray) (f := f) (fun i' o' h' => s9 i' o' (by rw [← arr]; exact h')) 8 i o (by rw [arr]; exact ho) hd hw
    -- what the operation reads is as in As
    have rdAs : ∀ t, Operand.tmp t ∈ o.op.operands → b.eval (.tmp t) = As.eval (.tmp t) := by
      intro t ht
      refine eval_of_tmps (s6 t (fun j o' hj hjm hs => ?_))
      rcases hB.reads i j o o' t ho hj ht hs with ⟨⟨e, he, h3, h4⟩, _⟩ | ⟨h5, _⟩
      · have := hd e he h4
        rwa [h3] at this
      · exact absurd h5 hjm
    by_cases him : m[i]? = some true
    case neg =>
      -- no effect
      have rdA : ∀ t, Operand.tmp t ∈ o.op.operands → b.eval (.tmp t) = A.eval (.tmp t) := by
        intro t ht
        rw [rdAs t ht]
        refine eval_of_tmps (s5 t (fun j o' hj hjm hfj hs => ?_))
        rcases hB.reads i j o o' t ho hj ht hs with ⟨_, h | h⟩ | ⟨_, _, h⟩
        · exact him h
        · exact h hjm
        · have := waits_done (ops := l.toArray) (f := f) (fun i' o' h' => s9 i' o' (by rw [← arr]; exact h')) 8 j o' (by rw [arr]; exact hj) (s9 j o' hj hfj) h
          rw [hf] at this
          cases this
      have congr' : ∀ C w' v, o.quietAt P A C w' v → o.quietAt P b C w' v := by
        intro C w' v this
        unfold Oper.quietAt at this ⊢
        rwa [execOp_congr o (fun cs' b' => hsel o cs' b' (by simpa using List.mem_of_getElem? ho)) (ρ := b.eval) (ρ' := A.eval) ?_]
        intro y hy
        cases y with
        | tmp t => exact rdA t hy
        | _ => rfl
      have keep : ∀ v, (∀ t, o.dst = some t → A.eval (.tmp t) = v) → (b.put o.dst v).tmps.size = A.tmps.size ∧ As.tmps.size = A.tmps.size ∧ (b.put o.dst v).defers = As.defers ∧
          (∀ i', i' < l.length → m[i']? = some true → (upd f i i' = true ↔ i' < p)) ∧
          (∀ (i' : Nat) (o' : Oper), l[i']? = some o' → upd f i i' = true → ∀ e ∈ o'.after, Region.binds .any e = true → upd f i e.on = true) ∧
          (∀ t, (∀ (i' : Nat) (o' : Oper), l[i']? = some o' → m[i']? = some true → upd f i i' = true → o'.dst ≠ some t) → As.tmps[t]? = A.tmps[t]?) ∧
          (∀ t, (∀ (j : Nat) (o' : Oper), l[j]? = some o' → m[j]? ≠ some true → o'.dst = some t → upd f i j = true) → (b.put o.dst v).tmps[t]? = As.tmps[t]?) := by
        intro v hv
        refine ⟨by rw [put_size]; exact s1, s2, by rw [put_defers]; exact s3, fun i' h1 h2 => by rw [u2 i' (fun e => him (by rw [← e]; exact h2))]; exact s4 i' h1 h2, closed, fun t ht => s5 t (fun i' o' h1 h2 h3 => ht i' o' h1 h2 (u3 _ h3)), fun t ht => ?_⟩
        by_cases e : o.dst = some t
        · have hts : t < b.tmps.size := by rw [s1, sz]; exact hlt o (List.mem_of_getElem? ho) t e
          rw [e, put_tmps_same _ _ _ hts]
          have h1 : As.tmps[t]? = A.tmps[t]? := s5 t (fun i' o' h' hm' _ hs' => by
            have := hB.one i i' o o' t ho h' e hs'
            exact him (by rw [this]; exact hm'))
          rw [h1, tmps_of_eval (hv t e) (by rw [← s1]; exact hts)]
        · rw [put_tmps_ne _ _ _ _ e]
          refine s6 t (fun j o' hj hjm hs => ?_)
          have := ht j o' hj hjm hs
          by_cases ej : j = i
          · subst ej
            rw [ho] at hj
            rw [← Option.some.inj hj] at hs
            exact absurd hs e
          · rwa [u2 j ej] at this
      rcases Nat.eq_zero_or_pos c with hc | hc
      · -- no effect has run
        obtain ⟨_, _, _, each⟩ := lex ⟨wx, s7b (by omega)⟩
        obtain ⟨v, hv1, hv2⟩ := each o (restM_mem m l i o ho him)
        have hquiet : o.quiet P b (fun w' => ∃ y : Gb wx, w' = y.w) (fun c => c = b.put o.dst v) := ⟨v, fun w' hw' => congr' _ _ _ (hv2 w' hw'), rfl⟩
        refine Oper.wp_of_quiet (C := fun w' => ∃ y : Gb wx, w' = y.w) ⟨⟨wx, Below.refl _ _⟩, rfl⟩ ?_ hquiet
        rintro c' w' ⟨⟨_, hb'⟩, rfl⟩ rfl
        obtain ⟨k1, k2, k3, k4, k9, k5, k6⟩ := keep v hv1
        exact ⟨As, c, p, k1, k2, k3, k4, k9, k5, k6, s7, fun h => (s7b h).trans (hb'.mono (s7b h).size), fun h => absurd h (by omega), fun h => absurd h (by omega), fun h => absurd h (by omega)⟩
      · obtain ⟨v, hv1, hv2⟩ : ∃ v, (∀ t, o.dst = some t → A.eval (.tmp t) = v) ∧ o.quietAt P A (fun x => x = wx) wx v := by
          by_cases hc1 : c ≤ 1
          case neg => exact free i (s8b (by omega) i o ho him hf) o ho wx
          obtain ⟨_, _, _, each⟩ := lex ⟨wx, s7b hc1⟩
          obtain ⟨v, hv1, hv2⟩ := each o (restM_mem m l i o ho him)
          exact ⟨v, hv1, still_quiet (s8a hc i o ho him hf) (hv2 wx ⟨⟨wx, Below.refl _ _⟩, rfl⟩) _⟩
        have hquiet : o.quiet P b (fun x => x = wx) (fun c => c = b.put o.dst v) := ⟨v, fun x hx => by rw [hx]; exact congr' _ _ _ hv2, rfl⟩
        refine Oper.wp_of_quiet (C := fun x => x = wx) rfl ?_ hquiet
        rintro c' x rfl rfl
        obtain ⟨k1, k2, k3, k4, k9, k5, k6⟩ := keep v hv1
        have less : ∀ j, upd f i j = false → f j = false := fun j hj => by
          by_cases ej : j = i
          · rw [ej, u1] at hj; cases hj
          · rwa [u2 j ej] at hj
        exact ⟨As, c, p, k1, k2, k3, k4, k9, k5, k6, s7, s7b, s8, fun h j o' hj hjm hfj => s8a h j o' hj hjm (less j hfj), fun h j o' hj hjm hfj => s8b h j o' hj hjm (less j hfj)⟩
    case pos =>
      -- an effect: the next one
      have hge : p ≤ i := by
        rcases Nat.lt_or_ge i p with h | h
        · rw [(s4 i hil him).2 h] at hf; cases hf
        · exact h
      have hno : ∀ j, p ≤ j → j < i → m[j]? ≠ some true := by
        intro j h1 h2 h3
        have := (s4 j (by omega) h3).1 (done j (hB.chain i j hil h2 him h3))
        omega
      have heff : effM (m.drop p) (l.drop p) = o :: effM (m.drop (i + 1)) (l.drop (i + 1)) := by
        rw [effM_skip m l p (i - p) (fun j h1 h2 => hno j h1 (by omega)), show p + (i - p) = i by omega]
        exact effM_at m l i o ho him
      have hdlt : ∀ t, o.dst = some t → t < A.tmps.size := fun t ht => by rw [sz]; exact hlt o (List.mem_of_getElem? ho) t ht
      have he : execOp b.eval o = execOp As.eval o := by
        refine execOp_congr o (fun cs' b' => hsel o cs' b' (by simpa using List.mem_of_getElem? ho)) ?_
        intro y hy
        cases y with
        | tmp t => exact rdAs t hy
        | _ => rfl
      -- what waits still, behind this effect
      have hstill : ∀ (j : Nat) (o' : Oper), l[j]? = some o' → m[j]? ≠ some true → f j = false → stillOp o' = true := by
        intro j o' hj hjm hfj
        rcases Nat.eq_zero_or_pos c with hc | hc
        · have hp := (s7 hc).2
          have hi0 : i = e0 := by
            have h1 := hB.fst i o ho him
            rcases Nat.lt_or_ge e0 i with h2 | h2
            · exact absurd hB.em (hno e0 (by omega) h2)
            · omega
          rcases hB.still j o' hj hjm with h | h
          · rw [← hi0] at h
            have := done j h
            rw [hfj] at this
            cases this
          · exact h
        · exact s8a hc j o' hj hjm hfj
      have hLL : 0 < c → ∀ (j : Nat) (o' : Oper), l[j]? = some o' → m[j]? ≠ some true → f j = false → j ∈ L := by
        intro hc j o' hj hjm hfj
        rcases hB.pend i j hil (List.getElem?_eq_some_iff.1 hj).1 (by have := (s8 hc).2; omega) him hjm with h | h
        · have := done j h
          rw [hfj] at this
          cases this
        · exact h
      have next : ∀ (As' b' : Act) w', As'.tmps.size = As.tmps.size → b'.tmps.size = b.tmps.size → b'.defers = As'.defers → (∀ t, o.dst ≠ some t → As'.tmps[t]? = As.tmps[t]? ∧ b'.tmps[t]? = b.tmps[t]?) → (∀ t, o.dst = some t → b'.tmps[t]? = As'.tmps[t]?) →
          (c = 0 → Below w.heap.size w w') → wpList P l.toArray (OnlyN Q) (effM (m.drop (i + 1)) (l.drop (i + 1))) As' w' →
          ∃ (As : Act) (c p : Nat), b'.tmps.size = A.tmps.size ∧ As.tmps.size = A.tmps.size ∧ b'.defers = As.defers ∧
            (∀ i', i' < l.length → m[i']? = some true → (upd f i i' = true ↔ i' < p)) ∧
            (∀ (i' : Nat) (o : Oper), l[i']? = some o → upd f i i' = true → ∀ e ∈ o.after, Region.binds .any e = true → upd f i e.on = true) ∧
            (∀ t, (∀ (i' : Nat) (o : Oper), l[i']? = some o → m[i']? = some true → upd f i i' = true → o.dst ≠ some t) → As.tmps[t]? = A.tmps[t]?) ∧
            (∀ t, (∀ (j : Nat) (o : Oper), l[j]? = some o → m[j]? ≠ some true → o.dst = some t → upd f i j = true) → b'.tmps[t]? = As.tmps[t]?) ∧
            (c = 0 → As = A ∧ p = 0) ∧ (c ≤ 1 → Below w.heap.size w w') ∧
            (0 < c → wpList P l.toArray (OnlyN Q) (effM (m.drop p) (l.drop p)) As w' ∧ e0 < p) ∧
            (0 < c → ∀ (j : Nat) (o : Oper), l[j]? = some o → m[j]? ≠ some true → upd f i j = false → stillOp o = true) ∧
            (2 ≤ c → ∀ (j : Nat) (o : Oper), l[j]? = some o → m[j]? ≠ some true → upd f i j = false → j ∈ L) := by
        intro As' b' w' h1 h2 h3 h4 h5 h6 h7
        have ne : ∀ j, m[j]? ≠ some true → j ≠ i := fun j hj e => hj (by rw [e]; exact him)
        refine ⟨As', c + 1, i + 1, h2.trans s1, h1.trans s2, h3, fun i' a1 a2 => ?_, closed, fun t ht => ?_, fun t ht => ?_, fun h => absurd h (by omega), fun h => h6 (by omega), fun _ => ⟨h7, ?_⟩, fun _ j o' hj hjm hfj => ?_, fun h j o' hj hjm hfj => ?_⟩
        · by_cases e : i' = i
          · rw [e, u1]; constructor
            · intro _; omega
            · intro _; rfl
          · rw [u2 i' e, s4 i' a1 a2]
            constructor
            · intro h; omega
            · intro h
              rcases Nat.lt_or_ge i' p with h' | h'
              · exact h'
              · exact absurd a2 (hno i' h' (by omega))
        · rw [(h4 t (ht i o ho him u1)).1]
          exact s5 t (fun i' o' a1 a2 a3 => ht i' o' a1 a2 (u3 _ a3))
        · by_cases e : o.dst = some t
          · exact h5 t e
          · obtain ⟨c1, c2⟩ := h4 t e
            rw [c1, c2]
            refine s6 t (fun j o' hj hjm hs => ?_)
            have := ht j o' hj hjm hs
            rwa [u2 j (ne j hjm)] at this
        · have := hB.fst i o ho him
          omega
        · rw [u2 j (ne j hjm)] at hfj
          exact hstill j o' hj hjm hfj
        · rw [u2 j (ne j hjm)] at hfj
          exact hLL (by omega) j o' hj hjm hfj
      have hwp : o.wp P As wx (fun a'' w'' => (c = 0 → Below w.heap.size w w'') ∧ wpList P l.toArray (OnlyN Q) (effM (m.drop (i + 1)) (l.drop (i + 1))) a'' w'') (OnlyN Q) := by
        rcases Nat.eq_zero_or_pos c with hc | hc
        · obtain ⟨hAs, hp⟩ := s7 hc
          have hbl := s7b (by omega)
          rw [hp, List.drop_zero, List.drop_zero, hle] at heff
          injection heff with e1 e2
          rw [← e1, ← e2, hAs]
          exact Oper.wp_mono (fun a'' w'' h => ⟨fun _ => hbl.trans (h.1.mono hbl.size), h.2⟩) (fin wx hbl)
        · have hwl := (s8 hc).1
          rw [heff] at hwl
          unfold wpList at hwl
          rw [if_pos (by unfold Region.wanted; rw [hgn o (List.mem_of_getElem? ho)])] at hwl
          rcases hwl with h | ⟨_, h⟩
          · exact Oper.wp_mono (fun a'' w'' h => ⟨fun h0 => absurd h0 (by omega), h⟩) h
          · exact absurd h (onlyN_out Q)
      refine wp_swap he ?_ ?_ hwp
      · intro v w' hK
        refine next (As.put o.dst v) (b.put o.dst v) w' (put_size _ _ _) (put_size _ _ _) (by rw [put_defers, put_defers]; exact s3) (fun t ht => ⟨put_tmps_ne _ _ _ _ ht, put_tmps_ne _ _ _ _ ht⟩) (fun t ht => ?_) hK.1 hK.2
        rw [ht, put_tmps_same _ _ _ (by rw [s1]; exact hdlt t ht), put_tmps_same _ _ _ (by rw [s2]; exact hdlt t ht)]
      · intro d w' hK
        refine next ({ As with defers := d :: As.defers }.put o.dst undef) ({ b with defers := d :: b.defers }.put o.dst undef) w' (by rw [put_size]) (by rw [put_size]) (by rw [put_defers, put_defers]; simp only [s3]) (fun t ht => ⟨put_tmps_ne _ _ _ _ ht, put_tmps_ne _ _ _ _ ht⟩) (fun t ht => ?_) hK.1 hK.2
        have g1 : t < ({ b with defers := d :: b.defers } : Act).tmps.size := by show t < b.tmps.size; rw [s1]; exact hdlt t ht
        have g2 : t < ({ As with defers := d :: As.defers } : Act).tmps.size := by show t < As.tmps.size; rw [s2]; exact hdlt t ht
        rw [ht, put_tmps_same _ _ _ g1, put_tmps_same _ _ _ g2]
  case fin =>
    rintro f b wx ⟨As, c, p, s1, s2, s3, s4, _, s5, s6, s7, s7b, s8, s8a, s8b⟩ hall
    have hall' : ∀ i, i < l.length → f i = true := fun i hi => hall i (by simpa using hi)
    have hb : b = As := by
      obtain ⟨bt, bd⟩ := b
      obtain ⟨At, Ad⟩ := As
      simp only at s3
      subst s3
      simp only [Act.mk.injEq, and_true]
      exact Array.ext_getElem? fun t => s6 t (fun j o hj _ _ => hall' j (List.getElem?_eq_some_iff.1 hj).1)
    have hc : 0 < c := by
      rcases Nat.eq_zero_or_pos c with h | h
      · have := (s7 h).2
        have := (s4 e0 hB.el hB.em).1 (hall' e0 hB.el)
        omega
      · exact h
    have hnil : effM (m.drop p) (l.drop p) = [] := by
      rcases Nat.lt_or_ge p l.length with h | h
      · rw [effM_skip m l p (l.length - p) (fun j h1 h2 h3 => by
          have := (s4 j (by omega) h3).1 (hall' j (by omega))
          omega), show p + (l.length - p) = l.length by omega, List.drop_length]
        cases m.drop l.length <;> rfl
      · rw [List.drop_eq_nil_of_le h]
        cases m.drop p <;> rfl
    have := (s8 hc).1
    rw [hnil] at this
    rw [hb]
    exact this

end Go.Proofs.YtpcndjnhpjhjkaaDoor
namespace Go.Proofs.YtpcndjnhpjhjkaaDoor
open Go.RowKit
set_option linter.unusedVariables false
attribute [local go_sem] Oper.semAt_some

theorem Tryd.infoEn : (Tryd.prog.info? 88).map (fun i => (i.zero, i.size, i.bytes)) = some (some (.agg #[.slice none 0 0, .string ⟨#[]⟩]), 2, 40) := by kernel_rfl
theorem Tryd.undEn : Tryd.prog.underlying 46 = some (.slice 88) := by kernel_rfl
def ge (E : List Eq2) (j : Nat) : Eq2 := E.getD j ([], [])
theorem ge_get (E : List Eq2) (j : Nat) (h : j < E.length) : ge E j = E[j] := by simp [ge, List.getD, h]
/-- equations as cells -/
def EqD (w : World) (E : List Eq2) (k : Nat) (Cs : List Value) : Prop := ∀ j, j < k → ∃ b c, Cs[j * 2]? = some (.slice b (ge E j).1.length c) ∧ Cs[j * 2 + 1]? = some (.string (bs (ge E j).2)) ∧ Ints w b (ge E j).1
theorem EqD.snoc {w : World} {E : List Eq2} {k : Nat} {Cs : List Value} (h : EqD w E k Cs) (hl : Cs.length = k * 2) {b : Option Addr} {c : Nat} (hI : Ints w b (ge E k).1) : EqD w E (k + 1) (Cs ++ [.slice b (ge E k).1.length c, .string (bs (ge E k).2)]) := fun j hj => by
  by_cases e : j < k
  · obtain ⟨b', c', e1, e2, e3⟩ := h j e
    exact ⟨b', c', by rw [List.getElem?_append_left (by omega)]; exact e1, by rw [List.getElem?_append_left (by omega)]; exact e2, e3⟩
  · obtain rfl : j = k := by omega
    refine ⟨b, c, ?_, ?_, hI⟩
    · rw [List.getElem?_append_right (by omega), hl]; simp
    · rw [List.getElem?_append_right (by omega), hl]; simp
theorem EqD.eqns {w wr : World} {E : List Eq2} {Cs : List Value} {base : Nat} {t : TypeId} {v : Value} (h : EqD w E E.length Cs) (hO : wr.ownsRow base t 2 v E.length Cs) (hb : Below w.heap.size w wr) : ∃ a c, v = .slice a E.length c ∧ EqnsA wr a E := by
  obtain ⟨a, c, rfl⟩ := own_shape4 hO
  refine ⟨a, c, rfl, fun j hj => ?_⟩
  obtain ⟨g, e⟩ : ∃ g, a = some ⟨g, 0, none⟩ := by
    rcases hO.2 with ⟨_, h⟩ | ⟨g, c', cur, h, _⟩
    · omega
    · simp only [Value.slice.injEq] at h
      exact ⟨g, h.1⟩
  subst e
  obtain ⟨b, cc, h1, h2, h3⟩ := h j hj
  rw [ge_get E j hj] at h1 h2 h3
  refine ⟨g, 0, rfl, b, cc, ?_, ?_, h3.below hb⟩
  · rw [Nat.zero_add, hO.cellAt (j * 2) (by omega)]; exact h1
  · rw [Nat.zero_add, hO.cellAt (j * 2 + 1) (by omega)]; exact h2
/-- equations of a value -/
def EqV (w : World) (v : Value) (E : List Eq2) : Prop := ∃ a c, v = .slice a E.length c ∧ EqnsA w a E
theorem EqnsA.at {w : World} {a0 : Option Addr} {E : List Eq2} (h : EqnsA w a0 E) : ∀ k, k < E.length → ∃ g o, a0 = some ⟨g, o, none⟩ ∧ ∃ b c, w.cell? ⟨g, o + k * 2, none⟩ = some (.slice b (ge E k).1.length c) ∧ w.cell? ⟨g, o + k * 2 + 1, none⟩ = some (.string (bs (ge E k).2)) ∧ Ints w b (ge E k).1 := fun k hk => by
  rw [ge_get E k hk]
  exact h k hk
set_option maxRecDepth 100000 in
set_option maxHeartbeats 2000000 in
theorem refs_any (E : List Eq2) (a0 : Option Addr) (c : Nat) (hk : E.length ≤ 1000) (w : World) (hI : EqnsA w a0 E) :
    Calls Tryd.prog 23 #[.slice a0 E.length c] w fun e w' => ∃ v, e = .returned v ∧ EqV w' v E ∧ Below w.heap.size w w' := by
  obtain ⟨i0, hi0, hz0, hz1, hz2⟩ := info3 Tryd.infoEn
  have HROW := hide hI.at
  have HQ : Hid (∀ (wr : World) (v : Value) (Cs : List Value), EqD w E E.length Cs → wr.ownsRow w.heap.size 88 2 v E.length Cs → Below w.heap.size w wr → EqV wr v E) := fun wr v Cs h hO hb => h.eqns hO hb
  generalize E.length = M at *
  clear hI
  go_enter Tryd.func23, Tryd.ntmps23
  go_wp2_with fail
  go_loopw [3, 4] (fun v u wr => ∃ (k : Nat) (Cs : List Value), k ≤ M ∧ u = .int .i64 k ∧ wr.ownsRow w.heap.size 88 2 v k Cs ∧ EqD w E k Cs ∧ Below w.heap.size w wr) (fun _ u _ => M - (intOf u).toNat)
  case atStart => exact ⟨0, [], by omega, rfl, World.ownsRow_nil _ _ _ _, fun j hj => absurd hj (by omega), Below.refl _ _⟩
  case round =>
    obtain ⟨k, Cs, hk, rfl, hO, hC, hB⟩ := hrel
    obtain ⟨ao, cap, rfl⟩ := own_shape4 hO
    have hzw := hB.size
    by_cases hlt : k < M
    · obtain ⟨g, o, rfl, b, cc, c0, c1, hIk⟩ := unhide HROW k hlt
      have HC0 := hide (cell_below c0 hB)
      have HC1 := hide (cell_below c1 hB)
      have q1 : (k : Int) < M := by omega
      have HCN := hide (hC.snoc (by have := hO.1; omega) (c := cc) hIk)
      have HO := hide hO
      have HB := hide hB
      generalize (ge E k).1.length = rl at *
      generalize bs (ge E k).2 = sl at *
      clear hO hB hC c0 c1 hIk
      go_wp2_with fail
      refine wp_region_efg [false, false, false, false, false, false, false, false, false, false, false, false, true, true, true] [0] 12 ?A0 _ _ (by kernel_rfl) (by kernel_rfl) rfl ?lex ?free ?_
      case lex =>
        intro X
        have hneX := gb_ne X.w
        have hcX : ∀ z : Gb X.w, z.w.cell? ⟨g, o + k * 2, none⟩ = _ := fun z => gb_cell (cell_below (unhide HC0) X.ok) z
        have hdX : ∀ z : Gb X.w, z.w.cell? ⟨g, o + k * 2 + 1, none⟩ = _ := fun z => gb_cell (cell_below (unhide HC1) X.ok) z
        dsimp only [restM]
        repeat (go_big_quiet_step (fail))
        refine wpQuiet_nil ?_
        exact rfl
      case free =>
        intro j hj o ho W
        simp only [List.mem_cons, List.not_mem_nil, or_false] at hj
        subst hj
        simp only [List.getElem?_cons_zero, Option.some.injEq] at ho
        subst ho
        go_big_quiet_step (fail)
        refine wpQuiet_nil ?_
        exact rfl
      intro w8 b8
      have HO8 := hide (own_below2 (unhide HO) b8)
      have HB8 := hide ((unhide HB).trans (b8.mono hzw))
      have hs8 := (unhide HB8).size
      clear b8 HC0 HC1 HO HB
      go_wp2_with fail
      refine onlyN ⟨(Below.refl _ _).alloc (Nat.le_refl _) _, ?_⟩
      dsimp only [effM]
      go_wp2_with (at_builtin; refine wpList_append_own _ rfl _ _ 46 rfl w.heap.size 88 i0 _ 2 40 Tryd.undEn hi0 hz0 hz1 hz2 rfl (by decide) _ _ _ rfl ((unhide HO8).alloc _) ⟨w8.heap.size, 0, none⟩ 1 1 [.slice b rl cc, .string sl] rfl rfl (news_lit _ [_, _] _) ?d2 ?d3 ?d4 ?d5 ?_)
      case d2 => intro u hu; simp at hu; rcases hu with rfl | rfl <;> rfl
      case d3 => unfold maxLen; omega
      case d4 => omega
      case d5 => first | omega | (simp; omega)
      all_goals try rfl
      intro v' w3 hown' hgrow _
      have hb' := hide ((((unhide HB8).alloc (by omega) _)).grown hgrow (by simp; omega) (fun k hk => (((unhide HO8).lt k hk).1)))
      have ho2 := hide hown'
      obtain ⟨ao', cap', rfl⟩ := own_shape4 hown'
      clear hown' hgrow
      go_wp2_with fail
      refine onlyN ?_
      go_wp2
      go_roundw
      case rel => exact ⟨k + 1, _, by omega, by go_num, unhide ho2, unhide HCN, unhide hb'⟩
      case measure => simp [intOf]; omega
    · have hkm : k = M := by omega
      subst hkm
      have q1 : ¬ (k : Int) < k := by omega
      have HX : Hid (EqV wr (.slice ao k cap) E ∧ Below w.heap.size w wr) := ⟨unhide HQ wr _ Cs hC hO hB, hB⟩
      clear hO hB hC
      go_wp2
      go_ret
      exact ⟨_, rfl, unhide HX⟩
end Go.Proofs.YtpcndjnhpjhjkaaDoor
namespace Go.Proofs.YtpcndjnhpjhjkaaDoor
open Go.RowKit
set_option linter.unusedVariables false
attribute [local go_sem] Oper.semAt_some

theorem cell_base {w w' : World} {B : Nat} {p : Addr} {v : Value} (hp : p.block < B) (hb : Below B w w') (h : w.cell? p = some v) : w'.cell? p = some v := (hb.cell hp).trans h
theorem block_lt {w : World} {p : Addr} {v : Value} (h : w.cell? p = some v) : p.block < w.heap.size := by
  rcases Nat.lt_or_ge p.block w.heap.size with h' | h'
  · exact h'
  · simp [World.cell?, Array.getElem?_eq_none h'] at h
/-- rows of equations as cells -/
def RwD (w : World) (E : List Eq2) (k : Nat) (Vs : List Value) : Prop := ∀ j, j < k → ∃ b c, Vs[j]? = some (.slice b (ge E j).1.length c) ∧ Ints w b (ge E j).1
theorem RwD.snoc {w : World} {E : List Eq2} {k : Nat} {Vs : List Value} (h : RwD w E k Vs) (hl : Vs.length = k) {b : Option Addr} {c : Nat} (hI : Ints w b (ge E k).1) : RwD w E (k + 1) (Vs ++ [.slice b (ge E k).1.length c]) := fun j hj => by
  by_cases e : j < k
  · obtain ⟨b', c', h1, h2⟩ := h j e
    exact ⟨b', c', by rw [List.getElem?_append_left (by omega)]; exact h1, h2⟩
  · obtain rfl : j = k := by omega
    exact ⟨b, c, by rw [List.getElem?_append_right (by omega), hl]; simp, hI⟩
theorem RwD.rows {w wr : World} {E : List Eq2} {Vs : List Value} {base : Nat} {v : Value} (h : RwD w E E.length Vs) (hO : wr.ownsRow base 32 1 v E.length Vs) (hb : Below w.heap.size w wr) : RowsV wr v (E.map Prod.fst) := by
  obtain ⟨a, c, rfl⟩ := own_shape4 hO
  refine ⟨a, c, by rw [List.length_map], fun j hj => ?_⟩
  have hj' : j < E.length := by simpa using hj
  obtain ⟨g, e⟩ : ∃ g, a = some ⟨g, 0, none⟩ := by
    rcases hO.2 with ⟨_, h⟩ | ⟨g, c', cur, h, _⟩
    · omega
    · simp only [Value.slice.injEq] at h
      exact ⟨g, h.1⟩
  subst e
  obtain ⟨b, cc, h1, h2⟩ := h j hj'
  rw [ge_get E j hj'] at h1 h2
  refine ⟨g, 0, rfl, b, cc, ?_, ?_⟩
  · rw [List.getElem_map, Nat.zero_add, hO.cellAt j (by omega)]; exact h1
  · rw [List.getElem_map]; exact h2.below hb
theorem gt_eL (R : List (List Nat)) (E : List Eq2) (M j : Nat) (h : j < M) : gt (eL R E M) j = (rowN (R.getD j []), (ge E j).2) := by
  simp [gt, eL, List.getD, h, ge]
def SidV (n : Nat) (w : World) (v : Value) (L : List Ln) : Prop := ∃ a c, v = .slice a L.length c ∧ SidesA n w a L
theorem EqD.sides {n : Nat} {E : List Eq2} {R : List (List Nat)} (hR : Rws n (E.map Prod.fst) R) {w w1 : World} {v : Value} {Cs : List Value} (hC : EqD w E E.length Cs) (hO : w1.ownsRow w.heap.size 78 2 v E.length Cs) (hb : Below w.heap.size w w1) : SidV n w1 v (eL R E E.length) := by
  obtain ⟨a, c, rfl⟩ := own_shape4 hO
  have hlen : E.length = R.length := by
    have := congrArg List.length hR.eq
    rw [List.length_map, List.length_map] at this
    exact this
  refine ⟨a, c, by rw [eL_length], fun j hj => ?_⟩
  rw [eL_length] at hj
  obtain ⟨b, cc, h1, h2, h3⟩ := hC j hj
  obtain ⟨g, e⟩ : ∃ g, a = some ⟨g, 0, none⟩ := by
    rcases hO.2 with ⟨_, h⟩ | ⟨g, c', cur, h, _⟩
    · omega
    · simp only [Value.slice.injEq] at h
      exact ⟨g, h.1⟩
  subst e
  have hr : R.getD j [] ∈ R := by simp [List.getD, ← hlen, hj]
  have hs := sorted_nums (hR.lt _ hr) (hR.ord _ hr)
  have he : (ge E j).1 = zs (R.getD j []) := by
    rw [ge_get E j hj]
    have h4 := hR.eq
    have h5 : (E.map Prod.fst)[j]? = (R.map zs)[j]? := by rw [h4]
    simpa [hj, List.getD, ← hlen] using h5
  rw [he] at h1 h3
  rw [zs_length] at h1
  rw [gt_eL R E _ j hj]
  refine ⟨g, 0, rfl, b, cc, ?_, ?_, ?_⟩
  · rw [← hs, Nat.zero_add, hO.cellAt (j * 2) (by omega)]
    exact h1
  · rw [Nat.zero_add, hO.cellAt (j * 2 + 1) (by omega)]
    exact h2
  · rw [← hs]
    exact h3.below hb
def badD (D : List By) (m : Nat) : Bool := D.any fun b => decide (b ≠ List.replicate m 0)
theorem bad_doc {m n : Nat} {L : List Ln} (hn : n ≤ 200) (hs : Szd m L) (hb : ∀ x ∈ L, x.1 < 2 ^ n) : slvBad L n m = badD (docN L).2 m := by
  unfold slvBad badD
  rw [Bool.eq_iff_iff, List.any_eq_true, List.any_eq_true]
  have h1 := kep_contra hn hs hb
  have h2 := doc_contra hn hs hb
  constructor
  · rintro ⟨x, hx, h⟩
    obtain ⟨b, hb', h'⟩ := h2.1 (h1.2 ⟨x, hx, of_decide_eq_true h⟩)
    exact ⟨b, hb', decide_eq_true h'⟩
  · rintro ⟨b, hb', h⟩
    obtain ⟨x, hx, h'⟩ := h1.1 (h2.2 ⟨b, hb', of_decide_eq_true h⟩)
    exact ⟨x, hx, decide_eq_true h'⟩
theorem good_doc {m n : Nat} {L : List Ln} (hn : n ≤ 200) (hs : Szd m L) (hb : ∀ x ∈ L, x.1 < 2 ^ n) (h : slvBad L n m = false) : kep L n = (docN L).1 := by
  refine kep_doc hn hs hb (fun hc => ?_)
  obtain ⟨x, hx, h'⟩ := (kep_contra hn hs hb).1 hc
  have : slvBad L n m = true := by
    unfold slvBad
    rw [List.any_eq_true]
    exact ⟨x, hx, decide_eq_true h'⟩
  rw [h] at this
  cases this
end Go.Proofs.YtpcndjnhpjhjkaaDoor
namespace Go.Proofs.YtpcndjnhpjhjkaaDoor
open Go.RowKit
set_option linter.unusedVariables false
attribute [local go_sem] Oper.semAt_some

theorem Tryd.infoStr : (Tryd.prog.info? 9).map (fun i => (i.zero, i.size, i.bytes)) = some (some (.string ⟨#[]⟩), 1, 16) := by kernel_rfl
theorem Tryd.undStr : Tryd.prog.underlying 41 = some (.slice 9) := by kernel_rfl
theorem bl_neS {A B : ByteArray} (h : ¬ A = B) : (A.toList == B.toList) = false := by
  rw [beq_eq_false_iff_ne]
  intro e
  rw [ByteArray.toList_eq, ByteArray.toList_eq] at e
  exact h (ByteArray.ext (Array.ext' e))
theorem fnd_take {D : List Ln} {i j : Nat} (h : j < D.length) : (D.take (j + 1)).foldl (fndS i) [] = fndS i ((D.take j).foldl (fndS i) []) (gt D j) := by
  rw [List.take_succ_eq_append_getElem h, List.foldl_append]
  simp [gt, List.getD, h]
set_option maxRecDepth 100000 in
set_option maxHeartbeats 4000000 in
theorem dsolve_yes (n size : Nat) (E : List Eq2) (R : List (List Nat)) (hR : Rws n (E.map Prod.fst) R) (h1 : 1 ≤ size) (h64 : size ≤ 64) (hsz : ∀ x ∈ E, x.2.length = size) (a0 : Option Addr) (c : Nat) (w : World) (hE : EqnsA w a0 E) :
    Calls Tryd.prog 22 #[.int .i64 n, .int .i64 size, .slice a0 E.length c] w fun e w' => (slvBad (eL R E E.length) n size = true ∧ e = .returned (.tuple #[.slice none 0 0, .int .i64 9]) ∧ Below w.heap.size w w') ∨ (slvBad (eL R E E.length) n size = false ∧ ∃ v, e = .returned (.tuple #[v, .int .i64 0]) ∧ OwnS w' w.heap.size v (slv n (kep (eL R E E.length) n)) ∧ Below w.heap.size w w') := by
  obtain ⟨i0, hi0, hz0, hz1, hz2⟩ := info3 Tryd.infoSd
  obtain ⟨r0, hr0, hy0, hy1, hy2⟩ := info3 Tryd.infoQr
  obtain ⟨s0, hs0, hx0, hx1, hx2⟩ := info3 Tryd.infoStr
  have h160 := hR.n160
  have hlen : E.length = R.length := by
    have := congrArg List.length hR.eq
    rw [List.length_map, List.length_map] at this
    exact this
  have h400 : E.length ≤ 400 := by rw [hlen]; exact hR.m400
  have HROW := hide hE.at
  have HSZ : Hid (∀ k, k < E.length → (ge E k).2.length = size) := fun k hk => by rw [ge_get E k hk]; exact hsz _ (List.getElem_mem hk)
  have hSz : Szd size (eL R E E.length) := fun x hx => by
    obtain ⟨t, ht, rfl⟩ := List.mem_map.1 hx
    exact unhide HSZ t (List.mem_range.1 ht)
  have hBd : ∀ x ∈ eL R E E.length, x.1 < 2 ^ n := fun x hx => by
    obtain ⟨t, ht, rfl⟩ := List.mem_map.1 hx
    have htR : t < R.length := by rw [← hlen]; exact List.mem_range.1 ht
    have hr : R.getD t [] ∈ R := by simp [List.getD, htR]
    exact rowN_lt _ _ (hR.lt _ hr)
  have HMY : Hid (∀ W a d, RowsA W a (E.map Prod.fst) → Calls Tryd.prog 17 #[.int .i64 n, .slice a E.length d] W fun e w' => e = .returned (.bool true) ∧ W = w') := fun W a d hA => by
    have := dmay_any n (E.map Prod.fst) a d ⟨by omega, by omega⟩ (by rw [List.length_map]; unfold maxLen; omega) (fun r hr => by
      rw [hR.eq] at hr
      obtain ⟨x, hx, rfl⟩ := List.mem_map.1 hr
      rw [zs_length, sorted_nums (hR.lt x hx) (hR.ord x hx)]
      have := numsR_len n (rowN x)
      unfold maxLen
      omega) W hA
    rwa [rws_may hR, List.length_map] at this
  have HRV : Hid (∀ wr v Vs, RwD w E E.length Vs → wr.ownsRow w.heap.size 32 1 v E.length Vs → Below w.heap.size w wr → RowsV wr v (E.map Prod.fst)) := fun wr v Vs h hO hb => h.rows hO hb
  have HSV : Hid (∀ wr v Cs, EqD w E E.length Cs → wr.ownsRow w.heap.size 78 2 v E.length Cs → Below w.heap.size w wr → SidV n wr v (eL R E E.length)) := fun wr v Cs h hO hb => h.sides hR hO hb
  have HML := hide (show (E.map Prod.fst).length = E.length by rw [List.length_map])
  have HEL := hide (eL_length R E E.length)
  have HMS := hide (fun W => rmay_any (size : Int) W)
  have hmt : may (size : Int) = true := may_iff.2 ⟨by omega, by omega⟩
  rw [hmt] at HMS
  have HZ := hide (fun W => rzero_any (size : Int) W)
  rw [zeroL_nat size h1 h64] at HZ
  have HRD := hide (fun W a d (hs : SidesA n W a (eL R E E.length)) => dreduce_any n size (eL R E E.length) h160 (by omega) (by rw [eL_length]; exact h400) hSz hBd a d W hs)
  have HBADD := hide (bad_doc (by omega) hSz hBd)
  have HGOOD := hide (fun h => good_doc (n := n) (by omega) hSz hBd h)
  obtain ⟨hrd, hrs, _, _, _, hkb, hkl⟩ := kep_rd (n := n) (m := size) (by omega) hSz hBd
  have HKB := hide hkb
  have HKZ : Hid (∀ x ∈ kep (eL R E E.length) n, x.1 ≠ 0) := hrd.nz
  have HDL := hide (docN_lens (eL R E E.length) (eL R E E.length).length (Nat.le_refl _))
  generalize hLe : eL R E E.length = L at *
  generalize E.map Prod.fst = Rs at *
  generalize hM : E.length = M at *
  clear hE hR hsz hlen hSz hBd hmt hM hrd hrs hkb hkl hLe
  go_enter Tryd.func22, Tryd.ntmps22
  have q400 : ¬ (400 : Int) < M := by omega
  have d400 : decide ((400 : Int) < M) = false := decide_eq_false q400
  go_wp2_with fail
  refine (unhide HMS _).mono ?_
  rintro e w0 ⟨rfl, rfl⟩
  clear HMS
  go_wp2_with fail
  go_loopw [8, 9, 10] (fun v u x wr => ∃ (k : Nat) (Vs Cs : List Value), k ≤ M ∧ x = .int .i64 k ∧ wr.ownsRow w.heap.size 32 1 v k Vs ∧ RwD w E k Vs ∧ wr.ownsRow w.heap.size 78 2 u k Cs ∧ EqD w E k Cs ∧ Below w.heap.size w wr) (fun _ _ x _ => M - (intOf x).toNat)
  case atStart => exact ⟨0, [], [], by omega, rfl, World.ownsRow_nil _ _ _ _, fun j hj => absurd hj (by omega), World.ownsRow_nil _ _ _ _, fun j hj => absurd hj (by omega), Below.refl _ _⟩
  case round =>
    obtain ⟨k, Vs, Cs, hk, rfl, hV, hVD, hO, hC, hB⟩ := hrel
    obtain ⟨av, cv, rfl⟩ := own_shape4 hV
    obtain ⟨ao, cap, rfl⟩ := own_shape4 hO
    have hzw := hB.size
    by_cases hlt : k < M
    · obtain ⟨g, o, rfl, b, cc, c0, c1, hIk⟩ := unhide HROW k hlt
      have d0 := cell_below c0 hB
      have d1 := cell_below c1 hB
      have q1 : (k : Int) < M := by omega
      have hlb : (bs (ge E k).2).size = (ge E k).2.length := bs_size _
      have hszk := unhide HSZ k hlt
      have q2 : ((bs (ge E k).2).size : Int) = size := by rw [hlb]; omega
      have q3 : (((bs (ge E k).2).size : Int) == size) = true := by simp [q2]
      have HVN := hide (hVD.snoc (by have := hV.1; omega) (c := cc) hIk)
      have HCN := hide (hC.snoc (by have := hO.1; omega) (c := cc) hIk)
      have HV := hide hV
      have HO := hide hO
      have HB := hide hB
      have HW0 := hide c0
      have HW1 := hide c1
      generalize (ge E k).1.length = rl at *
      generalize bs (ge E k).2 = sl at *
      clear hV hVD hO hB hC c0 c1 hIk hlb hszk
      go_wp2_with (at_builtin; refine wpList_append_own _ rfl _ _ 22 rfl w.heap.size 32 r0 _ 1 24 Tryd.undQr hr0 hy0 hy1 hy2 rfl (by decide) _ _ _ rfl ((unhide HV).alloc _) ⟨wr.heap.size, 0, none⟩ 1 1 [.slice b rl cc] rfl rfl (news_lit _ [_] _) ?e2 ?e3 ?e4 ?e5 ?_)
      case e2 => first | rfl | (intro u hu; simp at hu; rw [hu]; rfl)
      case e3 => unfold maxLen; omega
      case e4 => omega
      case e5 => first | omega | (simp; omega)
      all_goals try rfl
      intro v' w3 hown3 hgrow3 _
      obtain ⟨av3, cv3, rfl⟩ := own_shape4 hown3
      have hO3 := ((unhide HO).alloc (.cells #[.slice b rl cc] 32)).kept hgrow3 (own_apart ((unhide HO).alloc (.cells #[.slice b rl cc] 32)) ((unhide HV).alloc (.cells #[.slice b rl cc] 32)) (by decide))
      have hB3 := (((unhide HB).alloc (by omega) (.cells #[.slice b rl cc] 32))).grown hgrow3 (by simp; omega) (fun k hk => (((unhide HV).lt k hk).1))
      have HC0 := hide (cell_below (unhide HW0) hB3)
      have HC1 := hide (cell_below (unhide HW1) hB3)
      have HV3 := hide hown3
      have HO3 := hide hO3
      have HB3 := hide hB3
      have hs3 := hB3.size
      clear hown3 hgrow3 hO3 hB3 d0 d1 HV HO HB HW0 HW1
      go_wp2_with fail
      refine wp_region_efg [false, false, false, false, false, false, false, false, false, false, false, false, true, true, true] [0] 12 ?A0 _ _ (by kernel_rfl) (by kernel_rfl) rfl ?lex ?free ?_
      case lex =>
        intro X
        have hneX := gb_ne X.w
        have hcX : ∀ z : Gb X.w, z.w.cell? ⟨g, o + k * 2, none⟩ = _ := fun z => gb_cell (cell_below (unhide HC0) X.ok) z
        have hdX : ∀ z : Gb X.w, z.w.cell? ⟨g, o + k * 2 + 1, none⟩ = _ := fun z => gb_cell (cell_below (unhide HC1) X.ok) z
        dsimp only [restM]
        repeat (go_big_quiet_step (fail))
        refine wpQuiet_nil ?_
        exact rfl
      case free =>
        intro j hj o ho W
        simp only [List.mem_cons, List.not_mem_nil, or_false] at hj
        subst hj
        simp only [List.getElem?_cons_zero, Option.some.injEq] at ho
        subst ho
        go_big_quiet_step (fail)
        refine wpQuiet_nil ?_
        exact rfl
      intro w8 b8
      have HV8 := hide (own_below2 (unhide HV3) b8)
      have HO8 := hide (own_below2 (unhide HO3) b8)
      have HB8 := hide ((unhide HB3).trans (b8.mono hs3))
      have hs8 := (unhide HB8).size
      clear b8 HC0 HC1 HV3 HO3 HB3
      go_wp2_with fail
      refine onlyN ⟨(Below.refl _ _).alloc (Nat.le_refl _) _, ?_⟩
      dsimp only [effM]
      go_wp2_with (at_builtin; refine wpList_append_own _ rfl _ _ 72 rfl w.heap.size 78 i0 _ 2 40 Tryd.undSd hi0 hz0 hz1 hz2 rfl (by decide) _ _ _ rfl ((unhide HO8).alloc _) ⟨w8.heap.size, 0, none⟩ 1 1 [.slice b rl cc, .string sl] rfl rfl (news_lit _ [_, _] _) ?d2 ?d3 ?d4 ?d5 ?_)
      case d2 => intro u hu; simp at hu; rcases hu with rfl | rfl <;> rfl
      case d3 => unfold maxLen; omega
      case d4 => omega
      case d5 => first | omega | (simp; omega)
      all_goals try rfl
      intro v' w4 hown4 hgrow4 _
      have HV4 := hide (((unhide HV8).alloc (.cells #[.slice b rl cc, .string sl] 78)).kept hgrow4 (own_apart ((unhide HV8).alloc (.cells #[.slice b rl cc, .string sl] 78)) ((unhide HO8).alloc (.cells #[.slice b rl cc, .string sl] 78)) (by decide)))
      have HB4 := hide ((((unhide HB8).alloc (by omega) _)).grown hgrow4 (by simp; omega) (fun k hk => (((unhide HO8).lt k hk).1)))
      have HO4 := hide hown4
      obtain ⟨ao', cap', rfl⟩ := own_shape4 hown4
      clear hown4 hgrow4 HV8 HO8
      go_wp2_with fail
      refine onlyN ?_
      go_wp2
      go_roundw
      case rel => exact ⟨k + 1, _, _, by omega, by go_num, unhide HV4, unhide HVN, unhide HO4, unhide HCN, unhide HB4⟩
      case measure => simp [intOf]; omega
    · have hkm : k = M := by omega
      subst hkm
      have q1 : ¬ (k : Int) < k := by omega
      obtain ⟨ra, rc, re, hra⟩ := unhide HRV wr _ Vs hVD hV hB
      obtain ⟨sa, sc2, se, hsa⟩ := unhide HSV wr _ Cs hC hO hB
      rw [unhide HML] at re
      rw [unhide HEL] at se
      simp only [Value.slice.injEq, true_and] at re se
      obtain ⟨rfl, rfl⟩ := re
      obtain ⟨rfl, rfl⟩ := se
      have hmy := hide (unhide HMY wr av cv hra)
      have hrd := unhide HRD wr ao cap hsa
      rw [unhide HEL] at hrd
      have HR2 := hide hrd
      have B1 := hide hB
      have hb1s := hB.size
      clear hV hVD hO hC hB hra hsa hrd HRV HSV HRD HMY HROW
      obtain ⟨w1, rfl⟩ : ∃ x, x = wr := ⟨wr, rfl⟩
      have hdl := unhide HDL
      rw [List.take_length, unhide HEL] at hdl
      go_wp2_with fail
      refine (unhide hmy).mono ?_
      rintro e w1' ⟨rfl, rfl⟩
      go_wp2_with fail
      refine (unhide HR2).mono ?_
      rintro e w2 ⟨vL, vE, rfl, ⟨Cs2, hL2, hSC2⟩, hE2, b2⟩
      obtain ⟨la, lc, rfl⟩ := own_shape4 hL2
      obtain ⟨ea, ec, rfl⟩ := own_shape4 hE2
      have HL2 := hide hL2
      have HSC2 := hide hSC2
      have HE2 := hide hE2
      have B2 := hide b2
      have hb2s := b2.size
      generalize hDe : docN L = D at *
      generalize hdl1 : D.1.length = dl at *
      have HDL1 := hide hdl1
      generalize hel1 : D.2.length = el at *
      have HEL1 := hide hel1
      clear hL2 hSC2 hE2 b2 hDe hdl1 hel1 HR2 hmy
      go_wp2_with fail
      have hbx := heap_alloc_new w2 (.cells #[.slice la dl lc, .slice ea el ec] 74)
      have b3 : Below w2.heap.size w2 (w2.alloc (.cells #[.slice la dl lc, .slice ea el ec] 74)) := (Below.refl _ _).alloc (Nat.le_refl _) _
      generalize w2.alloc (.cells #[.slice la dl lc, .slice ea el ec] 74) = w3 at *
      have HL3 := hide (own_below2 (unhide HL2) b3)
      have HE3 := hide (own_below2 (unhide HE2) b3)
      have HSC3 := hide ((unhide HSC2).ki (KI.of_below b3))
      have B13 := hide ((unhide B2).trans (b3.mono hb2s))
      have hc0 := cell0_two hbx
      have hc1 := cell1_two hbx
      have hb3s := (unhide B13).size
      generalize w2.heap.size = gb at *
      clear hbx b3 HL2 HE2 HSC2
      go_loopw [12] (fun u wr => ∃ i : Nat, i ≤ el ∧ u = .int .i64 i ∧ (∀ b ∈ D.2.take i, b = List.replicate size 0) ∧ Below w3.heap.size w3 wr) (fun u _ => el - (intOf u).toNat)
      case atStart => exact ⟨0, by omega, rfl, by simp, Below.refl _ _⟩
      case round =>
        obtain ⟨i, hi, rfl, hall, hB⟩ := hrel
        obtain ⟨wo, rfl⟩ : ∃ x, x = wr := ⟨wr, rfl⟩
        have d1 := cell_below hc1 hB
        have hbs := hB.size
        by_cases hlt : i < el
        · have hltD : i < D.2.length := by rw [unhide HEL1]; exact hlt
          obtain ⟨ge', ee⟩ : ∃ g, ea = some ⟨g, 0, none⟩ := by
            rcases (unhide HE3).2 with ⟨_, h⟩ | ⟨g, c', cur, h, _⟩
            · omega
            · simp only [Value.slice.injEq] at h
              exact ⟨g, h.1⟩
          subst ee
          have d2 : wo.cell? ⟨ge', i, none⟩ = some (.string (bs D.2[i])) := cell_below (((unhide HE3).cellAt i (by omega)).trans (sc_get D.2 i hltD)) hB
          have q2 : (i : Int) < el := by omega
          have HB := hide hB
          have hzz := hide (fun Z : Gb wo => unhide HZ Z.w)
          by_cases hz : D.2[i] = List.replicate size 0
          · rw [hz] at d2
            have HA2 : Hid (∀ b ∈ D.2.take (i + 1), b = List.replicate size 0) := by
              intro b hb
              rw [List.take_succ_eq_append_getElem hltD, List.mem_append] at hb
              rcases hb with hb | hb
              · exact hall b hb
              · simp at hb; rw [hb]; exact hz
            generalize bs (List.replicate size 0) = ZB at *
            clear hB hall hz hltD
            go_wp2_with fail
            have hne := gb_ne wo
            have X1 : ∀ y : Gb wo, y.w.cell? ⟨gb, 1, none⟩ = _ := fun y => gb_cell d1 y
            have X2 : ∀ y : Gb wo, y.w.cell? ⟨ge', i, none⟩ = _ := fun y => gb_cell d2 y
            refine wp_region_gr (fun x => Below wo.heap.size wo x) (by kernel_rfl) (by kernel_rfl) (gb_start wo) ?_
            repeat (go_big_quiet_step ((go_at_call 43; exact gb_call (unhide hzz _))))
            refine wpQuiet_nil ?_
            rintro w5 ⟨⟨w5', b5⟩, rfl⟩
            have HB5 := hide ((unhide HB).trans (b5.mono hbs))
            clear b5 hne X1 X2 d1 d2
            go_wp2
            go_roundw
            case rel => exact ⟨i + 1, by omega, by go_num, unhide HA2, unhide HB5⟩
            case measure => simp [intOf]; omega
          · have HBAD : Hid (slvBad L n size = true) := by
              show _ = _
              rw [unhide HBADD]
              unfold badD
              rw [List.any_eq_true]
              exact ⟨_, List.getElem_mem hltD, decide_eq_true hz⟩
            have hzb : ¬ bs D.2[i] = bs (List.replicate size 0) := fun e => hz (bs_inj e)
            generalize bs (List.replicate size 0) = ZB at *
            generalize bs D.2[i] = DB at *
            have q5 : (DB.toList == ZB.toList) = false := bl_neS hzb
            have q6 : ¬ DB.toList = ZB.toList := beq_eq_false_iff_ne.1 q5
            clear hB hall hz hltD
            go_wp2_with fail
            have hne := gb_ne wo
            have X1 : ∀ y : Gb wo, y.w.cell? ⟨gb, 1, none⟩ = _ := fun y => gb_cell d1 y
            have X2 : ∀ y : Gb wo, y.w.cell? ⟨ge', i, none⟩ = _ := fun y => gb_cell d2 y
            refine wp_region_gr (fun x => Below wo.heap.size wo x) (by kernel_rfl) (by kernel_rfl) (gb_start wo) ?_
            repeat (go_big_quiet_step ((go_at_call 43; exact gb_call (unhide hzz _))))
            refine wpQuiet_nil ?_
            rintro w5 ⟨⟨w5', b5⟩, rfl⟩
            have HB5 := hide ((unhide B1).trans (((unhide B13).trans (((unhide HB).trans (b5.mono hbs)).mono hb3s)).mono hb1s))
            clear b5 hne X1 X2 d1 d2
            go_wp2
            go_ret2
            exact .inl ⟨unhide HBAD, rfl, unhide HB5⟩
        · have hie : i = el := by omega
          subst hie
          have q2 : ¬ (i : Int) < i := by omega
          have HG : Hid (slvBad L n size = false) := by
            show _ = _
            rw [unhide HBADD]
            unfold badD
            rw [List.any_eq_false]
            intro b hb
            rw [← List.take_of_length_le (l := D.2) (i := i) (by rw [unhide HEL1]; exact Nat.le_refl _)] at hb
            simp [hall b hb]
          have hkd := unhide HGOOD (unhide HG)
          have HKD := hide hkd
          rw [hkd] at HKB HKZ
          have HBO := hide hB
          have hc0' := cell_below hc0 hB
          clear hall hkd hB HGOOD HBADD
          go_wp2_with fail
          go_loopw [13, 14] (fun v u wr => ∃ k : Nat, k ≤ n ∧ u = .int .i64 k ∧ wr.ownsRow w3.heap.size 9 1 v k (sc ((List.range k).map (fnd D.1))) ∧ Below w3.heap.size w3 wr) (fun _ u _ => n - (intOf u).toNat)
          case atStart => exact ⟨0, by omega, rfl, World.ownsRow_nil _ _ _ _, unhide HBO⟩
          case round =>
            obtain ⟨k, hk, rfl, hO, hB⟩ := hrel
            obtain ⟨w4, rfl⟩ : ∃ x, x = wr := ⟨wr, rfl⟩
            obtain ⟨oa, oc, rfl⟩ := own_shape4 hO
            have hbs4 := hB.size
            have x0 := cell_below hc0 hB
            have HO := hide hO
            have HB := hide hB
            clear hO hB
            by_cases hlt : k < n
            · have q3 : (k : Int) < n := by omega
              go_wp2_with fail
              go_loopw [15, 16] (fun v u wr => w4 = wr ∧ ∃ j : Nat, j ≤ dl ∧ u = .int .i64 j ∧ v = .string (bs ((D.1.take j).foldl (fndS k) []))) (fun _ u _ => dl - (intOf u).toNat)
              case atStart => exact ⟨rfl, 0, by omega, rfl, rfl⟩
              case round =>
                obtain ⟨rfl, j, hj, rfl, rfl⟩ := hrel
                by_cases hlj : j < dl
                · have hltD : j < D.1.length := by rw [unhide HDL1]; exact hlj
                  obtain ⟨b, cc, y1, y2, hiy⟩ := unhide HSC3 j hltD
                  obtain ⟨gl, el'⟩ : ∃ g, la = some ⟨g, 0, none⟩ := by
                    rcases (unhide HL3).2 with ⟨_, h⟩ | ⟨g, c', cur, h, _⟩
                    · omega
                    · simp only [Value.slice.injEq] at h
                      exact ⟨g, h.1⟩
                  subst el'
                  have p1 := cell_below (((unhide HL3).cellAt (j * 2) (by omega)).trans y1) (unhide HB)
                  have p2 := cell_below (((unhide HL3).cellAt (j * 2 + 1) (by omega)).trans y2) (unhide HB)
                  have hiI := (hiy.ki (KI.of_below (unhide HB))).ints ((unhide B13).trans ((unhide HB).mono hb3s))
                  have hone := nums_one h160 (unhide HKB _ (gt_mem hltD))
                  have hnz := unhide HKZ _ (gt_mem hltD)
                  have HFT := hide (fnd_take (i := k) hltD)
                  have q4 : (j : Int) < dl := by omega
                  cases hob : onlyB (gt D.1 j).1 with
                  | false =>
                    rw [hob] at hone
                    have hne : (numsR n (gt D.1 j).1).length ≠ 1 := of_decide_eq_false hone
                    have q5 : (((numsR n (gt D.1 j).1).length : Int) == 1) = false := by simp; omega
                    have q6 : ¬ ((numsR n (gt D.1 j).1).length : Int) = 1 := by omega
                    have HX : Hid ((D.1.take (j + 1)).foldl (fndS k) [] = (D.1.take j).foldl (fndS k) []) := by
                      show _ = _
                      rw [unhide HFT]
                      unfold fndS
                      rw [if_neg (fun e => by rw [hob] at e; cases e.1)]
                    generalize (numsR n (gt D.1 j).1).length = nl at *
                    clear hob hone hiI hltD hnz y1 y2 hiy HFT
                    go_wp2
                    go_roundw
                    case rel => exact ⟨trivial, j + 1, by omega, by go_num, by rw [unhide HX]⟩
                    case measure => simp [intOf]; omega
                  | true =>
                    rw [hob] at hone
                    have h1' : (numsR n (gt D.1 j).1).length = 1 := of_decide_eq_true hone
                    obtain ⟨t, ht⟩ := first_num (by omega) hnz (unhide HKB _ (gt_mem hltD))
                    rw [h1'] at p1
                    obtain ⟨g2, o2, rfl, c9⟩ := hiI 0 (by rw [zs_length, h1']; omega)
                    have e1 : (zs (numsR n (gt D.1 j).1))[0]'(by rw [zs_length, h1']; omega) = (fb (gt D.1 j).1 : Int) := by simp [zs, ht]
                    rw [e1, Nat.add_zero] at c9
                    by_cases hfb : fb (gt D.1 j).1 = k
                    · have HX : Hid ((D.1.take (j + 1)).foldl (fndS k) [] = (gt D.1 j).2) := by
                        show _ = _
                        rw [unhide HFT]
                        unfold fndS
                        rw [if_pos ⟨hob, hfb⟩]
                      rw [hfb] at c9
                      clear hob hone hltD hnz y1 y2 hiy HFT h1' ht e1 hiI hfb
                      go_wp2
                      go_roundw
                      case rel => exact ⟨trivial, j + 1, by omega, by go_num, by rw [unhide HX]⟩
                      case measure => simp [intOf]; omega
                    · have HX : Hid ((D.1.take (j + 1)).foldl (fndS k) [] = (D.1.take j).foldl (fndS k) []) := by
                        show _ = _
                        rw [unhide HFT]
                        unfold fndS
                        rw [if_neg (fun e => hfb e.2)]
                      generalize fb (gt D.1 j).1 = f at *
                      have q7 : ((f : Int) == k) = false := by simp; omega
                      have q8 : ¬ (f : Int) = k := by omega
                      clear hob hone hltD hnz y1 y2 hiy HFT h1' ht e1 hiI hfb
                      go_wp2
                      go_roundw
                      case rel => exact ⟨trivial, j + 1, by omega, by go_num, by rw [unhide HX]⟩
                      case measure => simp [intOf]; omega
                · have hjd : j = dl := by omega
                  subst hjd
                  have q4 : ¬ (j : Int) < j := by omega
                  have HF : Hid ((D.1.take j).foldl (fndS k) [] = fnd D.1 k) := by
                    show _ = _
                    rw [List.take_of_length_le (by rw [unhide HDL1]; exact Nat.le_refl _)]
                    rfl
                  rw [unhide HF]
                  have HSN : Hid (sc ((List.range (k + 1)).map (fnd D.1)) = sc ((List.range k).map (fnd D.1)) ++ [.string (bs (fnd D.1 k))]) := by
                    show _ = _
                    rw [List.range_succ, List.map_append]
                    simp [sc]
                  generalize bs (fnd D.1 k) = FB at *
                  go_wp2_with (at_builtin; refine wpList_append_own _ rfl _ _ 41 rfl w3.heap.size 9 s0 _ 1 16 Tryd.undStr hs0 hx0 hx1 hx2 rfl (by decide) _ _ _ rfl ((unhide HO).alloc _) ⟨w4.heap.size, 0, none⟩ 1 1 [.string FB] rfl rfl (news_lit _ [_] _) ?g2 ?g3 ?g4 ?g5 ?_)
                  case g2 => first | rfl | (intro u hu; simp at hu; rw [hu]; rfl)
                  case g3 => unfold maxLen; omega
                  case g4 => omega
                  case g5 => first | omega | (simp; omega)
                  all_goals try rfl
                  intro v' w7 hown7 hgrow7 _
                  obtain ⟨na7, nc7, rfl⟩ := own_shape4 hown7
                  rw [← unhide HSN] at hown7
                  have HB7 := hide ((unhide HB).trans (((Below.refl w3.heap.size _).alloc (by omega) _).grown hgrow7 (by first | omega | (simp; omega)) (fun q hq => ((unhide HO).lt q hq).1)))
                  have HO7 := hide hown7
                  clear hown7 hgrow7
                  go_wp2
                  go_roundw
                  case rel => exact ⟨k + 1, by omega, by go_num, unhide HO7, unhide HB7⟩
                  case measure => simp [intOf]; omega
            · have hkn : k = n := by omega
              subst hkn
              have q3 : ¬ (k : Int) < k := by omega
              have HX : Hid (OwnS w4 w.heap.size (.slice oa k oc) (slv k (kep L k)) ∧ Below w.heap.size w w4) := by
                refine ⟨?_, (unhide B1).trans (((unhide B13).trans ((unhide HB).mono hb3s)).mono hb1s)⟩
                rw [unhide HKD, slv_map]
                show World.ownsRow _ _ _ _ _ _ _
                rw [List.length_map, List.length_range]
                exact own_mono (unhide HO) (by omega)
              clear HO HB
              go_wp2
              go_ret2
              exact .inr ⟨unhide HG, _, rfl, unhide HX⟩
end Go.Proofs.YtpcndjnhpjhjkaaDoor
namespace Go.Proofs.YtpcndjnhpjhjkaaDoor
open Go.RowKit
set_option linter.unusedVariables false
attribute [local go_sem] Oper.semAt_some

set_option maxRecDepth 100000 in
set_option maxHeartbeats 4000000 in
theorem dsolve_no (n size : Int) (E : List Eq2) (a0 : Option Addr) (c : Nat) (hn : -9223372036854775808 ≤ n ∧ n ≤ 9223372036854775807) (h400 : E.length ≤ 400) (hk2 : ∀ x ∈ E, x.1.length ≤ maxLen ∧ x.2.length ≤ 100000) (w : World) (hE : EqnsA w a0 E) (hno : eqB n size E = false) :
    Calls Tryd.prog 22 #[.int .i64 n, .int .i64 size, .slice a0 E.length c] w fun e w' => e = .returned (.tuple #[.slice none 0 0, .int .i64 1]) ∧ Below w.heap.size w w' := by
  obtain ⟨i0, hi0, hz0, hz1, hz2⟩ := info3 Tryd.infoSd
  obtain ⟨r0, hr0, hy0, hy1, hy2⟩ := info3 Tryd.infoQr
  have HMS := hide (fun W => rmay_any size W)
  have q400 : ¬ (400 : Int) < E.length := by omega
  have d400 : decide ((400 : Int) < E.length) = false := decide_eq_false q400
  cases hmy : may size with
  | false =>
    rw [hmy] at HMS
    generalize E.length = M at *
    clear hE hk2 hno hmy
    go_enter Tryd.func22, Tryd.ntmps22
    go_wp2_with fail
    refine (unhide HMS _).mono ?_
    rintro e w0 ⟨rfl, rfl⟩
    go_wp2
    go_ret2
    exact ⟨rfl, Below.refl _ _⟩
  | true =>
  rw [hmy] at HMS
  have HROW := hide hE.at
  have HNO : Hid ((∀ j, j < E.length → ((ge E j).2.length : Int) = size) → mayB n (E.map Prod.fst) = false) := fun hall => by
    unfold eqB at hno
    rw [hmy, Bool.true_and] at hno
    have h1 : E.all (fun x => decide ((x.2.length : Int) = size)) = true := by
      rw [List.all_eq_true]
      intro x hx
      obtain ⟨j, hj, rfl⟩ := List.getElem_of_mem hx
      have := hall j hj
      rw [ge_get E j hj] at this
      exact decide_eq_true this
    rw [h1, Bool.true_and] at hno
    exact hno
  have HMY : Hid (∀ W a d, RowsA W a (E.map Prod.fst) → Calls Tryd.prog 17 #[.int .i64 n, .slice a E.length d] W fun e w' => e = .returned (.bool (mayB n (E.map Prod.fst))) ∧ W = w') := fun W a d hA => by
    have := dmay_any n (E.map Prod.fst) a d hn (by rw [List.length_map]; unfold maxLen; omega) (fun r hr => by
      obtain ⟨x, hx, rfl⟩ := List.mem_map.1 hr
      exact (hk2 x hx).1) W hA
    rwa [List.length_map] at this
  have HRV : Hid (∀ wr v Vs, RwD w E E.length Vs → wr.ownsRow w.heap.size 32 1 v E.length Vs → Below w.heap.size w wr → RowsV wr v (E.map Prod.fst)) := fun wr v Vs h hO hb => h.rows hO hb
  have HML := hide (show (E.map Prod.fst).length = E.length by rw [List.length_map])
  generalize hMY : mayB n (E.map Prod.fst) = MY at *
  generalize E.map Prod.fst = Rs at *
  generalize hM : E.length = M at *
  clear hE hk2 hno hmy hMY hM
  go_enter Tryd.func22, Tryd.ntmps22
  go_wp2_with fail
  refine (unhide HMS _).mono ?_
  rintro e w0 ⟨rfl, rfl⟩
  clear HMS
  go_wp2_with fail
  go_loopw [8, 9, 10] (fun v u x wr => ∃ (k : Nat) (Vs Cs : List Value), k ≤ M ∧ x = .int .i64 k ∧ wr.ownsRow w.heap.size 32 1 v k Vs ∧ RwD w E k Vs ∧ wr.ownsRow w.heap.size 78 2 u k Cs ∧ EqD w E k Cs ∧ Below w.heap.size w wr ∧ ∀ j, j < k → ((ge E j).2.length : Int) = size) (fun _ _ x _ => M - (intOf x).toNat)
  case atStart => exact ⟨0, [], [], by omega, rfl, World.ownsRow_nil _ _ _ _, fun j hj => absurd hj (by omega), World.ownsRow_nil _ _ _ _, fun j hj => absurd hj (by omega), Below.refl _ _, fun j hj => absurd hj (by omega)⟩
  case round =>
    obtain ⟨k, Vs, Cs, hk, rfl, hV, hVD, hO, hC, hB, hall⟩ := hrel
    obtain ⟨av, cv, rfl⟩ := own_shape4 hV
    obtain ⟨ao, cap, rfl⟩ := own_shape4 hO
    have hzw := hB.size
    by_cases hlt : k < M
    · obtain ⟨g, o, rfl, b, cc, c0, c1, hIk⟩ := unhide HROW k hlt
      have d0 := cell_below c0 hB
      have d1 := cell_below c1 hB
      have q1 : (k : Int) < M := by omega
      have hlb : (bs (ge E k).2).size = (ge E k).2.length := bs_size _
      by_cases hszk : ((ge E k).2.length : Int) = size
      · have q2 : ((bs (ge E k).2).size : Int) = size := by rw [hlb]; omega
        have q3 : (((bs (ge E k).2).size : Int) == size) = true := by simp [q2]
        have HVN := hide (hVD.snoc (by have := hV.1; omega) (c := cc) hIk)
        have HCN := hide (hC.snoc (by have := hO.1; omega) (c := cc) hIk)
        have HV := hide hV
        have HO := hide hO
        have HB := hide hB
        have HW0 := hide c0
        have HW1 := hide c1
        have HAN : Hid (∀ j, j < k + 1 → ((ge E j).2.length : Int) = size) := fun j hj => by
          by_cases e : j = k
          · subst e; exact hszk
          · exact hall j (by omega)
        generalize (ge E k).1.length = rl at *
        generalize bs (ge E k).2 = sl at *
        clear hV hVD hO hB hC c0 c1 hIk hlb hszk hall
        go_wp2_with (at_builtin; refine wpList_append_own _ rfl _ _ 22 rfl w.heap.size 32 r0 _ 1 24 Tryd.undQr hr0 hy0 hy1 hy2 rfl (by decide) _ _ _ rfl ((unhide HV).alloc _) ⟨wr.heap.size, 0, none⟩ 1 1 [.slice b rl cc] rfl rfl (news_lit _ [_] _) ?e2 ?e3 ?e4 ?e5 ?_)
        case e2 => first | rfl | (intro u hu; simp at hu; rw [hu]; rfl)
        case e3 => unfold maxLen; omega
        case e4 => omega
        case e5 => first | omega | (simp; omega)
        all_goals try rfl
        intro v' w3 hown3 hgrow3 _
        obtain ⟨av3, cv3, rfl⟩ := own_shape4 hown3
        have hO3 := ((unhide HO).alloc (.cells #[.slice b rl cc] 32)).kept hgrow3 (own_apart ((unhide HO).alloc (.cells #[.slice b rl cc] 32)) ((unhide HV).alloc (.cells #[.slice b rl cc] 32)) (by decide))
        have hB3 := (((unhide HB).alloc (by omega) (.cells #[.slice b rl cc] 32))).grown hgrow3 (by simp; omega) (fun k hk => (((unhide HV).lt k hk).1))
        have HC0 := hide (cell_below (unhide HW0) hB3)
        have HC1 := hide (cell_below (unhide HW1) hB3)
        have HV3 := hide hown3
        have HO3 := hide hO3
        have HB3 := hide hB3
        have hs3 := hB3.size
        clear hown3 hgrow3 hO3 hB3 d0 d1 HV HO HB HW0 HW1
        go_wp2_with fail
        refine wp_region_efg [false, false, false, false, false, false, false, false, false, false, false, false, true, true, true] [0] 12 ?A0 _ _ (by kernel_rfl) (by kernel_rfl) rfl ?lex ?free ?_
        case lex =>
          intro X
          have hneX := gb_ne X.w
          have hcX : ∀ z : Gb X.w, z.w.cell? ⟨g, o + k * 2, none⟩ = _ := fun z => gb_cell (cell_below (unhide HC0) X.ok) z
          have hdX : ∀ z : Gb X.w, z.w.cell? ⟨g, o + k * 2 + 1, none⟩ = _ := fun z => gb_cell (cell_below (unhide HC1) X.ok) z
          dsimp only [restM]
          repeat (go_big_quiet_step (fail))
          refine wpQuiet_nil ?_
          exact rfl
        case free =>
          intro j hj o ho W
          simp only [List.mem_cons, List.not_mem_nil, or_false] at hj
          subst hj
          simp only [List.getElem?_cons_zero, Option.some.injEq] at ho
          subst ho
          go_big_quiet_step (fail)
          refine wpQuiet_nil ?_
          exact rfl
        intro w8 b8
        have HV8 := hide (own_below2 (unhide HV3) b8)
        have HO8 := hide (own_below2 (unhide HO3) b8)
        have HB8 := hide ((unhide HB3).trans (b8.mono hs3))
        have hs8 := (unhide HB8).size
        clear b8 HC0 HC1 HV3 HO3 HB3
        go_wp2_with fail
        refine onlyN ⟨(Below.refl _ _).alloc (Nat.le_refl _) _, ?_⟩
        dsimp only [effM]
        go_wp2_with (at_builtin; refine wpList_append_own _ rfl _ _ 72 rfl w.heap.size 78 i0 _ 2 40 Tryd.undSd hi0 hz0 hz1 hz2 rfl (by decide) _ _ _ rfl ((unhide HO8).alloc _) ⟨w8.heap.size, 0, none⟩ 1 1 [.slice b rl cc, .string sl] rfl rfl (news_lit _ [_, _] _) ?d2 ?d3 ?d4 ?d5 ?_)
        case d2 => intro u hu; simp at hu; rcases hu with rfl | rfl <;> rfl
        case d3 => unfold maxLen; omega
        case d4 => omega
        case d5 => first | omega | (simp; omega)
        all_goals try rfl
        intro v' w4 hown4 hgrow4 _
        have HV4 := hide (((unhide HV8).alloc (.cells #[.slice b rl cc, .string sl] 78)).kept hgrow4 (own_apart ((unhide HV8).alloc (.cells #[.slice b rl cc, .string sl] 78)) ((unhide HO8).alloc (.cells #[.slice b rl cc, .string sl] 78)) (by decide)))
        have HB4 := hide ((((unhide HB8).alloc (by omega) _)).grown hgrow4 (by simp; omega) (fun k hk => (((unhide HO8).lt k hk).1)))
        have HO4 := hide hown4
        obtain ⟨ao', cap', rfl⟩ := own_shape4 hown4
        clear hown4 hgrow4 HV8 HO8
        go_wp2_with fail
        refine onlyN ?_
        go_wp2
        go_roundw
        case rel => exact ⟨k + 1, _, _, by omega, by go_num, unhide HV4, unhide HVN, unhide HO4, unhide HCN, unhide HB4, unhide HAN⟩
        case measure => simp [intOf]; omega
      · have q2 : ¬ ((bs (ge E k).2).size : Int) = size := by rw [hlb]; exact hszk
        have q3 : (((bs (ge E k).2).size : Int) == size) = false := by simpa using q2
        have HB := hide hB
        generalize (ge E k).1.length = rl at *
        generalize bs (ge E k).2 = sl at *
        clear hV hVD hO hB hC c0 c1 hIk hlb hszk hall
        go_wp2
        go_ret2
        exact ⟨rfl, unhide HB⟩
    · have hkm : k = M := by omega
      subst hkm
      have q1 : ¬ (k : Int) < k := by omega
      obtain ⟨ra, rc, re, hra⟩ := unhide HRV wr _ Vs hVD hV hB
      rw [unhide HML] at re
      simp only [Value.slice.injEq, true_and] at re
      obtain ⟨rfl, rfl⟩ := re
      have hmy := unhide HMY wr av cv hra
      rw [unhide HNO hall] at hmy
      have HMY2 := hide hmy
      have HB := hide hB
      clear hV hVD hO hC hB hra hmy hall HRV HMY HROW HNO
      go_wp2_with fail
      refine (unhide HMY2).mono ?_
      rintro e w1 ⟨rfl, rfl⟩
      go_wp2
      go_ret2
      exact ⟨rfl, unhide HB⟩
end Go.Proofs.YtpcndjnhpjhjkaaDoor
namespace Go.Proofs.YtpcndjnhpjhjkaaDoor
open Go.RowKit
set_option linter.unusedVariables false
attribute [local go_sem] Oper.semAt_some

def EqnsOk (E : List Eq2) (c : Nat) : Prop := E.length ≤ c ∧ c ≤ maxLen ∧ ∀ x ∈ E, x.1.length ≤ maxLen ∧ x.2.length ≤ maxLen
/-- an answer of texts of the call's own and an error -/
def TellsT (f : FuncId) (args : Array Value) (W : World) (T : List By) (er : Int) : Prop := Calls Tryd.prog f args W fun e w' => ∃ v, e = .returned (.tuple #[v, .int .i64 er]) ∧ OwnS w' W.heap.size v T ∧ Below W.heap.size W w'
set_option maxRecDepth 100000 in
set_option maxHeartbeats 2000000 in
theorem gaussSolves_off (n size : Int) (M : Nat) (a0 : Option Addr) (c : Nat) (w : World) (hT : Tz w)
    (hf : Calls Tryd.prog 20 #[.int .i64 n, .slice a0 M c] w fun e w' => e = .returned (.bool false) ∧ w = w') :
    Calls Tryd.prog 4 #[.int .i64 n, .int .i64 size, .slice a0 M c] w fun e w' => e = .returned (.bool true) ∧ Below w.heap.size w w' := by
  have hf := hide hf
  have haw := hide (fun W (hb : Below w.heap.size w W) => gawake_any W (hT.below hb))
  clear hT
  go_enter Tryd.func4, Tryd.ntmps4
  go_wp2_with fail
  refine (unhide hf).mono ?_
  rintro e w1 ⟨rfl, rfl⟩
  go_wp2_with fail
  refine (unhide haw _ (Below.refl _ _)).mono ?_
  rintro e w2 ⟨rfl, b2⟩
  have B2 := hide b2
  clear b2
  go_wp2
  go_ret
  exact ⟨rfl, unhide B2⟩
set_option maxRecDepth 100000 in
set_option maxHeartbeats 2000000 in
theorem gaussSolves_core (n size er : Int) (E : List Eq2) (T : List By) (a0 : Option Addr) (c : Nat) (w : World) (hT : Tz w) (hTl : T.length ≤ 100000)
    (hf : Calls Tryd.prog 20 #[.int .i64 n, .slice a0 E.length c] w fun e w' => e = .returned (.bool true) ∧ w = w')
    (h1 : TellsT 21 #[.int .i64 n, .int .i64 size, .slice a0 E.length c] w T er)
    (hr : ∀ W, Below w.heap.size w W → Calls Tryd.prog 23 #[.slice a0 E.length c] W fun e w' => ∃ v, e = .returned v ∧ EqV w' v E ∧ Below W.heap.size W w')
    (h2 : ∀ W a d, EqnsA W a E → TellsT 22 #[.int .i64 n, .int .i64 size, .slice a E.length d] W T er) :
    Calls Tryd.prog 4 #[.int .i64 n, .int .i64 size, .slice a0 E.length c] w fun e w' => e = .returned (.bool true) ∧ Below w.heap.size w w' := by
  have hf := hide hf
  have h1 := hide h1
  have hr := hide hr
  have h2 := hide h2
  have haw := hide (fun W (hb : Below w.heap.size w W) => gawake_any W (hT.below hb))
  have hsm := hide (fun W a b d e (hA : Txts W a T) (hB : Txts W b T) => msame_any W T a b d e hTl hA hB)
  have qe : ((er : Int) == er) = true := by simp
  generalize hM : E.length = M at *
  have HM := hide hM
  generalize hTL : T.length = tl at *
  have HTL := hide hTL
  clear hT hM hTL
  go_enter Tryd.func4, Tryd.ntmps4
  go_wp2_with fail
  refine (unhide hf).mono ?_
  rintro e w1 ⟨rfl, rfl⟩
  go_wp2_with fail
  refine (unhide h1).mono ?_
  rintro e w2 ⟨v2, rfl, hO2, b2⟩
  obtain ⟨a2, c2, rfl, ht2, _⟩ := hO2.txts
  rw [unhide HTL]
  have B2 := hide b2
  have HT2 := hide ht2
  clear b2 hO2 ht2
  go_wp2_with fail
  refine (unhide hr _ (unhide B2)).mono ?_
  rintro e w3 ⟨v3, rfl, ⟨a3, c3, rfl, hE3⟩, b3⟩
  rw [unhide HM]
  have B3 := hide ((unhide B2).trans (b3.mono (unhide B2).size))
  have HT3 := hide ((unhide HT2).below b3)
  have h23 := hide (unhide h2 w3 a3 c3 hE3)
  clear b3 hE3 HT2
  go_wp2_with fail
  refine (unhide h23).mono ?_
  rintro e w4 ⟨v4, rfl, hO4, b4⟩
  obtain ⟨a4, c4, rfl, ht4, _⟩ := hO4.txts
  rw [unhide HTL]
  have B4 := hide ((unhide B3).trans (b4.mono (unhide B3).size))
  have HT4 := hide ((unhide HT3).below b4)
  have HT4' := hide ht4
  clear b4 hO4 ht4 HT3 h23
  go_wp2_with fail
  refine (unhide haw _ (unhide B4)).mono ?_
  rintro e w5 ⟨rfl, b5⟩
  have B5 := hide ((unhide B4).trans (b5.mono (unhide B4).size))
  have hs5 := unhide hsm w5 a2 a4 c2 c4 ((unhide HT4).below b5) ((unhide HT4').below b5)
  have HS5 := hide hs5
  clear b5 hs5 HT4 HT4'
  go_wp2_with fail
  refine (unhide HS5).mono ?_
  rintro e w6 ⟨rfl, b6⟩
  have B6 := hide ((unhide B5).trans (b6.mono (unhide B5).size))
  clear b6
  go_wp2
  go_ret
  exact ⟨rfl, unhide B6⟩
theorem gaussSolves_law (n size : Int) (a0 : Option Addr) (E : List Eq2) (c : Nat) (w : World) (hn : (Lit.int .i64 n).wf = true) (hs : (Lit.int .i64 size).wf = true) (hE : EqnsA w a0 E) (hO : EqnsOk E c) (hT : Tz w) :
    Calls Tryd.prog 4 #[.int .i64 n, .int .i64 size, .slice a0 E.length c] w fun e w' => e = .returned (.bool true) ∧ Below w.heap.size w w' := by
  have hf := fewE_any n E a0 c (Nat.le_trans hO.1 hO.2.1) hO.2.2 w hE
  cases hfe : fewE n E with
  | false =>
    rw [hfe] at hf
    exact gaussSolves_off n size E.length a0 c w hT hf
  | true =>
    rw [hfe] at hf
    have hfe' := hfe
    unfold fewE at hfe'
    simp only [decide_eq_true_eq] at hfe'
    obtain ⟨_, h40, h80⟩ := hfe'
    have hk2 : ∀ x ∈ E, x.1.length ≤ maxLen ∧ x.2.length ≤ 100000 := fun x hx => by
      have := h80 x hx
      unfold maxLen
      omega
    have hr : ∀ W, Below w.heap.size w W → Calls Tryd.prog 23 #[.slice a0 E.length c] W fun e w' => ∃ v, e = .returned v ∧ EqV w' v E ∧ Below W.heap.size W w' := fun W hb => refs_any E a0 c (by omega) W (hE.below hb)
    cases heq : eqB n size E with
    | false =>
      refine gaussSolves_core n size 1 E [] a0 c w hT (by simp) hf ?_ hr ?_
      · exact (solve_no n size E a0 c (wf64 hn) (by omega) hk2 w hE heq).mono (fun e w' ⟨he, hb⟩ => ⟨_, he, World.ownsRow_nil _ _ _ _, hb⟩)
      · exact fun W a d hA => (dsolve_no n size E a d (wf64 hn) (by omega) hk2 W hA heq).mono (fun e w' ⟨he, hb⟩ => ⟨_, he, World.ownsRow_nil _ _ _ _, hb⟩)
    | true =>
      unfold eqB at heq
      rw [Bool.and_eq_true, Bool.and_eq_true] at heq
      obtain ⟨⟨hmy, hall⟩, hmb⟩ := heq
      obtain ⟨m1, m2⟩ := may_iff.1 hmy
      obtain ⟨k, R, rfl, hR⟩ := may_rws hmb
      obtain ⟨m, rfl⟩ : ∃ m : Nat, size = (m : Int) := ⟨size.toNat, by omega⟩
      have hsz : ∀ x ∈ E, x.2.length = m := fun x hx => by
        have := of_decide_eq_true (List.all_eq_true.1 hall x hx)
        omega
      cases hbad : slvBad (eL R E E.length) k m with
      | true =>
        refine gaussSolves_core k m 9 E [] a0 c w hT (by simp) hf ?_ hr ?_
        · refine (solve_yes k m E R hR (by omega) (by omega) hsz a0 c w hE).mono (fun e w' h => ?_)
          rcases h with ⟨_, he, hb⟩ | ⟨h, _⟩
          · exact ⟨_, he, World.ownsRow_nil _ _ _ _, hb⟩
          · rw [hbad] at h; cases h
        · intro W a d hA
          refine (dsolve_yes k m E R hR (by omega) (by omega) hsz a d W hA).mono (fun e w' h => ?_)
          rcases h with ⟨_, he, hb⟩ | ⟨h, _⟩
          · exact ⟨_, he, World.ownsRow_nil _ _ _ _, hb⟩
          · rw [hbad] at h; cases h
      | false =>
        have h160 := hR.n160
        refine gaussSolves_core k m 0 E (slv k (kep (eL R E E.length) k)) a0 c w hT (by rw [slv_map, List.length_map, List.length_range]; omega) hf ?_ hr ?_
        · refine (solve_yes k m E R hR (by omega) (by omega) hsz a0 c w hE).mono (fun e w' h => ?_)
          rcases h with ⟨h, _⟩ | ⟨_, h⟩
          · rw [hbad] at h; cases h
          · exact h
        · intro W a d hA
          refine (dsolve_yes k m E R hR (by omega) (by omega) hsz a d W hA).mono (fun e w' h => ?_)
          rcases h with ⟨h, _⟩ | ⟨_, h⟩
          · rw [hbad] at h; cases h
          · exact h
end Go.Proofs.YtpcndjnhpjhjkaaDoor
namespace Go.Proofs.YtpcndjnhpjhjkaaDoor
open Go.ChangeShapes Go.WideShapes Go.ChangeAt Go.RowKit Go.Deep
set_option linter.unusedVariables false

theorem list2q {α : Type} {l : List α} (h : l.length = 2) : ∃ a b, l = [a, b] := by
  match l, h with
  | [a, b], _ => exact ⟨a, b, rfl⟩
theorem ints_cell {H : Type} {enc : TypeId × Value → H} {P : Program} {W : World} {t e : TypeId} {v : Value} {fuel : Nat} {x : DataW H × List MemPlace}
    (ht : P.underlying t = some (.slice e)) (he : P.underlying e = some (.int .i64)) (hc : P.cellsOf e = 1) (hf : DataW.trod enc P W 0 (fun _ => true) true fuel t [v] = some x) :
    ∃ a0 l cap, v = .slice a0 (List.length (α := Int) l) cap ∧ Ints W a0 l ∧ l.length ≤ maxLen := by
  rcases open_ints ht he hc hf with ⟨hcs, hx⟩ | ⟨a, len, cap, zs, hcs, _, hl, hm, hz, hx, hcell, hwz⟩
  · simp at hcs
    subst hcs
    exact ⟨none, [], 0, rfl, fun i hi => absurd hi (by simp), by simp⟩
  · simp at hcs
    subst hcs
    simp only [if_true] at hz
    have hlen : (zs.take len).length = len := by rw [List.length_take]; omega
    refine ⟨some a, zs.take len, cap, by rw [hlen], fun i hi => ?_, by rw [hlen]; omega⟩
    rw [hlen] at hi
    obtain ⟨b, off, spot⟩ := a
    have hspot : spot = none := by simpa [Addr.add] using World.cell?_spot (hcell 0 (by omega))
    subst hspot
    refine ⟨b, off, rfl, ?_⟩
    rw [← add_plain, hcell i (by omega)]
    have hi2 : i < zs.length := by omega
    have : zs.getD i 0 = zs[i] := by simp [List.getD, hi2]
    rw [this, List.getElem_take]
theorem open_eqns {H : Type} {enc : TypeId × Value → H} {P : Program} {W : World} {r : Reach} {b0 : Nat} {t e q1 : TypeId} {f0 f1 : Field} {v : Value} {d : DataW H} {p : List MemPlace}
    (ht : P.underlying t = some (.slice e)) (he : P.underlying e = some (.struct #[f0, f1])) (t0 : P.underlying f0.type = some (.slice q1)) (t1 : P.underlying q1 = some (.int .i64)) (t2 : P.underlying f1.type = some .string)
    (ce : P.cellsOf e = 2) (c0 : P.cellsOf f0.type = 1) (c1 : P.cellsOf f1.type = 1) (cq : P.cellsOf q1 = 1) (o0 : f0.offset = 0) (o1 : f1.offset = 1)
    (hval : Value.okWide P W r b0 t v) (h : DataW.Trod enc P W 0 (fun _ => true) true t v d p) :
    ∃ a0 E cap, v = .slice a0 (List.length (α := Eq2) E) cap ∧ EqnsA W a0 E ∧ EqnsOk E cap := by
  obtain ⟨a0, len, cap, rfl⟩ := okWide_slice ht hval
  obtain ⟨fuel, hf⟩ := h
  rcases open_slice ht hf with ⟨hcs, hx⟩ | ⟨a, len', cap', m, n, D, Pl, hcs, _, hl, hm, hmm, hx, each⟩
  · simp [Value.cells] at hcs
    obtain ⟨rfl, rfl, rfl⟩ := hcs
    exact ⟨none, [], 0, rfl, fun i hi => absurd hi (by simp), by simp, by unfold maxLen; omega, by simp⟩
  · simp [Value.cells] at hcs
    obtain ⟨rfl, rfl, rfl⟩ := hcs
    simp only [if_true] at hmm
    have one : ∀ i, i < len → ∃ f : Eq2, ∃ b off, some a = some ⟨b, off, none⟩ ∧
        (∃ g cc, W.cell? ⟨b, off + i * 2, none⟩ = some (.slice g f.1.length cc) ∧ W.cell? ⟨b, off + i * 2 + 1, none⟩ = some (.string (bs f.2)) ∧ Ints W g f.1) ∧ f.1.length ≤ maxLen ∧ f.2.length ≤ maxLen := by
      intro i hi
      obtain ⟨cs', h1, h2⟩ := each i (by omega)
      rw [ce] at h1
      obtain ⟨_, hlen, hcell⟩ := World.cells?_some h1
      obtain ⟨y0, y1, k, _, _, g0, g1⟩ := trod_struct2 he h2
      obtain ⟨v0, v1, rfl⟩ := list2q hlen
      simp [o0, o1, c0, c1] at g0 g1
      obtain ⟨ga, gl, gc, e0, hI, hgl⟩ := ints_cell t0 t1 cq g0
      obtain ⟨s1, e1, _, hs1⟩ := DataW.trod_string t2 g1
      obtain ⟨b, off, spot⟩ := a
      have k0 := hcell 0 (by omega)
      have k1 := hcell 1 (by omega)
      rw [add_add] at k0 k1
      have hspot : spot = none := by
        obtain ⟨cs0, u1, u2⟩ := each 0 (by omega)
        rw [ce] at u1
        obtain ⟨_, ulen, ucell⟩ := World.cells?_some u1
        have u0 := ucell 0 (by omega)
        simp [Addr.add] at u0
        rw [List.getElem?_eq_getElem (show 0 < cs0.length by omega)] at u0
        exact World.cell?_spot u0
      subst hspot
      rw [add_plain] at k0 k1
      simp at e1
      subst e0 e1
      refine ⟨(gl, s1.data.toList), b, off, rfl, ⟨ga, gc, by simpa using k0, ?_, hI⟩, hgl, ?_⟩
      · have e9 : bs s1.data.toList = s1 := by cases s1; rfl
        rw [e9]
        simpa [Nat.add_assoc] using k1
      · simpa using hs1
    have hlen : ((List.range len).map fun i => if h : i < len then Classical.choose (one i h) else (([], []) : Eq2)).length = len := by simp
    refine ⟨some a, (List.range len).map (fun i => if h : i < len then Classical.choose (one i h) else (([], []) : Eq2)), cap, by rw [hlen], ?_, by rw [hlen]; exact hl, hm, ?_⟩
    · intro i hi
      have hi' : i < len := by rw [hlen] at hi; exact hi
      obtain ⟨b, off, hb, ⟨g, cc, x1, x2, x3⟩, _⟩ := Classical.choose_spec (one i hi')
      have e9 : ((List.range len).map (fun i => if h : i < len then Classical.choose (one i h) else (([], []) : Eq2)))[i] = Classical.choose (one i hi') := by simp [hi']
      refine ⟨b, off, hb, g, cc, ?_, ?_, ?_⟩
      · rw [e9]; exact x1
      · rw [e9]; exact x2
      · rw [e9]; exact x3
    · intro x hx'
      obtain ⟨i, hi, rfl⟩ := List.mem_map.1 hx'
      have hi' := List.mem_range.1 hi
      rw [dif_pos hi']
      obtain ⟨b, off, hb, _, x4⟩ := Classical.choose_spec (one i hi')
      exact x4
end Go.Proofs.YtpcndjnhpjhjkaaDoor

/- A region that draws its order, walked by an invariant, where an operation may be told to wait for a later one by a ground that does not bind. -/
import Derived.Test.YtlmmincpjflkdaaReg
import Derived.Laws.DeepStrings4
namespace Go.Proofs.Ytlmmincpjflkdaa
open Go.RowKit
set_option linter.unusedVariables false

theorem wpAny_invB {P : Program} {ops : Array Oper} {Q : Exit → Act → World → Prop} (md : Region.Mode) (htop : ∀ (i : Nat) (o : Oper), ops[i]? = some o → ∀ e ∈ o.after, Region.binds md e = true → e.on < i)
    (I : (Nat → Bool) → Act → World → Prop)
    (step : ∀ f a w i o, I f a w → ops[i]? = some o → f i = false → (∀ e ∈ o.after, Region.binds md e = true → f e.on = true) →
      (Region.wanted o (yielded ops a.tmps) = true → o.wp P a w (fun a' w' => I (upd f i) a' w') Q) ∧ (Region.wanted o (yielded ops a.tmps) = false → I (upd f i) (a.put o.dst undef) w))
    (fin : ∀ f a w, I f a w → (∀ i, i < ops.size → f i = true) → Q .normal a w) :
    ∀ (fuel : Nat) (L : Array Bool) (a : Act) (w : World), L.size = ops.size → I (fun i => L.getD i false) a w → (List.range ops.size).countP (fun i => !(L.getD i false)) ≤ fuel → wpAny P md ops Q fuel L a w := by
  have hfin : ∀ (L : Array Bool) (a : Act) (w : World), L.size = ops.size → I (fun i => L.getD i false) a w → Region.ready md ops L = [] → Q .normal a w := by
    intro L a w hsz hI hr
    refine fin _ a w hI ?_
    intro i
    induction i using Nat.strongRecOn with
    | _ i ih =>
      intro hi
      cases hL : L.getD i false with
      | true => rfl
      | false =>
        exfalso
        have hm : i ∈ Region.ready md ops L := by
          unfold Region.ready
          rw [List.mem_filter]
          refine ⟨List.mem_range.2 hi, ?_⟩
          have ho : ops[i]? = some ops[i] := Array.getElem?_eq_getElem hi
          have hLt : L.getD i true = false := by
            have hiL : i < L.size := by omega
            simp [Array.getD, hiL] at hL ⊢
            exact hL
          rw [ho, hLt]
          simp only [Option.map_some, Option.getD_some, Bool.not_false, Bool.true_and, Array.all_eq_true']
          intro e he
          cases hbd : Region.binds md e with
          | false => simp
          | true =>
            have hlt := htop i _ ho e he hbd
            have := ih e.on hlt (by omega)
            rw [this]
            simp
        rw [hr] at hm
        cases hm
  have hmem : ∀ (L : Array Bool) (i : Nat), L.size = ops.size → i ∈ Region.ready md ops L → i < ops.size ∧ L.getD i false = false ∧ ∀ o, ops[i]? = some o → ∀ e ∈ o.after, Region.binds md e = true → L.getD e.on false = true := by
    intro L i hsz hi
    unfold Region.ready at hi
    rw [List.mem_filter] at hi
    obtain ⟨h1, h2⟩ := hi
    have hi' := List.mem_range.1 h1
    have hiL : i < L.size := by omega
    rw [Bool.and_eq_true] at h2
    refine ⟨hi', ?_, ?_⟩
    · have := h2.1
      simp [Array.getD, hiL] at this ⊢
      exact this
    · intro o ho e he hb
      have h3 := h2.2
      rw [ho] at h3
      simp only [Option.map_some, Option.getD_some, Array.all_eq_true'] at h3
      have h4 := h3 e he
      rw [hb] at h4
      simpa using h4
  intro fuel
  induction fuel with
  | zero =>
    intro L a w hsz hI hc
    have hr : Region.ready md ops L = [] := by
      cases hq : Region.ready md ops L with
      | nil => rfl
      | cons i rest =>
        exfalso
        obtain ⟨h1, h2, _⟩ := hmem L i hsz (by rw [hq]; simp)
        have : 0 < (List.range ops.size).countP (fun i => !(L.getD i false)) := List.countP_pos_iff.2 ⟨i, List.mem_range.2 h1, by simp [h2]⟩
        omega
    exact ⟨hr, hfin L a w hsz hI hr⟩
  | succ fuel ih =>
    intro L a w hsz hI hc
    refine ⟨hfin L a w hsz hI, ?_⟩
    intro i hi
    obtain ⟨h1, h2, h3⟩ := hmem L i hsz hi
    have ho : ops[i]? = some ops[i] := Array.getElem?_eq_getElem h1
    have hst := step _ a w i ops[i] hI ho h2 (h3 _ ho)
    have next : ∀ a' w', I (upd (fun i => L.getD i false) i) a' w' → wpAny P md ops Q fuel (L.setIfInBounds i true) a' w' := by
      intro a' w' hI'
      have hg := getD_set L i (by omega)
      refine ih _ a' w' (by simpa using hsz) ?_ ?_
      · rw [hg]; exact hI'
      · have hlt : (List.range ops.size).countP (fun j => !((L.setIfInBounds i true).getD j false)) < (List.range ops.size).countP (fun j => !(L.getD j false)) := by
          refine countP_lt _ _ _ ?_ ⟨i, List.mem_range.2 h1, by simp [h2], ?_⟩
          · intro j _ hj
            have hgj : (L.setIfInBounds i true).getD j false = upd (fun j => L.getD j false) i j := congrFun hg j
            rw [hgj] at hj
            unfold upd at hj
            by_cases e : j = i
            · rw [if_pos e] at hj; simp at hj
            · rw [if_neg e] at hj; exact hj
          · have hgj : (L.setIfInBounds i true).getD i false = upd (fun j => L.getD j false) i i := congrFun hg i
            rw [hgj]
            simp [upd]
        omega
    unfold wpOp
    rw [ho]
    simp only
    by_cases hw : Region.wanted ops[i] (yielded ops a.tmps) = true
    · rw [if_pos hw]
      exact .inl (Oper.wp_mono next (hst.1 hw))
    · rw [if_neg hw]
      exact next _ _ (hst.2 (by simpa using hw))

theorem wp_region_invB {P : Program} {id : Nat} {ops : Array Oper} {Q : Exit → Act → World → Prop} {a : Act} {w : World} (hm : P.follows .mixedOrders = true)
    (htop : ∀ (i : Nat) (o : Oper), ops[i]? = some o → ∀ e ∈ o.after, Region.binds .any e = true → e.on < i)
    (I : (Nat → Bool) → Act → World → Prop) (start : I (fun _ => false) a w.drew)
    (step : ∀ f a w i o, I f a w → ops[i]? = some o → f i = false → (∀ e ∈ o.after, Region.binds .any e = true → f e.on = true) →
      (Region.wanted o (yielded ops a.tmps) = true → o.wp P a w (fun a' w' => I (upd f i) a' w') Q) ∧ (Region.wanted o (yielded ops a.tmps) = false → I (upd f i) (a.put o.dst undef) w))
    (fin : ∀ f a w, I f a w → (∀ i, i < ops.size → f i = true) → Q .normal a w) : (Code.region id ops true).wp P Q a w := by
  refine wp_region_any hm (wpAny_invB .any htop I step fin _ _ a _ (by simp) ?_ ?_)
  · have : (fun i => (Array.replicate ops.size false).getD i false) = fun _ => false := by
      funext i
      by_cases h : i < ops.size <;> simp [Array.getD, h]
    rw [this]
    exact start
  · refine Nat.le_trans List.countP_le_length ?_
    simp

/-- each operation waits for earlier ones alone, but for what does not bind -/
def topOkB (ops : Array Oper) : Bool := (List.range ops.size).all fun i => match ops[i]? with | some o => o.after.all (fun e => !Region.binds .any e || decide (e.on < i)) | none => true
theorem topOkB_spec {ops : Array Oper} (h : topOkB ops = true) : ∀ (i : Nat) (o : Oper), ops[i]? = some o → ∀ e ∈ o.after, Region.binds .any e = true → e.on < i := by
  intro i o ho e he hbd
  have hi : i < ops.size := by
    rcases Nat.lt_or_ge i ops.size with h' | h'
    · exact h'
    · rw [Array.getElem?_eq_none h'] at ho; cases ho
  have := List.all_eq_true.1 h i (List.mem_range.2 hi)
  rw [ho] at this
  simp only [Array.all_eq_true'] at this
  have h2 := this e he
  rw [hbd] at h2
  simpa using h2

theorem wp_region_invB0 {P : Program} {id : Nat} {ops : Array Oper} {Q : Exit → Act → World → Prop} {a : Act} {w : World} (hm : P.follows .mixedOrders = true) (htop : topOkB ops = true) (hng : ops.all (fun o => o.guard.isNone) = true)
    (I : (Nat → Bool) → Act → World → Prop) (start : I (fun _ => false) a w.drew)
    (step : ∀ f a w i o, I f a w → ops[i]? = some o → f i = false → (∀ e ∈ o.after, Region.binds .any e = true → f e.on = true) → o.wp P a w (fun a' w' => I (upd f i) a' w') Q)
    (fin : ∀ f a w, I f a w → (∀ i, i < ops.size → f i = true) → Q .normal a w) : (Code.region id ops true).wp P Q a w := by
  refine wp_region_invB hm (topOkB_spec htop) I start ?_ fin
  intro f a w i o hI ho hf hd
  refine ⟨fun _ => step f a w i o hI ho hf hd, fun hw => ?_⟩
  exfalso
  have hmem : o ∈ ops := Array.mem_of_getElem? ho
  have hn := (Array.all_eq_true'.1 hng) o hmem
  unfold Region.wanted at hw
  cases hg : o.guard with
  | none => rw [hg] at hw; cases hw
  | some x => rw [hg] at hn; cases hn

theorem wp_slice_str {P : Program} {o : Oper} {a : Act} {w : World} {K : Act → World → Prop} {Q : Exit → Act → World → Prop} (t : TypeId) (x lo hi : Operand) (ho : o.op = .slice t x (some lo) (some hi) none) (s : ByteArray) (i j : Nat) (jj : Int) (hjj : jj = j)
    (hx : a.eval x = .string s) (hlo : a.eval lo = .int .i64 i) (hhi : a.eval hi = .int .i64 jj) (ht : P.underlying t = some .string) (hij : i ≤ j) (hj : j ≤ s.size) (h : K (a.put o.dst (.string (s.extract i j))) w) : o.wp P a w K Q := by
  refine wp_val _ ?_ h
  subst hjj
  simp [execOp, ho, hx, hlo, hhi, run_sliceAt_string w t _ _ _ _ ht, run_slice_string_if w t s .i64 .i64 i j ht, hij, hj]
theorem wp_extract {P : Program} {o : Oper} {a : Act} {w : World} {K : Act → World → Prop} {Q : Exit → Act → World → Prop} (x : Operand) (k : Nat) (ho : o.op = .extract x k) (vs : Array Value) (v : Value)
    (hx : a.eval x = .tuple vs) (hv : vs[k]? = some v) (h : K (a.put o.dst v) w) : o.wp P a w K Q := by
  refine wp_val _ ?_ h
  simp [execOp, ho, hx, Instr.extract, hv]
theorem wp_add64 {P : Program} {o : Oper} {a : Act} {w : World} {K : Act → World → Prop} {Q : Exit → Act → World → Prop} (t t' : TypeId) (x y : Operand) (ho : o.op = .binOp .add t x y t') (ht : P.underlying t = some (.int .i64)) (m n : Int)
    (hx : a.eval x = .int .i64 m) (hy : a.eval y = .int .i64 n) (h0 : -9223372036854775808 ≤ m + n) (h1 : m + n ≤ 9223372036854775807) (h : K (a.put o.dst (.int .i64 (m + n))) w) : o.wp P a w K Q := by
  refine wp_val _ ?_ h
  have hw : IntKind.i64.wrap (m + n) = m + n := IntWalk.i64_in _ ⟨h0, h1⟩
  simp only [execOp, ho, hx, hy]
  go_simp
  try rw [hw]

end Go.Proofs.Ytlmmincpjflkdaa

/- A region that draws its order: a beginning whose operations read, or call what makes new memory alone, walked once; then a chain, each operation of which waits for all ahead of it, walked as it stands. -/
import Derived.Test.YtlmmincpjflkdaaGr
namespace Go.Proofs.Ytlmmincpjflkdaa
open Go.RowKit
set_option linter.unusedVariables false

section
variable {P : Program} {Q : Exit → Act → World → Prop}

/-- from place k on each operation waits for all ahead of it; each waits for earlier ones alone; guards look back -/
def chainOk (ops : Array Oper) (k : Nat) : Bool :=
  (List.range ops.size).all fun i => match ops[i]? with
    | some o => o.after.all (fun e => !Region.binds .any e || decide (e.on < i)) && (decide (i < k) || (List.range i).all fun j => o.after.any fun e => e.on == j && Region.binds .any e) && (match o.guard with | some (j, _) => decide (j < i) | none => true)
    | none => true
structure ChainOk (ops : Array Oper) (k : Nat) : Prop where
  top : ∀ (i : Nat) (o : Oper), ops[i]? = some o → ∀ e ∈ o.after, Region.binds .any e = true → e.on < i
  chain : ∀ (i : Nat) (o : Oper), ops[i]? = some o → k ≤ i → ∀ j, j < i → ∃ e ∈ o.after, e.on = j ∧ Region.binds .any e = true
  guard : ∀ (i : Nat) (o : Oper) (j : Nat) (b : Bool), ops[i]? = some o → o.guard = some (j, b) → j < i
theorem chainOk_spec {ops : Array Oper} {k : Nat} (h : chainOk ops k = true) : ChainOk ops k := by
  have key : ∀ (i : Nat) (o : Oper), ops[i]? = some o → o.after.all (fun e => !Region.binds .any e || decide (e.on < i)) = true ∧ (decide (i < k) || (List.range i).all fun j => o.after.any fun e => e.on == j && Region.binds .any e) = true ∧ (match o.guard with | some (j, _) => decide (j < i) | none => true) = true := by
    intro i o ho
    have hi : i < ops.size := by
      rcases Nat.lt_or_ge i ops.size with h' | h'
      · exact h'
      · rw [Array.getElem?_eq_none h'] at ho; cases ho
    have := List.all_eq_true.1 h i (List.mem_range.2 hi)
    rw [ho] at this
    simp only [Bool.and_eq_true] at this
    exact ⟨this.1.1, this.1.2, this.2⟩
  refine ⟨?_, ?_, ?_⟩
  · intro i o ho e he hb
    have h1 := (Array.all_eq_true'.1 (key i o ho).1) e he
    rw [hb] at h1
    simpa using h1
  · intro i o ho hk j hj
    have h1 := (key i o ho).2.1
    rw [Bool.or_eq_true] at h1
    rcases h1 with h1 | h1
    · have := of_decide_eq_true h1; omega
    · have h2 := List.all_eq_true.1 h1 j (List.mem_range.2 hj)
      rw [Array.any_eq_true'] at h2
      obtain ⟨e, he, h3⟩ := h2
      rw [Bool.and_eq_true, beq_iff_eq] at h3
      exact ⟨e, he, h3.1, h3.2⟩
  · intro i o j b ho hg
    have h1 := (key i o ho).2.2
    rw [hg] at h1
    exact of_decide_eq_true h1

theorem mem_ready' {md : Region.Mode} {ops : Array Oper} {L : Array Bool} {i : Nat} : i ∈ Region.ready md ops L ↔ i < ops.size ∧ L.getD i true = false ∧ ∃ o, ops[i]? = some o ∧ ∀ e ∈ o.after, Region.binds md e = true → L.getD e.on false = true := by
  unfold Region.ready
  rw [List.mem_filter, List.mem_range, Bool.and_eq_true, Bool.not_eq_true']
  constructor
  · rintro ⟨h1, h2, h3⟩
    refine ⟨h1, h2, ops[i], Array.getElem?_eq_getElem h1, ?_⟩
    rw [Array.getElem?_eq_getElem h1] at h3
    simp only [Option.map_some, Option.getD_some, Array.all_eq_true'] at h3
    intro e he hb
    have := h3 e he
    rw [hb] at this
    simpa using this
  · rintro ⟨h1, h2, o, ho, h3⟩
    refine ⟨h1, h2, ?_⟩
    rw [ho]
    simp only [Option.map_some, Option.getD_some, Array.all_eq_true']
    intro e he
    cases hb : Region.binds md e
    · rfl
    · rw [h3 e he hb]; rfl
theorem getD_other (L : Array Bool) (i j : Nat) (d : Bool) (e : i ≠ j) : (L.setIfInBounds i true).getD j d = L.getD j d := by
  simp [Array.getD_eq_getD_getElem?, Array.getElem?_setIfInBounds_ne e]

/-- the chain, walked as it stands -/
theorem wpAny_chain {ops : Array Oper} {k : Nat} (hc : ChainOk ops k) : ∀ (r m : Nat) (fuel : Nat) (L : Array Bool) (a : Act) (w : World), k ≤ m → m + r = ops.size → r ≤ fuel → L.size = ops.size →
    (∀ i, i < ops.size → L.getD i true = decide (i < m)) → wpList P ops Q (ops.toList.drop m) a w → wpAny P .any ops Q fuel L a w := by
  have gd : ∀ (L : Array Bool) (i : Nat), i < L.size → L.getD i false = L.getD i true := fun L i h => by simp [Array.getD, h]
  intro r
  induction r with
  | zero =>
    intro m fuel L a w hk hm hf hL hl h
    have hr : Region.ready .any ops L = [] := by
      refine List.eq_nil_iff_forall_not_mem.2 fun i hi => ?_
      obtain ⟨h1, h2, _⟩ := mem_ready'.1 hi
      rw [hl i h1] at h2
      have := of_decide_eq_false h2
      omega
    have hd : ops.toList.drop m = [] := List.drop_eq_nil_of_le (by simp; omega)
    rw [hd] at h
    cases fuel with
    | zero => exact ⟨hr, h⟩
    | succ f => exact ⟨fun _ => h, fun i hi => by rw [hr] at hi; cases hi⟩
  | succ r ih =>
    intro m fuel L a w hk hm hf hL hl h
    obtain ⟨f, rfl⟩ : ∃ f, fuel = f + 1 := ⟨fuel - 1, by omega⟩
    have hmlt : m < ops.size := by omega
    have ho : ops[m]? = some ops[m] := Array.getElem?_eq_getElem hmlt
    have hmem : m ∈ Region.ready .any ops L := by
      refine mem_ready'.2 ⟨hmlt, by rw [hl m hmlt]; simp, _, ho, fun e he hb => ?_⟩
      have := hc.top m _ ho e he hb
      rw [gd L e.on (by omega), hl e.on (by omega)]
      simpa using this
    refine ⟨fun hr => (by rw [hr] at hmem; cases hmem), fun i hi => ?_⟩
    obtain ⟨h1, h2, o, ho', h3⟩ := mem_ready'.1 hi
    rw [hl i h1] at h2
    have him := of_decide_eq_false h2
    have : i = m := by
      rcases Nat.lt_or_ge m i with h4 | h4
      · exfalso
        obtain ⟨e, he, hj, hb⟩ := hc.chain i o ho' (by omega) m h4
        have h5 := h3 e he hb
        rw [hj, gd L m (by omega), hl m hmlt] at h5
        simp at h5
      · omega
    subst this
    have hdr : ops.toList.drop i = ops[i] :: ops.toList.drop (i + 1) := by
      rw [List.drop_eq_getElem_cons (by simpa using hmlt)]
      simp
    rw [hdr] at h
    unfold wpOp
    rw [ho]
    unfold wpList at h
    have next : ∀ a' w', wpList P ops Q (ops.toList.drop (i + 1)) a' w' → wpAny P .any ops Q f (L.setIfInBounds i true) a' w' := by
      intro a' w' h'
      refine ih (i + 1) f _ a' w' (by omega) (by omega) (by omega) (by simpa using hL) (fun j hj => ?_) h'
      by_cases e : i = j
      · subst e
        have : i < L.size := by omega
        simp [Array.getD, this]
      · have e2 : (L.setIfInBounds i true).getD j true = L.getD j true := getD_other _ _ _ _ e
        rw [e2, hl j hj]
        congr 1
        rw [eq_iff_iff]
        omega
    by_cases hw : Region.wanted ops[i] (yielded ops a.tmps) = true
    · rw [if_pos hw] at h
      simp only
      rw [if_pos hw]
      exact h.imp (Oper.wp_mono next) id
    · rw [if_neg hw] at h
      simp only
      rw [if_neg hw]
      exact next _ _ h

variable {C : World → Prop}
/-- the beginning, walked once; behind it the chain -/
theorem wpAny_front {ops pre : Array Oper} {k : Nat} (hc : ChainOk ops k) (hk : k ≤ ops.size) (hp : ∀ i, i < k → pre[i]? = ops[i]?) (hps : pre.size = k) :
    ∀ (fuel : Nat) (L M : Array Bool) (a : Act) (w : World), L.size = k → M.size = ops.size → (∀ i, i < k → M.getD i true = L.getD i true) → (∀ i, k ≤ i → i < ops.size → M.getD i true = false) → C w →
    wpAnyQ P .any pre C (fun a' => ∀ w', C w' → wpList P ops Q (ops.toList.drop k) a' w') fuel L a → wpAny P .any ops Q (fuel + (ops.size - k)) M a w := by
  have gd : ∀ (L : Array Bool) (i : Nat), i < L.size → L.getD i false = L.getD i true := fun L i h => by simp [Array.getD, h]
  have hbr : ∀ (L M : Array Bool), L.size = k → M.size = ops.size → (∀ i, i < k → M.getD i true = L.getD i true) → ∀ i, i < k → (i ∈ Region.ready .any ops M ↔ i ∈ Region.ready .any pre L) := by
    intro L M hL hM hl i hi
    rw [mem_ready', mem_ready', hl i hi, hp i hi, hps]
    constructor
    · rintro ⟨h1, h2, o, ho, h3⟩
      refine ⟨hi, h2, o, ho, fun e he hb => ?_⟩
      have := hc.top i o ho e he hb
      rw [gd L _ (by omega), ← hl _ (by omega), ← gd M _ (by omega)]
      exact h3 e he hb
    · rintro ⟨h1, h2, o, ho, h3⟩
      refine ⟨by omega, h2, o, ho, fun e he hb => ?_⟩
      have := hc.top i o ho e he hb
      rw [gd M _ (by omega), hl _ (by omega), ← gd L _ (by omega)]
      exact h3 e he hb
  have hall : ∀ (L : Array Bool), L.size = k → Region.ready .any pre L = [] → ∀ i, i < k → L.getD i true = true := by
    intro L hL hr i
    induction i using Nat.strongRecOn with
    | _ i ih =>
      intro hi
      cases hv : L.getD i true with
      | true => rfl
      | false =>
        exfalso
        have ho : ops[i]? = some ops[i] := Array.getElem?_eq_getElem (by omega)
        have : i ∈ Region.ready .any pre L := mem_ready'.2 ⟨by omega, hv, _, (hp i hi).trans ho, fun e he hb => by
          have h4 := hc.top i _ ho e he hb
          rw [gd L _ (by omega)]
          exact ih e.on h4 (by omega)⟩
        rw [hr] at this
        cases this
  have hdone : ∀ (fuel : Nat) (L M : Array Bool) (a : Act) (w : World), L.size = k → M.size = ops.size → (∀ i, i < k → M.getD i true = L.getD i true) → (∀ i, k ≤ i → i < ops.size → M.getD i true = false) → C w → Region.ready .any pre L = [] →
      (∀ w', C w' → wpList P ops Q (ops.toList.drop k) a w') → wpAny P .any ops Q (fuel + (ops.size - k)) M a w := by
    intro fuel L M a w hL hM hl ht hC hr h
    refine wpAny_chain hc (ops.size - k) k _ M a w (Nat.le_refl _) (by omega) (by omega) hM (fun i hi => ?_) (h w hC)
    by_cases hik : i < k
    · rw [hl i hik, hall L hL hr i hik]; simp [hik]
    · rw [ht i (by omega) hi]; simp [hik]
  intro fuel
  induction fuel with
  | zero =>
    intro L M a w hL hM hl ht hC h
    exact hdone 0 L M a w hL hM hl ht hC h.1 h.2
  | succ fuel ih =>
    intro L M a w hL hM hl ht hC h
    by_cases hr : Region.ready .any pre L = []
    · exact hdone _ L M a w hL hM hl ht hC hr (h.1 hr)
    · obtain ⟨i0, hi0⟩ := List.exists_mem_of_ne_nil _ hr
      have hi0k : i0 < k := by have := (mem_ready'.1 hi0).1; omega
      rw [show fuel + 1 + (ops.size - k) = (fuel + (ops.size - k)) + 1 by omega]
      refine ⟨fun h0 => ?_, fun i hi => ?_⟩
      · exfalso
        have := (hbr L M hL hM hl i0 hi0k).2 hi0
        rw [h0] at this
        cases this
      · have hik : i < k := by
          rcases Nat.lt_or_ge i k with h' | h'
          · exact h'
          · exfalso
            obtain ⟨h1, h2, o, ho, h3⟩ := mem_ready'.1 hi
            obtain ⟨e, he, hj, hb⟩ := hc.chain i o ho h' i0 (by omega)
            have h5 := h3 e he hb
            rw [hj, gd M _ (by omega), hl i0 hi0k, (mem_ready'.1 hi0).2.1] at h5
            cases h5
        have hq := h.2 i ((hbr L M hL hM hl i hik).1 hi)
        have ho : ops[i]? = some ops[i] := Array.getElem?_eq_getElem (by omega)
        have hwn : Region.wanted ops[i] (yielded pre a.tmps) = Region.wanted ops[i] (yielded ops a.tmps) := by
          unfold Region.wanted
          cases hg : ops[i].guard with
          | none => rfl
          | some x =>
            obtain ⟨j, b⟩ := x
            have hj := hc.guard i _ j b ho hg
            simp only
            unfold yielded
            rw [hp j (by omega)]
        unfold qOp at hq
        rw [hp i hik, ho] at hq
        simp only at hq
        rw [hwn] at hq
        unfold wpOp
        rw [ho]
        simp only
        have next : ∀ a' w', C w' → wpAnyQ P .any pre C (fun a' => ∀ w', C w' → wpList P ops Q (ops.toList.drop k) a' w') fuel (L.setIfInBounds i true) a' → wpAny P .any ops Q (fuel + (ops.size - k)) (M.setIfInBounds i true) a' w' := by
          intro a' w' hC' h'
          refine ih _ _ a' w' (by simpa using hL) (by simpa using hM) (fun j hj => ?_) (fun j hj1 hj2 => ?_) hC' h'
          · by_cases e : i = j
            · subst e
              have h1 : i < L.size := by omega
              have h2 : i < M.size := by omega
              simp [Array.getD, h1, h2]
            · have e1 : (L.setIfInBounds i true).getD j true = L.getD j true := getD_other _ _ _ _ e
              have e2 : (M.setIfInBounds i true).getD j true = M.getD j true := getD_other _ _ _ _ e
              rw [e1, e2, hl j hj]
          · have e : i ≠ j := by omega
            have e2 : (M.setIfInBounds i true).getD j true = M.getD j true := getD_other _ _ _ _ e
            rw [e2, ht j hj1 hj2]
        by_cases hw : Region.wanted ops[i] (yielded ops a.tmps) = true
        · rw [if_pos hw] at hq ⊢
          exact .inl (Oper.wp_of_quiet hC next hq)
        · rw [if_neg hw] at hq ⊢
          exact next _ _ hC hq
end

theorem wp_region_tail {P : Program} {id : Nat} {Q : Exit → Act → World → Prop} {a : Act} {w : World} {l : List Oper} (k : Nat) (R : World → Prop) (hm : P.follows .mixedOrders = true) (hk : k ≤ l.length) (hc : chainOk l.toArray k = true) (hB : Region.lexB .any (l.take k).toArray = true) (hR : R w.drew)
    (h : wpQuiet P (l.take k).toArray (fun w' => ∃ x : Gr R, w' = x.w) (fun a' => ∀ w', (∃ x : Gr R, w' = x.w) → wpList P l.toArray Q (l.drop k) a' w') (l.take k) a) : (Code.region id l.toArray true).wp P Q a w := by
  simp only [Region.lexB, Bool.and_eq_true] at hB
  have hlen : (l.take k).length = k := by rw [List.length_take]; omega
  refine wp_region_any hm ?_
  have h1 := wpAnyQ_lex (C := fun w' => ∃ x : Gr R, w' = x.w) (md := .any) hB.1 (l.take k) 0 (Array.replicate k false) a (by simp) (by have := hB.2; simpa [hlen] using this) h
  have gr : ∀ n i, i < n → (Array.replicate n false).getD i true = false := fun n i hi => by simp [Array.getD, hi]
  have hsz : l.toArray.size = l.length := by simp
  have h2 := wpAny_front (P := P) (Q := Q) (C := fun w' => ∃ x : Gr R, w' = x.w) (ops := l.toArray) (pre := (l.take k).toArray) (k := k) (chainOk_spec hc) (by rw [hsz]; exact hk) (fun i hi => by simp [hi]) (by rw [List.size_toArray]; exact hlen)
    (l.take k).length (Array.replicate k false) (Array.replicate l.toArray.size false) a w.drew (by simp) (by simp) (fun i hi => by rw [gr _ _ hi, gr _ _ (by rw [hsz]; omega)]) (fun i _ hi => gr _ _ hi) ⟨⟨w.drew, hR⟩, rfl⟩ (by simpa using h1)
  have e : (l.take k).length + (l.toArray.size - k) = l.toArray.size := by rw [hlen]; simp; omega
  rw [e] at h2
  exact h2

theorem wp_region_tailB {P : Program} {id : Nat} {Q : Exit → Act → World → Prop} {a : Act} {w : World} {l : List Oper} (k : Nat) (hm : P.follows .mixedOrders = true) (hk : k ≤ l.length) (hc : chainOk l.toArray k = true) (hB : Region.lexB .any (l.take k).toArray = true)
    (h : wpQuiet P (l.take k).toArray (fun w' => ∃ x : Gb w, w' = x.w) (fun a' => ∀ w', (∃ x : Gb w, w' = x.w) → wpList P l.toArray Q (l.drop k) a' w') (l.take k) a) : (Code.region id l.toArray true).wp P Q a w :=
  wp_region_tail k _ hm hk hc hB (gb_start w) h
theorem wp_region_grB {P : Program} {id : Nat} {Q : Exit → Act → World → Prop} {a : Act} {w : World} {l : List Oper} (hm : P.follows .mixedOrders = true) (hB : Region.lexB .any l.toArray = true)
    (h : wpQuiet P l.toArray (fun w' => ∃ x : Gb w, w' = x.w) (fun a' => ∀ w', (∃ x : Gb w, w' = x.w) → Q .normal a' w') l a) : (Code.region id l.toArray true).wp P Q a w :=
  wp_region_gr _ hm hB (gb_start w) h

end Go.Proofs.Ytlmmincpjflkdaa

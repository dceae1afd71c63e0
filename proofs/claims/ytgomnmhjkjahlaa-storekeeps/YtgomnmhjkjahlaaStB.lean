/- store: entries as values, what the map of entries reads as, its laws at the operations. -/
import Derived.Test.YtgomnmhjkjahlaaStA
namespace Go.Proofs.Ytgomnmhjkjahlaa
open Go.RowKit
set_option linter.unusedVariables false
attribute [local go_sem] Oper.semAt_some

/-- an entry as it lies in memory -/
structure Raw where
  id : Int
  peer : Int
  mode : Int
  seed : Int
  hv : ByteArray
  a0 : Option Addr
  idx : List Int
  cap : Nat
  dt : ByteArray
abbrev rawV (r : Raw) : Value := .agg #[.int .i64 r.id, .int .i64 r.peer, .int .i64 r.mode, .int .i64 r.seed, .string r.hv, .slice r.a0 r.idx.length r.cap, .string r.dt]
/-- an element of the map reads as itself -/
def stR (v : Value) : Option (DataW Value × List MemPlace) := some (.held v, [])
abbrev kI (k : Int) : Lit := .int .i64 k
/-- what the map reads as -/
structure MapIs (D : DataW Value) (rs : List Raw) : Prop where
  tidy : Maps.Tidy D
  hs : ∀ k : Int, Maps.has D (kI k) = rs.any fun r => decide (r.id = k)
  el : ∀ r ∈ rs, ∀ z, D.atKey (kI r.id) z = .held (rawV r)
  size : Maps.size D = rs.length
theorem MapIs.nil : MapIs (.map []) [] := ⟨Maps.tidy_empty, fun k => rfl, fun r h => absurd h (by simp), rfl⟩
theorem kI_ne {a b : Int} (h : a ≠ b) : kI a ≠ kI b := fun e => h (by cases e; rfl)
theorem MapIs.put {D : DataW Value} {rs : List Raw} (h : MapIs D rs) (r : Raw) (hn : ∀ x ∈ rs, x.id ≠ r.id) : MapIs (D.put (kI r.id) (.held (rawV r))) (rs ++ [r]) := by
  have hk : WideAt.IsKeyLit (kI r.id) := trivial
  have h0 : Maps.has D (kI r.id) = false := by
    rw [h.hs, List.any_eq_false]
    intro x hx
    simp [hn x hx]
  refine ⟨h.tidy.put hk _, fun k => ?_, fun x hx z => ?_, ?_⟩
  · by_cases e : k = r.id
    · subst e
      rw [Maps.has_put_same h.tidy.isMap hk]
      simp
    · rw [Maps.has_put_other (kI_ne e), h.hs, List.any_append]
      have : decide (r.id = k) = false := decide_eq_false (fun h => e h.symm)
      simp [this]
  · rw [List.mem_append] at hx
    rcases hx with hx | hx
    · rw [Maps.atKey_put_other (kI_ne (hn x hx)), h.el x hx]
    · simp at hx
      subst hx
      rw [Maps.atKey_put_same h.tidy.isMap hk]
  · rw [Maps.size_put h.tidy, h0, List.length_append, h.size]
    simp
theorem filter_one_less (rs : List Raw) (hp : rs.Pairwise fun a b => a.id < b.id) (k : Int) : (rs.filter fun r => decide (r.id ≠ k)).length + (if rs.any (fun r => decide (r.id = k)) then 1 else 0) = rs.length := by
  induction rs with
  | nil => simp
  | cons a l ih =>
    rw [List.pairwise_cons] at hp
    have ih := ih hp.2
    by_cases e : a.id = k
    · have h1 : l.any (fun r => decide (r.id = k)) = false := by
        rw [List.any_eq_false]
        intro x hx
        have := hp.1 x hx
        simp
        omega
      rw [h1] at ih
      simp [e] at ih ⊢
      omega
    · simp [e] at ih ⊢
      omega
theorem MapIs.del {D : DataW Value} {rs : List Raw} (h : MapIs D rs) (hp : rs.Pairwise fun a b => a.id < b.id) (k : Int) : MapIs (D.del (kI k)) (rs.filter fun r => decide (r.id ≠ k)) := by
  refine ⟨h.tidy.del _, fun j => ?_, fun x hx z => ?_, ?_⟩
  · by_cases e : j = k
    · subst e
      rw [Maps.has_del_same]
      symm
      rw [List.any_eq_false]
      intro x hx
      rw [List.mem_filter] at hx
      simpa using hx.2
    · rw [Maps.has_del_other (kI_ne e), h.hs]
      rw [Bool.eq_iff_iff, List.any_eq_true, List.any_eq_true]
      constructor
      · rintro ⟨x, hx, hxj⟩
        simp at hxj
        exact ⟨x, by rw [List.mem_filter]; exact ⟨hx, by simp; omega⟩, by simp [hxj]⟩
      · rintro ⟨x, hx, hxj⟩
        rw [List.mem_filter] at hx
        exact ⟨x, hx.1, hxj⟩
  · rw [List.mem_filter] at hx
    have hne : x.id ≠ k := by simpa using hx.2
    rw [Maps.atKey_del_other (kI_ne hne), h.el x hx.1]
  · have h1 := Maps.size_del (k := kI k) h.tidy
    have h2 := filter_one_less rs hp k
    rw [h.hs, h.size] at h1
    omega
theorem keyed : Maps.Keyed Try.prog 3 := Maps.int_keyed Try.underlying3
theorem keyOf_k {k : Int} (h : (Lit.int .i64 k).wf = true) : keyOf Try.prog 3 (.int .i64 k) = some (kI k) := Maps.keyOf_int_mk Try.underlying3 h
abbrev StMap (w : World) (b n : Nat) (D : DataW Value) : Prop := w.ownsMap Try.prog 3 stR b n D
abbrev StRg (w : World) (b r n : Nat) (D : DataW Value) (left : Lit → Bool) (cnt : Nat) : Prop := w.ranges Try.prog 3 stR b r n D left cnt
section
variable (w : World) {ops : Array Oper} {rest : List Oper} {o : Oper} {a : Act} {Q : Exit → Act → World → Prop}
/-- the step of a range over the map of entries -/
theorem wpList_next_st (hg : o.guard = none) (it : Operand) (hop : o.op = Op.next it false) (b r n : Nat) (D : DataW Value) (rs : List Raw) (hD : MapIs D rs) (left : Lit → Bool) (cnt : Nat)
    (hit : a.eval it = .pointer (some ⟨r, 0, none⟩)) (h : StRg w b r n D left cnt)
    (hDone : cnt = 0 → (∀ kl, left kl = false) → wpList Try.prog ops Q rest (a.put o.dst (.tuple #[.bool false])) w)
    (hMore : ∀ (x : Raw) (w' : World) (cnt' : Nat), x ∈ rs → left (kI x.id) = true → StRg w' b r n D (fun z => left z && !z.sameKey (kI x.id)) cnt' → cnt' < cnt →
      w.grownBy w' (some r) → w'.heap.size = w.heap.size → (Instr.entry (.pointer (some ⟨r, 0, none⟩))).run Try.prog w' = .ok (.tuple #[.int .i64 x.id, rawV x]) w' → wpList Try.prog ops Q rest (a.put o.dst (.tuple #[.bool true, .int .i64 x.id, rawV x])) w') :
    wpList Try.prog ops Q (o :: rest) a w := by
  refine wpList_next_ranges w hg it hop 3 keyed stR (Value.int .i64) (fun v : Value => v) (fun key kl hk => ?_) (fun v y _ => ⟨v, rfl⟩) b r n D left cnt hit h hDone ?_
  · obtain ⟨x, rfl, _⟩ := Maps.keyOf_int_inv Try.underlying3 hk
    exact ⟨x, rfl⟩
  · intro k v kl y w' cnt' hk hl hv hat hrg hlt hgr hsz hen
    obtain ⟨k', e1, rfl, _⟩ := Maps.keyOf_int_inv Try.underlying3 hk
    simp only [Value.int.injEq, true_and] at e1
    subst e1
    have h1 := Maps.has_true_of_atKey hat
    rw [hD.hs, List.any_eq_true] at h1
    obtain ⟨x, hx, hxk⟩ := h1
    simp at hxk
    subst hxk
    simp only [stR, Option.some.injEq] at hv
    subst hv
    have h2 := hat .nil
    rw [hD.el x hx] at h2
    simp only [DataW.held.injEq] at h2
    subst h2
    exact hMore x w' cnt' hx hl hrg hlt hgr hsz hen
/-- 'x, is := m[k]' -/
theorem wpList_look_st (hg : o.guard = none) (m x : Operand) (hop : o.op = Op.lookup 67 m x true) (b n : Nat) (D : DataW Value) (rs : List Raw) (hD : MapIs D rs) (hm : a.eval m = .map (some b)) (hown : StMap w b n D) (k : Int) (hx : a.eval x = .int .i64 k) (hk : (Lit.int .i64 k).wf = true)
    (hno : (∀ r ∈ rs, r.id ≠ k) → wpList Try.prog ops Q rest (a.put o.dst (.tuple #[.agg #[.int .i64 0, .int .i64 0, .int .i64 0, .int .i64 0, .string ⟨#[]⟩, .slice none 0 0, .string ⟨#[]⟩], .bool false])) w)
    (hyes : ∀ r ∈ rs, r.id = k → wpList Try.prog ops Q rest (a.put o.dst (.tuple #[rawV r, .bool true])) w) :
    wpList Try.prog ops Q (o :: rest) a w := by
  have hz : (zeroValue 34).run Try.prog w = .ok (.agg #[.int .i64 0, .int .i64 0, .int .i64 0, .int .i64 0, .string ⟨#[]⟩, .slice none 0 0, .string ⟨#[]⟩]) w := by kernel_rfl
  refine wpList_lookup_own_ok w hg m x 67 hop 3 34 keyed Try.underlying67 stR hz _ [] rfl b n D hm hown _ (kI k) hx (keyOf_k hk) ?_
  intro v ps hv
  simp only [stR, Option.some.injEq, Prod.mk.injEq] at hv
  by_cases hh : ∃ r ∈ rs, r.id = k
  · obtain ⟨r, hr, rfl⟩ := hh
    rw [hD.el r hr] at hv
    simp only [DataW.held.injEq] at hv
    obtain ⟨rfl, _⟩ := hv
    have : Maps.has D (kI r.id) = true := by rw [hD.hs, List.any_eq_true]; exact ⟨r, hr, by simp⟩
    rw [this]
    exact hyes r hr rfl
  · have h0 : Maps.has D (kI k) = false := by
      rw [hD.hs, List.any_eq_false]
      intro r hr
      simp
      exact fun e => hh ⟨r, hr, e⟩
    rw [h0]
    rw [Maps.atKey_of_not_has h0] at hv
    simp only [DataW.held.injEq] at hv
    obtain ⟨rfl, _⟩ := hv
    exact hno (fun r hr e => hh ⟨r, hr, e⟩)
/-- 'm[k]' of one that is there -/
theorem wpList_look1_st (hg : o.guard = none) (m x : Operand) (hop : o.op = Op.lookup 67 m x false) (b n : Nat) (D : DataW Value) (rs : List Raw) (hD : MapIs D rs) (hm : a.eval m = .map (some b)) (hown : StMap w b n D) (r : Raw) (hr : r ∈ rs) (hx : a.eval x = .int .i64 r.id) (hk : (Lit.int .i64 r.id).wf = true)
    (hyes : wpList Try.prog ops Q rest (a.put o.dst (rawV r)) w) :
    wpList Try.prog ops Q (o :: rest) a w := by
  have hz : (zeroValue 34).run Try.prog w = .ok (.agg #[.int .i64 0, .int .i64 0, .int .i64 0, .int .i64 0, .string ⟨#[]⟩, .slice none 0 0, .string ⟨#[]⟩]) w := by kernel_rfl
  refine wpList_plain hg fun K' hK' => ?_
  obtain ⟨v, ps, hrun, hv⟩ := hown.lookup keyed Try.underlying67 hz (zd := .held _) (zp := []) rfl (keyOf_k hk)
  rw [hD.el r hr] at hv
  simp only [stR, Option.some.injEq, Prod.mk.injEq, DataW.held.injEq] at hv
  obtain ⟨rfl, _⟩ := hv
  unfold Oper.wp
  simp [execOp, hop, hm, hx, hrun, Result.andThen]
  exact hK' _ _ hyes
end
end Go.Proofs.Ytgomnmhjkjahlaa

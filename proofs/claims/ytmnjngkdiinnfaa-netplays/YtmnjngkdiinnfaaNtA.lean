/- net: mails, what the map of mails reads as, its laws at the operations; what a net is. -/
import Derived.Test.YtmnjngkdiinnfaaTxtI
import Derived.Test.YtmnjngkdiinnfaaSame
import Derived.Test.YtmnjngkdiinnfaaShelf
import Derived.Maps.OwnSet
namespace Go.Proofs.Ytmnjngkdiinnfaa
open Go.RowKit
set_option linter.unusedVariables false
attribute [local go_sem] Oper.semAt_some

/-- a mail: its number, and its datagram -/
structure Mg where
  id : Int
  fr : Int
  to : Int
  tx : ByteArray
abbrev gmV (r : Mg) : Value := .agg #[.int .i64 r.fr, .int .i64 r.to, .string r.tx]
abbrev zGm : Value := .agg #[.int .i64 0, .int .i64 0, .string ⟨#[]⟩]
/-- an element of the map reads as itself -/
def stR (v : Value) : Option (DataW Value × List MemPlace) := some (.held v, [])
abbrev kI (k : Int) : Lit := .int .i64 k
/-- what the map reads as -/
structure MapIs (D : DataW Value) (rs : List Mg) : Prop where
  tidy : Maps.Tidy D
  hs : ∀ k : Int, Maps.has D (kI k) = rs.any fun r => decide (r.id = k)
  el : ∀ r ∈ rs, ∀ z, D.atKey (kI r.id) z = .held (gmV r)
  size : Maps.size D = rs.length
theorem MapIs.nil : MapIs (.map []) [] := ⟨Maps.tidy_empty, fun k => rfl, fun r h => absurd h (by simp), rfl⟩
theorem kI_ne {a b : Int} (h : a ≠ b) : kI a ≠ kI b := fun e => h (by cases e; rfl)
theorem MapIs.put {D : DataW Value} {rs : List Mg} (h : MapIs D rs) (r : Mg) (hn : ∀ x ∈ rs, x.id ≠ r.id) : MapIs (D.put (kI r.id) (.held (gmV r))) (rs ++ [r]) := by
  have hk : WideAt.IsKeyLit (kI r.id) := trivial
  have h0 : Maps.has D (kI r.id) = false := by
    rw [h.hs, List.any_eq_false]
    intro x hx
    simp [hn x hx]
  refine ⟨h.tidy.put hk _, fun k => ?_, fun x hx z => ?_, ?_⟩
  · by_cases e : k = r.id
    · subst e
      rw [Maps.has_put_same h.tidy.isMap hk]
      simp
    · rw [Maps.has_put_other (kI_ne e), h.hs, List.any_append]
      have : decide (r.id = k) = false := decide_eq_false (fun h => e h.symm)
      simp [this]
  · rw [List.mem_append] at hx
    rcases hx with hx | hx
    · rw [Maps.atKey_put_other (kI_ne (hn x hx)), h.el x hx]
    · simp at hx
      subst hx
      rw [Maps.atKey_put_same h.tidy.isMap hk]
  · rw [Maps.size_put h.tidy, h0, List.length_append, h.size]
    simp
theorem filter_one_less (rs : List Mg) (hp : rs.Pairwise fun a b => a.id < b.id) (k : Int) : (rs.filter fun r => decide (r.id ≠ k)).length + (if rs.any (fun r => decide (r.id = k)) then 1 else 0) = rs.length := by
  induction rs with
  | nil => simp
  | cons a l ih =>
    rw [List.pairwise_cons] at hp
    have ih := ih hp.2
    by_cases e : a.id = k
    · have h1 : l.any (fun r => decide (r.id = k)) = false := by
        rw [List.any_eq_false]
        intro x hx
        have := hp.1 x hx
        simp
        omega
      rw [h1] at ih
      simp [e] at ih ⊢
      omega
    · simp [e] at ih ⊢
      omega
theorem MapIs.del {D : DataW Value} {rs : List Mg} (h : MapIs D rs) (hp : rs.Pairwise fun a b => a.id < b.id) (k : Int) : MapIs (D.del (kI k)) (rs.filter fun r => decide (r.id ≠ k)) := by
  refine ⟨h.tidy.del _, fun j => ?_, fun x hx z => ?_, ?_⟩
  · by_cases e : j = k
    · subst e
      rw [Maps.has_del_same]
      symm
      rw [List.any_eq_false]
      intro x hx
      rw [List.mem_filter] at hx
      simpa using hx.2
    · rw [Maps.has_del_other (kI_ne e), h.hs]
      rw [Bool.eq_iff_iff, List.any_eq_true, List.any_eq_true]
      constructor
      · rintro ⟨x, hx, hxj⟩
        simp at hxj
        exact ⟨x, by rw [List.mem_filter]; exact ⟨hx, by simp; omega⟩, by simp [hxj]⟩
      · rintro ⟨x, hx, hxj⟩
        rw [List.mem_filter] at hx
        exact ⟨x, hx.1, hxj⟩
  · rw [List.mem_filter] at hx
    have hne : x.id ≠ k := by simpa using hx.2
    rw [Maps.atKey_del_other (kI_ne hne), h.el x hx.1]
  · have h1 := Maps.size_del (k := kI k) h.tidy
    have h2 := filter_one_less rs hp k
    rw [h.hs, h.size] at h1
    omega
theorem keyed : Maps.Keyed Try.prog 3 := Maps.int_keyed Try.underlying3
theorem keyOf_k {k : Int} (h : (Lit.int .i64 k).wf = true) : keyOf Try.prog 3 (.int .i64 k) = some (kI k) := Maps.keyOf_int_mk Try.underlying3 h
abbrev StMap (w : World) (b n : Nat) (D : DataW Value) : Prop := w.ownsMap Try.prog 3 stR b n D
section
variable (w : World) {ops : Array Oper} {rest : List Oper} {o : Oper} {a : Act} {Q : Exit → Act → World → Prop}
/-- 'x, is := m[k]' -/
theorem wpList_look_st (hg : o.guard = none) (m x : Operand) (hop : o.op = Op.lookup 64 m x true) (b n : Nat) (D : DataW Value) (rs : List Mg) (hD : MapIs D rs) (hm : a.eval m = .map (some b)) (hown : StMap w b n D) (k : Int) (hx : a.eval x = .int .i64 k) (hk : (Lit.int .i64 k).wf = true)
    (hno : (∀ r ∈ rs, r.id ≠ k) → wpList Try.prog ops Q rest (a.put o.dst (.tuple #[zGm, .bool false])) w)
    (hyes : ∀ r ∈ rs, r.id = k → wpList Try.prog ops Q rest (a.put o.dst (.tuple #[gmV r, .bool true])) w) :
    wpList Try.prog ops Q (o :: rest) a w := by
  have hz : (zeroValue 30).run Try.prog w = .ok (zGm) w := by kernel_rfl
  refine wpList_lookup_own_ok w hg m x 64 hop 3 30 keyed Try.underlying64 stR hz _ [] rfl b n D hm hown _ (kI k) hx (keyOf_k hk) ?_
  intro v ps hv
  simp only [stR, Option.some.injEq, Prod.mk.injEq] at hv
  by_cases hh : ∃ r ∈ rs, r.id = k
  · obtain ⟨r, hr, rfl⟩ := hh
    rw [hD.el r hr] at hv
    simp only [DataW.held.injEq] at hv
    obtain ⟨rfl, _⟩ := hv
    have : Maps.has D (kI r.id) = true := by rw [hD.hs, List.any_eq_true]; exact ⟨r, hr, by simp⟩
    rw [this]
    exact hyes r hr rfl
  · have h0 : Maps.has D (kI k) = false := by
      rw [hD.hs, List.any_eq_false]
      intro r hr
      simp
      exact fun e => hh ⟨r, hr, e⟩
    rw [h0]
    rw [Maps.atKey_of_not_has h0] at hv
    simp only [DataW.held.injEq] at hv
    obtain ⟨rfl, _⟩ := hv
    exact hno (fun r hr e => hh ⟨r, hr, e⟩)
/-- 'm[k]' of one that is there -/
theorem wpList_look1_st (hg : o.guard = none) (m x : Operand) (hop : o.op = Op.lookup 64 m x false) (b n : Nat) (D : DataW Value) (rs : List Mg) (hD : MapIs D rs) (hm : a.eval m = .map (some b)) (hown : StMap w b n D) (r : Mg) (hr : r ∈ rs) (hx : a.eval x = .int .i64 r.id) (hk : (Lit.int .i64 r.id).wf = true)
    (hyes : wpList Try.prog ops Q rest (a.put o.dst (gmV r)) w) :
    wpList Try.prog ops Q (o :: rest) a w := by
  have hz : (zeroValue 30).run Try.prog w = .ok (zGm) w := by kernel_rfl
  refine wpList_plain hg fun K' hK' => ?_
  obtain ⟨v, ps, hrun, hv⟩ := hown.lookup keyed Try.underlying64 hz (zd := .held _) (zp := []) rfl (keyOf_k hk)
  rw [hD.el r hr] at hv
  simp only [stR, Option.some.injEq, Prod.mk.injEq, DataW.held.injEq] at hv
  obtain ⟨rfl, _⟩ := hv
  unfold Oper.wp
  simp [execOp, hop, hm, hx, hrun, Result.andThen]
  exact hK' _ _ hyes
end
end Go.Proofs.Ytmnjngkdiinnfaa

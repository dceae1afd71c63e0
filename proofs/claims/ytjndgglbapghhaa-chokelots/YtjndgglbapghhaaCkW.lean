/- choke: Turns. -/
import Derived.Maps.OwnSet
import Derived.Test.YtjndgglbapghhaaCkV
namespace Go.Proofs.Ytjndgglbapghhaa
open Go.RowKit Go.Sort
set_option linter.unusedVariables false
attribute [local go_sem] Oper.semAt_some

def stE (v : Value) : Option (DataW Value × List MemPlace) := some (.held v, [])
abbrev kI (k : Int) : Lit := .int .i64 k
theorem kI_ne {a b : Int} (h : a ≠ b) : kI a ≠ kI b := fun e => h (by cases e; rfl)
/-- what the map of the chosen reads as -/
structure KM (D : DataW Value) (ks : List Int) : Prop where
  tidy : Maps.Tidy D
  hs : ∀ k : Int, Maps.has D (kI k) = hasI ks k
  el : ∀ k : Int, hasI ks k = true → ∀ z, D.atKey (kI k) z = .held (.agg #[])
theorem KM.nil : KM (.map []) [] := ⟨Maps.tidy_empty, fun k => rfl, fun k h => by simp [hasI] at h⟩
theorem hasI_snoc (ks : List Int) (a k : Int) : hasI (ks ++ [a]) k = (hasI ks k || decide (a = k)) := by
  unfold hasI; simp [List.any_append]
theorem KM.put {D : DataW Value} {ks : List Int} (h : KM D ks) (a : Int) : KM (D.put (kI a) (.held (.agg #[]))) (ks ++ [a]) := by
  have hk : WideAt.IsKeyLit (kI a) := trivial
  refine ⟨h.tidy.put hk _, fun k => ?_, fun k hk2 z => ?_⟩
  · rw [hasI_snoc]
    by_cases e : k = a
    · subst e
      rw [Maps.has_put_same h.tidy.isMap hk]
      simp
    · rw [Maps.has_put_other (kI_ne e), h.hs]
      have : decide (a = k) = false := decide_eq_false (fun h => e h.symm)
      simp [this]
  · by_cases e : k = a
    · subst e
      rw [Maps.atKey_put_same h.tidy.isMap hk]
    · rw [hasI_snoc, decide_eq_false (fun h => e h.symm), Bool.or_false] at hk2
      rw [Maps.atKey_put_other (kI_ne e), h.el k hk2]
theorem keyed : Maps.Keyed Try.prog 3 := Maps.int_keyed Try.underlying3
theorem keyOf_k {k : Int} (h : (Lit.int .i64 k).wf = true) : keyOf Try.prog 3 (.int .i64 k) = some (kI k) := Maps.keyOf_int_mk Try.underlying3 h
/-- '_, is := m[k]' -/
theorem wpList_look_km (w : World) {ops : Array Oper} {rest : List Oper} {o : Oper} {a : Act} {Q : Exit → Act → World → Prop} (hg : o.guard = none) (m x : Operand) (hop : o.op = Op.lookup 68 m x true) (b n : Nat) (D : DataW Value) (ks : List Int) (hD : KM D ks) (hm : a.eval m = .map (some b)) (hown : w.ownsMap Try.prog 3 stE b n D) (k : Int) (hx : a.eval x = .int .i64 k) (hk : (Lit.int .i64 k).wf = true)
    (h : wpList Try.prog ops Q rest (a.put o.dst (.tuple #[.agg #[], .bool (hasI ks k)])) w) :
    wpList Try.prog ops Q (o :: rest) a w := by
  have hz : (zeroValue 69).run Try.prog w = .ok (.agg #[]) w := by kernel_rfl
  refine wpList_lookup_own_ok w hg m x 68 hop 3 69 keyed Try.underlying68 stE hz _ [] rfl b n D hm hown _ (kI k) hx (keyOf_k hk) ?_
  intro v ps hv
  simp only [stE, Option.some.injEq, Prod.mk.injEq] at hv
  rw [hD.hs]
  cases hh : hasI ks k with
  | true =>
    rw [hD.el k hh] at hv
    simp only [DataW.held.injEq] at hv
    obtain ⟨rfl, _⟩ := hv
    rw [hh] at h
    exact h
  | false =>
    rw [Maps.atKey_of_not_has (by rw [hD.hs]; exact hh)] at hv
    simp only [DataW.held.injEq] at hv
    obtain ⟨rfl, _⟩ := hv
    rw [hh] at h
    exact h
/-- the map of the chosen and the cell it lies in -/
structure TuS (W : World) (cb b n : Nat) (ks : List Int) : Prop where
  one : One W cb (.map (some b)) 68
  map : ∃ D, W.ownsMap Try.prog 3 stE b n D ∧ KM D ks
theorem TuS.up {W W' : World} {cb b n : Nat} {ks : List Int} (h : TuS W cb b n ks) (hb : Below W.heap.size W W') : TuS W' cb b n ks := by
  obtain ⟨D, h1, h2⟩ := h.map
  exact ⟨h.one.up hb, D, h1.kept (row := none) ⟨hb.os, hb.tape, hb.output, hb.size, fun i hi _ => hb.block i hi⟩ (by simp), h2⟩
set_option maxRecDepth 100000 in
set_option maxHeartbeats 2000000 in
theorem turns1_any (cb b n : Nat) (ks : List Int) (p : Pr) (w : World) (h : TuS w cb b n ks) (hk : (Lit.int .i64 p.nd).wf = true) :
    Calls Try.prog 36 #[.agg p.cl.toArray, .pointer (some ⟨cb, 0, none⟩)] w fun e w' => e = .returned (.bool (hasI ks p.nd)) ∧ Below w.heap.size w w' := by
  have hb : Below w.heap.size w (w.alloc (.cells p.cl.toArray 48)) := (Below.refl _ w).alloc (Nat.le_refl _) _
  have h2 := h.up hb
  obtain ⟨D, hM, hD⟩ := h2.map
  have HM := hide hM
  have HD := hide hD
  have HB := hide hb
  have HK := hide hk
  have c0 := h2.one.c0
  have hn0 := heap_alloc_new w (.cells p.cl.toArray 48)
  have c1 := cell_pr hn0 0
  have hlt := lt_of_block hn0
  have hl2 := h2.one.lt
  clear hM hD hb h h2 hn0 hk
  obtain ⟨nd, px, py, hv, wa, op, os, se, nw, ra⟩ := p
  dsimp only [Pr.cl] at c1 c0 HM HB HK hlt hl2 ⊢
  simp only [List.getElem?_cons_zero] at c1
  go_enter Try.func36, Try.ntmps36
  go_wp2_with (at_lookup; refine wpList_look_km _ rfl _ _ rfl b n D ks (unhide HD) rfl (unhide HM) nd rfl (unhide HK) ?_)
  go_ret
  exact ⟨rfl, (unhide HB).alloc (unhide HB).size _⟩
end Go.Proofs.Ytjndgglbapghhaa

/- The law GaussTrue, walked. -/
import Derived.Test.YtpcndjnhpjhjkaaDoorGaX
import Derived.Test.YtpcndjnhpjhjkaaDoorGmO
namespace Go.Proofs.YtpcndjnhpjhjkaaDoor
open Go.RowKit
set_option linter.unusedVariables false
attribute [local go_sem] Oper.semAt_some

theorem Tryd.infoE : (Tryd.prog.info? 58).map (fun i => (i.zero, i.size, i.bytes)) = some (some (.agg #[.slice none 0 0, .string ⟨#[]⟩]), 2, 40) := by kernel_rfl
theorem Tryd.undE : Tryd.prog.underlying 39 = some (.slice 58) := by kernel_rfl
/-- equations of rows and data -/
def eqs (R : List (List Nat)) (D : Nat → By) : List Eq2 := (List.range R.length).map fun j => (zs (R.getD j []), D j)
theorem eqs_length (R : List (List Nat)) (D : Nat → By) : (eqs R D).length = R.length := by simp [eqs]
theorem eqs_get (R : List (List Nat)) (D : Nat → By) (j : Nat) (h : j < (eqs R D).length) : (eqs R D)[j] = (zs (R.getD j []), D j) := by simp [eqs]
theorem eqs_getD (R : List (List Nat)) (D : Nat → By) (j : Nat) (h : j < R.length) : ((eqs R D).getD j ([], [])).2 = D j := by
  have h' : j < (eqs R D).length := by rw [eqs_length]; exact h
  simp only [List.getD, List.getElem?_eq_getElem h', Option.getD_some, eqs_get R D j h']
theorem eqs_fst (R : List (List Nat)) (D : Nat → By) : (eqs R D).map Prod.fst = R.map zs := by
  apply List.ext_getElem
  · simp [eqs]
  · intro i h1 h2
    have hi : i < R.length := by simpa using h2
    simp [eqs, List.getD, hi]
/-- their cells -/
def EqC (w : World) (R : List (List Nat)) (D : Nat → By) (k : Nat) (Cs : List Value) : Prop := ∀ j, j < k → ∃ b c, Cs[j * 2]? = some (.slice b (R.getD j []).length c) ∧ Cs[j * 2 + 1]? = some (.string (bs (D j))) ∧ Ints w b (zs (R.getD j []))
theorem EqC.snoc {w : World} {R : List (List Nat)} {D : Nat → By} {k : Nat} {Cs : List Value} (h : EqC w R D k Cs) (hl : Cs.length = k * 2) {b : Option Addr} {c : Nat} (hI : Ints w b (zs (R.getD k []))) : EqC w R D (k + 1) (Cs ++ [.slice b (R.getD k []).length c, .string (bs (D k))]) := fun j hj => by
  by_cases e : j < k
  · obtain ⟨b', c', e1, e2, e3⟩ := h j e
    exact ⟨b', c', by rw [List.getElem?_append_left (by omega)]; exact e1, by rw [List.getElem?_append_left (by omega)]; exact e2, e3⟩
  · have : j = k := by omega
    subst this
    exact ⟨b, c, by rw [List.getElem?_append_right (by omega), hl, Nat.sub_self]; rfl, by rw [List.getElem?_append_right (by omega), hl, Nat.add_sub_cancel_left]; rfl, hI⟩
theorem EqC.set {w : World} {R : List (List Nat)} {D : Nat → By} {k t : Nat} {Cs : List Value} (h : EqC w R D k Cs) (hl : Cs.length = k * 2) (ht : t < k) (x : By) : EqC w R (fun j => if j = t then x else D j) k (Cs.set (t * 2 + 1) (.string (bs x))) := fun j hj => by
  obtain ⟨b', c', e1, e2, e3⟩ := h j hj
  refine ⟨b', c', by rw [List.getElem?_set_ne (by omega)]; exact e1, ?_, e3⟩
  by_cases e : j = t
  · subst e
    show _ = some (Value.string (bs (if j = j then x else D j)))
    rw [List.getElem?_set_self (by omega), if_pos rfl]
  · show _ = some (Value.string (bs (if j = t then x else D j)))
    rw [List.getElem?_set_ne (by omega), if_neg e]; exact e2
theorem eqns_own {w0 w : World} {base : Nat} {v : Value} {R : List (List Nat)} {D : Nat → By} {Cs : List Value} {k : Nat} (hk : R.length = k) (h : w.ownsRow base 58 2 v k Cs) (hC : EqC w0 R D k Cs) (hb : Below w0.heap.size w0 w) : ∃ a0 c, v = .slice a0 k c ∧ EqnsA w a0 (eqs R D) := by
  have hh := h
  rcases h.2 with ⟨rfl, h0⟩ | ⟨g, cap, cur, rfl, _⟩
  · exact ⟨none, 0, by rw [h0], fun i hi => absurd hi (by rw [eqs_length]; omega)⟩
  · refine ⟨some ⟨g, 0, none⟩, cap, rfl, fun i hi => ?_⟩
    have hi' : i < k := by rw [eqs_length] at hi; omega
    obtain ⟨b, c, e1, e2, e3⟩ := hC i hi'
    rw [eqs_get R D i hi]
    refine ⟨g, 0, rfl, b, c, ?_, ?_, e3.below hb⟩
    · rw [Nat.zero_add, hh.cellAt (i * 2) (by omega), e1, zs_length]
    · rw [Nat.zero_add, hh.cellAt (i * 2 + 1) (by omega), e2]
theorem solve_eqs (n m : Nat) (Rs : List (List Int)) (R : List (List Nat)) (hR : Rws n Rs R) (D : Nat → By) (h1 : 1 ≤ m) (h64 : m ≤ 64) (hD : ∀ j, j < R.length → (D j).length = m) (a0 : Option Addr) (c : Nat) (w : World) (hE : EqnsA w a0 (eqs R D)) :
    Calls Tryd.prog 21 #[.int .i64 n, .int .i64 m, .slice a0 R.length c] w fun e w' => (slvBad (eL R (eqs R D) R.length) n m = true ∧ e = .returned (.tuple #[.slice none 0 0, .int .i64 9]) ∧ Below w.heap.size w w') ∨ (slvBad (eL R (eqs R D) R.length) n m = false ∧ ∃ v, e = .returned (.tuple #[v, .int .i64 0]) ∧ OwnS w' w.heap.size v (slv n (kep (eL R (eqs R D) R.length) n)) ∧ Below w.heap.size w w') := by
  have h := solve_yes n m (eqs R D) R ⟨by rw [eqs_fst], hR.lt, hR.ord, hR.n160, hR.m400⟩ h1 h64 (fun x hx => by
    obtain ⟨j, hj, rfl⟩ := List.mem_map.1 hx
    exact hD j (List.mem_range.1 hj)) a0 c w hE
  rwa [eqs_length] at h
set_option maxRecDepth 100000 in
set_option maxHeartbeats 1000000 in
theorem gaussTrue_off (X : List By) (x0 : Option Addr) (xc : Nat) (Rs : List (List Int)) (a0 : Option Addr) (c : Nat) (which : Int) (w : World) (hT : Tz w) (hX : Txts w x0 X) (kX : X.length ≤ maxLen) (hI : RowsA w a0 Rs) (hO : RowsOk Rs a0 c) (hno : ¬ (fewB X.length Rs = true ∧ mayB X.length Rs = true ∧ szB X = true)) :
    Calls Tryd.prog 8 #[.slice x0 X.length xc, .slice a0 Rs.length c, .int .i64 which] w fun e w' => e = .returned (.bool true) ∧ Below w.heap.size w w' := by
  have hxm := kX
  unfold maxLen at hxm
  have hf := hide (gfew_any X.length Rs a0 c (by have := hO.1; have := hO.2.1; omega) hO.2.2.1 w hI)
  have hm := hide (may_any X.length Rs a0 c ⟨by omega, by omega⟩ (by have := hO.1; have := hO.2.1; omega) hO.2.2.1 w hI)
  have hs := hide (rsized_any X x0 xc w hX kX)
  have haw := hide (fun W (hb : Below w.heap.size w W) => gawake_any W (hT.below hb))
  generalize X.length = n at *
  cases hfe : fewB (n : Int) Rs with
  | false =>
    rw [hfe] at hf
    generalize Rs.length = m at *
    clear hI hO hno hfe hX
    go_enter Tryd.func8, Tryd.ntmps8
    go_wp2_with fail
    refine (unhide hf).mono ?_
    rintro e w1 ⟨rfl, rfl⟩
    go_wp2_with fail
    refine (unhide haw _ (Below.refl _ _)).mono ?_
    rintro e w2 ⟨rfl, b2⟩
    have B2 := hide b2
    clear b2
    go_wp2
    go_ret
    exact ⟨rfl, unhide B2⟩
  | true =>
    rw [hfe] at hf hno
    cases hme : mayB (n : Int) Rs with
    | false =>
      rw [hme] at hm
      generalize Rs.length = m at *
      clear hI hO hno hfe hme hX
      go_enter Tryd.func8, Tryd.ntmps8
      go_wp2_with fail
      refine (unhide hf).mono ?_
      rintro e w1 ⟨rfl, rfl⟩
      go_wp2_with fail
      refine (unhide hm).mono ?_
      rintro e w1 ⟨rfl, rfl⟩
      go_wp2_with fail
      refine (unhide haw _ (Below.refl _ _)).mono ?_
      rintro e w2 ⟨rfl, b2⟩
      have B2 := hide b2
      clear b2
      go_wp2
      go_ret
      exact ⟨rfl, unhide B2⟩
    | true =>
      rw [hme] at hm hno
      have hse : szB X = false := by
        cases h : szB X with
        | false => rfl
        | true => exact absurd ⟨rfl, rfl, h⟩ hno
      rw [hse] at hs
      generalize Rs.length = m at *
      clear hI hO hno hfe hme hX hse
      go_enter Tryd.func8, Tryd.ntmps8
      go_wp2_with fail
      refine (unhide hf).mono ?_
      rintro e w1 ⟨rfl, rfl⟩
      go_wp2_with fail
      refine (unhide hm).mono ?_
      rintro e w1 ⟨rfl, rfl⟩
      go_wp2_with fail
      refine (unhide hs).mono ?_
      rintro e w1 ⟨rfl, b1⟩
      have B1 := hide b1
      clear b1
      go_wp2_with fail
      refine (unhide haw _ (unhide B1)).mono ?_
      rintro e w2 ⟨rfl, b2⟩
      have B2 := hide ((unhide B1).trans (b2.mono (unhide B1).size))
      clear b2
      go_wp2
      go_ret
      exact ⟨rfl, unhide B2⟩
end Go.Proofs.YtpcndjnhpjhjkaaDoor

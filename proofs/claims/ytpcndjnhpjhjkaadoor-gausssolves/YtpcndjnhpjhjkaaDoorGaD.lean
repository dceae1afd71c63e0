/- gauss: lines; the search for a line that has a number. -/
import Derived.Test.YtpcndjnhpjhjkaaDoorGaC
namespace Go.Proofs.YtpcndjnhpjhjkaaDoor
open Go.RowKit
set_option linter.unusedVariables false
attribute [local go_sem] Oper.semAt_some

/-- a line as the program has it -/
def lineV (x : Ln) : Value := .agg #[.int .u64 (wd x.1 0), .int .u64 (wd x.1 1), .int .u64 (wd x.1 2), .string (bs x.2)]
/-- its cells -/
def lcell (x : Ln) : List Value := [.int .u64 (wd x.1 0), .int .u64 (wd x.1 1), .int .u64 (wd x.1 2), .string (bs x.2)]
def lc (L : List Ln) : List Value := L.flatMap lcell
theorem lc_length (L : List Ln) : (lc L).length = L.length * 4 := by
  induction L with
  | nil => rfl
  | cons x L ih =>
    unfold lc at *
    rw [List.flatMap_cons, List.length_append, ih, List.length_cons]
    have : (lcell x).length = 4 := rfl
    omega
theorem lc_append (L M : List Ln) : lc (L ++ M) = lc L ++ lc M := by simp [lc]
theorem lc_one (L : List Ln) : ∀ u ∈ lc L, u.oneCell' = true := by
  intro u hu
  simp only [lc, List.mem_flatMap] at hu
  obtain ⟨x, _, hx⟩ := hu
  simp [lcell] at hx
  rcases hx with rfl | rfl | rfl | rfl <;> rfl
theorem lc_get : ∀ (L : List Ln) (t j : Nat) (h : t < L.length), j < 4 → (lc L)[t * 4 + j]? = (lcell (gt L t))[j]?
  | [], _, _, h, _ => by simp at h
  | x :: L, 0, j, _, hj => by
    have : (lcell x).length = 4 := rfl
    unfold lc
    rw [List.flatMap_cons, Nat.zero_mul, Nat.zero_add, List.getElem?_append_left (by omega)]
    rfl
  | x :: L, t + 1, j, h, hj => by
    have e : (lcell x).length = 4 := rfl
    unfold lc
    rw [List.flatMap_cons, List.getElem?_append_right (by omega), e, show (t + 1) * 4 + j - 4 = t * 4 + j by omega]
    have := lc_get L t j (by simpa using h) hj
    unfold lc at this
    rw [this]
    simp [gt]
/-- lines in a row of cells -/
def LinesA (w : World) (a0 : Option Addr) (L : List Ln) : Prop := ∀ t, t < L.length → ∃ g o, a0 = some ⟨g, o, none⟩ ∧ w.cell? ⟨g, o + t * 4, none⟩ = some (.int .u64 (wd (gt L t).1 0)) ∧ w.cell? ⟨g, o + t * 4 + 1, none⟩ = some (.int .u64 (wd (gt L t).1 1)) ∧ w.cell? ⟨g, o + t * 4 + 2, none⟩ = some (.int .u64 (wd (gt L t).1 2)) ∧ w.cell? ⟨g, o + t * 4 + 3, none⟩ = some (.string (bs (gt L t).2))
theorem LinesA.below {w w' : World} {a0 : Option Addr} {L : List Ln} (h : LinesA w a0 L) (hb : Below w.heap.size w w') : LinesA w' a0 L := fun t ht => by
  obtain ⟨g, o, h1, c0, c1, c2, c3⟩ := h t ht
  exact ⟨g, o, h1, cell_below c0 hb, cell_below c1 hb, cell_below c2 hb, cell_below c3 hb⟩
set_option maxRecDepth 100000 in
set_option maxHeartbeats 1000000 in
theorem elim1_any (x : Ln) (i : Nat) (hi : i < 192) (b : Nat) (w : World) (hb : w.cell? ⟨b, 0, none⟩ = some (.int .i64 (i : Int))) :
    Calls Tryd.prog 53 #[lineV x, .pointer (some ⟨b, 0, none⟩)] w fun e w' => e = .returned (.bool (x.1.testBit i)) ∧ Below w.heap.size w w' := by
  have hc := hide (rhas_i x.1 i hi)
  unfold rowV at hc
  unfold lineV
  have hlt := cell_lt hb
  generalize bs x.2 = D at *
  generalize hx0 : ((wd x.1 0 : Nat) : Int) = x0 at *
  generalize hx1 : ((wd x.1 1 : Nat) : Int) = x1 at *
  generalize hx2 : ((wd x.1 2 : Nat) : Int) = x2 at *
  clear hx0 hx1 hx2
  go_enter Tryd.func53, Tryd.ntmps53
  go_wp2_with fail
  refine (unhide hc _).mono ?_
  rintro e w1 ⟨rfl, b1⟩
  have B1 := hide (((Below.refl _ w).alloc (Nat.le_refl _) _).trans (b1.mono (by simp)))
  clear b1
  go_wp2
  go_ret
  exact ⟨rfl, unhide B1⟩
/-- where the first one stands that has a number; -1: nowhere -/
def idxV (M : List Ln) (i : Nat) : Int := match M.findIdx? (fun x => x.1.testBit i) with | some k => (k : Int) | none => -1
set_option maxRecDepth 100000 in
set_option maxHeartbeats 1000000 in
theorem gindex_any (M : List Ln) (a0 : Option Addr) (c : Nat) (i : Nat) (hi : i < 192) (b : Nat) (w : World) (hM : M.length ≤ 100000) (hb : w.cell? ⟨b, 0, none⟩ = some (.int .i64 (i : Int))) (hL : LinesA w a0 M) :
    Calls Tryd.prog 52 #[.slice a0 M.length c, .func (.func 53) #[] #[.pointer (some ⟨b, 0, none⟩)]] w fun e w' => e = .returned (.int .i64 (idxV M i)) ∧ Below w.heap.size w w' := by
  have HL := hide hL
  have HC := hide (fun x => elim1_any x i hi b)
  have Hb := hide hb
  generalize hE : idxV M i = E at *
  have HE := hide hE
  generalize hn : M.length = n at *
  have HN := hide hn
  clear hL hE hn hb
  go_enter Tryd.func52, Tryd.ntmps52
  go_wp2_with fail
  go_loopw [8] (fun v wr => Below w.heap.size w wr ∧ ∃ k : Nat, k ≤ n ∧ v = .int .i64 k ∧ ∀ x ∈ M.take k, x.1.testBit i = false) (fun v _ => n - (intOf v).toNat)
  case atStart => exact ⟨Below.refl _ _, 0, by omega, rfl, by simp⟩
  case round =>
    obtain ⟨hB, k, hk', rfl, ha⟩ := hrel
    by_cases hlt : k < n
    · have hlt' : k < M.length := by rw [unhide HN]; exact hlt
      obtain ⟨g, o, rfl, d0, d1, d2, d3⟩ := unhide HL k hlt'
      have c0 := cell_below d0 hB
      have c1 := cell_below d1 hB
      have c2 := cell_below d2 hB
      have c3 := cell_below d3 hB
      have hc := hide (unhide HC (gt M k) wr (cell_below (unhide Hb) hB))
      have q1 : (k : Int) < n := by omega
      have hgm : gt M k = M[k] := by simp [gt, List.getD, hlt']
      have HB := hide hB
      clear d0 d1 d2 d3
      cases hbit : (gt M k).1.testBit i with
      | true =>
        have e2 : E = (k : Int) := by
          rw [← unhide HE]
          unfold idxV
          have : M.findIdx? (fun x => x.1.testBit i) = some k := by
            rw [List.findIdx?_eq_some_iff_getElem]
            refine ⟨hlt', by rw [← hgm]; exact hbit, fun j hj => ?_⟩
            rw [ha _ (List.mem_take_iff_getElem.2 ⟨j, by omega, rfl⟩)]
            simp
          rw [this]
        subst e2
        rw [hbit] at hc
        unfold lineV at hc
        generalize bs (gt M k).2 = D at *
        generalize ((wd (gt M k).1 0 : Nat) : Int) = x0 at *
        generalize ((wd (gt M k).1 1 : Nat) : Int) = x1 at *
        generalize ((wd (gt M k).1 2 : Nat) : Int) = x2 at *
        clear hbit ha hgm hB hlt'
        go_wp2_with fail
        refine (unhide hc).mono ?_
        rintro e w1 ⟨rfl, b1⟩
        have B1 := hide ((unhide HB).trans (b1.mono (unhide HB).size))
        clear b1
        go_wp2
        go_ret
        exact ⟨rfl, unhide B1⟩
      | false =>
        have HA : Hid (∀ x ∈ M.take (k + 1), x.1.testBit i = false) := by
          intro x hx
          rw [List.take_succ_eq_append_getElem hlt', List.mem_append] at hx
          rcases hx with hx | hx
          · exact ha x hx
          · simp at hx; rw [hx, ← hgm]; exact hbit
        rw [hbit] at hc
        unfold lineV at hc
        generalize bs (gt M k).2 = D at *
        generalize ((wd (gt M k).1 0 : Nat) : Int) = x0 at *
        generalize ((wd (gt M k).1 1 : Nat) : Int) = x1 at *
        generalize ((wd (gt M k).1 2 : Nat) : Int) = x2 at *
        clear hbit ha hgm hB hlt'
        go_wp2_with fail
        refine (unhide hc).mono ?_
        rintro e w1 ⟨rfl, b1⟩
        have B1 := hide ((unhide HB).trans (b1.mono (unhide HB).size))
        clear b1
        go_wp2
        go_roundw
        case rel => exact ⟨unhide B1, k + 1, by omega, by go_num, unhide HA⟩
        case measure => simp [intOf]; omega
    · have hkn : k = n := by omega
      subst hkn
      have e2 : E = -1 := by
        rw [← unhide HE]
        unfold idxV
        have : M.findIdx? (fun x => x.1.testBit i) = none := by
          rw [List.findIdx?_eq_none_iff]
          rw [List.take_of_length_le (by rw [unhide HN]; exact Nat.le_refl _)] at ha
          exact ha
        rw [this]
      subst e2
      have q1 : ¬ (k : Int) < k := by omega
      have HB := hide hB
      clear ha hB
      go_wp2
      go_ret
      exact ⟨rfl, unhide HB⟩
end Go.Proofs.YtpcndjnhpjhjkaaDoor

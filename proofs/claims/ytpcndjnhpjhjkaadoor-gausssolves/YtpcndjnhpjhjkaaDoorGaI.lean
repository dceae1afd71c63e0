/- gauss: only. -/
import Derived.Test.YtpcndjnhpjhjkaaDoorGaJ
import Derived.Deep.RegionHeld3
namespace Go.Proofs.YtpcndjnhpjhjkaaDoor
open Go.RowKit
set_option linter.unusedVariables false
attribute [local go_sem] Oper.semAt_some

theorem rowN_one (i : Nat) : rowN [i] = 2 ^ i := by simp [rowN]
theorem rowOf_one (i : Nat) (hi : i < 192) (W : World) :
    Calls Tryd.prog 38 #[.slice (some ⟨W.heap.size, 0, none⟩) 1 1] (W.alloc (.cells #[.int .i64 (i : Int)] 3)).drew fun e w' => e = .returned (rowV (2 ^ i)) ∧ Below W.heap.size W w' := by
  have h := rowOf_any [i] (some ⟨W.heap.size, 0, none⟩) 1 (by simpa using hi) (by simp) (W.alloc (.cells #[.int .i64 (i : Int)] 3)).drew (fun j hj => by
    have : j = 0 := by simpa [zs] using hj
    subst this
    refine ⟨W.heap.size, 0, rfl, ?_⟩
    show (W.alloc (.cells #[.int .i64 (i : Int)] 3)).cell? ⟨W.heap.size, 0 + 0, none⟩ = _
    rw [cell_of_row _ _ _ _ _ (0, 0) (heap_alloc_new _ _)]
    rfl)
  rw [rowN_one] at h
  have h2 : Below W.heap.size W (W.alloc (.cells #[.int .i64 (i : Int)] 3)).drew := (((Below.refl _ W).alloc (Nat.le_refl _) _)).drew
  exact h.mono fun e w' ⟨he, hb⟩ => ⟨he, h2.trans (hb.mono h2.size)⟩
/-- what only answers -/
def onlyI (R : Nat) : Int := if R = 0 then 0 else (fb R : Int)
def onlyB (R : Nat) : Bool := decide (R ≠ 0 ∧ R = 2 ^ fb R)
set_option maxRecDepth 100000 in
set_option maxHeartbeats 1000000 in
theorem only_any (R : Nat) (hR : R < 2 ^ 160) (w : World) :
    Calls Tryd.prog 35 #[rowV R] w fun e w' => e = .returned (.tuple #[.int .i64 (onlyI R), .bool (onlyB R)]) ∧ Below w.heap.size w w' := by
  have hhas := hide (fun i (hi : i < 192) W => rhas_i R i hi W)
  have hone := hide rowOf_one
  unfold rowV at *
  have HR := hide hR
  clear hR
  go_enter Tryd.func35, Tryd.ntmps35
  go_wp2_with fail
  go_loopw [5] (fun v wr => ∃ i : Nat, i ≤ 160 ∧ v = .int .i64 i ∧ (∀ j, j < i → R.testBit j = false) ∧ wr.heap[w.heap.size]? = some (.cells #[.int .u64 (wd R 0), .int .u64 (wd R 1), .int .u64 (wd R 2)] 68 (0, 0)) ∧ Below w.heap.size w wr) (fun v _ => 160 - (intOf v).toNat)
  case atStart => exact ⟨0, by omega, rfl, fun j hj => absurd hj (by omega), heap_alloc_new _ _, (Below.refl _ _).alloc (Nat.le_refl _) _⟩
  case round =>
    obtain ⟨i, hi, rfl, ha, hbox, hB⟩ := hrel
    by_cases hlt : i < 160
    · have q1 : (i : Int) < 160 := by omega
      have c0 := cell_of_row _ _ 0 _ _ _ hbox
      have c1 := cell_of_row _ _ 1 _ _ _ hbox
      have c2 := cell_of_row _ _ 2 _ _ _ hbox
      simp only [List.getElem?_toArray, List.getElem?_cons_zero, List.getElem?_cons_succ] at c0 c1 c2
      have hh := hide (unhide hhas i (by omega) wr)
      have ho := hide (unhide hone i (by omega))
      have HBX := hide hbox
      have HB := hide hB
      have hwlt : w.heap.size < wr.heap.size := lt_of_block hbox
      cases hb : R.testBit i with
      | false =>
        have HA : Hid (∀ j, j < i + 1 → R.testBit j = false) := fun j hj => by
          by_cases e : j = i
          · rw [e]; exact hb
          · exact ha j (by omega)
        rw [hb] at hh
        generalize ((wd R 0 : Nat) : Int) = x0 at *
        generalize ((wd R 1 : Nat) : Int) = x1 at *
        generalize ((wd R 2 : Nat) : Int) = x2 at *
        clear hbox hB hb ha
        go_wp2_with fail
        refine (unhide hh).mono ?_
        rintro e w1 ⟨rfl, b1⟩
        have B1 := hide ((unhide HB).trans (b1.mono (unhide HB).size))
        have BX1 := hide ((b1.block _ hwlt).trans (unhide HBX))
        clear b1
        go_wp2
        go_roundw
        case rel => exact ⟨i + 1, by omega, by go_num, unhide HA, unhide BX1, unhide B1⟩
        case measure => simp [intOf]; omega
      | true =>
        have hne : R ≠ 0 := fun e => by rw [e] at hb; simp at hb
        have hfb : fb R = i := fb_eq (Nat.lt_of_lt_of_le (unhide HR) (Nat.pow_le_pow_right (by omega) (by omega))) hb ha
        have HI : Hid (onlyI R = (i : Int)) := by show _ = _; unfold onlyI; rw [if_neg hne, hfb]
        have HO : Hid (onlyB R = decide (R = 2 ^ i)) := by show _ = _; unfold onlyB; rw [hfb]; simp [hne]
        rw [hb] at hh
        have heq := row_eq R (2 ^ i) (Nat.lt_of_lt_of_le (unhide HR) (Nat.pow_le_pow_right (by omega) (by omega))) (Nat.pow_lt_pow_right (by omega) (by omega))
        unfold rowV at heq
        clear hbox hB hb ha hne hfb
        go_wp2_with fail
        refine (unhide hh).mono ?_
        rintro e w1 ⟨rfl, b1⟩
        have B1 := hide ((unhide HB).trans (b1.mono (unhide HB).size))
        have d0 := cell_below c0 b1
        have d1 := cell_below c1 b1
        have d2 := cell_below c2 b1
        clear b1 c0 c1 c2
        go_wp2_with fail
        go_region_held3 (fun w' => w'.cell? ⟨w.heap.size, 0, none⟩ = some (.int .u64 (wd R 0)) ∧ w'.cell? ⟨w.heap.size, 1, none⟩ = some (.int .u64 (wd R 1)) ∧ w'.cell? ⟨w.heap.size, 2, none⟩ = some (.int .u64 (wd R 2))) (go_keep) (
          (go_at_call 38; refine (unhide ho _).mono ?_; rintro e w5 ⟨rfl, b5⟩; have b6 : Below w1.heap.size w1 w5 := b5; have e0 := cell_below d0 b6; have e1 := cell_below d1 b6; have e2 := cell_below d2 b6))
        have B5 := hide ((unhide B1).trans (b6.mono (unhide B1).size))
        clear b5 b6 e0 e1 e2
        go_wp2
        go_ret2
        exact ⟨by rw [unhide HI, unhide HO]; rfl, unhide B5⟩
    · have hi160 : i = 160 := by omega
      subst hi160
      have h0 : R = 0 := zero_of_bits (unhide HR) ha
      have HI : Hid (onlyI R = 0) := by show _ = _; unfold onlyI; rw [if_pos h0]
      have HO : Hid (onlyB R = false) := by show _ = _; unfold onlyB; simp [h0]
      have HB := hide hB
      clear ha hbox hB h0
      go_wp2
      go_ret2
      exact ⟨by rw [unhide HI, unhide HO]; rfl, unhide HB⟩
end Go.Proofs.YtpcndjnhpjhjkaaDoor

/- Contracts of outer: isFrom, Check, joins. -/
import Derived.Test.YtkcnihngkmaecaaGreatLL
import Derived.Test.YtkcnihngkmaecaaGreatSame
import Derived.Test.YtkcnihngkmaecaaGreatShelf
namespace Go.Proofs.YtkcnihngkmaecaaGreat
open Go.RowKit
set_option linter.unusedVariables false
attribute [local go_sem] Oper.semAt_some

/-- a plan as a value -/
def plV (sd n a q : Int) : Value := .agg #[.int .i64 sd, .int .i64 n, .int .i64 a, .int .i64 q]
/-- may it be? -/
def plOk (sd n a q : Int) : Bool := decide (0 ≤ sd ∧ sd ≤ 72057594037927935) && decide (1 ≤ n ∧ n ≤ 96) && decide (1 ≤ a ∧ a ≤ 64) && decide (1 ≤ q ∧ q ≤ 8)
theorem isFrom_any (l n m : Int) (w : World) : Calls Tryz.prog 26 #[.int .i64 l, .int .i64 n, .int .i64 m] w fun e w' => e = .returned (.bool (decide (l ≤ n ∧ n ≤ m))) ∧ w = w' := by
  by_cases h1 : l ≤ n
  · by_cases h2 : n ≤ m
    · rw [decide_eq_true ⟨h1, h2⟩]
      go_enter Tryz.func26, Tryz.ntmps26
      go_wp2
      go_ret
      exact ⟨rfl, rfl⟩
    · rw [decide_eq_false (fun h => h2 h.2)]
      go_enter Tryz.func26, Tryz.ntmps26
      go_wp2
      go_ret
      exact ⟨rfl, rfl⟩
  · rw [decide_eq_false (fun h => h1 h.1)]
    go_enter Tryz.func26, Tryz.ntmps26
    go_wp2
    go_ret
    exact ⟨rfl, rfl⟩
/-- the four cells of a plan's block, in all later worlds -/
theorem plan_cells (w : World) (sd n a q : Int) (W : World) (hb : Below (w.alloc (.cells #[.int .i64 sd, .int .i64 n, .int .i64 a, .int .i64 q] 23)).heap.size (w.alloc (.cells #[.int .i64 sd, .int .i64 n, .int .i64 a, .int .i64 q] 23)) W) :
    W.cell? ⟨w.heap.size, 0, none⟩ = some (.int .i64 sd) ∧ W.cell? ⟨w.heap.size, 1, none⟩ = some (.int .i64 n) ∧ W.cell? ⟨w.heap.size, 2, none⟩ = some (.int .i64 a) ∧ W.cell? ⟨w.heap.size, 3, none⟩ = some (.int .i64 q) := by
  have h : W.heap[w.heap.size]? = some (.cells #[.int .i64 sd, .int .i64 n, .int .i64 a, .int .i64 q] 23 (0, 0)) := (hb.block _ (by simp)).trans (heap_alloc_new w _)
  exact ⟨by rw [cell_of_row _ _ 0 _ _ (0, 0) h]; rfl, by rw [cell_of_row _ _ 1 _ _ (0, 0) h]; rfl, by rw [cell_of_row _ _ 2 _ _ (0, 0) h]; rfl, by rw [cell_of_row _ _ 3 _ _ (0, 0) h]; rfl⟩
set_option maxRecDepth 100000 in
theorem check_any (sd n a q : Int) (w : World) : Calls Tryz.prog 12 #[plV sd n a q] w fun e w' => e = .returned (.bool (plOk sd n a q)) ∧ Below w.heap.size w w' := by
  have h1 := hide (fun w => isFrom_any 0 sd 72057594037927935 w)
  have h2 := hide (fun w => isFrom_any 1 n 96 w)
  have h3 := hide (fun w => isFrom_any 1 a 64 w)
  have h4 := hide (fun w => isFrom_any 1 q 8 w)
  have hb : Hid (Below w.heap.size w (w.alloc (.cells #[.int .i64 sd, .int .i64 n, .int .i64 a, .int .i64 q] 23))) := (Below.refl _ w).alloc (Nat.le_refl _) _
  obtain ⟨c0, c1, c2, c3⟩ := plan_cells w sd n a q _ (Below.refl _ _)
  unfold plOk plV
  generalize decide (0 ≤ sd ∧ sd ≤ 72057594037927935) = b1 at *
  generalize decide (1 ≤ n ∧ n ≤ 96) = b2 at *
  generalize decide (1 ≤ a ∧ a ≤ 64) = b3 at *
  generalize decide (1 ≤ q ∧ q ≤ 8) = b4 at *
  go_enter Tryz.func12, Tryz.ntmps12
  cases b1 with
  | false =>
    go_wp2_with (go_at_call 26; refine (unhide h1 _).mono ?_; rintro e w' ⟨rfl, rfl⟩)
    go_ret
    exact ⟨rfl, unhide hb⟩
  | true =>
    cases b2 with
    | false =>
      go_wp2_with fail
      refine (unhide h1 _).mono ?_
      rintro e w' ⟨rfl, rfl⟩
      go_wp2_with fail
      refine (unhide h2 _).mono ?_
      rintro e w' ⟨rfl, rfl⟩
      go_wp2
      go_ret
      exact ⟨rfl, unhide hb⟩
    | true =>
      cases b3 with
      | false =>
        go_wp2_with fail
        refine (unhide h1 _).mono ?_
        rintro e w' ⟨rfl, rfl⟩
        go_wp2_with fail
        refine (unhide h2 _).mono ?_
        rintro e w' ⟨rfl, rfl⟩
        go_wp2_with fail
        refine (unhide h3 _).mono ?_
        rintro e w' ⟨rfl, rfl⟩
        go_wp2
        go_ret
        exact ⟨rfl, unhide hb⟩
      | true =>
        go_wp2_with fail
        refine (unhide h1 _).mono ?_
        rintro e w' ⟨rfl, rfl⟩
        go_wp2_with fail
        refine (unhide h2 _).mono ?_
        rintro e w' ⟨rfl, rfl⟩
        go_wp2_with fail
        refine (unhide h3 _).mono ?_
        rintro e w' ⟨rfl, rfl⟩
        go_wp2_with fail
        refine (unhide h4 _).mono ?_
        rintro e w' ⟨rfl, rfl⟩
        go_wp2
        go_ret
        exact ⟨rfl, unhide hb⟩
/-- the seed of a message block -/
def jseed (sd i : Nat) : List UInt8 := [111, 117, 116, 101, 114] ++ putB (sd : Int) 7 ++ putB (i : Int) 2
theorem jseed_len (sd i : Nat) : (jseed sd i).length = 14 := by simp [jseed, putB_length]
/-- what is picked, rising -/
def joI (sd a q i : Nat) : List Int := (((pkS (jseed sd i) a 0 (min q a)).2.take (min q a)).map fun (z : Nat) => (z : Int)).mergeSort fun x y => decide (x ≤ y)
theorem joI_len (sd a q i : Nat) : (joI sd a q i).length = min q a := by
  unfold joI
  rw [List.length_mergeSort, List.length_map, List.length_take, pkS_length]
  omega
theorem wNum_two (l : List UInt8) (k : Int) (hl : l.length ≤ 100) (h0 : 0 ≤ k) (h1 : k < 65536) : wNum (l, 0) k 2 = (l ++ putB k 2, 0) := by
  have e : putS k 2 = (putB k 2, 0) := by
    unfold putS
    rw [if_neg (by omega : ¬ ((2 : Int) < 1 ∨ (7 : Int) < 2)), if_neg ?_]
    · rfl
    · rintro (h | h)
      · omega
      · exact h (Int.ediv_eq_zero_of_lt h0 (by show k < 65536; exact h1))
  unfold wNum
  rw [e, if_neg (by simp)]
  exact wRaw_ok _ _ (by rw [putB_length]; omega)
end Go.Proofs.YtkcnihngkmaecaaGreat

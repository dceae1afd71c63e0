/- What the law StoreNil does, whatever the world: it answers true and changes nothing that was there. -/
import Derived.Test.YtgomnmhjkjahlaaStI
namespace Go.Proofs.Ytgomnmhjkjahlaa
open Go.RowKit
set_option linter.unusedVariables false
attribute [local go_sem] Oper.semAt_some

abbrev actV (kind n : Int) (r : Raw) : Value := .agg #[.int .i64 kind, .int .i64 n, .int .i64 r.id, .int .i64 r.peer, .int .i64 r.mode, .int .i64 r.seed, .string r.hv, .slice r.a0 r.idx.length r.cap, .string r.dt]
/-- not more than statements go through -/
def fewB (r : Raw) : Bool := decide ((r.idx.length : Int) ≤ 170) && (decide ((r.dt.size : Int) ≤ 100) && decide ((r.hv.size : Int) ≤ 100))
set_option maxRecDepth 100000 in
theorem few_any (kind n : Int) (r : Raw) (w : World) : Calls Try.prog 11 #[actV kind n r] w fun e w' => e = .returned (.bool (fewB r)) ∧ Below w.heap.size w w' := by
  unfold fewB
  by_cases h1 : (r.idx.length : Int) ≤ 170
  · by_cases h2 : (r.dt.size : Int) ≤ 100
    · by_cases h3 : (r.hv.size : Int) ≤ 100
      all_goals
        go_enter Try.func11, Try.ntmps11
        go_wp2
        go_ret
        exact ⟨ret_bool (by simp; omega), (Below.refl _ _).alloc (Nat.le_refl _) _⟩
    · go_enter Try.func11, Try.ntmps11
      go_wp2
      go_ret
      exact ⟨ret_bool (by simp; omega), (Below.refl _ _).alloc (Nat.le_refl _) _⟩
  · go_enter Try.func11, Try.ntmps11
    go_wp2
    go_ret
    exact ⟨ret_bool (by simp; omega), (Below.refl _ _).alloc (Nat.le_refl _) _⟩
set_option maxRecDepth 100000 in
set_option maxHeartbeats 2000000 in
theorem storeNil_any (x : Raw) (n : Int) (w : World) : Calls Try.prog 7 #[rawV x, .int .i64 n] w fun e w' => e = .returned (.bool true) ∧ Below w.heap.size w w' := by
  have B0 : Below w.heap.size w (w.alloc (.cells (rawC x) 34)) := (Below.refl _ w).alloc (Nat.le_refl _) _
  have hX := heap_alloc_new w (.cells (rawC x) 34)
  have hf := hide (fun w => few_any 0 0 x w)
  have HB0 := hide B0
  have HX := hide hX
  clear B0 hX
  go_enter Try.func7, Try.ntmps7
  cases hfb : fewB x with
  | false =>
    rw [hfb] at hf
    go_wp2_with fail
    refine (unhide hf _).mono ?_
    rintro e w1 ⟨rfl, hb1⟩
    have HB1 := hide ((unhide HB0).trans (hb1.mono (unhide HB0).size))
    clear hb1
    go_wp2_with fail
    refine (sawake_any w1).mono ?_
    rintro e w2 ⟨rfl, hb2⟩
    have HB2 := hide ((unhide HB1).trans (hb2.mono (unhide HB1).size))
    clear hb2
    go_wp2
    go_ret
    exact ⟨rfl, unhide HB2⟩
  | true =>
    rw [hfb] at hf
    go_wp2_with fail
    refine (unhide hf _).mono ?_
    rintro e w1 ⟨rfl, hb1⟩
    have HB1 := hide ((unhide HB0).trans (hb1.mono (unhide HB0).size))
    obtain ⟨c0, c1, c2, c3, c4, c5, c6, f0⟩ := row7 ((hb1.block _ (lt_of_block (unhide HX))).trans (unhide HX))
    clear hb1
    go_wp2_with fail
    refine (add_nil x w1).mono ?_
    rintro e w2 ⟨rfl, hb2⟩
    have HB2 := hide ((unhide HB1).trans (hb2.mono (unhide HB1).size))
    clear hb2 c0 c1 c2 c3 c4 c5 c6 f0
    go_wp2_with fail
    refine (get_nil n w2).mono ?_
    rintro e w3 ⟨rfl, hb3⟩
    have HB3 := hide (((unhide HB2).trans (hb3.mono (unhide HB2).size)).alloc (Nat.le_trans (unhide HB2).size hb3.size) (.cells zC 34))
    clear hb3
    go_wp2_with fail
    refine (sawake_any _).mono ?_
    rintro e w4 ⟨rfl, hb4⟩
    have HB4 := hide ((unhide HB3).trans (hb4.mono (unhide HB3).size))
    clear hb4
    go_wp2_with fail
    refine (drop_nil n w4).mono ?_
    rintro e w5 ⟨rfl, rfl⟩
    go_wp2_with fail
    refine (dropPeer_nil n w4).mono ?_
    rintro e w6 ⟨rfl, hb6⟩
    have HB6 := hide ((unhide HB4).trans (hb6.mono (unhide HB4).size))
    clear hb6
    go_wp2_with fail
    refine (all_nil w6).mono ?_
    rintro e w7 ⟨rfl, rfl⟩
    go_wp2_with fail
    refine (of_nil n w6).mono ?_
    rintro e w8 ⟨rfl, hb8⟩
    have HB8 := hide ((unhide HB6).trans (hb8.mono (unhide HB6).size))
    clear hb8
    go_wp2_with fail
    refine (with_nil n w8).mono ?_
    rintro e w9 ⟨rfl, hb9⟩
    have HB9 := hide ((unhide HB8).trans (hb9.mono (unhide HB8).size))
    clear hb9
    go_wp2_with fail
    refine (len_nil w9).mono ?_
    rintro e w10 ⟨rfl, rfl⟩
    go_wp2_with fail
    refine (room_nil w9).mono ?_
    rintro e w11 ⟨rfl, rfl⟩
    go_wp2
    go_ret
    exact ⟨rfl, unhide HB9⟩
end Go.Proofs.Ytgomnmhjkjahlaa

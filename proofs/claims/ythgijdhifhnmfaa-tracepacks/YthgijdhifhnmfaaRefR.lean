/- Contracts of the document's own reader, of layer 2. -/
import Derived.Test.YthgijdhifhnmfaaOctR
import Derived.Test.YthgijdhifhnmfaaRefV
import Derived.BigRegion
import Derived.Test.YthgijdhifhnmfaaReg
import Derived.Deep.DrawnRows
import Derived.Deep.RegionLaw
namespace Go.Proofs.Ythgijdhifhnmfaa
open Go.RowKit
set_option linter.unusedVariables false

/-- what the document's reader hands back -/
def gV (n : Int) (t : ByteArray) (p : ByteArray × Int) : Value := .agg #[.string p.1, .int .i64 p.2, .int .i64 n, .string t]

theorem qraw_bad (S : ByteArray) (E n : Int) (w : World) (hE : (E != 0) = true) :
    Calls Try.prog 49 #[.agg #[.string S, .int .i64 E], .int .i64 n] w fun x w' => x = .returned (gV 0 ⟨#[]⟩ (S, E)) ∧ Below w.heap.size w w' := by
  go_enter Try.func49, Try.ntmps49
  go_wp2
  exact ret_cell rfl (w.heap.size + 1) 65 #[.string S, .int .i64 E, .int .i64 0, .string ⟨#[]⟩] (0, 0) _ rfl (heap2_b _ _ _) rfl Try.underlying65 (by kernel_rfl) ⟨rfl, below2 _ _ _⟩
theorem qraw_arg (S : ByteArray) (n : Int) (w : World) (hn : n < 0) :
    Calls Try.prog 49 #[.agg #[.string S, .int .i64 0], .int .i64 n] w fun x w' => x = .returned (gV 0 ⟨#[]⟩ (S, 1)) ∧ Below w.heap.size w w' := by
  go_enter Try.func49, Try.ntmps49
  go_wp2
  exact ret_cell rfl (w.heap.size + 1) 65 #[.string S, .int .i64 1, .int .i64 0, .string ⟨#[]⟩] (0, 0) _ rfl (heap2_b _ _ _) rfl Try.underlying65 (by kernel_rfl) ⟨rfl, below2 _ _ _⟩
theorem qraw_short (S : ByteArray) (n : Int) (w : World) (hs : S.size ≤ maxLen) (hn : ¬ n < 0) (hb : (S.size : Int) < n) :
    Calls Try.prog 49 #[.agg #[.string S, .int .i64 0], .int .i64 n] w fun x w' => x = .returned (gV 0 ⟨#[]⟩ (S, 7)) ∧ Below w.heap.size w w' := by
  unfold maxLen at hs
  go_enter Try.func49, Try.ntmps49
  go_wp2
  exact ret_cell rfl (w.heap.size + 1) 65 #[.string S, .int .i64 7, .int .i64 0, .string ⟨#[]⟩] (0, 0) _ rfl (heap2_b _ _ _) rfl Try.underlying65 (by kernel_rfl) ⟨rfl, below2 _ _ _⟩
theorem qraw_ok (S : ByteArray) (m : Nat) (w : World) (hs : S.size ≤ maxLen) (hb : (m : Int) ≤ S.size) :
    Calls Try.prog 49 #[.agg #[.string S, .int .i64 0], .int .i64 m] w fun x w' => x = .returned (gV 0 (S.extract 0 m) (S.extract m S.size, 0)) ∧ Below w.heap.size w w' := by
  unfold maxLen at hs
  go_enter Try.func49, Try.ntmps49
  go_wp2
  go_region
  go_wp2
  exact ret_cell rfl (w.heap.size + 1) 65 #[.string (S.extract m S.size), .int .i64 0, .int .i64 0, .string (S.extract 0 m)] (0, 0) _ rfl (heap2_b _ _ _) rfl Try.underlying65 (by kernel_rfl) ⟨rfl, (below2 _ _ _).drew⟩
theorem qraw_any (p : ByteArray × Int) (n : Int) (w : World) (hs : p.1.size ≤ maxLen) :
    Calls Try.prog 49 #[vV p, .int .i64 n] w fun x w' => x = .returned (gV 0 (raw p n).1 (raw p n).2) ∧ Below w.heap.size w w' := by
  obtain ⟨S, E⟩ := p
  unfold raw
  by_cases e0 : E = 0
  · subst e0
    rw [if_neg (show ¬ (0 : Int) ≠ 0 by simp)]
    by_cases hn : n < 0
    · rw [if_pos hn]; exact qraw_arg S n w hn
    · rw [if_neg hn]
      by_cases hb : (S.size : Int) < n
      · rw [if_pos hb]; exact qraw_short S n w hs hn hb
      · rw [if_neg hb]
        obtain ⟨m, rfl⟩ := Int.eq_ofNat_of_zero_le (show 0 ≤ n by omega)
        rw [Int.toNat_natCast]
        exact qraw_ok S m w hs (by omega)
  · rw [if_pos e0]
    exact qraw_bad S E n w (by simpa using e0)

theorem map_one' (f : Operand → Value) (x : Operand) : #[x].map f = #[f x] := by simp
theorem step_call_eq {P : Program} {ops : Array Oper} {o : Oper} {a : Act} {w : World} {K : Act → World → Prop} {Q : Exit → Act → World → Prop} {E : Prop} (hgd : o.guard = none)
    (f : FuncId) (xs : Array Operand) (ats : Array TypeId) (ho : o.op = .call { callee := .value (.func f), args := xs, argTypes := ats }) (henter : ∀ args w, (callFunc f args).run P w = .ok (.enter f args) w)
    (vs : Array Value) (hvs : xs.map a.eval = vs) (v : Value) (hc : Calls P f vs w fun e w' => e = .returned v ∧ w = w') (h : K (a.put o.dst v) w) :
    if Region.wanted o (yielded ops a.tmps) = true then Oper.wp P o a w K Q else E := by
  have hw : Region.wanted o (yielded ops a.tmps) = true := by simp [Region.wanted, hgd]
  rw [if_pos hw]
  refine wp_call f xs ats ho henter vs hvs hc ?_
  rintro e w' ⟨rfl, rfl⟩
  exact ⟨v, rfl, h⟩


theorem qnum_bad (S : ByteArray) (E n : Int) (w : World) (hE : (E != 0) = true) :
    Calls Try.prog 32 #[.agg #[.string S, .int .i64 E], .int .i64 n] w fun x w' => x = .returned (gV 0 ⟨#[]⟩ (S, E)) ∧ Below w.heap.size w w' := by
  go_enter Try.func32, Try.ntmps32
  go_wp2
  exact ret_cell rfl (w.heap.size + 1) 65 #[.string S, .int .i64 E, .int .i64 0, .string ⟨#[]⟩] (0, 0) _ rfl (heap2_b _ _ _) rfl Try.underlying65 (by kernel_rfl) ⟨rfl, below2 _ _ _⟩
theorem qnum_arg (S : ByteArray) (n : Int) (w : World) (hn : n < 1 ∨ 7 < n) :
    Calls Try.prog 32 #[.agg #[.string S, .int .i64 0], .int .i64 n] w fun x w' => x = .returned (gV 0 ⟨#[]⟩ (S, 1)) ∧ Below w.heap.size w w' := by
  rcases (show n < 1 ∨ (¬ n < 1 ∧ 7 < n) by omega) with h | ⟨h, h2⟩
  all_goals
    clear hn
    go_enter Try.func32, Try.ntmps32
    go_wp2
    exact ret_cell rfl (w.heap.size + 1) 65 #[.string S, .int .i64 1, .int .i64 0, .string ⟨#[]⟩] (0, 0) _ rfl (heap2_b _ _ _) rfl Try.underlying65 (by kernel_rfl) ⟨rfl, below2 _ _ _⟩
theorem qnum_short (S : ByteArray) (n : Int) (w : World) (hs : S.size ≤ maxLen) (h1 : ¬ n < 1) (h7 : ¬ 7 < n) (hb : (S.size : Int) < n) :
    Calls Try.prog 32 #[.agg #[.string S, .int .i64 0], .int .i64 n] w fun x w' => x = .returned (gV 0 ⟨#[]⟩ (S, 7)) ∧ Below w.heap.size w w' := by
  unfold maxLen at hs
  go_enter Try.func32, Try.ntmps32
  go_wp2
  exact ret_cell rfl (w.heap.size + 1) 65 #[.string S, .int .i64 7, .int .i64 0, .string ⟨#[]⟩] (0, 0) _ rfl (heap2_b _ _ _) rfl Try.underlying65 (by kernel_rfl) ⟨rfl, below2 _ _ _⟩
theorem qnum_ok (S : ByteArray) (m : Nat) (w : World) (hs : S.size ≤ maxLen) (h1 : 1 ≤ m) (h7 : m ≤ 7) (hb : (m : Int) ≤ S.size) :
    Calls Try.prog 32 #[.agg #[.string S, .int .i64 0], .int .i64 m] w fun x w' => x = .returned (gV (getV (S.extract 0 m).data.toList) ⟨#[]⟩ (S.extract m S.size, 0)) ∧ Below w.heap.size w w' := by
  unfold maxLen at hs
  have hl : (S.extract 0 m).size ≤ 7 := by rw [ByteArray.size_extract]; omega
  have hg := hide (fun w => rget_any (S.extract 0 m) w hl)
  generalize getV (S.extract 0 m).data.toList = v at *
  have g1 : ¬ (m : Int) < 1 := by omega
  have g7 : ¬ (7 : Int) < m := by omega
  have gb : ¬ (S.size : Int) < m := by omega
  clear hl
  go_enter Try.func32, Try.ntmps32
  go_wp2
  go_region_law ((refine step_call_eq rfl 48 #[.tmp 37] #[9] rfl Try.call48 #[.string (S.extract 0 m)] (by rw [map_one']; rfl) (.int .i64 v) (unhide hg _) ?_))
  all_goals
    go_wp2
    exact ret_cell rfl (w.heap.size + 1) 65 #[.string (S.extract m S.size), .int .i64 0, .int .i64 v, .string ⟨#[]⟩] (0, 0) _ rfl (heap2_b _ _ _) rfl Try.underlying65 (by kernel_rfl) ⟨rfl, (below2 _ _ _).drew⟩
theorem qnum_any (p : ByteArray × Int) (n : Int) (w : World) (hs : p.1.size ≤ maxLen) :
    Calls Try.prog 32 #[vV p, .int .i64 n] w fun x w' => x = .returned (gV (num p n).1 ⟨#[]⟩ (num p n).2) ∧ Below w.heap.size w w' := by
  obtain ⟨S, E⟩ := p
  unfold num
  by_cases e0 : E = 0
  · subst e0
    rw [if_neg (show ¬ (0 : Int) ≠ 0 by simp)]
    by_cases hn : n < 1 ∨ 7 < n
    · rw [if_pos hn]; exact qnum_arg S n w hn
    · rw [if_neg hn]
      unfold raw
      rw [if_neg (show ¬ (0 : Int) ≠ 0 by simp), if_neg (by omega)]
      by_cases hb : (S.size : Int) < n
      · rw [if_pos hb]; exact qnum_short S n w hs (by omega) (by omega) hb
      · rw [if_neg hb]
        obtain ⟨m, rfl⟩ := Int.eq_ofNat_of_zero_le (show 0 ≤ n by omega)
        rw [Int.toNat_natCast]
        exact qnum_ok S m w hs (by omega) (by omega) (by omega)
  · rw [if_pos e0]
    exact qnum_bad S E n w (by simpa using e0)

end Go.Proofs.Ythgijdhifhnmfaa

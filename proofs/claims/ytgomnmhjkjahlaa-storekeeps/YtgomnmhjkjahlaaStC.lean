/- store: the closures that pick is handed. -/
import Derived.Test.YtgomnmhjkjahlaaStB
namespace Go.Proofs.Ytgomnmhjkjahlaa
open Go.RowKit
set_option linter.unusedVariables false
attribute [local go_sem] Oper.semAt_some

theorem bcell {W w1 : World} (hb : Below W.heap.size W w1) : (∀ b o, b < W.heap.size → w1.cell? ⟨b, o, none⟩ = W.cell? ⟨b, o, none⟩) ∧ (∀ b o, b < W.heap.size → w1.frozen? ⟨b, o, none⟩ = W.frozen? ⟨b, o, none⟩) :=
  ⟨fun b o h => hb.cell (p := ⟨b, o, none⟩) h, fun b o h => hb.frozen (p := ⟨b, o, none⟩) h⟩
set_option maxRecDepth 100000 in
theorem all1_any (r : Raw) (w : World) : Calls Try.prog 38 #[rawV r] w fun e w' => e = .returned (.bool true) ∧ Below w.heap.size w w' := by
  go_enter Try.func38, Try.ntmps38
  go_wp2
  go_ret
  exact ⟨rfl, (Below.refl _ _).alloc (Nat.le_refl _) _⟩
set_option maxRecDepth 100000 in
theorem of1_any (r : Raw) (w : World) (g : Nat) (peer : Int) (hc : w.cell? ⟨g, 0, none⟩ = some (.int .i64 peer)) : Calls Try.prog 39 #[rawV r, .pointer (some ⟨g, 0, none⟩)] w fun e w' => e = .returned (.bool (r.peer == peer)) ∧ Below w.heap.size w w' := by
  have hg := cell_lt hc
  go_enter Try.func39, Try.ntmps39
  go_wp2
  go_ret
  exact ⟨rfl, (Below.refl _ _).alloc (Nat.le_refl _) _⟩
set_option maxRecDepth 100000 in
theorem with1_any (r : Raw) (w : World) (g : Nat) (num : Int) (hc : w.cell? ⟨g, 0, none⟩ = some (.int .i64 num)) (hI : Ints w r.a0 r.idx) (hl : r.idx.length ≤ 100000) : Calls Try.prog 40 #[rawV r, .pointer (some ⟨g, 0, none⟩)] w fun e w' => e = .returned (.bool (decide (num ∈ r.idx))) ∧ Below w.heap.size w w' := by
  have hg := cell_lt hc
  have hct := hide (fun w' (hb : Below w.heap.size w w') => icontains_any w' r.idx r.a0 r.cap num hl (hI.below hb))
  have B0 : Hid (Below w.heap.size w (w.alloc (.cells #[.int .i64 r.id, .int .i64 r.peer, .int .i64 r.mode, .int .i64 r.seed, .string r.hv, .slice r.a0 r.idx.length r.cap, .string r.dt] 34))) := (Below.refl _ w).alloc (Nat.le_refl _) _
  clear hI
  go_enter Try.func40, Try.ntmps40
  go_wp2_with fail
  refine (unhide hct _ (unhide B0)).mono ?_
  rintro e w' ⟨rfl, rfl⟩
  go_wp2
  go_ret
  exact ⟨rfl, unhide B0⟩
/-- is it the peer's entry of that head? -/
def hasB (peer mode seed : Int) (hv : ByteArray) (r : Raw) : Bool := decide (r.peer = peer ∧ r.mode = mode ∧ r.seed = seed ∧ r.hv.toList = hv.toList)
theorem ret_bool {a b : Bool} (h : a = b) : Ending.returned (.bool a) = .returned (.bool b) := by rw [h]
set_option maxRecDepth 100000 in
theorem has1_any (r : Raw) (w : World) (g h : Nat) (peer mode seed : Int) (hv : ByteArray) (hc : w.cell? ⟨g, 0, none⟩ = some (.int .i64 peer)) (h0 : w.cell? ⟨h, 0, none⟩ = some (.int .i64 mode)) (h1 : w.cell? ⟨h, 1, none⟩ = some (.int .i64 seed)) (h2 : w.cell? ⟨h, 2, none⟩ = some (.string hv)) :
    Calls Try.prog 45 #[rawV r, .pointer (some ⟨g, 0, none⟩), .pointer (some ⟨h, 0, none⟩)] w fun e w' => e = .returned (.bool (hasB peer mode seed hv r)) ∧ Below w.heap.size w w' := by
  have hg := cell_lt hc
  have hh := cell_lt h0
  cases e1 : (r.peer == peer) with
  | false =>
    have HE : Hid (false = hasB peer mode seed hv r) := by
      show _ = _
      unfold hasB
      symm
      simp at e1 ⊢
      intro h
      exact absurd h e1
    go_enter Try.func45, Try.ntmps45
    go_wp2
    go_ret
    exact ⟨ret_bool (unhide HE), (Below.refl _ _).alloc (Nat.le_refl _) _⟩
  | true =>
    have HE : Hid (r.peer = peer) := by show _ = _; simpa using e1
    by_cases m1 : r.mode = mode
    · by_cases m2 : r.seed = seed
      · by_cases m3 : r.hv.toList = hv.toList
        · have HB : Hid (true = hasB peer mode seed hv r) := by
            show _ = _
            unfold hasB
            rw [decide_eq_true ⟨unhide HE, m1, m2, m3⟩]
          go_enter Try.func45, Try.ntmps45
          go_wp2
          go_ret
          exact ⟨ret_bool (unhide HB), (Below.refl _ _).alloc (Nat.le_refl _) _⟩
        · have HB : Hid (false = hasB peer mode seed hv r) := by
            show _ = _
            unfold hasB
            rw [decide_eq_false (fun h => m3 h.2.2.2)]
          go_enter Try.func45, Try.ntmps45
          go_wp2
          go_ret
          exact ⟨ret_bool (unhide HB), (Below.refl _ _).alloc (Nat.le_refl _) _⟩
      · have HB : Hid (false = hasB peer mode seed hv r) := by
          show _ = _
          unfold hasB
          rw [decide_eq_false (fun h => m2 h.2.2.1)]
        go_enter Try.func45, Try.ntmps45
        go_wp2
        go_ret
        exact ⟨ret_bool (unhide HB), (Below.refl _ _).alloc (Nat.le_refl _) _⟩
    · have HB : Hid (false = hasB peer mode seed hv r) := by
        show _ = _
        unfold hasB
        rw [decide_eq_false (fun h => m1 h.2.1)]
      go_enter Try.func45, Try.ntmps45
      go_wp2
      go_ret
      exact ⟨ret_bool (unhide HB), (Below.refl _ _).alloc (Nat.le_refl _) _⟩
end Go.Proofs.Ytgomnmhjkjahlaa

/- tracker: bounds, a note that may be, what a table is, New. -/
import Derived.Test.YtjdphcjapdklpaaTkA
import Derived.Test.YtjdphcjapdklpaaTwo
import Derived.Test.YtjdphcjapdklpaaGrT
import Derived.Test.YtjdphcjapdklpaaDo
namespace Go.Proofs.Ytjdphcjapdklpaa
open Go.RowKit
set_option linter.unusedVariables false
attribute [local go_sem] Oper.semAt_some

set_option maxRecDepth 100000 in
theorem tfrom_any (a n b : Int) (w : World) : Calls Try.prog 16 #[.int .i64 a, .int .i64 n, .int .i64 b] w fun e w' => e = .returned (.bool (decide (a ≤ n ∧ n ≤ b))) ∧ w = w' := by
  by_cases h1 : a ≤ n
  · by_cases h2 : n ≤ b
    · rw [decide_eq_true ⟨h1, h2⟩]
      go_enter Try.func16, Try.ntmps16
      go_wp2
      go_ret
      exact ⟨rfl, rfl⟩
    · rw [decide_eq_false (fun h => h2 h.2)]
      go_enter Try.func16, Try.ntmps16
      go_wp2
      go_ret
      exact ⟨rfl, rfl⟩
  · rw [decide_eq_false (fun h => h1 h.1)]
    go_enter Try.func16, Try.ntmps16
    go_wp2
    go_ret
    exact ⟨rfl, rfl⟩
def isT (now : Int) : Bool := decide (0 ≤ now ∧ now ≤ 1099511627776)
def isN (n : Int) : Bool := decide (1 ≤ n ∧ n ≤ 15)
set_option maxRecDepth 100000 in
theorem ttime_any (now : Int) (w : World) : Calls Try.prog 17 #[.int .i64 now] w fun e w' => e = .returned (.bool (isT now)) ∧ w = w' := by
  have h := hide (tfrom_any 0 now 1099511627776 w)
  unfold isT
  generalize decide (0 ≤ now ∧ now ≤ 1099511627776) = b at *
  go_enter Try.func17, Try.ntmps17
  go_wp2_with fail
  refine (unhide h).mono ?_
  rintro e w1 ⟨rfl, rfl⟩
  go_wp2
  go_ret
  exact ⟨rfl, rfl⟩
set_option maxRecDepth 100000 in
theorem tnode_any (n : Int) (w : World) : Calls Try.prog 21 #[.int .i64 n] w fun e w' => e = .returned (.bool (isN n)) ∧ w = w' := by
  have h := hide (tfrom_any 1 n 15 w)
  unfold isN
  generalize decide (1 ≤ n ∧ n ≤ 15) = b at *
  go_enter Try.func21, Try.ntmps21
  go_wp2_with fail
  refine (unhide h).mono ?_
  rintro e w1 ⟨rfl, rfl⟩
  go_wp2
  go_ret
  exact ⟨rfl, rfl⟩

/-! ### places -/
def rv (x y : Int) : Value := .agg #[.int .i64 x, .int .i64 y]
def okN (n : Int) : Bool := decide (-1048576 ≤ n ∧ n ≤ 1048576)
def okP (x y : Int) : Bool := okN x && okN y
set_option maxRecDepth 100000 in
theorem ispart_any (n : Int) (w : World) : Calls Try.prog 30 #[.int .i64 n] w fun e w' => e = .returned (.bool (okN n)) ∧ w = w' := by
  unfold okN
  by_cases h1 : -1048576 ≤ n
  · by_cases h2 : n ≤ 1048576
    · rw [decide_eq_true ⟨h1, h2⟩]
      go_enter Try.func30, Try.ntmps30
      go_wp2
      go_ret
      exact ⟨rfl, rfl⟩
    · rw [decide_eq_false (fun h => h2 h.2)]
      go_enter Try.func30, Try.ntmps30
      go_wp2
      go_ret
      exact ⟨rfl, rfl⟩
  · rw [decide_eq_false (fun h => h1 h.1)]
    go_enter Try.func30, Try.ntmps30
    go_wp2
    go_ret
    exact ⟨rfl, rfl⟩
set_option maxRecDepth 100000 in
theorem check_any (x y : Int) (w : World) : Calls Try.prog 25 #[rv x y] w fun e w' => e = .returned (.bool (okP x y)) ∧ Below w.heap.size w w' := by
  have b0 : Hid (Below w.heap.size w (w.alloc (.cells #[.int .i64 x, .int .i64 y] 23))) := (Below.refl _ w).alloc (Nat.le_refl _) _
  have c0 := (two_alloc w (.int .i64 x) (.int .i64 y) 23).c0
  have c1 := (two_alloc w (.int .i64 x) (.int .i64 y) 23).c1
  unfold rv okP
  have hx := hide (fun w => ispart_any x w)
  have hy := hide (fun w => ispart_any y w)
  generalize okN x = A at *
  generalize okN y = B at *
  cases A
  · go_enter Try.func25, Try.ntmps25
    go_wp2_with fail
    refine (unhide hx _).mono ?_
    rintro e w1 ⟨rfl, rfl⟩
    go_wp2_with fail
    go_ret
    exact ⟨rfl, unhide b0⟩
  · go_enter Try.func25, Try.ntmps25
    go_wp2_with fail
    refine (unhide hx _).mono ?_
    rintro e w1 ⟨rfl, rfl⟩
    go_wp2_with fail
    refine (unhide hy _).mono ?_
    rintro e w1 ⟨rfl, rfl⟩
    go_wp2_with fail
    go_ret
    exact ⟨by simp, unhide b0⟩
/-- may a note be announced at a time? -/
def mayN (p : Nt) (now : Int) : Bool := decide (p.nm.length = 32) && (isN p.nd && (okP p.x p.y && decide (now ≤ p.un ∧ p.un ≤ 1099511627776)))
theorem note_cells {W : World} {g : Nat} {p : Nt} {t : TypeId} {fr : Nat × Nat} (h : W.heap[g]? = some (.cells p.cl.toArray t fr)) : (W.cell? ⟨g, 0, none⟩ = some (.string (bs p.nm)) ∧ W.cell? ⟨g, 1, none⟩ = some (.int .i64 p.nd) ∧ W.cell? ⟨g, 2, none⟩ = some (.int .i64 p.x) ∧ W.cell? ⟨g, 3, none⟩ = some (.int .i64 p.y) ∧ W.cell? ⟨g, 4, none⟩ = some (.int .i64 p.un)) ∧ g < W.heap.size :=
  ⟨⟨cell_of_row _ _ 0 _ _ _ h, cell_of_row _ _ 1 _ _ _ h, cell_of_row _ _ 2 _ _ _ h, cell_of_row _ _ 3 _ _ _ h, cell_of_row _ _ 4 _ _ _ h⟩, lt_of_block h⟩
set_option maxRecDepth 100000 in
set_option maxHeartbeats 2000000 in
theorem tmay_any (p : Nt) (now : Int) (w : World) (hl : p.nm.length ≤ maxLen) : Calls Try.prog 18 #[.agg p.cl.toArray, .int .i64 now] w fun e w' => e = .returned (.bool (mayN p now)) ∧ Below w.heap.size w w' := by
  have hb0 : Below w.heap.size w (w.alloc (.cells p.cl.toArray 25)) := (Below.refl _ w).alloc (Nat.le_refl _) _
  have h0 := heap_alloc_new w (.cells p.cl.toArray 25)
  have HN := hide (fun W => tnode_any p.nd W)
  have HC := hide (fun W => check_any p.x p.y W)
  have HF := hide (fun W => tfrom_any now p.un 1099511627776 W)
  have hlen : (bs p.nm).size = p.nm.length := bs_size _
  have HM : Hid (mayN p now = (decide (p.nm.length = 32) && (isN p.nd && (okP p.x p.y && decide (now ≤ p.un ∧ p.un ≤ 1099511627776))))) := rfl
  generalize mayN p now = V at *
  obtain ⟨W0, hW0⟩ : ∃ W0, W0 = w.alloc (.cells p.cl.toArray 25) := ⟨_, rfl⟩
  rw [← hW0] at hb0 h0
  have HW := hide hW0
  have B0 := hide hb0
  have H0 := hide h0
  clear hb0 h0 hW0
  obtain ⟨nm, nd, x, y, un⟩ := p
  unfold Nt.cl at *
  dsimp only at *
  have HCL : Hid (∀ W, Below W0.heap.size W0 W → (W.cell? ⟨w.heap.size, 0, none⟩ = some (.string (bs nm)) ∧ W.cell? ⟨w.heap.size, 1, none⟩ = some (.int .i64 nd) ∧ W.cell? ⟨w.heap.size, 2, none⟩ = some (.int .i64 x) ∧ W.cell? ⟨w.heap.size, 3, none⟩ = some (.int .i64 y) ∧ W.cell? ⟨w.heap.size, 4, none⟩ = some (.int .i64 un)) ∧ w.heap.size < W.heap.size) := fun W hW =>
    note_cells (p := ⟨nm, nd, x, y, un⟩) ((hW.block _ (lt_of_block (unhide H0))).trans (unhide H0))
  generalize isN nd = I at *
  generalize okP x y = P at *
  generalize decide (now ≤ un ∧ un ≤ 1099511627776) = Q at *
  unfold rv at HC
  obtain ⟨t, ht⟩ : ∃ t, t = bs nm := ⟨_, rfl⟩
  rw [← ht] at hlen HW HCL ⊢
  have hl2 : t.size ≤ maxLen := by rw [hlen]; exact hl
  by_cases h32 : nm.length = 32
  · have q32 : (t.size : Int) = 32 := by omega
    have q33 : ((t.size : Int) == 32) = true := by simp [q32]
    have HM2 : Hid (V = (I && (P && Q))) := (unhide HM).trans (by rw [decide_eq_true h32, Bool.true_and])
    clear HM H0 ht hlen h32 hl
    go_enter Try.func18, Try.ntmps18
    go_wp2_with fail
    rw [← unhide HW]
    clear HW
    obtain ⟨⟨c0, c1, c2, c3, c4⟩, cl⟩ := unhide HCL W0 (Below.refl _ _)
    go_wp2_with fail
    refine (unhide HN _).mono ?_
    rintro e w1 ⟨rfl, rfl⟩
    cases I with
    | false =>
      go_wp2
      go_ret
      exact ⟨by rw [unhide HM2]; rfl, unhide B0⟩
    | true =>
    go_wp2_with fail
    refine (unhide HC _).mono ?_
    rintro e w1 ⟨rfl, b1⟩
    have B1 := hide b1
    clear c0 c1 c2 c3 c4 cl b1
    obtain ⟨⟨c0, c1, c2, c3, c4⟩, cl⟩ := unhide HCL w1 (unhide B1)
    have B2 := hide ((unhide B0).trans ((unhide B1).mono (unhide B0).size))
    clear B0 B1
    cases P with
    | false =>
      go_wp2
      go_ret
      exact ⟨by rw [unhide HM2]; rfl, unhide B2⟩
    | true =>
    go_wp2_with fail
    refine (unhide HF _).mono ?_
    rintro e w2 ⟨rfl, rfl⟩
    go_wp2
    go_ret
    exact ⟨by rw [unhide HM2]; simp, unhide B2⟩
  · have q32 : ¬ (t.size : Int) = 32 := by omega
    have q33 : ((t.size : Int) == 32) = false := by simpa using q32
    have HM2 : Hid (V = false) := (unhide HM).trans (by rw [decide_eq_false h32, Bool.false_and])
    clear HM H0 ht hlen h32 hl
    go_enter Try.func18, Try.ntmps18
    go_wp2_with fail
    rw [← unhide HW]
    clear HW
    obtain ⟨⟨c0, c1, c2, c3, c4⟩, cl⟩ := unhide HCL W0 (Below.refl _ _)
    go_wp2_with fail
    go_ret
    exact ⟨by rw [unhide HM2]; rfl, unhide B0⟩
end Go.Proofs.Ytjdphcjapdklpaa

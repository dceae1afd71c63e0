/- gauss's rows: has. -/
import Derived.Test.YtpcndjnhpjhjkaaDoorGaM
import Derived.Laws.Bits64
import Derived.Laws.Bits64b
import Derived.BigRegion
import Derived.Deep.MidRow
namespace Go.Proofs.YtpcndjnhpjhjkaaDoor
open Go.RowKit
set_option linter.unusedVariables false
attribute [local go_sem] Oper.semAt_some

/-- a word of a row -/
def wd (R k : Nat) : Nat := R / 2 ^ (64 * k) % 2 ^ 64
/-- a row as the program has it -/
def rowV (R : Nat) : Value := .agg #[.int .u64 (wd R 0), .int .u64 (wd R 1), .int .u64 (wd R 2)]
theorem wd_lt (R k : Nat) : wd R k < 2 ^ 64 := Nat.mod_lt _ (by decide)
theorem wd_bit (R k s : Nat) (h : s < 64) : (wd R k).testBit s = R.testBit (64 * k + s) := by
  unfold wd
  rw [Nat.testBit_mod_two_pow, Nat.testBit_div_two_pow]
  simp [h]
  rw [Nat.add_comm]
theorem bit_and (x s : Nat) (h : x < 2 ^ 64) : (bits .and .u64 ((x : Int) / 2 ^ s) 1 == 1) = x.testBit s := by
  have e : ((x : Int) / 2 ^ s) = ((x / 2 ^ s : Nat) : Int) := by simp
  rw [e, show (1 : Int) = ((1 : Nat) : Int) by rfl, bits_and_u64_nat _ 1 (Nat.lt_of_le_of_lt (Nat.div_le_self _ _) h) (by decide)]
  rw [Nat.testBit, Nat.shiftRight_eq_div_pow, Nat.and_comm]
  generalize x / 2 ^ s = y
  rw [Nat.one_and_eq_mod_two]
  rcases Nat.mod_two_eq_zero_or_one y with h | h <;> rw [h] <;> rfl
set_option maxRecDepth 100000 in
set_option maxHeartbeats 1000000 in
theorem rhas_any (R : Nat) (q s : Nat) (hq : q < 3) (hs : s < 64) (w : World) :
    Calls Tryd.prog 50 #[rowV R, .int .i64 ((64 * q + s : Nat) : Int)] w fun e w' => e = .returned (.bool (R.testBit (64 * q + s))) ∧ Below w.heap.size w w' := by
  rw [← wd_bit R q s hs]
  have h0 := wd_lt R 0
  have h1 := wd_lt R 1
  have h2 := wd_lt R 2
  unfold rowV
  generalize hx0 : wd R 0 = x0 at *
  generalize hx1 : wd R 1 = x1 at *
  generalize hx2 : wd R 2 = x2 at *
  obtain rfl | rfl | rfl : q = 0 ∨ q = 1 ∨ q = 2 := by omega
  · have t1 : ((64 * 0 + s : Nat) : Int).tdiv 64 = 0 := by rw [Int.tdiv_eq_ediv_of_nonneg (by omega)]; omega
    have t2 : ((64 * 0 + s : Nat) : Int).tmod 64 = s := by rw [Int.tmod_eq_emod_of_nonneg (by omega)]; omega
    rw [hx0, ← bit_and x0 s h0]
    clear hx0 hx1 hx2
    generalize ((64 * 0 + s : Nat) : Int) = I at *
    go_enter Tryd.func50, Tryd.ntmps50
    go_wp2
    go_ret
    exact ⟨rfl, (Below.refl _ _).alloc (Nat.le_refl _) _⟩
  · have t1 : ((64 * 1 + s : Nat) : Int).tdiv 64 = 1 := by rw [Int.tdiv_eq_ediv_of_nonneg (by omega)]; omega
    have t2 : ((64 * 1 + s : Nat) : Int).tmod 64 = s := by rw [Int.tmod_eq_emod_of_nonneg (by omega)]; omega
    rw [hx1, ← bit_and x1 s h1]
    clear hx0 hx1 hx2
    generalize ((64 * 1 + s : Nat) : Int) = I at *
    go_enter Tryd.func50, Tryd.ntmps50
    go_wp2
    go_ret
    exact ⟨rfl, (Below.refl _ _).alloc (Nat.le_refl _) _⟩
  · have t1 : ((64 * 2 + s : Nat) : Int).tdiv 64 = 2 := by rw [Int.tdiv_eq_ediv_of_nonneg (by omega)]; omega
    have t2 : ((64 * 2 + s : Nat) : Int).tmod 64 = s := by rw [Int.tmod_eq_emod_of_nonneg (by omega)]; omega
    rw [hx2, ← bit_and x2 s h2]
    clear hx0 hx1 hx2
    generalize ((64 * 2 + s : Nat) : Int) = I at *
    go_enter Tryd.func50, Tryd.ntmps50
    go_wp2
    go_ret
    exact ⟨rfl, (Below.refl _ _).alloc (Nat.le_refl _) _⟩
theorem rhas_i (R i : Nat) (hi : i < 192) (w : World) :
    Calls Tryd.prog 50 #[rowV R, .int .i64 (i : Int)] w fun e w' => e = .returned (.bool (R.testBit i)) ∧ Below w.heap.size w w' := by
  have := rhas_any R (i / 64) (i % 64) (by omega) (by omega) w
  rwa [show 64 * (i / 64) + i % 64 = i by omega] at this
theorem results_cell_mid {P : Program} {fn : Func} {p : Tmp} {ty : TypeId} (h : fn.results = #[.cell p ty]) (tmps : Array Value) (w : World) (g o : Nat) (cs : List Value) (d : TypeDesc)
    (hp : tmps.getD p undef = .pointer (some ⟨g, o, none⟩)) (hg : w.rangeAt g o cs)
    (hu : P.underlying ty = some d) (hd : d.isRow = true) (hi : (P.info? ty).map (·.size) = some cs.length) :
    (results fn tmps).run P w = .ok (.agg cs.toArray) w := by
  have hp' : tmps[p]?.getD undef = .pointer (some ⟨g, o, none⟩) := by simpa using hp
  simp [results, h, hp', asAddr, run_loadVar_mid w g o ty cs d hg hu hd hi]
theorem below_setCells2 {B g : Nat} {w0 : World} (hBg : B ≤ g) : ∀ (vs : List Value) (o : Nat) (w : World), Below B w0 w → Below B w0 (w.setCells g o vs)
  | [], _, _, h => h
  | v :: vs, o, w, h => below_setCells2 hBg vs (o + 1) _ (h.setCell hBg v)
theorem heap3_a (w : World) (A B C : Obj) : (((w.alloc A).alloc B).alloc C).heap[w.heap.size]? = some A := by
  rw [Below.heap_alloc _ _ _ (by simp; omega), Below.heap_alloc _ _ _ (by simp)]
  exact heap_alloc_new w A
theorem heap3_b (w : World) (A B C : Obj) : (((w.alloc A).alloc B).alloc C).heap[w.heap.size + 1]? = some B := by
  rw [Below.heap_alloc _ _ _ (by simp)]
  have h := heap_alloc_new (w.alloc A) B
  rwa [show (w.alloc A).heap.size = w.heap.size + 1 by simp] at h
theorem heap3_c (w : World) (A B C : Obj) : (((w.alloc A).alloc B).alloc C).heap[w.heap.size + 2]? = some C := by
  have h := heap_alloc_new ((w.alloc A).alloc B) C
  rwa [show ((w.alloc A).alloc B).heap.size = w.heap.size + 2 by simp] at h
/-! plus -/
theorem wd_xor (R S k : Nat) : wd (R ^^^ S) k = wd R k ^^^ wd S k := by
  apply Nat.eq_of_testBit_eq
  intro i
  unfold wd
  rw [Nat.testBit_xor]
  simp only [Nat.testBit_mod_two_pow, Nat.testBit_div_two_pow, Nat.testBit_xor]
  cases decide (i < 64) <;> simp
set_option maxRecDepth 100000 in
set_option maxHeartbeats 1000000 in
theorem rplus_any (R S : Nat) (w : World) :
    Calls Tryd.prog 55 #[rowV R, rowV S] w fun e w' => e = .returned (rowV (R ^^^ S)) ∧ Below w.heap.size w w' := by
  have e0 := bits_xor_u64_nat (wd R 0) (wd S 0) (wd_lt R 0) (wd_lt S 0)
  have e1 := bits_xor_u64_nat (wd R 1) (wd S 1) (wd_lt R 1) (wd_lt S 1)
  have e2 := bits_xor_u64_nat (wd R 2) (wd S 2) (wd_lt R 2) (wd_lt S 2)
  unfold rowV
  rw [wd_xor, wd_xor, wd_xor]
  generalize wd R 0 = x0 at *
  generalize wd R 1 = x1 at *
  generalize wd R 2 = x2 at *
  generalize wd S 0 = y0 at *
  generalize wd S 1 = y1 at *
  generalize wd S 2 = y2 at *
  generalize x0 ^^^ y0 = z0 at *
  generalize x1 ^^^ y1 = z1 at *
  generalize x2 ^^^ y2 = z2 at *
  go_enter Tryd.func55, Tryd.ntmps55
  go_wp2_with fail
  go_loopw [6] (fun v wr => ∃ k : Nat, k ≤ 3 ∧ v = .int .i64 k ∧ wr.heap[w.heap.size]? = some (.cells #[.int .u64 (if 0 < k then z0 else x0 : Nat), .int .u64 (if 1 < k then z1 else x1 : Nat), .int .u64 (if 2 < k then z2 else x2 : Nat)] 68 (0, 0)) ∧ wr.heap[w.heap.size + 1]? = some (.cells #[.int .u64 y0, .int .u64 y1, .int .u64 y2] 68 (0, 0)) ∧ wr.heap[w.heap.size + 2]? = some (.cells #[.int .u64 0, .int .u64 0, .int .u64 0] 68 (0, 0)) ∧ Below w.heap.size w wr) (fun v _ => 3 - (intOf v).toNat)
  case atStart => exact ⟨0, by omega, rfl, heap3_a _ _ _ _, heap3_b _ _ _ _, heap3_c _ _ _ _, (((Below.refl _ _).alloc (Nat.le_refl _) _).alloc (by simp) _).alloc (by simp; omega) _⟩
  case round =>
    obtain ⟨k, hk, rfl, h1, h2, h3, hb⟩ := hrel
    have HB := hide hb
    have H2 := hide h2
    have H3 := hide h3
    obtain rfl | rfl | rfl | rfl : k = 0 ∨ k = 1 ∨ k = 2 ∨ k = 3 := by omega
    · have g1 : wr.heap[w.heap.size]? = some (.cells #[.int .u64 (x0 : Nat), .int .u64 (x1 : Nat), .int .u64 (x2 : Nat)] 68 (0, 0)) := h1
      have c1 := cell_of_row _ _ 0 _ _ _ g1
      have c2 := cell_of_row _ _ 0 _ _ _ h2
      have f1 := frozen_of_row wr w.heap.size 0 _ _ g1
      have H1 : Hid ((wr.setCell ⟨w.heap.size, 0, none⟩ (.int .u64 (z0 : Nat))).heap[w.heap.size]? = some (.cells #[.int .u64 (z0 : Nat), .int .u64 (x1 : Nat), .int .u64 (x2 : Nat)] 68 (0, 0))) := by
        show _ = _
        rw [heap_setCell_same _ _ _ _ _ _ g1]; rfl
      have H2' : Hid ((wr.setCell ⟨w.heap.size, 0, none⟩ (.int .u64 (z0 : Nat))).heap[w.heap.size + 1]? = some (.cells #[.int .u64 y0, .int .u64 y1, .int .u64 y2] 68 (0, 0))) := by
        show _ = _
        rw [Below.heap_setCell _ _ _ _ (by simp)]; exact unhide H2
      have H3' : Hid ((wr.setCell ⟨w.heap.size, 0, none⟩ (.int .u64 (z0 : Nat))).heap[w.heap.size + 2]? = some (.cells #[.int .u64 0, .int .u64 0, .int .u64 0] 68 (0, 0))) := by
        show _ = _
        rw [Below.heap_setCell _ _ _ _ (by simp)]; exact unhide H3
      clear h1 h2 h3 hb g1
      simp at c1 c2
      go_wp2
      go_region
      go_wp2
      go_roundw
      case rel => exact ⟨1, by omega, by go_num, unhide H1, unhide H2', unhide H3', (below_drawn (unhide HB) 1).setCell (Nat.le_refl _) _⟩
      case measure => simp [intOf]
    · have g1 : wr.heap[w.heap.size]? = some (.cells #[.int .u64 (z0 : Nat), .int .u64 (x1 : Nat), .int .u64 (x2 : Nat)] 68 (0, 0)) := h1
      have c1 := cell_of_row _ _ 1 _ _ _ g1
      have c2 := cell_of_row _ _ 1 _ _ _ h2
      have f1 := frozen_of_row wr w.heap.size 1 _ _ g1
      have H1 : Hid ((wr.setCell ⟨w.heap.size, 1, none⟩ (.int .u64 (z1 : Nat))).heap[w.heap.size]? = some (.cells #[.int .u64 (z0 : Nat), .int .u64 (z1 : Nat), .int .u64 (x2 : Nat)] 68 (0, 0))) := by
        show _ = _
        rw [heap_setCell_same _ _ _ _ _ _ g1]; rfl
      have H2' : Hid ((wr.setCell ⟨w.heap.size, 1, none⟩ (.int .u64 (z1 : Nat))).heap[w.heap.size + 1]? = some (.cells #[.int .u64 y0, .int .u64 y1, .int .u64 y2] 68 (0, 0))) := by
        show _ = _
        rw [Below.heap_setCell _ _ _ _ (by simp)]; exact unhide H2
      have H3' : Hid ((wr.setCell ⟨w.heap.size, 1, none⟩ (.int .u64 (z1 : Nat))).heap[w.heap.size + 2]? = some (.cells #[.int .u64 0, .int .u64 0, .int .u64 0] 68 (0, 0))) := by
        show _ = _
        rw [Below.heap_setCell _ _ _ _ (by simp)]; exact unhide H3
      clear h1 h2 h3 hb g1
      simp at c1 c2
      go_wp2
      go_region
      go_wp2
      go_roundw
      case rel => exact ⟨2, by omega, by go_num, unhide H1, unhide H2', unhide H3', (below_drawn (unhide HB) 1).setCell (Nat.le_refl _) _⟩
      case measure => simp [intOf]
    · have g1 : wr.heap[w.heap.size]? = some (.cells #[.int .u64 (z0 : Nat), .int .u64 (z1 : Nat), .int .u64 (x2 : Nat)] 68 (0, 0)) := h1
      have c1 := cell_of_row _ _ 2 _ _ _ g1
      have c2 := cell_of_row _ _ 2 _ _ _ h2
      have f1 := frozen_of_row wr w.heap.size 2 _ _ g1
      have H1 : Hid ((wr.setCell ⟨w.heap.size, 2, none⟩ (.int .u64 (z2 : Nat))).heap[w.heap.size]? = some (.cells #[.int .u64 (z0 : Nat), .int .u64 (z1 : Nat), .int .u64 (z2 : Nat)] 68 (0, 0))) := by
        show _ = _
        rw [heap_setCell_same _ _ _ _ _ _ g1]; rfl
      have H2' : Hid ((wr.setCell ⟨w.heap.size, 2, none⟩ (.int .u64 (z2 : Nat))).heap[w.heap.size + 1]? = some (.cells #[.int .u64 y0, .int .u64 y1, .int .u64 y2] 68 (0, 0))) := by
        show _ = _
        rw [Below.heap_setCell _ _ _ _ (by simp)]; exact unhide H2
      have H3' : Hid ((wr.setCell ⟨w.heap.size, 2, none⟩ (.int .u64 (z2 : Nat))).heap[w.heap.size + 2]? = some (.cells #[.int .u64 0, .int .u64 0, .int .u64 0] 68 (0, 0))) := by
        show _ = _
        rw [Below.heap_setCell _ _ _ _ (by simp)]; exact unhide H3
      clear h1 h2 h3 hb g1
      simp at c1 c2
      go_wp2
      go_region
      go_wp2
      go_roundw
      case rel => exact ⟨3, by omega, by go_num, unhide H1, unhide H2', unhide H3', (below_drawn (unhide HB) 1).setCell (Nat.le_refl _) _⟩
      case measure => simp [intOf]
    · have g1 : wr.heap[w.heap.size]? = some (.cells #[.int .u64 z0, .int .u64 z1, .int .u64 z2] 68 (0, 0)) := h1
      have hth : wr.there (w.heap.size + 2) 0 3 := fun j hj => by
        have e := cell_of_row _ _ j _ _ _ h3
        rw [Nat.zero_add, e]
        exact ⟨by obtain rfl | rfl | rfl : j = 0 ∨ j = 1 ∨ j = 2 := by omega
                  all_goals rfl, frozen_of_row wr _ j _ _ h3⟩
      clear h1 h2 hb h3
      have hS1 : (#[.int .u64 z0, .int .u64 z1, .int .u64 z2] : Array Value).size = 3 := rfl
      have hS2 : (#[.int .u64 z0, .int .u64 z1, .int .u64 z2] : Array Value).all (·.oneCell') = true := by simp [Value.oneCell']
      generalize hSe : (#[.int .u64 z0, .int .u64 z1, .int .u64 z2] : Array Value) = S at *
      have HSE := hide hSe
      clear hSe
      go_wp2_with (first | (refine wpList_load_row rfl 68 (.tmp 2) rfl w.heap.size rfl 68 S (0, 0) _ g1 Tryd.underlying68 rfl ?hi2 ?_) | (refine wpList_store_mid rfl 68 (.tmp 4) (.tmp 18) rfl (w.heap.size + 2) 0 S rfl rfl ?ht3 ?hi3 hS2 ?_))
      case hi2 => rw [hS1]; kernel_rfl
      case ht3 => rw [hS1]; exact hth
      case hi3 => rw [hS1]; kernel_rfl
      refine bodyPost_ret (v := .agg S) ?_ rfl ⟨by rw [unhide HSE], below_setCells2 (by omega) _ _ _ (unhide HB)⟩
      refine results_cell_mid (P := Tryd.prog) (fn := Tryd.f55) (p := 4) (ty := 68) (by kernel_rfl) _ (wr.setCells (w.heap.size + 2) 0 S.toList) (w.heap.size + 2) 0 S.toList _ (by rfl) (World.rangeAt_setCells_same _ _ _ _ (by rw [Array.length_toList, hS1]; exact hth)) Tryd.underlying68 rfl (by rw [Array.length_toList, hS1]; kernel_rfl)
end Go.Proofs.YtpcndjnhpjhjkaaDoor

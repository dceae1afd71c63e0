/- TrackerNil. -/
import Derived.Test.YtjdphcjapdklpaaGreatDoorTkP
import Derived.Test.YtjdphcjapdklpaaGreatDoorRst
namespace Go.Proofs.YtjdphcjapdklpaaGreatDoor
open Go.RowKit
set_option linter.unusedVariables false
attribute [local go_sem] Oper.semAt_some

set_option maxRecDepth 100000 in
set_option maxHeartbeats 2000000 in
theorem few_one (g c : Nat) (nm s t : ByteArray) (ax ay k now : Int) (w : World) (hc : w.cell? ⟨g, 2, none⟩ = some (.string nm)) : Calls Tryz.prog 6 #[.slice (some ⟨g, 0, none⟩) 1 c, .agg #[.string s, .string t, .int .i64 ax, .int .i64 ay, .int .i64 k, .int .i64 now]] w fun e w' => ∃ B, e = .returned (.bool B) ∧ Below w.heap.size w w' := by
  have hb : Below w.heap.size w (w.alloc (.cells #[.string s, .string t, .int .i64 ax, .int .i64 ay, .int .i64 k, .int .i64 now] 26)) := (Below.refl _ w).alloc (Nat.le_refl _) _
  have h0 := heap_alloc_new w (.cells #[.string s, .string t, .int .i64 ax, .int .i64 ay, .int .i64 k, .int .i64 now] 26)
  obtain ⟨W1, hW⟩ : ∃ W, W = w.alloc (.cells #[.string s, .string t, .int .i64 ax, .int .i64 ay, .int .i64 k, .int .i64 now] 26) := ⟨_, rfl⟩
  rw [← hW] at hb h0
  have c2 := cell_below hc hb
  have d0 : W1.cell? ⟨w.heap.size, 0, none⟩ = some (.string s) := cell_of_row _ _ 0 _ _ _ h0
  have d1 : W1.cell? ⟨w.heap.size, 1, none⟩ = some (.string t) := cell_of_row _ _ 1 _ _ _ h0
  have HW := hide hW
  have HB := hide hb
  clear hc h0 hW hb
  go_enter Tryz.func6, Tryz.ntmps6
  go_wp2_with fail
  rw [← unhide HW]
  clear HW
  go_loopw [5] (fun kv wr => ∃ i : Nat, i ≤ 1 ∧ kv = .int .i64 i ∧ W1 = wr) (fun kv _ => 1 - (intOf kv).toNat)
  case atStart => exact ⟨0, by omega, rfl, rfl⟩
  case round =>
    obtain ⟨i, hi, rfl, rfl⟩ := hrel
    rcases (show i = 0 ∨ i = 1 by omega) with rfl | rfl
    · by_cases h1 : (100 : Int) < nm.size
      · go_wp2
        go_ret
        first | exact unhide HB | exact ⟨.inl rfl, unhide HB⟩ | exact ⟨.inr rfl, unhide HB⟩ | exact ⟨_, rfl, unhide HB⟩
      · go_wp2
        go_roundw
        case rel => first | exact ⟨1, by omega, rfl, rfl⟩ | exact ⟨1, by omega, rfl, trivial⟩ | exact ⟨1, by omega, rfl⟩
        case measure => simp [intOf]
    · by_cases h1 : (s.size : Int) ≤ 100
      · have g1 : decide ((s.size : Int) ≤ 100) = true := decide_eq_true h1
        have g1n : decide (s.size ≤ 100) = true := decide_eq_true (by omega)
        by_cases h2 : (t.size : Int) ≤ 100
        · go_wp2
          go_ret
          first | exact unhide HB | exact ⟨.inl rfl, unhide HB⟩ | exact ⟨.inr rfl, unhide HB⟩ | exact ⟨_, rfl, unhide HB⟩
        · have g2 : decide ((t.size : Int) ≤ 100) = false := decide_eq_false h2
          have g2n : decide (t.size ≤ 100) = false := decide_eq_false (by omega)
          go_wp2
          go_ret
          first | exact unhide HB | exact ⟨.inl rfl, unhide HB⟩ | exact ⟨.inr rfl, unhide HB⟩ | exact ⟨_, rfl, unhide HB⟩
      · have g1 : decide ((s.size : Int) ≤ 100) = false := decide_eq_false h1
        have g1n : decide (s.size ≤ 100) = false := decide_eq_false (by omega)
        go_wp2
        go_ret
        first | exact unhide HB | exact ⟨.inl rfl, unhide HB⟩ | exact ⟨.inr rfl, unhide HB⟩ | exact ⟨_, rfl, unhide HB⟩
set_option maxRecDepth 100000 in
set_option maxHeartbeats 8000000 in
theorem trackerNil_law (kd nw nd px py un ax ay k now : Int) (nm s t : ByteArray) (w : World) : Calls Tryz.prog 5 #[.agg #[.int .i64 kd, .int .i64 nw, .string nm, .int .i64 nd, .int .i64 px, .int .i64 py, .int .i64 un], .agg #[.string s, .string t, .int .i64 ax, .int .i64 ay, .int .i64 k, .int .i64 now]] w fun e w' => e = .returned (.bool true) ∧ Below w.heap.size w w' := by
  have HA := hide (fun W => tawake_any W)
  have HFew := hide (fun W g c h => few_one g c nm s t ax ay k now W h)
  have HFi := hide (fun W => nilFind s ax ay k now W)
  have HLi := hide (fun W => nilLink s t ax ay now W)
  have HAn : Hid (∀ W, Calls Tryz.prog 11 #[.pointer none, .agg #[.string nm, .int .i64 nd, .int .i64 px, .int .i64 py, .int .i64 un], .int .i64 nw] W fun e w' => e = .returned (.int .i64 1) ∧ Below W.heap.size W w') := fun W => nilAnn ⟨nm.data.toList, nd, px, py, un⟩ nw W
  have HLe := hide (fun W => nilLeave nm nd nw W)
  have HNs := hide (fun W => nilNames now W)
  have HNo := hide (fun W => nilNodes s now W)
  have HLn := hide (fun W => nilLen now W)
  have hsz : (w.alloc (.cells #[.int .i64 kd, .int .i64 nw, .string nm, .int .i64 nd, .int .i64 px, .int .i64 py, .int .i64 un] 37)).heap.size = w.heap.size + 1 := by simp
  obtain ⟨W0, hW0⟩ : ∃ W, W = (w.alloc (.cells #[.int .i64 kd, .int .i64 nw, .string nm, .int .i64 nd, .int .i64 px, .int .i64 py, .int .i64 un] 37)).alloc (.cells #[.string s, .string t, .int .i64 ax, .int .i64 ay, .int .i64 k, .int .i64 now] 26) := ⟨_, rfl⟩
  have hX0 : W0.heap[w.heap.size]? = some (.cells #[.int .i64 kd, .int .i64 nw, .string nm, .int .i64 nd, .int .i64 px, .int .i64 py, .int .i64 un] 37 (0, 0)) := by
    rw [hW0, Below.heap_alloc _ _ _ (by simp)]
    exact heap_alloc_new _ _
  have hY0 : W0.heap[w.heap.size + 1]? = some (.cells #[.string s, .string t, .int .i64 ax, .int .i64 ay, .int .i64 k, .int .i64 now] 26 (0, 0)) := by
    have := heap_alloc_new (w.alloc (.cells #[.int .i64 kd, .int .i64 nw, .string nm, .int .i64 nd, .int .i64 px, .int .i64 py, .int .i64 un] 37)) (.cells #[.string s, .string t, .int .i64 ax, .int .i64 ay, .int .i64 k, .int .i64 now] 26)
    rw [hsz, ← hW0] at this
    exact this
  have hB0 : Below w.heap.size w W0 := by
    rw [hW0]
    exact ((Below.refl _ w).alloc (Nat.le_refl _) _).alloc (by simp) _
  have hS0 : W0.heap.size = w.heap.size + 2 := by
    rw [hW0]
    simp
  have hW0b : w.heap.size + 1 + 1 = w.heap.size + 2 := rfl
  have HW := hide hW0
  have HX := hide hX0
  have HY := hide hY0
  have HB0 := hide hB0
  have HS0 := hide hS0
  clear hW0 hX0 hY0 hB0 hS0 hW0b
  go_enter Tryz.func5, Tryz.ntmps5
  go_wp2_with fail
  rw [← unhide HW]
  clear HW hsz
  have hN : (W0.alloc (.cells #[.int .i64 kd, .int .i64 nw, .string nm, .int .i64 nd, .int .i64 px, .int .i64 py, .int .i64 un] 37)).cell? ⟨w.heap.size + 1 + 1, 2, none⟩ = some (.string nm) := by
    have h := heap_alloc_new W0 (.cells #[.int .i64 kd, .int .i64 nw, .string nm, .int .i64 nd, .int .i64 px, .int .i64 py, .int .i64 un] 37)
    rw [unhide HS0] at h
    exact cell_of_row _ _ 2 _ _ _ h
  have hB1 : Below W0.heap.size W0 (W0.alloc (.cells #[.int .i64 kd, .int .i64 nw, .string nm, .int .i64 nd, .int .i64 px, .int .i64 py, .int .i64 un] 37)) := (Below.refl _ _).alloc (Nat.le_refl _) _
  refine (unhide HFew _ (w.heap.size + 1 + 1) 1 hN).mono ?_
  rintro e w1 ⟨B, rfl, b1⟩
  have hb01 : Below W0.heap.size W0 w1 := hB1.trans (b1.mono hB1.size)
  have HX1 := hide ((hb01.block _ (lt_of_block (unhide HX))).trans (unhide HX))
  have HY1 := hide ((hb01.block _ (lt_of_block (unhide HY))).trans (unhide HY))
  have HB1 := hide ((unhide HB0).trans (hb01.mono (unhide HB0).size))
  clear hN hB1 b1 hb01 HX HY HB0 HS0 HFew
  cases B with
  | false =>
    go_wp2_with fail
    refine (unhide HA _).mono ?_
    rintro e w2 ⟨rfl, b2⟩
    have HB2 := hide ((unhide HB1).trans (b2.mono (unhide HB1).size))
    clear b2
    go_wp2
    go_ret
    exact ⟨rfl, unhide HB2⟩
  | true =>
    have u0 : w1.cell? ⟨w.heap.size + 1, 0, none⟩ = some (.string s) := cell_of_row _ _ 0 _ _ _ (unhide HY1)
    have u1 : w1.cell? ⟨w.heap.size + 1, 1, none⟩ = some (.string t) := cell_of_row _ _ 1 _ _ _ (unhide HY1)
    have u2 : w1.cell? ⟨w.heap.size + 1, 2, none⟩ = some (.int .i64 ax) := cell_of_row _ _ 2 _ _ _ (unhide HY1)
    have u3 : w1.cell? ⟨w.heap.size + 1, 3, none⟩ = some (.int .i64 ay) := cell_of_row _ _ 3 _ _ _ (unhide HY1)
    have u4 : w1.cell? ⟨w.heap.size + 1, 4, none⟩ = some (.int .i64 k) := cell_of_row _ _ 4 _ _ _ (unhide HY1)
    have u5 : w1.cell? ⟨w.heap.size + 1, 5, none⟩ = some (.int .i64 now) := cell_of_row _ _ 5 _ _ _ (unhide HY1)
    go_wp2_with fail
    refine (unhide HFi _).mono ?_
    rintro e w2 ⟨rfl, b2⟩
    have HX2 := hide ((b2.block _ (lt_of_block (unhide HX1))).trans (unhide HX1))
    have HY2 := hide ((b2.block _ (lt_of_block (unhide HY1))).trans (unhide HY1))
    have HB2 := hide ((unhide HB1).trans (b2.mono (unhide HB1).size))
    clear b2 HX1 HY1 HB1 HFi u0 u1 u2 u3 u4 u5
    have u0 : w2.cell? ⟨w.heap.size + 1, 0, none⟩ = some (.string s) := cell_of_row _ _ 0 _ _ _ (unhide HY2)
    have u1 : w2.cell? ⟨w.heap.size + 1, 1, none⟩ = some (.string t) := cell_of_row _ _ 1 _ _ _ (unhide HY2)
    have u2 : w2.cell? ⟨w.heap.size + 1, 2, none⟩ = some (.int .i64 ax) := cell_of_row _ _ 2 _ _ _ (unhide HY2)
    have u3 : w2.cell? ⟨w.heap.size + 1, 3, none⟩ = some (.int .i64 ay) := cell_of_row _ _ 3 _ _ _ (unhide HY2)
    have u4 : w2.cell? ⟨w.heap.size + 1, 4, none⟩ = some (.int .i64 k) := cell_of_row _ _ 4 _ _ _ (unhide HY2)
    have u5 : w2.cell? ⟨w.heap.size + 1, 5, none⟩ = some (.int .i64 now) := cell_of_row _ _ 5 _ _ _ (unhide HY2)
    go_wp2_with fail
    refine (unhide HLi _).mono ?_
    rintro e w3 ⟨rfl, b3⟩
    have HX3 := hide ((b3.block _ (lt_of_block (unhide HX2))).trans (unhide HX2))
    have HY3 := hide ((b3.block _ (lt_of_block (unhide HY2))).trans (unhide HY2))
    have HB3 := hide ((unhide HB2).trans (b3.mono (unhide HB2).size))
    clear b3 HX2 HY2 HB2 HLi u0 u1 u2 u3 u4 u5
    go_wp2_with fail
    refine wp_region_rel [false, false, false, false, false, false, false, false, false, false, false, false, false, false, false, false, false, false, false, false, false, false, false, false, false, false, false, false, false, false, false, false, false, false, false, false, false, false, false, false, false, false, false, false, false, false, false, false, false, false, false, false, false, false, false, false, false, false, false, false] [(43, true), (52, true), (65, true), (69, true), (73, true), (77, true)] [] [] _ ?A61 (fun x y => Below x.heap.size x y) ((fun _ _ _ => True)) (by kernel_rfl) (by kernel_rfl) (fun x y z h1 h2 => h1.trans (h2.mono h1.size)) (fun x y h => h) (fun j v x y h hb => h) (Off.refl _ _) ?det61 ?lex61 ?gA61 ?st61 ?fin61
    case lex61 =>
      intro z hz
      have hneX := gb_ne z
      have g0 : ∀ y : Gb z, y.w.cell? ⟨w.heap.size + 1, 0, none⟩ = some (.string s) := fun y => gb_cell (cell_below (cell_of_row _ _ 0 _ _ _ (unhide HY3)) hz) y
      have g1 : ∀ y : Gb z, y.w.cell? ⟨w.heap.size + 1, 1, none⟩ = some (.string t) := fun y => gb_cell (cell_below (cell_of_row _ _ 1 _ _ _ (unhide HY3)) hz) y
      have g2 : ∀ y : Gb z, y.w.cell? ⟨w.heap.size + 1, 2, none⟩ = some (.int .i64 ax) := fun y => gb_cell (cell_below (cell_of_row _ _ 2 _ _ _ (unhide HY3)) hz) y
      have g3 : ∀ y : Gb z, y.w.cell? ⟨w.heap.size + 1, 3, none⟩ = some (.int .i64 ay) := fun y => gb_cell (cell_below (cell_of_row _ _ 3 _ _ _ (unhide HY3)) hz) y
      have g4 : ∀ y : Gb z, y.w.cell? ⟨w.heap.size + 1, 4, none⟩ = some (.int .i64 k) := fun y => gb_cell (cell_below (cell_of_row _ _ 4 _ _ _ (unhide HY3)) hz) y
      have g5 : ∀ y : Gb z, y.w.cell? ⟨w.heap.size + 1, 5, none⟩ = some (.int .i64 now) := fun y => gb_cell (cell_below (cell_of_row _ _ 5 _ _ _ (unhide HY3)) hz) y
      have h0 : ∀ y : Gb z, y.w.cell? ⟨w.heap.size, 0, none⟩ = some (.int .i64 kd) := fun y => gb_cell (cell_below (cell_of_row _ _ 0 _ _ _ (unhide HX3)) hz) y
      have h1 : ∀ y : Gb z, y.w.cell? ⟨w.heap.size, 1, none⟩ = some (.int .i64 nw) := fun y => gb_cell (cell_below (cell_of_row _ _ 1 _ _ _ (unhide HX3)) hz) y
      have h2 : ∀ y : Gb z, y.w.cell? ⟨w.heap.size, 2, none⟩ = some (.string nm) := fun y => gb_cell (cell_below (cell_of_row _ _ 2 _ _ _ (unhide HX3)) hz) y
      have h3 : ∀ y : Gb z, y.w.cell? ⟨w.heap.size, 3, none⟩ = some (.int .i64 nd) := fun y => gb_cell (cell_below (cell_of_row _ _ 3 _ _ _ (unhide HX3)) hz) y
      have h4 : ∀ y : Gb z, y.w.cell? ⟨w.heap.size, 4, none⟩ = some (.int .i64 px) := fun y => gb_cell (cell_below (cell_of_row _ _ 4 _ _ _ (unhide HX3)) hz) y
      have h5 : ∀ y : Gb z, y.w.cell? ⟨w.heap.size, 5, none⟩ = some (.int .i64 py) := fun y => gb_cell (cell_below (cell_of_row _ _ 5 _ _ _ (unhide HX3)) hz) y
      have h6 : ∀ y : Gb z, y.w.cell? ⟨w.heap.size, 6, none⟩ = some (.int .i64 un) := fun y => gb_cell (cell_below (cell_of_row _ _ 6 _ _ _ (unhide HX3)) hz) y
      dsimp only [restM]
      repeat (go_big_quiet_step (first | (go_at_call 7; exact gb_call (unhide HA _)) | (go_at_call 11; exact gb_call (unhide HAn _)) | (go_at_call 13; exact gb_call (unhide HLe _)) | (go_at_call 24; exact gb_call (unhide HNs _)) | (go_at_call 21; exact gb_call (unhide HNo _)) | (go_at_call 26; exact gb_call (unhide HLn _))))
      refine wpQuiet_nil ?_
      exact rfl
    case det61 =>
      intro j hj o s ho hs v z hR
      exact absurd hj (List.not_mem_nil)
    case gA61 =>
      intro g hg
      simp only [List.mem_cons, List.not_mem_nil, or_false] at hg
      rcases hg with rfl | rfl | rfl | rfl | rfl | rfl <;> rfl
    case st61 =>
      intro j o ho hmj z bb hz hop
      have hj : j ∈ [] := mask_in hmj
      exact absurd hj (List.not_mem_nil)
    case fin61 =>
      intro bb z hz hoff hrel
      have hall := Off.all _ _ hoff
      simp only [List.foldl_nil] at hall
      rw [hall]
      clear hall hrel hoff
      have HB4 := hide ((unhide HB3).trans (hz.mono (unhide HB3).size))
      clear hz
      go_wp2
      go_ret
      exact ⟨rfl, unhide HB4⟩
end Go.Proofs.YtjdphcjapdklpaaGreatDoor

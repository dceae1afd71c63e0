/- The law's awake. -/
import Derived.Test.YtkcnihngkmaecaaGreatOuH
namespace Go.Proofs.YtkcnihngkmaecaaGreat
open Go.RowKit
set_option linter.unusedVariables false
attribute [local go_sem] Oper.semAt_some

theorem joI_one (i : Nat) : joI 0 1 1 i = [0] := by
  have h1 := joI_len 0 1 1 i
  match h : joI 0 1 1 i with
  | [] => rw [h] at h1; simp at h1
  | [x] =>
    obtain ⟨j, hj, hj1⟩ := joI_lt 0 1 1 i x (by rw [h]; simp)
    have : j = 0 := by omega
    subst this
    rw [hj]; rfl
  | _ :: _ :: _ => rw [h] at h1; simp at h1
theorem ruL_one : ruL 0 1 1 1 0 = [0, 1] := by
  unfold ruL memL
  simp [List.range_succ, joI_one]
theorem whR_one : whR 0 1 1 1 [[97, 98]] = [[97, 98], [97, 98]] ∧ whE 0 1 1 1 [[97, 98]] = 0 := by
  have h1 : plOk 0 1 1 1 = true ∧ alike [[97, 98]] 1 = true := ⟨by decide, by decide⟩
  refine ⟨?_, ?_⟩
  · unfold whR
    rw [if_pos h1]
    have h2 : memL 0 1 1 0 1 = [0] := by
      unfold memL
      simp [List.range_succ, joI_one]
    show [[97, 98]] ++ auxL 0 1 1 1 [[97, 98]] 1 = _
    unfold auxL
    simp only [List.range_succ, List.range_zero, List.nil_append, List.map_cons, List.map_nil, h2]
    decide
  · unfold whE
    rw [if_pos h1]
theorem nums_lit2 (w : World) (a b : Nat) (t : TypeId) : NumsAt (w.alloc (.cells #[.int .i64 (a : Int), .int .i64 (b : Int)] t)) (some ⟨w.heap.size, 0, none⟩) [a, b] := by
  have hb := heap_alloc_new w (.cells #[.int .i64 (a : Int), .int .i64 (b : Int)] t)
  intro i hi
  match i, hi with
  | 0, _ => exact ⟨_, _, rfl, by rw [cell_of_row _ _ 0 _ t (0, 0) hb]; rfl⟩
  | 1, _ => exact ⟨_, _, rfl, by rw [cell_of_row _ _ 1 _ t (0, 0) hb]; rfl⟩
theorem txts_lit1 (w : World) (a : By) (t : TypeId) : Txts (w.alloc (.cells #[.string (bs a)] t)) (some ⟨w.heap.size, 0, none⟩) [a] := by
  have hb := heap_alloc_new w (.cells #[.string (bs a)] t)
  intro i hi
  match i, hi with
  | 0, _ => exact ⟨_, _, rfl, by rw [cell_of_row _ _ 0 _ t (0, 0) hb]; rfl⟩
theorem txts_lit2 (w : World) (a b : By) (t : TypeId) : Txts (w.alloc (.cells #[.string (bs a), .string (bs b)] t)) (some ⟨w.heap.size, 0, none⟩) [a, b] := by
  have hb := heap_alloc_new w (.cells #[.string (bs a), .string (bs b)] t)
  intro i hi
  match i, hi with
  | 0, _ => exact ⟨_, _, rfl, by rw [cell_of_row _ _ 0 _ t (0, 0) hb]; rfl⟩
  | 1, _ => exact ⟨_, _, rfl, by rw [cell_of_row _ _ 1 _ t (0, 0) hb]; rfl⟩
set_option maxRecDepth 100000 in
set_option maxHeartbeats 1000000 in
theorem oawake_any (w : World) : Calls Tryz.prog 11 #[] w fun e w' => e = .returned (.bool true) ∧ Below w.heap.size w w' := by
  have hru := hide (fun w => Rules_any 0 1 1 1 (by decide) (by decide) (by decide) (by decide) (by decide) (by decide) (by decide) w)
  have hwh := hide (fun a0 w hT => whole_any 0 1 1 1 [[97, 98]] a0 1 w hT (by decide) (by decide))
  rw [whR_one.1, whR_one.2] at hwh
  unfold plV at *
  have hns := hide (fun (w : World) a0 b0 c d hA hB => nsame_any w [0, 1] a0 b0 c d (by decide) hA hB)
  have hts := hide (fun (w : World) a0 b0 c d hA hB => msame_any w [[97, 98], [97, 98]] a0 b0 c d (by decide) hA hB)
  go_enter Tryz.func11, Tryz.ntmps11
  go_wp2_with fail
  have hpc := hide (plan_cells w 0 1 1 1)
  have hb0 : Below w.heap.size w (w.alloc (.cells #[.int .i64 0, .int .i64 1, .int .i64 1, .int .i64 1] 23)) := (Below.refl _ w).alloc (Nat.le_refl _) _
  have B0 := hide hb0
  clear hb0
  generalize hW0 : w.alloc (.cells #[.int .i64 0, .int .i64 1, .int .i64 1, .int .i64 1] 23) = W0 at *
  have HW0 := hide hW0
  clear hW0
  refine (unhide hru W0).mono ?_
  rintro e w1 ⟨g, rfl, ⟨V, hR⟩, b1⟩
  obtain ⟨c0, c1, c2, c3⟩ := unhide hpc w1 b1
  have B1 := hide ((unhide B0).trans (b1.mono (unhide B0).size))
  have d0 := hR.cell 0 (by decide)
  obtain ⟨n0, nc, hV0, hN0⟩ := nums_of_own (hR.row 0 (by decide))
  rw [ruL_one] at hN0 hV0
  rw [hV0] at d0
  have HD := hide d0
  have HN := hide hN0
  clear hR b1 d0 hN0 hV0 HW0
  go_wp2_with fail
  have ba : Below w1.heap.size w1 (w1.alloc (.cells #[.string (bs [97, 98])] 9)) := (Below.refl _ _).alloc (Nat.le_refl _) _
  refine (unhide hwh (some ⟨w1.heap.size, 0, none⟩) (w1.alloc (.cells #[.string (bs [97, 98])] 9)) (txts_lit1 w1 [97, 98] 9)).mono ?_
  rintro e w2 ⟨v, rfl, hO, b2⟩
  have b12 : Below w1.heap.size w1 w2 := ba.trans (b2.mono ba.size)
  have B2 := hide ((unhide B1).trans (b12.mono (unhide B1).size))
  have d0 := cell_below (unhide HD) b12
  have HN2 := hide ((unhide HN).below b12)
  obtain ⟨a0, cc, rfl, hT, hc1, hc2⟩ := hO.txts
  have HT := hide hT
  clear hO hT ba b2 b12 HN HD B1 c0 c1 c2 c3
  go_wp2_with fail
  have bb : Below w2.heap.size w2 (w2.alloc (.cells #[.int .i64 0, .int .i64 1] 3)) := (Below.refl _ _).alloc (Nat.le_refl _) _
  refine (unhide hns (w2.alloc (.cells #[.int .i64 0, .int .i64 1] 3)) n0 (some ⟨w2.heap.size, 0, none⟩) nc 2 ((unhide HN2).below bb) (nums_lit2 w2 0 1 3)).mono ?_
  rintro e w3 ⟨rfl, b3⟩
  have b23 : Below w2.heap.size w2 w3 := bb.trans (b3.mono bb.size)
  have B3 := hide ((unhide B2).trans (b23.mono (unhide B2).size))
  have HT3 := hide ((unhide HT).below b23)
  clear bb b3 b23 B2 HT HN2 d0
  go_wp2_with fail
  have bc : Below w3.heap.size w3 (w3.alloc (.cells #[.string (bs [97, 98]), .string (bs [97, 98])] 9)) := (Below.refl _ _).alloc (Nat.le_refl _) _
  refine (unhide hts (w3.alloc (.cells #[.string (bs [97, 98]), .string (bs [97, 98])] 9)) a0 (some ⟨w3.heap.size, 0, none⟩) cc 2 ((unhide HT3).below bc) (txts_lit2 w3 [97, 98] [97, 98] 9)).mono ?_
  rintro e w4 ⟨rfl, b4⟩
  have b34 : Below w3.heap.size w3 w4 := bc.trans (b4.mono bc.size)
  have B4 := hide ((unhide B3).trans (b34.mono (unhide B3).size))
  clear bc b4 b34 B3 HT3
  go_wp2
  go_ret
  exact ⟨rfl, unhide B4⟩
end Go.Proofs.YtkcnihngkmaecaaGreat

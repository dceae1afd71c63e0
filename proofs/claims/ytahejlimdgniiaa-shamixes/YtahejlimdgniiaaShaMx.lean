/- Contract of sha.Mix. -/
import Derived.Test.YtahejlimdgniiaaShaTk
namespace Go.Proofs.Ytahejlimdgniiaa
open Go.RowKit
set_option linter.unusedVariables false

theorem results_cell_tmp {P : Program} {fn : Func} {p q : Tmp} {ty : TypeId} (h : fn.results = #[.cell p ty, .tmp q]) (tmps : Array Value) (w : World) (g o : Nat) (cs : List Value) (d : TypeDesc)
    (hp : tmps.getD p undef = .pointer (some ⟨g, o, none⟩)) (hg : w.rangeAt g o cs)
    (hu : P.underlying ty = some d) (hd : d.isRow = true) (hi : (P.info? ty).map (·.size) = some cs.length) :
    (results fn tmps).run P w = .ok (.tuple #[.agg cs.toArray, tmps.getD q undef]) w := by
  have hp' : tmps[p]?.getD undef = .pointer (some ⟨g, o, none⟩) := by simpa using hp
  simp [results, h, hp', asAddr, run_loadVar_mid w g o ty cs d hg hu hd hi]

theorem mix_bad (U : Array Value) (hU : U.size = 8) (b : ByteArray) (w : World) (hm : b.size ≤ maxLen) (hb : b.size ≠ 64) :
    Calls Try.prog 12 #[.agg U, .string b] w fun e w' => e = .returned (.tuple #[.agg (uc (List.replicate 8 0)).toArray, .int .i64 1]) ∧ Below w.heap.size w w' := by
  unfold maxLen at hm
  have h1 : ((b.size : Int) != 64) = true := by simp; omega
  obtain ⟨Z, hZ⟩ : ∃ Z : Array Value, Z = (uc (List.replicate 8 0)).toArray := ⟨_, rfl⟩
  have hZs : Z.size = 8 := by rw [hZ]; rfl
  have hZ1 : Z.all (·.oneCell') = true := by rw [hZ]; exact all_oneCell_toArray (uc_oneCell _)
  have HZ := hide hZ
  clear hZ
  go_enter Try.func12, Try.ntmps12
  go_wp2_with (first | (refine wpList_value (.agg Z) rfl _ _ rfl ?hb ?_) | (refine wpList_store_mid rfl 26 (.tmp 4) (.tmp 10) rfl (w.heap.size + 1) 0 Z rfl rfl ?ht3 ?hi3 hZ1 ?_))
  case hb => rw [unhide HZ]; kernel_rfl
  case ht3 => rw [hZs]; exact there_of_block (heap_alloc2_new _ _ _)
  case hi3 => rw [hZs]; kernel_rfl
  refine bodyPost_ret (v := .tuple #[.agg Z, .int .i64 1]) ?_ rfl ⟨by rw [unhide HZ], below_setCells (by omega) _ _ _ (((Below.refl _ _).alloc (Nat.le_refl _) _).alloc (by simp) _)⟩
  refine results_cell_tmp (P := Try.prog) (fn := Try.f12) (p := 4) (q := 5) (ty := 26) (by kernel_rfl) _ _ (w.heap.size + 1) 0 Z.toList _ (by rfl) (World.rangeAt_setCells_same _ _ _ _ ?_) Try.underlying26 rfl (by rw [Array.length_toList, hZs]; kernel_rfl)
  rw [Array.length_toList, hZs]; exact there_of_block (heap_alloc2_new _ _ _)

set_option maxHeartbeats 1000000 in
theorem mix_any (s : S8) (b : ByteArray) (w : World) (hb : b.size = 64) :
    Calls Try.prog 12 #[.agg (uc s.list).toArray, .string b] w fun e w' => e = .returned (.tuple #[.agg (uc (mix s b.data.toList).list).toArray, .int .i64 0]) ∧ Below w.heap.size w w' := by
  have h1 : (b.size : Int) = 64 := by omega
  have hmx := hide (mixed_uc s b.data.toList (by rw [blen]; exact hb))
  have hS1 : (uc (mix s b.data.toList).list).toArray.size = 8 := by rw [List.size_toArray, uc_length, S8.len]
  have hS2 : (uc (mix s b.data.toList).list).toArray.all (·.oneCell') = true := all_oneCell_toArray (uc_oneCell _)
  generalize hSe : (uc (mix s b.data.toList).list).toArray = S at *
  have HSE := hide hSe
  obtain ⟨U, hU⟩ : ∃ U : Array Value, U = (uc s.list).toArray := ⟨_, rfl⟩
  have hUs : U.size = 8 := by rw [hU]; rfl
  rw [← hU] at hmx
  rw [← hU]
  obtain ⟨Z, hZ⟩ : ∃ Z : List Value, Z = bc (List.replicate 64 0) := ⟨_, rfl⟩
  have hZl : Z.length = 64 := by rw [hZ]; rfl
  have hzv : ∀ w, (zeroValue 52).run Try.prog w = .ok (.agg Z.toArray) w := fun w => by rw [hZ]; kernel_rfl
  have HB := hide hb
  clear hSe hU hZ hb
  go_enter Try.func12, Try.ntmps12
  go_wp2_with (refine wpList_copy_string rfl (.tmp 11) (.tmp 12) 47 9 rfl 5 (by kernel_rfl) (by kernel_rfl) (w.heap.size + 1 + 1) 0 64 64 b rfl rfl Z 52 ?hg 64 ?hn ?hf ?_)
  case hg => exact heap3_c _ _ _ _
  case hn => rw [unhide HB]; rfl
  case hf => rw [hZl]; omega
  intro w2 hw2
  have hrow : bc (b.data.toList.take 64) ++ Z.drop 64 = bc b.data.toList := by
    have hd : Z.drop 64 = [] := List.drop_eq_nil_of_le (by omega)
    rw [hd, List.append_nil, List.take_of_length_le (by rw [blen, unhide HB]; omega)]
  rw [hrow] at hw2
  have r0 : w2.heap[w.heap.size]? = some (.cells U 26 (0, 0)) := by
    rw [unhide hw2, setRow_other _ _ _ _ (by omega)]; exact heap3_a _ _ _ _
  have r2 : w2.heap[w.heap.size + 1 + 1]? = some (.cells (bc b.data.toList).toArray 52 (0, 0)) := by
    rw [unhide hw2]; exact setRow_heap _ _ _ _ _ _ (heap3_c _ _ _ _)
  obtain ⟨Y, r1, hY⟩ : ∃ Y : Array Value, w2.heap[w.heap.size + 1]? = some (.cells Y 26 (0, 0)) ∧ Y.size = 8 := by
    refine ⟨(uc (List.replicate 8 0)).toArray, ?_, rfl⟩
    rw [unhide hw2, setRow_other _ _ _ _ (by omega)]
    exact heap3_b _ _ _ _
  have b2 : Below w.heap.size w w2 := by
    rw [unhide hw2]
    exact below_setRow ((((Below.refl _ _).alloc (Nat.le_refl _) _).alloc (by simp) _).alloc (by simp; omega) _) (by omega) _
  have hBs : (bc b.data.toList).toArray.size = 64 := by rw [List.size_toArray, bc_length, blen, unhide HB]
  generalize (bc b.data.toList).toArray = C at *
  have R1 := hide r1
  have B2 := hide b2
  clear hrow hw2 r1 b2 hzv
  go_wp2_with (first | (refine wpList_load_row rfl 26 (.tmp 2) rfl w.heap.size rfl 26 U (0, 0) _ r0 Try.underlying26 rfl ?hi2 ?_) | (refine wpList_load_row rfl 52 (.tmp 6) rfl (w.heap.size + 1 + 1) rfl 52 C (0, 0) _ r2 Try.underlying52 rfl ?hi6 ?_))
  case hi2 => rw [hUs]; kernel_rfl
  case hi6 => rw [hBs]; kernel_rfl
  refine (unhide hmx w2).mono ?_
  rintro e w3 ⟨rfl, b3⟩
  have r3 : w3.heap[w.heap.size + 1]? = some (.cells Y 26 (0, 0)) := (b3.block _ (lt_of_block (unhide R1))).trans (unhide R1)
  have hth := there_of_block r3
  rw [hY] at hth
  have B3 := hide ((unhide B2).trans (b3.mono (unhide B2).size))
  clear r3 b3 B2 R1 r0 r2
  go_wp2_with (refine wpList_store_mid rfl 26 (.tmp 4) (.tmp 16) rfl (w.heap.size + 1) 0 S rfl rfl ?ht3 ?hi3 hS2 ?_)
  case ht3 => rw [hS1]; exact hth
  case hi3 => rw [hS1]; kernel_rfl
  refine bodyPost_ret (v := .tuple #[.agg S, .int .i64 0]) ?_ rfl ⟨by first | rfl | rw [unhide HSE], below_setCells (by omega) _ _ _ (unhide B3)⟩
  refine results_cell_tmp (P := Try.prog) (fn := Try.f12) (p := 4) (q := 5) (ty := 26) (by kernel_rfl) _ _ (w.heap.size + 1) 0 S.toList _ (by rfl) (World.rangeAt_setCells_same _ _ _ _ ?_) Try.underlying26 rfl (by rw [Array.length_toList, hS1]; kernel_rfl)
  rw [Array.length_toList, hS1]; exact hth

end Go.Proofs.Ytahejlimdgniiaa

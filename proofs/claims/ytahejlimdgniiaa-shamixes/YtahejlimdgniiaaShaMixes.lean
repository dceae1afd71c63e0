/- What the law ShaMixes does, whatever the world: it answers true and changes nothing that was there. -/
import Derived.Test.YtahejlimdgniiaaShaSame
import Derived.Test.YtahejlimdgniiaaShaMx
import Derived.Test.YtahejlimdgniiaaRegG
namespace Go.Proofs.Ytahejlimdgniiaa
open Go.RowKit
set_option linter.unusedVariables false

theorem shaMixes_bad (s : S8) (b : ByteArray) (w : World) (hm : b.size ≤ maxLen) (hb : b.size ≠ 64) :
    Calls Try.prog 4 #[.agg (uc s.list).toArray, .string b] w fun e w' => e = .returned (.bool true) ∧ Below w.heap.size w w' := by
  have hUs : (uc s.list).toArray.size = 8 := by rw [List.size_toArray, uc_length, S8.len]
  obtain ⟨U, hU⟩ : ∃ U : Array Value, U = (uc s.list).toArray := ⟨_, rfl⟩
  rw [← hU] at hUs ⊢
  clear hU
  have hmb := hide (fun w => mix_bad U hUs b w hm hb)
  obtain ⟨Z, hZ⟩ : ∃ Z : Array Value, Z = (uc (List.replicate 8 0)).toArray := ⟨_, rfl⟩
  have hZs : Z.size = 8 := by rw [hZ]; rfl
  have hZ1 : Z.all (·.oneCell') = true := by rw [hZ]; exact all_oneCell_toArray (uc_oneCell _)
  rw [← hZ] at hmb
  have HZ := hide hZ
  clear hZ
  unfold maxLen at hm
  have h1 : ((b.size : Int) != 64) = true := by simp; omega
  have r0 : (w.alloc (.cells U 26)).heap[w.heap.size]? = some (.cells U 26 (0, 0)) := heap_alloc_new _ _
  go_enter Try.func4, Try.ntmps4
  go_wp2_with (refine wpList_load_row rfl 26 (.tmp 2) rfl w.heap.size rfl 26 U (0, 0) _ r0 Try.underlying26 rfl ?hi2 ?_)
  case hi2 => rw [hUs]; kernel_rfl
  refine (unhide hmb _).mono ?_
  rintro e w2 ⟨rfl, b2⟩
  have B2 : Hid (Below w.heap.size w w2) := ((Below.refl _ _).alloc (Nat.le_refl _) _).trans (b2.mono (by simp))
  clear b2 r0 hmb
  have hzv : ∀ w, (zeroValue 26).run Try.prog w = .ok (.agg Z) w := fun w => by rw [unhide HZ]; kernel_rfl
  go_wp2_with (refine wpList_store_abs rfl 26 (.tmp 5) (.tmp 11) rfl w2.heap.size 0 Z rfl rfl ?ht3 ?hi3 hZ1 ?_)
  case ht3 => rw [hZs]; exact (by have h0 := there_of_block (heap_alloc_new w2 (.cells Z 26)); rw [hZs] at h0; exact h0)
  case hi3 => rw [hZs]; kernel_rfl
  intro w3 hw3
  have W3 : Hid (w3.heap[w2.heap.size]? = some (.cells Z 26 (0, 0))) := by
    show _ = _
    rw [unhide hw3, unhide HZ]
    have h0 : WordsAt (w2.alloc (.cells (uc (List.replicate 8 0)).toArray 26)) w2.heap.size 26 (List.replicate 8 0) := heap_alloc_new _ _
    exact h0.stored rfl
  have B3 : Hid (Below w.heap.size w w3) := by
    show Below _ _ _
    rw [unhide hw3]
    exact below_setCells (unhide B2).size _ _ _ ((unhide B2).alloc (unhide B2).size _)
  clear hw3 B2 hzv
  generalize w2.heap.size = g5 at *
  go_wp2_with fail
  refine (awake_any w3).mono ?_
  rintro e w4 ⟨rfl, b4⟩
  have W4 : w4.heap[g5]? = some (.cells Z 26 (0, 0)) := (b4.block _ (lt_of_block (unhide W3))).trans (unhide W3)
  have B4 := hide ((unhide B3).trans (b4.mono (unhide B3).size))
  clear b4 B3 W3
  have W5 : WordsAt w4 g5 26 (List.replicate 8 0) := by unfold WordsAt; rw [← unhide HZ]; exact W4
  have c0 : w4.cell? ⟨g5, 0, none⟩ = some (.int .u32 0) := W5.cell 0 (by simp)
  have c1 : w4.cell? ⟨g5, 1, none⟩ = some (.int .u32 0) := W5.cell 1 (by simp)
  have c2 : w4.cell? ⟨g5, 2, none⟩ = some (.int .u32 0) := W5.cell 2 (by simp)
  have c3 : w4.cell? ⟨g5, 3, none⟩ = some (.int .u32 0) := W5.cell 3 (by simp)
  have c4 : w4.cell? ⟨g5, 4, none⟩ = some (.int .u32 0) := W5.cell 4 (by simp)
  have c5 : w4.cell? ⟨g5, 5, none⟩ = some (.int .u32 0) := W5.cell 5 (by simp)
  have c6 : w4.cell? ⟨g5, 6, none⟩ = some (.int .u32 0) := W5.cell 6 (by simp)
  have c7 : w4.cell? ⟨g5, 7, none⟩ = some (.int .u32 0) := W5.cell 7 (by simp)
  have hzv : ∀ w, (zeroValue 26).run Try.prog w = .ok (.agg #[.int .u32 0, .int .u32 0, .int .u32 0, .int .u32 0, .int .u32 0, .int .u32 0, .int .u32 0, .int .u32 0]) w := fun w => by kernel_rfl
  have heq : ∀ w, (Op.equalIn 10000 26 (.agg #[.int .u32 0, .int .u32 0, .int .u32 0, .int .u32 0, .int .u32 0, .int .u32 0, .int .u32 0, .int .u32 0]) (.agg #[.int .u32 0, .int .u32 0, .int .u32 0, .int .u32 0, .int .u32 0, .int .u32 0, .int .u32 0, .int .u32 0])).run Try.prog w = .ok true w := fun w => by kernel_rfl
  clear W4 W5
  go_wp2
  go_ret
  exact ⟨by first | rfl | simp, unhide B4⟩

set_option maxHeartbeats 2000000 in
theorem shaMixes_good (s : S8) (b : ByteArray) (w : World) (hb : b.size = 64) :
    Calls Try.prog 4 #[.agg (uc s.list).toArray, .string b] w fun e w' => e = .returned (.bool true) ∧ Below w.heap.size w w' := by
  obtain ⟨SH, hSH⟩ : ∃ SH, SH = s8H := ⟨_, rfl⟩
  have hst : Hid (∀ w, Calls Try.prog 16 #[] w fun e w' => e = .returned (.agg (uc SH.list).toArray) ∧ Below w.heap.size w w') := by
    show ∀ w, _
    rw [hSH, s8H_list]
    exact fun w => start_any w
  have hrs : Hid (∀ w, Calls Try.prog 17 #[] w fun e w' => e = .returned (.slice (some ⟨w.heap.size, 0, none⟩) 8 8) ∧ WordsAt w' w.heap.size 25 SH.list ∧ Below w.heap.size w w') := by
    show ∀ w, _
    rw [hSH, s8H_list]
    exact fun w => rStart_any w
  clear hSH
  have hmx := hide (fun w => mix_any s b w hb)
  have hrm := hide (fun g w h => rMix_any s b hb g 8 26 w h)
  have hUs : (uc s.list).toArray.size = 8 := by rw [List.size_toArray, uc_length, S8.len]
  obtain ⟨U, hU⟩ : ∃ U : Array Value, U = (uc s.list).toArray := ⟨_, rfl⟩
  rw [← hU] at hUs hmx ⊢
  have HU := hide hU
  clear hU
  generalize mix s b.data.toList = S2 at *
  have hCs : (uc S2.list).toArray.size = 8 := by rw [List.size_toArray, uc_length, S8.len]
  have hC1 : (uc S2.list).toArray.all (·.oneCell') = true := all_oneCell_toArray (uc_oneCell _)
  obtain ⟨C, hC⟩ : ∃ C : Array Value, C = (uc S2.list).toArray := ⟨_, rfl⟩
  rw [← hC] at hCs hC1 hmx
  have HC := hide hC
  clear hC
  have h1 : (b.size : Int) = 64 := by omega
  clear hb
  have r0 : (w.alloc (.cells U 26)).heap[w.heap.size]? = some (.cells U 26 (0, 0)) := heap_alloc_new _ _
  go_enter Try.func4, Try.ntmps4
  go_wp2_with (refine wpList_load_row rfl 26 (.tmp 2) rfl w.heap.size rfl 26 U (0, 0) _ r0 Try.underlying26 rfl ?hi2 ?_)
  case hi2 => rw [hUs]; kernel_rfl
  refine (unhide hmx _).mono ?_
  rintro e w2 ⟨rfl, b2⟩
  have B2 : Hid (Below w.heap.size w w2) := ((Below.refl _ _).alloc (Nat.le_refl _) _).trans (b2.mono (by simp))
  have R2 : Hid (w2.heap[w.heap.size]? = some (.cells U 26 (0, 0))) := (b2.block _ (lt_of_block r0)).trans r0
  clear b2 r0 hmx
  obtain ⟨Z, hZ⟩ : ∃ Z : Array Value, Z = (uc (List.replicate 8 0)).toArray := ⟨_, rfl⟩
  have hZs : Z.size = 8 := by rw [hZ]; rfl
  have hzv : ∀ w, (zeroValue 26).run Try.prog w = .ok (.agg Z) w := fun w => by rw [hZ]; kernel_rfl
  have HZ := hide hZ
  clear hZ
  go_wp2_with (refine wpList_store_abs rfl 26 (.tmp 5) (.tmp 11) rfl w2.heap.size 0 C rfl rfl ?ht3 ?hi3 hC1 ?_)
  case ht3 => rw [hCs]; exact (by have h0 := there_of_block (heap_alloc_new w2 (.cells Z 26)); rw [hZs] at h0; exact h0)
  case hi3 => rw [hCs]; kernel_rfl
  intro w3 hw3
  have HX0 : Hid (WordsAt w3 w2.heap.size 26 S2.list) := by
    show WordsAt _ _ _ _
    rw [unhide hw3, unhide HC, List.toList_toArray]
    have h0 : WordsAt (w2.alloc (.cells Z 26)) w2.heap.size 26 (List.replicate 8 0) := by
      unfold WordsAt
      rw [← unhide HZ]
      exact heap_alloc_new _ _
    exact h0.stored (by rw [List.length_replicate, S8.len])
  have HS0 : Hid (WordsAt w3 w.heap.size 26 s.list) := by
    show WordsAt _ _ _ _
    have h2 : WordsAt w2 w.heap.size 26 s.list := by unfold WordsAt; rw [← unhide HU]; exact unhide R2
    rw [unhide hw3]
    exact (h2.alloc _).setCells_other _ (Nat.ne_of_lt (lt_of_block (unhide R2)))
  have B3 : Hid (Below w.heap.size w w3) := by
    show Below _ _ _
    rw [unhide hw3]
    exact below_setCells (unhide B2).size _ _ _ ((unhide B2).alloc (unhide B2).size _)
  clear hw3 B2 hzv R2 HC HU HZ hZs
  generalize w2.heap.size = g5 at *
  obtain ⟨g2, hg2⟩ : ∃ g2, g2 = w.heap.size := ⟨_, rfl⟩
  rw [← hg2] at HS0
  have HG2 := hide hg2
  clear hg2
  go_wp2
  obtain ⟨W0, hW0⟩ : ∃ W0, W0 = w3.drew := ⟨_, rfl⟩
  have HX : Hid (WordsAt W0 g5 26 S2.list) := by show WordsAt _ _ _ _; rw [hW0]; exact unhide HX0
  have HSW : Hid (WordsAt W0 g2 26 s.list) := by show WordsAt _ _ _ _; rw [hW0]; exact unhide HS0
  have HBW : Hid (Below w.heap.size w W0) := by show Below _ _ _; rw [hW0]; exact (unhide B3).drew
  generalize hA : Act.mk _ _ = A
  have hA1 : A.eval (.tmp 1) = .string b := by rw [← hA]; rfl
  have hA2 : A.eval (.tmp 2) = .pointer (some ⟨g2, 0, none⟩) := by rw [← hA, unhide HG2]; rfl
  have hA5 : A.eval (.tmp 5) = .pointer (some ⟨g5, 0, none⟩) := by rw [← hA]; rfl
  have hA6 : A.eval (.tmp 6) = .int .i64 0 := by rw [← hA]; rfl
  have hAs : A.tmps.size = 44 := by rw [← hA]; rfl
  obtain ⟨V, hVe⟩ : ∃ V : List (Nat × Nat × Value), V = [(0, 26, .bool true), (1, 27, .bool true), (2, 28, .int .i64 0), (3, 29, .bool true), (4, 30, .bool true), (5, 31, .bool true), (6, 32, .agg (uc S2.list).toArray), (7, 33, .agg (uc s.list).toArray), (9, 35, .string b), (11, 37, .bool true), (12, 38, .bool true), (13, 39, .bool true), (14, 40, .agg (uc SH.list).toArray), (16, 42, .bool true), (17, 43, .bool true), (18, 4, .bool true)] := ⟨_, rfl⟩
  refine wp_region_invG (by kernel_rfl) (by kernel_rfl) (fun f a wx => Off [4, 26, 27, 28, 29, 30, 31, 32, 33, 34, 35, 36, 37, 38, 39, 40, 41, 42, 43] A a ∧ ValsOk V f a ∧ Below W0.heap.size W0 wx ∧ ∃ g34 g36 g41 : Nat, (f 8 = true → a.eval (.tmp 34) = .slice (some ⟨g34, 0, none⟩) 8 8 ∧ WordsAt wx g34 26 s.list) ∧ (f 10 = true → a.eval (.tmp 36) = .slice (some ⟨g36, 0, none⟩) 8 8 ∧ WordsAt wx g36 25 S2.list) ∧ (f 15 = true → a.eval (.tmp 41) = .slice (some ⟨g41, 0, none⟩) 8 8 ∧ WordsAt wx g41 25 SH.list)) ?start ?step ?fin
  case start => exact ⟨Off.refl _ _, vals_start _ _, by rw [← hW0]; exact Below.refl _ _, 0, 0, 0, by simp, by simp, by simp⟩
  case step =>
    rintro f a wx i o ⟨hoff, hV, hbl, g34, g36, g41, h8, h10, h15⟩ ho hfi hdep
    have has : a.tmps.size = 44 := hoff.size.trans hAs
    have hv := fun (i d : Nat) (v : Value) (hm : (i, d, v) ∈ V) (hf : f i = true) => hV (i, d, v) hm hf
    rcases i with _ | _ | _ | _ | _ | _ | _ | _ | _ | _ | _ | _ | _ | _ | _ | _ | _ | _ | _ | i
    · obtain rfl := Option.some.inj ho
      refine ⟨rfl, ?_⟩
      refine wp_call 9 #[] #[] rfl Try.call9 #[] (by simp) (awake_any wx) ?_
      rintro e w3 ⟨rfl, hb3⟩
      exact ⟨_, rfl, hoff.put 26 _ (by simp), vals_put hV 0 26 _ (by omega) (by rw [hVe]; simp) (by rw [hVe]; simp), hbl.trans (hb3.mono hbl.size), g34, g36, g41, fun h => ⟨(eval_put_ne a 26 34 _ (by decide)).trans (h8 h).1, (h8 h).2.below hb3⟩, fun h => ⟨(eval_put_ne a 26 36 _ (by decide)).trans (h10 h).1, (h10 h).2.below hb3⟩, fun h => ⟨(eval_put_ne a 26 41 _ (by decide)).trans (h15 h).1, (h15 h).2.below hb3⟩⟩
    · obtain rfl := Option.some.inj ho
      have d0 : f 0 = true := hdep ⟨0, .data⟩ (by simp) rfl
      refine ⟨rfl, ?_⟩
      refine wp_move (.tmp 26) rfl ?_
      rw [(hv 0 26 (.bool true) (by rw [hVe]; simp) d0)]
      exact ⟨hoff.put 27 _ (by simp), vals_put hV 1 27 _ (by omega) (by rw [hVe]; simp) (by rw [hVe]; simp), hbl, g34, g36, g41, fun h => ⟨(eval_put_ne a 27 34 _ (by decide)).trans (h8 h).1, (h8 h).2⟩, fun h => ⟨(eval_put_ne a 27 36 _ (by decide)).trans (h10 h).1, (h10 h).2⟩, fun h => ⟨(eval_put_ne a 27 41 _ (by decide)).trans (h15 h).1, (h15 h).2⟩⟩
    · obtain rfl := Option.some.inj ho
      have d1 : f 1 = true := hdep ⟨1, .guard⟩ (by simp) rfl
      refine ⟨wanted_of 1 27 true rfl rfl (hv 1 27 (.bool true) (by rw [hVe]; simp) d1), ?_⟩
      refine wp_move (.tmp 6) rfl ?_
      rw [hoff.eval 6 (by simp), hA6]
      exact ⟨hoff.put 28 _ (by simp), vals_put hV 2 28 _ (by omega) (by rw [hVe]; simp) (by rw [hVe]; simp), hbl, g34, g36, g41, fun h => ⟨(eval_put_ne a 28 34 _ (by decide)).trans (h8 h).1, (h8 h).2⟩, fun h => ⟨(eval_put_ne a 28 36 _ (by decide)).trans (h10 h).1, (h10 h).2⟩, fun h => ⟨(eval_put_ne a 28 41 _ (by decide)).trans (h15 h).1, (h15 h).2⟩⟩
    · obtain rfl := Option.some.inj ho
      have d1 : f 1 = true := hdep ⟨1, .guard⟩ (by simp) rfl
      have d2 : f 2 = true := hdep ⟨2, .data⟩ (by simp) rfl
      refine ⟨wanted_of 1 27 true rfl rfl (hv 1 27 (.bool true) (by rw [hVe]; simp) d1), ?_⟩
      refine wp_eq64T 27 27 (.tmp 28) (.const (.int .i64 0)) rfl Try.underlying27 0 (hv 2 28 (.int .i64 0) (by rw [hVe]; simp) d2) rfl ?_
      exact ⟨hoff.put 29 _ (by simp), vals_put hV 3 29 _ (by omega) (by rw [hVe]; simp) (by rw [hVe]; simp), hbl, g34, g36, g41, fun h => ⟨(eval_put_ne a 29 34 _ (by decide)).trans (h8 h).1, (h8 h).2⟩, fun h => ⟨(eval_put_ne a 29 36 _ (by decide)).trans (h10 h).1, (h10 h).2⟩, fun h => ⟨(eval_put_ne a 29 41 _ (by decide)).trans (h15 h).1, (h15 h).2⟩⟩
    · obtain rfl := Option.some.inj ho
      have d1 : f 1 = true := hdep ⟨1, .data⟩ (by simp) rfl
      have d3 : f 3 = true := hdep ⟨3, .data⟩ (by simp) rfl
      refine ⟨rfl, ?_⟩
      refine wp_pickT (.tmp 27) (.tmp 29) (.const (.bool false)) rfl _ (hv 1 27 (.bool true) (by rw [hVe]; simp) d1) (hv 3 29 (.bool true) (by rw [hVe]; simp) d3) ?_
      exact ⟨hoff.put 30 _ (by simp), vals_put hV 4 30 _ (by omega) (by rw [hVe]; simp) (by rw [hVe]; simp), hbl, g34, g36, g41, fun h => ⟨(eval_put_ne a 30 34 _ (by decide)).trans (h8 h).1, (h8 h).2⟩, fun h => ⟨(eval_put_ne a 30 36 _ (by decide)).trans (h10 h).1, (h10 h).2⟩, fun h => ⟨(eval_put_ne a 30 41 _ (by decide)).trans (h15 h).1, (h15 h).2⟩⟩
    · obtain rfl := Option.some.inj ho
      have d4 : f 4 = true := hdep ⟨4, .data⟩ (by simp) rfl
      refine ⟨rfl, ?_⟩
      refine wp_move (.tmp 30) rfl ?_
      rw [(hv 4 30 (.bool true) (by rw [hVe]; simp) d4)]
      exact ⟨hoff.put 31 _ (by simp), vals_put hV 5 31 _ (by omega) (by rw [hVe]; simp) (by rw [hVe]; simp), hbl, g34, g36, g41, fun h => ⟨(eval_put_ne a 31 34 _ (by decide)).trans (h8 h).1, (h8 h).2⟩, fun h => ⟨(eval_put_ne a 31 36 _ (by decide)).trans (h10 h).1, (h10 h).2⟩, fun h => ⟨(eval_put_ne a 31 41 _ (by decide)).trans (h15 h).1, (h15 h).2⟩⟩
    · obtain rfl := Option.some.inj ho
      have d5 : f 5 = true := hdep ⟨5, .guard⟩ (by simp) rfl
      refine ⟨wanted_of 5 31 true rfl rfl (hv 5 31 (.bool true) (by rw [hVe]; simp) d5), ?_⟩
      refine wp_load_row 26 (.tmp 5) rfl g5 ((hoff.eval 5 (by simp)).trans hA5) 26 (uc S2.list).toArray (0, 0) _ ((hbl.block _ (unhide HX).lt).trans (unhide HX)) Try.underlying26 rfl (by rw [List.size_toArray, uc_length, S8.len]; kernel_rfl) ?_
      exact ⟨hoff.put 32 _ (by simp), vals_put hV 6 32 _ (by omega) (by rw [hVe]; simp) (by rw [hVe]; simp), hbl, g34, g36, g41, fun h => ⟨(eval_put_ne a 32 34 _ (by decide)).trans (h8 h).1, (h8 h).2⟩, fun h => ⟨(eval_put_ne a 32 36 _ (by decide)).trans (h10 h).1, (h10 h).2⟩, fun h => ⟨(eval_put_ne a 32 41 _ (by decide)).trans (h15 h).1, (h15 h).2⟩⟩
    · obtain rfl := Option.some.inj ho
      have d5 : f 5 = true := hdep ⟨5, .guard⟩ (by simp) rfl
      refine ⟨wanted_of 5 31 true rfl rfl (hv 5 31 (.bool true) (by rw [hVe]; simp) d5), ?_⟩
      refine wp_load_row 26 (.tmp 2) rfl g2 ((hoff.eval 2 (by simp)).trans hA2) 26 (uc s.list).toArray (0, 0) _ ((hbl.block _ (unhide HSW).lt).trans (unhide HSW)) Try.underlying26 rfl (by rw [List.size_toArray, uc_length, S8.len]; kernel_rfl) ?_
      exact ⟨hoff.put 33 _ (by simp), vals_put hV 7 33 _ (by omega) (by rw [hVe]; simp) (by rw [hVe]; simp), hbl, g34, g36, g41, fun h => ⟨(eval_put_ne a 33 34 _ (by decide)).trans (h8 h).1, (h8 h).2⟩, fun h => ⟨(eval_put_ne a 33 36 _ (by decide)).trans (h10 h).1, (h10 h).2⟩, fun h => ⟨(eval_put_ne a 33 41 _ (by decide)).trans (h15 h).1, (h15 h).2⟩⟩
    · obtain rfl := Option.some.inj ho
      have d5 : f 5 = true := hdep ⟨5, .guard⟩ (by simp) rfl
      have d7 : f 7 = true := hdep ⟨7, .data⟩ (by simp) rfl
      refine ⟨wanted_of 5 31 true rfl rfl (hv 5 31 (.bool true) (by rw [hVe]; simp) d5), ?_⟩
      refine wp_call 15 #[.tmp 33] #[26] rfl Try.call15 #[.agg (uc s.list).toArray] (by simp [(hv 7 33 (.agg (uc s.list).toArray) (by rw [hVe]; simp) d7)]) (words_any s wx) ?_
      rintro e w3 ⟨g3, rfl, hw3, hb3⟩
      exact ⟨_, rfl, hoff.put 34 _ (by simp), vals_put hV 8 34 _ (by omega) (by rw [hVe]; simp) (by rw [hVe]; simp), hbl.trans (hb3.mono hbl.size), g3, g36, g41, fun _ => ⟨eval_put_same a 34 _ (by omega), hw3⟩, fun h => ⟨(eval_put_ne a 34 36 _ (by decide)).trans (h10 h).1, (h10 h).2.below hb3⟩, fun h => ⟨(eval_put_ne a 34 41 _ (by decide)).trans (h15 h).1, (h15 h).2.below hb3⟩⟩
    · obtain rfl := Option.some.inj ho
      have d5 : f 5 = true := hdep ⟨5, .guard⟩ (by simp) rfl
      refine ⟨wanted_of 5 31 true rfl rfl (hv 5 31 (.bool true) (by rw [hVe]; simp) d5), ?_⟩
      refine wp_move (.tmp 1) rfl ?_
      rw [hoff.eval 1 (by simp), hA1]
      exact ⟨hoff.put 35 _ (by simp), vals_put hV 9 35 _ (by omega) (by rw [hVe]; simp) (by rw [hVe]; simp), hbl, g34, g36, g41, fun h => ⟨(eval_put_ne a 35 34 _ (by decide)).trans (h8 h).1, (h8 h).2⟩, fun h => ⟨(eval_put_ne a 35 36 _ (by decide)).trans (h10 h).1, (h10 h).2⟩, fun h => ⟨(eval_put_ne a 35 41 _ (by decide)).trans (h15 h).1, (h15 h).2⟩⟩
    · obtain rfl := Option.some.inj ho
      have d5 : f 5 = true := hdep ⟨5, .guard⟩ (by simp) rfl
      have d8 : f 8 = true := hdep ⟨8, .data⟩ (by simp) rfl
      have d9 : f 9 = true := hdep ⟨9, .data⟩ (by simp) rfl
      refine ⟨wanted_of 5 31 true rfl rfl (hv 5 31 (.bool true) (by rw [hVe]; simp) d5), ?_⟩
      obtain ⟨e34, w34⟩ := h8 d8
      refine wp_call 14 #[.tmp 34, .tmp 35] #[31, 9] rfl Try.call14 #[.slice (some ⟨g34, 0, none⟩) 8 8, .string b] (by simp [e34, (hv 9 35 (.string b) (by rw [hVe]; simp) d9)]) (unhide hrm g34 wx w34) ?_
      rintro e w3 ⟨g3, rfl, hw3, _, hb3⟩
      exact ⟨_, rfl, hoff.put 36 _ (by simp), vals_put hV 10 36 _ (by omega) (by rw [hVe]; simp) (by rw [hVe]; simp), hbl.trans (hb3.mono hbl.size), g34, g3, g41, fun h => ⟨(eval_put_ne a 36 34 _ (by decide)).trans (h8 h).1, (h8 h).2.below hb3⟩, fun _ => ⟨eval_put_same a 36 _ (by omega), hw3⟩, fun h => ⟨(eval_put_ne a 36 41 _ (by decide)).trans (h15 h).1, (h15 h).2.below hb3⟩⟩
    · obtain rfl := Option.some.inj ho
      have d5 : f 5 = true := hdep ⟨5, .guard⟩ (by simp) rfl
      have d6 : f 6 = true := hdep ⟨6, .data⟩ (by simp) rfl
      have d10 : f 10 = true := hdep ⟨10, .data⟩ (by simp) rfl
      refine ⟨wanted_of 5 31 true rfl rfl (hv 5 31 (.bool true) (by rw [hVe]; simp) d5), ?_⟩
      obtain ⟨e36, w36⟩ := h10 d10
      refine wp_call 13 #[.tmp 32, .tmp 36] #[26, 31] rfl Try.call13 #[.agg (uc S2.list).toArray, .slice (some ⟨g36, 0, none⟩) 8 8] (by simp [e36, (hv 6 32 (.agg (uc S2.list).toArray) (by rw [hVe]; simp) d6)]) (same_any S2 g36 8 25 wx w36) ?_
      rintro e w3 ⟨rfl, hb3⟩
      exact ⟨_, rfl, hoff.put 37 _ (by simp), vals_put hV 11 37 _ (by omega) (by rw [hVe]; simp) (by rw [hVe]; simp), hbl.trans (hb3.mono hbl.size), g34, g36, g41, fun h => ⟨(eval_put_ne a 37 34 _ (by decide)).trans (h8 h).1, (h8 h).2.below hb3⟩, fun h => ⟨(eval_put_ne a 37 36 _ (by decide)).trans (h10 h).1, (h10 h).2.below hb3⟩, fun h => ⟨(eval_put_ne a 37 41 _ (by decide)).trans (h15 h).1, (h15 h).2.below hb3⟩⟩
    · obtain rfl := Option.some.inj ho
      have d5 : f 5 = true := hdep ⟨5, .data⟩ (by simp) rfl
      have d11 : f 11 = true := hdep ⟨11, .data⟩ (by simp) rfl
      refine ⟨rfl, ?_⟩
      refine wp_pickT (.tmp 31) (.tmp 37) (.const (.bool false)) rfl _ (hv 5 31 (.bool true) (by rw [hVe]; simp) d5) (hv 11 37 (.bool true) (by rw [hVe]; simp) d11) ?_
      exact ⟨hoff.put 38 _ (by simp), vals_put hV 12 38 _ (by omega) (by rw [hVe]; simp) (by rw [hVe]; simp), hbl, g34, g36, g41, fun h => ⟨(eval_put_ne a 38 34 _ (by decide)).trans (h8 h).1, (h8 h).2⟩, fun h => ⟨(eval_put_ne a 38 36 _ (by decide)).trans (h10 h).1, (h10 h).2⟩, fun h => ⟨(eval_put_ne a 38 41 _ (by decide)).trans (h15 h).1, (h15 h).2⟩⟩
    · obtain rfl := Option.some.inj ho
      have d12 : f 12 = true := hdep ⟨12, .data⟩ (by simp) rfl
      refine ⟨rfl, ?_⟩
      refine wp_move (.tmp 38) rfl ?_
      rw [(hv 12 38 (.bool true) (by rw [hVe]; simp) d12)]
      exact ⟨hoff.put 39 _ (by simp), vals_put hV 13 39 _ (by omega) (by rw [hVe]; simp) (by rw [hVe]; simp), hbl, g34, g36, g41, fun h => ⟨(eval_put_ne a 39 34 _ (by decide)).trans (h8 h).1, (h8 h).2⟩, fun h => ⟨(eval_put_ne a 39 36 _ (by decide)).trans (h10 h).1, (h10 h).2⟩, fun h => ⟨(eval_put_ne a 39 41 _ (by decide)).trans (h15 h).1, (h15 h).2⟩⟩
    · obtain rfl := Option.some.inj ho
      have d13 : f 13 = true := hdep ⟨13, .guard⟩ (by simp) rfl
      refine ⟨wanted_of 13 39 true rfl rfl (hv 13 39 (.bool true) (by rw [hVe]; simp) d13), ?_⟩
      refine wp_call 16 #[] #[] rfl Try.call16 #[] (by simp) (unhide hst wx) ?_
      rintro e w3 ⟨rfl, hb3⟩
      exact ⟨_, rfl, hoff.put 40 _ (by simp), vals_put hV 14 40 _ (by omega) (by rw [hVe]; simp) (by rw [hVe]; simp), hbl.trans (hb3.mono hbl.size), g34, g36, g41, fun h => ⟨(eval_put_ne a 40 34 _ (by decide)).trans (h8 h).1, (h8 h).2.below hb3⟩, fun h => ⟨(eval_put_ne a 40 36 _ (by decide)).trans (h10 h).1, (h10 h).2.below hb3⟩, fun h => ⟨(eval_put_ne a 40 41 _ (by decide)).trans (h15 h).1, (h15 h).2.below hb3⟩⟩
    · obtain rfl := Option.some.inj ho
      have d13 : f 13 = true := hdep ⟨13, .guard⟩ (by simp) rfl
      refine ⟨wanted_of 13 39 true rfl rfl (hv 13 39 (.bool true) (by rw [hVe]; simp) d13), ?_⟩
      refine wp_call 17 #[] #[] rfl Try.call17 #[] (by simp) (unhide hrs wx) ?_
      rintro e w3 ⟨rfl, hw3, hb3⟩
      exact ⟨_, rfl, hoff.put 41 _ (by simp), vals_put hV 15 41 _ (by omega) (by rw [hVe]; simp) (by rw [hVe]; simp), hbl.trans (hb3.mono hbl.size), g34, g36, wx.heap.size, fun h => ⟨(eval_put_ne a 41 34 _ (by decide)).trans (h8 h).1, (h8 h).2.below hb3⟩, fun h => ⟨(eval_put_ne a 41 36 _ (by decide)).trans (h10 h).1, (h10 h).2.below hb3⟩, fun _ => ⟨eval_put_same a 41 _ (by omega), hw3⟩⟩
    · obtain rfl := Option.some.inj ho
      have d13 : f 13 = true := hdep ⟨13, .guard⟩ (by simp) rfl
      have d14 : f 14 = true := hdep ⟨14, .data⟩ (by simp) rfl
      have d15 : f 15 = true := hdep ⟨15, .data⟩ (by simp) rfl
      refine ⟨wanted_of 13 39 true rfl rfl (hv 13 39 (.bool true) (by rw [hVe]; simp) d13), ?_⟩
      obtain ⟨e41, w41⟩ := h15 d15
      refine wp_call 13 #[.tmp 40, .tmp 41] #[26, 31] rfl Try.call13 #[.agg (uc SH.list).toArray, .slice (some ⟨g41, 0, none⟩) 8 8] (by simp [e41, (hv 14 40 (.agg (uc SH.list).toArray) (by rw [hVe]; simp) d14)]) (same_any SH g41 8 25 wx w41) ?_
      rintro e w3 ⟨rfl, hb3⟩
      exact ⟨_, rfl, hoff.put 42 _ (by simp), vals_put hV 16 42 _ (by omega) (by rw [hVe]; simp) (by rw [hVe]; simp), hbl.trans (hb3.mono hbl.size), g34, g36, g41, fun h => ⟨(eval_put_ne a 42 34 _ (by decide)).trans (h8 h).1, (h8 h).2.below hb3⟩, fun h => ⟨(eval_put_ne a 42 36 _ (by decide)).trans (h10 h).1, (h10 h).2.below hb3⟩, fun h => ⟨(eval_put_ne a 42 41 _ (by decide)).trans (h15 h).1, (h15 h).2.below hb3⟩⟩
    · obtain rfl := Option.some.inj ho
      have d13 : f 13 = true := hdep ⟨13, .data⟩ (by simp) rfl
      have d16 : f 16 = true := hdep ⟨16, .data⟩ (by simp) rfl
      refine ⟨rfl, ?_⟩
      refine wp_pickT (.tmp 39) (.tmp 42) (.const (.bool false)) rfl _ (hv 13 39 (.bool true) (by rw [hVe]; simp) d13) (hv 16 42 (.bool true) (by rw [hVe]; simp) d16) ?_
      exact ⟨hoff.put 43 _ (by simp), vals_put hV 17 43 _ (by omega) (by rw [hVe]; simp) (by rw [hVe]; simp), hbl, g34, g36, g41, fun h => ⟨(eval_put_ne a 43 34 _ (by decide)).trans (h8 h).1, (h8 h).2⟩, fun h => ⟨(eval_put_ne a 43 36 _ (by decide)).trans (h10 h).1, (h10 h).2⟩, fun h => ⟨(eval_put_ne a 43 41 _ (by decide)).trans (h15 h).1, (h15 h).2⟩⟩
    · obtain rfl := Option.some.inj ho
      have d17 : f 17 = true := hdep ⟨17, .data⟩ (by simp) rfl
      refine ⟨rfl, ?_⟩
      refine wp_assign (.tmp 43) rfl ?_
      rw [(hv 17 43 (.bool true) (by rw [hVe]; simp) d17)]
      exact ⟨hoff.put 4 _ (by simp), vals_put hV 18 4 _ (by omega) (by rw [hVe]; simp) (by rw [hVe]; simp), hbl, g34, g36, g41, fun h => ⟨(eval_put_ne a 4 34 _ (by decide)).trans (h8 h).1, (h8 h).2⟩, fun h => ⟨(eval_put_ne a 4 36 _ (by decide)).trans (h10 h).1, (h10 h).2⟩, fun h => ⟨(eval_put_ne a 4 41 _ (by decide)).trans (h15 h).1, (h15 h).2⟩⟩
    · simp at ho
  case fin =>
    rintro f a wx ⟨hoff, hV, hbl, _⟩ hall
    have e := Off.all _ _ hoff
    have e4 : a.eval (.tmp 4) = .bool true := hV (18, 4, .bool true) (by rw [hVe]; simp) (hall 18 (by decide))
    have hbe := hide ((unhide HBW).trans (hbl.mono (unhide HBW).size))
    simp only [List.foldl_cons, List.foldl_nil] at e
    rw [← hA, e4] at e
    generalize a.eval (.tmp 26) = y26, a.eval (.tmp 27) = y27, a.eval (.tmp 28) = y28, a.eval (.tmp 29) = y29, a.eval (.tmp 30) = y30, a.eval (.tmp 31) = y31, a.eval (.tmp 32) = y32, a.eval (.tmp 33) = y33, a.eval (.tmp 34) = y34, a.eval (.tmp 35) = y35, a.eval (.tmp 36) = y36, a.eval (.tmp 37) = y37, a.eval (.tmp 38) = y38, a.eval (.tmp 39) = y39, a.eval (.tmp 40) = y40, a.eval (.tmp 41) = y41, a.eval (.tmp 42) = y42, a.eval (.tmp 43) = y43 at e
    simp only [Act.put, List.setIfInBounds_toArray, List.set_cons_succ, List.set_cons_zero] at e
    subst e
    clear hoff hV hA hA1 hA2 hA5 hA6 hVe hbl e4
    go_wp2
    go_ret
    exact ⟨rfl, unhide hbe⟩

theorem shaMixes_any (s : S8) (b : ByteArray) (w : World) (hm : b.size ≤ maxLen) :
    Calls Try.prog 4 #[.agg (uc s.list).toArray, .string b] w fun e w' => e = .returned (.bool true) ∧ Below w.heap.size w w' := by
  by_cases hb : b.size = 64
  · exact shaMixes_good s b w hb
  · exact shaMixes_bad s b w hm hb

end Go.Proofs.Ytahejlimdgniiaa

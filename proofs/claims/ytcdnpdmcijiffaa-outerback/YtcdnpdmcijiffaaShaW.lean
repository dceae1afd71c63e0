import Derived.Test.YtcdnpdmcijiffaaShaS
import Derived.Deep.RegionHeld3
namespace Go.Proofs.Ytcdnpdmcijiffaa
open Go.RowKit
set_option linter.unusedVariables false
attribute [local go_sem] xor32 and32 or32 add32 shr32_3 shr32_10

set_option maxRecDepth 100000 in
theorem spread_any (B : List UInt8) (hB : B.length = 64) (w : World) :
    Calls Try.prog 86 #[.agg (bc B).toArray] w fun e w' => e = .returned (.agg (uc (sched B)).toArray) ∧ Below w.heap.size w w' := by
  obtain ⟨cs, hcs⟩ : ∃ cs, cs = (bc B).toArray := ⟨_, rfl⟩
  rw [← hcs]
  have HC := hide hcs
  clear hcs
  go_enter Try.func86, Try.ntmps86
  go_wp2_with (refine wpList_load_row rfl 116 (.tmp 1) rfl w.heap.size rfl 116 cs (0, 0) _ ?hg Try.underlying116 rfl ?hi ?_)
  case hg => exact heap3_a _ _ _ _
  case hi => rw [unhide HC, List.size_toArray, bc_length, hB]; kernel_rfl
  go_loopw [10] (fun i wr => ∃ k : Nat, k ≤ 64 ∧ i = .int .i64 k ∧ WordsAt wr (w.heap.size + 1 + 1) 122 (wparts B k) ∧ WordsAt wr (w.heap.size + 1) 122 (wparts B 0) ∧ wr.heap.size = w.heap.size + 3 ∧ Below w.heap.size w wr) (fun i _ => 64 - (intOf i).toNat)
  case atStart =>
    refine ⟨0, by omega, rfl, ?_, ?_, by simp, ((((Below.refl _ _).alloc (Nat.le_refl _) _).alloc (by simp) _).alloc (by simp; omega) _)⟩
    · rw [wparts_zero]
      exact heap3_c _ _ _ _
    · rw [wparts_zero]
      exact heap3_b _ _ _ _
  case round =>
    obtain ⟨k, hk, rfl, hw1, hw2, hsz, hb⟩ := hrel
    by_cases hlt : k < 64
    · have c1 := hw1.cell (k / 4) (by rw [wparts_length]; omega)
      rw [wparts_get _ _ _ (by omega)] at c1
      have f1 := hw1.free (k / 4)
      have hkB : k < B.length := by omega
      have hix := run_index_agg (P := Try.prog) 116 5 64 cs .i64 k (.int .u8 (B[k]).toNat) Try.underlying116 ⟨_, Try.underlying5, rfl⟩ (by kernel_rfl) hlt (by rw [unhide HC]; simp only [List.getElem?_toArray]; exact bc_get B k hkB)
      have hsp := push_spell (wpart B k (k / 4)) B[k]
      have hst := hide (hw1.set (k / 4) (pushByte (wpart B k (k / 4)) B[k]))
      have hst2 := hide (hw2.other (j := k / 4) (g' := w.heap.size + 1 + 1) (.int .u32 (n32 (pushByte (wpart B k (k / 4)) B[k]))) (by omega))
      have hb2 := hide (hb.setCell (p := ⟨w.heap.size + 1 + 1, k / 4, none⟩) (by simp; omega) (.int .u32 (n32 (pushByte (wpart B k (k / 4)) B[k]))))
      rw [wparts_step B k hkB hlt] at hst
      have HSZ := hide hsz
      clear hw1 hw2 hb hsz
      have hk0 : (0 : Int) ≤ k := by omega
      have hbt := B[k].toNat_lt
      go_wp2
      go_roundw
      case rel => exact ⟨k + 1, by omega, by go_num, unhide hst, unhide hst2, by simp; exact unhide HSZ, unhide hb2⟩
      case measure => simp [intOf]; omega
    · have hk64 : k = 64 := by omega
      subst hk64
      clear hk hlt
      go_wp2
      go_loopw [6] (fun i wr => ∃ n : Nat, n ≤ 48 ∧ i = .int .i64 (16 + n : Nat) ∧ WordsAt wr (w.heap.size + 1 + 1) 122 (wfill B n) ∧ WordsAt wr (w.heap.size + 1) 122 (wparts B 0) ∧ wr.heap.size = w.heap.size + 3 ∧ Below w.heap.size w wr) (fun i _ => 64 - (intOf i).toNat)
      case atStart => exact ⟨0, by omega, rfl, by rw [wparts_64 B hB] at hw1; exact hw1, hw2, hsz, hb⟩
      case round =>
        clear hw1 hw2 hsz hb
        obtain ⟨n, hn, rfl, hw1, hw2, hsz, hb⟩ := hrel
        by_cases hlt : n < 48
        · obtain ⟨t, ht⟩ : ∃ t, t = 16 + n := ⟨_, rfl⟩
          have ht1 : 16 ≤ t := by omega
          have ht2 : t < 64 := by omega
          have gx : ∀ j, j < 16 + n → wr.cell? ⟨w.heap.size + 1 + 1, j, none⟩ = some (.int .u32 (n32 ((schedN B n).getD j 0))) := fun j hj => by
            rw [hw1.cell j (by rw [wfill_length B n hn]; omega), wfill_get B n j hn hj]
          have e15 := gx (t - 15) (by omega)
          have e2 := gx (t - 2) (by omega)
          have e7 := gx (t - 7) (by omega)
          have e16 := gx (t - 16) (by omega)
          rw [← ht]
          have HT := hide ht
          clear ht
          have f1 := hw1.free t
          have et : ∃ u, wr.cell? ⟨w.heap.size + 1 + 1, t, none⟩ = some u := ⟨_, hw1.cell t (by have := unhide HT; rw [wfill_length B n hn]; omega)⟩
          obtain ⟨u, et⟩ := et
          have t0 : (16 : Int) ≤ t := by omega
          have t9 : (t : Int) < 64 := by omega
          have t02 : (2 : Int) ≤ t := by omega
          have t07 : (7 : Int) ≤ t := by omega
          have t015 : (15 : Int) ≤ t := by omega
          have hst := hide (hw1.set t (nextW (schedN B n)))
          have hst2 := hide (hw2.other (j := t) (g' := w.heap.size + 1 + 1) (.int .u32 (n32 (nextW (schedN B n)))) (by omega))
          have HB := hide hb
          have hnx : Hid (nextW (schedN B n) = s1 ((schedN B n).getD (t - 2) 0) + (schedN B n).getD (t - 7) 0 + s0 ((schedN B n).getD (t - 15) 0) + (schedN B n).getD (t - 16) 0) := by
            show _ = _
            unfold nextW
            rw [schedN_length, ← unhide HT]
          have HSZ := hide hsz
          generalize (schedN B n).getD (t - 15) 0 = x15 at *
          generalize (schedN B n).getD (t - 2) 0 = x2 at *
          generalize (schedN B n).getD (t - 7) 0 = x7 at *
          generalize (schedN B n).getD (t - 16) 0 = x16 at *
          clear gx hw1 hw2 hb hsz hlt
          go_wp2
          go_big_quiet ((go_at_call 88; exact Calls.quiet_of_same (rotr_i _ _ _ (by decide) (by decide))))
          go_wp2
          go_big_quiet ((go_at_call 88; exact quiet_same2 (rotr_i _ _ _ (by decide) (by decide))))
          go_wp2
          go_region
          have hv : s1 x2 + x7 + s0 x15 + x16 = nextW (schedN B n) := (unhide hnx).symm
          unfold s1 s0 at hv
          go_wp2
          go_roundw
          case rel => exact ⟨n + 1, by have := unhide HT; omega, by have := unhide HT; go_num, by rw [← wfill_step B n (by have := unhide HT; omega), ← unhide HT]; exact unhide hst, unhide hst2, by simp; exact unhide HSZ, (below_drewN (unhide HB) _).setCell (by simp; omega) _⟩
          case measure => simp [intOf]; omega
        · have hn48 : n = 48 := by omega
          subst hn48
          rw [wfill_full] at hw1
          have hS1 : (uc (sched B)).toArray.size = 64 := by rw [List.size_toArray, uc_length, sched, schedN_length]
          have hS2 : (uc (sched B)).toArray.all (·.oneCell') = true := all_oneCell_toArray (uc_oneCell _)
          have hth : wr.there (w.heap.size + 1) 0 64 := fun j hj => by
            have e := hw2.cell j (by rw [wparts_length]; exact hj)
            rw [Nat.zero_add, e]
            exact ⟨rfl, hw2.free j⟩
          unfold WordsAt at hw1 hw2
          generalize hSe : (uc (sched B)).toArray = S at *
          have HSE := hide hSe
          clear hSe
          have HB := hide hb
          have H2 := hide hw2
          clear hb hw2 hsz HC hB
          go_wp2_with (first | (refine wpList_load_row rfl 122 (.tmp 3) rfl (w.heap.size + 1 + 1) rfl 122 S (0, 0) _ hw1 Try.underlying122 rfl ?hi2 ?_) | (refine wpList_store_mid rfl 122 (.tmp 2) (.tmp 79) rfl (w.heap.size + 1) 0 S rfl rfl ?ht3 ?hi3 hS2 ?_))
          case hi2 => rw [hS1]; kernel_rfl
          case ht3 => rw [hS1]; exact hth
          case hi3 => rw [hS1]; kernel_rfl
          refine bodyPost_ret (v := .agg S) ?_ rfl ⟨by rw [unhide HSE], below_setCells (by omega) _ _ _ (unhide HB)⟩
          refine results_cell_mid (P := Try.prog) (fn := Try.f86) (p := 2) (ty := 122) (by kernel_rfl) _ (wr.setCells (w.heap.size + 1) 0 S.toList) (w.heap.size + 1) 0 S.toList _ (by rfl) (World.rangeAt_setCells_same _ _ _ _ (by rw [Array.length_toList, hS1]; exact hth)) Try.underlying122 rfl (by rw [Array.length_toList, hS1]; kernel_rfl)
end Go.Proofs.Ytcdnpdmcijiffaa

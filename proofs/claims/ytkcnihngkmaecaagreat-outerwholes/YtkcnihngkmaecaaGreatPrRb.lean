/- Contract of the document's own Below. -/
import Derived.Test.YtkcnihngkmaecaaGreatPrRc
namespace Go.Proofs.YtkcnihngkmaecaaGreat
open Go.RowKit
set_option linter.unusedVariables false

/-- words as cells -/
def wc (Z : Nat → Int) (j : Nat) : List Value := (List.range j).map fun i => Value.int .u32 (Z i)
theorem wc_length (Z : Nat → Int) (j : Nat) : (wc Z j).length = j := by simp [wc]
theorem wc_succ (Z : Nat → Int) (j : Nat) : wc Z (j + 1) = wc Z j ++ [Value.int .u32 (Z j)] := by simp [wc, List.range_succ]
theorem wc_get (Z : Nat → Int) (j i : Nat) (h : i < j) : (wc Z j)[i]? = some (Value.int .u32 (Z i)) := by simp [wc, h]
theorem own_wordsIn {w : World} {base n : Nat} {v : Value} {Z : Nat → Int} (h : w.ownsRow base 103 1 v n (wc Z n)) (hn : 1 ≤ n) (hz : ∀ i, 0 ≤ Z i ∧ Z i < 4294967296) :
    ∃ g cap, v = .slice (some ⟨g, 0, none⟩) n cap ∧ n ≤ cap ∧ cap ≤ maxLen ∧ WordsIn w g 0 n Z := by
  rcases h.2 with ⟨_, h0⟩ | ⟨g, cap, cur, hv, _, hg, hnc, hcm, hcs, htake⟩
  · omega
  · subst hv
    refine ⟨g, cap, rfl, hnc, hcm, fun i hi => ⟨?_, hz i⟩⟩
    rw [Nat.zero_add]
    exact (h.cellAt i (by omega)).trans (wc_get Z n i hi)

theorem rbelow_bad (s : ByteArray) (u n : Int) (w : World) (h : ¬ (1 ≤ n ∧ n ≤ 2147483647)) :
    Calls Tryz.prog 54 #[gV s u, .int .i64 n] w fun e w' => e = .returned (.agg #[.string s, .int .i64 u, .int .i64 0]) ∧ Below w.heap.size w w' := by
  unfold gV
  by_cases h1 : n < 1
  · clear h
    go_enter Tryz.func54, Tryz.ntmps54
    go_wp2
    exact ret_cell rfl (w.heap.size + 1) 82 #[.string s, .int .i64 u, .int .i64 0] (0, 0) _ rfl (heap2_b _ _ _) rfl Tryz.underlying82 (by kernel_rfl) ⟨rfl, below2 _ _ _⟩
  · have h2 : 2147483647 < n := by omega
    clear h
    go_enter Tryz.func54, Tryz.ntmps54
    go_wp2
    exact ret_cell rfl (w.heap.size + 1) 82 #[.string s, .int .i64 u, .int .i64 0] (0, 0) _ rfl (heap2_b _ _ _) rfl Tryz.underlying82 (by kernel_rfl) ⟨rfl, below2 _ _ _⟩

set_option maxRecDepth 100000 in
set_option maxHeartbeats 2000000 in
theorem rbelow_any (s : ByteArray) (u : Nat) (n : Int) (w : World) (hs : s.size ≤ 64) (hu : u ≤ 1000000000) (hn1 : 1 ≤ n) (hn2 : n ≤ 2147483647) :
    Calls Tryz.prog 54 #[gV s u, .int .i64 n] w fun e w' => e = .returned (.agg #[.string s, .int .i64 ((u + chUse (wdF s.data.toList u) (fairOf n) 8 0 : Nat) : Int), .int .i64 (chV (wdF s.data.toList u) n 8)]) ∧ Below w.heap.size w w' := by
  have hwd := hide (fun w (i : Nat) (hi : i ≤ 8) => rword_any s u (u + i) w hs (by omega))
  have hYb := hide (fun j => wd_bounds s.data.toList (u + j))
  change Hid (∀ w (i : Nat), i ≤ 8 → Calls _ _ _ w fun e w' => e = .returned (.int .i64 (wdF s.data.toList u i)) ∧ Below w.heap.size w w') at hwd
  change Hid (∀ j, 0 ≤ wdF s.data.toList u j ∧ wdF s.data.toList u j < 4294967296) at hYb
  have hrc := hide (fun w' g cap (h : WordsIn w' g 0 8 (wdF s.data.toList u)) => rchoose_any w' g 0 8 cap n (wdF s.data.toList u) (by omega) (by unfold maxLen; omega) hn1 hn2 h)
  rw [show min 8 8 = 8 from rfl] at hrc
  have hml := chUse_le (wdF s.data.toList u) (fairOf n) 8 0
  generalize wdF s.data.toList u = Y at *
  generalize chUse Y (fairOf n) 8 0 = m at *
  generalize chV Y n 8 = v at *
  obtain ⟨i0, hi0, hz0, hz1, hz2⟩ := info_parts Tryz.infoW
  have k1 : ¬ n < 1 := by omega
  have k2 : ¬ (2147483647 : Int) < n := by omega
  unfold gV at *
  go_enter Tryz.func54, Tryz.ntmps54
  go_wp2_with fail
  generalize hW : World.alloc _ _ = W
  have r0 : W.heap[w.heap.size]? = some (.cells #[.string s, .int .i64 u] 56 (0, 0)) := by rw [← hW]; exact heap2_a _ _ _
  have r1 : W.heap[w.heap.size + 1]? = some (.cells #[.string ⟨#[]⟩, .int .i64 0, .int .i64 0] 82 (0, 0)) := by rw [← hW]; exact heap2_b _ _ _
  have R0 := hide r0
  have R1 := hide r1
  have B0 := hide (show Below w.heap.size w W by rw [← hW]; exact below2 _ _ _)
  clear hW r0 r1
  go_loopw [5, 6] (fun l i wr => ∃ k : Nat, k ≤ 8 ∧ i = .int .i64 k ∧ wr.ownsRow W.heap.size 103 1 l k (wc Y k) ∧ Below W.heap.size W wr) (fun _ i _ => 8 - (intOf i).toNat)
  case atStart => exact ⟨0, Nat.zero_le _, rfl, World.ownsRow_nil _ _ _ _, Below.refl _ _⟩
  case round =>
    obtain ⟨k, hk, rfl, hown, hb⟩ := hrel
    have r0 : wr.heap[w.heap.size]? = some (.cells #[.string s, .int .i64 u] 56 (0, 0)) := (hb.block _ (lt_of_block (unhide R0))).trans (unhide R0)
    have c0 := cell0_of_two r0
    have c1 := cell1_of_two r0
    obtain ⟨ao, cp, rfl⟩ := own_shape' hown
    have HO := hide hown
    have HB := hide hb
    clear r0 hown hb
    by_cases hlt : k < 8
    · have hw1 := hide (unhide hwd wr k hk)
      obtain ⟨hy0, hy1⟩ := unhide hYb k
      have hws := hide (wc_succ Y k)
      generalize Y k = y at *
      have q1 : (k : Int) < 8 := by omega
      have hmod : y % 4294967296 = y := by omega
      rw [show (((u + k : Nat)) : Int) = (u : Int) + k by omega] at hw1
      go_wp2_with fail
      refine (unhide hw1).mono ?_
      rintro e w5 ⟨rfl, b5⟩
      have hown5 := own_below (unhide HO) b5
      have HB5 := hide ((unhide HB).trans (b5.mono (unhide HB).size))
      have hz5 := (unhide HB5).size
      clear HO HB b5 hw1 c0 c1
      go_wp2_with (at_builtin; refine wpList_append_own _ rfl _ _ 102 rfl W.heap.size 103 i0 (.int .u32 0) 1 4 Tryz.undW hi0 hz0 hz1 hz2 rfl (by decide) _ _ _ rfl (hown5.alloc _) ⟨w5.heap.size, 0, none⟩ 1 1 [.int .u32 y] rfl rfl ?c1 ?c2 ?c3 ?c4 ?c5 ?_)
      case c1 => exact cell_one_new _ _ _
      case c2 => intro u hu; simp at hu; subst hu; rfl
      case c3 => unfold maxLen; omega
      case c4 => omega
      case c5 => simp; omega
      intro v' w6 hown' hgrow _
      have HB6 := hide (((unhide HB5).alloc (by omega) _).grown hgrow (by simp; omega) (fun k hk => ((hown5.lt k hk).1)))
      have HO6 : Hid (w6.ownsRow W.heap.size 103 1 v' (k + 1) (wc Y (k + 1))) := by
        show World.ownsRow _ _ _ _ _ _ _
        rw [unhide hws]
        exact hown'
      obtain ⟨ao', cp', rfl⟩ := own_shape' hown'
      clear hown' hgrow hown5 HB5
      go_wp2
      go_roundw
      case rel => exact ⟨k + 1, by omega, by go_num, unhide HO6, unhide HB6⟩
      case measure => simp [intOf]; omega
    · have hk8 : k = 8 := by omega
      subst hk8
      obtain ⟨gw, cw, hve, hw1, hw2, hWI⟩ := own_wordsIn (unhide HO) (by omega) (unhide hYb)
      simp only [Value.slice.injEq] at hve
      obtain ⟨rfl, _, rfl⟩ := hve
      have hr := hide (unhide hrc wr gw cp hWI)
      have r0 := unhide R0
      clear HO hWI hrc hwd hYb c0 c1
      go_wp2_with fail
      refine (unhide hr).mono ?_
      rintro e w5 ⟨rfl, b5⟩
      have b6 := (unhide HB).trans (b5.mono (unhide HB).size)
      have s0 : w5.heap[w.heap.size]? = some (.cells #[.string s, .int .i64 u] 56 (0, 0)) := (b6.block _ (lt_of_block (unhide R0))).trans (unhide R0)
      have s1 : w5.heap[w.heap.size + 1]? = some (.cells #[.string ⟨#[]⟩, .int .i64 0, .int .i64 0] 82 (0, 0)) := (b6.block _ (lt_of_block (unhide R1))).trans (unhide R1)
      have BW := hide ((unhide B0).trans (b6.mono (unhide B0).size))
      have c0 := cell0_of_two s0
      have c1 := cell1_of_two s0
      have d0 := cell_of_row w5 (w.heap.size + 1) 0 _ _ _ s1
      have d1 := cell_of_row w5 (w.heap.size + 1) 1 _ _ _ s1
      have d2 := cell_of_row w5 (w.heap.size + 1) 2 _ _ _ s1
      have f0 := frozen_of_row w5 (w.heap.size + 1) 0 _ _ s1
      have f1 := frozen_of_row w5 (w.heap.size + 1) 1 _ _ s1
      have f2 := frozen_of_row w5 (w.heap.size + 1) 2 _ _ s1
      have S1 := hide s1
      have hl1 := lt_of_block s1
      have hl2 : w.heap.size < w5.heap.size := by omega
      clear b5 b6 s0 s1 hr HB R0 R1 B0 r0
      go_wp2
      have hbw := (((unhide BW).setCell (p := ⟨w.heap.size + 1, 0, none⟩) (by simp) (.string s)).setCell (p := ⟨w.heap.size + 1, 1, none⟩) (by simp) (.int .i64 (u + m))).setCell (p := ⟨w.heap.size + 1, 2, none⟩) (by simp) (.int .i64 v)
      refine ret_cell rfl (w.heap.size + 1) 82 #[.string s, .int .i64 (u + m), .int .i64 v] (0, 0) _ rfl ((Below.heap_alloc _ _ _ (by simpa using hl1)).trans (set_row (set_row (set_row (unhide S1) 0 _) 1 _) 2 _)) rfl Tryz.underlying82 (by kernel_rfl) ⟨?_, hbw.alloc hbw.size _⟩
      rw [show ((u + m : Nat) : Int) = (u : Int) + m by omega]

end Go.Proofs.YtkcnihngkmaecaaGreat

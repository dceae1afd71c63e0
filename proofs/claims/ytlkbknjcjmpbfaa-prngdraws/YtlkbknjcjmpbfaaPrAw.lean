/- prng's examples: the law's 'awake' answers true. -/
import Derived.Test.YtlkbknjcjmpbfaaPrP
namespace Go.Proofs.Ytlkbknjcjmpbfaa
open Go.RowKit
set_option linter.unusedVariables false

def exZ : Nat → Int := fun i => if i = 0 then 4294967295 else 7
theorem exZ_use : chUse exZ (fairOf 10) (min 2 8) 0 = 2 := by decide +kernel
theorem exZ_val : chV exZ 10 (min 2 8) = 7 := by decide +kernel
theorem pk_one (seed : List UInt8) (u : Nat) : (pkS seed 1 u 1).2.getD 0 0 = 0 := by
  have h := pkJ_lt seed 1 u 0 (by omega)
  have e : pkJ seed 1 (pkS seed 1 u 0).1 0 = 0 := by
    have := pkJ_lt seed 1 (pkS seed 1 u 0).1 0 (by omega)
    omega
  show (swapL (pkS seed 1 u 0).2 0 (pkJ seed 1 (pkS seed 1 u 0).1 0)).getD 0 0 = 0
  rw [e]
  rfl
theorem words_two (w : World) : WordsIn (w.alloc (.cells #[.int .u32 4294967295, .int .u32 7] 31)) w.heap.size 0 2 exZ := by
  intro i hi
  have hb := heap_alloc_new w (.cells #[.int .u32 4294967295, .int .u32 7] 31)
  rcases (show i = 0 ∨ i = 1 by omega) with rfl | rfl
  · refine ⟨?_, by decide, by decide⟩
    rw [cell_of_row _ _ _ _ _ _ hb]
    rfl
  · refine ⟨?_, by decide, by decide⟩
    rw [cell_of_row _ _ _ _ _ _ hb]
    rfl

set_option maxRecDepth 100000 in
theorem pawake_any (w : World) :
    Calls Try.prog 9 #[] w fun x w' => x = .returned (.bool true) ∧ Below w.heap.size w w' := by
  have h1 := hide (choose_any (w.alloc (.cells #[.int .u32 4294967295, .int .u32 7] 31)) w.heap.size 0 2 2 10 exZ (by omega) (by omega) (by unfold maxLen; omega) (by omega) (by omega) (words_two w))
  rw [exZ_use, exZ_val] at h1
  have h2 := hide (fun w => gnew_any ⟨#[120]⟩ w (by decide))
  have h3 := hide (fun w b h => pick_any w b 0 1 1 ⟨#[120]⟩ (by decide) (by omega) (by omega) (by omega) h)
  have h4 := hide (fun w => block_short ⟨#[120]⟩ 0 w (by decide))
  obtain ⟨D, hD⟩ : ∃ D : ByteArray, D = ⟨(blk (⟨#[120]⟩ : ByteArray).data.toList 0).toArray⟩ := ⟨_, rfl⟩
  have hDs : D.size = 32 := by
    rw [← blen, show D.data.toList = blk (⟨#[120]⟩ : ByteArray).data.toList 0 by rw [hD]]
    exact blk_len _ _ (by decide) (by omega) (by omega)
  rw [← hD] at h4
  have hd : (D.size : Int) = 32 := by omega
  clear hD hDs
  go_enter Try.func9, Try.ntmps9
  go_wp2_with fail
  refine (unhide h1).mono ?_
  rintro e w1 ⟨rfl, b1⟩
  have B1 := hide (((Below.refl w.heap.size w).alloc (Nat.le_refl _) _).trans (b1.mono (by simp)))
  clear b1 h1
  go_wp2_with fail
  refine (unhide h2 w1).mono ?_
  rintro e w2 ⟨b, rfl, hG, hb, b2⟩
  have B2 := hide ((unhide B1).trans (b2.mono (unhide B1).size))
  have hbw : w.heap.size ≤ b := Nat.le_trans (unhide B1).size hb
  have HG := hide hG
  clear b2 B1 hG h2
  go_wp2_with fail
  refine (unhide h3 w2 b (unhide HG)).mono ?_
  rintro e w3 ⟨g, rfl, hg, hc, _, hk⟩
  have c0 := hc 0 (by omega)
  rw [pk_one] at c0
  have B3 := hide ((unhide B2).trans (hk.below w.heap.size (unhide B2).size hbw))
  clear hc hk B2 HG h3
  go_wp2_with fail
  refine (unhide h4 w3).mono ?_
  rintro e w4 ⟨rfl, b4⟩
  have B4 := hide ((unhide B3).trans (b4.mono (unhide B3).size))
  clear B3 b4 h4
  go_wp2
  go_ret
  exact ⟨rfl, unhide B4⟩

/-- a nil generator draws nothing -/
theorem prngNil_any (n k : Int) (w : World) :
    Calls Try.prog 8 #[.int .i64 n, .int .i64 k] w fun e w' => e = .returned (.bool true) ∧ Below w.heap.size w w' := by
  go_enter Try.func8, Try.ntmps8
  go_wp2_with fail
  refine (pawake_any w).mono ?_
  rintro e w1 ⟨rfl, b1⟩
  have B1 := hide b1
  clear b1
  go_wp2_with fail
  refine (word_nil w1).mono ?_
  rintro e w2 ⟨rfl, rfl⟩
  go_wp2_with fail
  refine (used_nil _).mono ?_
  rintro e w2 ⟨rfl, rfl⟩
  go_wp2_with fail
  refine (below_nil _ n).mono ?_
  rintro e w2 ⟨rfl, rfl⟩
  go_wp2_with fail
  refine (pick_nil _ n k).mono ?_
  rintro e w2 ⟨rfl, rfl⟩
  go_wp2
  go_ret
  exact ⟨rfl, unhide B1⟩

end Go.Proofs.Ytlkbknjcjmpbfaa

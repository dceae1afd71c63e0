/- tracker: the law's example. -/
import Derived.Test.YtjdphcjapdklpaaTkK
namespace Go.Proofs.Ytjdphcjapdklpaa
open Go.RowKit
set_option linter.unusedVariables false
attribute [local go_sem] Oper.semAt_some

def nx : Nt := ⟨nmL 1, 3, 0, 0, 9⟩
def ny : Nt := ⟨nmL 1, 5, 0, 0, 4⟩
def f1x : Names := annF (fun _ => none) nx 0
def f2y : Names := annF f1x ny 0
def s2y : List Nt := putA (clean 0 (putA zS nx)) ny
theorem f2y_at : f2y (nmL 1) = some s2y := by
  unfold f2y
  rw [show nmL 1 = ny.nm from rfl, ann_at]
  congr 1
theorem f2y_ne (k : By) (h : k ≠ nmL 1) : f2y k = none := by
  unfold f2y
  rw [ann_ne _ _ _ _ (show k ≠ ny.nm from h)]
  unfold forgetF f1x
  rw [ann_none, putF_ne _ _ _ _ (show k ≠ nx.nm from h)]
theorem f2y_nd (t : Int) (h : isT t = true) : ndF f2y (nmL 1) t = nodesF t s2y := by
  rw [ndF_t h, f2y_at]
  rfl
theorem f2y_mem (t : Int) (h : isT t = true) (n : Nat) (hn : (nodesF t s2y).length = n) (L : List By) (hL : L = if 0 < n then [nmL 1] else []) : ∀ k, k ∈ L ↔ 0 < (ndF f2y k t).length := by
  intro k
  by_cases e : k = nmL 1
  · subst e
    rw [f2y_nd t h, hn, hL]
    by_cases h0 : 0 < n
    · simp [h0]
    · simp [h0]
  · have : (ndF f2y k t).length = 0 := by
      rw [ndF_t h, f2y_ne k e]
      rfl
    rw [this, hL]
    split <;> simp [e]
set_option maxRecDepth 100000 in
set_option maxHeartbeats 4000000 in
theorem tawake_any (w : World) : Calls Try.prog 6 #[] w fun e w' => e = .returned (.bool true) ∧ Below w.heap.size w w' := by
  have hl1 : (nmL 1).length ≤ maxLen := by rw [nmL_len]; unfold maxLen; omega
  have HN := hide (fun W => lname_any 1 W (by omega))
  have HA1 : Hid (∀ W b mb, TbAt W b mb (fun _ => none) 0 2 → Calls Try.prog 8 #[.pointer (some ⟨b, 0, none⟩), .agg #[.string (bs (nmL 1)), .int .i64 3, .int .i64 0, .int .i64 0, .int .i64 9], .int .i64 0] W fun e w' => e = .returned (.int .i64 0) ∧ TbAt w' b mb f1x 1 2 ∧ W.grownBy w' (some mb)) :=
    fun W b mb h => ann_ok b mb _ 0 2 0 nx W h (by omega) (by omega) hl1 rfl rfl
  have HA2 : Hid (∀ W b mb, TbAt W b mb f1x 1 2 → Calls Try.prog 8 #[.pointer (some ⟨b, 0, none⟩), .agg #[.string (bs (nmL 1)), .int .i64 5, .int .i64 0, .int .i64 0, .int .i64 4], .int .i64 0] W fun e w' => e = .returned (.int .i64 0) ∧ TbAt w' b mb f2y 2 2 ∧ W.grownBy w' (some mb)) :=
    fun W b mb h => ann_ok b mb _ 1 2 0 ny W h (by omega) (by omega) hl1 rfl rfl
  have HN4 : Hid (∀ W b mb, TbAt W b mb f2y 2 2 → Calls Try.prog 10 #[.pointer (some ⟨b, 0, none⟩), .string (bs (nmL 1)), .int .i64 4] W fun e w' => ∃ a c, e = .returned (.slice a 2 c) ∧ Below W.heap.size W w') :=
    fun W b mb h => nodes_len b mb _ 2 2 (nmL 1) 4 W 2 h hl1 (by rw [f2y_nd 4 rfl]; rfl)
  have HN5 : Hid (∀ W b mb, TbAt W b mb f2y 2 2 → Calls Try.prog 10 #[.pointer (some ⟨b, 0, none⟩), .string (bs (nmL 1)), .int .i64 5] W fun e w' => ∃ a c, e = .returned (.slice a 1 c) ∧ Below W.heap.size W w') :=
    fun W b mb h => nodes_len b mb _ 2 2 (nmL 1) 5 W 1 h hl1 (by rw [f2y_nd 5 rfl]; rfl)
  have HL9 : Hid (∀ W b mb, TbAt W b mb f2y 2 2 → Calls Try.prog 9 #[.pointer (some ⟨b, 0, none⟩), .int .i64 9] W fun e w' => e = .returned (.int .i64 1) ∧ Below W.heap.size W w') :=
    fun W b mb h => len_is b mb _ 2 2 9 W [nmL 1] h (by omega) (by simp) (f2y_mem 9 rfl 1 rfl _ rfl)
  have HL10 : Hid (∀ W b mb, TbAt W b mb f2y 2 2 → Calls Try.prog 9 #[.pointer (some ⟨b, 0, none⟩), .int .i64 10] W fun e w' => e = .returned (.int .i64 0) ∧ Below W.heap.size W w') :=
    fun W b mb h => len_is b mb _ 2 2 10 W [] h (by omega) (by simp) (f2y_mem 10 rfl 0 rfl _ rfl)
  generalize f1x = F1 at *
  generalize f2y = F2 at *
  generalize bs (nmL 1) = nm at *
  clear hl1
  go_enter Try.func6, Try.ntmps6
  go_wp2_with fail
  refine (tnew_any 2 _ (by omega)).mono ?_
  rintro e w1 ⟨⟨b, mb, hb, hmb, rfl, hT⟩, b1⟩
  have HMB := hide hmb
  have HT := hide hT
  have HB := hide b1
  clear hT b1 hb hmb
  go_wp2_with fail
  refine (unhide HN _).mono ?_
  rintro e w2 ⟨rfl, b2⟩
  have HT2 := hide ((unhide HT).up b2)
  have HB2 := hide ((unhide HB).trans (b2.mono (unhide HB).size))
  clear b2 HT HB
  go_wp2_with fail
  refine (unhide HA1 _ _ _ (unhide HT2)).mono ?_
  rintro e w3 ⟨rfl, hT3, hg3⟩
  have HT := hide hT3
  have HB := hide (below_tab (unhide HB2) hg3 (unhide HB2).size (unhide HB2).size (unhide HMB))
  clear hT3 hg3 HT2 HB2
  go_wp2_with fail
  refine (unhide HN _).mono ?_
  rintro e w4 ⟨rfl, b2⟩
  have HT2 := hide ((unhide HT).up b2)
  have HB2 := hide ((unhide HB).trans (b2.mono (unhide HB).size))
  clear b2 HT HB
  go_wp2_with fail
  refine (unhide HA2 _ _ _ (unhide HT2)).mono ?_
  rintro e w5 ⟨rfl, hT3, hg3⟩
  have HT := hide hT3
  have HB := hide (below_tab (unhide HB2) hg3 (unhide HB2).size (unhide HB2).size (unhide HMB))
  clear hT3 hg3 HT2 HB2
  go_wp2_with fail
  refine (unhide HN _).mono ?_
  rintro e w6 ⟨rfl, b2⟩
  have HT2 := hide ((unhide HT).up b2)
  have HB2 := hide ((unhide HB).trans (b2.mono (unhide HB).size))
  clear b2 HT HB
  go_wp2_with fail
  refine (unhide HN4 _ _ _ (unhide HT2)).mono ?_
  rintro e w7 ⟨a7, c7, rfl, b7⟩
  have HT := hide ((unhide HT2).up b7)
  have HB := hide ((unhide HB2).trans (b7.mono (unhide HB2).size))
  clear b7 HT2 HB2
  go_wp2_with fail
  refine (unhide HN _).mono ?_
  rintro e w8 ⟨rfl, b2⟩
  have HT2 := hide ((unhide HT).up b2)
  have HB2 := hide ((unhide HB).trans (b2.mono (unhide HB).size))
  clear b2 HT HB
  go_wp2_with fail
  refine (unhide HN5 _ _ _ (unhide HT2)).mono ?_
  rintro e w9 ⟨a9, c9, rfl, b7⟩
  have HT := hide ((unhide HT2).up b7)
  have HB := hide ((unhide HB2).trans (b7.mono (unhide HB2).size))
  clear b7 HT2 HB2
  go_wp2_with fail
  refine (unhide HL9 _ _ _ (unhide HT)).mono ?_
  rintro e w10 ⟨rfl, b2⟩
  have HT2 := hide ((unhide HT).up b2)
  have HB2 := hide ((unhide HB).trans (b2.mono (unhide HB).size))
  clear b2 HT HB
  go_wp2_with fail
  refine (unhide HL10 _ _ _ (unhide HT2)).mono ?_
  rintro e w11 ⟨rfl, b2⟩
  have HB := hide ((unhide HB2).trans (b2.mono (unhide HB2).size))
  clear b2 HT2 HB2
  go_wp2
  go_ret
  exact ⟨rfl, unhide HB⟩
end Go.Proofs.Ytjdphcjapdklpaa

/- Contracts of outer: rules. -/
import Derived.Test.YtkcnihngkmaecaaGreatOuF
import Derived.Test.YtkcnihngkmaecaaGreatEff
namespace Go.Proofs.YtkcnihngkmaecaaGreat
open Go.RowKit
set_option linter.unusedVariables false
attribute [local go_sem] Oper.semAt_some

/-- who of the blocks is in rule j: those that join auxiliary block j, and it -/
def ruL (sd n a q j : Nat) : List Nat := memL sd a q j n ++ [n + j]
/-- k rules are done -/
def ruK (sd n a q k j : Nat) : List Nat := memL sd a q j n ++ (if j < k then [n + j] else [])
theorem ruK_zero (sd n a q : Nat) : ruK sd n a q 0 = fun j => memL sd a q j n := by
  funext j
  simp [ruK]
theorem ruK_succ (sd n a q k : Nat) : updN (ruK sd n a q k) k (ruK sd n a q k k ++ [n + k]) = ruK sd n a q (k + 1) := by
  funext j
  by_cases e : j = k
  · subst e
    rw [updN_same]
    simp [ruK]
  · rw [updN_other _ _ e]
    unfold ruK
    by_cases h : j < k
    · rw [if_pos h, if_pos (by omega)]
    · rw [if_neg h, if_neg (by omega)]
theorem Rows2.congr {w : World} {base g n : Nat} {V : Nat → Value} {L L' : Nat → List Nat} (h : Rows2 w base g n V L) (he : ∀ j, j < n → L j = L' j) : Rows2 w base g n V L' :=
  ⟨h.blk, h.ge, fun j hj => by rw [← he j hj]; exact h.row j hj, h.dis⟩
set_option maxRecDepth 100000 in
set_option maxHeartbeats 4000000 in
theorem rules_any (sd n a q : Nat) (hsd : sd ≤ 72057594037927935) (hn : n ≤ 96) (ha1 : 1 ≤ a) (ha : a ≤ 64) (hq1 : 1 ≤ q) (hq : q ≤ 8) (w : World) :
    Calls Tryz.prog 29 #[plV sd n a q] w fun e w' => ∃ g, e = .returned (.slice (some ⟨g, 0, none⟩) a a) ∧ (∃ V, Rows2 w' w.heap.size g a V (ruL sd n a q)) ∧ Below w.heap.size w w' := by
  obtain ⟨k0, hki, hkz0, hkz1, hkz2⟩ := info_parts Tryz.infoI
  have hme := hide (fun w => members_any sd n a q hsd hn ha1 ha hq1 hq w)
  have hb0 : Below w.heap.size w (w.alloc (.cells #[.int .i64 (sd : Int), .int .i64 (n : Int), .int .i64 (a : Int), .int .i64 (q : Int)] 23)) := (Below.refl _ w).alloc (Nat.le_refl _) _
  have hpc := hide (plan_cells w sd n a q)
  have hz9 : w.heap.size < (w.alloc (.cells #[.int .i64 (sd : Int), .int .i64 (n : Int), .int .i64 (a : Int), .int .i64 (q : Int)] 23)).heap.size := by simp
  have B0 := hide hb0
  unfold plV at *
  clear hb0
  obtain ⟨c0, c1, c2, c3⟩ := unhide hpc _ (Below.refl _ _)
  go_enter Tryz.func29, Tryz.ntmps29
  go_wp2_with fail
  generalize hW0 : w.alloc (.cells #[.int .i64 (sd : Int), .int .i64 (n : Int), .int .i64 (a : Int), .int .i64 (q : Int)] 23) = W0 at *
  have HW0 := hide hW0
  clear hW0
  refine (unhide hme W0).mono ?_
  rintro e w1 ⟨G, rfl, ⟨V, hR1⟩, hb1⟩
  have HR1 := hide hR1
  have HB1 := hide hb1
  have hGW := hR1.ge
  clear hR1 hb1 c0 c1 c2 c3
  go_wp2_with fail
  go_loopw [9] (fun v wr => ∃ (k : Nat) (V : Nat → Value), k ≤ a ∧ v = .int .i64 k ∧ Rows2 wr W0.heap.size G a V (ruK sd n a q k) ∧ Below W0.heap.size W0 wr) (fun v _ => a - (intOf v).toNat)
  case atStart => exact ⟨0, V, Nat.zero_le _, rfl, by rw [ruK_zero]; exact unhide HR1, unhide HB1⟩
  case round =>
    clear HR1 HB1
    obtain ⟨k, V, hka, rfl, hR, hB⟩ := hrel
    obtain ⟨c0, c1, c2, c3⟩ := unhide hpc wr hB
    by_cases hlt : k < a
    · have q1 : (k : Int) < (a : Int) := by omega
      have HR := hide hR
      have HB := hide hB
      have HC := hide c1
      have HD := hide (hR.cell k hlt)
      clear hR hB c0 c1 c2 c3
      go_wp2_with fail
      refine wp_region_eff [false, false, false, false, false, false, false, false, false, false, true, true, false, true] [0, 1, 12] 10 ?A0 _ _ (by kernel_rfl) (by kernel_rfl) rfl ?lex ?free ?_
      case lex =>
        intro X
        have hneX := gb_ne X.w
        have hcX : ∀ y : Gb X.w, y.w.cell? ⟨G, k, none⟩ = some (V k) := fun y => gb_cell (cell_below (unhide HD) X.ok) y
        have hdX : ∀ y : Gb X.w, y.w.cell? ⟨w.heap.size, 1, none⟩ = some (.int .i64 (n : Int)) := fun y => gb_cell (cell_below (unhide HC) X.ok) y
        dsimp only [restM]
        repeat (go_big_quiet_step (fail))
        refine wpQuiet_nil ?_
        exact rfl
      case free =>
        intro j hj o ho W
        simp only [List.mem_cons, List.not_mem_nil, or_false] at hj
        rcases hj with rfl | rfl | rfl
        all_goals
          simp only [List.getElem?_cons_succ, List.getElem?_cons_zero, Option.some.injEq] at ho
          subst ho
          go_big_quiet_step (fail)
          refine wpQuiet_nil ?_
          exact rfl
      intro w8 b8
      have hR8 := (unhide HR).below b8
      have hzw := (unhide HB).size
      have HB8 := hide ((unhide HB).trans (b8.mono hzw))
      have hz8 := (unhide HB8).size
      have HRA := hide (hR8.below ((Below.refl _ w8).alloc (Nat.le_refl _) (.cells #[.int .i64 ((n : Int) + (k : Int))] 3)))
      have HROW := hide (hR8.row k hlt)
      have hll : (ruK sd n a q k k).length ≤ 200 := by
        unfold ruK
        have := memL_len sd a q k n
        rw [List.length_append]
        split <;> simp <;> omega
      have HSUC := hide (ruK_succ sd n a q k)
      clear hR8 HR HB HC HD b8
      generalize hVj : V k = vj at *
      have HVJ := hide hVj
      clear hVj
      generalize hLj : (ruK sd n a q k k).length = lj at *
      have HLJ := hide hLj
      clear hLj
      go_wp2_with fail
      refine onlyN ⟨(Below.refl _ _).alloc (Nat.le_refl _) _, ?_⟩
      dsimp only [effM]
      go_wp2_with (at_builtin; refine wpList_append_lies _ rfl _ _ 26 rfl W0.heap.size 3 k0 (.int .i64 0) 1 8 Tryz.undI hki hkz0 hkz1 hkz2 rfl (by decide) _ _ _ rfl ((unhide HROW).alloc _) ⟨w8.heap.size, 0, none⟩ 1 1 [.int .i64 ((n : Int) + (k : Int))] rfl rfl (cell_one_new _ _ _) ?d2 (by decide) ?d3 ?d4 ?d5 (w8.heap.size + 1) ?d6 ?_)
      case d2 => intro u hu; simp at hu; subst hu; rfl
      case d3 => unfold maxLen; omega
      case d4 => omega
      case d5 => simp; omega
      case d6 => simp
      intro gb cap w3 hown hgrow hl hgb
      have hrow' : w3.ownsRow W0.heap.size 3 1 (.slice (some ⟨gb, 0, none⟩) ((ruK sd n a q k k).length + 1) cap) ((ruK sd n a q k k).length + 1) (ic (ruK sd n a q k k) ++ [.int .i64 ((n + k : Nat) : Int)]) := by rw [unhide HLJ]; exact hown
      have hvj := unhide HVJ
      rw [← hvj] at hgrow hl
      have hblk := grown_blk (unhide HRA) hlt hgrow
      have hRn := (unhide HRA).appended (x := n + k) hlt hrow' hgrow (by rcases hl with h | h; exact .inl h; exact .inr (by rw [h]; simp))
      rw [unhide HSUC, unhide HLJ] at hRn
      have HRN := hide hRn
      have d2 : w3.cell? ⟨G, k, none⟩ = some (V k) := by rw [cell_of_row _ _ _ _ _ (0, 0) hblk]; simp [hlt]
      have d3 : w3.frozen? ⟨G, k, none⟩ = false := by simp [World.frozen?, hblk]
      have hbA : Below W0.heap.size W0 (w8.alloc (.cells #[.int .i64 ((n : Int) + (k : Int))] 3)) := (unhide HB8).alloc hz8 _
      have hB3 : Below W0.heap.size W0 w3 := hbA.grown hgrow (by simp; omega) (fun k' hk => ((unhide HRA).row k hlt).lt k' hk |>.1)
      have HB4 := hide (hB3.setCell (p := ⟨G, k, none⟩) hGW (.slice (some ⟨gb, 0, none⟩) (lj + 1) cap))
      clear hrow' hvj hgrow hl hblk hRn hbA hB3 hown HRA HROW HB8
      go_wp2_with fail
      refine onlyN ?_
      go_wp2
      go_roundw
      case rel => exact ⟨k + 1, _, by omega, by go_num, unhide HRN, unhide HB4⟩
      case measure => simp [intOf]; omega
    · have hke : k = a := by omega
      subst hke
      have q1 : ¬ (k : Int) < (k : Int) := by omega
      have HR := hide (hR.congr (L' := ruL sd n k q) (fun j hj => by unfold ruK ruL; rw [if_pos hj]))
      have HB := hide hB
      clear hR hB c0 c1 c2 c3
      go_wp2
      go_ret
      exact ⟨_, rfl, ⟨_, (unhide HR).mono (unhide B0).size⟩, (unhide B0).trans ((unhide HB).mono (unhide B0).size)⟩
end Go.Proofs.YtkcnihngkmaecaaGreat

/- Contract of outer's joins. -/
import Derived.Test.YtkcnihngkmaecaaGreatOuA
namespace Go.Proofs.YtkcnihngkmaecaaGreat
open Go.RowKit
set_option linter.unusedVariables false
attribute [local go_sem] Oper.semAt_some

theorem sort_row (w : World) (g cap : Nat) (zs : List Int) (hc : ∀ k (h : k < zs.length), w.cell? ⟨g, k, none⟩ = some (.int .i64 zs[k])) (hf : ∀ k, w.frozen? ⟨g, k, none⟩ = false) (hg : g < w.heap.size) (hz : zs.length ≤ 1000) :
    Calls Tryz.prog 52 #[.slice (some ⟨g, 0, none⟩) zs.length cap] w fun e w' => e = .returned (.tuple #[]) ∧ (∀ k (h : k < (zs.mergeSort fun x y => decide (x ≤ y)).length), w'.cell? ⟨g, k, none⟩ = some (.int .i64 (zs.mergeSort fun x y => decide (x ≤ y))[k])) ∧ Kept w.heap.size g w w' := by
  have hH : Sort.Holds (Value.int .i64) w g 0 zs.toArray := fun j hj => by
    have hj' : j < zs.length := by simpa using hj
    refine ⟨?_, by rw [Nat.zero_add]; exact hf j⟩
    rw [Nat.zero_add, hc j hj']
    simp [hj']
  refine (Tryz.slices_Sort_int g 0 cap zs w hH hg (by omega)).mono ?_
  rintro e w' ⟨rfl, n, os, rfl⟩
  have hsz : (zs.mergeSort fun x y => decide (x ≤ y)).toArray.size = zs.toArray.size := by simp
  have hP := Sort.holds_putRow (Value.int .i64) (Sort.ahead w n) g 0 zs.toArray (zs.mergeSort fun x y => decide (x ≤ y)).toArray (Sort.holds_ahead _ _ _ _ _ _ hH) hsz
  have hlt : g < (Sort.putRow (Value.int .i64) (Sort.ahead w n) g 0 (zs.mergeSort fun x y => decide (x ≤ y)).toArray).heap.size := by
    simp [Sort.putRow, Sort.mapBlock, Sort.ahead]; exact hg
  refine ⟨rfl, fun k hk => ?_, ⟨rfl, rfl, rfl, ?_, fun k hk hne => ?_⟩⟩
  · rw [Sort.cell?_grow _ _ _ hlt]
    have := (hP k (by simpa using hk)).1
    rw [Nat.zero_add] at this
    rw [this]
    simp at hk
    simp [hk]
  · simp [Sort.grow, Sort.putRow, Sort.mapBlock, Sort.ahead]
  · rw [Sort.heap_grow_old _ _ (by simp [Sort.putRow, Sort.mapBlock, Sort.ahead]; exact hk)]
    simp only [Sort.putRow, Sort.mapBlock, Sort.ahead, Array.getElem?_modify]
    rw [if_neg (fun e => hne e.symm)]
set_option maxRecDepth 100000 in
set_option maxHeartbeats 2000000 in
theorem joins_any (sd n a q i : Nat) (hsd : sd ≤ 72057594037927935) (ha1 : 1 ≤ a) (ha : a ≤ 64) (hq1 : 1 ≤ q) (hq : q ≤ 8) (hi : i < 65536) (w : World) :
    Calls Tryz.prog 27 #[plV sd n a q, .int .i64 i] w fun e w' => ∃ g, e = .returned (.slice (some ⟨g, 0, none⟩) (min q a) (min q a)) ∧ w.heap.size ≤ g ∧ g < w'.heap.size ∧ (∀ k (h : k < (joI sd a q i).length), w'.cell? ⟨g, k, none⟩ = some (.int .i64 (joI sd a q i)[k])) ∧ Below w.heap.size w w' := by
  have e0 := hide (wRaw_ok [] [111, 117, 116, 101, 114] (by simp))
  have e1 := hide (wNum_seven [111, 117, 116, 101, 114] (sd : Int) (by simp))
  rw [if_neg (by
    rintro (h | h)
    · omega
    · exact h (Int.ediv_eq_zero_of_lt (by omega) (by show (sd : Int) < 72057594037927936; omega)))] at e1
  have e2 := hide (wNum_two ([111, 117, 116, 101, 114] ++ putB (sd : Int) 7) (i : Int) (by simp [putB_length]) (by omega) (by omega))
  rw [List.nil_append] at e0
  have hjs : Hid ([111, 117, 116, 101, 114] ++ putB (sd : Int) 7 ++ putB (i : Int) 2 = jseed sd i) := rfl
  have hb0 : Below w.heap.size w (w.alloc (.cells #[.int .i64 (sd : Int), .int .i64 (n : Int), .int .i64 (a : Int), .int .i64 (q : Int)] 23)) := (Below.refl _ w).alloc (Nat.le_refl _) _
  have hpc := hide (plan_cells w sd n a q)
  have B0 := hide hb0
  have hz0 : w.heap.size < (w.alloc (.cells #[.int .i64 (sd : Int), .int .i64 (n : Int), .int .i64 (a : Int), .int .i64 (q : Int)] 23)).heap.size := by simp
  have hmin : Hid ((min q a : Nat) ≤ a) := by show _ ≤ _; omega
  unfold plV
  clear hb0
  go_enter Tryz.func27, Tryz.ntmps27
  generalize hW0 : w.alloc (.cells #[.int .i64 (sd : Int), .int .i64 (n : Int), .int .i64 (a : Int), .int .i64 (q : Int)] 23) = W0 at *
  go_wp2_with fail
  have HW0 := hide hW0
  clear hW0
  refine (to_any2 W0).mono ?_
  rintro e w1 ⟨b, rfl, hW1, z1, hwb, k1⟩
  have HW1 := hide hW1
  have K1 := hide k1
  clear hW1 k1
  go_wp2_with fail
  refine (wraw_any w1 b (b + 1) [] 0 ⟨#[111, 117, 116, 101, 114]⟩ (by unfold maxLen; decide) (by simp) z1 (by omega) (unhide HW1)).mono ?_
  rintro e w2 ⟨rfl, hW2, k2⟩
  rw [show (⟨#[111, 117, 116, 101, 114]⟩ : ByteArray).data.toList = [111, 117, 116, 101, 114] from rfl, unhide e0] at hW2
  have z2 : b + 1 ≤ w2.heap.size := Nat.le_trans z1 k2.size
  have HW2 := hide hW2
  have K2 := hide ((unhide K1).trans (k2.below W0.heap.size (by omega) hwb))
  obtain ⟨c0, _, _, _⟩ := unhide hpc w2 (unhide K2)
  clear hW2 k2 HW1 K1 e0 z1
  go_wp2_with fail
  refine (wnum_any w2 b (b + 1) [111, 117, 116, 101, 114] 0 sd 7 (by simp) z2 (by omega) (unhide HW2)).mono ?_
  rintro e w3 ⟨rfl, hW3, k3⟩
  rw [unhide e1] at hW3
  have z3 : b + 1 ≤ w3.heap.size := Nat.le_trans z2 k3.size
  have HW3 := hide hW3
  have K3 := hide ((unhide K2).trans (k3.below W0.heap.size (by omega) hwb))
  clear hW3 k3 HW2 K2 e1 z2 c0
  go_wp2_with fail
  refine (wnum_any w3 b (b + 1) ([111, 117, 116, 101, 114] ++ putB (sd : Int) 7) 0 i 2 (by simp [putB_length]) z3 (by omega) (unhide HW3)).mono ?_
  rintro e w4 ⟨rfl, hW4, k4⟩
  rw [unhide e2, unhide hjs] at hW4
  have HW4 := hide hW4
  have K4 := hide ((unhide K3).trans (k4.below W0.heap.size (by omega) hwb))
  clear hW4 k4 HW3 K3 e2 z3
  go_wp2_with fail
  refine (bytes_any w4 b (b + 1) (jseed sd i) 0 (unhide HW4)).mono ?_
  rintro e w5 ⟨rfl, nn, rfl⟩
  rw [if_pos rfl]
  have K5 := hide (below_drawn (unhide K4) nn)
  have hsl : (⟨(jseed sd i).toArray⟩ : ByteArray).size ≤ 64 := by
    show (jseed sd i).toArray.size ≤ 64
    simp [jseed_len]
  have hsd2 : (⟨(jseed sd i).toArray⟩ : ByteArray).data.toList = jseed sd i := rfl
  have HSD := hide hsd2
  generalize hS : (⟨(jseed sd i).toArray⟩ : ByteArray) = S at *
  generalize w4.drewN nn = w6 at *
  clear hS hsd2 K4 HW4
  obtain ⟨c0, c1, c2, c3⟩ := unhide hpc w6 (unhide K5)
  go_wp2_with fail
  have hne := gb_ne w6
  have d2 : Hid (∀ x : Gb w6, x.w.cell? ⟨w.heap.size, 2, none⟩ = some (.int .i64 (a : Int))) := fun x => gb_cell c2 x
  have d3 : Hid (∀ x : Gb w6, x.w.cell? ⟨w.heap.size, 3, none⟩ = some (.int .i64 (q : Int))) := fun x => gb_cell c3 x
  refine wp_region_same [] 9 1 8 25 32 ?A0 (fun v w' => ∃ b, v = .pointer (some ⟨b, 0, none⟩) ∧ GenAt w' b S 0 ∧ w6.heap.size ≤ b) (fun v w' => v = .int .i64 ((min q a : Nat) : Int)) (by kernel_rfl) (by kernel_rfl) (fun v _ _ h hb => by obtain ⟨b, h1, h2, h3⟩ := h; exact ⟨b, h1, (hb.block b (lt_of_block h2)).trans h2, h3⟩) (fun v _ _ h hb => h) ?lex ?gA ?sa ?sb ?_
  case lex =>
    intro X
    have hneX := gb_ne X.w
    have g2 : ∀ y : Gb X.w, y.w.cell? ⟨w.heap.size, 2, none⟩ = some (.int .i64 (a : Int)) := fun y => gb_cell (unhide d2 X) y
    have g3 : ∀ y : Gb X.w, y.w.cell? ⟨w.heap.size, 3, none⟩ = some (.int .i64 (q : Int)) := fun y => gb_cell (unhide d3 X) y
    dsimp only [boxRest, List.take_succ_cons, List.take_zero, List.eraseIdx_cons_succ, List.eraseIdx_cons_zero]
    repeat (go_big_quiet_step ((fail)))
    refine wpQuiet_nil ?_
    exact rfl
  case gA => intro g hg; cases hg
  case sa =>
    intro o ho x b' hy
    obtain rfl := Option.some.inj ho
    have y0 : b'.eval (.tmp 24) = .string S := hy (.tmp 24) (by simp [Op.operands, Call.operands])
    refine wp_call 50 #[.tmp 24] _ rfl Tryz.call50 #[.string S] (by simp [y0]) (gnew_any S x.w hsl) ?_
    rintro e w7 ⟨bb, rfl, hG, hlt, b7⟩
    exact ⟨_, rfl, _, rfl, ⟨bb, rfl, hG, Nat.le_trans x.ok.size hlt⟩, b7⟩
  case sb =>
    intro o ho x b' hy
    obtain rfl := Option.some.inj ho
    have y0 : b'.eval (.tmp 29) = .int .i64 (q : Int) := hy (.tmp 29) (by simp [Op.operands, Call.operands])
    have y1 : b'.eval (.tmp 31) = .int .i64 (a : Int) := hy (.tmp 31) (by simp [Op.operands, Call.operands])
    have y0' : b'.tmps[29]?.getD undef = .int .i64 (q : Int) := by simpa [Act.eval] using y0
    have y1' : b'.tmps[31]?.getD undef = .int .i64 (a : Int) := by simpa [Act.eval] using y1
    go_simp
    exact ⟨_, rfl, by congr 1; omega, Below.refl _ _⟩
  rintro va vb w7 b7 ⟨bb, rfl, hG, hbb⟩ rfl
  try simp only [List.drop_succ_cons, List.drop_zero]
  have K7 := hide ((unhide K5).trans (b7.mono (unhide K5).size))
  have hpk := hide (pick_any w7 bb 0 a (min q a) S hsl (by omega) (by omega) (by omega) hG)
  clear b7 hG c0 c1 c2 c3 d2 d3 hne
  go_wp2_with fail
  refine (unhide hpk).mono ?_
  rintro e w8 ⟨g, rfl, hg1, hcl, hG8, k8, hfz, hg2⟩
  have K8 := hide ((unhide K7).trans (k8.below W0.heap.size (by have := (unhide K7).size; omega) (by have := (unhide K5).size; omega)))
  have hW0g : W0.heap.size ≤ g := Nat.le_trans (unhide K7).size hg1
  rw [unhide HSD] at hcl
  have hpl := pkS_length (jseed sd i) a 0 (min q a)
  have hzl : (((pkS (jseed sd i) a 0 (min q a)).2.take (min q a)).map fun (z : Nat) => (z : Int)).length = min q a := by
    rw [List.length_map, List.length_take, hpl]; omega
  have hst := sort_row w8 g (min q a) (((pkS (jseed sd i) a 0 (min q a)).2.take (min q a)).map fun (z : Nat) => (z : Int)) (fun k hk => by
    rw [hzl] at hk
    rw [hcl k (by omega)]
    simp only [List.getElem_map, List.getElem_take]
    congr 2
    simp [List.getD, show k < (pkS (jseed sd i) a 0 (min q a)).2.length by omega]) hfz hg2 (by omega)
  rw [hzl] at hst
  have HST := hide hst
  clear hst hcl hG8 k8 hfz hpk hzl hpl K7
  generalize hmm : min q a = mq at *
  have HMM := hide hmm
  clear hmm
  go_wp2
  refine onlyN ?_
  go_wp2_with fail
  refine (unhide HST).mono ?_
  rintro e w9 ⟨rfl, hc9, k9⟩
  have K9 := hide ((unhide K8).trans (k9.below W0.heap.size (by have := (unhide K8).size; omega) hW0g))
  have HC9 := hide hc9
  have hg9 : g < w9.heap.size := Nat.lt_of_lt_of_le hg2 k9.size
  clear hc9 k9 HST K8
  go_wp2
  go_ret
  refine ⟨g, by rw [unhide HMM]; rfl, by omega, hg9, ?_, (unhide B0).trans ((unhide K9).mono (by omega))⟩
  unfold joI
  rw [unhide HMM]
  exact unhide HC9
end Go.Proofs.YtkcnihngkmaecaaGreat

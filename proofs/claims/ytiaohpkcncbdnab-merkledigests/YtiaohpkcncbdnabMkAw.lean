/- merkle's example: the law's 'awake' answers true. -/
import Derived.Test.YtiaohpkcncbdnabMkP
import Derived.Test.YtiaohpkcncbdnabGr
namespace Go.Proofs.Ytiaohpkcncbdnab
open Go.RowKit
set_option linter.unusedVariables false

theorem half_three : half 3 = 2 := half_eq 3 1 (by omega) (by omega)
theorem half_two : half 2 = 1 := half_eq 2 0 (by omega) (by omega)
theorem treeP_two (H : By → By) (a b : Prt) : treeP H [a, b] = joinP H a b := by
  rw [treeP_more H _ (by simp)]
  show joinP H (treeP H ([a, b].take (half 2))) (treeP H ([a, b].drop (half 2))) = _
  rw [half_two]
  show joinP H (treeP H [a]) (treeP H [b]) = _
  rw [treeP_one, treeP_one]
theorem treeP_three (H : By → By) (a b c : Prt) : treeP H [a, b, c] = joinP H (joinP H a b) c := by
  rw [treeP_more H _ (by simp)]
  show joinP H (treeP H ([a, b, c].take (half 3))) (treeP H ([a, b, c].drop (half 3))) = _
  rw [half_three]
  show joinP H (treeP H [a, b]) (treeP H [c]) = _
  rw [treeP_two, treeP_one]
theorem way_two (H : By → By) (a b : Prt) : way H [a, b] 0 = [b.1] := by
  rw [way_left H _ _ (by simp) (by show 0 < half 2; rw [half_two]; omega)]
  show way H ([a, b].take (half 2)) 0 ++ [(treeP H ([a, b].drop (half 2))).1] = _
  rw [half_two]
  show way H [a] 0 ++ [(treeP H [b]).1] = _
  rw [treeP_one, way_one H _ _ (by simp)]
  rfl
theorem way_three0 (H : By → By) (a b c : Prt) : way H [a, b, c] 0 = [b.1, c.1] := by
  rw [way_left H _ _ (by simp) (by show 0 < half 3; rw [half_three]; omega)]
  show way H ([a, b, c].take (half 3)) 0 ++ [(treeP H ([a, b, c].drop (half 3))).1] = _
  rw [half_three]
  show way H [a, b] 0 ++ [(treeP H [c]).1] = _
  rw [treeP_one, way_two]
  rfl
theorem way_three2 (H : By → By) (a b c : Prt) : way H [a, b, c] 2 = [(joinP H a b).1] := by
  rw [way_right H _ _ (by simp) (by show ¬ 2 < half 3; rw [half_three]; omega)]
  show way H ([a, b, c].drop (half 3)) (2 - half 3) ++ [(treeP H ([a, b, c].take (half 3))).1] = _
  rw [half_three]
  show way H [c] 0 ++ [(treeP H [a, b]).1] = _
  rw [treeP_two, way_one H _ _ (by simp)]
  rfl

theorem ex_txts (w : World) : Txts (w.alloc (.cells #[.string ⟨#[97]⟩, .string ⟨#[98]⟩, .string ⟨#[99]⟩] 9)) (some ⟨w.heap.size, 0, none⟩) [[97], [98], [99]] := by
  intro i hi
  refine ⟨_, _, rfl, ?_⟩
  rw [cell_of_row _ _ _ _ _ _ (heap_alloc_new w (.cells #[.string ⟨#[97]⟩, .string ⟨#[98]⟩, .string ⟨#[99]⟩] 9))]
  have hi' : i < 3 := hi
  rcases (show i = 0 ∨ i = 1 ∨ i = 2 by omega) with rfl | rfl | rfl <;> rfl

set_option maxRecDepth 100000 in
set_option maxHeartbeats 2000000 in
theorem mawake_any (w : World) :
    Calls Try.prog 7 #[] w fun x w' => x = .returned (.bool true) ∧ Below w.heap.size w w' := by
  obtain ⟨W, hW⟩ : ∃ W, W = w.alloc (.cells #[.string ⟨#[97]⟩, .string ⟨#[98]⟩, .string ⟨#[99]⟩] 9) := ⟨_, rfl⟩
  have hx := ex_txts w
  rw [← hW] at hx
  have b0 : Below w.heap.size w W := by rw [hW]; exact (Below.refl _ _).alloc (Nat.le_refl _) _
  have hmay : mayE [[97], [98], [99]] = 0 := by unfold mayE; rw [if_neg (by simp), if_neg (by simp), if_pos (by simp)]
  have hr := root_any [[97], [98], [99]] (some ⟨w.heap.size, 0, none⟩) 3 W hx (by simp) (by simp)
  rw [if_pos hmay, hmay] at hr
  have hp0 := fun w' (hb : Below W.heap.size W w') => path_any [[97], [98], [99]] 0 (some ⟨w.heap.size, 0, none⟩) 3 w' (hx.below hb) hmay (by simp)
  have hp2 := fun w' (hb : Below W.heap.size W w') => path_any [[97], [98], [99]] 2 (some ⟨w.heap.size, 0, none⟩) 3 w' (hx.below hb) hmay (by simp)
  simp only [List.map_cons, List.map_nil, List.length_cons, List.length_nil] at hr hp0 hp2
  rw [way_three0] at hp0
  rw [way_three2] at hp2
  rw [treeP_three] at hr
  have hla := fun w => mleaf_any [97] w (by simp)
  have hlb := fun w => mleaf_any [98] w (by simp)
  have hlc := fun w => mleaf_any [99] w (by simp)
  have hkab := fun w => mknot_any (shaSum (leafT [97])) (shaSum (leafT [98])) w (by rw [shaSum_length]; omega) (by rw [shaSum_length]; omega)
  have hkr := fun w => mknot_any (shaSum (knotT (shaSum (leafT [97])) (shaSum (leafT [98])))) (shaSum (leafT [99])) w (by rw [shaSum_length]; omega) (by rw [shaSum_length]; omega)
  simp only [joinP, leafP] at hr hp0 hp2
  have hR0 := bs_size (shaSum (knotT (shaSum (knotT (shaSum (leafT [97])) (shaSum (leafT [98])))) (shaSum (leafT [99]))))
  rw [shaSum_length] at hR0
  generalize shaSum (knotT (shaSum (knotT (shaSum (leafT [97])) (shaSum (leafT [98])))) (shaSum (leafT [99]))) = lR at *
  generalize shaSum (knotT (shaSum (leafT [97])) (shaSum (leafT [98]))) = lK at *
  generalize shaSum (leafT [97]) = lA at *
  generalize shaSum (leafT [98]) = lB at *
  generalize shaSum (leafT [99]) = lC at *
  have hR : ((bs lR).size : Int) = 32 := by omega
  have Hr := hide hr
  have Hp0 := hide hp0
  have Hp2 := hide hp2
  have Hla := hide hla
  have Hlb := hide hlb
  have Hlc := hide hlc
  have Hab := hide hkab
  have Hkr := hide hkr
  have B0 := hide b0
  have HW := hide hW
  clear hr hp0 hp2 hla hlb hlc hkab hkr hx hmay hR0 b0 hW
  go_enter Try.func7, Try.ntmps7
  go_wp2_with fail
  rw [← unhide HW]
  refine (unhide Hr).mono ?_
  rintro e w1 ⟨rfl, b1⟩
  go_wp2_with fail
  refine (unhide Hp0 w1 b1).mono ?_
  rintro e w2 ⟨v, rfl, ho2, b2⟩
  obtain ⟨a2, c2, rfl, hs2, _⟩ := own_strs ho2
  obtain ⟨g2, o2, rfl, y2, _⟩ := hs2 0 (by simp)
  have B2 := hide (b1.trans (b2.mono b1.size))
  clear hs2 ho2 b1 b2
  go_wp2_with fail
  refine (unhide Hp2 w2 (unhide B2)).mono ?_
  rintro e w3 ⟨v, rfl, ho3, b3⟩
  obtain ⟨a3, c3, rfl, hs3, _⟩ := own_strs ho3
  obtain ⟨g3, o3, rfl, y3, _⟩ := hs3 0 (by simp)
  have y2' := cell_below y2 b3
  have B3 := hide ((unhide B2).trans (b3.mono (unhide B2).size))
  clear hs3 ho3 b3 y2 B2
  go_wp2_with fail
  refine (unhide Hla w3).mono ?_
  rintro e w4 ⟨rfl, b4⟩
  go_wp2_with fail
  refine (unhide Hlb w4).mono ?_
  rintro e w5 ⟨rfl, b5⟩
  go_wp2_with fail
  refine (unhide Hab w5).mono ?_
  rintro e w6 ⟨rfl, b6⟩
  have b46 := (b4.trans (b5.mono b4.size)).trans (b6.mono (Nat.le_trans b4.size b5.size))
  have z2 := cell_below y2' b46
  have z3 := cell_below y3 b46
  have B6 := hide ((unhide B3).trans (b46.mono (unhide B3).size))
  simp only [List.getElem_cons_zero, Nat.add_zero] at z2 z3
  clear b4 b5 b6 b46 y2' y3 B3 Hr Hp0 Hp2 Hla Hab
  go_wp2_with fail
  have hc2 : ∀ x : Gb w6, x.w.cell? ⟨g2, o2, none⟩ = some (.string (bs lB)) := fun x => gb_cell z2 x
  have hc3 : ∀ x : Gb w6, x.w.cell? ⟨g3, o3, none⟩ = some (.string (bs lK)) := fun x => gb_cell z3 x
  have hne := gb_ne w6
  generalize bs lB = sB at *
  generalize bs lK = sK at *
  generalize bs lC = sC at *
  generalize bs lR = sR at *
  refine wp_region_gr (fun x => Below w6.heap.size w6 x) (by kernel_rfl) (by kernel_rfl) (gb_start w6) ?_
  repeat (go_big_quiet_step ((first | (go_at_call 10; first | exact gb_call (unhide Hlc _) | exact gb_call (unhide Hlb _)) | (go_at_call 18; exact gb_call (unhide Hkr _)))))
  refine wpQuiet_nil ?_
  rintro w7 ⟨⟨_, b7⟩, rfl⟩
  have B7 := hide ((unhide B6).trans (b7.mono (unhide B6).size))
  clear b7 hc2 hc3 hne
  go_wp2
  go_ret
  exact ⟨rfl, (unhide B0).trans ((unhide B7).mono (unhide B0).size)⟩

end Go.Proofs.Ytiaohpkcncbdnab

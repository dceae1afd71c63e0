/- Contract of the document's own writer's Text. -/
import Derived.Test.YtahejlimdgniiabRefV
import Derived.Test.YtahejlimdgniiabRegB
import Derived.Deep.DrawnRows
namespace Go.Proofs.Ytahejlimdgniiab
open Go.RowKit
set_option linter.unusedVariables false

theorem there_row {w : World} {g : Nat} {Z : Array Value} {t : TypeId} (h : w.heap[g]? = some (.cells Z t (0, 0))) : w.there g 0 Z.size := fun j hj => by
  rw [Nat.zero_add, cell_of_row w g j Z t (0, 0) h, Array.getElem?_eq_getElem hj]
  exact ⟨rfl, frozen_of_row w g j Z t h⟩

theorem vtext_any (p : ByteArray × Int) (s : ByteArray) (w : World) (hS : p.1.size ≤ 65536) (hs : s.size ≤ maxLen) :
    Calls Try.prog 24 #[vV p, .string s] w fun x w' => x = .returned (vV (vText p s)) ∧ Below w.heap.size w w' := by
  obtain ⟨S, E⟩ := p
  unfold vText
  by_cases hlt : 65535 < s.size
  · rw [if_pos hlt]
    have h' : (65535 : Int) < s.size := by omega
    unfold maxLen at hs
    have hp := hide (fun w => vput_any S ⟨#[]⟩ E 2 w hS (by decide))
    unfold vV at *
    generalize vPut (S, E) ⟨#[]⟩ 2 = q at *
    obtain ⟨S2, E2⟩ := q
    clear hlt
    go_enter Try.func24, Try.ntmps24
    go_wp2_with fail
    refine (unhide hp _).mono ?_
    rintro e w1 ⟨rfl, b1⟩
    obtain ⟨_, r1, b2⟩ := two_blocks b1
    have c0 := cell0_of_two r1
    have c1 := cell1_of_two r1
    have f0 := free_of_two (j := 0) r1
    have f1 := free_of_two (j := 1) r1
    have R1 := hide r1
    have B2 := hide b2
    clear r1 b1 b2 hp
    go_wp2
    exact ret_cell rfl (w.heap.size + 1) 43 #[.string S2, .int .i64 E2] (0, 0) _ rfl (two_set1 (two_set0 (unhide R1))) rfl Try.underlying43 (by kernel_rfl) ⟨rfl, ((unhide B2).setCell (by simp) _).setCell (by simp) _⟩
  · rw [if_neg hlt]
    have h' : ¬ (65535 : Int) < s.size := by omega
    have ht := hide (fun w => vtextF_any s w (by omega))
    have hlen := putS_length s.size 2
    obtain ⟨X, hX⟩ : ∃ X : ByteArray, X = ⟨(putS s.size 2).1.toArray⟩ ++ s := ⟨_, rfl⟩
    have hXs : X.size ≤ 65550 := by
      rw [hX, ByteArray.size_append]
      have : (⟨(putS s.size 2).1.toArray⟩ : ByteArray).size ≤ 7 := by rw [← blen]; exact hlen
      omega
    rw [← hX] at ht ⊢
    clear hX hlen
    have hp := hide (fun w => vput_any S X E 0 w hS (by unfold maxLen; omega))
    unfold vV at *
    generalize vPut (S, E) X 0 = q at *
    obtain ⟨S2, E2⟩ := q
    clear hlt hs
    go_enter Try.func24, Try.ntmps24
    go_wp2
    obtain ⟨W0, hW0⟩ : ∃ W0, W0 = ((w.alloc (.cells #[.string S, .int .i64 E] 43)).alloc (.cells #[.string ⟨#[]⟩, .int .i64 0] 43)).drew := ⟨_, rfl⟩
    have h0 : W0.heap[w.heap.size]? = some (.cells #[.string S, .int .i64 E] 43 (0, 0)) := by rw [hW0]; exact heap2_a _ _ _
    have h1 : W0.heap[w.heap.size + 1]? = some (.cells #[.string ⟨#[]⟩, .int .i64 0] 43 (0, 0)) := by rw [hW0]; exact heap2_b _ _ _
    have hbW : Below w.heap.size w W0 := by rw [hW0]; exact (below2 _ _ _).drew
    generalize hA : Act.mk _ _ = A
    have hA1 : A.eval (.tmp 1) = .string s := by rw [← hA]; rfl
    have hA2 : A.eval (.tmp 2) = .pointer (some ⟨w.heap.size, 0, none⟩) := by rw [← hA]; rfl
    have hA4 : A.eval (.tmp 4) = .pointer (some ⟨w.heap.size + 1, 0, none⟩) := by rw [← hA]; rfl
    have hAs : A.tmps.size = 14 := by rw [← hA]; rfl
    obtain ⟨V, hVe⟩ : ∃ V : List (Nat × Nat × Value), V = [(0, 10, .agg #[.string S, .int .i64 E]), (1, 11, .string s), (2, 12, .string X), (3, 13, .agg #[.string S2, .int .i64 E2])] := ⟨_, rfl⟩
    refine wp_region_invB0 (by kernel_rfl) (by kernel_rfl) (by kernel_rfl) (fun f a wx => Off [10, 11, 12, 13] A a ∧ ValsOk V f a ∧ (f 4 = true → f 0 = true ∧ f 1 = true ∧ f 2 = true ∧ f 3 = true) ∧ (f 4 = false → Below W0.heap.size W0 wx) ∧ (f 4 = true → wx.heap[w.heap.size + 1]? = some (.cells #[.string S2, .int .i64 E2] 43 (0, 0)) ∧ Below w.heap.size w wx)) ?start ?step ?fin
    case start => exact ⟨Off.refl _ _, vals_start _ _, by simp, fun _ => by rw [hW0]; exact Below.refl _ _, by simp⟩
    case step =>
      rintro f a wx i o ⟨hoff, hV, hm, n0, n1⟩ ho hfi hdep
      have has : a.tmps.size = 14 := hoff.size.trans hAs
      have hv := fun (i d : Nat) (v : Value) (hm : (i, d, v) ∈ V) (hf : f i = true) => hV (i, d, v) hm hf
      rcases i with _ | _ | _ | _ | _ | i
      · obtain rfl := Option.some.inj ho
        have f4 : f 4 = false := by
          cases hf : f 4 with
          | false => rfl
          | true => exact absurd (hm hf).1 (by rw [hfi]; simp)
        have hb := n0 f4
        refine wp_load_row 43 (.tmp 2) rfl w.heap.size ((hoff.eval 2 (by simp)).trans hA2) 43 #[.string S, .int .i64 E] (0, 0) _ ((hb.block _ (lt_of_block h0)).trans h0) Try.underlying43 rfl (by kernel_rfl) ?_
        exact ⟨hoff.put 10 _ (by simp), vals_put hV 0 10 _ (by omega) (by rw [hVe]; simp) (by rw [hVe]; simp), fun h => absurd h (by show ¬ f 4 = true; rw [f4]; simp), fun _ => hb, fun h => absurd h (by show ¬ f 4 = true; rw [f4]; simp)⟩
      · obtain rfl := Option.some.inj ho
        have f4 : f 4 = false := by
          cases hf : f 4 with
          | false => rfl
          | true => exact absurd (hm hf).2.1 (by rw [hfi]; simp)
        refine wp_move (.tmp 1) rfl ?_
        rw [hoff.eval 1 (by simp), hA1]
        exact ⟨hoff.put 11 _ (by simp), vals_put hV 1 11 _ (by omega) (by rw [hVe]; simp) (by rw [hVe]; simp), fun h => absurd h (by show ¬ f 4 = true; rw [f4]; simp), fun _ => n0 f4, fun h => absurd h (by show ¬ f 4 = true; rw [f4]; simp)⟩
      · obtain rfl := Option.some.inj ho
        have f4 : f 4 = false := by
          cases hf : f 4 with
          | false => rfl
          | true => exact absurd (hm hf).2.2.1 (by rw [hfi]; simp)
        have d1 : f 1 = true := hdep ⟨1, .data⟩ (by simp) rfl
        have hb := n0 f4
        refine wp_call 50 #[.tmp 11] #[9] rfl Try.call50 #[.string s] (by simp [hv 1 11 (.string s) (by rw [hVe]; simp) d1]) (unhide ht wx) ?_
        rintro e w3 ⟨rfl, hb3⟩
        exact ⟨_, rfl, hoff.put 12 _ (by simp), vals_put hV 2 12 _ (by omega) (by rw [hVe]; simp) (by rw [hVe]; simp), fun h => absurd h (by show ¬ f 4 = true; rw [f4]; simp), fun _ => hb.trans (hb3.mono hb.size), fun h => absurd h (by show ¬ f 4 = true; rw [f4]; simp)⟩
      · obtain rfl := Option.some.inj ho
        have f4 : f 4 = false := by
          cases hf : f 4 with
          | false => rfl
          | true => exact absurd (hm hf).2.2.2 (by rw [hfi]; simp)
        have d0 : f 0 = true := hdep ⟨0, .data⟩ (by simp) rfl
        have d2 : f 2 = true := hdep ⟨2, .data⟩ (by simp) rfl
        have hb := n0 f4
        refine wp_call 49 #[.tmp 10, .tmp 12, .const (.int .i64 0)] #[43, 9, 3] rfl Try.call49 #[.agg #[.string S, .int .i64 E], .string X, .int .i64 0] (by simp [hv 0 10 (.agg #[.string S, .int .i64 E]) (by rw [hVe]; simp) d0, hv 2 12 (.string X) (by rw [hVe]; simp) d2, show ∀ v, a.eval (.const v) = v from fun _ => rfl]) (unhide hp wx) ?_
        rintro e w3 ⟨rfl, hb3⟩
        exact ⟨_, rfl, hoff.put 13 _ (by simp), vals_put hV 3 13 _ (by omega) (by rw [hVe]; simp) (by rw [hVe]; simp), fun h => absurd h (by show ¬ f 4 = true; rw [f4]; simp), fun _ => hb.trans (hb3.mono hb.size), fun h => absurd h (by show ¬ f 4 = true; rw [f4]; simp)⟩
      · obtain rfl := Option.some.inj ho
        have d0 : f 0 = true := hdep ⟨0, .phase⟩ (by simp) rfl
        have d1 : f 1 = true := hdep ⟨1, .phase⟩ (by simp) rfl
        have d2 : f 2 = true := hdep ⟨2, .phase⟩ (by simp) rfl
        have d3 : f 3 = true := hdep ⟨3, .data⟩ (by simp) rfl
        have hb := n0 hfi
        have r1 := (hb.block _ (lt_of_block h1)).trans h1
        refine wp_store_mid 43 (.tmp 4) (.tmp 13) rfl (w.heap.size + 1) 0 #[.string S2, .int .i64 E2] ((hoff.eval 4 (by simp)).trans hA4) (hv 3 13 (.agg #[.string S2, .int .i64 E2]) (by rw [hVe]; simp) d3) (by have h := there_row r1; exact h) (by kernel_rfl) (all_oneCell_toArray (by intro u hu; simp at hu; rcases hu with rfl | rfl <;> rfl)) ?_
        exact ⟨hoff, vals_none hV 4 _ (by rw [hVe]; simp), fun _ => ⟨d0, d1, d2, d3⟩, fun h => (by cases h), fun _ => ⟨two_set1 (two_set0 r1), ((hbW.trans (hb.mono hbW.size)).setCell (by simp) _).setCell (by simp) _⟩⟩
      · simp at ho
    case fin =>
      rintro f a wx ⟨hoff, hV, hm, n0, n1⟩ hall
      have e := Off.all _ _ hoff
      obtain ⟨r1, hbe⟩ := n1 (hall 4 (by decide))
      simp only [List.foldl_cons, List.foldl_nil] at e
      rw [← hA] at e
      generalize a.eval (.tmp 10) = y10, a.eval (.tmp 11) = y11, a.eval (.tmp 12) = y12, a.eval (.tmp 13) = y13 at e
      simp only [Act.put, List.setIfInBounds_toArray, List.set_cons_succ, List.set_cons_zero] at e
      subst e
      clear hoff hV hA hA1 hA2 hA4 hVe n0 n1
      have R1 := hide r1
      have HBE := hide hbe
      clear r1 hbe
      go_wp2
      exact ret_cell rfl (w.heap.size + 1) 43 #[.string S2, .int .i64 E2] (0, 0) _ rfl (unhide R1) rfl Try.underlying43 (by kernel_rfl) ⟨rfl, unhide HBE⟩

end Go.Proofs.Ytahejlimdgniiab

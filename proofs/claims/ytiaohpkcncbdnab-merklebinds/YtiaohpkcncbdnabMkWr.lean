/- Contracts of merkle's Witness and of the document's Witness. -/
import Derived.Test.YtiaohpkcncbdnabMkWi
import Derived.Test.YtiaohpkcncbdnabBxZ
import Derived.Test.YtiaohpkcncbdnabMkR
namespace Go.Proofs.Ytiaohpkcncbdnab
open Go.RowKit
set_option linter.unusedVariables false

set_option maxRecDepth 100000 in
theorem mwitness_any (T : List By) (a0 : Option Addr) (c : Nat) (w : World) (hT : Txts w a0 T) (hn : T.length ≤ 100000) (hl : ∀ t ∈ T, t.length ≤ 65536) :
    Calls Try.prog 11 #[.slice a0 T.length c] w fun e w' => ∃ l r, WitAt T T.length l r ∧ e = .returned (.tuple #[.string (bs (witG T l l)), .string (bs (witG T l r)), .bool (decide (l < T.length))]) ∧ Below w.heap.size w w' := by
  have hw := hide (witness_any T a0 c w hT hn hl)
  clear hT hl
  generalize T.length = n at *
  go_enter Try.func11, Try.ntmps11
  go_wp2_with fail
  refine (unhide hw).mono ?_
  rintro e w1 ⟨l, r, hW, rfl, b1⟩
  go_wp2
  go_ret3
  exact ⟨l, r, hW, rfl, b1⟩

theorem three_row {w : World} {b : Nat} {x y z : Value} {t : TypeId} (h : w.heap[b]? = some (.cells #[x, y, z] t (0, 0))) : w.cell? ⟨b, 0, none⟩ = some x ∧ w.cell? ⟨b, 1, none⟩ = some y ∧ w.cell? ⟨b, 2, none⟩ = some z ∧ w.frozen? ⟨b, 0, none⟩ = false ∧ w.frozen? ⟨b, 1, none⟩ = false ∧ w.frozen? ⟨b, 2, none⟩ = false := by
  simp [World.cell?, World.frozen?, h]

set_option maxRecDepth 100000 in
set_option maxHeartbeats 4000000 in
theorem rwitness_any (T : List By) (a0 : Option Addr) (c : Nat) (w : World) (hT : Txts w a0 T) (hn : T.length ≤ 100000) (hl : ∀ t ∈ T, t.length ≤ 65536) :
    Calls Try.prog 16 #[.slice a0 T.length c] w fun e w' => ∃ l r, WitAt T T.length l r ∧ e = .returned (.agg #[.string (bs (witG T l l)), .string (bs (witG T l r)), .bool (decide (l < T.length))]) ∧ Below w.heap.size w w' := by
  have HT := hide hT
  have HL := hide hl
  clear hT hl
  generalize hnn : T.length = n at *
  have HN := hide hnn
  clear hnn
  go_enter Try.func16, Try.ntmps16
  go_wp2_with fail
  generalize hW : World.alloc _ _ = W
  have r0 : W.heap[w.heap.size]? = some (.cells #[.string ⟨#[]⟩, .string ⟨#[]⟩, .bool false] 41 (0, 0)) := by rw [← hW]; exact heap_alloc_new _ _
  have b0 : Below w.heap.size w W := by rw [← hW]; exact (Below.refl _ _).alloc (Nat.le_refl _) _
  clear hW
  go_loopw [3] (fun iv wr => ∃ i : Nat, i ≤ n ∧ iv = .int .i64 i ∧ (∀ i' k, i' < i → ¬ Bad T i' k) ∧ wr.heap[w.heap.size]? = some (.cells #[.string ⟨#[]⟩, .string ⟨#[]⟩, .bool false] 41 (0, 0)) ∧ Below w.heap.size w wr) (fun iv _ => n - (intOf iv).toNat)
  case atStart => exact ⟨0, Nat.zero_le _, rfl, fun i' k h => absurd h (by omega), r0, b0⟩
  case round =>
    clear r0 b0
    obtain ⟨i, hi, rfl, hno, hrow, hb⟩ := hrel
    by_cases hin : i < n
    · have qi : (i : Int) < n := by omega
      have HNO := hide hno
      have HR := hide hrow
      have HB := hide hb
      clear hno hrow hb
      go_wp2_with fail
      go_loopw [4] (fun kv wr => ∃ k : Nat, i < k ∧ k ≤ n ∧ kv = .int .i64 k ∧ (∀ k', k' < k → ¬ Bad T i k') ∧ wr.heap[w.heap.size]? = some (.cells #[.string ⟨#[]⟩, .string ⟨#[]⟩, .bool false] 41 (0, 0)) ∧ Below w.heap.size w wr) (fun kv _ => n - (intOf kv).toNat)
      case atStart => exact ⟨i + 1, by omega, by omega, by go_num, fun k' h ⟨_, _, h1, _⟩ => by omega, unhide HR, unhide HB⟩
      case round =>
        obtain ⟨k, hik, hk, rfl, hnk, hrow, hb⟩ := hrel
        have hzs := hb.size
        by_cases hkn : k < n
        · have hiT : i < T.length := by rw [unhide HN]; exact hin
          have hkT : k < T.length := by rw [unhide HN]; exact hkn
          have qk : (k : Int) < n := by omega
          obtain ⟨g, o, rfl, y1⟩ := (unhide HT).below hb i hiT
          have y2 : wr.cell? ⟨g, o + k, none⟩ = some (.string (bs T[k])) := by
            obtain ⟨g', o', eg, hcc⟩ := (unhide HT).below hb k hkT
            simp only [Option.some.injEq, Addr.mk.injEq, and_true] at eg
            obtain ⟨rfl, rfl⟩ := eg
            exact hcc
          have s1 := hide (fun w => rsum_t T[i] w (unhide HL _ (List.getElem_mem hiT)))
          have s2 := hide (fun w => rsum_t T[k] w (unhide HL _ (List.getElem_mem hkT)))
          have HRr := hide hrow
          have HBr := hide hb
          have HNK := hide hnk
          clear hrow hb hnk
          by_cases hbad : Bad T i k
          · obtain ⟨_, _, _, hu, hs⟩ := hbad
            have HW : Hid (WitAt T n i k) := .inr ⟨hin, hkn, ⟨hiT, hkT, hik, hu, hs⟩, unhide HNK, fun i' k' h _ => unhide HNO i' k' h⟩
            have hne := bl_neq (fun h : bs T[i] = bs T[k] => hu (bs_inj h))
            have e1 := hide (witG_in hiT hiT)
            have e2 := hide (witG_in hiT hkT)
            rw [hs] at s1
            generalize bs (shaSum T[k]) = X at *
            generalize hS1 : bs T[i] = S1 at *
            generalize hS2 : bs T[k] = S2 at *
            have HS1 := hide hS1
            have HS2 := hide hS2
            clear hS1 hS2 hu hs
            go_wp2_with fail
            have hc1 : ∀ x : Gb wr, x.w.cell? ⟨g, o + i, none⟩ = some (.string S1) := fun x => gb_cell y1 x
            have hc2 : ∀ x : Gb wr, x.w.cell? ⟨g, o + k, none⟩ = some (.string S2) := fun x => gb_cell y2 x
            have hneG := gb_ne wr
            refine wp_region_gr (fun x => Below wr.heap.size wr x) (by kernel_rfl) (by kernel_rfl) (gb_start wr) ?_
            iterate 15 (go_big_quiet_step ((go_at_call 14; exact gb_call (unhide s1 _))))
            repeat (go_big_quiet_step ((go_at_call 14; exact gb_call (unhide s2 _))))
            refine wpQuiet_nil ?_
            rintro w7 ⟨⟨_, b7⟩, rfl⟩
            have r7 := (b7.block _ (lt_of_block (unhide HRr))).trans (unhide HRr)
            obtain ⟨d0, d1, d2, d3, d4, d5⟩ := three_row r7
            have z1 := cell_below y1 b7
            have z2 := cell_below y2 b7
            have B7 := hide ((unhide HBr).trans (b7.mono (unhide HBr).size))
            have R7 := hide r7
            clear r7 b7 hc1 hc2 hneG y1 y2 HRr HBr
            go_wp2_with fail
            refine wp_region_late 9 ?A0 (by kernel_rfl) (by kernel_rfl) (by kernel_rfl) ?lex ?_
            case lex =>
              intro Y
              have hneY := gb_ne Y.w
              have g1 : ∀ y : Gb Y.w, y.w.cell? ⟨g, o + i, none⟩ = some (.string S1) := fun y => gb_cell (gb_cell z1 Y) y
              have g2 : ∀ y : Gb Y.w, y.w.cell? ⟨g, o + k, none⟩ = some (.string S2) := fun y => gb_cell (gb_cell z2 Y) y
              dsimp only [List.take_succ_cons, List.take_zero]
              repeat (go_big_quiet_step ((fail)))
              refine wpQuiet_nil ?_
              exact rfl
            intro w8 b8
            try simp only [List.drop_succ_cons, List.drop_zero]
            have r8 := (b8.block _ (lt_of_block (unhide R7))).trans (unhide R7)
            have B8 := hide ((unhide B7).trans (b8.mono (unhide B7).size))
            clear d0 d1 d2 d3 d4 d5 z1 z2 b8 B7 R7
            obtain ⟨d0, d1, d2, d3, d4, d5⟩ := three_row r8
            have R8 := hide r8
            clear r8
            go_wp2
            refine onlyN ?_
            go_wp2
            refine ret_cell rfl w.heap.size 41 #[.string S1, .string S2, .bool true] (0, 0) _ rfl (set_row (set_row (set_row (unhide R8) 0 _) 1 _) 2 _) rfl Try.underlying41 (by kernel_rfl) ⟨i, k, unhide HW, ?_, ?_⟩
            · rw [unhide e1, unhide e2, unhide HS1, unhide HS2, decide_eq_true hin]
            · exact (((unhide B8).setCell (p := ⟨w.heap.size, 0, none⟩) (Nat.le_refl _) _).setCell (p := ⟨w.heap.size, 1, none⟩) (Nat.le_refl _) _).setCell (p := ⟨w.heap.size, 2, none⟩) (Nat.le_refl _) _
          · have HNK2 : Hid (∀ k', k' < k + 1 → ¬ Bad T i k') := by
              intro k' hk'
              by_cases e : k' = k
              · rw [e]; exact hbad
              · exact unhide HNK k' (by omega)
            by_cases hu : T[i] = T[k]
            · rw [hu] at y1
              generalize bs T[k] = S2 at *
              clear hbad hu s1 s2
              go_wp2_with fail
              have hc1 : ∀ x : Gb wr, x.w.cell? ⟨g, o + i, none⟩ = some (.string S2) := fun x => gb_cell y1 x
              have hc2 : ∀ x : Gb wr, x.w.cell? ⟨g, o + k, none⟩ = some (.string S2) := fun x => gb_cell y2 x
              have hneG := gb_ne wr
              refine wp_region_gr (fun x => Below wr.heap.size wr x) (by kernel_rfl) (by kernel_rfl) (gb_start wr) ?_
              repeat (go_big_quiet_step ((fail)))
              refine wpQuiet_nil ?_
              rintro w7 ⟨⟨_, b7⟩, rfl⟩
              have R7 := hide ((b7.block _ (lt_of_block (unhide HRr))).trans (unhide HRr))
              have B7 := hide ((unhide HBr).trans (b7.mono (unhide HBr).size))
              clear b7 hc1 hc2 hneG y1 y2 HRr HBr
              go_wp2
              go_roundw
              case rel => exact ⟨k + 1, by omega, by omega, by go_num, unhide HNK2, unhide R7, unhide B7⟩
              case measure => simp [intOf]; omega
            · have hs : shaSum T[i] ≠ shaSum T[k] := fun h => hbad ⟨hiT, hkT, hik, hu, h⟩
              have hne := bl_neq (fun h : bs T[i] = bs T[k] => hu (bs_inj h))
              have hnx := bl_neq (fun h : bs (shaSum T[i]) = bs (shaSum T[k]) => hs (bs_inj h))
              generalize bs (shaSum T[k]) = X2 at *
              generalize bs (shaSum T[i]) = X1 at *
              generalize bs T[i] = S1 at *
              generalize bs T[k] = S2 at *
              clear hbad hu hs
              go_wp2_with fail
              have hc1 : ∀ x : Gb wr, x.w.cell? ⟨g, o + i, none⟩ = some (.string S1) := fun x => gb_cell y1 x
              have hc2 : ∀ x : Gb wr, x.w.cell? ⟨g, o + k, none⟩ = some (.string S2) := fun x => gb_cell y2 x
              have hneG := gb_ne wr
              refine wp_region_gr (fun x => Below wr.heap.size wr x) (by kernel_rfl) (by kernel_rfl) (gb_start wr) ?_
              iterate 15 (go_big_quiet_step ((go_at_call 14; exact gb_call (unhide s1 _))))
              repeat (go_big_quiet_step ((go_at_call 14; exact gb_call (unhide s2 _))))
              refine wpQuiet_nil ?_
              rintro w7 ⟨⟨_, b7⟩, rfl⟩
              have R7 := hide ((b7.block _ (lt_of_block (unhide HRr))).trans (unhide HRr))
              have B7 := hide ((unhide HBr).trans (b7.mono (unhide HBr).size))
              clear b7 hc1 hc2 hneG y1 y2 HRr HBr
              go_wp2
              go_roundw
              case rel => exact ⟨k + 1, by omega, by omega, by go_num, unhide HNK2, unhide R7, unhide B7⟩
              case measure => simp [intOf]; omega
        · have hkn' : k = n := by omega
          subst hkn'
          have qk : ¬ (k : Int) < k := by omega
          have HNO2 : Hid (∀ i' k', i' < i + 1 → ¬ Bad T i' k') := by
            intro i' k' hi'
            by_cases e : i' = i
            · rw [e]
              intro hbad
              have h1 : k' < T.length := hbad.2.1
              rw [unhide HN] at h1
              exact hnk k' h1 hbad
            · exact unhide HNO i' k' (by omega)
          have R7 := hide hrow
          have B7 := hide hb
          clear hrow hb hnk
          go_wp2
          go_roundw
          case rel => exact ⟨i + 1, by omega, by go_num, unhide HNO2, unhide R7, unhide B7⟩
          case measure => simp [intOf]; omega
    · have hin' : i = n := by omega
      subst hin'
      have qi : ¬ (i : Int) < i := by omega
      have HW : Hid (WitAt T i i 0) := .inl ⟨(unhide HN).symm, fun i' k' hk' hbad => by
        have h1 : i' < T.length := hbad.1
        rw [unhide HN] at h1
        exact hno i' k' h1 hbad⟩
      have e0 : Hid (∀ m, witG T i m = []) := fun m => by unfold witG; rw [if_neg (by rw [unhide HN]; omega)]
      obtain ⟨d0, d1, d2, d3, d4, d5⟩ := three_row hrow
      have R8 := hide hrow
      have B8 := hide hb
      clear hrow hb hno HT HL
      go_wp2
      refine ret_cell rfl w.heap.size 41 #[.string ⟨#[]⟩, .string ⟨#[]⟩, .bool false] (0, 0) _ rfl (set_row (set_row (set_row (unhide R8) 0 _) 1 _) 2 _) rfl Try.underlying41 (by kernel_rfl) ⟨i, 0, unhide HW, ?_, ?_⟩
      · rw [unhide e0, unhide e0, decide_eq_false (by omega)]
        rfl
      · exact (((unhide B8).setCell (p := ⟨w.heap.size, 0, none⟩) (Nat.le_refl _) _).setCell (p := ⟨w.heap.size, 1, none⟩) (Nat.le_refl _) _).setCell (p := ⟨w.heap.size, 2, none⟩) (Nat.le_refl _) _

end Go.Proofs.Ytiaohpkcncbdnab

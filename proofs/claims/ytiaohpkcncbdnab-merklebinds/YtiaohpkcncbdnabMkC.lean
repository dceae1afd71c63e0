/- Contracts of slices.Grow (of nothing) and slices.Concat, for texts. -/
import Derived.Test.YtiaohpkcncbdnabMkA
import Derived.Test.YtiaohpkcncbdnabShaHb
import Derived.Lib.AppendZerosOnto
namespace Go.Proofs.Ytiaohpkcncbdnab
open Go.RowKit
set_option linter.unusedVariables false
variable {Bq : Nat}

theorem Try.infoS : (Try.prog.info? 9).map (fun i => (i.zero, i.size, i.bytes)) = some (some (.string ⟨#[]⟩), 1, 16) := by kernel_rfl
theorem Try.undS : Try.prog.underlying 22 = some (.slice 9) := by kernel_rfl

set_option maxRecDepth 100000 in
set_option maxHeartbeats 1000000 in
theorem grow_nil (n : Nat) (w : World) (h1 : 1 ≤ n) (h2 : n ≤ 100000) :
    Calls Try.prog 52 #[.slice none 0 0, .int .i64 n] w fun e w' => ∃ v, e = .returned v ∧ w'.ownsRow w.heap.size 9 1 v 0 [] ∧ Below w.heap.size w w' := by
  obtain ⟨i0, hi0, hz0, hz1, hz2⟩ := info_parts Try.infoS
  have hold : (Builtin.firstCells i0.size 0 (.slice none 0 0)).run Try.prog w.drew = .ok ([] : List Value).toArray w.drew := run_firstCells_none w.drew i0.size 0 0 0
  have hrz : ∀ ty, (Builtin.append_ #[22, 3] ty #[.slice none 0 0, .int .i64 n]).run Try.prog w =
      .ok (.slice (some ⟨w.heap.size, 0, none⟩) n (grownCap w n 0 9)) (w.drew.alloc (.cells (([] : List Value).toArray ++ Builtin.zeroCells (Value.string ⟨#[]⟩).cells n ++ Builtin.zeroCells (Value.string ⟨#[]⟩).cells (grownCap w n 0 9 - n)) 9)) := fun ty => by
    have h := Lib.run_append_grow_zeros w 22 3 ty 9 i0 (.string ⟨#[]⟩) .i64 .i64 Try.undS Try.underlying3 hi0 hz0 none 0 0 [] hold n (by omega) (by omega) (by omega) (by omega) (by rw [hz2]; omega)
      (by rw [hz2, Nat.zero_add]; exact growslice_fits (by omega) (by omega))
    rw [Nat.zero_add] at h
    exact h
  have hGn : n ≤ grownCap w n 0 9 := grownCap_ge w _ _ _
  have hGm := grownCap_le_maxLen w n 0 9 (by unfold maxLen; omega)
  obtain ⟨G, hG⟩ : ∃ G, G = grownCap w n 0 9 := ⟨_, rfl⟩
  rw [← hG] at hrz hGn hGm
  obtain ⟨C, hC⟩ : ∃ C : Array Value, C = ([] : List Value).toArray ++ Builtin.zeroCells (Value.string ⟨#[]⟩).cells n ++ Builtin.zeroCells (Value.string ⟨#[]⟩).cells (G - n) := ⟨_, rfl⟩
  rw [← hC] at hrz
  have hCs : C.size = G := by
    rw [hC]
    simp [Builtin.zeroCells, Value.cells]
    omega
  have HM := hide hGm
  unfold maxLen at hGm
  clear hold hG hC hi0 hz0 hz1 hz2
  have n0 : (0 : Int) < n := by omega
  go_enter Try.func52, Try.ntmps52
  go_wp2_with (at_builtin; refine Lib.wpList_append_run _ rfl _ _ _ _ rfl _ _ rfl rfl _ _ (hrz _) ?_)
  go_ret
  refine ⟨_, rfl, ⟨rfl, .inr ⟨w.heap.size, G, C, rfl, Nat.le_refl _, ?_, Nat.zero_le _, unhide HM, by rw [hCs]; simp, by simp⟩⟩, ((Below.refl _ _).alloc (Nat.le_refl _) _).drew⟩
  exact heap_alloc_new _ _

/-- texts as cells -/
def sc (T : List By) : List Value := T.map fun t => Value.string (bs t)
theorem sc_length (T : List By) : (sc T).length = T.length := by simp [sc]
theorem sc_append (T U : List By) : sc (T ++ U) = sc T ++ sc U := by simp [sc]
theorem sc_get (T : List By) (i : Nat) (h : i < T.length) : (sc T)[i]? = some (Value.string (bs T[i])) := by simp [sc, h]
theorem sc_one (T : List By) : ∀ u ∈ sc T, u.oneCell' = true := by
  intro u hu
  simp only [sc, List.mem_map] at hu
  obtain ⟨b, _, rfl⟩ := hu
  rfl
theorem own_strs {w : World} {base : Nat} {v : Value} {T : List By} (h : w.ownsRow base 9 1 v T.length (sc T)) : ∃ a0 c, v = .slice a0 T.length c ∧ Strs base w a0 T c ∧ T.length ≤ c := by
  rcases h.2 with ⟨rfl, h0⟩ | ⟨g, cap, cur, rfl, hbg, hg, hnc, hcm, hcs, htake⟩
  · exact ⟨none, 0, by rw [h0], fun i hi => absurd hi (by omega), by omega⟩
  · refine ⟨some ⟨g, 0, none⟩, cap, rfl, fun i hi => ⟨g, 0, rfl, ?_, _, _, hg, rfl, hbg, rfl, by omega, hcm⟩, hnc⟩
    rw [Nat.zero_add]
    exact (h.cellAt i (by omega)).trans (sc_get T i hi)

/-- the first i lists, one behind the other -/
def catN (T : Nat → List By) : Nat → List By
  | 0 => []
  | i + 1 => catN T i ++ T i
theorem catN_le (T : Nat → List By) (i m : Nat) (h : i ≤ m) : (catN T i).length ≤ (catN T m).length := by
  induction m with
  | zero => have : i = 0 := by omega
            subst this; exact Nat.le_refl _
  | succ m ih =>
    rcases Nat.lt_or_ge m i with h' | h'
    · have : i = m + 1 := by omega
      subst this; exact Nat.le_refl _
    · have := ih h'
      rw [catN, List.length_append]
      omega

set_option maxRecDepth 100000 in
set_option maxHeartbeats 1000000 in
theorem concat_any (w : World) (gz m cz : Nat) (T : Nat → List By) (A : Nat → Option Addr) (C : Nat → Nat) (hm : 1 ≤ m) (hm2 : m ≤ 1000) (hT : ∀ i, i < m → 1 ≤ (T i).length) (hl : (catN T m).length ≤ 100000)
    (hrow : ∀ i, i < m → w.cell? ⟨gz, i, none⟩ = some (.slice (A i) (T i).length (C i)) ∧ Strs Bq w (A i) (T i) (C i)) :
    Calls Try.prog 48 #[.slice (some ⟨gz, 0, none⟩) m cz] w fun e w' => ∃ a0 c, e = .returned (.slice a0 (catN T m).length c) ∧ Strs w.heap.size w' a0 (catN T m) c ∧ (catN T m).length ≤ c ∧ Below w.heap.size w w' := by
  obtain ⟨i0, hi0, hz0, hz1, hz2⟩ := info_parts Try.infoS
  have HR := hide hrow
  have hc1 : 1 ≤ (catN T m).length := by
    have h1 := catN_le T 1 m hm
    have h2 := hT 0 hm
    simp [catN] at h1
    omega
  have hgn := hide (fun w => grow_nil (catN T m).length w hc1 hl)
  clear hrow
  go_enter Try.func48, Try.ntmps48
  go_wp2_with fail
  go_loop [3, 11] (fun z v => ∃ i : Nat, i ≤ m ∧ v = .int .i64 i ∧ z = .int .i64 (catN T i).length) (fun _ v => m - (intOf v).toNat)
  case atStart => exact ⟨0, Nat.zero_le _, rfl, rfl⟩
  case round =>
    obtain ⟨i, hi, rfl, rfl⟩ := hrel
    by_cases hlt : i < m
    · obtain ⟨c1, _⟩ := unhide HR i hlt
      have e1 : Hid ((catN T (i + 1)).length = (catN T i).length + (T i).length) := by show _ = _; rw [catN, List.length_append]
      have e2 := catN_le T (i + 1) m hlt
      have e3 := catN_le T i m hi
      rw [unhide e1] at e2
      generalize (catN T i).length = x at *
      generalize (T i).length = y at *
      have q1 : (i : Int) < m := by omega
      go_wp2
      go_round
      case rel => exact ⟨i + 1, by omega, by go_num, by rw [unhide e1]; go_num⟩
      case measure => simp [intOf]; omega
    · have him : i = m := by omega
      subst him
      have q1 : ¬ (i : Int) < i := by omega
      have hgn2 := hide (unhide hgn w)
      generalize hx : (catN T i).length = x at *
      have HX := hide hx
      clear hx hgn
      go_wp2_with fail
      refine (unhide hgn2).mono ?_
      rintro e w1 ⟨v1, rfl, hown, b1⟩
      have HO := hide hown
      have HB := hide b1
      have hv1 := own_shape' hown
      clear hown b1 hgn2
      obtain ⟨ao1, cp1, rfl⟩ := hv1
      go_wp2_with fail
      go_loopw [6, 27] (fun v k wr => ∃ j : Nat, j ≤ i ∧ k = .int .i64 j ∧ wr.ownsRow w.heap.size 9 1 v (catN T j).length (sc (catN T j)) ∧ Below w.heap.size w wr) (fun _ k _ => i - (intOf k).toNat)
      case atStart => exact ⟨0, Nat.zero_le _, rfl, unhide HO, unhide HB⟩
      case round =>
        clear HO HB
        obtain ⟨j, hj, rfl, hown, hb⟩ := hrel
        obtain ⟨ao, cp, rfl⟩ := own_shape' hown
        by_cases hlt : j < i
        · obtain ⟨c1, hS⟩ := unhide HR j hlt
          have hT1 := hT j hlt
          obtain ⟨g, o, hA, hA0⟩ := hS 0 (by omega)
          clear hA0
          have c1' := cell_below c1 hb
          rw [hA] at c1' hS
          have hS2 := hS.below hb
          have e1 : Hid (catN T (j + 1) = catN T j ++ T j) := rfl
          have e2 := catN_le T (j + 1) i hlt
          rw [unhide e1, List.length_append] at e2
          have e4 := unhide HX
          have hnw : ∀ q u, (sc (T j))[q]? = some u → wr.cell? ((⟨g, o, none⟩ : Addr).add q) = some u := fun q u hq => by
            have hq2 : q < (T j).length := by
              rcases Nat.lt_or_ge q (T j).length with h' | h'
              · exact h'
              · rw [List.getElem?_eq_none (by rw [sc_length]; exact h')] at hq; cases hq
            rw [sc_get _ _ hq2] at hq
            obtain ⟨g', o', he, hcc, _⟩ := hS2 q hq2
            simp only [Option.some.injEq, Addr.mk.injEq] at he
            obtain ⟨rfl, rfl, _⟩ := he
            rw [Addr.add_mid, hcc]
            exact hq
          have hzz := hb.size
          have q1 : (j : Int) < i := by omega
          have hsl := sc_length (T j)
          have hso := sc_one (T j)
          have hsa := hide (sc_append (catN T j) (T j))
          clear c1 hS hS2
          generalize hN : sc (T j) = N at *
          generalize hy : (T j).length = y at *
          generalize hxx : (catN T j).length = xx at *
          have HN := hide hN
          have HY := hide hy
          have HXX := hide hxx
          clear hN hy hxx
          go_wp2_with (at_builtin; refine wpList_append_own _ rfl _ _ 22 rfl w.heap.size 9 i0 (.string ⟨#[]⟩) 1 16 Try.undS hi0 hz0 hz1 hz2 rfl (by decide) _ _ _ rfl hown ⟨g, o, none⟩ y (C j) N rfl ?c0 hnw hso ?c3 ?c4 ?c5 ?_)
          case c0 => omega
          case c3 => unfold maxLen; omega
          case c4 => omega
          case c5 => omega
          intro v' w6 hown' hgrow _
          have HB6 := hide (hb.grown hgrow (by omega) (fun q hq => ((hown.lt q hq).1)))
          have HO6 : Hid (w6.ownsRow w.heap.size 9 1 v' (catN T (j + 1)).length (sc (catN T (j + 1)))) := by
            show World.ownsRow _ _ _ _ _ _ _
            rw [unhide e1, unhide hsa, List.length_append, unhide HXX, unhide HY]
            exact hown'
          obtain ⟨ao', cp', rfl⟩ := own_shape' hown'
          clear hown' hgrow hown hb hnw
          go_wp2
          go_roundw
          case rel => exact ⟨j + 1, by omega, by go_num, unhide HO6, unhide HB6⟩
          case measure => simp [intOf]; omega
        · have hji : j = i := by omega
          subst hji
          obtain ⟨a0, c, hve, hS, hle⟩ := own_strs hown
          have q1 : ¬ (j : Int) < j := by omega
          have HS := hide hS
          have HL := hide hle
          have HV := hide hve
          have HB := hide hb
          clear hown hb hS hle hve
          go_wp2
          go_ret
          exact ⟨a0, c, congrArg _ (unhide HV), unhide HS, unhide HL, unhide HB⟩

end Go.Proofs.Ytiaohpkcncbdnab

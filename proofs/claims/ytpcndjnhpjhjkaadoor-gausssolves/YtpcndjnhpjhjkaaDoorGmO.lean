/- The law GaussOrder, walked. -/
import Derived.Test.YtpcndjnhpjhjkaaDoorGaQ
import Derived.Deep.RegionHeld3
namespace Go.Proofs.YtpcndjnhpjhjkaaDoor
open Go.RowKit
set_option linter.unusedVariables false
attribute [local go_sem] Oper.semAt_some

/-- rows turned round, one of them again, and the sum of two -/
def turnR (n : Nat) (R : List (List Nat)) (i k : Nat) : List (List Nat) := R.reverse ++ [R.getD i [], numsR n (rowN (R.getD i []) ^^^ rowN (R.getD k []))]
theorem getD_mem' {α : Type} {L : List α} {i : Nat} {d : α} (h : i < L.length) : L.getD i d ∈ L := by simp [List.getD, h]
theorem Rws.turn {n i k : Nat} {Rs : List (List Int)} {R : List (List Nat)} (h : Rws n Rs R) (hi : i < R.length) (hk : k < R.length) (h40 : R.length ≤ 40) : Rws n ((turnR n R i k).map zs) (turnR n R i k) := by
  have key : ∀ r ∈ turnR n R i k, (∀ x ∈ r, x < n) ∧ r.Pairwise (· < ·) := by
    intro r hr
    unfold turnR at hr
    rw [List.mem_append, List.mem_reverse] at hr
    rcases hr with hr | hr
    · exact ⟨h.lt r hr, h.ord r hr⟩
    · simp only [List.mem_cons, List.not_mem_nil, or_false] at hr
      rcases hr with rfl | rfl
      · exact ⟨h.lt _ (getD_mem' hi), h.ord _ (getD_mem' hi)⟩
      · exact ⟨fun x hx => (numsR_mem.1 hx).1, List.Pairwise.filter _ List.pairwise_lt_range⟩
  exact ⟨rfl, fun r hr => (key r hr).1, fun r hr => (key r hr).2, h.n160, by unfold turnR; simp; omega⟩
theorem turn_kep {n i k : Nat} {Rs : List (List Int)} {R : List (List Nat)} (h : Rws n Rs R) (hi : i < R.length) (hk : k < R.length) (h40 : R.length ≤ 40) : kep (gL (turnR n R i k)) n = kep (gL R) n := by
  have h160 := h.n160
  have ht := h.turn hi hk h40
  refine kep_eq (m := 0) (by omega) (gL_szd _) ht.bd (gL_szd _) h.bd (nocontra0 (gL_szd _)) (sameS_of (gL_szd _) (gL_szd _) (fun x hx => ?_) (fun x hx => ?_))
  · obtain ⟨r, hr, rfl⟩ := List.mem_map.1 hx
    unfold turnR at hr
    rw [List.mem_append, List.mem_reverse] at hr
    have old : ∀ r ∈ R, Spn 0 (gL R) (rowN r, []) := fun r hr => Spn.mem (gL_szd R) (List.mem_map.2 ⟨r, hr, rfl⟩)
    rcases hr with hr | hr
    · exact old r hr
    · simp only [List.mem_cons, List.not_mem_nil, or_false] at hr
      rcases hr with rfl | rfl
      · exact old _ (getD_mem' hi)
      · have b1 := rowN_lt _ n (h.lt _ (getD_mem' (d := []) hi))
        have b2 := rowN_lt _ n (h.lt _ (getD_mem' (d := []) hk))
        rw [rowN_nums (Nat.xor_lt_two_pow b1 b2)]
        exact (old _ (getD_mem' (d := []) hi)).sum (gL_szd R) (old _ (getD_mem' (d := []) hk))
  · obtain ⟨r, hr, rfl⟩ := List.mem_map.1 hx
    refine Spn.mem (gL_szd _) (List.mem_map.2 ⟨r, ?_, rfl⟩)
    unfold turnR
    rw [List.mem_append, List.mem_reverse]
    exact .inl hr
theorem gcell_same {w w' : World} {g o : Nat} (h : w'.heap[g]? = w.heap[g]?) : w'.cell? ⟨g, o, none⟩ = w.cell? ⟨g, o, none⟩ := by
  unfold World.cell?
  simp only [h]
theorem mod_pick2 (f : Int) (m : Nat) (hm : 0 < m) : ∃ k : Nat, k < m ∧ (f.tmod (m : Int) + m).tmod (m : Int) = k ∧ -(m : Int) < f.tmod (m : Int) ∧ f.tmod (m : Int) < (m : Int) := by
  have h1 : f.tmod (m : Int) < (m : Int) := Int.tmod_lt_of_pos _ (by omega)
  have h2 : -(m : Int) < f.tmod (m : Int) := by
    have := Int.lt_tmod_of_pos f (show (0 : Int) < (m : Int) by omega)
    omega
  refine ⟨((f.tmod (m : Int) + m).tmod (m : Int)).toNat, ?_, ?_, h2, h1⟩
  · have := Int.tmod_lt_of_pos (f.tmod (m : Int) + m) (show (0 : Int) < (m : Int) by omega)
    have := Int.tmod_nonneg (m : Int) (show 0 ≤ f.tmod (m : Int) + m by omega)
    omega
  · have := Int.tmod_nonneg (m : Int) (show 0 ≤ f.tmod (m : Int) + m by omega)
    omega
set_option maxRecDepth 100000 in
set_option maxHeartbeats 1000000 in
theorem gaussOrder_off (n : Int) (Rs : List (List Int)) (a0 : Option Addr) (c : Nat) (s t : Int) (w : World) (hT : Tz w) (hn : -9223372036854775808 ≤ n ∧ n ≤ 9223372036854775807) (hI : RowsA w a0 Rs) (hO : RowsOk Rs a0 c) (hno : fewB n Rs = false ∨ mayB n Rs = false ∨ Rs = []) :
    Calls Tryd.prog 6 #[.int .i64 n, .slice a0 Rs.length c, .agg #[.int .i64 s, .int .i64 t]] w fun e w' => e = .returned (.bool true) ∧ Below w.heap.size w w' := by
  have hb0 : Below w.heap.size w (w.alloc (.cells #[.int .i64 s, .int .i64 t] 52)) := (Below.refl _ w).alloc (Nat.le_refl _) _
  have hf := hide (gfew_any n Rs a0 c (by have := hO.1; have := hO.2.1; omega) hO.2.2.1 _ (hI.below hb0))
  have hm := hide (may_any n Rs a0 c hn (by have := hO.1; have := hO.2.1; omega) hO.2.2.1 _ (hI.below hb0))
  have haw := hide (gawake_any _ (hT.below hb0))
  have B0 := hide hb0
  clear hb0
  cases hfe : fewB n Rs with
  | false =>
    rw [hfe] at hf
    generalize Rs.length = m at *
    clear hI hO hno hfe
    go_enter Tryd.func6, Tryd.ntmps6
    go_wp2_with fail
    refine (unhide hf).mono ?_
    rintro e w1 ⟨rfl, rfl⟩
    go_wp2_with fail
    refine (unhide haw).mono ?_
    rintro e w2 ⟨rfl, b2⟩
    have B2 := hide ((unhide B0).trans (b2.mono (unhide B0).size))
    clear b2
    go_wp2
    go_ret
    exact ⟨rfl, unhide B2⟩
  | true =>
    rw [hfe] at hf hno
    cases hme : mayB n Rs with
    | false =>
      rw [hme] at hm
      generalize Rs.length = m at *
      clear hI hO hno hfe hme
      go_enter Tryd.func6, Tryd.ntmps6
      go_wp2_with fail
      refine (unhide hf).mono ?_
      rintro e w1 ⟨rfl, rfl⟩
      go_wp2_with fail
      refine (unhide hm).mono ?_
      rintro e w1 ⟨rfl, rfl⟩
      go_wp2_with fail
      refine (unhide haw).mono ?_
      rintro e w2 ⟨rfl, b2⟩
      have B2 := hide ((unhide B0).trans (b2.mono (unhide B0).size))
      clear b2
      go_wp2
      go_ret
      exact ⟨rfl, unhide B2⟩
    | true =>
      have hnil : Rs = [] := by
        rcases hno with h | h | h
        · cases h
        · rw [hme] at h; cases h
        · exact h
      rw [hme] at hm
      subst hnil
      rw [List.length_nil] at *
      clear hI hO hno hfe hme
      go_enter Tryd.func6, Tryd.ntmps6
      go_wp2_with fail
      refine (unhide hf).mono ?_
      rintro e w1 ⟨rfl, rfl⟩
      go_wp2_with fail
      refine (unhide hm).mono ?_
      rintro e w1 ⟨rfl, rfl⟩
      go_wp2_with fail
      refine (unhide haw).mono ?_
      rintro e w2 ⟨rfl, b2⟩
      have B2 := hide ((unhide B0).trans (b2.mono (unhide B0).size))
      clear b2
      go_wp2
      go_ret
      exact ⟨rfl, unhide B2⟩
set_option maxRecDepth 100000 in
set_option maxHeartbeats 1000000 in
theorem gaussOrder_on (n : Nat) (Rs : List (List Int)) (R : List (List Nat)) (hR : Rws n Rs R) (a0 : Option Addr) (c : Nat) (s t : Int) (w : World) (hT : Tz w) (hI : RowsA w a0 Rs) (hO : RowsOk Rs a0 c) (hfe : fewB n Rs = true) (hne : 0 < Rs.length) :
    Calls Tryd.prog 6 #[.int .i64 n, .slice a0 Rs.length c, .agg #[.int .i64 s, .int .i64 t]] w fun e w' => e = .returned (.bool true) ∧ Below w.heap.size w w' := by
  have h160 := hR.n160
  have hb0 : Below w.heap.size w (w.alloc (.cells #[.int .i64 s, .int .i64 t] 52)) := (Below.refl _ w).alloc (Nat.le_refl _) _
  have hx0 : (w.alloc (.cells #[.int .i64 s, .int .i64 t] 52)).cell? ⟨w.heap.size, 0, none⟩ = some (.int .i64 s) := by rw [cell_of_row _ _ _ _ _ (0, 0) (heap_alloc_new _ _)]; rfl
  have hx1 : (w.alloc (.cells #[.int .i64 s, .int .i64 t] 52)).cell? ⟨w.heap.size, 1, none⟩ = some (.int .i64 t) := by rw [cell_of_row _ _ _ _ _ (0, 0) (heap_alloc_new _ _)]; rfl
  have hf := hide (gfew_any n Rs a0 c (by have := hO.1; have := hO.2.1; omega) hO.2.2.1 _ (hI.below hb0))
  have hm := hide (may_any n Rs a0 c ⟨by omega, by omega⟩ (by have := hO.1; have := hO.2.1; omega) hO.2.2.1 _ (hI.below hb0))
  rw [hfe] at hf
  rw [rws_may hR] at hm
  have h40 : Rs.length ≤ 40 := by
    unfold fewB at hfe
    exact (of_decide_eq_true hfe).2.1
  have hlen : Rs.length = R.length := by rw [hR.eq, List.length_map]
  obtain ⟨i, hi, him, hm1, hm2⟩ := mod_pick2 s Rs.length hne
  obtain ⟨k, hk, hkm, hm3, hm4⟩ := mod_pick2 t Rs.length hne
  have hRl : ∀ r ∈ R, r.length ≤ 160 := fun r hr => by
    rw [sorted_nums (hR.lt r hr) (hR.ord r hr)]
    have := numsR_len n (rowN r)
    omega
  obtain ⟨g, o, rfl⟩ : ∃ g o, a0 = some ⟨g, o, none⟩ := by
    obtain ⟨g, o, h, _⟩ := hI 0 hne
    exact ⟨g, o, h⟩
  -- the cells of the rows
  obtain ⟨C, hC⟩ : ∃ C : Nat → Value, ∀ j, j < Rs.length → ∃ b cc, C j = .slice b (R.getD j []).length cc ∧ w.cell? ⟨g, o + j, none⟩ = some (C j) ∧ Ints w b (zs (R.getD j [])) := by
    refine ⟨fun j => (w.cell? ⟨g, o + j, none⟩).getD undef, fun j hj => ?_⟩
    obtain ⟨g', o', e, b, cc, h1, h2⟩ := hI j hj
    simp only [Option.some.injEq, Addr.mk.injEq, and_true] at e
    obtain ⟨rfl, rfl⟩ := e
    have hrow : Rs[j] = zs (R.getD j []) := by
      have := hR.eq
      subst this
      simp [List.getD, show j < R.length by omega]
    rw [hrow, zs_length] at h1
    rw [hrow] at h2
    exact ⟨b, cc, by simp [h1], by simp [h1], h2⟩
  obtain ⟨bi, ci, ei, li, ii⟩ := hC i hi
  obtain ⟨bk, ck, ek, lk, ik⟩ := hC k hk
  have hri := hRl _ (getD_mem' (d := []) (show i < R.length by omega))
  have hrk := hRl _ (getD_mem' (d := []) (show k < R.length by omega))
  have hadd : Hid (∀ W, Below w.heap.size w W → Calls Tryd.prog 26 #[.int .i64 n, .slice bi (R.getD i []).length ci, .slice bk (R.getD k []).length ck] W fun e w' => ∃ v, e = .returned v ∧ w'.ownsRow W.heap.size 3 1 v (numsR n (rowN (R.getD i []) ^^^ rowN (R.getD k []))).length (ic (zs (numsR n (rowN (R.getD i []) ^^^ rowN (R.getD k []))))) ∧ Below W.heap.size W w') := fun W hW => radd_any n _ _ bi bk ci ck (by omega) (by omega) (by omega) W (ii.below hW) (ik.below hW)
  have hred1 : Hid (∀ W, Below w.heap.size w W → Calls Tryd.prog 11 #[.int .i64 n, .slice (some ⟨g, o, none⟩) Rs.length c] W fun e w' => ∃ v, e = .returned (.tuple #[v, .int .i64 0]) ∧ RowsO w' W.heap.size v ((redR n (kep (gL R) n)).map zs) ∧ Below W.heap.size W w') := fun W hW => reduce_yes n Rs R hR _ c W (hT.below hW) (hI.below hW)
  have hRt := hR.turn (i := i) (k := k) (by omega) (by omega) (by omega)
  have hred2 : Hid (∀ W (x0 : Option Addr) (xc : Nat), Below w.heap.size w W → RowsA W x0 ((turnR n R i k).map zs) → Calls Tryd.prog 11 #[.int .i64 n, .slice x0 (Rs.length + 2) xc] W fun e w' => ∃ v, e = .returned (.tuple #[v, .int .i64 0]) ∧ RowsO w' W.heap.size v ((redR n (kep (gL R) n)).map zs) ∧ Below W.heap.size W w') := fun W x0 xc hW hx => by
    have h := reduce_yes n _ _ hRt x0 xc W (hT.below hW) hx
    rw [turn_kep hR (by omega) (by omega) (by omega)] at h
    have e : ((turnR n R i k).map zs).length = Rs.length + 2 := by unfold turnR; simp; omega
    rwa [e] at h
  have hsl : Hid (((redR n (kep (gL R) n)).map zs).length ≤ 100000 ∧ ∀ r ∈ (redR n (kep (gL R) n)).map zs, r.length ≤ 100000) := by
    obtain ⟨_, _, h3, _, _, _, h7⟩ := kep_rd (n := n) (m := 0) (by omega) (gL_szd R) hR.bd
    refine ⟨by simp [redR]; omega, fun r hr => ?_⟩
    obtain ⟨x, hx, rfl⟩ := List.mem_map.1 hr
    obtain ⟨y, hy, rfl⟩ := List.mem_map.1 hx
    rw [zs_length]
    have := numsR_len n y.1
    omega
  have haw := hide (fun W (hb : Below w.heap.size w W) => gawake_any W (hT.below hb))
  have HROWS : Hid (∀ W v V, Below w.heap.size w W → W.ownsRow w.heap.size 32 1 v (Rs.length + 2) (((List.range Rs.length).map fun t => C (Rs.length - 1 - t)) ++ [C i, V]) → W.ownsRow w.heap.size 3 1 V (numsR n (rowN (R.getD i []) ^^^ rowN (R.getD k []))).length (ic (zs (numsR n (rowN (R.getD i []) ^^^ rowN (R.getD k []))))) → ∃ x0 xc, v = .slice x0 (Rs.length + 2) xc ∧ RowsA W x0 ((turnR n R i k).map zs)) := fun W v V hW hv hV => by
    rcases hv.2 with ⟨_, h0⟩ | ⟨gv, cv, cur, rfl, _⟩
    · omega
    · refine ⟨_, _, rfl, fun j hj => ⟨gv, 0, rfl, ?_⟩⟩
      have hj' : j < Rs.length + 2 := by simpa [turnR, ← hlen] using hj
      rw [Nat.zero_add, hv.cellAt j (by omega)]
      by_cases h1 : j < Rs.length
      · obtain ⟨b, cc, e1, e2, e3⟩ := hC (Rs.length - 1 - j) (by omega)
        have er : ((turnR n R i k).map zs)[j] = zs (R.getD (Rs.length - 1 - j) []) := by
          simp only [List.getElem_map]
          unfold turnR
          rw [List.getElem_append_left (by simp; omega), List.getElem_reverse]
          simp [List.getD, hlen, show R.length - 1 - j < R.length by omega]
        refine ⟨b, cc, ?_, by rw [er]; exact e3.below hW⟩
        rw [er, zs_length, List.getElem?_append_left (by simp; exact h1)]
        simp [h1, e1]
      · by_cases h2 : j = Rs.length
        · subst h2
          have er : ((turnR n R i k).map zs)[Rs.length] = zs (R.getD i []) := by
            simp only [List.getElem_map]
            unfold turnR
            rw [List.getElem_append_right (by simp; omega)]
            simp [hlen]
          refine ⟨bi, ci, ?_, by rw [er]; exact ii.below hW⟩
          rw [er, zs_length, List.getElem?_append_right (by simp)]
          simp [ei]
        · have h3 : j = Rs.length + 1 := by omega
          subst h3
          have er : ((turnR n R i k).map zs)[Rs.length + 1] = zs (numsR n (rowN (R.getD i []) ^^^ rowN (R.getD k []))) := by
            simp only [List.getElem_map]
            unfold turnR
            rw [List.getElem_append_right (by simp; omega)]
            simp [hlen]
          obtain ⟨x0, xc, rfl, hx⟩ := ints_own (r := zs (numsR n (rowN (R.getD i []) ^^^ rowN (R.getD k [])))) (by rw [zs_length]; exact hV)
          refine ⟨x0, xc, ?_, by rw [er]; exact hx⟩
          rw [er, List.getElem?_append_right (by simp)]
          simp
  have HC : Hid (∀ j, j < Rs.length → ∃ b cc, C j = .slice b (R.getD j []).length cc ∧ w.cell? ⟨g, o + j, none⟩ = some (C j)) := fun j hj => by
    obtain ⟨b, cc, e1, e2, _⟩ := hC j hj
    exact ⟨b, cc, e1, e2⟩
  have B0 := hide hb0
  have HEI := hide ei
  rw [ei] at li
  rw [ek] at lk
  generalize ((redR n (kep (gL R) n)).map zs) = KK at *
  generalize (turnR n R i k).map zs = TT at *
  generalize numsR n (rowN (R.getD i []) ^^^ rowN (R.getD k [])) = AA at *
  generalize (R.getD i []).length = li' at *
  generalize (R.getD k []).length = lk' at *
  obtain ⟨i0, hi0, hz0, hz1, hz2⟩ : ∃ i, Tryd.prog.info? 32 = some i ∧ i.zero = some (.slice none 0 0) ∧ i.size = 1 ∧ i.bytes = 24 := by
    have h := Tryd.infoR
    cases hh : Tryd.prog.info? 32 with
    | none => rw [hh] at h; cases h
    | some i =>
      rw [hh] at h
      simp only [Option.map_some, Option.some.injEq, Prod.mk.injEq] at h
      exact ⟨i, rfl, h.1, h.2.1, h.2.2⟩
  clear hI hO hfe hC hR hRt ei ek ii ik hT hRl hlen hb0
  generalize hML : Rs.length = m at *
  clear hML
  generalize hfm : s.tmod (m : Int) = fm at *
  generalize hft : t.tmod (m : Int) = ft at *
  have v1 : wrap64 (fm + m) = fm + m := by unfold wrap64; omega
  have v2 : wrap64 (ft + m) = ft + m := by unfold wrap64; omega
  have q0 : ¬ ((m : Int) = 0) := by omega
  have q0' : ((m : Int) == 0) = false := by simp; omega
  have q9 : ¬ (m = 0) := by omega
  go_enter Tryd.func6, Tryd.ntmps6
  go_wp2_with fail
  refine (unhide hf).mono ?_
  rintro e w1 ⟨rfl, rfl⟩
  go_wp2_with fail
  refine (unhide hm).mono ?_
  rintro e w1 ⟨rfl, rfl⟩
  go_wp2_with fail
  go_loopw [9, 10] (fun v u wr => ∃ kk jj : Nat, kk + jj = m ∧ u = .int .i64 ((jj : Int) - 1) ∧ wr.ownsRow w.heap.size 32 1 v kk ((List.range kk).map fun t => C (m - 1 - t)) ∧ Below w.heap.size w wr) (fun _ u _ => (intOf u + 1).toNat)
  case atStart => exact ⟨0, m, by omega, by go_num, World.ownsRow_nil _ _ _ _, unhide B0⟩
  case round =>
    clear hx0 hx1
    obtain ⟨kk, jj, hkj, rfl, hO, hW⟩ := hrel
    obtain ⟨ao, cap, rfl⟩ := own_shape' hO
    cases jj with
    | succ j =>
      have ej : ((j + 1 : Nat) : Int) - 1 = (j : Int) := by omega
      rw [ej]
      obtain ⟨b, cc, e1, e2⟩ := unhide HC j (by omega)
      have HS : Hid (((List.range (kk + 1)).map fun t => C (m - 1 - t)) = ((List.range kk).map fun t => C (m - 1 - t)) ++ [C j]) := by
        show _ = _
        rw [List.range_succ, List.map_append]
        simp
        congr 1
        omega
      rw [e1] at HS
      rw [e1] at e2
      have c0 := cell_below e2 hW
      have q1 : (j : Int) < m := by omega
      have q2 : (0 : Int) ≤ j := by omega
      have q3 : ¬ (j : Int) < 0 := by omega
      have HO := hide hO
      have HW := hide hW
      have hzw := hW.size
      generalize (R.getD j []).length = rl at *
      clear hO hW e1 e2 ej
      go_wp2_with (at_builtin; refine wpList_append_own _ rfl _ _ 22 rfl w.heap.size 32 i0 _ 1 24 Tryd.undR hi0 hz0 hz1 hz2 rfl (by decide) _ _ _ rfl ((unhide HO).alloc _) ⟨wr.heap.size, 0, none⟩ 1 1 [.slice b rl cc] rfl rfl (news_lit _ [_] _) ?d2 ?d3 ?d4 ?d5 ?_)
      case d2 => first | rfl | (intro u hu; simp at hu; subst hu; rfl)
      case d3 => unfold maxLen; omega
      case d4 => omega
      case d5 => first | omega | (simp; omega)
      intro v' w3 hown' hgrow _
      have hb' := hide ((((unhide HW).alloc (by omega) _)).grown hgrow (by simp; omega) (fun k hk => (((unhide HO).lt k hk).1)))
      have ho2 : Hid (w3.ownsRow w.heap.size 32 1 v' (kk + 1) ((List.range (kk + 1)).map fun t => C (m - 1 - t))) := by
        show World.ownsRow _ _ _ _ _ _ _
        rw [unhide HS]
        exact hown'
      obtain ⟨ao', cap', rfl⟩ := own_shape' hown'
      clear hown' hgrow HO HW
      go_wp2
      go_roundw
      case rel => exact ⟨kk + 1, j, by omega, by go_num, unhide ho2, unhide hb'⟩
      case measure => simp [intOf]
    | zero =>
      have ekm : kk = m := by omega
      subst ekm
      have q1 : ¬ (0 : Int) ≤ ((0 : Nat) : Int) - 1 := by omega
      have c1 := cell_below li hW
      have c2 := cell_below lk hW
      have r1 : (i : Int) < kk := by omega
      have r2 : (k : Int) < kk := by omega
      have HO := hide hO
      have HW := hide hW
      clear hO hW
      go_wp2_with fail
      have hob : ∀ q, (Value.slice ao kk cap).ownBlock = some q → w.heap.size ≤ q := fun q hq => ((unhide HO).lt q hq).1
      have hgl : g < w.heap.size := cell_lt li
      go_region_held3 (fun w' => w'.cell? ⟨g, o + i, none⟩ = some (.slice bi li' ci) ∧ w'.cell? ⟨g, o + k, none⟩ = some (.slice bk lk' ck)) (go_keep) (first
        | (go_at_call 26; refine (unhide hadd _ (below_drawn (unhide HW) 1)).mono ?_; rintro e w9 ⟨V, rfl, hV, b9⟩; have b9' : Below wr.heap.size wr w9 := (Below.refl wr.heap.size wr).drew.trans b9; have e1 := cell_below c1 b9'; have e2 := cell_below c2 b9'; obtain ⟨vb, vc, rfl⟩ := own_shape' hV)
        | (refine step_append_own rfl (.tmp 67) (.tmp 82) 22 rfl w.heap.size 32 i0 (.slice none 0 0) 1 24 Tryd.undR hi0 hz0 hz1 hz2 rfl (by decide) (.slice ao kk cap) kk _ (by rfl) ((own_below2 (unhide HO) b9').alloc _) ⟨w9.heap.size, 0, none⟩ 2 2 [.slice bi li' ci, .slice vb AA.length vc] (by rfl) (by rfl) (news_lit _ [_, _] _) (by intro u hu; simp at hu; rcases hu with rfl | rfl <;> rfl) (by unfold maxLen; omega) (by omega) (by have := b9'.size; have := (unhide HW).size; simp; omega) ?_; intro v' w3 hown' hgrow; obtain ⟨ao', cap', rfl⟩ := own_shape' hown'; have hx7 : w3.heap[g]? = w9.heap[g]? := (hgrow.block g (by have := b9'.size; have := (unhide HW).size; simp; omega) (fun h => absurd (hob g h.symm) (by omega))).trans (Below.heap_alloc _ _ _ (by have := b9'.size; have := (unhide HW).size; omega)); have f1 := (gcell_same (o := o + i) hx7).trans e1; have f2 := (gcell_same (o := o + k) hx7).trans e2))
      have HO9 := hide (own_below2 (unhide HO) b9')
      have HW9 := hide ((unhide HW).trans (b9'.mono (unhide HW).size))
      have hV9 : w9.ownsRow w.heap.size 3 1 (.slice vb AA.length vc) AA.length (ic (zs AA)) := own_mono hV (by have := (unhide HW).size; exact this)
      have HV9 := hide hV9
      have hz9 := (unhide HW9).size
      clear c1 c2 e1 e2 f1 f2 hx7 b9 hV hV9
      have hb3 := ((((unhide HW9).alloc (by omega) _)).grown hgrow (by simp; omega) (fun k hk => (((unhide HO9).lt k hk).1)))
      have hV3 : w3.ownsRow w.heap.size 3 1 (.slice vb AA.length vc) AA.length (ic (zs AA)) := (World.ownsRow.alloc (unhide HV9) _).kept hgrow (own_apart (unhide HV9) (unhide HO9) (by decide))
      rw [← unhide HEI] at hown'
      obtain ⟨x0, xc, hvv, hx⟩ := unhide HROWS w3 _ _ hb3 hown' hV3
      simp only [Value.slice.injEq, true_and] at hvv
      obtain ⟨rfl, rfl⟩ := hvv
      have HB3 := hide hb3
      have HX := hide hx
      clear hown' hgrow HO9 HW9 hb3 hV3 hx HROWS
      go_wp2_with fail
      refine (unhide hred1 _ (unhide HB3)).mono ?_
      rintro e w4 ⟨v4, rfl, hO4, b4⟩
      obtain ⟨y0, yc, rfl, hy⟩ := hO4.rows
      have HB4 := hide ((unhide HB3).trans (b4.mono (unhide HB3).size))
      have HX4 := hide ((unhide HX).below b4)
      have HY4 := hide hy
      clear hO4 b4 hy
      go_wp2_with fail
      refine (unhide hred2 _ ao' cap' (unhide HB4) (unhide HX4)).mono ?_
      rintro e w5 ⟨v5, rfl, hO5, b5⟩
      obtain ⟨z0, zc, rfl, hz⟩ := hO5.rows
      have HB5 := hide ((unhide HB4).trans (b5.mono (unhide HB4).size))
      have HY5 := hide ((unhide HY4).below b5)
      have HZ5 := hide hz
      clear hO5 b5 hz
      go_wp2_with fail
      refine (unhide haw _ (unhide HB5)).mono ?_
      rintro e w6 ⟨rfl, b6⟩
      have HB6 := hide ((unhide HB5).trans (b6.mono (unhide HB5).size))
      have hsm := hide (sameRows_any KK y0 z0 yc zc (unhide hsl).1 (unhide hsl).2 w6 ((unhide HY5).below b6) ((unhide HZ5).below b6))
      clear b6
      go_wp2_with fail
      refine (unhide hsm).mono ?_
      rintro e w7 ⟨rfl, b7⟩
      have HB7 := hide ((unhide HB6).trans (b7.mono (unhide HB6).size))
      clear b7
      go_wp2
      go_ret
      exact ⟨rfl, unhide HB7⟩
theorem gaussOrder_law (n : Int) (a0 : Option Addr) (Rs : List (List Int)) (c : Nat) (s t : Int) (w : World) (hn : (Lit.int .i64 n).wf = true) (hI : RowsA w a0 Rs) (hO : RowsOk Rs a0 c) (hs : (Lit.int .i64 s).wf = true) (ht : (Lit.int .i64 t).wf = true) (hT : Tz w) :
    Calls Tryd.prog 6 #[.int .i64 n, .slice a0 Rs.length c, .agg #[.int .i64 s, .int .i64 t]] w fun e w' => e = .returned (.bool true) ∧ Below w.heap.size w w' := by
  by_cases h : fewB n Rs = true ∧ mayB n Rs = true ∧ 0 < Rs.length
  · obtain ⟨k, R, rfl, hR⟩ := may_rws h.2.1
    exact gaussOrder_on k Rs R hR a0 c s t w hT hI hO h.1 h.2.2
  · refine gaussOrder_off n Rs a0 c s t w hT (wf64 hn) hI hO ?_
    cases h1 : fewB n Rs with
    | false => exact .inl rfl
    | true =>
      refine .inr ?_
      cases h2 : mayB n Rs with
      | false => exact .inl rfl
      | true =>
        refine .inr (List.eq_nil_of_length_eq_zero ?_)
        have : ¬ 0 < Rs.length := fun h3 => h ⟨h1, h2, h3⟩
        omega
end Go.Proofs.YtpcndjnhpjhjkaaDoor

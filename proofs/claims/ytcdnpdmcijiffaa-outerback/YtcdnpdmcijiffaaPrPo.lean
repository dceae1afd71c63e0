/- Contract of prng's Pick. -/
import Derived.Test.YtcdnpdmcijiffaaPrD
namespace Go.Proofs.Ytcdnpdmcijiffaa
open Go.RowKit
set_option linter.unusedVariables false

/-- numbers as cells -/
def ic (l : List Nat) : List Value := l.map fun (z : Nat) => Value.int .i64 (z : Int)
theorem ic_length (l : List Nat) : (ic l).length = l.length := by simp [ic]
theorem ic_get (l : List Nat) (j : Nat) (h : j < l.length) : (ic l)[j]? = some (Value.int .i64 (l[j])) := by simp [ic, h]
theorem ic_getD (l : List Nat) (j : Nat) (h : j < l.length) : (ic l)[j]? = some (Value.int .i64 (l.getD j 0)) := by rw [ic_get l j h]; simp [List.getD, h]
theorem ic_set (l : List Nat) (j x : Nat) : (ic l).set j (Value.int .i64 x) = ic (l.set j x) := by simp [ic, List.map_set]
theorem ic_append (l m : List Nat) : ic (l ++ m) = ic l ++ ic m := by simp [ic]
theorem made_ints (n : Nat) : (madeCells #[Value.int .i64 0] n).toList = ic (List.replicate n 0) := by
  rw [toList_madeCells_one]
  simp [ic]

def fillL (n k : Nat) : List Nat := (List.range n).map fun j => if j < k then j else 0
theorem fillL_length (n k : Nat) : (fillL n k).length = n := by simp [fillL]
theorem fillL_zero (n : Nat) : fillL n 0 = List.replicate n 0 := by
  apply List.ext_getElem
  · simp [fillL]
  · intro i h1 h2
    simp [fillL]
theorem fillL_full (n : Nat) : fillL n n = List.range n := by
  apply List.ext_getElem
  · simp [fillL]
  · intro i h1 h2
    simp [fillL] at h1
    simp [fillL, h1]
theorem fillL_step (n k : Nat) (h : k < n) : (fillL n k).set k k = fillL n (k + 1) := by
  apply List.ext_getElem
  · simp [fillL]
  · intro i h1 h2
    simp [fillL] at h1 h2
    rw [List.getElem_set]
    by_cases e : k = i
    · subst e; simp [fillL]
    · rw [if_neg e]
      simp only [fillL, List.getElem_map, List.getElem_range]
      by_cases c : i < k
      · rw [if_pos c, if_pos (by omega)]
      · rw [if_neg c, if_neg (by omega)]

/-- two places of a list changed about -/
def swapL (l : List Nat) (i j : Nat) : List Nat := (l.set i (l.getD j 0)).set j (l.getD i 0)
theorem swapL_length (l : List Nat) (i j : Nat) : (swapL l i j).length = l.length := by simp [swapL]
/-- the place that is drawn in round i -/
def pkJ (seed : List UInt8) (n u i : Nat) : Nat := i + (chV (wdF seed u) ((n : Int) - i) 8).toNat
/-- behind i rounds of picking: the words that were drawn, and the list -/
def pkS (seed : List UInt8) (n u0 : Nat) : Nat → Nat × List Nat
  | 0 => (u0, List.range n)
  | i + 1 => ((pkS seed n u0 i).1 + chUse (wdF seed (pkS seed n u0 i).1) (fairOf ((n : Int) - i)) 8 0, swapL (pkS seed n u0 i).2 i (pkJ seed n (pkS seed n u0 i).1 i))
theorem pkS_length (seed : List UInt8) (n u0 i : Nat) : (pkS seed n u0 i).2.length = n := by
  induction i with
  | zero => simp [pkS]
  | succ i ih => simp only [pkS, swapL_length, ih]
theorem pkS_used (seed : List UInt8) (n u0 i : Nat) : (pkS seed n u0 i).1 ≤ u0 + 8 * i := by
  induction i with
  | zero => simp [pkS]
  | succ i ih =>
    have := chUse_le (wdF seed (pkS seed n u0 i).1) (fairOf ((n : Int) - i)) 8 0
    simp only [pkS]
    omega
theorem chV_bounds (Z : Nat → Int) (n : Int) (t : Nat) (h : 1 ≤ n) : 0 ≤ chV Z n t ∧ chV Z n t < n := ⟨Int.emod_nonneg _ (by omega), Int.emod_lt_of_pos _ (by omega)⟩
theorem pkJ_lt (seed : List UInt8) (n u i : Nat) (h : i < n) : i ≤ pkJ seed n u i ∧ pkJ seed n u i < n := by
  have := chV_bounds (wdF seed u) ((n : Int) - i) 8 (by omega)
  unfold pkJ
  omega

theorem own_kept {w w' : World} {base n b : Nat} {e : TypeId} {v : Value} {xs : List Value} (h : w.ownsRow base e 1 v n xs) (hk : Kept w.heap.size b w w') (hb : b < base) : w'.ownsRow base e 1 v n xs := by
  refine ⟨h.1, ?_⟩
  rcases h.2 with h2 | ⟨g, cap, cur, hv, hg, hh, r⟩
  · exact .inl h2
  · exact .inr ⟨g, cap, cur, hv, hg, (hk.block g (lt_of_block hh) (by omega)).trans hh, r⟩

theorem pick_nil (w : World) (n k : Int) : Calls Try.prog 35 #[.pointer none, .int .i64 n, .int .i64 k] w fun e w' => e = .returned (.slice none 0 0) ∧ w = w' := by
  go_enter Try.func35, Try.ntmps35
  go_wp2
  go_ret
  exact ⟨rfl, rfl⟩
theorem pick_bad (w : World) (b : Nat) (n k : Int) (h : n < 0 ∨ 4096 < n ∨ k < 0 ∨ n < k) : Calls Try.prog 35 #[.pointer (some ⟨b, 0, none⟩), .int .i64 n, .int .i64 k] w fun e w' => e = .returned (.slice none 0 0) ∧ w = w' := by
  by_cases h1 : n < 0
  · go_enter Try.func35, Try.ntmps35
    go_wp2
    go_ret
    exact ⟨rfl, rfl⟩
  · by_cases h2 : 4096 < n
    · go_enter Try.func35, Try.ntmps35
      go_wp2
      go_ret
      exact ⟨rfl, rfl⟩
    · by_cases h3 : k < 0
      · go_enter Try.func35, Try.ntmps35
        go_wp2
        go_ret
        exact ⟨rfl, rfl⟩
      · have h4 : n < k := by omega
        clear h
        go_enter Try.func35, Try.ntmps35
        go_wp2
        go_ret
        exact ⟨rfl, rfl⟩

theorem Try.infoI : (Try.prog.info? 3).map (fun i => (i.zero, i.size, i.bytes)) = some (some (.int .i64 0), 1, 8) := by kernel_rfl
theorem Try.undI : Try.prog.underlying 30 = some (.slice 3) := by kernel_rfl

set_option maxRecDepth 100000 in
set_option maxHeartbeats 2000000 in
theorem pick_any (w : World) (b u n k : Nat) (s : ByteArray) (hs : s.size ≤ 64) (hu : u ≤ 900000000) (hn : n ≤ 4096) (hk : k ≤ n) (hG : GenAt w b s u) :
    Calls Try.prog 35 #[.pointer (some ⟨b, 0, none⟩), .int .i64 n, .int .i64 k] w fun e w' => ∃ g, e = .returned (.slice (some ⟨g, 0, none⟩) k k) ∧ w.heap.size ≤ g ∧
      (∀ i, i < n → w'.cell? ⟨g, i, none⟩ = some (.int .i64 ((pkS s.data.toList n u k).2.getD i 0))) ∧ GenAt w' b s (pkS s.data.toList n u k).1 ∧ Kept w.heap.size b w w' ∧ (∀ i, w'.frozen? ⟨g, i, none⟩ = false) ∧ g < w'.heap.size := by
  obtain ⟨i0, hi, hz0, hz1, hz2⟩ := info_parts Try.infoI
  have hb := lt_of_block hG
  have i1 : ¬ (n : Int) < 0 := by omega
  have i2 : ¬ (4096 : Int) < n := by omega
  have i3 : ¬ (k : Int) < 0 := by omega
  have i4 : ¬ (n : Int) < k := by omega
  have HG := hide hG
  clear hG
  go_enter Try.func35, Try.ntmps35
  go_wp2_with (at_make; refine wpList_make_full _ rfl _ _ 30 rfl w.heap.size 3 i0 (.int .i64 0) 1 Try.undI hi hz0 hz1 .i64 .i64 _ _ n rfl rfl rfl rfl ?c2 ?c3 (Nat.le_refl _) ?_)
  case c2 => omega
  case c3 => unfold maxLen; omega
  intro w1 hown hgrow
  have hb1 : Below w.heap.size w w1 := (Below.refl _ _).grown hgrow (Nat.le_refl _) (by intro k hk; cases hk)
  rw [made_ints, ← fillL_zero] at hown
  have HB1 := hide hb1
  have HO := hide hown
  clear hgrow hown hb1
  go_wp2_with fail
  go_loopw [33] (fun v wr => ∃ j : Nat, j ≤ n ∧ v = .int .i64 j ∧ wr.ownsRow w.heap.size 3 1 (.slice (some ⟨w.heap.size, 0, none⟩) n n) n (ic (fillL n j)) ∧ Below w.heap.size w wr) (fun v _ => n - (intOf v).toNat)
  case atStart => exact ⟨0, Nat.zero_le _, rfl, unhide HO, unhide HB1⟩
  case round =>
    clear HO HB1
    obtain ⟨j, hj, rfl, hown, hbl⟩ := hrel
    by_cases hlt : j < n
    · have hfz := hown.frozenAt j
      obtain ⟨x, hce⟩ : ∃ x, wr.cell? ⟨w.heap.size, j, none⟩ = some x := ⟨_, (hown.cellAt j (by omega)).trans (ic_get _ _ (by rw [fillL_length]; exact hlt))⟩
      have hst := (hown.stored j (.int .i64 j)).1
      rw [ic_set, fillL_step n j hlt] at hst
      have HST := hide hst
      have HB2 := hide (hbl.setCell (p := ⟨w.heap.size, j, none⟩) (Nat.le_refl _) (.int .i64 j))
      have hlt' : (j : Int) < n := by omega
      clear hown hbl hst
      go_wp2
      go_roundw
      case rel => exact ⟨j + 1, by omega, by go_num, unhide HST, unhide HB2⟩
      case measure => simp [intOf]; omega
    · have hjn : j = n := by omega
      subst hjn
      rw [fillL_full] at hown
      have hGr : GenAt wr b s u := (hbl.block b hb).trans (unhide HG)
      have HGr := hide hGr
      have HO := hide hown
      have HKr := hide (Kept.of_below (b := b) hbl)
      have hlt' : ¬ (j : Int) < j := by omega
      clear HG hown hbl hGr
      go_wp2_with fail
      generalize wr = wo at *
      go_loopw [42] (fun v wr => ∃ i : Nat, i ≤ k ∧ v = .int .i64 i ∧ wr.ownsRow w.heap.size 3 1 (.slice (some ⟨w.heap.size, 0, none⟩) j j) j (ic (pkS s.data.toList j u i).2) ∧ GenAt wr b s (pkS s.data.toList j u i).1 ∧ Kept w.heap.size b w wr) (fun v _ => k - (intOf v).toNat)
      case atStart => exact ⟨0, Nat.zero_le _, rfl, unhide HO, unhide HGr, unhide HKr⟩
      case round =>
        clear HO HGr HKr
        obtain ⟨i, hik, rfl, hown, hGr, hKr⟩ := hrel
        by_cases hlt : i < k
        · have hus := pkS_used s.data.toList j u i
          have hbw := hide (below_any wr b (pkS s.data.toList j u i).1 s ((j : Int) - i) hs (by omega) (by omega) (by omega) hGr)
          have hv := chV_bounds (wdF s.data.toList (pkS s.data.toList j u i).1) ((j : Int) - i) 8 (by omega)
          have hpl := pkS_length s.data.toList j u i
          obtain ⟨d, hd⟩ := Int.eq_ofNat_of_zero_le hv.1
          have hst : Hid (pkS s.data.toList j u (i + 1) = ((pkS s.data.toList j u i).1 + chUse (wdF s.data.toList (pkS s.data.toList j u i).1) (fairOf ((j : Int) - i)) 8 0, ((pkS s.data.toList j u i).2.set i ((pkS s.data.toList j u i).2.getD (i + d) 0)).set (i + d) ((pkS s.data.toList j u i).2.getD i 0))) := by
            show _ = _
            rw [pkS]
            unfold pkJ swapL
            rw [hd, Int.toNat_natCast]
          rw [hd] at hbw hv
          generalize chUse (wdF s.data.toList (pkS s.data.toList j u i).1) (fairOf ((j : Int) - i)) 8 0 = m at *
          generalize (pkS s.data.toList j u i).1 = G at *
          generalize (pkS s.data.toList j u i).2 = L at *
          have HO := hide hown
          have HKr := hide hKr
          have hdj : i + d < j := by omega
          clear hown hGr hKr hd
          go_wp2_with fail
          refine (unhide hbw).mono ?_
          rintro e w2 ⟨rfl, hG2, hK2⟩
          have hown2 := own_kept (unhide HO) hK2 hb
          have HK2 := hide ((unhide HKr).trans (hK2.mono (unhide HKr).size))
          have HG2 := hide hG2
          have ci := (hown2.cellAt i (by omega)).trans (ic_getD L i (by omega))
          have cj := (hown2.cellAt (i + d) (by omega)).trans (ic_getD L (i + d) (by omega))
          have fi := hown2.frozenAt i
          have fj := hown2.frozenAt (i + d)
          have hs1 := (hown2.stored i (.int .i64 (L.getD (i + d) 0 : Nat))).1
          rw [ic_set] at hs1
          have fj1 := hs1.frozenAt (i + d)
          obtain ⟨y, cj1⟩ : ∃ y, (w2.setCell ⟨w.heap.size, i, none⟩ (.int .i64 (L.getD (i + d) 0 : Nat))).cell? ⟨w.heap.size, i + d, none⟩ = some y := ⟨_, (hs1.cellAt (i + d) (by omega)).trans (ic_getD _ _ (by rw [List.length_set]; omega))⟩
          have hs2 := (hs1.stored (i + d) (.int .i64 (L.getD i 0 : Nat))).1
          rw [ic_set] at hs2
          have HS2 := hide hs2
          have q1 : (i : Int) < j := by omega
          have q2 : (i : Int) + d < j := by omega
          clear hown2 hG2 hK2 hs1 hs2 HO HKr hbw
          generalize L.getD (i + d) 0 = x1 at *
          generalize L.getD i 0 = x2 at *
          have HG3 : Hid (GenAt ((w2.setCell ⟨w.heap.size, i, none⟩ (.int .i64 x1)).setCell ⟨w.heap.size, i + d, none⟩ (.int .i64 x2)) b s ((G + m : Nat) : Int)) := by
            show _ = _
            rw [Below.heap_setCell _ _ _ _ (show b ≠ w.heap.size by omega), Below.heap_setCell _ _ _ _ (show b ≠ w.heap.size by omega)]
            exact unhide HG2
          have HK3 : Hid (Kept w.heap.size b w ((w2.setCell ⟨w.heap.size, i, none⟩ (.int .i64 x1)).setCell ⟨w.heap.size, i + d, none⟩ (.int .i64 x2))) := by
            have h1 := unhide HK2
            refine ⟨h1.os, h1.tape, h1.output, by simpa using h1.size, fun q hq hn => ?_⟩
            rw [Below.heap_setCell _ _ _ _ (show q ≠ w.heap.size by omega), Below.heap_setCell _ _ _ _ (show q ≠ w.heap.size by omega)]
            exact h1.block q hq hn
          clear HG2 HK2
          go_wp2
          go_region
          go_wp2
          go_roundw
          case rel => exact ⟨i + 1, by omega, by go_num, by rw [unhide hst]; exact unhide HS2, by rw [unhide hst]; exact unhide HG3, ⟨(unhide HK3).os, (unhide HK3).tape, (unhide HK3).output, (unhide HK3).size, (unhide HK3).block⟩⟩
          case measure => simp [intOf]; omega
        · have hik2 : i = k := by omega
          subst hik2
          have hpl := pkS_length s.data.toList j u i
          have HC : Hid (∀ q, q < j → wr.cell? ⟨w.heap.size, q, none⟩ = some (.int .i64 ((pkS s.data.toList j u i).2.getD q 0))) := fun q hq => (hown.cellAt q (by omega)).trans (ic_getD _ _ (by omega))
          have HFZ : Hid (∀ q, wr.frozen? ⟨w.heap.size, q, none⟩ = false) := fun q => hown.frozenAt q
          have HLT : Hid (w.heap.size < wr.heap.size) := (hown.lt w.heap.size rfl).2
          have HG2 := hide hGr
          have HK2 := hide hKr
          have q1 : (i : Int) ≤ j := by omega
          clear hown hGr hKr
          go_wp2
          go_ret
          exact ⟨w.heap.size, rfl, Nat.le_refl _, unhide HC, unhide HG2, unhide HK2, unhide HFZ, unhide HLT⟩

end Go.Proofs.Ytcdnpdmcijiffaa

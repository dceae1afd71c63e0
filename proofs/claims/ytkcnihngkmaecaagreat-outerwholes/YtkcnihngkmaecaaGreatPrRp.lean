/- Contract of the document's own Pick. -/
import Derived.Test.YtkcnihngkmaecaaGreatPrRb
import Derived.Test.YtkcnihngkmaecaaGreatPrZ
import Derived.Deep.RegionHeld3
namespace Go.Proofs.YtkcnihngkmaecaaGreat
open Go.RowKit
set_option linter.unusedVariables false

theorem kept_cell {w w' : World} {b : Nat} {p : Addr} {v : Value} (h : w.cell? p = some v) (hk : Kept w.heap.size b w w') (hne : p.block ≠ b) : w'.cell? p = some v := by
  have hlt : p.block < w.heap.size := by
    rcases Nat.lt_or_ge p.block w.heap.size with h' | h'
    · exact h'
    · simp [World.cell?, Array.getElem?_eq_none h'] at h
  have hb := hk.block p.block hlt hne
  unfold World.cell? at h ⊢
  rw [hb]
  exact h


theorem rpick_bad (s : ByteArray) (u n k : Int) (w : World) (h : n < 0 ∨ 4096 < n ∨ k < 0 ∨ n < k) :
    Calls Tryz.prog 31 #[gV s u, .int .i64 n, .int .i64 k] w fun e w' => e = .returned (.agg #[.string s, .int .i64 u, .slice none 0 0]) ∧ Below w.heap.size w w' := by
  unfold gV
  by_cases h1 : n < 0
  · clear h
    go_enter Tryz.func31, Tryz.ntmps31
    go_wp2
    exact ret_cell rfl (w.heap.size + 1) 58 #[.string s, .int .i64 u, .slice none 0 0] (0, 0) _ rfl (heap2_b _ _ _) rfl Tryz.underlying58 (by kernel_rfl) ⟨rfl, below2 _ _ _⟩
  · by_cases h2 : 4096 < n
    · clear h
      go_enter Tryz.func31, Tryz.ntmps31
      go_wp2
      exact ret_cell rfl (w.heap.size + 1) 58 #[.string s, .int .i64 u, .slice none 0 0] (0, 0) _ rfl (heap2_b _ _ _) rfl Tryz.underlying58 (by kernel_rfl) ⟨rfl, below2 _ _ _⟩
    · by_cases h3 : k < 0
      · clear h
        go_enter Tryz.func31, Tryz.ntmps31
        go_wp2
        exact ret_cell rfl (w.heap.size + 1) 58 #[.string s, .int .i64 u, .slice none 0 0] (0, 0) _ rfl (heap2_b _ _ _) rfl Tryz.underlying58 (by kernel_rfl) ⟨rfl, below2 _ _ _⟩
      · have h4 : n < k := by omega
        clear h
        go_enter Tryz.func31, Tryz.ntmps31
        go_wp2
        exact ret_cell rfl (w.heap.size + 1) 58 #[.string s, .int .i64 u, .slice none 0 0] (0, 0) _ rfl (heap2_b _ _ _) rfl Tryz.underlying58 (by kernel_rfl) ⟨rfl, below2 _ _ _⟩

/-- the first i of a list -/
def oL (A : Nat → Nat) (i : Nat) : List Nat := (List.range i).map A
theorem oL_length (A : Nat → Nat) (i : Nat) : (oL A i).length = i := by simp [oL]
theorem oL_succ (A : Nat → Nat) (i : Nat) : oL A (i + 1) = oL A i ++ [A i] := by simp [oL, List.range_succ]
theorem oL_get (A : Nat → Nat) (n i : Nat) (h : i < n) : (oL A n).getD i 0 = A i := by simp [oL, List.getD, h]
theorem range_oL (n : Nat) : oL (fun a => a) n = List.range n := by simp [oL]

theorem own_same {w w' : World} {base n : Nat} {e : TypeId} {v : Value} {xs : List Value} (h : w.ownsRow base e 1 v n xs) (hb : ∀ q, v.ownBlock = some q → w'.heap[q]? = w.heap[q]?) : w'.ownsRow base e 1 v n xs := by
  refine ⟨h.1, ?_⟩
  rcases h.2 with h2 | ⟨g, cap, cur, hv, hg, hh, r⟩
  · exact .inl h2
  · exact .inr ⟨g, cap, cur, hv, hg, (hb g (by rw [hv]; rfl)).trans hh, r⟩
theorem ic_one (x : Nat) : ic [x] = [Value.int .i64 x] := rfl

set_option maxRecDepth 100000 in
set_option maxHeartbeats 4000000 in
theorem rpick_any (s : ByteArray) (u n k : Nat) (w : World) (hs : s.size ≤ 64) (hu : u ≤ 900000000) (hn : n ≤ 4096) (hk : k ≤ n) :
    Calls Tryz.prog 31 #[gV s u, .int .i64 n, .int .i64 k] w fun e w' => ∃ a0 cap, e = .returned (.agg #[.string s, .int .i64 (pkS s.data.toList n u k).1, .slice a0 k cap]) ∧
      (∀ i, i < k → ∃ g, a0 = some ⟨g, 0, none⟩ ∧ w'.cell? ⟨g, i, none⟩ = some (.int .i64 ((pkS s.data.toList n u n).2.getD i 0))) ∧ Below w.heap.size w w' := by
  obtain ⟨i0, hi0, hz0, hz1, hz2⟩ := info_parts Tryz.infoI
  have i1 : ¬ (n : Int) < 0 := by omega
  have i2 : ¬ (4096 : Int) < n := by omega
  have i3 : ¬ (k : Int) < 0 := by omega
  have i4 : ¬ (n : Int) < k := by omega
  unfold gV
  go_enter Tryz.func31, Tryz.ntmps31
  go_wp2_with fail
  generalize hW : World.alloc _ _ = W
  have r0 : W.heap[w.heap.size]? = some (.cells #[.string s, .int .i64 u] 56 (0, 0)) := by rw [← hW]; exact heap2_a _ _ _
  have r1 : W.heap[w.heap.size + 1]? = some (.cells #[.string ⟨#[]⟩, .int .i64 0, .slice none 0 0] 58 (0, 0)) := by rw [← hW]; exact heap2_b _ _ _
  have R0 := hide r0
  have R1 := hide r1
  have B0 := hide (show Below w.heap.size w W by rw [← hW]; exact below2 _ _ _)
  clear hW r0 r1
  go_loopw [7, 8] (fun l i wr => ∃ j : Nat, j ≤ n ∧ i = .int .i64 j ∧ wr.ownsRow W.heap.size 3 1 l j (ic (List.range j)) ∧ Below W.heap.size W wr) (fun _ i _ => n - (intOf i).toNat)
  case atStart => exact ⟨0, Nat.zero_le _, rfl, World.ownsRow_nil _ _ _ _, Below.refl _ _⟩
  case round =>
    obtain ⟨j, hj, rfl, hown, hb⟩ := hrel
    obtain ⟨ao, cp, rfl⟩ := own_shape' hown
    have hz := hb.size
    by_cases hlt : j < n
    · have q1 : (j : Int) < n := by omega
      have hrs := hide (List.range_succ (n := j))
      go_wp2_with (at_builtin; refine wpList_append_own _ rfl _ _ 26 rfl W.heap.size 3 i0 (.int .i64 0) 1 8 Tryz.undI hi0 hz0 hz1 hz2 rfl (by decide) _ _ _ rfl (hown.alloc _) ⟨wr.heap.size, 0, none⟩ 1 1 [.int .i64 j] rfl rfl ?c1 ?c2 ?c3 ?c4 ?c5 ?_)
      case c1 => exact cell_one_new _ _ _
      case c2 => intro u hu; simp at hu; subst hu; rfl
      case c3 => unfold maxLen; omega
      case c4 => omega
      case c5 => simp; omega
      intro v' w6 hown' hgrow _
      have HB6 := hide ((hb.alloc (by omega) _).grown hgrow (by simp; omega) (fun k hk => ((hown.lt k hk).1)))
      have HO6 : Hid (w6.ownsRow W.heap.size 3 1 v' (j + 1) (ic (List.range (j + 1)))) := by
        show World.ownsRow _ _ _ _ _ _ _
        rw [unhide hrs, ic_append]
        exact hown'
      obtain ⟨ao', cp', rfl⟩ := own_shape' hown'
      clear hown' hgrow hown hb
      go_wp2
      go_roundw
      case rel => exact ⟨j + 1, by omega, by go_num, unhide HO6, unhide HB6⟩
      case measure => simp [intOf]; omega
    · have hjn : j = n := by omega
      subst hjn
      have r0 : wr.heap[w.heap.size]? = some (.cells #[.string s, .int .i64 u] 56 (0, 0)) := (hb.block _ (lt_of_block (unhide R0))).trans (unhide R0)
      have c0 := cell0_of_two r0
      have c1 := cell1_of_two r0
      have HO := hide hown
      have R1' := hide ((hb.block _ (lt_of_block (unhide R1))).trans (unhide R1))
      have HB := hide ((unhide B0).trans (hb.mono (unhide B0).size))
      have hWs : w.heap.size + 1 < W.heap.size := lt_of_block (unhide R1)
      have hrl : Hid (∀ g, ao = some ⟨g, 0, none⟩ → W.heap.size ≤ g ∧ g < wr.heap.size) := fun g hg => hown.lt g (by rw [hg]; rfl)
      have q1 : ¬ (j : Int) < j := by omega
      have hsw : w.heap.size + 1 < wr.heap.size := lt_of_block (unhide R1')
      clear hown hb r0 R0 R1 B0
      have hAf := hide (fun a (ha : a < j) => pkS_fix s.data.toList j u (a + 1) a (by omega) j (by omega) (Nat.le_refl _))
      obtain ⟨A, hA⟩ : ∃ A : Nat → Nat, A = fun a => (pkS s.data.toList j u j).2.getD a 0 := ⟨_, rfl⟩
      have hA1 : ∀ a, (pkS s.data.toList j u j).2.getD a 0 = A a := fun a => by rw [hA]
      simp only [hA1] at hAf
      have HA1 := hide hA1
      clear hA hA1
      go_wp2_with fail
      generalize wr = wo at *
      go_loopw [10] (fun v wr => ∃ i : Nat, i ≤ k ∧ v = .int .i64 i ∧ wr.ownsRow W.heap.size 3 1 (.slice ao j cp) j (ic (pkS s.data.toList j u i).2) ∧
        (∃ oa oc, wr.heap[wo.heap.size]? = some (.cells #[.string s, .int .i64 (pkS s.data.toList j u i).1, .slice oa i oc] 58 (0, 0)) ∧ wr.ownsRow (wo.heap.size + 1) 3 1 (.slice oa i oc) i (ic (oL A i))) ∧
        wr.heap[w.heap.size + 1]? = some (.cells #[.string ⟨#[]⟩, .int .i64 0, .slice none 0 0] 58 (0, 0)) ∧ Below w.heap.size w wr ∧ wo.heap.size + 1 ≤ wr.heap.size) (fun v _ => k - (intOf v).toNat)
      case atStart =>
        refine ⟨0, Nat.zero_le _, rfl, (unhide HO).alloc _, ⟨none, 0, heap_alloc_new _ _, World.ownsRow_nil _ _ _ _⟩, (Below.heap_alloc _ _ _ hsw).trans (unhide R1'), (unhide HB).alloc (unhide HB).size _, by simp⟩
      case round =>
        clear HO R1' HB c0 c1
        obtain ⟨i, hik, rfl, hown, ⟨oa, oc, h9, hout⟩, hres, hB, hsz⟩ := hrel
        by_cases hlt : i < k
        · have hij : i < j := by omega
          obtain ⟨g1, rfl, hg1⟩ : ∃ g1, ao = some ⟨g1, 0, none⟩ ∧ (W.heap.size ≤ g1 ∧ g1 < wo.heap.size) := by
            rcases hown.2 with ⟨h', h0⟩ | ⟨g, cap, cur, h', _⟩
            · omega
            · simp only [Value.slice.injEq] at h'
              exact ⟨g, h'.1, unhide hrl g h'.1⟩
          have hWg : w.heap.size + 1 < g1 := by omega
          have HWg := hide hWg
          have hus := pkS_used s.data.toList j u i
          have hbw := hide (rbelow_any s (pkS s.data.toList j u i).1 ((j : Int) - i) wr hs (by omega) (by omega) (by omega))
          have hv := chV_bounds (wdF s.data.toList (pkS s.data.toList j u i).1) ((j : Int) - i) 8 (by omega)
          have hpl := pkS_length s.data.toList j u i
          obtain ⟨d, hd⟩ := Int.eq_ofNat_of_zero_le hv.1
          have hst : Hid (pkS s.data.toList j u (i + 1) = ((pkS s.data.toList j u i).1 + chUse (wdF s.data.toList (pkS s.data.toList j u i).1) (fairOf ((j : Int) - i)) 8 0, ((pkS s.data.toList j u i).2.set i ((pkS s.data.toList j u i).2.getD (i + d) 0)).set (i + d) ((pkS s.data.toList j u i).2.getD i 0))) := by
            show _ = _
            rw [pkS]
            unfold pkJ swapL
            rw [hd, Int.toNat_natCast]
          have hAi := hide (unhide hAf i hij)
          rw [unhide hst] at hAi
          rw [hd] at hbw hv
          have hml := chUse_le (wdF s.data.toList (pkS s.data.toList j u i).1) (fairOf ((j : Int) - i)) 8 0
          generalize chUse (wdF s.data.toList (pkS s.data.toList j u i).1) (fairOf ((j : Int) - i)) 8 0 = m at *
          generalize (pkS s.data.toList j u i).1 = G at *
          generalize (pkS s.data.toList j u i).2 = L at *
          have hdj : i + d < j := by omega
          have e0 := cell_of_row wr wo.heap.size 0 _ _ _ h9
          have e1 := cell_of_row wr wo.heap.size 1 _ _ _ h9
          have HO := hide hown
          have H9 := hide h9
          have HT := hide hout
          have HR := hide hres
          have HB := hide hB
          clear hown h9 hout hres hB hd
          go_wp2_with fail
          refine (unhide hbw).mono ?_
          rintro e w5 ⟨rfl, b5⟩
          have h95 : w5.heap[wo.heap.size]? = some (.cells #[.string s, .int .i64 G, .slice oa i oc] 58 (0, 0)) := (b5.block _ (lt_of_block (unhide H9))).trans (unhide H9)
          have hown5 := own_below (unhide HO) b5
          have hout5 := own_below (unhide HT) b5
          have HB5 := hide ((unhide HB).trans (b5.mono (unhide HB).size))
          have HR5 := hide ((b5.block _ (lt_of_block (unhide HR))).trans (unhide HR))
          have hz5 : wo.heap.size + 1 ≤ w5.heap.size := Nat.le_trans hsz b5.size
          have p0 := cell_of_row w5 wo.heap.size 0 _ _ _ h95
          have p1 := cell_of_row w5 wo.heap.size 1 _ _ _ h95
          have p2 := cell_of_row w5 wo.heap.size 2 _ _ _ h95
          have z0 := frozen_of_row w5 wo.heap.size 0 _ _ h95
          have z1 := frozen_of_row w5 wo.heap.size 1 _ _ h95
          have z2 := frozen_of_row w5 wo.heap.size 2 _ _ h95
          have ci := (hown5.cellAt i (by omega)).trans (ic_getD L i (by omega))
          have cj := (hown5.cellAt (i + d) (by omega)).trans (ic_getD L (i + d) (by omega))
          have fi := hown5.frozenAt i
          have fj := hown5.frozenAt (i + d)
          have q2 : (i : Int) < j := by omega
          have q3 : (i : Int) + d < j := by omega
          have q4 : (i : Int) < k := by omega
          have hne : g1 ≠ wo.heap.size := by omega
          have hne5 : g1 ≠ w5.heap.size := by omega
          have hl5 : g1 < w5.heap.size := by omega
          have hl95 : wo.heap.size < w5.heap.size := by omega
          have hne9 : wo.heap.size ≠ g1 := by omega
          have hob : (Value.slice (some ⟨g1, 0, none⟩) j cp).ownBlock ≠ some wo.heap.size := by simp only [Value.ownBlock]; intro h; simp at h; omega
          have htb : ∀ q, q ≤ wo.heap.size → (Value.slice oa i oc).ownBlock ≠ some q := fun q hq h => by have := (hout5.lt q h).1; omega
          have o1 := ownsRow_setCell_other (a := ⟨wo.heap.size, 1, none⟩) (ownsRow_setCell_other (a := ⟨wo.heap.size, 0, none⟩) hown5 hob (.string s)) hob (.int .i64 (G + m))
          have o2 := (o1.stored i (.int .i64 (L.getD (i + d) 0 : Nat))).1
          rw [ic_set] at o2
          have o3 := (o2.stored (i + d) (.int .i64 (L.getD i 0 : Nat))).1
          rw [ic_set] at o3
          have fj1 := o2.frozenAt (i + d)
          obtain ⟨y, cj1⟩ : ∃ y, (((w5.setCell ⟨wo.heap.size, 0, none⟩ (.string s)).setCell ⟨wo.heap.size, 1, none⟩ (.int .i64 (G + m))).setCell ⟨g1, i, none⟩ (.int .i64 (L.getD (i + d) 0 : Nat))).cell? ⟨g1, i + d, none⟩ = some y := ⟨_, (o2.cellAt (i + d) (by omega)).trans (ic_getD _ _ (by rw [List.length_set]; omega))⟩
          have t1 := ownsRow_setCell_other (a := ⟨wo.heap.size, 1, none⟩) (ownsRow_setCell_other (a := ⟨wo.heap.size, 0, none⟩) hout5 (htb _ (Nat.le_refl _)) (.string s)) (htb _ (Nat.le_refl _)) (.int .i64 (G + m))
          have t3 := ownsRow_setCell_other (a := ⟨g1, i + d, none⟩) (ownsRow_setCell_other (a := ⟨g1, i, none⟩) t1 (htb g1 (by omega)) (.int .i64 (L.getD (i + d) 0 : Nat))) (htb g1 (by omega)) (.int .i64 (L.getD i 0 : Nat))
          have H95 := hide h95
          have HO3 := hide o3
          have HT3 := hide t3
          clear b5 h95 hown5 hout5 HO H9 HT HR HB hbw e0 e1 o1 o2 o3 t1 t3 hob htb
          generalize L.getD (i + d) 0 = x1 at *
          generalize L.getD i 0 = x2 at *
          go_wp2_with fail
          generalize hWx : World.alloc _ _ = Wx
          have hWg' := unhide HWg
          have hsx : ((((w5.setCell ⟨wo.heap.size, 0, none⟩ (.string s)).setCell ⟨wo.heap.size, 1, none⟩ (.int .i64 (G + m))).setCell ⟨g1, i, none⟩ (.int .i64 x1)).setCell ⟨g1, i + d, none⟩ (.int .i64 x2)).heap.size = w5.heap.size := by simp
          have x9 : Wx.heap[wo.heap.size]? = some (.cells #[.string s, .int .i64 (G + m), .slice oa i oc] 58 (0, 0)) := by
            rw [← hWx, Below.heap_alloc _ _ _ (by rw [hsx]; exact hl95), Below.heap_setCell _ _ _ _ hne9, Below.heap_setCell _ _ _ _ hne9]
            exact set_row (set_row (unhide H95) 0 _) 1 _
          have xr : Wx.heap[w.heap.size + 1]? = some (.cells #[.string ⟨#[]⟩, .int .i64 0, .slice none 0 0] 58 (0, 0)) := by
            rw [← hWx, Below.heap_alloc _ _ _ (by rw [hsx]; omega), Below.heap_setCell _ _ _ _ (show w.heap.size + 1 ≠ g1 by omega), Below.heap_setCell _ _ _ _ (show w.heap.size + 1 ≠ g1 by omega), Below.heap_setCell _ _ _ _ (show w.heap.size + 1 ≠ wo.heap.size by omega), Below.heap_setCell _ _ _ _ (show w.heap.size + 1 ≠ wo.heap.size by omega)]
            exact unhide HR5
          have xB : Below w.heap.size w Wx := by
            rw [← hWx]
            exact (((((unhide HB5).setCell (by show w.heap.size ≤ wo.heap.size; omega) _).setCell (by show w.heap.size ≤ wo.heap.size; omega) _).setCell (by show w.heap.size ≤ g1; omega) _).setCell (by show w.heap.size ≤ g1; omega) _).alloc (by rw [hsx]; omega) _
          have xo : Wx.ownsRow W.heap.size 3 1 (.slice (some ⟨g1, 0, none⟩) j cp) j (ic ((L.set i x1).set (i + d) x2)) := by rw [← hWx]; exact (unhide HO3).alloc _
          have xt : Wx.ownsRow (wo.heap.size + 1) 3 1 (.slice oa i oc) i (ic (oL A i)) := by rw [← hWx]; exact (unhide HT3).alloc _
          have xs : wo.heap.size + 1 ≤ Wx.heap.size := by rw [← hWx]; simp; omega
          have hci := (xo.cellAt i (by omega)).trans (ic_getD _ i (by simp; omega))
          rw [← unhide hAi] at hci
          have y2 := cell_of_row Wx wo.heap.size 2 _ _ _ x9
          have hos := hide (oL_succ A i)
          have htb2 : ∀ q, q ≤ wo.heap.size → (Value.slice oa i oc).ownBlock ≠ some q := fun q hq h => by have := (xt.lt q h).1; omega
          have X9 := hide x9
          have XR := hide xr
          have XB := hide xB
          have XO := hide xo
          have XT := hide xt
          have XS := hide xs
          clear hWx x9 xr xB xo xt hsx cj1 fj1 p0 p1 p2 z0 z1 z2 ci cj fi fj HB5 HR5 H95 HO3 HT3
          have hlx : wo.heap.size < Wx.heap.size := by have := unhide XS; omega
          have hlg : g1 < Wx.heap.size := by omega
          generalize A i = ai at *
          go_region_law ((refine step_append_own rfl (.tmp 76) (.tmp 81) 26 rfl (wo.heap.size + 1) 3 i0 (.int .i64 0) 1 8 Tryz.undI hi0 hz0 hz1 hz2 rfl (by decide) (.slice oa i oc) i _ (by rfl) ((unhide XT).alloc _) ⟨Wx.heap.size, 0, none⟩ 1 1 [.int .i64 ai] (by rfl) (by rfl) (cell_one_new _ _ _) (by intro u hu; simp at hu; subst hu; rfl) (by unfold maxLen; omega) (by omega) (by have := unhide XS; simp; omega) ?_; intro v' w6 hown6 hgrow6; obtain ⟨oa', oc', rfl⟩ := own_shape' hown6; have h96 : w6.heap[wo.heap.size]? = some (.cells #[.string s, .int .i64 (G + m), .slice oa i oc] 58 (0, 0)) := (hgrow6.block wo.heap.size (by have := unhide XS; simp; omega) (fun h => htb2 _ (Nat.le_refl _) h.symm)).trans ((Below.heap_alloc _ _ _ (by have := unhide XS; omega)).trans (unhide X9)); have y26 := cell_of_row w6 wo.heap.size 2 _ _ _ h96; have z26 := frozen_of_row w6 wo.heap.size 2 _ _ h96))
          all_goals
            have hgs : wo.heap.size + 1 ≤ w6.heap.size := by have := hgrow6.size; simp at this; omega
            have hgb : ∀ q, q < Wx.heap.size → (Value.slice oa i oc).ownBlock ≠ some q → w6.heap[q]? = Wx.heap[q]? := fun q hq hn => (hgrow6.block q (by simp; omega) (fun h => hn h.symm)).trans (Below.heap_alloc _ _ _ hq)
            have ro : w6.ownsRow W.heap.size 3 1 (.slice (some ⟨g1, 0, none⟩) j cp) j (ic ((L.set i x1).set (i + d) x2)) := own_same (unhide XO) (fun q hq => by
              have : g1 = q := by simpa [Value.ownBlock] using hq
              subst this
              exact hgb _ hlg (htb2 _ (by omega)))
            have RO := hide (ownsRow_setCell_other (a := ⟨wo.heap.size, 2, none⟩) ro (by simp only [Value.ownBlock]; intro h; simp at h; omega) (.slice oa' (i + 1) oc'))
            have R9 := hide (set_row h96 2 (.slice oa' (i + 1) oc'))
            have RT : Hid ((w6.setCell ⟨wo.heap.size, 2, none⟩ (.slice oa' (i + 1) oc')).ownsRow (wo.heap.size + 1) 3 1 (.slice oa' (i + 1) oc') (i + 1) (ic (oL A (i + 1)))) := by
              show World.ownsRow _ _ _ _ _ _ _
              rw [unhide hos, ic_append]
              exact ownsRow_setCell_other (a := ⟨wo.heap.size, 2, none⟩) hown6 (fun h => by have := (hown6.lt wo.heap.size h).1; omega) _
            have RR := hide ((Below.heap_setCell w6 ⟨wo.heap.size, 2, none⟩ (.slice oa' (i + 1) oc') _ (show w.heap.size + 1 ≠ wo.heap.size by omega)).trans ((hgb (w.heap.size + 1) (by omega) (htb2 (w.heap.size + 1) (by omega))).trans (unhide XR)))
            have RB := hide (((((unhide XB).alloc (by omega) _).drew).grown hgrow6 (by simp; omega) (fun q hq => by have := ((unhide XT).lt q hq).1; omega)).setCell (p := ⟨wo.heap.size, 2, none⟩) (by show w.heap.size ≤ wo.heap.size; omega) (.slice oa' (i + 1) oc'))
            clear hown6 hgrow6 h96 y26 z26 ro hgb htb2 X9 XR XB XO XT XS hci y2
            go_wp2
            go_roundw
            case rel => exact ⟨i + 1, by omega, by go_num, by rw [unhide hst]; exact unhide RO, ⟨oa', oc', by rw [unhide hst]; exact unhide R9, unhide RT⟩, unhide RR, unhide RB, by simpa using hgs⟩
            case measure => simp [intOf]; omega
        · have hike : i = k := by omega
          subst hike
          have e0 := cell_of_row wr wo.heap.size 0 _ _ _ h9
          have e1 := cell_of_row wr wo.heap.size 1 _ _ _ h9
          have e2 := cell_of_row wr wo.heap.size 2 _ _ _ h9
          have d0 := cell_of_row wr (w.heap.size + 1) 0 _ _ _ hres
          have d1 := cell_of_row wr (w.heap.size + 1) 1 _ _ _ hres
          have d2 := cell_of_row wr (w.heap.size + 1) 2 _ _ _ hres
          have f0 := frozen_of_row wr (w.heap.size + 1) 0 _ _ hres
          have f1 := frozen_of_row wr (w.heap.size + 1) 1 _ _ hres
          have f2 := frozen_of_row wr (w.heap.size + 1) 2 _ _ hres
          have HC : Hid (∀ q, q < i → ∃ g, oa = some ⟨g, 0, none⟩ ∧ g ≠ w.heap.size + 1 ∧ wr.cell? ⟨g, q, none⟩ = some (.int .i64 (A q))) := fun q hq => by
            rcases hout.2 with ⟨h', h0⟩ | ⟨g, cap, cur, h', hg, _⟩
            · omega
            · simp only [Value.slice.injEq] at h'
              obtain ⟨rfl, _, rfl⟩ := h'
              refine ⟨g, rfl, by omega, (hout.cellAt q (by omega)).trans ?_⟩
              rw [ic_getD _ q (by rw [oL_length]; exact hq), oL_get A i q hq]
          have HR := hide hres
          have HB := hide hB
          clear hown hout hres hB h9
          generalize hGe : (pkS s.data.toList j u i).1 = G at *
          have HGe := hide hGe
          clear hGe
          go_wp2
          refine ret_cell rfl (w.heap.size + 1) 58 #[.string s, .int .i64 G, .slice oa i oc] (0, 0) _ rfl (set_row (set_row (set_row (unhide HR) 0 _) 1 _) 2 _) rfl Tryz.underlying58 (by kernel_rfl) ⟨oa, oc, by rw [unhide HGe], fun q hq => ?_, (((unhide HB).setCell (by simp) _).setCell (by simp) _).setCell (by simp) _⟩
          obtain ⟨g, h1, h2, h3⟩ := unhide HC q hq
          refine ⟨g, h1, ?_⟩
          rw [← unhide HA1 q] at h3
          exact kept_cell (kept_cell (kept_cell h3 (kept_set _ _ _ _ _) h2) (kept_set _ _ _ _ _) h2) (kept_set _ _ _ _ _) h2

end Go.Proofs.YtkcnihngkmaecaaGreat

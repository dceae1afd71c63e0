/- slices.Sorted of integers; peel's Left. -/
import Derived.Test.YtfihpmhobjjaaaaPnV
import Derived.Test.YtfihpmhobjjaaaaPnN
import Derived.Test.YtfihpmhobjjaaaaShelf
namespace Go.Proofs.Ytfihpmhobjjaaaa
open Go.RowKit
set_option linter.unusedVariables false
attribute [local go_sem] Oper.semAt_some

theorem sort_row (w : World) (g cap : Nat) (zs : List Int) (hc : ∀ k (h : k < zs.length), w.cell? ⟨g, k, none⟩ = some (.int .i64 zs[k])) (hf : ∀ k, w.frozen? ⟨g, k, none⟩ = false) (hg : g < w.heap.size) (hz : zs.length ≤ 1000) :
    Calls Try.prog 46 #[.slice (some ⟨g, 0, none⟩) zs.length cap] w fun e w' => e = .returned (.tuple #[]) ∧ (∀ k (h : k < (zs.mergeSort fun x y => decide (x ≤ y)).length), w'.cell? ⟨g, k, none⟩ = some (.int .i64 (zs.mergeSort fun x y => decide (x ≤ y))[k])) ∧ Kept w.heap.size g w w' := by
  have hH : Sort.Holds (Value.int .i64) w g 0 zs.toArray := fun j hj => by
    have hj' : j < zs.length := by simpa using hj
    refine ⟨?_, by rw [Nat.zero_add]; exact hf j⟩
    rw [Nat.zero_add, hc j hj']
    simp [hj']
  refine (Try.slices_Sort_int g 0 cap zs w hH hg (by omega)).mono ?_
  rintro e w' ⟨rfl, n, os, rfl⟩
  have hsz : (zs.mergeSort fun x y => decide (x ≤ y)).toArray.size = zs.toArray.size := by simp
  have hP := Sort.holds_putRow (Value.int .i64) (Sort.ahead w n) g 0 zs.toArray (zs.mergeSort fun x y => decide (x ≤ y)).toArray (Sort.holds_ahead _ _ _ _ _ _ hH) hsz
  have hlt : g < (Sort.putRow (Value.int .i64) (Sort.ahead w n) g 0 (zs.mergeSort fun x y => decide (x ≤ y)).toArray).heap.size := by
    simp [Sort.putRow, Sort.mapBlock, Sort.ahead]; exact hg
  refine ⟨rfl, fun k hk => ?_, ⟨rfl, rfl, rfl, ?_, fun k hk hne => ?_⟩⟩
  · rw [Sort.cell?_grow _ _ _ hlt]
    have := (hP k (by simpa using hk)).1
    rw [Nat.zero_add] at this
    rw [this]
    simp at hk
    simp [hk]
  · simp [Sort.grow, Sort.putRow, Sort.mapBlock, Sort.ahead]
  · rw [Sort.heap_grow_old _ _ (by simp [Sort.putRow, Sort.mapBlock, Sort.ahead]; exact hk)]
    simp only [Sort.putRow, Sort.mapBlock, Sort.ahead, Array.getElem?_modify]
    rw [if_neg (fun e => hne e.symm)]
def srt (xs : List Int) : List Int := xs.mergeSort fun x y => decide (x ≤ y)
theorem srt_len (xs : List Int) : (srt xs).length = xs.length := by unfold srt; exact List.length_mergeSort _
theorem srt_mem {xs : List Int} {x : Int} : x ∈ srt xs ↔ x ∈ xs := by unfold srt; exact List.mem_mergeSort
theorem srt_ord (xs : List Int) : (srt xs).Pairwise (· ≤ ·) := by
  have h := List.pairwise_mergeSort (le := fun (x y : Int) => decide (x ≤ y)) (fun a b c h1 h2 => by simp at h1 h2 ⊢; omega) (fun a b => by simp; omega) xs
  unfold srt
  exact h.imp (fun {a b} hab => by simpa using hab)
theorem sort_own (w : World) (base : Nat) (v : Value) (xs : List Int) (hO : w.ownsRow base 3 1 v xs.length (ic xs)) (hl : xs.length ≤ 1000) :
    Calls Try.prog 46 #[v] w fun e w' => e = .returned (.tuple #[]) ∧ (∃ a c, v = .slice a xs.length c ∧ Ints w' a (srt xs)) ∧ Below base w w' := by
  rcases hO.2 with ⟨rfl, h0⟩ | ⟨g, cap, cur, rfl, hb, hg, hnc, hcm, hcs, htake⟩
  · have hx : xs = [] := List.length_eq_zero_iff.1 h0
    subst hx
    refine (Try.slices_Sort_int_none none 0 w).mono ?_
    rintro e w' ⟨rfl, rfl⟩
    exact ⟨rfl, ⟨none, 0, rfl, fun i hi => by simp [srt] at hi⟩, Below.refl _ _⟩
  · refine (sort_row w g cap xs (fun k hk => ?_) (fun k => hO.frozenAt k) (lt_of_block hg) hl).mono ?_
    · rw [hO.cellAt k (by omega)]
      simp [ic, hk]
    · rintro e w' ⟨rfl, h1, h2⟩
      exact ⟨rfl, ⟨_, _, rfl, fun i hi => ⟨g, 0, rfl, by rw [Nat.zero_add]; exact h1 i hi⟩⟩, ⟨h2.os, h2.tape, h2.output, h2.size, fun i hi => by
        rcases Nat.lt_or_ge i w.heap.size with h | h
        · exact h2.block i h (by omega)
        · have := lt_of_block hg
          omega⟩⟩
set_option maxRecDepth 100000 in
set_option maxHeartbeats 1000000 in
theorem sorted_any (Bs cap : Nat) (w0 w : World) (a0 : Option Addr) (xs : List Int) (hlen : xs.length ≤ 1000) (hI : Ints w0 a0 xs) (hb0 : Below w0.heap.size w0 w) (hBs : Bs < w.heap.size) (hc : w.cell? ⟨Bs, 0, none⟩ = some (.slice a0 xs.length cap)) :
    Calls Try.prog 32 #[.func (.func 47) #[] #[.pointer (some ⟨Bs, 0, none⟩)]] w fun e w' => (∃ a c, e = .returned (.slice a xs.length c) ∧ Ints w' a (srt xs)) ∧ Below w.heap.size w w' := by
  have HA := hide (collect_any Bs cap w0 w a0 xs (by omega) hI hb0 hBs hc)
  have HS := hide (fun W v (hO : W.ownsRow w.heap.size 3 1 v xs.length (ic xs)) => sort_own W w.heap.size v xs hO hlen)
  generalize xs.length = m at *
  clear hI hb0 hc
  go_enter Try.func32, Try.ntmps32
  go_wp2_with fail
  refine (unhide HA).mono ?_
  rintro e w1 ⟨v, rfl, h1, h2⟩
  have HS1 := hide (unhide HS w1 v h1)
  obtain ⟨a, c, rfl⟩ := own_shape2 h1
  have HB := hide h2
  clear h1 h2
  go_wp2_with fail
  refine (unhide HS1).mono ?_
  rintro e w2 ⟨rfl, ⟨a', c', e1, h3⟩, h4⟩
  simp only [Value.slice.injEq] at e1
  obtain ⟨rfl, _, rfl⟩ := e1
  have HX := hide (And.intro h3 ((unhide HB).trans h4))
  clear h3 h4
  go_wp2
  go_ret
  exact ⟨⟨_, _, rfl, (unhide HX).1⟩, (unhide HX).2⟩
theorem below_drewN2 {B : Nat} {w w' : World} (h : Below B w w') : ∀ q, Below B w (w'.drewN q)
  | 0 => h
  | q + 1 => ⟨h.os, h.tape, h.output, h.size, h.block⟩
theorem bs_any (K : List Int) (x : Int) (s0 : Option Addr) (c : Nat) (hl : K.length ≤ 1000) (w : World) (hI : Ints w s0 (srt K)) :
    Calls Try.prog 34 #[.slice s0 K.length c, .int .i64 x] w fun e w' => (∃ i : Int, e = .returned (.tuple #[.int .i64 i, .bool (inZ K x)])) ∧ Below w.heap.size w w' := by
  rcases Nat.eq_zero_or_pos K.length with h0 | h0
  · rw [h0]
    refine (Try.slices_BinarySearch_int_empty s0 c x w).mono ?_
    rintro e w' ⟨rfl, rfl⟩
    have hk : K = [] := List.length_eq_zero_iff.1 h0
    exact ⟨⟨0, by simp [inZ, hk]⟩, Below.refl _ _⟩
  · obtain ⟨g, o, rfl, _⟩ := hI 0 (by rw [srt_len]; exact h0)
    have hz : K.length = (srt K).length := (srt_len K).symm
    rw [hz]
    refine (Try.slices_BinarySearch_int g o (srt K).length c (srt K) x w (Nat.le_refl _) (by omega) (fun j hj => ?_) (by rw [List.take_length]; exact srt_ord K)).mono ?_
    · obtain ⟨g', o', e, hc⟩ := hI j hj
      simp only [Option.some.injEq, Addr.mk.injEq] at e
      obtain ⟨rfl, rfl, _⟩ := e
      rw [hc]
      simp [List.getD, hj]
    · rintro e w' ⟨rfl, q, rfl⟩
      refine ⟨⟨(((srt K).take (srt K).length).countP (· < x) : Nat), ?_⟩, below_drewN2 (Below.refl _ _) q⟩
      rw [List.take_length]
      have : (srt K).contains x = inZ K x := by
        unfold inZ
        rw [Bool.eq_iff_iff]
        simp [srt_mem]
      rw [this]
theorem made_rows (n : Nat) : (madeCells #[(Value.slice none 0 0)] n).toList = List.replicate n (Value.slice none 0 0) := toList_madeCells_one _ _
set_option maxRecDepth 100000 in
set_option maxHeartbeats 2000000 in
theorem left_any (Rs : List (List Int)) (K : List Int) (a0 k0 : Option Addr) (c kc : Nat) (hm : Rs.length ≤ 1000) (hl : ∀ r ∈ Rs, r.length ≤ 10000) (hk : K.length ≤ 1000) (w : World) (hI : RowsA w a0 Rs) (hK : Ints w k0 K) :
    Calls Try.prog 18 #[.slice a0 Rs.length c, .slice k0 K.length kc] w fun e w' => ∃ v, e = .returned v ∧ RowsV w' v (leftR Rs K) ∧ Below w.heap.size w w' := by
  obtain ⟨i0, hi0, hz0, hz1, hz2⟩ := info_parts Try.infoIxN
  obtain ⟨j0, hj0, hy0, hy1, hy2⟩ := info_parts Try.infoI
  have HI := hide hI
  have HV := hide (values_any k0 K.length kc w)
  have hbA : Below w.heap.size w (w.alloc (.cells #[.slice k0 K.length kc] 23)) := (Below.refl _ _).alloc (Nat.le_refl _) _
  have HS := hide (sorted_any w.heap.size kc w (w.alloc (.cells #[.slice k0 K.length kc] 23)) k0 K hk hK hbA (by simp) ((Boxed.new w 23 _).cell))
  have HBA := hide hbA
  have HBS := hide (fun W x s0 d (h : Ints W s0 (srt K)) => bs_any K x s0 d hk W h)
  have HLL := hide (leftR_len Rs K)
  have HG : Hid (∀ k, k < Rs.length → gtN (leftR Rs K) k = restS (inZ K) (gtN Rs k)) := fun k hk => by rw [gtR_left Rs K k hk, gtR_getN Rs k hk]
  have HRL : Hid (∀ k, k < Rs.length → (gtN Rs k).length ≤ 10000) := fun k hk => by rw [gtR_getN Rs k hk]; exact hl _ (List.getElem_mem hk)
  have HIR : Hid (∀ k, k < Rs.length → ∃ g o, a0 = some ⟨g, o, none⟩ ∧ ∃ b c, w.cell? ⟨g, o + k, none⟩ = some (.slice b (gtN Rs k).length c) ∧ Ints w b (gtN Rs k)) := fun k hk => by rw [gtR_getN Rs k hk]; exact hI k hk
  generalize leftR Rs K = Ls at *
  generalize inZ K = S at *
  generalize srt K = SK at *
  generalize K.length = l at *
  generalize Rs.length = m at *
  clear hI hK hl hbA HI
  go_enter Try.func18, Try.ntmps18
  go_wp2_with fail
  refine (unhide HV).mono ?_
  rintro e w0 ⟨rfl, rfl⟩
  generalize hwA : w.alloc (.cells #[.slice k0 l kc] 23) = wA at *
  clear hwA
  go_wp2_with fail
  refine (unhide HS).mono ?_
  rintro e w1 ⟨⟨s0, sc, rfl, hSK⟩, b1⟩
  have HSK := hide hSK
  have B1 := hide ((unhide HBA).trans (b1.mono (unhide HBA).size))
  clear hSK b1 HV HS HBA
  go_wp2_with (at_make; refine wpList_make_full _ rfl _ _ 22 rfl w1.heap.size 23 i0 (.slice none 0 0) 1 Try.undIxN hi0 hz0 hz1 .i64 .i64 _ _ m rfl rfl rfl rfl ?c2 ?c3 ?c4 ?_)
  case c2 => rw [hz2]; omega
  case c3 => unfold maxLen; omega
  case c4 => exact Nat.le_refl _
  intro w2 hown hgrow
  have hb2 := hide ((Below.refl _ _).grown hgrow (Nat.le_refl _) (by intro k hk; cases hk))
  have hlt2 : w1.heap.size < w2.heap.size := (hown.lt w1.heap.size rfl).2
  have HO2 := hide hown
  have hb1s := (unhide B1).size
  generalize hG0 : w1.heap.size = G at *
  have HGG := hide hG0
  clear hown hgrow hG0
  go_wp2_with fail
  go_loopw [21] (fun u wr => ∃ (k : Nat) (Vs : List Value), k ≤ m ∧ u = .int .i64 k ∧ wr.ownsRow G 23 1 (.slice (some ⟨G, 0, none⟩) m m) m Vs ∧ LfC (G + 1) wr (gtN Ls) k Vs ∧ Below G w1 wr) (fun u _ => m - (intOf u).toNat)
  case atStart => exact ⟨0, _, by omega, rfl, unhide HO2, fun j h => absurd h (by omega), unhide hb2⟩
  case round =>
    clear HO2 hb2
    obtain ⟨wo, rfl⟩ : ∃ x, x = wr := ⟨wr, rfl⟩
    obtain ⟨k, Vs, hk', rfl, hO, hC, hB⟩ := hrel
    have hGr : G < wo.heap.size := (hO.lt G rfl).2
    have BW := hide ((unhide B1).trans (hB.mono hb1s))
    have HO := hide hO
    have HB := hide hB
    have HC := hide hC
    clear hO hB hC
    by_cases hlt : k < m
    · obtain ⟨g, o, rfl, rb, rc, c0, hIk⟩ := unhide HIR k hlt
      have c1 := cell_below c0 (unhide BW)
      have q1 : (k : Int) < m := by omega
      have hvl : Vs.length = m := by have := (unhide HO).1; omega
      have hfz := (unhide HO).frozenAt k
      obtain ⟨u, hce⟩ : ∃ u, wo.cell? ⟨G, k, none⟩ = some u := ⟨_, ((unhide HO).cellAt k (by omega)).trans (List.getElem?_eq_getElem (by omega))⟩
      have HST := hide (((unhide HO).stored k (.slice (some ⟨wo.heap.size, 0, none⟩) 0 0)).1.alloc (.cells #[] 3))
      have hown0 : ((wo.setCell ⟨G, k, none⟩ (.slice (some ⟨wo.heap.size, 0, none⟩) 0 0)).alloc (.cells #[] 3)).ownsRow wo.heap.size 3 1 (.slice (some ⟨wo.heap.size, 0, none⟩) 0 0) 0 [] := by
        have h := World.ownsRow_lit (base := wo.heap.size) (e := 3) (size := 1) (wo.setCell ⟨G, k, none⟩ (.slice (some ⟨wo.heap.size, 0, none⟩) 0 0)) #[] 0 (by simp) (by unfold maxLen; omega) rfl
        simpa using h
      have HR0 := hide hown0
      have HK0 : Hid (Kept wo.heap.size G wo ((wo.setCell ⟨G, k, none⟩ (.slice (some ⟨wo.heap.size, 0, none⟩) 0 0)).alloc (.cells #[] 3))) := (kept_set _ _ _ _ _).trans (Kept.of_below ((Below.refl _ _).alloc (by simp) _))
      have HIK := hide hIk
      have hrl := unhide HRL k hlt
      have HGK := hide (unhide HG k hlt)
      generalize hrk : gtN Rs k = r at *
      generalize hrn : r.length = rn at *
      have HRN := hide hrn
      clear hown0 hIk c0 hrk hrn
      go_wp2_with fail
      go_loopw [32] (fun v wi => ∃ (j : Nat) (b : Option Addr) (d : Nat), j ≤ rn ∧ v = .int .i64 j ∧ wi.ownsRow G 23 1 (.slice (some ⟨G, 0, none⟩) m m) m (Vs.set k (.slice b (restS S (r.take j)).length d)) ∧ wi.ownsRow wo.heap.size 3 1 (.slice b (restS S (r.take j)).length d) (restS S (r.take j)).length (ic (restS S (r.take j))) ∧ Kept wo.heap.size G wo wi) (fun v _ => rn - (intOf v).toNat)
      case atStart => exact ⟨0, _, _, by omega, rfl, unhide HST, unhide HR0, unhide HK0⟩
      case round =>
        clear HST HR0 HK0
        obtain ⟨j, b, d, hj, rfl, hOi, hRi, hKi⟩ := hrel
        have hwi := hKi.size
        have hBi := (unhide HB).trans (hKi.below G (by omega) (Nat.le_refl _))
        have hBWi := (unhide B1).trans (hBi.mono hb1s)
        by_cases hlj : j < rn
        · have hlj' : j < r.length := by rw [unhide HRN]; exact hlj
          obtain ⟨g', o', rfl, d0⟩ := ((unhide HIK).below hBWi) j hlj'
          have hbs := hide (unhide HBS wr r[j] s0 sc ((unhide HSK).below (by rw [unhide HGG]; exact hBi)))
          have q2 : (j : Int) < rn := by omega
          have hle : (restS S (r.take j)).length ≤ 10000 := by
            have h2 := restS_len S (r.take j)
            rw [List.length_take] at h2
            omega
          have HT := hide (restS_take (S := S) hlj')
          generalize r[j] = y at *
          have HOi := hide hOi
          have HRi := hide hRi
          have HKi := hide hKi
          clear hOi hRi hKi hBi hBWi hlj'
          cases hs : S y with
          | true =>
            rw [hs] at HT hbs
            simp only [if_true, List.append_nil] at HT
            generalize hDe : restS S (r.take j) = D at *
            generalize hdl : D.length = dl at *
            have HDL := hide hdl
            clear hs hDe hdl
            go_wp2_with fail
            refine (unhide hbs).mono ?_
            rintro e w5 ⟨⟨ii, rfl⟩, b5⟩
            have HX : Hid (w5.ownsRow G 23 1 (.slice (some ⟨G, 0, none⟩) m m) m (Vs.set k (.slice b (restS S (r.take (j + 1))).length d)) ∧ w5.ownsRow wo.heap.size 3 1 (.slice b (restS S (r.take (j + 1))).length d) (restS S (r.take (j + 1))).length (ic (restS S (r.take (j + 1)))) ∧ Kept wo.heap.size G wo w5) := by
              show _ ∧ _
              rw [unhide HT, unhide HDL]
              exact ⟨own_below2 (unhide HOi) b5, own_below2 (unhide HRi) b5, (unhide HKi).trans ((Kept.of_below b5).mono hwi)⟩
            clear b5
            go_wp2
            go_roundw
            case rel => exact ⟨j + 1, b, d, by omega, by go_num, unhide HX⟩
            case measure => simp [intOf]; omega
          | false =>
            rw [hs] at HT hbs
            simp only [Bool.false_eq_true, if_false] at HT
            generalize hDe : restS S (r.take j) = D at *
            generalize hdl : D.length = dl at *
            have HDL := hide hdl
            clear hs hDe hdl
            go_wp2_with fail
            refine (unhide hbs).mono ?_
            rintro e w5 ⟨⟨ii, rfl⟩, b5⟩
            have hO5 := own_below2 (unhide HOi) b5
            have hR5 := own_below2 (unhide HRi) b5
            have HK5 := hide ((unhide HKi).trans ((Kept.of_below b5).mono hwi))
            have hs5 := b5.size
            have c5 : w5.cell? ⟨G, k, none⟩ = some (.slice b dl d) := (hO5.cellAt k (by omega)).trans (by rw [List.getElem?_set_self (by omega)])
            have HO5 := hide hO5
            have HR5 := hide hR5
            clear b5 hO5 hR5
            go_wp2_with (at_builtin; refine wpList_append_own _ rfl _ _ 23 rfl wo.heap.size 3 j0 (.int .i64 0) 1 8 Try.undI hj0 hy0 hy1 hy2 rfl (by decide) _ _ _ rfl ((unhide HR5).alloc _) ⟨w5.heap.size, 0, none⟩ 1 1 [.int .i64 y] ?cx rfl ?cn ?c2 ?c3 ?c4 ?c5 ?_)
            case cn => exact news_lit w5 [.int .i64 y] 3
            case c2 => intro u hu; simp at hu; rw [hu]; rfl
            case c3 => unfold maxLen; omega
            case c4 => omega
            case c5 => simp; omega
            all_goals try rfl
            intro v' w7 hown7 hgrow7 _
            obtain ⟨ao', cp', rfl⟩ := own_shape2 hown7
            have hO7 := ((unhide HO5).alloc (.cells #[.int .i64 y] 3)).kept hgrow7 (own_apartN ((unhide HO5).alloc (.cells #[.int .i64 y] 3)) ((unhide HR5).alloc (.cells #[.int .i64 y] 3)) (by decide))
            have hb7 : Below wo.heap.size w5 w7 := ((Below.refl wo.heap.size _).alloc (by omega) _).grown hgrow7 (by simp; omega) (fun q hq => ((unhide HR5).lt q hq).1)
            have hf7 := hO7.frozenAt k
            have c7 : w7.cell? ⟨G, k, none⟩ = some (.slice b dl d) := (hO7.cellAt k (by omega)).trans (by rw [List.getElem?_set_self (by omega)])
            have hO8 := (hO7.stored k (.slice ao' (dl + 1) cp')).1
            rw [List.set_set] at hO8
            have hR8 := ownsRow_setCell_below hown7 (a := ⟨G, k, none⟩) (by simpa using hGr) (.slice ao' (dl + 1) cp')
            have hK8 := ((unhide HK5).trans (Kept.of_below hb7)).trans (kept_set wo.heap.size w7 G k (.slice ao' (dl + 1) cp'))
            have HX : Hid ((w7.setCell ⟨G, k, none⟩ (.slice ao' (dl + 1) cp')).ownsRow G 23 1 (.slice (some ⟨G, 0, none⟩) m m) m (Vs.set k (.slice ao' (restS S (r.take (j + 1))).length cp')) ∧ (w7.setCell ⟨G, k, none⟩ (.slice ao' (dl + 1) cp')).ownsRow wo.heap.size 3 1 (.slice ao' (restS S (r.take (j + 1))).length cp') (restS S (r.take (j + 1))).length (ic (restS S (r.take (j + 1)))) ∧ Kept wo.heap.size G wo (w7.setCell ⟨G, k, none⟩ (.slice ao' (dl + 1) cp'))) := by
              show _ ∧ _
              rw [unhide HT, List.length_append, unhide HDL, ic_append]
              exact ⟨hO8, hR8, hK8⟩
            clear hown7 hgrow7 hO7 hb7 hO8 hR8 hK8 c5
            go_wp2
            go_roundw
            case rel => exact ⟨j + 1, ao', cp', by omega, by go_num, unhide HX⟩
            case measure => simp [intOf]; omega
        · have hjn : j = rn := by omega
          subst hjn
          have q2 : ¬ (j : Int) < j := by omega
          rw [← unhide HRN, List.take_length] at hOi hRi
          have HXO := hide hOi
          have hC2 : LfC (G + 1) wr (gtN Ls) (k + 1) (Vs.set k (.slice b (restS S r).length d)) := fun i hi => by
            by_cases e : i = k
            · subst e
              refine ⟨b, d, ?_, ?_⟩
              · rw [unhide HGK, List.getElem?_set_self (by omega)]
              · rw [unhide HGK]
                exact own_mono hRi hGr
            · obtain ⟨b', d', e1, e2⟩ := unhide HC i (by omega)
              exact ⟨b', d', by rw [List.getElem?_set_ne (by omega)]; exact e1, own_kept e2 hKi (Nat.le_refl _) (by omega)⟩
          have HC2 := hide hC2
          have HB2 := hide hBi
          clear hOi hRi hKi hBi hBWi hC2
          go_wp2
          go_roundw
          case rel => exact ⟨k + 1, _, by omega, by go_num, unhide HXO, unhide HC2, unhide HB2⟩
          case measure => simp [intOf]; omega
    · have hkm : k = m := by omega
      subst hkm
      have q1 : ¬ (k : Int) < k := by omega
      have HX : Hid (RowsV wo (.slice (some ⟨G, 0, none⟩) k k) Ls ∧ Below w.heap.size w wo) := ⟨LfC.rows (by rw [unhide HLL]; exact unhide HC) (by rw [unhide HLL]; exact unhide HO), unhide BW⟩
      clear HO HC HB BW
      go_wp2
      go_ret
      exact ⟨_, rfl, unhide HX⟩
end Go.Proofs.Ytfihpmhobjjaaaa

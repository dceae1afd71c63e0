/- What the law PrngBelow does, whatever the world: it answers true and changes nothing that was there. -/
import Derived.Test.YtlkbknjcjmpbfaaPrCh
import Derived.Test.YtlkbknjcjmpbfaaPrBl
namespace Go.Proofs.Ytlkbknjcjmpbfaa
open Go.RowKit
set_option linter.unusedVariables false

theorem chUse_self (Z : Nat → Int) (F : Int) : ∀ r k, chUse Z F (chUse Z F (r + 1) k - k) k = chUse Z F (r + 1) k
  | 0, k => by
    have e : chUse Z F 1 k = k + 1 := by rw [chUse, if_pos (.inr rfl)]
    rw [e, show k + 1 - k = 1 by omega, e]
  | r + 1, k => by
    by_cases h : Z k < F ∨ r + 1 = 0
    · have e : chUse Z F (r + 1 + 1) k = k + 1 := by rw [chUse, if_pos h]
      have e1 : chUse Z F 1 k = k + 1 := by rw [chUse, if_pos (.inr rfl)]
      rw [e, show k + 1 - k = 1 by omega, e1]
    · have e : chUse Z F (r + 1 + 1) k = chUse Z F (r + 1) (k + 1) := by rw [chUse, if_neg h]
      have hg := chUse_gt Z F r (k + 1)
      have ih := chUse_self Z F r (k + 1)
      rw [e]
      generalize chUse Z F (r + 1) (k + 1) = M at *
      obtain ⟨q, hq⟩ : ∃ q, M - k = q + 1 := ⟨M - k - 1, by omega⟩
      have hq2 : M - (k + 1) = q := by omega
      rw [hq2] at ih
      rw [hq, chUse, if_neg (by omega)]
      exact ih

/-- words as cells -/
def wc (Z : Nat → Int) (j : Nat) : List Value := (List.range j).map fun i => Value.int .u32 (Z i)
theorem wc_length (Z : Nat → Int) (j : Nat) : (wc Z j).length = j := by simp [wc]
theorem wc_succ (Z : Nat → Int) (j : Nat) : wc Z (j + 1) = wc Z j ++ [Value.int .u32 (Z j)] := by simp [wc, List.range_succ]
theorem wc_get (Z : Nat → Int) (j i : Nat) (h : i < j) : (wc Z j)[i]? = some (Value.int .u32 (Z i)) := by simp [wc, h]
theorem own_wordsIn {w : World} {base n : Nat} {v : Value} {Z : Nat → Int} (h : w.ownsRow base 31 1 v n (wc Z n)) (hn : 1 ≤ n) (hz : ∀ i, 0 ≤ Z i ∧ Z i < 4294967296) :
    ∃ g cap, v = .slice (some ⟨g, 0, none⟩) n cap ∧ n ≤ cap ∧ cap ≤ maxLen ∧ WordsIn w g 0 n Z := by
  rcases h.2 with ⟨_, h0⟩ | ⟨g, cap, cur, hv, _, hg, hnc, hcm, hcs, htake⟩
  · omega
  · subst hv
    refine ⟨g, cap, rfl, hnc, hcm, fun i hi => ⟨?_, hz i⟩⟩
    rw [Nat.zero_add]
    exact (h.cellAt i (by omega)).trans (wc_get Z n i hi)

theorem IntsArg.below {k : IntKind} {w w' : World} {a0 : Option Addr} {len : Nat} {Z : Nat → Int} (h : IntsArg k w a0 len Z) (hb : Below w.heap.size w w') : IntsArg k w' a0 len Z := fun i hi => by
  obtain ⟨b, off, h1, h2, h3, h4⟩ := h i hi
  refine ⟨b, off, h1, Nat.lt_of_lt_of_le h2 hb.size, ?_, h4⟩
  rw [hb.cell (p := ⟨b, off + i, none⟩) h2]
  exact h3

set_option maxRecDepth 100000 in
set_option maxHeartbeats 4000000 in
theorem prngBelow_any (s : ByteArray) (a0 : Option Addr) (len cap : Nat) (Z : Nat → Int) (w : World) (hs : s.size ≤ maxLen) (hZ : IntsArg .i64 w a0 len Z) (hc : len ≤ cap ∧ cap ≤ maxLen) :
    Calls Try.prog 6 #[.string s, .slice a0 len cap] w fun e w' => e = .returned (.bool true) ∧ Below w.heap.size w w' := by
  obtain ⟨hc1, hc2⟩ := hc
  have HM := hide hs
  unfold maxLen at hs hc2
  by_cases h64 : (64 : Int) < s.size
  · clear hZ
    go_enter Try.func6, Try.ntmps6
    go_wp2_with fail
    refine (gnew_long s w (unhide HM) (by omega)).mono ?_
    rintro e w1 ⟨rfl, rfl⟩
    go_wp2_with fail
    refine (gnew_long s w (unhide HM) (by omega)).mono ?_
    rintro e w1 ⟨rfl, rfl⟩
    go_wp2_with fail
    refine (pawake_any w).mono ?_
    rintro e w1 ⟨rfl, b1⟩
    have B1 := hide b1
    clear b1
    go_wp2_with fail
    refine (pawake_any w1).mono ?_
    rintro e w2 ⟨rfl, b2⟩
    have B2 := hide ((unhide B1).trans (b2.mono (unhide B1).size))
    clear b2 B1
    go_wp2
    go_ret
    exact ⟨rfl, unhide B2⟩
  · have hs64 : s.size ≤ 64 := by omega
    have HZ := hide hZ
    clear hZ
    go_enter Try.func6, Try.ntmps6
    go_wp2_with fail
    refine (gnew_any s w hs64).mono ?_
    rintro e w1 ⟨b, rfl, hG, hb, b1⟩
    have HG1 := hide hG
    have B1 := hide b1
    clear hG b1
    go_wp2_with fail
    refine (gnew_any s w1 hs64).mono ?_
    rintro e w2 ⟨b', rfl, hG', hb', b2⟩
    have hbb : b < b' := by have := lt_of_block (unhide HG1); omega
    have HG2 := hide (show GenAt w2 b s 0 from (b2.block b (lt_of_block (unhide HG1))).trans (unhide HG1))
    have HH2 := hide hG'
    have B2 := hide ((unhide B1).trans (b2.mono (unhide B1).size))
    clear hG' b2 B1 HG1
    go_wp2_with fail
    refine (pawake_any w2).mono ?_
    rintro e w3 ⟨rfl, b3⟩
    have HG3 := hide (show GenAt w3 b s 0 from (b3.block b (lt_of_block (unhide HG2))).trans (unhide HG2))
    have HH3 := hide (show GenAt w3 b' s 0 from (b3.block b' (lt_of_block (unhide HH2))).trans (unhide HH2))
    have B3 := hide ((unhide B2).trans (b3.mono (unhide B2).size))
    have hwb' : w.heap.size ≤ b' := by omega
    clear b3 B2 HG2 HH2
    go_wp2_with fail
    go_loopw [7] (fun v wr => ∃ i U : Nat, i ≤ 30 ∧ i ≤ len ∧ U ≤ 8 * i ∧ v = .int .i64 i ∧ GenAt wr b s U ∧ GenAt wr b' s U ∧ Below w.heap.size w wr) (fun v _ => 30 - (intOf v).toNat)
    case atStart => exact ⟨0, 0, by omega, by omega, by omega, rfl, unhide HG3, unhide HH3, unhide B3⟩
    case round =>
      clear HG3 HH3 B3
      obtain ⟨i, U, hi, hil, hU, rfl, hG, hH, hB⟩ := hrel
      have HG := hide hG
      have HH := hide hH
      have HB := hide hB
      have hbl := lt_of_block hG
      have hbl' := lt_of_block hH
      clear hG hH hB
      by_cases hlt : (i : Int) < len
      · by_cases h30 : (i : Int) < 30
        · obtain ⟨bl, off, rfl, hlb, hcl, hwf⟩ := unhide HZ i (by omega)
          have hcl1 : wr.cell? ⟨bl, off + i, none⟩ = some (.int .i64 (Z i)) := by rw [(unhide HB).cell (p := ⟨bl, off + i, none⟩) hlb]; exact hcl
          have HCL := hide hcl
          clear hcl hwf
          generalize Z i = n at *
          by_cases hn : 1 ≤ n ∧ n ≤ 2147483647
          · have hbw := hide (below_any wr b U s n hs64 (by omega) hn.1 hn.2 (unhide HG))
            have hvb := chV_bounds (wdF s.data.toList U) n 8 hn.1
            have hm1 := chUse_gt (wdF s.data.toList U) (fairOf n) 7 0
            have hm2 := chUse_le (wdF s.data.toList U) (fairOf n) 8 0
            have hsf := hide (chUse_self (wdF s.data.toList U) (fairOf n) 7 0)
            have hvd : Hid (chV (wdF s.data.toList U) n (chUse (wdF s.data.toList U) (fairOf n) 8 0) = chV (wdF s.data.toList U) n 8) := by
              show _ = _
              have := unhide hsf
              rw [Nat.sub_zero] at this
              unfold chV
              rw [this]
            rw [Nat.sub_zero] at hsf
            have hwd := hide (fun w' j (hj : j ≤ 8) h => word_any w' b' s (U + j) hs64 (by omega) h)
            have hYb := hide (fun j => wd_bounds s.data.toList (U + j))
            change Hid (∀ w' j, j ≤ 8 → GenAt w' b' s ((U + j : Nat) : Int) → Calls _ _ _ w' fun e w'' => e = .returned (.int .u32 (wdF s.data.toList U j)) ∧ GenAt w'' b' s (((U + j : Nat) : Int) + 1) ∧ Kept w'.heap.size b' w' w'') at hwd
            change Hid (∀ j, 0 ≤ wdF s.data.toList U j ∧ wdF s.data.toList U j < 4294967296) at hYb
            generalize wdF s.data.toList U = Y at *
            generalize hFo : fairOf n = F at *
            have HFo := hide hFo
            clear hFo
            generalize hmm : chUse Y F 8 0 = m at *
            generalize chV Y n 8 = v at *
            clear hmm
            obtain ⟨i0, hi0, hz0, hz1, hz2⟩ := info_parts Try.infoW
            go_wp2_with fail
            refine (used_any wr b s U (unhide HG)).mono ?_
            rintro e w4 ⟨rfl, rfl⟩
            go_wp2_with fail
            refine (unhide hbw).mono ?_
            rintro e w4 ⟨rfl, hG4, hK4⟩
            have HG4 := hide hG4
            have HH4 := hide (show GenAt w4 b' s U from (hK4.block b' hbl' (by omega)).trans (unhide HH))
            have HB4 := hide ((unhide HB).trans (hK4.below w.heap.size (unhide HB).size hb))
            have hbl4 := lt_of_block hG4
            have hbl4' := lt_of_block (unhide HH4)
            have hs4 := (unhide HB4).size
            clear hG4 hK4 HG HH HB hbw hcl1
            go_wp2_with fail
            go_loopw [10] (fun v wx => ∃ j : Nat, j ≤ m ∧ wx.ownsRow w4.heap.size 31 1 v j (wc Y j) ∧ GenAt wx b s ((U + m : Nat) : Int) ∧ GenAt wx b' s ((U + j : Nat) : Int) ∧ Below w.heap.size w wx ∧ w4.heap.size ≤ wx.heap.size) (fun v _ => m - (match v with | .slice _ n _ => n | _ => 0))
            case atStart => exact ⟨0, Nat.zero_le _, World.ownsRow_nil _ _ _ _, unhide HG4, unhide HH4, unhide HB4, Nat.le_refl _⟩
            case round =>
              clear HG4 HH4 HB4
              obtain ⟨j, hj, hown, hG, hH, hB, hsx⟩ := hrel
              obtain ⟨ao, cp, rfl⟩ := own_shape' hown
              have HG := hide hG
              have HH := hide hH
              have HB := hide hB
              have HO := hide hown
              clear hG hH hB hown
              go_wp2_with fail
              refine (used_any _ b' s _ (unhide HH)).mono ?_
              rintro e w5 ⟨rfl, rfl⟩
              go_wp2_with fail
              refine (used_any _ b s _ (unhide HG)).mono ?_
              rintro e w5 ⟨rfl, rfl⟩
              by_cases hjm : j < m
              · have q1 : ((U + j : Nat) : Int) < ((U + m : Nat) : Int) := by omega
                have q2 : (j : Int) < 20 := by omega
                have hw1 := hide (unhide hwd wr j (by omega) (unhide HH))
                obtain ⟨hy0, hy1⟩ := unhide hYb j
                have hws := hide (wc_succ Y j)
                generalize Y j = y at *
                go_wp2_with fail
                refine (unhide hw1).mono ?_
                rintro e w5 ⟨rfl, hH5, hK5⟩
                have hown5 := own_kept (unhide HO) hK5 hbl4'
                have HG5 := hide (show GenAt w5 b s ((U + m : Nat) : Int) from (hK5.block b (lt_of_block (unhide HG)) (by omega)).trans (unhide HG))
                have HH5 := hide (show GenAt w5 b' s ((U + (j + 1) : Nat) : Int) by rw [show ((U + (j + 1) : Nat) : Int) = ((U + j : Nat) : Int) + 1 by omega]; exact hH5)
                have HB5 := hide ((unhide HB).trans (hK5.below w.heap.size (unhide HB).size hwb'))
                have hz5 : w4.heap.size ≤ w5.heap.size := Nat.le_trans hsx hK5.size
                have hu5 : (Value.slice ao j cp).ownBlock ≠ some b ∧ (Value.slice ao j cp).ownBlock ≠ some b' := by
                  constructor <;> intro h <;> have := (hown5.lt _ h).1 <;> omega
                clear hH5 hK5 HG HH HB HO hw1
                go_wp2_with (at_builtin; refine wpList_append_own _ rfl _ _ 35 rfl w4.heap.size 31 i0 (.int .u32 0) 1 4 Try.undW hi0 hz0 hz1 hz2 rfl (by decide) _ _ _ rfl (hown5.alloc _) ⟨w5.heap.size, 0, none⟩ 1 1 [.int .u32 y] rfl rfl ?c1 ?c2 ?c3 ?c4 ?c5 ?_)
                case c1 => exact cell_one_new _ _ _
                case c2 => intro u hu; simp at hu; subst hu; rfl
                case c3 => unfold maxLen; omega
                case c4 => omega
                case c5 => simp; omega
                intro v' w6 hown' hgrow _
                have hsz6 : w4.heap.size ≤ w6.heap.size := by have := hgrow.size; simp at this; omega
                have HG6 := hide (show GenAt w6 b s ((U + m : Nat) : Int) from (hgrow.block b (by simp; omega) (fun h => hu5.1 h.symm)).trans ((Below.heap_alloc _ _ _ (by omega)).trans (unhide HG5)))
                have HH6 := hide (show GenAt w6 b' s ((U + (j + 1) : Nat) : Int) from (hgrow.block b' (by simp; omega) (fun h => hu5.2 h.symm)).trans ((Below.heap_alloc _ _ _ (by omega)).trans (unhide HH5)))
                have HB6 := hide (((unhide HB5).alloc (by omega) _).grown hgrow (by simp; omega) (fun k hk => by have := (hown5.lt k hk).1; omega))
                have HO6 : Hid (w6.ownsRow w4.heap.size 31 1 v' (j + 1) (wc Y (j + 1))) := by
                  show World.ownsRow _ _ _ _ _ _ _
                  rw [unhide hws]
                  exact hown'
                obtain ⟨ao', cp', rfl⟩ := own_shape' hown'
                clear hown' hgrow hown5 HG5 HH5 HB5
                go_wp2
                go_roundw
                case rel => exact ⟨j + 1, hjm, unhide HO6, unhide HG6, unhide HH6, unhide HB6, by omega⟩
                case measure => simp; omega
              · have hje : j = m := by omega
                subst hje
                obtain ⟨gw, cw, hve, hw1, hw2, hWI⟩ := own_wordsIn (unhide HO) hm1 (unhide hYb)
                simp only [Value.slice.injEq] at hve
                obtain ⟨rfl, _, rfl⟩ := hve
                have hcl2 : wr.cell? ⟨bl, off + i, none⟩ = some (.int .i64 n) := by rw [(unhide HB).cell (p := ⟨bl, off + i, none⟩) hlb]; exact unhide HCL
                have hch := hide (choose_any wr gw 0 j cp n Y (by omega) hw1 hw2 hn.1 hn.2 hWI)
                rw [show min j 8 = j by omega] at hch
                rw [unhide HFo, unhide hsf, unhide hvd] at hch
                have q1 : ¬ ((U + j : Nat) : Int) < ((U + j : Nat) : Int) := by omega
                have q3 : ¬ n < 1 := by omega
                have q4 : ¬ (2147483647 : Int) < n := by omega
                have q5 : ¬ v < 0 := by omega
                have q6 : ¬ n ≤ v := by omega
                unfold maxLen at hw2
                clear hWI HO hvd hsf hwd hYb
                go_wp2_with fail
                refine (unhide hch).mono ?_
                rintro e w5 ⟨rfl, b5⟩
                have hcl5 : w5.cell? ⟨bl, off + i, none⟩ = some (.int .i64 n) := by rw [b5.cell (p := ⟨bl, off + i, none⟩) (by have := (unhide HB).size; show bl < _; omega)]; exact hcl2
                have HG5 := hide (show GenAt w5 b s ((U + j : Nat) : Int) from (b5.block b (lt_of_block (unhide HG))).trans (unhide HG))
                have HH5 := hide (show GenAt w5 b' s ((U + j : Nat) : Int) from (b5.block b' (lt_of_block (unhide HH))).trans (unhide HH))
                have HB5 := hide ((unhide HB).trans (b5.mono (unhide HB).size))
                have q7 : ((U + j : Nat) : Int) - U = j := by omega
                have q8 : (U : Int) + j - U = j := by omega
                have q9 : ((j : Int) != (U : Int) + j - U) = false := by rw [q8]; simp
                clear b5 HG HH HB hch hcl2 HCL
                go_wp2_with fail
                refine (used_any _ b s _ (unhide HG5)).mono ?_
                rintro e w6 ⟨rfl, rfl⟩
                go_wp2
                go_roundw
                case rel => exact ⟨i + 1, U + j, by omega, by omega, by omega, by go_num, unhide HG5, unhide HH5, unhide HB5⟩
                case measure => simp [intOf]; omega
          · have hbd := hide (below_bad wr b n hn)
            go_wp2_with fail
            refine (used_any wr b s U (unhide HG)).mono ?_
            rintro e w4 ⟨rfl, rfl⟩
            go_wp2_with fail
            refine (unhide hbd).mono ?_
            rintro e w4 ⟨rfl, rfl⟩
            go_wp2_with fail
            go_loopw [10] (fun v wx => v = .slice none 0 0 ∧ wr = wx) (fun _ _ => 0)
            case atStart => exact ⟨rfl, rfl⟩
            case round =>
              obtain ⟨rfl, rfl⟩ := hrel
              go_wp2_with fail
              refine (used_any wr b' s U (unhide HH)).mono ?_
              rintro e w4 ⟨rfl, rfl⟩
              go_wp2_with fail
              refine (used_any wr b s U (unhide HG)).mono ?_
              rintro e w4 ⟨rfl, rfl⟩
              by_cases hn1 : n < 1
              · go_wp2_with fail
                refine (used_any wr b s U (unhide HG)).mono ?_
                rintro e w4 ⟨rfl, rfl⟩
                go_wp2
                go_roundw
                case rel => exact ⟨i + 1, U, by omega, by omega, by omega, by go_num, unhide HG, unhide HH, unhide HB⟩
                case measure => simp [intOf]; omega
              · have hn2 : (2147483647 : Int) < n := by omega
                go_wp2_with fail
                refine (used_any wr b s U (unhide HG)).mono ?_
                rintro e w4 ⟨rfl, rfl⟩
                go_wp2
                go_roundw
                case rel => exact ⟨i + 1, U, by omega, by omega, by omega, by go_num, unhide HG, unhide HH, unhide HB⟩
                case measure => simp [intOf]; omega
        · go_wp2
          go_ret
          exact ⟨rfl, unhide HB⟩
      · go_wp2
        go_ret
        exact ⟨rfl, unhide HB⟩

end Go.Proofs.Ytlkbknjcjmpbfaa

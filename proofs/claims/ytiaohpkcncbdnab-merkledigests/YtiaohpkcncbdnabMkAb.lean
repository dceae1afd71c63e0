/- Contract of merkle's above. -/
import Derived.Test.YtiaohpkcncbdnabMkL
namespace Go.Proofs.Ytiaohpkcncbdnab
open Go.RowKit
set_option linter.unusedVariables false
variable {Bq : Nat}

set_option maxRecDepth 100000 in
set_option maxHeartbeats 2000000 in
theorem above_any (ps : List Prt) (a0 : Option Addr) (cap : Nat) (w : World) (hBq : Bq ≤ w.heap.size) (hG : Good ps) (hL : LvlAt Bq w a0 ps) (hc : ps.length ≤ cap) (hcm : cap ≤ maxLen) :
    Calls Try.prog 41 #[.slice a0 ps.length cap] w fun e w' => ∃ v, e = .returned v ∧ OwnP Bq w' w.heap.size v (abv shaSum ps) ∧ Below w.heap.size w w' := by
  obtain ⟨i0, hi0, hz0, hz1, hz2⟩ := info_parts Try.infoP
  unfold maxLen at hcm
  have hall := hG.all
  have HBq := hide hBq
  clear hBq
  have HG := hide hG
  have HL := hide hL
  clear hG hL
  go_enter Try.func41, Try.ntmps41
  go_wp2_with fail
  go_loopw [3, 4] (fun v i wr => ∃ k : Nat, 2 * k ≤ ps.length + 1 ∧ i = .int .i64 ((2 * k : Nat) : Int) ∧ OwnP Bq wr w.heap.size v (abv shaSum (ps.take (2 * k))) ∧ Below w.heap.size w wr) (fun _ i _ => ps.length + 1 - (intOf i).toNat)
  case atStart => exact ⟨0, by omega, rfl, OwnP.nil _ _, Below.refl _ _⟩
  case round =>
    obtain ⟨k, hk, rfl, hO, hb⟩ := hrel
    obtain ⟨xs, hown, hpc⟩ := hO
    obtain ⟨ao, cp, rfl⟩ := own_shapeN hown
    have hlv := (unhide HL).below hb
    have hlen : (abv shaSum (ps.take (2 * k))).length ≤ 1000 := by
      have h1 := abv_length shaSum (ps.take (2 * k))
      rw [List.length_take] at h1
      omega
    by_cases hlt : 2 * k < ps.length
    · obtain ⟨g, t0, c, rfl, p0, p1, p2, p3, _⟩ := hlv (2 * k) hlt
      have hpm := tot_mem ps (2 * k) hlt
      have he1 := (unhide HG).each (ps[2 * k]) (List.getElem_mem hlt)
      have q1 : ((2 * k : Nat) : Int) < ps.length := by omega
      have hpa := hide (fun w => partner_any ps.length (2 * k) w (by omega) (by omega))
      have hpt : pt (2 * k) = 2 * k + 1 := by unfold pt; rw [if_pos (by omega)]
      rw [hpt] at hpa
      clear hpt
      by_cases hlt2 : 2 * k + 1 < ps.length
      · obtain ⟨g', t1, c1, hg', r0, r1, r2, r3, _⟩ := hlv (2 * k + 1) hlt2
        simp only [Option.some.injEq, Addr.mk.injEq] at hg'
        obtain ⟨rfl, _⟩ := hg'
        have he2 := (unhide HG).each (ps[2 * k + 1]) (List.getElem_mem hlt2)
        have htt := tot_two ps (2 * k) (2 * k + 1) (by omega) hlt2
        have hjn := hide (fun w' (hb' : Below wr.heap.size wr w') => joined_any (ps[2 * k]) (ps[2 * k + 1]) _ _ w' (by have h1 := unhide HBq; have h2 := hb.size; have h3 := hb'.size; omega) ⟨t0, c, rfl, p2.below hb', p3⟩ ⟨t1, c1, rfl, r2.below hb', r3⟩ (by omega) (by omega) he1.2 he2.2 (by omega))
        have hab := hide (abv_take_two shaSum ps k hlt2)
        rw [show decide (2 * k + 1 < ps.length) = true from decide_eq_true hlt2] at hpa
        have q2 : ((2 * k + 1 : Nat) : Int) < ps.length := by omega
        generalize hP : ps[2 * k] = P at *
        generalize hR : ps[2 * k + 1] = R at *
        generalize hB1 : bs P.1 = B1 at *
        generalize hB2 : bs R.1 = B2 at *
        generalize P.2.length = n1 at *
        generalize R.2.length = n2 at *
        have hz := hb.size
        generalize hQ : abv shaSum (ps.take (2 * k)) = Q at *
        have HQ := hide hQ
        have HO := hide hown
        have HPC := hide hpc
        have HB := hide hb
        have hgl : g < w.heap.size := by
          obtain ⟨g', t', c', h1, h2, _⟩ := (unhide HL) (2 * k) hlt
          simp only [Option.some.injEq, Addr.mk.injEq] at h1
          obtain ⟨rfl, _⟩ := h1
          exact cell_lt h2
        have hob : ∀ q, (Value.slice ao Q.length cp).ownBlock = some q → w.heap.size ≤ q := fun q hq => (hown.lt q hq).1
        generalize hnq : 2 * k = n at *
        have HNQ := hide hnq
        generalize hmq : n + 1 = m at *
        have HMQ := hide hmq
        clear hmq hP hR hB1 hB2 hQ hown hpc hb hnq p2 r2 hlv
        go_wp2_with fail
        refine (unhide hpa _).mono ?_
        rintro e w4 ⟨rfl, rfl⟩
        go_wp2_with fail
        generalize hJ : joinP shaSum P R = J at *
        go_region_held3 (fun w' => w'.cell? ⟨g, n * 2, none⟩ = some (.string B1) ∧ w'.cell? ⟨g, n * 2 + 1, none⟩ = some (.slice t0 n1 c) ∧ w'.cell? ⟨g, m * 2, none⟩ = some (.string B2) ∧ w'.cell? ⟨g, m * 2 + 1, none⟩ = some (.slice t1 n2 c1)) (go_keep) (first
          | (go_at_call 46; refine (unhide hjn _ (by first | exact Below.refl _ _ | exact (Below.refl _ _).drew)).mono ?_; rintro e w5 ⟨v, rfl, ⟨t5, c5, rfl, hs5, hc5⟩, b5⟩; have b6 : Below wr.heap.size wr w5 := (Below.refl wr.heap.size wr).drew.trans b5; have e1 := cell_below p0 b6; have e2 := cell_below p1 b6; have e3 := cell_below r0 b6; have e4 := cell_below r1 b6)
          | (refine step_append_own rfl (.tmp 21) (.tmp 31) 65 rfl w.heap.size 49 i0 (.agg #[.string ⟨#[]⟩, .slice none 0 0]) 2 40 Try.undP hi0 hz0 hz1 hz2 rfl (by decide) (.slice ao Q.length cp) Q.length xs (by rfl) ((own_below2 (unhide HO) b6).alloc _) ⟨w5.heap.size, 0, none⟩ 1 1 [.string (bs J.1), .slice t5 J.2.length c5] (by rfl) (by rfl) (news_two' _ _ _ _) (by intro u hu; simp at hu; rcases hu with rfl | rfl <;> rfl) (by unfold maxLen; omega) (by omega) (by have := b6.size; simp; omega) ?_; intro v' w7 hown7 hgrow7; obtain ⟨ao', cp', rfl⟩ := own_shapeN hown7; have hx7 : w7.heap[g]? = w5.heap[g]? := (hgrow7.block g (by have := b6.size; simp; omega) (fun h => absurd (hob g h.symm) (by omega))).trans (Below.heap_alloc _ _ _ (by have := b6.size; omega)); have f1 := (cell_same (o := n * 2) hx7).trans e1; have f2 := (cell_same (o := n * 2 + 1) hx7).trans e2; have f3 := (cell_same (o := m * 2) hx7).trans e3; have f4 := (cell_same (o := m * 2 + 1) hx7).trans e4))
        have bA : Below w5.heap.size w5 (w5.alloc (.cells #[.string (bs J.1), .slice t5 J.2.length c5] 49)) := (Below.refl _ _).alloc (Nat.le_refl _) _
        have bW := b6.trans (bA.mono b6.size)
        have H7 : Hid (OwnP Bq w7 w.heap.size (.slice ao' (Q.length + 1) cp') (abv shaSum (ps.take (2 * (k + 1))))) := by
          show OwnP _ _ _ _ _
          rw [unhide hab]
          exact OwnP.more (own_below2 (unhide HO) bW) ((unhide HPC).below bW) (hs5.below bA) hc5 hown7 hgrow7
        have B7 := hide (((unhide HB).trans (bW.mono hz)).grown hgrow7 (by have := bW.size; omega) (fun q hq => hob q hq))
        have hN := unhide HNQ
        clear hown7 hgrow7 hs5 b5 b6 e1 e2 e3 e4 f1 f2 f3 f4 hx7 bA bW HO HPC HB hjn hpa HL hob
        go_wp2
        go_roundw
        case rel => exact ⟨k + 1, by omega, by rw [← hN]; go_num, unhide H7, unhide B7⟩
        case measure => simp [intOf]; omega
      · have hL1 : 2 * k + 1 = ps.length := by omega
        have hab := hide (abv_take_one shaSum ps k hL1)
        rw [show decide (2 * k + 1 < ps.length) = false from decide_eq_false hlt2] at hpa
        generalize hP : ps[2 * k] = P at *
        have hz := hb.size
        generalize hQ : abv shaSum (ps.take (2 * k)) = Q at *
        have HPC := hide hpc
        have HB := hide hb
        have HP2 := hide p2
        have hob : ∀ q, (Value.slice ao Q.length cp).ownBlock = some q → w.heap.size ≤ q := fun q hq => (hown.lt q hq).1
        have HO := hide hown
        generalize hnq : 2 * k = n at *
        have HNQ := hide hnq
        generalize hmq : n + 1 = m at *
        clear hpc hb p2 hlv hP hQ hmq hown
        go_wp2_with fail
        refine (unhide hpa _).mono ?_
        rintro e w4 ⟨rfl, rfl⟩
        go_wp2_with (at_builtin; refine wpList_append_own _ rfl _ _ 65 rfl w.heap.size 49 i0 (.agg #[.string ⟨#[]⟩, .slice none 0 0]) 2 40 Try.undP hi0 hz0 hz1 hz2 rfl (by decide) _ _ _ rfl ((unhide HO).alloc _) ⟨wr.heap.size, 0, none⟩ 1 1 [.string (bs P.1), .slice t0 P.2.length c] rfl ?c0 (news_two' _ _ _ _) ?c2 ?c3 ?c4 ?c5 ?_)
        case c0 => rfl
        case c2 => intro u hu; simp at hu; rcases hu with rfl | rfl <;> rfl
        case c3 => unfold maxLen; omega
        case c4 => omega
        case c5 => simp; omega
        intro v' w7 hown7 hgrow7 _
        obtain ⟨ao', cp', rfl⟩ := own_shapeN hown7
        have bA : Below wr.heap.size wr (wr.alloc (.cells #[.string (bs P.1), .slice t0 P.2.length c] 49)) := (Below.refl _ _).alloc (Nat.le_refl _) _
        have H7 : Hid (OwnP Bq w7 w.heap.size (.slice ao' (Q.length + 1) cp') (abv shaSum (ps.take (2 * (k + 1))))) := by
          show OwnP _ _ _ _ _
          rw [unhide hab]
          exact OwnP.more (own_below2 (unhide HO) bA) ((unhide HPC).below bA) ((unhide HP2).below bA) p3 hown7 hgrow7
        have B7 := hide (((unhide HB).trans (bA.mono hz)).grown hgrow7 (by have := bA.size; omega) (fun q hq => hob q hq))
        have hN := unhide HNQ
        clear hown7 hgrow7 bA HO HPC HB hpa HL hob HP2
        go_wp2
        go_roundw
        case rel => exact ⟨k + 1, by omega, by rw [← hN]; go_num, unhide H7, unhide B7⟩
        case measure => simp [intOf]; omega
    · have hq : ps.take (2 * k) = ps := List.take_of_length_le (by omega)
      rw [hq] at hown hpc
      have HO := hide (⟨xs, hown, hpc⟩ : OwnP Bq wr w.heap.size _ (abv shaSum ps))
      have HB := hide hb
      have q1 : ¬ ((2 * k : Nat) : Int) < ps.length := by omega
      generalize hnq : 2 * k = n at *
      rw [hq] at *
      clear hown hpc hb hnq hq hlv
      go_wp2
      go_ret
      exact ⟨_, rfl, unhide HO, unhide HB⟩

end Go.Proofs.Ytiaohpkcncbdnab

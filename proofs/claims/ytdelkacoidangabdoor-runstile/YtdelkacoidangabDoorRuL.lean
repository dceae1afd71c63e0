/- The law's awake, and RunsTile walked. -/
import Derived.Test.YtdelkacoidangabDoorRuQ
namespace Go.Proofs.YtdelkacoidangabDoor
open Go.RowKit Go.Shelf
set_option linter.unusedVariables false

theorem pcs_get (l : List (Nat × Nat)) : ∀ (i : Nat) (h : i < l.length), (pcs l)[i * 2]? = some (.int .i64 (l[i].1 : Int)) ∧ (pcs l)[i * 2 + 1]? = some (.int .i64 (l[i].2 : Int)) := by
  induction l with
  | nil => intro i h; simp at h
  | cons x l ih =>
    intro i h
    have e : pcs (x :: l) = .int .i64 (x.1 : Int) :: .int .i64 (x.2 : Int) :: pcs l := rfl
    rw [e]
    cases i with
    | zero => exact ⟨rfl, rfl⟩
    | succ i =>
      have := ih i (by simpa using h)
      rw [show (i + 1) * 2 = i * 2 + 2 by omega]
      exact this
theorem toI_get (l : List (Nat × Nat)) (i : Nat) (h : i < (toI l).length) : (toI l)[i] = (((l[i]'(by rw [toI_length] at h; exact h)).1 : Int), ((l[i]'(by rw [toI_length] at h; exact h)).2 : Int)) := by simp [toI]
theorem OwnP.spans {w : World} {base : Nat} {v : Value} {l : List (Nat × Nat)} (h : OwnP w base v l) : ∃ a0 c, v = .slice a0 (toI l).length c ∧ SpansAt w a0 (toI l) := by
  rw [toI_length]
  rcases (show World.ownsRow _ _ _ _ _ _ _ from h).2 with ⟨rfl, h0⟩ | ⟨g, cap, cur, rfl, _, hg, hnc, hcm, hcs, htake⟩
  · exact ⟨none, 0, by rw [h0], fun i hi => absurd hi (by rw [toI_length]; omega)⟩
  · refine ⟨some ⟨g, 0, none⟩, cap, rfl, fun i hi => ⟨g, 0, rfl, ⟨_, _, hg⟩, ?_, ?_⟩⟩
    · have hi' : i < l.length := by rw [toI_length] at hi; exact hi
      have h1 := (pcs_get l i hi').1
      rw [← htake, List.getElem?_take, if_pos (by omega)] at h1
      rw [Nat.zero_add, cell_of_row _ _ _ _ _ (0, 0) hg, toI_get]
      simpa using h1
    · have hi' : i < l.length := by rw [toI_length] at hi; exact hi
      have h1 := (pcs_get l i hi').2
      rw [← htake, List.getElem?_take, if_pos (by omega)] at h1
      rw [Nat.zero_add, cell_of_row _ _ _ _ _ (0, 0) hg, toI_get]
      simpa using h1
theorem lit6i (w : World) (a b c d e f : Int) (t : TypeId) : Ints (w.alloc (.cells #[.int .i64 a, .int .i64 b, .int .i64 c, .int .i64 d, .int .i64 e, .int .i64 f] t)) (some ⟨w.heap.size, 0, none⟩) [a, b, c, d, e, f] := by
  have hb := heap_alloc_new w (.cells #[.int .i64 a, .int .i64 b, .int .i64 c, .int .i64 d, .int .i64 e, .int .i64 f] t)
  intro i hi
  match i, hi with
  | 0, _ => exact ⟨_, _, rfl, by rw [cell_of_row _ _ _ _ t (0, 0) hb]; rfl⟩
  | 1, _ => exact ⟨_, _, rfl, by rw [cell_of_row _ _ _ _ t (0, 0) hb]; rfl⟩
  | 2, _ => exact ⟨_, _, rfl, by rw [cell_of_row _ _ _ _ t (0, 0) hb]; rfl⟩
  | 3, _ => exact ⟨_, _, rfl, by rw [cell_of_row _ _ _ _ t (0, 0) hb]; rfl⟩
  | 4, _ => exact ⟨_, _, rfl, by rw [cell_of_row _ _ _ _ t (0, 0) hb]; rfl⟩
  | 5, _ => exact ⟨_, _, rfl, by rw [cell_of_row _ _ _ _ t (0, 0) hb]; rfl⟩
set_option maxRecDepth 100000 in
set_option maxHeartbeats 1000000 in
theorem ruawake_any (w : World) : Calls Tryd.prog 6 #[] w fun e w' => e = .returned (.bool true) ∧ Below w.heap.size w w' := by
  have ho := hide (fun w a0 c hT => of_any 10 [0, 1, 2, 5, 7, 8] a0 c w hT (by decide))
  have hp := hide (fun w => pack_any 10 [167, 1] w (by unfold maxLen; decide))
  have ht := hide (fun w => text_any 99 (by decide) 10 [167, 1] (by decide) w (by unfold maxLen; decide) (itoaOk_small w))
  rw [ex_of.1, ex_of.2, show bs [167, 1] = ⟨#[167, 1]⟩ from rfl] at ho
  rw [ex_pack.1, ex_pack.2, show bs [167, 1] = ⟨#[167, 1]⟩ from rfl, show bs [0, 3, 2, 1, 1, 2] = ⟨#[0, 3, 2, 1, 1, 2]⟩ from rfl] at hp
  rw [ex_text, ex_ofs, show bs [167, 1] = ⟨#[167, 1]⟩ from rfl, show bs [48, 45, 50, 44, 53, 44, 55, 45, 56] = ⟨#[48, 45, 50, 44, 53, 44, 55, 45, 56]⟩ from rfl] at ht
  go_enter Tryd.func6, Tryd.ntmps6
  go_wp2_with fail
  have ba : Below w.heap.size w (w.alloc (.cells #[.int .i64 0, .int .i64 1, .int .i64 2, .int .i64 5, .int .i64 7, .int .i64 8] 3)) := (Below.refl _ _).alloc (Nat.le_refl _) _
  refine (unhide ho _ _ _ (lit6i w 0 1 2 5 7 8 3)).mono ?_
  rintro e w1 ⟨rfl, b1⟩
  have B1 := hide (ba.trans (b1.mono ba.size))
  clear b1 ba
  go_wp2_with fail
  refine (unhide hp _).mono ?_
  rintro e w2 ⟨rfl, b2⟩
  have B2 := hide ((unhide B1).trans (b2.mono (unhide B1).size))
  clear b2 B1
  go_wp2_with fail
  refine (unhide ht _).mono ?_
  rintro e w3 ⟨rfl, b3⟩
  have B3 := hide ((unhide B2).trans (b3.mono (unhide B2).size))
  clear b3 B2
  go_wp2
  go_ret
  exact ⟨rfl, unhide B3⟩
set_option maxRecDepth 100000 in
set_option maxHeartbeats 8000000 in
theorem runsTile_by (n : Int) (s : By) (w : World) (hs : s.length ≤ maxLen) : Calls Tryd.prog 3 #[.int .i64 n, .string (bs s)] w fun e w' => e = .returned (.bool true) ∧ Below w.heap.size w w' := by
  have haw := hide ruawake_any
  have hof := hide (fun w => rof_any n s w hs)
  have hga := hide (fun w => gaps_any n s w hs)
  have hck := hide (fun w => check_any n s w hs)
  unfold ofsE ofsR at hof
  unfold gapE gapR at hga
  cases hC : chkI n s with
  | false =>
    rw [hC] at hof hga hck
    simp only [Bool.false_eq_true, if_false] at hof hga
    generalize bs s = S at *
    clear hC
    go_enter Tryd.func3, Tryd.ntmps3
    go_wp2_with fail
    refine (unhide hof _).mono ?_
    rintro e w1 ⟨v, rfl, _, b1⟩
    have B1 := hide b1
    clear b1
    go_wp2_with fail
    refine (unhide hga _).mono ?_
    rintro e w2 ⟨v2, rfl, _, b2⟩
    have B2 := hide ((unhide B1).trans (b2.mono (unhide B1).size))
    clear b2 B1
    go_wp2_with fail
    refine (unhide haw _).mono ?_
    rintro e w3 ⟨rfl, b3⟩
    have B3 := hide ((unhide B2).trans (b3.mono (unhide B2).size))
    clear b3 B2
    go_wp2_with fail
    refine (unhide hck _).mono ?_
    rintro e w4 ⟨rfl, b4⟩
    have B4 := hide ((unhide B3).trans (b4.mono (unhide B3).size))
    clear b4 B3
    go_wp2
    go_ret
    exact ⟨rfl, unhide B4⟩
  | true =>
    obtain ⟨m, rfl, hch, hm, hl, hl20⟩ := chkI_facts hC
    obtain ⟨r1, r2, r3⟩ := rest_facts hch
    have hC2 : chkI m (restL m s) = true := by rw [chkI_nat]; exact r1
    rw [hC] at hof hga
    simp only [if_true, Int.toNat_natCast] at hof hga
    unfold ofsE ofsR at hga
    rw [hC2] at hga
    simp only [if_true, Int.toNat_natCast] at hga
    have hR := rest_of hch
    have hl1 : (runsL s m).length ≤ 161 := Nat.le_trans (rl_le s (m + 1)).2 (by omega)
    have hl2 : (runsL (restL m s) m).length ≤ 161 := Nat.le_trans (rl_le (restL m s) (m + 1)).2 (by omega)
    have hs1 := hide (fun a0 c w hT => set_any m (toI (runsL s m)) (by rw [toI_length]; omega) a0 c w hT)
    have hs2 := hide (fun a0 c w hT => set_any m (toI (runsL (restL m s) m)) (by rw [toI_length]; omega) a0 c w hT)
    rw [(set_runs hch).1, (set_runs hch).2] at hs1
    rw [(set_runs r1).1, (set_runs r1).2] at hs2
    have hor := hide (fun w => or_any s (restL m s) w (by omega) (by omega))
    have hfu := hide (full_any m)
    rw [(or_rest hch).1, (or_rest hch).2] at hor
    have hz1 : (toI (runsL s m)).length = (runsL s m).length := toI_length _
    have hz2 : (toI (runsL (restL m s) m)).length = (runsL (restL m s) m).length := toI_length _
    have hst : ∀ x ∈ runsL s m, bitAt s x.1 = true := rl_start s (m + 1)
    have hg1 : ∀ i (h : i < (toI (runsL s m)).length), (toI (runsL s m))[i] = ((((runsL s m)[i]'(by rw [toI_length] at h; exact h)).1 : Int), (((runsL s m)[i]'(by rw [toI_length] at h; exact h)).2 : Int)) := toI_get _
    have hg2 : ∀ i (h : i < (toI (runsL (restL m s) m)).length), (toI (runsL (restL m s) m))[i] = ((((runsL (restL m s) m)[i]'(by rw [toI_length] at h; exact h)).1 : Int), (((runsL (restL m s) m)[i]'(by rw [toI_length] at h; exact h)).2 : Int)) := toI_get _
    have HZ1 := hide hz1
    have HZ2 := hide hz2
    have HG1 := hide hg1
    have HG2 := hide hg2
    have HST := hide hst
    have HR := hide hR
    have HL1 := hide hl1
    have HL2 := hide hl2
    clear hC hC2 r1 r2 r3 hch hz1 hz2 hg1 hg2 hst hR hl1 hl2
    generalize bs s = S at *
    generalize bs (restL m s) = RS at *
    generalize bs (fullL m) = FL at *
    go_enter Tryd.func3, Tryd.ntmps3
    go_wp2_with fail
    refine (unhide hof _).mono ?_
    rintro e w1 ⟨v, rfl, ho1, b1⟩
    obtain ⟨a0, c, rfl, hT1⟩ := ho1.spans
    have B1 := hide b1
    clear b1 ho1 hof
    go_wp2_with fail
    refine (unhide hga _).mono ?_
    rintro e w2 ⟨v2, rfl, ho2, b2⟩
    obtain ⟨b0, d, rfl, hT2⟩ := ho2.spans
    have hT3 := hT1.below b2
    have B2 := hide ((unhide B1).trans (b2.mono (unhide B1).size))
    have HT3 := hide hT3
    have HT2 := hide hT2
    clear b2 B1 ho2 hT1 hga hT3 hT2
    go_wp2
    go_loopw [9, 10, 11] (fun at_ i k wr => ∃ p a b : Nat, at_ = .int .i64 p ∧ i = .int .i64 a ∧ k = .int .i64 b ∧ TileI s (restL m s) m p a b ∧ w2 = wr) (fun at_ _ _ _ => m + 1 - (intOf at_).toNat)
    case atStart => exact ⟨0, 0, 0, rfl, rfl, rfl, tile_start, rfl⟩
    case round =>
      obtain ⟨p, a, b, rfl, rfl, rfl, hI, rfl⟩ := hrel
      have hpm := hI.meet.le
      by_cases hp : p < m
      · cases hb : bitAt s p with
        | true =>
          obtain ⟨q, q1, q2, hget, hT⟩ := tile_run (unhide HR) hI hp hb
          obtain ⟨ha, hax⟩ := List.getElem?_eq_some_iff.1 hget
          have ha' : a < (toI (runsL s m)).length := by rw [unhide HZ1]; exact ha
          obtain ⟨g, o, rfl, _, c1, c2⟩ := unhide HT3 a ha'
          rw [unhide HG1 a ha', hax] at c1 c2
          simp only at c1 c2
          have HI := hide hT
          have i1 : (a : Int) < ((toI (runsL s m)).length : Int) := by omega
          have i2 : ((p : Int) == (p : Int)) = true := by simp
          have i3 : (p : Int) < (q : Int) := by omega
          have i4 : (a : Int) < 1000 := by have := unhide HZ1; have := unhide HL1; omega
          clear hT hax hget hI hb ha HG1 HG2 HST HT3 HT2 HZ1 HZ2 ha'
          generalize (toI (runsL s m)).length = LA at *
          generalize (toI (runsL (restL m s) m)).length = LB at *
          go_wp2
          go_roundw
          case rel => exact ⟨q, a + 1, b, rfl, by go_num, rfl, unhide HI, by trivial⟩
          case measure => simp [intOf]; omega
        | false =>
          obtain ⟨q, q1, q2, hget, hT⟩ := tile_gap (unhide HR) hI hp hb
          obtain ⟨ha, hax⟩ := List.getElem?_eq_some_iff.1 hget
          have ha' : b < (toI (runsL (restL m s) m)).length := by rw [unhide HZ2]; exact ha
          obtain ⟨g, o, rfl, _, c1, c2⟩ := unhide HT2 b ha'
          rw [unhide HG2 b ha', hax] at c1 c2
          simp only at c1 c2
          have HI := hide hT
          have i1 : (b : Int) < ((toI (runsL (restL m s) m)).length : Int) := by omega
          have i3 : (p : Int) < (q : Int) := by omega
          have i4 : (b : Int) < 1000 := by have := unhide HZ2; have := unhide HL2; omega
          clear hT hax hget hI ha
          by_cases hal : a < (toI (runsL s m)).length
          · have hal' : a < (runsL s m).length := by rw [← unhide HZ1]; exact hal
            obtain ⟨g2, o2, rfl, _, c3, c4⟩ := unhide HT3 a hal
            rw [unhide HG1 a hal] at c3 c4
            have hx := unhide HST _ (List.getElem_mem hal')
            obtain ⟨⟨x1, x2⟩, hxe⟩ : ∃ x, (runsL s m)[a] = x := ⟨_, rfl⟩
            rw [hxe] at c3 c4 hx
            simp only at c3 c4 hx
            have hxp : x1 ≠ p := by
              rintro rfl
              rw [hb] at hx; cases hx
            have i5 : (a : Int) < ((toI (runsL s m)).length : Int) := by omega
            have i6 : ((x1 : Int) == (p : Int)) = false := by rw [beq_eq_false_iff_ne]; omega
            have i7 : ¬ (x1 : Int) = (p : Int) := by omega
            clear hb hx hxe hal' HG1 HG2 HST HT3 HT2 HZ1 HZ2 hal ha'
            generalize (toI (runsL s m)).length = LA at *
            generalize (toI (runsL (restL m s) m)).length = LB at *
            go_wp2
            go_roundw
            case rel => exact ⟨q, a, b + 1, rfl, rfl, by go_num, unhide HI, by trivial⟩
            case measure => simp [intOf]; omega
          · have i5 : ¬ (a : Int) < ((toI (runsL s m)).length : Int) := by omega
            clear hb HG1 HG2 HST HT3 HT2 HZ1 HZ2 hal ha'
            generalize (toI (runsL s m)).length = LA at *
            generalize (toI (runsL (restL m s) m)).length = LB at *
            go_wp2
            go_roundw
            case rel => exact ⟨q, a, b + 1, rfl, rfl, by go_num, unhide HI, by trivial⟩
            case measure => simp [intOf]; omega
      · have hpe : m = p := by omega
        subst hpe
        obtain ⟨t1, t2, t3, t4⟩ := tile_end hI
        have k1 := hide (unhide hs1 a0 c w2 (unhide HT3))
        have k2 := hide (fun w' (hb : Below w2.heap.size w2 w') => unhide hs2 b0 d w' ((unhide HT2).below hb))
        have i1 : ¬ (a : Int) < ((toI (runsL s m)).length : Int) := by have := unhide HZ1; omega
        have i2 : ¬ (b : Int) < ((toI (runsL (restL m s) m)).length : Int) := by have := unhide HZ2; omega
        have i3 : (a : Int) ≤ 200 := by have := unhide HL1; omega
        have i4 : (b : Int) ≤ 200 := by have := unhide HL2; omega
        have i5 : (a : Int) - (b : Int) ≤ 1 := by omega
        have i6 : (b : Int) - (a : Int) ≤ 1 := by omega
        clear t1 t2 t3 t4 hI HG1 HG2 HST HT3 HT2 HZ1 HZ2 HL1 HL2 hs1 hs2
        generalize (toI (runsL s m)).length = LA at *
        generalize (toI (runsL (restL m s) m)).length = LB at *
        go_wp2_with fail
        refine (unhide k1).mono ?_
        rintro e w3 ⟨rfl, b3⟩
        have k3 := hide (unhide k2 w3 b3)
        have B3 := hide ((unhide B2).trans (b3.mono (unhide B2).size))
        clear b3 B2 k1 k2
        go_wp2_with fail
        refine (unhide k3).mono ?_
        rintro e w4 ⟨rfl, b4⟩
        have B4 := hide ((unhide B3).trans (b4.mono (unhide B3).size))
        clear b4 B3 k3
        go_wp2_with fail
        refine (unhide hor _).mono ?_
        rintro e w5 ⟨rfl, b5⟩
        have B5 := hide ((unhide B4).trans (b5.mono (unhide B4).size))
        clear b5 B4
        go_wp2_with fail
        refine (unhide haw _).mono ?_
        rintro e w6 ⟨rfl, b6⟩
        have B6 := hide ((unhide B5).trans (b6.mono (unhide B5).size))
        clear b6 B5
        go_wp2_with fail
        refine (unhide hfu _).mono ?_
        rintro e w7 ⟨rfl, b7⟩
        have B7 := hide ((unhide B6).trans (b7.mono (unhide B6).size))
        clear b7 B6
        go_wp2
        go_ret
        exact ⟨rfl, unhide B7⟩
theorem runsTile_any (n : Int) (s : ByteArray) (w : World) (hs : s.size ≤ maxLen) : Calls Tryd.prog 3 #[.int .i64 n, .string s] w fun e w' => e = .returned (.bool true) ∧ Below w.heap.size w w' := by
  rw [← bs_of s]
  exact runsTile_by n s.data.toList w (by rw [← show s.size = s.data.toList.length from by simp]; exact hs)
end Go.Proofs.YtdelkacoidangabDoor

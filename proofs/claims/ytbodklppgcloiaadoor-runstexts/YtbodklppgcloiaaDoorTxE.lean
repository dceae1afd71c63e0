/- Contract of the document's Text. -/
import Derived.Test.YtbodklppgcloiaaDoorTxD
namespace Go.Proofs.YtbodklppgcloiaaDoor
open Go.RowKit Go.Shelf
set_option linter.unusedVariables false
attribute [local go_sem] Oper.semAt_some

theorem run_part {n : Nat} {s : By} (hc : chk n s = true) {k : Nat} (hk : k < (runsL s n).length) : (runsL s n)[k].1 < (runsL s n)[k].2 ∧ (runsL s n)[k].2 ≤ 160 := (run_at hc hk).2
set_option maxRecDepth 100000 in
set_option maxHeartbeats 8000000 in
theorem rtext_any (n : Int) (s : By) (w : World) (hs : s.length ≤ maxLen) : Calls Tryd.prog 22 #[.int .i64 n, .string (bs s)] w fun e w' => e = .returned (.tuple #[.string (bs (textR n s)), .int .i64 (ofsE n s)]) ∧ Below w.heap.size w w' := by
  have ho := hide (fun w => rsof_any n s true w hs)
  rw [docR_true] at ho
  cases hC : chkI n s with
  | false =>
    have e1 : ofsR n s = [] := by unfold ofsR; rw [if_neg (by rw [hC]; simp)]
    have e2 : ofsE n s = 3 := by unfold ofsE; rw [if_neg (by rw [hC]; simp)]
    have e3 : textR n s = [] := by unfold textR; rw [if_neg (by rw [hC]; simp)]
    rw [e1, e2] at ho
    rw [e2, e3, show bs [] = (⟨#[]⟩ : ByteArray) from rfl]
    clear e1 e2 e3 hC
    generalize bs s = S at *
    go_enter Tryd.func22, Tryd.ntmps22
    go_wp2_with fail
    refine (unhide ho _).mono ?_
    rintro e w1 ⟨v, rfl, o1, b1⟩
    obtain ⟨a1, c1, rfl, t1⟩ := o1.own.spr
    have B1 := hide b1
    clear b1 o1 t1
    go_wp2
    go_ret2
    exact ⟨rfl, unhide B1⟩
  | true =>
    obtain ⟨m, rfl, hch, hm, hl, hl20⟩ := chkI_facts hC
    have e1 : ofsR m s = runsL s m := by unfold ofsR; rw [if_pos hC, Int.toNat_natCast]
    have e2 : ofsE m s = 0 := by unfold ofsE; rw [if_pos hC]
    rw [e1, e2] at ho
    rw [e2, text_eq hch]
    have hat := hide (fun k hk => run_part hch (k := k) hk)
    have hall : ∀ x ∈ runsL s m, x.1 < x.2 ∧ x.2 ≤ 160 := fun x hx => ok_part hm (runs_ok hch) x hx
    have hLL : (runsL s m).length ≤ 161 := Nat.le_trans (rl_le s _).2 (by omega)
    generalize hR : runsL s m = L at *
    clear e1 e2 hC hch hl hl20 hR
    generalize bs s = S at *
    go_enter Tryd.func22, Tryd.ntmps22
    go_wp2_with fail
    refine (unhide ho _).mono ?_
    rintro e w1 ⟨v, rfl, o1, b1⟩
    obtain ⟨a1, c1, rfl, t1⟩ := o1.own.spr
    rw [toI_length]
    have B1 := hide b1
    have T1 := hide t1
    clear b1 o1 t1 ho
    by_cases hE : L = []
    · subst hE
      rw [show ([] : List (Nat × Nat)).length = 0 from rfl]
      go_wp2
      go_ret2
      exact ⟨rfl, unhide B1⟩
    · have htx : textL L = jn L := by unfold textL; rw [if_neg hE]; rfl
      have HTX := hide htx
      obtain ⟨N, hN⟩ : ∃ N, N = L.length := ⟨_, rfl⟩
      have hpos : 0 < N := by rw [hN]; exact List.length_pos_iff.2 hE
      have HN := hide hN
      rw [← hN]
      rw [← hN] at hLL
      have q0 : ((N : Int) == 0) = false := by simp; omega
      have HALL := hide hall
      clear hN hall htx
      go_wp2
      go_loopw [8, 9] (fun t i wr => ∃ k : Nat, k ≤ N ∧ i = .int .i64 k ∧ t = .string (bs (jn (L.take k))) ∧ Below w1.heap.size w1 wr) (fun _ i _ => N - (intOf i).toNat)
      case atStart => exact ⟨0, Nat.zero_le _, rfl, rfl, Below.refl _ _⟩
      case round =>
        obtain ⟨k, hk, rfl, rfl, hB⟩ := hrel
        have hjl : (jn (L.take k)).length ≤ 2000 := by
          have := jn_len (L.take k) (fun x hx => unhide HALL x (List.mem_of_mem_take hx))
          rw [List.length_take] at this; omega
        by_cases hlt : k < N
        · have hlt' : k < L.length := by rw [← unhide HN]; exact hlt
          have q1 : (k : Int) < (N : Int) := by omega
          obtain ⟨g2, g3⟩ := unhide hat k hlt'
          obtain ⟨g, o, rfl, y0, y1⟩ := unhide T1 k (by rw [toI_length]; exact hlt')
          have z0 := cell_below y0 hB
          have z1 := cell_below y1 hB
          have HT : Hid (L.take (k + 1) = L.take k ++ [L[k]]) := List.take_succ_eq_append_getElem hlt'
          have hx : (toI L)[k]'(by rw [toI_length]; exact hlt') = ((L[k].1 : Int), (L[k].2 : Int)) := by simp [toI]
          rw [hx] at z0 z1
          simp only at z0 z1
          obtain ⟨⟨x1, x2⟩, hxe⟩ : ∃ x, L[k] = x := ⟨_, rfl⟩
          rw [hxe] at z0 z1 HT g2 g3
          simp only at z0 z1 g2 g3
          obtain ⟨c, rfl⟩ : ∃ c, x2 = c + 1 := ⟨x2 - 1, by omega⟩
          have hc1e : ((c + 1 : Nat) : Int) = (c : Int) + 1 := by omega
          rw [hc1e] at z1
          have k1 := hide (fun w => digits_any x1 (by omega) w)
          have k2 := hide (fun w => digits_any c (by omega) w)
          have d1 := decDigits_le x1 (by omega)
          have d2 := decDigits_le c (by omega)
          -- what is written: with a comma ahead, but for the first
          obtain ⟨S0, hS0, hS1⟩ : ∃ S0 : By, (k = 0 → S0 = jn (L.take k)) ∧ (k ≠ 0 → S0 = jn (L.take k) ++ [44]) := by
            by_cases h0 : k = 0
            · exact ⟨jn (L.take k), fun _ => rfl, fun h => absurd h0 h⟩
            · exact ⟨jn (L.take k) ++ [44], fun h => absurd h h0, fun _ => rfl⟩
          have hJ : Hid (jn (L.take (k + 1)) = S0 ++ partL (x1, c + 1)) := by
            show _ = _
            by_cases h0 : k = 0
            · rw [hS0 h0, unhide HT]
              subst h0
              simp only [List.take_zero, List.nil_append]
              rw [jn_one]; rfl
            · have hne : L.take k ≠ [] := by
                intro h
                have := congrArg List.length h
                rw [List.length_take, List.length_nil] at this
                omega
              rw [hS1 h0, unhide HT, jn_snoc _ _ hne]
              simp
          have hS0l : S0.length ≤ 2001 := by
            by_cases h0 : k = 0
            · rw [hS0 h0]; omega
            · rw [hS1 h0]; simp; omega
          have HB := hide hB
          have hl1 : (bs (jn (L.take k))).size ≤ 2000 := by rw [bs_size]; exact hjl
          have hl2 : (bs S0).size ≤ 2001 := by rw [bs_size]; exact hS0l
          have hl3 : (bs (Lib.decDigits x1)).size ≤ 3 := by rw [bs_size]; exact d1
          have hl4 : (bs (Lib.decDigits c)).size ≤ 3 := by rw [bs_size]; exact d2
          have hl5 : (bs S0 ++ bs (Lib.decDigits x1)).size ≤ 2010 := by rw [bs_append, bs_size]; simp; omega
          have hl6 : (bs S0 ++ bs (Lib.decDigits x1) ++ ⟨#[45]⟩).size ≤ 2012 := by rw [show (⟨#[45]⟩ : ByteArray) = bs [45] from rfl, bs_append, bs_append, bs_size]; simp; omega
          have hfin1 : Hid (x1 = c → bs S0 ++ bs (Lib.decDigits x1) = bs (jn (L.take (k + 1)))) := by
            intro h
            rw [unhide hJ, bs_append]
            unfold partL
            rw [if_pos (by simp only; omega)]
          have hfin2 : Hid (x1 ≠ c → bs S0 ++ bs (Lib.decDigits x1) ++ ⟨#[45]⟩ ++ bs (Lib.decDigits c) = bs (jn (L.take (k + 1)))) := by
            intro h
            rw [show (⟨#[45]⟩ : ByteArray) = bs [45] from rfl, bs_append, bs_append, bs_append, unhide hJ]
            unfold partL
            rw [if_neg (by simp only; omega)]
            simp
          have hcm : Hid (k ≠ 0 → bs (jn (L.take k)) ++ ⟨#[44]⟩ = bs S0) := by
            intro h0
            rw [show (⟨#[44]⟩ : ByteArray) = bs [44] from rfl, bs_append, hS1 h0]
          have hcz : Hid (k = 0 → bs (jn (L.take k)) = bs S0) := by
            intro h0
            rw [hS0 h0]
          clear hjl y0 y1 hx hxe hB hS0 hS1 hS0l d1 d2 hc1e
          generalize bs (Lib.decDigits x1) = D1 at *
          generalize bs (Lib.decDigits c) = D2 at *
          generalize bs S0 = SS at *
          generalize bs (jn (L.take k)) = J0 at *
          by_cases h0 : k = 0
          · have hj0 := unhide hcz h0
            subst hj0
            subst h0
            rw [Nat.zero_mul, Nat.add_zero] at z0 z1
            go_wp2_with fail
            refine (unhide k1 _).mono ?_
            rintro e w2 ⟨rfl, b2⟩
            have B2 := hide ((unhide HB).trans (b2.mono (unhide HB).size))
            have z0' := cell_below z0 b2
            have z1' := cell_below z1 b2
            clear b2 z0 z1
            have hc0 : ∀ x : Gb w2, x.w.cell? ⟨g, o, none⟩ = some (.int .i64 (x1 : Int)) := fun x => gb_cell z0' x
            have hc1 : ∀ x : Gb w2, x.w.cell? ⟨g, o + 1, none⟩ = some (.int .i64 ((c : Int) + 1)) := fun x => gb_cell z1' x
            go_wp2_with fail
            have hne := gb_ne w2
            refine wp_region_gr (fun x => Below w2.heap.size w2 x) (by kernel_rfl) (by kernel_rfl) (gb_start w2) ?_
            repeat (go_big_quiet_step ((fail)))
            refine wpQuiet_nil ?_
            rintro w3 ⟨⟨_, b3⟩, rfl⟩
            have B3 := hide ((unhide B2).trans (b3.mono (unhide B2).size))
            have z1'' := cell_below z1' b3
            clear b3 hne hc0 hc1 z0' z1' B2
            by_cases hxc : x1 = c
            · have HF := hide (unhide hfin1 hxc)
              have p1 : ¬ (x1 : Int) + 1 < (c : Int) + 1 := by omega
              go_wp2
              go_roundw
              case rel => exact ⟨0 + 1, by omega, by go_num, by rw [← unhide HF], unhide B3⟩
              case measure => simp [intOf]; omega
            · have HF := hide (unhide hfin2 hxc)
              have p1 : (x1 : Int) + 1 < (c : Int) + 1 := by omega
              have p2 : (c : Int) + 1 - 1 = c := by omega
              go_wp2_with fail
              refine (unhide k2 _).mono ?_
              rintro e w4 ⟨rfl, b4⟩
              have B4 := hide ((unhide B3).trans (b4.mono (unhide B3).size))
              clear b4
              go_wp2
              go_roundw
              case rel => exact ⟨0 + 1, by omega, by go_num, by rw [← unhide HF], unhide B4⟩
              case measure => simp [intOf]; omega
          · have p0 : (0 : Int) < (k : Int) := by omega
            have hj0 := unhide hcm h0
            go_wp2_with fail
            refine (unhide k1 _).mono ?_
            rintro e w2 ⟨rfl, b2⟩
            have B2 := hide ((unhide HB).trans (b2.mono (unhide HB).size))
            have z0' := cell_below z0 b2
            have z1' := cell_below z1 b2
            clear b2 z0 z1
            have hc0 : ∀ x : Gb w2, x.w.cell? ⟨g, o + k * 2, none⟩ = some (.int .i64 (x1 : Int)) := fun x => gb_cell z0' x
            have hc1 : ∀ x : Gb w2, x.w.cell? ⟨g, o + k * 2 + 1, none⟩ = some (.int .i64 ((c : Int) + 1)) := fun x => gb_cell z1' x
            go_wp2_with fail
            have hne := gb_ne w2
            refine wp_region_gr (fun x => Below w2.heap.size w2 x) (by kernel_rfl) (by kernel_rfl) (gb_start w2) ?_
            repeat (go_big_quiet_step ((fail)))
            refine wpQuiet_nil ?_
            rintro w3 ⟨⟨_, b3⟩, rfl⟩
            have B3 := hide ((unhide B2).trans (b3.mono (unhide B2).size))
            have z1'' := cell_below z1' b3
            clear b3 hne hc0 hc1 z0' z1' B2
            by_cases hxc : x1 = c
            · have HF := hide (unhide hfin1 hxc)
              have p1 : ¬ (x1 : Int) + 1 < (c : Int) + 1 := by omega
              go_wp2
              go_roundw
              case rel => exact ⟨k + 1, by omega, by go_num, by rw [← unhide HF], unhide B3⟩
              case measure => simp [intOf]; omega
            · have HF := hide (unhide hfin2 hxc)
              have p1 : (x1 : Int) + 1 < (c : Int) + 1 := by omega
              have p2 : (c : Int) + 1 - 1 = c := by omega
              go_wp2_with fail
              refine (unhide k2 _).mono ?_
              rintro e w4 ⟨rfl, b4⟩
              have B4 := hide ((unhide B3).trans (b4.mono (unhide B3).size))
              clear b4
              go_wp2
              go_roundw
              case rel => exact ⟨k + 1, by omega, by go_num, by rw [← unhide HF], unhide B4⟩
              case measure => simp [intOf]; omega
        · have q1 : ¬ (k : Int) < (N : Int) := by omega
          have hke : k = L.length := by have := unhide HN; omega
          have HT : Hid (L.take k = L) := by show _ = _; rw [hke, List.take_length]
          have HB := hide hB
          rw [unhide HT]
          clear hB hke hjl
          obtain ⟨S0, hS0⟩ : ∃ S0, S0 = bs (jn L) := ⟨_, rfl⟩
          rw [← hS0]
          have HS0 := hide hS0
          clear hS0
          go_wp2
          go_ret2
          exact ⟨by rw [unhide HTX, ← unhide HS0]; rfl, (unhide B1).trans ((unhide HB).mono (unhide B1).size)⟩
end Go.Proofs.YtbodklppgcloiaaDoor

/- Contracts of the document's Num and Pack. -/
import Derived.Test.YtbodklppgcloiaaDoorRuR
import Derived.Test.YtbodklppgcloiaaDoorRefO
namespace Go.Proofs.YtbodklppgcloiaaDoor
open Go.RowKit Go.Shelf
set_option linter.unusedVariables false
attribute [local go_sem] Oper.semAt_some

theorem docR_true (n : Int) (s : By) : docR n s true = ofsR n s := by
  unfold docR ofsR
  split
  · rfl
  · rfl
theorem dnum_any (n size : Int) (w : World) :
    Calls Tryd.prog 44 #[.int .i64 n, .int .i64 size] w fun x w' => x = .returned (.string ⟨(putS n size).1.toArray⟩) ∧ Below w.heap.size w w' := by
  have hq := hide (fun w => rput_any n size w)
  generalize (putS n size).1 = t at *
  generalize (putS n size).2 = er at *
  go_enter Tryd.func44, Tryd.ntmps44
  go_wp2_with fail
  refine (unhide hq _).mono ?_
  rintro e w1 ⟨rfl, b1⟩
  go_wp2
  go_ret
  exact ⟨rfl, b1⟩
theorem dnum_one (n : Nat) (hn : n < 256) (w : World) :
    Calls Tryd.prog 44 #[.int .i64 (n : Int), .int .i64 1] w fun x w' => x = .returned (.string (bs [UInt8.ofNat n])) ∧ Below w.heap.size w w' := by
  have h := dnum_any n 1 w
  rw [putS_one hn] at h
  exact h
/-- where the last one ends -/
def enL (l : List (Nat × Nat)) : Nat := l.foldl (fun _ x => x.2) 0
theorem enL_snoc (l : List (Nat × Nat)) (x : Nat × Nat) : enL (l ++ [x]) = x.2 := by simp [enL]
theorem enL_gEnd (l : List (Nat × Nat)) : (enL l : Int) = gEnd (toI l) ∨ (l = [] ∧ enL l = 0) := by
  rcases List.eq_nil_or_concat l with rfl | ⟨l', x, rfl⟩
  · exact .inr ⟨rfl, rfl⟩
  · refine .inl ?_
    rw [List.concat_eq_append, enL_snoc, toI_append, show toI [x] = [((x.1 : Int), (x.2 : Int))] from rfl, gEnd_snoc]
theorem pkB_snoc : ∀ (l : List (Nat × Nat)) (e : Nat) (x : Nat × Nat), pkB e (l ++ [x]) = pkB e l ++ [UInt8.ofNat (x.1 - l.foldl (fun _ x => x.2) e)] ++ [UInt8.ofNat (x.2 - x.1)]
  | [], e, x => rfl
  | y :: l, e, x => by
    have := pkB_snoc l y.2 x
    show UInt8.ofNat (y.1 - e) :: UInt8.ofNat (y.2 - y.1) :: pkB y.2 (l ++ [x]) = _
    rw [this]
    simp [pkB]
theorem run_at {n : Nat} {s : By} (hc : chk n s = true) {k : Nat} (hk : k < (runsL s n).length) : enL ((runsL s n).take k) ≤ (runsL s n)[k].1 ∧ (runsL s n)[k].1 < (runsL s n)[k].2 ∧ (runsL s n)[k].2 ≤ 160 := by
  have hok := runs_ok hc
  have hn := chk_le hc
  have h1 := hok k (((runsL s n)[k].1 : Int), ((runsL s n)[k].2 : Int)) (by simp [toI, List.getElem?_map, List.getElem?_eq_getElem hk])
  rw [show (toI (runsL s n)).take k = toI ((runsL s n).take k) by simp [toI, List.map_take]] at h1
  obtain ⟨g1, g2, g3⟩ := gNext_iff.1 h1
  simp only at g1 g2 g3
  rcases enL_gEnd ((runsL s n).take k) with h | ⟨_, h⟩
  · omega
  · omega
set_option maxRecDepth 100000 in
set_option maxHeartbeats 4000000 in
theorem rpack_any (n : Int) (s : By) (w : World) (hs : s.length ≤ maxLen) : Calls Tryd.prog 18 #[.int .i64 n, .string (bs s)] w fun e w' => e = .returned (.tuple #[.string (bs (packR n s)), .int .i64 (packE n s)]) ∧ Below w.heap.size w w' := by
  have ho := hide (fun w => rsof_any n s true w hs)
  rw [docR_true] at ho
  cases hC : chkI n s with
  | false =>
    have e1 : ofsR n s = [] := by unfold ofsR; rw [if_neg (by rw [hC]; simp)]
    have e2 : ofsE n s = 3 := by unfold ofsE; rw [if_neg (by rw [hC]; simp)]
    have e3 : packR n s = [] := by unfold packR; rw [if_neg (by rw [hC]; simp)]
    have e4 : packE n s = 3 := by unfold packE; rw [if_neg (by rw [hC]; simp)]
    rw [e1, e2] at ho
    rw [e3, e4, show bs [] = (⟨#[]⟩ : ByteArray) from rfl]
    clear e1 e2 e3 e4 hC
    generalize bs s = S at *
    go_enter Tryd.func18, Tryd.ntmps18
    go_wp2_with fail
    refine (unhide ho _).mono ?_
    rintro e w1 ⟨v, rfl, o1, b1⟩
    obtain ⟨a1, c1, rfl, t1⟩ := o1.own.spr
    rw [show (toI []).length = 0 from rfl]
    have B1 := hide b1
    clear b1 o1 t1
    go_wp2
    go_loopw [8, 9, 10] (fun t e i wr => i = .int .i64 0 ∧ t = .string ⟨#[]⟩ ∧ e = .int .i64 0 ∧ wr = w1) (fun _ _ _ _ => 0)
    case atStart => exact ⟨rfl, rfl, rfl, rfl⟩
    case round =>
      obtain ⟨rfl, rfl, rfl, rfl⟩ := hrel
      go_wp2
      go_ret2
      exact ⟨rfl, unhide B1⟩
  | true =>
    obtain ⟨m, rfl, hch, hm, hl, hl20⟩ := chkI_facts hC
    have e1 : ofsR m s = runsL s m := by unfold ofsR; rw [if_pos hC, Int.toNat_natCast]
    have e2 : ofsE m s = 0 := by unfold ofsE; rw [if_pos hC]
    rw [e1, e2] at ho
    rw [(pack_eq hch).1, (pack_eq hch).2]
    have hat := hide (fun k hk => run_at hch (k := k) hk)
    have hLL : (runsL s m).length ≤ 161 := Nat.le_trans (rl_le s _).2 (by omega)
    generalize hR : runsL s m = L at *
    clear e1 e2 hC hch hl hl20 hR
    generalize bs s = S at *
    go_enter Tryd.func18, Tryd.ntmps18
    go_wp2_with fail
    refine (unhide ho _).mono ?_
    rintro e w1 ⟨v, rfl, o1, b1⟩
    obtain ⟨a1, c1, rfl, t1⟩ := o1.own.spr
    rw [toI_length]
    have B1 := hide b1
    have T1 := hide t1
    obtain ⟨N, hN⟩ : ∃ N, N = L.length := ⟨_, rfl⟩
    have HN := hide hN
    rw [← hN]
    rw [← hN] at hLL
    clear b1 o1 t1 hN ho
    go_wp2
    go_loopw [8, 9, 10] (fun t e i wr => ∃ k : Nat, k ≤ N ∧ i = .int .i64 k ∧ t = .string (bs (pkB 0 (L.take k))) ∧ e = .int .i64 (enL (L.take k) : Int) ∧ Below w1.heap.size w1 wr) (fun _ _ i _ => N - (intOf i).toNat)
    case atStart => exact ⟨0, Nat.zero_le _, rfl, rfl, rfl, Below.refl _ _⟩
    case round =>
      obtain ⟨k, hk, rfl, rfl, rfl, hB⟩ := hrel
      by_cases hlt : k < N
      · have hlt' : k < L.length := by rw [← unhide HN]; exact hlt
        have q1 : (k : Int) < (N : Int) := by omega
        obtain ⟨g1, g2, g3⟩ := unhide hat k hlt'
        obtain ⟨g, o, rfl, y0, y1⟩ := unhide T1 k (by rw [toI_length]; exact hlt')
        have z0 := cell_below y0 hB
        have z1 := cell_below y1 hB
        have HT : Hid (L.take (k + 1) = L.take k ++ [L[k]]) := List.take_succ_eq_append_getElem hlt'
        have hx : (toI L)[k]'(by rw [toI_length]; exact hlt') = ((L[k].1 : Int), (L[k].2 : Int)) := by simp [toI]
        rw [hx] at z0 z1
        simp only at z0 z1
        obtain ⟨⟨x1, x2⟩, hxe⟩ : ∃ x, L[k] = x := ⟨_, rfl⟩
        rw [hxe] at z0 z1 HT g1 g2 g3
        simp only at z0 z1 g1 g2 g3
        have HP : Hid (pkB 0 (L.take (k + 1)) = pkB 0 (L.take k) ++ [UInt8.ofNat (x1 - enL (L.take k))] ++ [UInt8.ofNat (x2 - x1)]) := by
          show _ = _
          rw [unhide HT, pkB_snoc]; rfl
        have HE : Hid (enL (L.take (k + 1)) = x2) := by show _ = _; rw [unhide HT, enL_snoc]
        have k1 := hide (fun w => dnum_one (x1 - enL (L.take k)) (by omega) w)
        have k2 := hide (fun w => dnum_one (x2 - x1) (by omega) w)
        have hpl : (pkB 0 (L.take k)).length ≤ 1000 := by
          have : ∀ (l : List (Nat × Nat)) e, (pkB e l).length = 2 * l.length := by
            intro l
            induction l with
            | nil => intro e; rfl
            | cons x l ih => intro e; simp [pkB, ih]; omega
          rw [this, List.length_take]; omega
        have c1 : ((x1 - enL (L.take k) : Nat) : Int) = (x1 : Int) - (enL (L.take k) : Int) := by omega
        have c2 : ((x2 - x1 : Nat) : Int) = (x2 : Int) - (x1 : Int) := by omega
        rw [c1] at k1
        rw [c2] at k2
        have HB := hide hB
        generalize enL (L.take k) = E at *
        have hbz : bs (pkB 0 (L.take k)) ++ bs [UInt8.ofNat (x1 - E)] ++ bs [UInt8.ofNat (x2 - x1)] = bs (pkB 0 (L.take (k + 1))) := by
          rw [bs_append, bs_append, unhide HP]
        have HBZ := hide hbz
        have hsz1 : (bs (pkB 0 (L.take k))).size ≤ 1000 := by rw [bs_size]; exact hpl
        have hsz2 : (bs [UInt8.ofNat (x1 - E)]).size = 1 := rfl
        have hsz3 : (bs [UInt8.ofNat (x2 - x1)]).size = 1 := rfl
        generalize bs (pkB 0 (L.take k)) = S0 at *
        generalize bs [UInt8.ofNat (x1 - E)] = S1 at *
        generalize bs [UInt8.ofNat (x2 - x1)] = S2 at *
        have hc0 : ∀ x : Gb wr, x.w.cell? ⟨g, o + k * 2, none⟩ = some (.int .i64 (x1 : Int)) := fun x => gb_cell z0 x
        have hc1 : ∀ x : Gb wr, x.w.cell? ⟨g, o + k * 2 + 1, none⟩ = some (.int .i64 (x2 : Int)) := fun x => gb_cell z1 x
        clear hpl y0 y1 hx hxe hB hbz c1 c2
        go_wp2_with fail
        have hne := gb_ne wr
        refine wp_region_gr (fun x => Below wr.heap.size wr x) (by kernel_rfl) (by kernel_rfl) (gb_start wr) ?_
        iterate 9 (go_big_quiet_step ((go_at_call 44; exact gb_call (unhide k1 _))))
        repeat (go_big_quiet_step ((go_at_call 44; exact gb_call (unhide k2 _))))
        refine wpQuiet_nil ?_
        rintro w7 ⟨⟨_, b7⟩, rfl⟩
        have B7 := hide ((unhide HB).trans (b7.mono (unhide HB).size))
        have z1' := cell_below z1 b7
        clear b7 hne hc0 hc1 HB z0 z1
        go_wp2
        go_roundw
        case rel => exact ⟨k + 1, by omega, by go_num, by rw [← unhide HBZ], by rw [unhide HE], unhide B7⟩
        case measure => simp [intOf]; omega
      · have q1 : ¬ (k : Int) < (N : Int) := by omega
        have hke : k = L.length := by have := unhide HN; omega
        have HT : Hid (L.take k = L) := by show _ = _; rw [hke, List.take_length]
        have HB := hide hB
        generalize enL (L.take k) = E at *
        rw [unhide HT]
        clear hB hke
        obtain ⟨S0, hS0⟩ : ∃ S0, S0 = bs (pkB 0 L) := ⟨_, rfl⟩
        rw [← hS0]
        have HS0 := hide hS0
        clear hS0
        go_wp2
        go_ret2
        exact ⟨by rw [← unhide HS0]; rfl, (unhide B1).trans ((unhide HB).mono (unhide B1).size)⟩
end Go.Proofs.YtbodklppgcloiaaDoor

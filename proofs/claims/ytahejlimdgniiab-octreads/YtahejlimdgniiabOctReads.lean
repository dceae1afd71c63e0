/- What the law OctReads does, whatever the world, the text and the fields: it answers true and changes nothing that was there. -/
import Derived.Test.YtahejlimdgniiabRdInv
namespace Go.Proofs.Ytahejlimdgniiab
open Go.RowKit
set_option linter.unusedVariables false

theorem Try.sizeRd : (Try.prog.info? 54).map (·.size) = some 2 := by kernel_rfl
theorem Try.sizeGot : (Try.prog.info? 56).map (·.size) = some 4 := by kernel_rfl

theorem from_new (s : ByteArray) (w : World) :
    Calls Try.prog 28 #[.string s] w fun x w' => ∃ b, x = .returned (.pointer (some ⟨b, 0, none⟩)) ∧ RdAt w' b (s, 0) ∧ w.heap.size ≤ b ∧ Below w.heap.size w w' := by
  refine (from_any s w).mono ?_
  rintro e w' ⟨rfl, h, rfl⟩
  exact ⟨_, rfl, h, Nat.le_refl _, (Below.refl _ _).alloc (Nat.le_refl _) _⟩

set_option maxHeartbeats 4000000 in
set_option maxRecDepth 100000 in
theorem octReads_any (s : ByteArray) (a0 : Option Addr) (len cap : Nat) (F : Nat → Fld) (w : World) (hs : s.size ≤ maxLen) (hF : FldsAt w a0 len F) (hlen : len ≤ maxLen) :
    Calls Try.prog 7 #[.string s, .slice a0 len cap] w fun e w' => e = .returned (.bool true) ∧ Below w.heap.size w w' := by
  unfold maxLen at hs hlen
  have HF := hide hF
  clear hF
  by_cases hl : (5000 : Int) < s.size
  · go_enter Try.func7, Try.ntmps7
    go_wp2_with fail
    refine (awake_any w).mono ?_
    rintro e w1 ⟨rfl, b1⟩
    go_wp2
    go_ret
    exact ⟨rfl, b1⟩
  · have hl5 : s.size ≤ 5000 := by omega
    go_enter Try.func7, Try.ntmps7
    go_wp2_with fail
    refine (from_new s w).mono ?_
    rintro e w1 ⟨br, rfl, rd1, hbr, b1⟩
    have RD1 := hide rd1
    have B1 := hide b1
    clear rd1 b1
    go_wp2_with fail
    refine (awake_any _).mono ?_
    rintro e w3 ⟨rfl, b3⟩
    have hbl := lt_of_block (unhide RD1)
    have hI : RInv w br w1.heap.size w3 (s, 0) (s, 0) := by
      have b2' : Below w1.heap.size w1 w3 := ((Below.refl _ _).alloc (Nat.le_refl _) _).trans (b3.mono (by simp))
      refine ⟨(b2'.block _ hbl).trans (unhide RD1), hl5, ?_, hl5, (unhide B1).trans (b2'.mono (unhide B1).size)⟩
      exact (b3.block _ (by simp)).trans (heap_alloc_new _ _)
    have hg6r : w1.heap.size ≠ br := by omega
    have hbr6 : br ≠ w1.heap.size := by omega
    have hg6 : w.heap.size ≤ w1.heap.size := by omega
    have HI := hide hI
    clear hI b3 RD1 B1 hbl
    generalize w1.heap.size = g6 at *
    go_wp2
    go_loopw [7] (fun i wr => ∃ (k : Nat) (p q : ByteArray × Int), k ≤ 40 ∧ i = .int .i64 k ∧ Ag2 p q ∧ RInv w br g6 wr p q) (fun i _ => 40 - (intOf i).toNat)
    case atStart => exact ⟨0, (s, 0), (s, 0), by omega, rfl, Ag2.refl _, unhide HI⟩
    case round =>
      clear HI
      obtain ⟨k, p, q, hk, rfl, hag, hI⟩ := hrel
      have HI := hide hI
      have HG := hide hag
      clear hI hag
      by_cases hlt : k < len ∧ k < 40
      · obtain ⟨hlt1, hlt2⟩ := hlt
        obtain ⟨b, off, rfl, hbl, ⟨c0, c1, c2, c3⟩, _, _, _, hfs⟩ := unhide HF k hlt1
        rw [← (unhide HI).be.cell (p := ⟨b, off + k * 4, none⟩) hbl] at c0
        rw [← (unhide HI).be.cell (p := ⟨b, off + k * 4 + 1, none⟩) hbl] at c1
        rw [← (unhide HI).be.cell (p := ⟨b, off + k * 4 + 2, none⟩) hbl] at c2
        rw [← (unhide HI).be.cell (p := ⟨b, off + k * 4 + 3, none⟩) hbl] at c3
        generalize F k = f at *
        obtain ⟨fk, fn, fz, fs⟩ := f
        simp only at c0 c1 c2 c3 hfs
        have q1 : (k : Int) < len := by omega
        have q2 : (k : Int) < 40 := by omega
        have u0 := cell0_of_two (unhide HI).rf
        have u1 := cell1_of_two (unhide HI).rf
        have hsz : wr.heap.size ≠ g6 := Nat.ne_of_gt (lt_of_block (unhide HI).rf)
        have hsl : g6 < wr.heap.size := lt_of_block (unhide HI).rf
        have hk1 : k + 1 ≤ 40 := by omega
        by_cases kk0 : fk = 0
        · subst kk0
          have l6 := lt_of_block (unhide HI).rf
          have lr := lt_of_block (unhide HI).rd
          have BW : Hid (Below wr.heap.size wr ((wr.alloc (.cells #[.int .i64 0, .int .i64 fn, .int .i64 fz, .string fs] 45)).alloc (.cells #[.string q.1, .int .i64 q.2, .int .i64 0, .string ⟨#[]⟩] 56))) := ((Below.refl _ _).alloc (Nat.le_refl _) _).alloc (by simp) _
          have I1 := hide ((unhide HI).below (unhide BW))
          have XX : Hid (FldAt ((wr.alloc (.cells #[.int .i64 0, .int .i64 fn, .int .i64 fz, .string fs] 45)).alloc (.cells #[.string q.1, .int .i64 q.2, .int .i64 0, .string ⟨#[]⟩] 56)) wr.heap.size ⟨0, fn, fz, fs⟩) := (Below.heap_alloc _ _ _ (by simp)).trans (heap_alloc_new _ _)
          have GG : Hid (((wr.alloc (.cells #[.int .i64 0, .int .i64 fn, .int .i64 fz, .string fs] 45)).alloc (.cells #[.string q.1, .int .i64 q.2, .int .i64 0, .string ⟨#[]⟩] 56)).heap[wr.heap.size + 1]? = some (.cells #[.string q.1, .int .i64 q.2, .int .i64 0, .string ⟨#[]⟩] 56 (0, 0))) := heap2_b _ _ _
          have h11 : (wr.heap.size + 1) ≠ g6 := by omega
          have h11r : (wr.heap.size + 1) ≠ br := by omega
          have hxr : wr.heap.size ≠ br := by omega
          have hz0 := (unhide HI).be.size
          have hgt : w.heap.size ≤ (wr.heap.size + 1) := by omega
          clear l6 lr
          have hrc := hide (rnum_any ((wr.alloc (.cells #[.int .i64 0, .int .i64 fn, .int .i64 fz, .string fs] 45)).alloc (.cells #[.string q.1, .int .i64 q.2, .int .i64 0, .string ⟨#[]⟩] 56)) br p fz (by unfold maxLen; have := (unhide HI).ps; omega) (unhide I1).rd)
          have hag := hide (num_ag (unhide HG) fz)
          have hps := hide (num_le p fz)
          have hqs := hide (num_le q fz)
          have hvc := hide (fun w => qnum_any q fz w (by unfold maxLen; have := (unhide HI).qs; omega))
          rw [(unhide hag).1] at hrc
          unfold vV gV at hvc
          generalize (num q fz).1 = N at *
          generalize (num p fz).2 = p' at *
          generalize (num q fz).2 = q' at *
          have HAG := hide (unhide hag).2
          have HPS := hide (Nat.le_trans (unhide hps) (unhide HI).ps)
          have HQS := hide (Nat.le_trans (unhide hqs) (unhide HI).qs)
          clear hag hps hqs
          go_wp2_with fail
          refine (unhide hrc).mono ?_
          rintro e w2 ⟨rfl, rd2, k2⟩
          have R2 : Hid (RdAt w2 br p') := rd2
          have Q2 : Hid (w2.heap[g6]? = some (.cells #[.string q.1, .int .i64 q.2] 54 (0, 0))) := (k2.block _ (lt_of_block (unhide I1).rf) hg6r).trans (unhide I1).rf
          have X2 : Hid (FldAt w2 wr.heap.size ⟨0, fn, fz, fs⟩) := (k2.block _ (lt_of_block (unhide XX)) hxr).trans (unhide XX)
          have G2 : Hid (w2.heap[(wr.heap.size + 1)]? = some (.cells #[.string q.1, .int .i64 q.2, .int .i64 0, .string ⟨#[]⟩] 56 (0, 0))) := (k2.block _ (lt_of_block (unhide GG)) h11r).trans (unhide GG)
          have B2 : Hid (Below w.heap.size w w2) := (unhide I1).be.trans (k2.below _ (Nat.le_trans (unhide HI).be.size (unhide BW).size) hbr)
          clear rd2 k2 I1 XX GG BW hrc HI
          obtain ⟨x0, x1, x2, x3⟩ := (unhide X2).cells
          have c0 := cell0_of_two (unhide Q2)
          have c1 := cell1_of_two (unhide Q2)
          go_wp2_with fail
          refine (unhide hvc w2).mono ?_
          rintro e w3 ⟨rfl, b3⟩
          have R3 : Hid (RdAt w3 br p') := (b3.block _ (lt_of_block (unhide R2))).trans (unhide R2)
          have Q3 : Hid (w3.heap[g6]? = some (.cells #[.string q.1, .int .i64 q.2] 54 (0, 0))) := (b3.block _ (lt_of_block (unhide Q2))).trans (unhide Q2)
          have G3 : Hid (w3.heap[(wr.heap.size + 1)]? = some (.cells #[.string q.1, .int .i64 q.2, .int .i64 0, .string ⟨#[]⟩] 56 (0, 0))) := (b3.block _ (lt_of_block (unhide G2))).trans (unhide G2)
          have B3 := hide ((unhide B2).trans (b3.mono (unhide B2).size))
          clear x0 x1 x2 x3 c0 c1 b3 R2 Q2 G2 X2 B2 hvc
          go_wp2_with (refine wpList_store_abs rfl 56 (.tmp 11) (.tmp 53) rfl (wr.heap.size + 1) 0 #[.string q'.1, .int .i64 q'.2, .int .i64 N, .string (⟨#[]⟩ : ByteArray)] rfl rfl (by have h := there_row (unhide G3); exact h) Try.sizeGot (four_one _ _ _ _ ⟨rfl, rfl, rfl, rfl⟩) ?_)
          intro w4 hw4
          have RX : Hid (RdAt w4 br p') := by show RdAt _ _ _; rw [unhide hw4]; exact (Below.heap_setCell _ _ _ _ h11r.symm).trans ((Below.heap_setCell _ _ _ _ h11r.symm).trans ((Below.heap_setCell _ _ _ _ h11r.symm).trans ((Below.heap_setCell _ _ _ _ h11r.symm).trans (unhide R3))))
          have QX : Hid (w4.heap[g6]? = some (.cells #[.string q.1, .int .i64 q.2] 54 (0, 0))) := by show _ = _; rw [unhide hw4]; exact (Below.heap_setCell _ _ _ _ h11.symm).trans ((Below.heap_setCell _ _ _ _ h11.symm).trans ((Below.heap_setCell _ _ _ _ h11.symm).trans ((Below.heap_setCell _ _ _ _ h11.symm).trans (unhide Q3))))
          have GX : Hid (w4.heap[(wr.heap.size + 1)]? = some (.cells #[.string q'.1, .int .i64 q'.2, .int .i64 N, .string (⟨#[]⟩ : ByteArray)] 56 (0, 0))) := by show _ = _; rw [unhide hw4]; exact four_set (unhide G3)
          have BX : Hid (Below w.heap.size w w4) := by show Below _ _ _; rw [unhide hw4]; exact ((((unhide B3).setCell hgt _).setCell hgt _).setCell hgt _).setCell hgt _
          clear hw4 R3 Q3 G3 B3
          have kk := cells_of_four (unhide GX)
          obtain ⟨k0, k1, k2, k3⟩ := kk
          go_wp2_with (refine wpList_store_abs rfl 54 (.tmp 6) (.tmp 80) rfl g6 0 #[.string q'.1, .int .i64 q'.2] rfl rfl (by have h := there_row (unhide QX); exact h) Try.sizeRd (two_one _ _ ⟨rfl, rfl⟩) ?_)
          intro w5 hw5
          have R5 : Hid (RdAt w5 br p') := by show RdAt _ _ _; rw [unhide hw5]; exact ((Below.heap_setCell _ _ _ _ hbr6).trans ((Below.heap_setCell _ _ _ _ hbr6).trans (unhide RX)))
          have Q5 : Hid (w5.heap[g6]? = some (.cells #[.string q'.1, .int .i64 q'.2] 54 (0, 0))) := by show _ = _; rw [unhide hw5]; exact two_set1 (two_set0 (unhide QX))
          have G5 : Hid (w5.heap[(wr.heap.size + 1)]? = some (.cells #[.string q'.1, .int .i64 q'.2, .int .i64 N, .string (⟨#[]⟩ : ByteArray)] 56 (0, 0))) := by show _ = _; rw [unhide hw5]; exact ((Below.heap_setCell _ _ _ _ h11).trans ((Below.heap_setCell _ _ _ _ h11).trans (unhide GX)))
          have B5 : Hid (Below w.heap.size w w5) := by show Below _ _ _; rw [unhide hw5]; exact ((unhide BX).setCell hg6 _).setCell hg6 _
          clear hw5 RX QX GX BX k0 k1 k2 k3
          go_wp2
          obtain ⟨W0, hW0⟩ : ∃ W0, W0 = w5.drew := ⟨_, rfl⟩
          have HR0 : Hid (RdAt W0 br p') := by show RdAt _ _ _; rw [hW0]; exact unhide R5
          have HQ0 : Hid (W0.heap[g6]? = some (.cells #[.string q'.1, .int .i64 q'.2] 54 (0, 0))) := by show _ = _; rw [hW0]; exact unhide Q5
          have HG0 : Hid (W0.heap[(wr.heap.size + 1)]? = some (.cells #[.string q'.1, .int .i64 q'.2, .int .i64 N, .string (⟨#[]⟩ : ByteArray)] 56 (0, 0))) := by show _ = _; rw [hW0]; exact unhide G5
          have HGC : Hid (W0.cell? ⟨(wr.heap.size + 1), 2, none⟩ = some (.int .i64 N) ∧ W0.cell? ⟨(wr.heap.size + 1), 3, none⟩ = some (.string (⟨#[]⟩ : ByteArray))) := ⟨(cells_of_four (unhide HG0)).2.2.1, (cells_of_four (unhide HG0)).2.2.2⟩
          have HBE : Hid (Below w.heap.size w W0) := by show Below _ _ _; rw [hW0]; exact (unhide B5).drew
          have HW0 : Hid (Below W0.heap.size W0 w5.drew) := by show Below _ _ _; rw [hW0]; exact Below.refl _ _
          clear hW0 R5 Q5 G5 B5
          obtain ⟨l, ae, hcl, hql, hce, hcn, hqn⟩ := reads_calls br p' q' (unhide HAG) (unhide HPS) (unhide HQS)
          generalize hA : Act.mk _ _ = A
          have hA5 : A.eval (.tmp 5) = .pointer (some ⟨br, 0, none⟩) := by rw [← hA]; rfl
          have hA6 : A.eval (.tmp 6) = .pointer (some ⟨g6, 0, none⟩) := by rw [← hA]; rfl
          have hA9 : A.eval (.tmp 9) = .int .i64 N := by rw [← hA]; rfl
          have hA10 : A.eval (.tmp 10) = .string (⟨#[]⟩ : ByteArray) := by rw [← hA]; rfl
          have hA11 : A.eval (.tmp 11) = .pointer (some ⟨(wr.heap.size + 1), 0, none⟩) := by rw [← hA]; rfl
          have hAs : A.tmps.size = 112 := by rw [← hA]; rfl
          obtain ⟨V, hVe⟩ : ∃ V : List (Nat × Nat × Value), V = [(0, 81, .int .i64 N), (1, 82, .pointer (some ⟨(wr.heap.size + 1), 2, none⟩)), (2, 83, .int .i64 N), (3, 84, .bool false), (4, 85, .bool false), (5, 86, .string (⟨#[]⟩ : ByteArray)), (6, 87, .pointer (some ⟨(wr.heap.size + 1), 3, none⟩)), (7, 88, .string (⟨#[]⟩ : ByteArray)), (8, 89, .bool false), (9, 90, .bool false), (10, 91, .bool false), (11, 92, .pointer (some ⟨br, 0, none⟩)), (12, 93, .int .i64 l), (13, 94, .agg #[.string q'.1, .int .i64 q'.2]), (14, 95, .int .i64 l), (15, 96, .bool false), (16, 97, .bool false), (17, 98, .bool false), (18, 99, .pointer (some ⟨br, 0, none⟩)), (19, 100, .int .i64 q'.2), (20, 101, .pointer (some ⟨g6, 1, none⟩)), (21, 102, .int .i64 q'.2), (22, 103, .bool false), (23, 104, .bool false), (24, 105, .bool false), (25, 106, .pointer (some ⟨br, 0, none⟩)), (26, 107, .int .i64 ae), (27, 108, .agg #[.string q'.1, .int .i64 q'.2]), (28, 109, .int .i64 ae), (29, 110, .bool false), (30, 111, .bool false)] := ⟨_, rfl⟩
          refine wp_region_invG (by kernel_rfl) (by kernel_rfl) (fun f a wx => Off [111, 81, 82, 83, 84, 85, 86, 87, 88, 89, 90, 91, 92, 93, 94, 95, 96, 97, 98, 99, 100, 101, 102, 103, 104, 105, 106, 107, 108, 109, 110] A a ∧ ValsOk V f a ∧ Below W0.heap.size W0 wx) ?start ?step ?fin
          case start => exact ⟨Off.refl _ _, vals_start _ _, unhide HW0⟩
          case step =>
            rintro f a wx i o ⟨hoff, hV, hbl⟩ ho hfi hdep
            have has : a.tmps.size = 112 := hoff.size.trans hAs
            have hv := fun (i d : Nat) (v : Value) (hm : (i, d, v) ∈ V) (hf : f i = true) => hV (i, d, v) hm hf
            rcases i with _ | _ | _ | _ | _ | _ | _ | _ | _ | _ | _ | _ | _ | _ | _ | _ | _ | _ | _ | _ | _ | _ | _ | _ | _ | _ | _ | _ | _ | _ | _ | i
            · obtain rfl := Option.some.inj ho
              refine ⟨rfl, ?_⟩
              refine wp_move (.tmp 9) rfl ?_
              rw [((hoff.eval 9 (by simp)).trans hA9)]
              exact ⟨hoff.put 81 _ (by simp), vals_put hV 0 81 _ (by omega) (by rw [hVe]; simp) (by rw [hVe]; simp), hbl⟩
            · obtain rfl := Option.some.inj ho
              refine ⟨rfl, ?_⟩
              refine wp_field 56 (.tmp 11) 1 rfl _ _ ((hoff.eval 11 (by simp)).trans hA11) (fa_got1 (wr.heap.size + 1)) ?_
              exact ⟨hoff.put 82 _ (by simp), vals_put hV 1 82 _ (by omega) (by rw [hVe]; simp) (by rw [hVe]; simp), hbl⟩
            · obtain rfl := Option.some.inj ho
              have d1 : f 1 = true := hdep ⟨1, .data⟩ (by simp) rfl
              refine ⟨rfl, ?_⟩
              refine wp_load1 3 (.tmp 82) rfl _ _ (hv 1 82 (.pointer (some ⟨(wr.heap.size + 1), 2, none⟩)) (by rw [hVe]; simp) d1) (loadI _ _ _ ((hbl.cell (p := ⟨(wr.heap.size + 1), 2, none⟩) (lt_of_block (unhide HG0))).trans (unhide HGC).1)) ?_
              exact ⟨hoff.put 83 _ (by simp), vals_put hV 2 83 _ (by omega) (by rw [hVe]; simp) (by rw [hVe]; simp), hbl⟩
            · obtain rfl := Option.some.inj ho
              have d0 : f 0 = true := hdep ⟨0, .data⟩ (by simp) rfl
              have d2 : f 2 = true := hdep ⟨2, .data⟩ (by simp) rfl
              refine ⟨rfl, ?_⟩
              refine wp_ne64F 3 3 (.tmp 81) (.tmp 83) rfl Try.underlying3 _ (hv 0 81 (.int .i64 N) (by rw [hVe]; simp) d0) (hv 2 83 (.int .i64 N) (by rw [hVe]; simp) d2) ?_
              exact ⟨hoff.put 84 _ (by simp), vals_put hV 3 84 _ (by omega) (by rw [hVe]; simp) (by rw [hVe]; simp), hbl⟩
            · obtain rfl := Option.some.inj ho
              have d3 : f 3 = true := hdep ⟨3, .data⟩ (by simp) rfl
              refine ⟨rfl, ?_⟩
              refine wp_move (.tmp 84) rfl ?_
              rw [(hv 3 84 (.bool false) (by rw [hVe]; simp) d3)]
              exact ⟨hoff.put 85 _ (by simp), vals_put hV 4 85 _ (by omega) (by rw [hVe]; simp) (by rw [hVe]; simp), hbl⟩
            · obtain rfl := Option.some.inj ho
              have d4 : f 4 = true := hdep ⟨4, .guard⟩ (by simp) rfl
              refine ⟨wanted_of 4 85 false rfl rfl (hv 4 85 (.bool false) (by rw [hVe]; simp) d4), ?_⟩
              refine wp_move (.tmp 10) rfl ?_
              rw [((hoff.eval 10 (by simp)).trans hA10)]
              exact ⟨hoff.put 86 _ (by simp), vals_put hV 5 86 _ (by omega) (by rw [hVe]; simp) (by rw [hVe]; simp), hbl⟩
            · obtain rfl := Option.some.inj ho
              have d4 : f 4 = true := hdep ⟨4, .guard⟩ (by simp) rfl
              refine ⟨wanted_of 4 85 false rfl rfl (hv 4 85 (.bool false) (by rw [hVe]; simp) d4), ?_⟩
              refine wp_field 56 (.tmp 11) 2 rfl _ _ ((hoff.eval 11 (by simp)).trans hA11) (fa_got2 (wr.heap.size + 1)) ?_
              exact ⟨hoff.put 87 _ (by simp), vals_put hV 6 87 _ (by omega) (by rw [hVe]; simp) (by rw [hVe]; simp), hbl⟩
            · obtain rfl := Option.some.inj ho
              have d4 : f 4 = true := hdep ⟨4, .guard⟩ (by simp) rfl
              have d6 : f 6 = true := hdep ⟨6, .data⟩ (by simp) rfl
              refine ⟨wanted_of 4 85 false rfl rfl (hv 4 85 (.bool false) (by rw [hVe]; simp) d4), ?_⟩
              refine wp_load1 9 (.tmp 87) rfl _ _ (hv 6 87 (.pointer (some ⟨(wr.heap.size + 1), 3, none⟩)) (by rw [hVe]; simp) d6) (loadS _ _ _ ((hbl.cell (p := ⟨(wr.heap.size + 1), 3, none⟩) (lt_of_block (unhide HG0))).trans (unhide HGC).2)) ?_
              exact ⟨hoff.put 88 _ (by simp), vals_put hV 7 88 _ (by omega) (by rw [hVe]; simp) (by rw [hVe]; simp), hbl⟩
            · obtain rfl := Option.some.inj ho
              have d4 : f 4 = true := hdep ⟨4, .guard⟩ (by simp) rfl
              have d5 : f 5 = true := hdep ⟨5, .data⟩ (by simp) rfl
              have d7 : f 7 = true := hdep ⟨7, .data⟩ (by simp) rfl
              refine ⟨wanted_of 4 85 false rfl rfl (hv 4 85 (.bool false) (by rw [hVe]; simp) d4), ?_⟩
              refine wp_neStrF 9 9 (.tmp 86) (.tmp 88) rfl Try.underlying9 _ (hv 5 86 (.string (⟨#[]⟩ : ByteArray)) (by rw [hVe]; simp) d5) (hv 7 88 (.string (⟨#[]⟩ : ByteArray)) (by rw [hVe]; simp) d7) ?_
              exact ⟨hoff.put 89 _ (by simp), vals_put hV 8 89 _ (by omega) (by rw [hVe]; simp) (by rw [hVe]; simp), hbl⟩
            · obtain rfl := Option.some.inj ho
              have d4 : f 4 = true := hdep ⟨4, .data⟩ (by simp) rfl
              have d8 : f 8 = true := hdep ⟨8, .data⟩ (by simp) rfl
              refine ⟨rfl, ?_⟩
              refine wp_pickF (.tmp 85) (.const (.bool true)) (.tmp 89) rfl _ (hv 4 85 (.bool false) (by rw [hVe]; simp) d4) (hv 8 89 (.bool false) (by rw [hVe]; simp) d8) ?_
              exact ⟨hoff.put 90 _ (by simp), vals_put hV 9 90 _ (by omega) (by rw [hVe]; simp) (by rw [hVe]; simp), hbl⟩
            · obtain rfl := Option.some.inj ho
              have d9 : f 9 = true := hdep ⟨9, .data⟩ (by simp) rfl
              refine ⟨rfl, ?_⟩
              refine wp_move (.tmp 90) rfl ?_
              rw [(hv 9 90 (.bool false) (by rw [hVe]; simp) d9)]
              exact ⟨hoff.put 91 _ (by simp), vals_put hV 10 91 _ (by omega) (by rw [hVe]; simp) (by rw [hVe]; simp), hbl⟩
            · obtain rfl := Option.some.inj ho
              have d10 : f 10 = true := hdep ⟨10, .guard⟩ (by simp) rfl
              refine ⟨wanted_of 10 91 false rfl rfl (hv 10 91 (.bool false) (by rw [hVe]; simp) d10), ?_⟩
              refine wp_move (.tmp 5) rfl ?_
              rw [((hoff.eval 5 (by simp)).trans hA5)]
              exact ⟨hoff.put 92 _ (by simp), vals_put hV 11 92 _ (by omega) (by rw [hVe]; simp) (by rw [hVe]; simp), hbl⟩
            · obtain rfl := Option.some.inj ho
              have d10 : f 10 = true := hdep ⟨10, .guard⟩ (by simp) rfl
              have d11 : f 11 = true := hdep ⟨11, .data⟩ (by simp) rfl
              refine ⟨wanted_of 10 91 false rfl rfl (hv 10 91 (.bool false) (by rw [hVe]; simp) d10), ?_⟩
              refine wp_call 36 #[.tmp 92] #[52] rfl Try.call36 #[.pointer (some ⟨br, 0, none⟩)] (by simp [(hv 11 92 (.pointer (some ⟨br, 0, none⟩)) (by rw [hVe]; simp) d11)]) (unhide hcl wx ((hbl.block _ (lt_of_block (unhide HR0))).trans (unhide HR0))) ?_
              rintro e w3 ⟨rfl, rfl⟩
              exact ⟨_, rfl, hoff.put 93 _ (by simp), vals_put hV 12 93 _ (by omega) (by rw [hVe]; simp) (by rw [hVe]; simp), hbl⟩
            · obtain rfl := Option.some.inj ho
              have d10 : f 10 = true := hdep ⟨10, .guard⟩ (by simp) rfl
              refine ⟨wanted_of 10 91 false rfl rfl (hv 10 91 (.bool false) (by rw [hVe]; simp) d10), ?_⟩
              refine wp_load_row 54 (.tmp 6) rfl g6 ((hoff.eval 6 (by simp)).trans hA6) 54 #[.string q'.1, .int .i64 q'.2] (0, 0) _ ((hbl.block _ (lt_of_block (unhide HQ0))).trans (unhide HQ0)) Try.underlying54 rfl (by kernel_rfl) ?_
              exact ⟨hoff.put 94 _ (by simp), vals_put hV 13 94 _ (by omega) (by rw [hVe]; simp) (by rw [hVe]; simp), hbl⟩
            · obtain rfl := Option.some.inj ho
              have d10 : f 10 = true := hdep ⟨10, .guard⟩ (by simp) rfl
              have d13 : f 13 = true := hdep ⟨13, .data⟩ (by simp) rfl
              refine ⟨wanted_of 10 91 false rfl rfl (hv 10 91 (.bool false) (by rw [hVe]; simp) d10), ?_⟩
              refine wp_call 37 #[.tmp 94] #[54] rfl Try.call37 #[.agg #[.string q'.1, .int .i64 q'.2]] (by simp [(hv 13 94 (.agg #[.string q'.1, .int .i64 q'.2]) (by rw [hVe]; simp) d13)]) (unhide hql wx) ?_
              rintro e w3 ⟨rfl, hb3⟩
              exact ⟨_, rfl, hoff.put 95 _ (by simp), vals_put hV 14 95 _ (by omega) (by rw [hVe]; simp) (by rw [hVe]; simp), hbl.trans (hb3.mono hbl.size)⟩
            · obtain rfl := Option.some.inj ho
              have d10 : f 10 = true := hdep ⟨10, .guard⟩ (by simp) rfl
              have d12 : f 12 = true := hdep ⟨12, .data⟩ (by simp) rfl
              have d14 : f 14 = true := hdep ⟨14, .data⟩ (by simp) rfl
              refine ⟨wanted_of 10 91 false rfl rfl (hv 10 91 (.bool false) (by rw [hVe]; simp) d10), ?_⟩
              refine wp_ne64F 3 3 (.tmp 93) (.tmp 95) rfl Try.underlying3 _ (hv 12 93 (.int .i64 l) (by rw [hVe]; simp) d12) (hv 14 95 (.int .i64 l) (by rw [hVe]; simp) d14) ?_
              exact ⟨hoff.put 96 _ (by simp), vals_put hV 15 96 _ (by omega) (by rw [hVe]; simp) (by rw [hVe]; simp), hbl⟩
            · obtain rfl := Option.some.inj ho
              have d10 : f 10 = true := hdep ⟨10, .data⟩ (by simp) rfl
              have d15 : f 15 = true := hdep ⟨15, .data⟩ (by simp) rfl
              refine ⟨rfl, ?_⟩
              refine wp_pickF (.tmp 91) (.const (.bool true)) (.tmp 96) rfl _ (hv 10 91 (.bool false) (by rw [hVe]; simp) d10) (hv 15 96 (.bool false) (by rw [hVe]; simp) d15) ?_
              exact ⟨hoff.put 97 _ (by simp), vals_put hV 16 97 _ (by omega) (by rw [hVe]; simp) (by rw [hVe]; simp), hbl⟩
            · obtain rfl := Option.some.inj ho
              have d16 : f 16 = true := hdep ⟨16, .data⟩ (by simp) rfl
              refine ⟨rfl, ?_⟩
              refine wp_move (.tmp 97) rfl ?_
              rw [(hv 16 97 (.bool false) (by rw [hVe]; simp) d16)]
              exact ⟨hoff.put 98 _ (by simp), vals_put hV 17 98 _ (by omega) (by rw [hVe]; simp) (by rw [hVe]; simp), hbl⟩
            · obtain rfl := Option.some.inj ho
              have d17 : f 17 = true := hdep ⟨17, .guard⟩ (by simp) rfl
              refine ⟨wanted_of 17 98 false rfl rfl (hv 17 98 (.bool false) (by rw [hVe]; simp) d17), ?_⟩
              refine wp_move (.tmp 5) rfl ?_
              rw [((hoff.eval 5 (by simp)).trans hA5)]
              exact ⟨hoff.put 99 _ (by simp), vals_put hV 18 99 _ (by omega) (by rw [hVe]; simp) (by rw [hVe]; simp), hbl⟩
            · obtain rfl := Option.some.inj ho
              have d17 : f 17 = true := hdep ⟨17, .guard⟩ (by simp) rfl
              have d18 : f 18 = true := hdep ⟨18, .data⟩ (by simp) rfl
              refine ⟨wanted_of 17 98 false rfl rfl (hv 17 98 (.bool false) (by rw [hVe]; simp) d17), ?_⟩
              refine wp_call 38 #[.tmp 99] #[52] rfl Try.call38 #[.pointer (some ⟨br, 0, none⟩)] (by simp [(hv 18 99 (.pointer (some ⟨br, 0, none⟩)) (by rw [hVe]; simp) d18)]) (unhide hce wx ((hbl.block _ (lt_of_block (unhide HR0))).trans (unhide HR0))) ?_
              rintro e w3 ⟨rfl, rfl⟩
              exact ⟨_, rfl, hoff.put 100 _ (by simp), vals_put hV 19 100 _ (by omega) (by rw [hVe]; simp) (by rw [hVe]; simp), hbl⟩
            · obtain rfl := Option.some.inj ho
              have d17 : f 17 = true := hdep ⟨17, .guard⟩ (by simp) rfl
              refine ⟨wanted_of 17 98 false rfl rfl (hv 17 98 (.bool false) (by rw [hVe]; simp) d17), ?_⟩
              refine wp_field 54 (.tmp 6) 1 rfl _ _ ((hoff.eval 6 (by simp)).trans hA6) (fa_rd1 g6) ?_
              exact ⟨hoff.put 101 _ (by simp), vals_put hV 20 101 _ (by omega) (by rw [hVe]; simp) (by rw [hVe]; simp), hbl⟩
            · obtain rfl := Option.some.inj ho
              have d17 : f 17 = true := hdep ⟨17, .guard⟩ (by simp) rfl
              have d20 : f 20 = true := hdep ⟨20, .data⟩ (by simp) rfl
              refine ⟨wanted_of 17 98 false rfl rfl (hv 17 98 (.bool false) (by rw [hVe]; simp) d17), ?_⟩
              refine wp_load1 3 (.tmp 101) rfl _ _ (hv 20 101 (.pointer (some ⟨g6, 1, none⟩)) (by rw [hVe]; simp) d20) (loadI _ _ _ ((hbl.cell (p := ⟨g6, 1, none⟩) (lt_of_block (unhide HQ0))).trans (cell1_of_two (unhide HQ0)))) ?_
              exact ⟨hoff.put 102 _ (by simp), vals_put hV 21 102 _ (by omega) (by rw [hVe]; simp) (by rw [hVe]; simp), hbl⟩
            · obtain rfl := Option.some.inj ho
              have d17 : f 17 = true := hdep ⟨17, .guard⟩ (by simp) rfl
              have d19 : f 19 = true := hdep ⟨19, .data⟩ (by simp) rfl
              have d21 : f 21 = true := hdep ⟨21, .data⟩ (by simp) rfl
              refine ⟨wanted_of 17 98 false rfl rfl (hv 17 98 (.bool false) (by rw [hVe]; simp) d17), ?_⟩
              refine wp_ne64F 3 3 (.tmp 100) (.tmp 102) rfl Try.underlying3 _ (hv 19 100 (.int .i64 q'.2) (by rw [hVe]; simp) d19) (hv 21 102 (.int .i64 q'.2) (by rw [hVe]; simp) d21) ?_
              exact ⟨hoff.put 103 _ (by simp), vals_put hV 22 103 _ (by omega) (by rw [hVe]; simp) (by rw [hVe]; simp), hbl⟩
            · obtain rfl := Option.some.inj ho
              have d17 : f 17 = true := hdep ⟨17, .data⟩ (by simp) rfl
              have d22 : f 22 = true := hdep ⟨22, .data⟩ (by simp) rfl
              refine ⟨rfl, ?_⟩
              refine wp_pickF (.tmp 98) (.const (.bool true)) (.tmp 103) rfl _ (hv 17 98 (.bool false) (by rw [hVe]; simp) d17) (hv 22 103 (.bool false) (by rw [hVe]; simp) d22) ?_
              exact ⟨hoff.put 104 _ (by simp), vals_put hV 23 104 _ (by omega) (by rw [hVe]; simp) (by rw [hVe]; simp), hbl⟩
            · obtain rfl := Option.some.inj ho
              have d23 : f 23 = true := hdep ⟨23, .data⟩ (by simp) rfl
              refine ⟨rfl, ?_⟩
              refine wp_move (.tmp 104) rfl ?_
              rw [(hv 23 104 (.bool false) (by rw [hVe]; simp) d23)]
              exact ⟨hoff.put 105 _ (by simp), vals_put hV 24 105 _ (by omega) (by rw [hVe]; simp) (by rw [hVe]; simp), hbl⟩
            · obtain rfl := Option.some.inj ho
              have d24 : f 24 = true := hdep ⟨24, .guard⟩ (by simp) rfl
              refine ⟨wanted_of 24 105 false rfl rfl (hv 24 105 (.bool false) (by rw [hVe]; simp) d24), ?_⟩
              refine wp_move (.tmp 5) rfl ?_
              rw [((hoff.eval 5 (by simp)).trans hA5)]
              exact ⟨hoff.put 106 _ (by simp), vals_put hV 25 106 _ (by omega) (by rw [hVe]; simp) (by rw [hVe]; simp), hbl⟩
            · obtain rfl := Option.some.inj ho
              have d24 : f 24 = true := hdep ⟨24, .guard⟩ (by simp) rfl
              have d25 : f 25 = true := hdep ⟨25, .data⟩ (by simp) rfl
              refine ⟨wanted_of 24 105 false rfl rfl (hv 24 105 (.bool false) (by rw [hVe]; simp) d24), ?_⟩
              refine wp_call 39 #[.tmp 106] #[52] rfl Try.call39 #[.pointer (some ⟨br, 0, none⟩)] (by simp [(hv 25 106 (.pointer (some ⟨br, 0, none⟩)) (by rw [hVe]; simp) d25)]) (unhide hcn wx ((hbl.block _ (lt_of_block (unhide HR0))).trans (unhide HR0))) ?_
              rintro e w3 ⟨rfl, rfl⟩
              exact ⟨_, rfl, hoff.put 107 _ (by simp), vals_put hV 26 107 _ (by omega) (by rw [hVe]; simp) (by rw [hVe]; simp), hbl⟩
            · obtain rfl := Option.some.inj ho
              have d24 : f 24 = true := hdep ⟨24, .guard⟩ (by simp) rfl
              refine ⟨wanted_of 24 105 false rfl rfl (hv 24 105 (.bool false) (by rw [hVe]; simp) d24), ?_⟩
              refine wp_load_row 54 (.tmp 6) rfl g6 ((hoff.eval 6 (by simp)).trans hA6) 54 #[.string q'.1, .int .i64 q'.2] (0, 0) _ ((hbl.block _ (lt_of_block (unhide HQ0))).trans (unhide HQ0)) Try.underlying54 rfl (by kernel_rfl) ?_
              exact ⟨hoff.put 108 _ (by simp), vals_put hV 27 108 _ (by omega) (by rw [hVe]; simp) (by rw [hVe]; simp), hbl⟩
            · obtain rfl := Option.some.inj ho
              have d24 : f 24 = true := hdep ⟨24, .guard⟩ (by simp) rfl
              have d27 : f 27 = true := hdep ⟨27, .data⟩ (by simp) rfl
              refine ⟨wanted_of 24 105 false rfl rfl (hv 24 105 (.bool false) (by rw [hVe]; simp) d24), ?_⟩
              refine wp_call 40 #[.tmp 108] #[54] rfl Try.call40 #[.agg #[.string q'.1, .int .i64 q'.2]] (by simp [(hv 27 108 (.agg #[.string q'.1, .int .i64 q'.2]) (by rw [hVe]; simp) d27)]) (unhide hqn wx) ?_
              rintro e w3 ⟨rfl, hb3⟩
              exact ⟨_, rfl, hoff.put 109 _ (by simp), vals_put hV 28 109 _ (by omega) (by rw [hVe]; simp) (by rw [hVe]; simp), hbl.trans (hb3.mono hbl.size)⟩
            · obtain rfl := Option.some.inj ho
              have d24 : f 24 = true := hdep ⟨24, .guard⟩ (by simp) rfl
              have d26 : f 26 = true := hdep ⟨26, .data⟩ (by simp) rfl
              have d28 : f 28 = true := hdep ⟨28, .data⟩ (by simp) rfl
              refine ⟨wanted_of 24 105 false rfl rfl (hv 24 105 (.bool false) (by rw [hVe]; simp) d24), ?_⟩
              refine wp_ne64F 3 3 (.tmp 107) (.tmp 109) rfl Try.underlying3 _ (hv 26 107 (.int .i64 ae) (by rw [hVe]; simp) d26) (hv 28 109 (.int .i64 ae) (by rw [hVe]; simp) d28) ?_
              exact ⟨hoff.put 110 _ (by simp), vals_put hV 29 110 _ (by omega) (by rw [hVe]; simp) (by rw [hVe]; simp), hbl⟩
            · obtain rfl := Option.some.inj ho
              have d24 : f 24 = true := hdep ⟨24, .data⟩ (by simp) rfl
              have d29 : f 29 = true := hdep ⟨29, .data⟩ (by simp) rfl
              refine ⟨rfl, ?_⟩
              refine wp_pickF (.tmp 105) (.const (.bool true)) (.tmp 110) rfl _ (hv 24 105 (.bool false) (by rw [hVe]; simp) d24) (hv 29 110 (.bool false) (by rw [hVe]; simp) d29) ?_
              exact ⟨hoff.put 111 _ (by simp), vals_put hV 30 111 _ (by omega) (by rw [hVe]; simp) (by rw [hVe]; simp), hbl⟩
            · simp at ho
          case fin =>
            rintro f a wx ⟨hoff, hV, hbl⟩ hall
            have e := Off.all _ _ hoff
            have e111 : a.eval (.tmp 111) = .bool false := hV (30, 111, .bool false) (by rw [hVe]; simp) (hall 30 (by decide))
            have HI2 := hide (RInv.mk ((hbl.block _ (lt_of_block (unhide HR0))).trans (unhide HR0)) (unhide HPS) ((hbl.block _ (lt_of_block (unhide HQ0))).trans (unhide HQ0)) (unhide HQS) ((unhide HBE).trans (hbl.mono (unhide HBE).size)))
            simp only [List.foldl_cons, List.foldl_nil] at e
            rw [← hA, e111] at e
            generalize a.eval (.tmp 81) = y81, a.eval (.tmp 82) = y82, a.eval (.tmp 83) = y83, a.eval (.tmp 84) = y84, a.eval (.tmp 85) = y85, a.eval (.tmp 86) = y86, a.eval (.tmp 87) = y87, a.eval (.tmp 88) = y88, a.eval (.tmp 89) = y89, a.eval (.tmp 90) = y90, a.eval (.tmp 91) = y91, a.eval (.tmp 92) = y92, a.eval (.tmp 93) = y93, a.eval (.tmp 94) = y94, a.eval (.tmp 95) = y95, a.eval (.tmp 96) = y96, a.eval (.tmp 97) = y97, a.eval (.tmp 98) = y98, a.eval (.tmp 99) = y99, a.eval (.tmp 100) = y100, a.eval (.tmp 101) = y101, a.eval (.tmp 102) = y102, a.eval (.tmp 103) = y103, a.eval (.tmp 104) = y104, a.eval (.tmp 105) = y105, a.eval (.tmp 106) = y106, a.eval (.tmp 107) = y107, a.eval (.tmp 108) = y108, a.eval (.tmp 109) = y109, a.eval (.tmp 110) = y110 at e
            simp only [Act.put, List.setIfInBounds_toArray, List.set_cons_succ, List.set_cons_zero] at e
            subst e
            clear hoff hV hA hA5 hA6 hA9 hA10 hA11 hVe hbl e111 hcl hql hce hcn hqn
            go_wp2
            go_roundw
            case rel => exact ⟨k + 1, p', q', by omega, by go_num, unhide HAG, unhide HI2⟩
            case measure => simp [intOf]; omega
        · have n0 : (fk == 0) = false := by simpa using kk0
          by_cases kk1 : fk = 1
          · subst kk1
            have l6 := lt_of_block (unhide HI).rf
            have lr := lt_of_block (unhide HI).rd
            have BW : Hid (Below wr.heap.size wr ((wr.alloc (.cells #[.int .i64 1, .int .i64 fn, .int .i64 fz, .string fs] 45)).alloc (.cells #[.string q.1, .int .i64 q.2, .int .i64 0, .string ⟨#[]⟩] 56))) := ((Below.refl _ _).alloc (Nat.le_refl _) _).alloc (by simp) _
            have I1 := hide ((unhide HI).below (unhide BW))
            have XX : Hid (FldAt ((wr.alloc (.cells #[.int .i64 1, .int .i64 fn, .int .i64 fz, .string fs] 45)).alloc (.cells #[.string q.1, .int .i64 q.2, .int .i64 0, .string ⟨#[]⟩] 56)) wr.heap.size ⟨1, fn, fz, fs⟩) := (Below.heap_alloc _ _ _ (by simp)).trans (heap_alloc_new _ _)
            have GG : Hid (((wr.alloc (.cells #[.int .i64 1, .int .i64 fn, .int .i64 fz, .string fs] 45)).alloc (.cells #[.string q.1, .int .i64 q.2, .int .i64 0, .string ⟨#[]⟩] 56)).heap[wr.heap.size + 1]? = some (.cells #[.string q.1, .int .i64 q.2, .int .i64 0, .string ⟨#[]⟩] 56 (0, 0))) := heap2_b _ _ _
            have h11 : (wr.heap.size + 1) ≠ g6 := by omega
            have h11r : (wr.heap.size + 1) ≠ br := by omega
            have hxr : wr.heap.size ≠ br := by omega
            have hz0 := (unhide HI).be.size
            have hgt : w.heap.size ≤ (wr.heap.size + 1) := by omega
            clear l6 lr
            have hrc := hide (rtext_any ((wr.alloc (.cells #[.int .i64 1, .int .i64 fn, .int .i64 fz, .string fs] 45)).alloc (.cells #[.string q.1, .int .i64 q.2, .int .i64 0, .string ⟨#[]⟩] 56)) br p (by unfold maxLen; have := (unhide HI).ps; omega) (unhide I1).rd)
            have hag := hide (text_ag (unhide HG))
            have hps := hide (text_le p)
            have hqs := hide (textQ_le q)
            have hvc := hide (fun w => qtext_any q w (by unfold maxLen; have := (unhide HI).qs; omega))
            rw [(unhide hag).1] at hrc
            unfold vV gV at hvc
            generalize (textQ q).1 = T at *
            generalize (text p).2 = p' at *
            generalize (textQ q).2 = q' at *
            have HAG := hide (unhide hag).2
            have HPS := hide (Nat.le_trans (unhide hps) (unhide HI).ps)
            have HQS := hide (Nat.le_trans (unhide hqs) (unhide HI).qs)
            clear hag hps hqs
            go_wp2_with fail
            refine (unhide hrc).mono ?_
            rintro e w2 ⟨rfl, rd2, k2⟩
            have R2 : Hid (RdAt w2 br p') := rd2
            have Q2 : Hid (w2.heap[g6]? = some (.cells #[.string q.1, .int .i64 q.2] 54 (0, 0))) := (k2.block _ (lt_of_block (unhide I1).rf) hg6r).trans (unhide I1).rf
            have X2 : Hid (FldAt w2 wr.heap.size ⟨1, fn, fz, fs⟩) := (k2.block _ (lt_of_block (unhide XX)) hxr).trans (unhide XX)
            have G2 : Hid (w2.heap[(wr.heap.size + 1)]? = some (.cells #[.string q.1, .int .i64 q.2, .int .i64 0, .string ⟨#[]⟩] 56 (0, 0))) := (k2.block _ (lt_of_block (unhide GG)) h11r).trans (unhide GG)
            have B2 : Hid (Below w.heap.size w w2) := (unhide I1).be.trans (k2.below _ (Nat.le_trans (unhide HI).be.size (unhide BW).size) hbr)
            clear rd2 k2 I1 XX GG BW hrc HI
            obtain ⟨x0, x1, x2, x3⟩ := (unhide X2).cells
            have c0 := cell0_of_two (unhide Q2)
            have c1 := cell1_of_two (unhide Q2)
            go_wp2_with fail
            refine (unhide hvc w2).mono ?_
            rintro e w3 ⟨rfl, b3⟩
            have R3 : Hid (RdAt w3 br p') := (b3.block _ (lt_of_block (unhide R2))).trans (unhide R2)
            have Q3 : Hid (w3.heap[g6]? = some (.cells #[.string q.1, .int .i64 q.2] 54 (0, 0))) := (b3.block _ (lt_of_block (unhide Q2))).trans (unhide Q2)
            have G3 : Hid (w3.heap[(wr.heap.size + 1)]? = some (.cells #[.string q.1, .int .i64 q.2, .int .i64 0, .string ⟨#[]⟩] 56 (0, 0))) := (b3.block _ (lt_of_block (unhide G2))).trans (unhide G2)
            have B3 := hide ((unhide B2).trans (b3.mono (unhide B2).size))
            clear x0 x1 x2 x3 c0 c1 b3 R2 Q2 G2 X2 B2 hvc
            go_wp2_with (refine wpList_store_abs rfl 56 (.tmp 11) (.tmp 59) rfl (wr.heap.size + 1) 0 #[.string q'.1, .int .i64 q'.2, .int .i64 0, .string T] rfl rfl (by have h := there_row (unhide G3); exact h) Try.sizeGot (four_one _ _ _ _ ⟨rfl, rfl, rfl, rfl⟩) ?_)
            intro w4 hw4
            have RX : Hid (RdAt w4 br p') := by show RdAt _ _ _; rw [unhide hw4]; exact (Below.heap_setCell _ _ _ _ h11r.symm).trans ((Below.heap_setCell _ _ _ _ h11r.symm).trans ((Below.heap_setCell _ _ _ _ h11r.symm).trans ((Below.heap_setCell _ _ _ _ h11r.symm).trans (unhide R3))))
            have QX : Hid (w4.heap[g6]? = some (.cells #[.string q.1, .int .i64 q.2] 54 (0, 0))) := by show _ = _; rw [unhide hw4]; exact (Below.heap_setCell _ _ _ _ h11.symm).trans ((Below.heap_setCell _ _ _ _ h11.symm).trans ((Below.heap_setCell _ _ _ _ h11.symm).trans ((Below.heap_setCell _ _ _ _ h11.symm).trans (unhide Q3))))
            have GX : Hid (w4.heap[(wr.heap.size + 1)]? = some (.cells #[.string q'.1, .int .i64 q'.2, .int .i64 0, .string T] 56 (0, 0))) := by show _ = _; rw [unhide hw4]; exact four_set (unhide G3)
            have BX : Hid (Below w.heap.size w w4) := by show Below _ _ _; rw [unhide hw4]; exact ((((unhide B3).setCell hgt _).setCell hgt _).setCell hgt _).setCell hgt _
            clear hw4 R3 Q3 G3 B3
            have kk := cells_of_four (unhide GX)
            obtain ⟨k0, k1, k2, k3⟩ := kk
            go_wp2_with (refine wpList_store_abs rfl 54 (.tmp 6) (.tmp 80) rfl g6 0 #[.string q'.1, .int .i64 q'.2] rfl rfl (by have h := there_row (unhide QX); exact h) Try.sizeRd (two_one _ _ ⟨rfl, rfl⟩) ?_)
            intro w5 hw5
            have R5 : Hid (RdAt w5 br p') := by show RdAt _ _ _; rw [unhide hw5]; exact ((Below.heap_setCell _ _ _ _ hbr6).trans ((Below.heap_setCell _ _ _ _ hbr6).trans (unhide RX)))
            have Q5 : Hid (w5.heap[g6]? = some (.cells #[.string q'.1, .int .i64 q'.2] 54 (0, 0))) := by show _ = _; rw [unhide hw5]; exact two_set1 (two_set0 (unhide QX))
            have G5 : Hid (w5.heap[(wr.heap.size + 1)]? = some (.cells #[.string q'.1, .int .i64 q'.2, .int .i64 0, .string T] 56 (0, 0))) := by show _ = _; rw [unhide hw5]; exact ((Below.heap_setCell _ _ _ _ h11).trans ((Below.heap_setCell _ _ _ _ h11).trans (unhide GX)))
            have B5 : Hid (Below w.heap.size w w5) := by show Below _ _ _; rw [unhide hw5]; exact ((unhide BX).setCell hg6 _).setCell hg6 _
            clear hw5 RX QX GX BX k0 k1 k2 k3
            go_wp2
            obtain ⟨W0, hW0⟩ : ∃ W0, W0 = w5.drew := ⟨_, rfl⟩
            have HR0 : Hid (RdAt W0 br p') := by show RdAt _ _ _; rw [hW0]; exact unhide R5
            have HQ0 : Hid (W0.heap[g6]? = some (.cells #[.string q'.1, .int .i64 q'.2] 54 (0, 0))) := by show _ = _; rw [hW0]; exact unhide Q5
            have HG0 : Hid (W0.heap[(wr.heap.size + 1)]? = some (.cells #[.string q'.1, .int .i64 q'.2, .int .i64 0, .string T] 56 (0, 0))) := by show _ = _; rw [hW0]; exact unhide G5
            have HGC : Hid (W0.cell? ⟨(wr.heap.size + 1), 2, none⟩ = some (.int .i64 0) ∧ W0.cell? ⟨(wr.heap.size + 1), 3, none⟩ = some (.string T)) := ⟨(cells_of_four (unhide HG0)).2.2.1, (cells_of_four (unhide HG0)).2.2.2⟩
            have HBE : Hid (Below w.heap.size w W0) := by show Below _ _ _; rw [hW0]; exact (unhide B5).drew
            have HW0 : Hid (Below W0.heap.size W0 w5.drew) := by show Below _ _ _; rw [hW0]; exact Below.refl _ _
            clear hW0 R5 Q5 G5 B5
            obtain ⟨l, ae, hcl, hql, hce, hcn, hqn⟩ := reads_calls br p' q' (unhide HAG) (unhide HPS) (unhide HQS)
            generalize hA : Act.mk _ _ = A
            have hA5 : A.eval (.tmp 5) = .pointer (some ⟨br, 0, none⟩) := by rw [← hA]; rfl
            have hA6 : A.eval (.tmp 6) = .pointer (some ⟨g6, 0, none⟩) := by rw [← hA]; rfl
            have hA9 : A.eval (.tmp 9) = .int .i64 0 := by rw [← hA]; rfl
            have hA10 : A.eval (.tmp 10) = .string T := by rw [← hA]; rfl
            have hA11 : A.eval (.tmp 11) = .pointer (some ⟨(wr.heap.size + 1), 0, none⟩) := by rw [← hA]; rfl
            have hAs : A.tmps.size = 112 := by rw [← hA]; rfl
            obtain ⟨V, hVe⟩ : ∃ V : List (Nat × Nat × Value), V = [(0, 81, .int .i64 0), (1, 82, .pointer (some ⟨(wr.heap.size + 1), 2, none⟩)), (2, 83, .int .i64 0), (3, 84, .bool false), (4, 85, .bool false), (5, 86, .string T), (6, 87, .pointer (some ⟨(wr.heap.size + 1), 3, none⟩)), (7, 88, .string T), (8, 89, .bool false), (9, 90, .bool false), (10, 91, .bool false), (11, 92, .pointer (some ⟨br, 0, none⟩)), (12, 93, .int .i64 l), (13, 94, .agg #[.string q'.1, .int .i64 q'.2]), (14, 95, .int .i64 l), (15, 96, .bool false), (16, 97, .bool false), (17, 98, .bool false), (18, 99, .pointer (some ⟨br, 0, none⟩)), (19, 100, .int .i64 q'.2), (20, 101, .pointer (some ⟨g6, 1, none⟩)), (21, 102, .int .i64 q'.2), (22, 103, .bool false), (23, 104, .bool false), (24, 105, .bool false), (25, 106, .pointer (some ⟨br, 0, none⟩)), (26, 107, .int .i64 ae), (27, 108, .agg #[.string q'.1, .int .i64 q'.2]), (28, 109, .int .i64 ae), (29, 110, .bool false), (30, 111, .bool false)] := ⟨_, rfl⟩
            refine wp_region_invG (by kernel_rfl) (by kernel_rfl) (fun f a wx => Off [111, 81, 82, 83, 84, 85, 86, 87, 88, 89, 90, 91, 92, 93, 94, 95, 96, 97, 98, 99, 100, 101, 102, 103, 104, 105, 106, 107, 108, 109, 110] A a ∧ ValsOk V f a ∧ Below W0.heap.size W0 wx) ?start ?step ?fin
            case start => exact ⟨Off.refl _ _, vals_start _ _, unhide HW0⟩
            case step =>
              rintro f a wx i o ⟨hoff, hV, hbl⟩ ho hfi hdep
              have has : a.tmps.size = 112 := hoff.size.trans hAs
              have hv := fun (i d : Nat) (v : Value) (hm : (i, d, v) ∈ V) (hf : f i = true) => hV (i, d, v) hm hf
              rcases i with _ | _ | _ | _ | _ | _ | _ | _ | _ | _ | _ | _ | _ | _ | _ | _ | _ | _ | _ | _ | _ | _ | _ | _ | _ | _ | _ | _ | _ | _ | _ | i
              · obtain rfl := Option.some.inj ho
                refine ⟨rfl, ?_⟩
                refine wp_move (.tmp 9) rfl ?_
                rw [((hoff.eval 9 (by simp)).trans hA9)]
                exact ⟨hoff.put 81 _ (by simp), vals_put hV 0 81 _ (by omega) (by rw [hVe]; simp) (by rw [hVe]; simp), hbl⟩
              · obtain rfl := Option.some.inj ho
                refine ⟨rfl, ?_⟩
                refine wp_field 56 (.tmp 11) 1 rfl _ _ ((hoff.eval 11 (by simp)).trans hA11) (fa_got1 (wr.heap.size + 1)) ?_
                exact ⟨hoff.put 82 _ (by simp), vals_put hV 1 82 _ (by omega) (by rw [hVe]; simp) (by rw [hVe]; simp), hbl⟩
              · obtain rfl := Option.some.inj ho
                have d1 : f 1 = true := hdep ⟨1, .data⟩ (by simp) rfl
                refine ⟨rfl, ?_⟩
                refine wp_load1 3 (.tmp 82) rfl _ _ (hv 1 82 (.pointer (some ⟨(wr.heap.size + 1), 2, none⟩)) (by rw [hVe]; simp) d1) (loadI _ _ _ ((hbl.cell (p := ⟨(wr.heap.size + 1), 2, none⟩) (lt_of_block (unhide HG0))).trans (unhide HGC).1)) ?_
                exact ⟨hoff.put 83 _ (by simp), vals_put hV 2 83 _ (by omega) (by rw [hVe]; simp) (by rw [hVe]; simp), hbl⟩
              · obtain rfl := Option.some.inj ho
                have d0 : f 0 = true := hdep ⟨0, .data⟩ (by simp) rfl
                have d2 : f 2 = true := hdep ⟨2, .data⟩ (by simp) rfl
                refine ⟨rfl, ?_⟩
                refine wp_ne64F 3 3 (.tmp 81) (.tmp 83) rfl Try.underlying3 _ (hv 0 81 (.int .i64 0) (by rw [hVe]; simp) d0) (hv 2 83 (.int .i64 0) (by rw [hVe]; simp) d2) ?_
                exact ⟨hoff.put 84 _ (by simp), vals_put hV 3 84 _ (by omega) (by rw [hVe]; simp) (by rw [hVe]; simp), hbl⟩
              · obtain rfl := Option.some.inj ho
                have d3 : f 3 = true := hdep ⟨3, .data⟩ (by simp) rfl
                refine ⟨rfl, ?_⟩
                refine wp_move (.tmp 84) rfl ?_
                rw [(hv 3 84 (.bool false) (by rw [hVe]; simp) d3)]
                exact ⟨hoff.put 85 _ (by simp), vals_put hV 4 85 _ (by omega) (by rw [hVe]; simp) (by rw [hVe]; simp), hbl⟩
              · obtain rfl := Option.some.inj ho
                have d4 : f 4 = true := hdep ⟨4, .guard⟩ (by simp) rfl
                refine ⟨wanted_of 4 85 false rfl rfl (hv 4 85 (.bool false) (by rw [hVe]; simp) d4), ?_⟩
                refine wp_move (.tmp 10) rfl ?_
                rw [((hoff.eval 10 (by simp)).trans hA10)]
                exact ⟨hoff.put 86 _ (by simp), vals_put hV 5 86 _ (by omega) (by rw [hVe]; simp) (by rw [hVe]; simp), hbl⟩
              · obtain rfl := Option.some.inj ho
                have d4 : f 4 = true := hdep ⟨4, .guard⟩ (by simp) rfl
                refine ⟨wanted_of 4 85 false rfl rfl (hv 4 85 (.bool false) (by rw [hVe]; simp) d4), ?_⟩
                refine wp_field 56 (.tmp 11) 2 rfl _ _ ((hoff.eval 11 (by simp)).trans hA11) (fa_got2 (wr.heap.size + 1)) ?_
                exact ⟨hoff.put 87 _ (by simp), vals_put hV 6 87 _ (by omega) (by rw [hVe]; simp) (by rw [hVe]; simp), hbl⟩
              · obtain rfl := Option.some.inj ho
                have d4 : f 4 = true := hdep ⟨4, .guard⟩ (by simp) rfl
                have d6 : f 6 = true := hdep ⟨6, .data⟩ (by simp) rfl
                refine ⟨wanted_of 4 85 false rfl rfl (hv 4 85 (.bool false) (by rw [hVe]; simp) d4), ?_⟩
                refine wp_load1 9 (.tmp 87) rfl _ _ (hv 6 87 (.pointer (some ⟨(wr.heap.size + 1), 3, none⟩)) (by rw [hVe]; simp) d6) (loadS _ _ _ ((hbl.cell (p := ⟨(wr.heap.size + 1), 3, none⟩) (lt_of_block (unhide HG0))).trans (unhide HGC).2)) ?_
                exact ⟨hoff.put 88 _ (by simp), vals_put hV 7 88 _ (by omega) (by rw [hVe]; simp) (by rw [hVe]; simp), hbl⟩
              · obtain rfl := Option.some.inj ho
                have d4 : f 4 = true := hdep ⟨4, .guard⟩ (by simp) rfl
                have d5 : f 5 = true := hdep ⟨5, .data⟩ (by simp) rfl
                have d7 : f 7 = true := hdep ⟨7, .data⟩ (by simp) rfl
                refine ⟨wanted_of 4 85 false rfl rfl (hv 4 85 (.bool false) (by rw [hVe]; simp) d4), ?_⟩
                refine wp_neStrF 9 9 (.tmp 86) (.tmp 88) rfl Try.underlying9 _ (hv 5 86 (.string T) (by rw [hVe]; simp) d5) (hv 7 88 (.string T) (by rw [hVe]; simp) d7) ?_
                exact ⟨hoff.put 89 _ (by simp), vals_put hV 8 89 _ (by omega) (by rw [hVe]; simp) (by rw [hVe]; simp), hbl⟩
              · obtain rfl := Option.some.inj ho
                have d4 : f 4 = true := hdep ⟨4, .data⟩ (by simp) rfl
                have d8 : f 8 = true := hdep ⟨8, .data⟩ (by simp) rfl
                refine ⟨rfl, ?_⟩
                refine wp_pickF (.tmp 85) (.const (.bool true)) (.tmp 89) rfl _ (hv 4 85 (.bool false) (by rw [hVe]; simp) d4) (hv 8 89 (.bool false) (by rw [hVe]; simp) d8) ?_
                exact ⟨hoff.put 90 _ (by simp), vals_put hV 9 90 _ (by omega) (by rw [hVe]; simp) (by rw [hVe]; simp), hbl⟩
              · obtain rfl := Option.some.inj ho
                have d9 : f 9 = true := hdep ⟨9, .data⟩ (by simp) rfl
                refine ⟨rfl, ?_⟩
                refine wp_move (.tmp 90) rfl ?_
                rw [(hv 9 90 (.bool false) (by rw [hVe]; simp) d9)]
                exact ⟨hoff.put 91 _ (by simp), vals_put hV 10 91 _ (by omega) (by rw [hVe]; simp) (by rw [hVe]; simp), hbl⟩
              · obtain rfl := Option.some.inj ho
                have d10 : f 10 = true := hdep ⟨10, .guard⟩ (by simp) rfl
                refine ⟨wanted_of 10 91 false rfl rfl (hv 10 91 (.bool false) (by rw [hVe]; simp) d10), ?_⟩
                refine wp_move (.tmp 5) rfl ?_
                rw [((hoff.eval 5 (by simp)).trans hA5)]
                exact ⟨hoff.put 92 _ (by simp), vals_put hV 11 92 _ (by omega) (by rw [hVe]; simp) (by rw [hVe]; simp), hbl⟩
              · obtain rfl := Option.some.inj ho
                have d10 : f 10 = true := hdep ⟨10, .guard⟩ (by simp) rfl
                have d11 : f 11 = true := hdep ⟨11, .data⟩ (by simp) rfl
                refine ⟨wanted_of 10 91 false rfl rfl (hv 10 91 (.bool false) (by rw [hVe]; simp) d10), ?_⟩
                refine wp_call 36 #[.tmp 92] #[52] rfl Try.call36 #[.pointer (some ⟨br, 0, none⟩)] (by simp [(hv 11 92 (.pointer (some ⟨br, 0, none⟩)) (by rw [hVe]; simp) d11)]) (unhide hcl wx ((hbl.block _ (lt_of_block (unhide HR0))).trans (unhide HR0))) ?_
                rintro e w3 ⟨rfl, rfl⟩
                exact ⟨_, rfl, hoff.put 93 _ (by simp), vals_put hV 12 93 _ (by omega) (by rw [hVe]; simp) (by rw [hVe]; simp), hbl⟩
              · obtain rfl := Option.some.inj ho
                have d10 : f 10 = true := hdep ⟨10, .guard⟩ (by simp) rfl
                refine ⟨wanted_of 10 91 false rfl rfl (hv 10 91 (.bool false) (by rw [hVe]; simp) d10), ?_⟩
                refine wp_load_row 54 (.tmp 6) rfl g6 ((hoff.eval 6 (by simp)).trans hA6) 54 #[.string q'.1, .int .i64 q'.2] (0, 0) _ ((hbl.block _ (lt_of_block (unhide HQ0))).trans (unhide HQ0)) Try.underlying54 rfl (by kernel_rfl) ?_
                exact ⟨hoff.put 94 _ (by simp), vals_put hV 13 94 _ (by omega) (by rw [hVe]; simp) (by rw [hVe]; simp), hbl⟩
              · obtain rfl := Option.some.inj ho
                have d10 : f 10 = true := hdep ⟨10, .guard⟩ (by simp) rfl
                have d13 : f 13 = true := hdep ⟨13, .data⟩ (by simp) rfl
                refine ⟨wanted_of 10 91 false rfl rfl (hv 10 91 (.bool false) (by rw [hVe]; simp) d10), ?_⟩
                refine wp_call 37 #[.tmp 94] #[54] rfl Try.call37 #[.agg #[.string q'.1, .int .i64 q'.2]] (by simp [(hv 13 94 (.agg #[.string q'.1, .int .i64 q'.2]) (by rw [hVe]; simp) d13)]) (unhide hql wx) ?_
                rintro e w3 ⟨rfl, hb3⟩
                exact ⟨_, rfl, hoff.put 95 _ (by simp), vals_put hV 14 95 _ (by omega) (by rw [hVe]; simp) (by rw [hVe]; simp), hbl.trans (hb3.mono hbl.size)⟩
              · obtain rfl := Option.some.inj ho
                have d10 : f 10 = true := hdep ⟨10, .guard⟩ (by simp) rfl
                have d12 : f 12 = true := hdep ⟨12, .data⟩ (by simp) rfl
                have d14 : f 14 = true := hdep ⟨14, .data⟩ (by simp) rfl
                refine ⟨wanted_of 10 91 false rfl rfl (hv 10 91 (.bool false) (by rw [hVe]; simp) d10), ?_⟩
                refine wp_ne64F 3 3 (.tmp 93) (.tmp 95) rfl Try.underlying3 _ (hv 12 93 (.int .i64 l) (by rw [hVe]; simp) d12) (hv 14 95 (.int .i64 l) (by rw [hVe]; simp) d14) ?_
                exact ⟨hoff.put 96 _ (by simp), vals_put hV 15 96 _ (by omega) (by rw [hVe]; simp) (by rw [hVe]; simp), hbl⟩
              · obtain rfl := Option.some.inj ho
                have d10 : f 10 = true := hdep ⟨10, .data⟩ (by simp) rfl
                have d15 : f 15 = true := hdep ⟨15, .data⟩ (by simp) rfl
                refine ⟨rfl, ?_⟩
                refine wp_pickF (.tmp 91) (.const (.bool true)) (.tmp 96) rfl _ (hv 10 91 (.bool false) (by rw [hVe]; simp) d10) (hv 15 96 (.bool false) (by rw [hVe]; simp) d15) ?_
                exact ⟨hoff.put 97 _ (by simp), vals_put hV 16 97 _ (by omega) (by rw [hVe]; simp) (by rw [hVe]; simp), hbl⟩
              · obtain rfl := Option.some.inj ho
                have d16 : f 16 = true := hdep ⟨16, .data⟩ (by simp) rfl
                refine ⟨rfl, ?_⟩
                refine wp_move (.tmp 97) rfl ?_
                rw [(hv 16 97 (.bool false) (by rw [hVe]; simp) d16)]
                exact ⟨hoff.put 98 _ (by simp), vals_put hV 17 98 _ (by omega) (by rw [hVe]; simp) (by rw [hVe]; simp), hbl⟩
              · obtain rfl := Option.some.inj ho
                have d17 : f 17 = true := hdep ⟨17, .guard⟩ (by simp) rfl
                refine ⟨wanted_of 17 98 false rfl rfl (hv 17 98 (.bool false) (by rw [hVe]; simp) d17), ?_⟩
                refine wp_move (.tmp 5) rfl ?_
                rw [((hoff.eval 5 (by simp)).trans hA5)]
                exact ⟨hoff.put 99 _ (by simp), vals_put hV 18 99 _ (by omega) (by rw [hVe]; simp) (by rw [hVe]; simp), hbl⟩
              · obtain rfl := Option.some.inj ho
                have d17 : f 17 = true := hdep ⟨17, .guard⟩ (by simp) rfl
                have d18 : f 18 = true := hdep ⟨18, .data⟩ (by simp) rfl
                refine ⟨wanted_of 17 98 false rfl rfl (hv 17 98 (.bool false) (by rw [hVe]; simp) d17), ?_⟩
                refine wp_call 38 #[.tmp 99] #[52] rfl Try.call38 #[.pointer (some ⟨br, 0, none⟩)] (by simp [(hv 18 99 (.pointer (some ⟨br, 0, none⟩)) (by rw [hVe]; simp) d18)]) (unhide hce wx ((hbl.block _ (lt_of_block (unhide HR0))).trans (unhide HR0))) ?_
                rintro e w3 ⟨rfl, rfl⟩
                exact ⟨_, rfl, hoff.put 100 _ (by simp), vals_put hV 19 100 _ (by omega) (by rw [hVe]; simp) (by rw [hVe]; simp), hbl⟩
              · obtain rfl := Option.some.inj ho
                have d17 : f 17 = true := hdep ⟨17, .guard⟩ (by simp) rfl
                refine ⟨wanted_of 17 98 false rfl rfl (hv 17 98 (.bool false) (by rw [hVe]; simp) d17), ?_⟩
                refine wp_field 54 (.tmp 6) 1 rfl _ _ ((hoff.eval 6 (by simp)).trans hA6) (fa_rd1 g6) ?_
                exact ⟨hoff.put 101 _ (by simp), vals_put hV 20 101 _ (by omega) (by rw [hVe]; simp) (by rw [hVe]; simp), hbl⟩
              · obtain rfl := Option.some.inj ho
                have d17 : f 17 = true := hdep ⟨17, .guard⟩ (by simp) rfl
                have d20 : f 20 = true := hdep ⟨20, .data⟩ (by simp) rfl
                refine ⟨wanted_of 17 98 false rfl rfl (hv 17 98 (.bool false) (by rw [hVe]; simp) d17), ?_⟩
                refine wp_load1 3 (.tmp 101) rfl _ _ (hv 20 101 (.pointer (some ⟨g6, 1, none⟩)) (by rw [hVe]; simp) d20) (loadI _ _ _ ((hbl.cell (p := ⟨g6, 1, none⟩) (lt_of_block (unhide HQ0))).trans (cell1_of_two (unhide HQ0)))) ?_
                exact ⟨hoff.put 102 _ (by simp), vals_put hV 21 102 _ (by omega) (by rw [hVe]; simp) (by rw [hVe]; simp), hbl⟩
              · obtain rfl := Option.some.inj ho
                have d17 : f 17 = true := hdep ⟨17, .guard⟩ (by simp) rfl
                have d19 : f 19 = true := hdep ⟨19, .data⟩ (by simp) rfl
                have d21 : f 21 = true := hdep ⟨21, .data⟩ (by simp) rfl
                refine ⟨wanted_of 17 98 false rfl rfl (hv 17 98 (.bool false) (by rw [hVe]; simp) d17), ?_⟩
                refine wp_ne64F 3 3 (.tmp 100) (.tmp 102) rfl Try.underlying3 _ (hv 19 100 (.int .i64 q'.2) (by rw [hVe]; simp) d19) (hv 21 102 (.int .i64 q'.2) (by rw [hVe]; simp) d21) ?_
                exact ⟨hoff.put 103 _ (by simp), vals_put hV 22 103 _ (by omega) (by rw [hVe]; simp) (by rw [hVe]; simp), hbl⟩
              · obtain rfl := Option.some.inj ho
                have d17 : f 17 = true := hdep ⟨17, .data⟩ (by simp) rfl
                have d22 : f 22 = true := hdep ⟨22, .data⟩ (by simp) rfl
                refine ⟨rfl, ?_⟩
                refine wp_pickF (.tmp 98) (.const (.bool true)) (.tmp 103) rfl _ (hv 17 98 (.bool false) (by rw [hVe]; simp) d17) (hv 22 103 (.bool false) (by rw [hVe]; simp) d22) ?_
                exact ⟨hoff.put 104 _ (by simp), vals_put hV 23 104 _ (by omega) (by rw [hVe]; simp) (by rw [hVe]; simp), hbl⟩
              · obtain rfl := Option.some.inj ho
                have d23 : f 23 = true := hdep ⟨23, .data⟩ (by simp) rfl
                refine ⟨rfl, ?_⟩
                refine wp_move (.tmp 104) rfl ?_
                rw [(hv 23 104 (.bool false) (by rw [hVe]; simp) d23)]
                exact ⟨hoff.put 105 _ (by simp), vals_put hV 24 105 _ (by omega) (by rw [hVe]; simp) (by rw [hVe]; simp), hbl⟩
              · obtain rfl := Option.some.inj ho
                have d24 : f 24 = true := hdep ⟨24, .guard⟩ (by simp) rfl
                refine ⟨wanted_of 24 105 false rfl rfl (hv 24 105 (.bool false) (by rw [hVe]; simp) d24), ?_⟩
                refine wp_move (.tmp 5) rfl ?_
                rw [((hoff.eval 5 (by simp)).trans hA5)]
                exact ⟨hoff.put 106 _ (by simp), vals_put hV 25 106 _ (by omega) (by rw [hVe]; simp) (by rw [hVe]; simp), hbl⟩
              · obtain rfl := Option.some.inj ho
                have d24 : f 24 = true := hdep ⟨24, .guard⟩ (by simp) rfl
                have d25 : f 25 = true := hdep ⟨25, .data⟩ (by simp) rfl
                refine ⟨wanted_of 24 105 false rfl rfl (hv 24 105 (.bool false) (by rw [hVe]; simp) d24), ?_⟩
                refine wp_call 39 #[.tmp 106] #[52] rfl Try.call39 #[.pointer (some ⟨br, 0, none⟩)] (by simp [(hv 25 106 (.pointer (some ⟨br, 0, none⟩)) (by rw [hVe]; simp) d25)]) (unhide hcn wx ((hbl.block _ (lt_of_block (unhide HR0))).trans (unhide HR0))) ?_
                rintro e w3 ⟨rfl, rfl⟩
                exact ⟨_, rfl, hoff.put 107 _ (by simp), vals_put hV 26 107 _ (by omega) (by rw [hVe]; simp) (by rw [hVe]; simp), hbl⟩
              · obtain rfl := Option.some.inj ho
                have d24 : f 24 = true := hdep ⟨24, .guard⟩ (by simp) rfl
                refine ⟨wanted_of 24 105 false rfl rfl (hv 24 105 (.bool false) (by rw [hVe]; simp) d24), ?_⟩
                refine wp_load_row 54 (.tmp 6) rfl g6 ((hoff.eval 6 (by simp)).trans hA6) 54 #[.string q'.1, .int .i64 q'.2] (0, 0) _ ((hbl.block _ (lt_of_block (unhide HQ0))).trans (unhide HQ0)) Try.underlying54 rfl (by kernel_rfl) ?_
                exact ⟨hoff.put 108 _ (by simp), vals_put hV 27 108 _ (by omega) (by rw [hVe]; simp) (by rw [hVe]; simp), hbl⟩
              · obtain rfl := Option.some.inj ho
                have d24 : f 24 = true := hdep ⟨24, .guard⟩ (by simp) rfl
                have d27 : f 27 = true := hdep ⟨27, .data⟩ (by simp) rfl
                refine ⟨wanted_of 24 105 false rfl rfl (hv 24 105 (.bool false) (by rw [hVe]; simp) d24), ?_⟩
                refine wp_call 40 #[.tmp 108] #[54] rfl Try.call40 #[.agg #[.string q'.1, .int .i64 q'.2]] (by simp [(hv 27 108 (.agg #[.string q'.1, .int .i64 q'.2]) (by rw [hVe]; simp) d27)]) (unhide hqn wx) ?_
                rintro e w3 ⟨rfl, hb3⟩
                exact ⟨_, rfl, hoff.put 109 _ (by simp), vals_put hV 28 109 _ (by omega) (by rw [hVe]; simp) (by rw [hVe]; simp), hbl.trans (hb3.mono hbl.size)⟩
              · obtain rfl := Option.some.inj ho
                have d24 : f 24 = true := hdep ⟨24, .guard⟩ (by simp) rfl
                have d26 : f 26 = true := hdep ⟨26, .data⟩ (by simp) rfl
                have d28 : f 28 = true := hdep ⟨28, .data⟩ (by simp) rfl
                refine ⟨wanted_of 24 105 false rfl rfl (hv 24 105 (.bool false) (by rw [hVe]; simp) d24), ?_⟩
                refine wp_ne64F 3 3 (.tmp 107) (.tmp 109) rfl Try.underlying3 _ (hv 26 107 (.int .i64 ae) (by rw [hVe]; simp) d26) (hv 28 109 (.int .i64 ae) (by rw [hVe]; simp) d28) ?_
                exact ⟨hoff.put 110 _ (by simp), vals_put hV 29 110 _ (by omega) (by rw [hVe]; simp) (by rw [hVe]; simp), hbl⟩
              · obtain rfl := Option.some.inj ho
                have d24 : f 24 = true := hdep ⟨24, .data⟩ (by simp) rfl
                have d29 : f 29 = true := hdep ⟨29, .data⟩ (by simp) rfl
                refine ⟨rfl, ?_⟩
                refine wp_pickF (.tmp 105) (.const (.bool true)) (.tmp 110) rfl _ (hv 24 105 (.bool false) (by rw [hVe]; simp) d24) (hv 29 110 (.bool false) (by rw [hVe]; simp) d29) ?_
                exact ⟨hoff.put 111 _ (by simp), vals_put hV 30 111 _ (by omega) (by rw [hVe]; simp) (by rw [hVe]; simp), hbl⟩
              · simp at ho
            case fin =>
              rintro f a wx ⟨hoff, hV, hbl⟩ hall
              have e := Off.all _ _ hoff
              have e111 : a.eval (.tmp 111) = .bool false := hV (30, 111, .bool false) (by rw [hVe]; simp) (hall 30 (by decide))
              have HI2 := hide (RInv.mk ((hbl.block _ (lt_of_block (unhide HR0))).trans (unhide HR0)) (unhide HPS) ((hbl.block _ (lt_of_block (unhide HQ0))).trans (unhide HQ0)) (unhide HQS) ((unhide HBE).trans (hbl.mono (unhide HBE).size)))
              simp only [List.foldl_cons, List.foldl_nil] at e
              rw [← hA, e111] at e
              generalize a.eval (.tmp 81) = y81, a.eval (.tmp 82) = y82, a.eval (.tmp 83) = y83, a.eval (.tmp 84) = y84, a.eval (.tmp 85) = y85, a.eval (.tmp 86) = y86, a.eval (.tmp 87) = y87, a.eval (.tmp 88) = y88, a.eval (.tmp 89) = y89, a.eval (.tmp 90) = y90, a.eval (.tmp 91) = y91, a.eval (.tmp 92) = y92, a.eval (.tmp 93) = y93, a.eval (.tmp 94) = y94, a.eval (.tmp 95) = y95, a.eval (.tmp 96) = y96, a.eval (.tmp 97) = y97, a.eval (.tmp 98) = y98, a.eval (.tmp 99) = y99, a.eval (.tmp 100) = y100, a.eval (.tmp 101) = y101, a.eval (.tmp 102) = y102, a.eval (.tmp 103) = y103, a.eval (.tmp 104) = y104, a.eval (.tmp 105) = y105, a.eval (.tmp 106) = y106, a.eval (.tmp 107) = y107, a.eval (.tmp 108) = y108, a.eval (.tmp 109) = y109, a.eval (.tmp 110) = y110 at e
              simp only [Act.put, List.setIfInBounds_toArray, List.set_cons_succ, List.set_cons_zero] at e
              subst e
              clear hoff hV hA hA5 hA6 hA9 hA10 hA11 hVe hbl e111 hcl hql hce hcn hqn
              go_wp2
              go_roundw
              case rel => exact ⟨k + 1, p', q', by omega, by go_num, unhide HAG, unhide HI2⟩
              case measure => simp [intOf]; omega
          · have n1 : (fk == 1) = false := by simpa using kk1
            by_cases kk2 : fk = 2
            · subst kk2
              have l6 := lt_of_block (unhide HI).rf
              have lr := lt_of_block (unhide HI).rd
              have BW : Hid (Below wr.heap.size wr ((wr.alloc (.cells #[.int .i64 2, .int .i64 fn, .int .i64 fz, .string fs] 45)).alloc (.cells #[.string q.1, .int .i64 q.2, .int .i64 0, .string ⟨#[]⟩] 56))) := ((Below.refl _ _).alloc (Nat.le_refl _) _).alloc (by simp) _
              have I1 := hide ((unhide HI).below (unhide BW))
              have XX : Hid (FldAt ((wr.alloc (.cells #[.int .i64 2, .int .i64 fn, .int .i64 fz, .string fs] 45)).alloc (.cells #[.string q.1, .int .i64 q.2, .int .i64 0, .string ⟨#[]⟩] 56)) wr.heap.size ⟨2, fn, fz, fs⟩) := (Below.heap_alloc _ _ _ (by simp)).trans (heap_alloc_new _ _)
              have GG : Hid (((wr.alloc (.cells #[.int .i64 2, .int .i64 fn, .int .i64 fz, .string fs] 45)).alloc (.cells #[.string q.1, .int .i64 q.2, .int .i64 0, .string ⟨#[]⟩] 56)).heap[wr.heap.size + 1]? = some (.cells #[.string q.1, .int .i64 q.2, .int .i64 0, .string ⟨#[]⟩] 56 (0, 0))) := heap2_b _ _ _
              have h11 : (wr.heap.size + 1) ≠ g6 := by omega
              have h11r : (wr.heap.size + 1) ≠ br := by omega
              have hxr : wr.heap.size ≠ br := by omega
              have hz0 := (unhide HI).be.size
              have hgt : w.heap.size ≤ (wr.heap.size + 1) := by omega
              clear l6 lr
              have hrc := hide (rraw_any ((wr.alloc (.cells #[.int .i64 2, .int .i64 fn, .int .i64 fz, .string fs] 45)).alloc (.cells #[.string q.1, .int .i64 q.2, .int .i64 0, .string ⟨#[]⟩] 56)) br p fn (by unfold maxLen; have := (unhide HI).ps; omega) (unhide I1).rd)
              have hag := hide (raw_ag (unhide HG) fn)
              have hps := hide ((raw_le p fn).2)
              have hqs := hide ((raw_le q fn).2)
              have hvc := hide (fun w => qraw_any q fn w (by unfold maxLen; have := (unhide HI).qs; omega))
              rw [(unhide hag).1] at hrc
              unfold vV gV at hvc
              generalize (raw q fn).1 = T at *
              generalize (raw p fn).2 = p' at *
              generalize (raw q fn).2 = q' at *
              have HAG := hide (unhide hag).2
              have HPS := hide (Nat.le_trans (unhide hps) (unhide HI).ps)
              have HQS := hide (Nat.le_trans (unhide hqs) (unhide HI).qs)
              clear hag hps hqs
              go_wp2_with fail
              refine (unhide hrc).mono ?_
              rintro e w2 ⟨rfl, rd2, k2⟩
              have R2 : Hid (RdAt w2 br p') := rd2
              have Q2 : Hid (w2.heap[g6]? = some (.cells #[.string q.1, .int .i64 q.2] 54 (0, 0))) := (k2.block _ (lt_of_block (unhide I1).rf) hg6r).trans (unhide I1).rf
              have X2 : Hid (FldAt w2 wr.heap.size ⟨2, fn, fz, fs⟩) := (k2.block _ (lt_of_block (unhide XX)) hxr).trans (unhide XX)
              have G2 : Hid (w2.heap[(wr.heap.size + 1)]? = some (.cells #[.string q.1, .int .i64 q.2, .int .i64 0, .string ⟨#[]⟩] 56 (0, 0))) := (k2.block _ (lt_of_block (unhide GG)) h11r).trans (unhide GG)
              have B2 : Hid (Below w.heap.size w w2) := (unhide I1).be.trans (k2.below _ (Nat.le_trans (unhide HI).be.size (unhide BW).size) hbr)
              clear rd2 k2 I1 XX GG BW hrc HI
              obtain ⟨x0, x1, x2, x3⟩ := (unhide X2).cells
              have c0 := cell0_of_two (unhide Q2)
              have c1 := cell1_of_two (unhide Q2)
              go_wp2_with fail
              refine (unhide hvc w2).mono ?_
              rintro e w3 ⟨rfl, b3⟩
              have R3 : Hid (RdAt w3 br p') := (b3.block _ (lt_of_block (unhide R2))).trans (unhide R2)
              have Q3 : Hid (w3.heap[g6]? = some (.cells #[.string q.1, .int .i64 q.2] 54 (0, 0))) := (b3.block _ (lt_of_block (unhide Q2))).trans (unhide Q2)
              have G3 : Hid (w3.heap[(wr.heap.size + 1)]? = some (.cells #[.string q.1, .int .i64 q.2, .int .i64 0, .string ⟨#[]⟩] 56 (0, 0))) := (b3.block _ (lt_of_block (unhide G2))).trans (unhide G2)
              have B3 := hide ((unhide B2).trans (b3.mono (unhide B2).size))
              clear x0 x1 x2 x3 c0 c1 b3 R2 Q2 G2 X2 B2 hvc
              go_wp2_with (refine wpList_store_abs rfl 56 (.tmp 11) (.tmp 69) rfl (wr.heap.size + 1) 0 #[.string q'.1, .int .i64 q'.2, .int .i64 0, .string T] rfl rfl (by have h := there_row (unhide G3); exact h) Try.sizeGot (four_one _ _ _ _ ⟨rfl, rfl, rfl, rfl⟩) ?_)
              intro w4 hw4
              have RX : Hid (RdAt w4 br p') := by show RdAt _ _ _; rw [unhide hw4]; exact (Below.heap_setCell _ _ _ _ h11r.symm).trans ((Below.heap_setCell _ _ _ _ h11r.symm).trans ((Below.heap_setCell _ _ _ _ h11r.symm).trans ((Below.heap_setCell _ _ _ _ h11r.symm).trans (unhide R3))))
              have QX : Hid (w4.heap[g6]? = some (.cells #[.string q.1, .int .i64 q.2] 54 (0, 0))) := by show _ = _; rw [unhide hw4]; exact (Below.heap_setCell _ _ _ _ h11.symm).trans ((Below.heap_setCell _ _ _ _ h11.symm).trans ((Below.heap_setCell _ _ _ _ h11.symm).trans ((Below.heap_setCell _ _ _ _ h11.symm).trans (unhide Q3))))
              have GX : Hid (w4.heap[(wr.heap.size + 1)]? = some (.cells #[.string q'.1, .int .i64 q'.2, .int .i64 0, .string T] 56 (0, 0))) := by show _ = _; rw [unhide hw4]; exact four_set (unhide G3)
              have BX : Hid (Below w.heap.size w w4) := by show Below _ _ _; rw [unhide hw4]; exact ((((unhide B3).setCell hgt _).setCell hgt _).setCell hgt _).setCell hgt _
              clear hw4 R3 Q3 G3 B3
              have kk := cells_of_four (unhide GX)
              obtain ⟨k0, k1, k2, k3⟩ := kk
              go_wp2_with (refine wpList_store_abs rfl 54 (.tmp 6) (.tmp 80) rfl g6 0 #[.string q'.1, .int .i64 q'.2] rfl rfl (by have h := there_row (unhide QX); exact h) Try.sizeRd (two_one _ _ ⟨rfl, rfl⟩) ?_)
              intro w5 hw5
              have R5 : Hid (RdAt w5 br p') := by show RdAt _ _ _; rw [unhide hw5]; exact ((Below.heap_setCell _ _ _ _ hbr6).trans ((Below.heap_setCell _ _ _ _ hbr6).trans (unhide RX)))
              have Q5 : Hid (w5.heap[g6]? = some (.cells #[.string q'.1, .int .i64 q'.2] 54 (0, 0))) := by show _ = _; rw [unhide hw5]; exact two_set1 (two_set0 (unhide QX))
              have G5 : Hid (w5.heap[(wr.heap.size + 1)]? = some (.cells #[.string q'.1, .int .i64 q'.2, .int .i64 0, .string T] 56 (0, 0))) := by show _ = _; rw [unhide hw5]; exact ((Below.heap_setCell _ _ _ _ h11).trans ((Below.heap_setCell _ _ _ _ h11).trans (unhide GX)))
              have B5 : Hid (Below w.heap.size w w5) := by show Below _ _ _; rw [unhide hw5]; exact ((unhide BX).setCell hg6 _).setCell hg6 _
              clear hw5 RX QX GX BX k0 k1 k2 k3
              go_wp2
              obtain ⟨W0, hW0⟩ : ∃ W0, W0 = w5.drew := ⟨_, rfl⟩
              have HR0 : Hid (RdAt W0 br p') := by show RdAt _ _ _; rw [hW0]; exact unhide R5
              have HQ0 : Hid (W0.heap[g6]? = some (.cells #[.string q'.1, .int .i64 q'.2] 54 (0, 0))) := by show _ = _; rw [hW0]; exact unhide Q5
              have HG0 : Hid (W0.heap[(wr.heap.size + 1)]? = some (.cells #[.string q'.1, .int .i64 q'.2, .int .i64 0, .string T] 56 (0, 0))) := by show _ = _; rw [hW0]; exact unhide G5
              have HGC : Hid (W0.cell? ⟨(wr.heap.size + 1), 2, none⟩ = some (.int .i64 0) ∧ W0.cell? ⟨(wr.heap.size + 1), 3, none⟩ = some (.string T)) := ⟨(cells_of_four (unhide HG0)).2.2.1, (cells_of_four (unhide HG0)).2.2.2⟩
              have HBE : Hid (Below w.heap.size w W0) := by show Below _ _ _; rw [hW0]; exact (unhide B5).drew
              have HW0 : Hid (Below W0.heap.size W0 w5.drew) := by show Below _ _ _; rw [hW0]; exact Below.refl _ _
              clear hW0 R5 Q5 G5 B5
              obtain ⟨l, ae, hcl, hql, hce, hcn, hqn⟩ := reads_calls br p' q' (unhide HAG) (unhide HPS) (unhide HQS)
              generalize hA : Act.mk _ _ = A
              have hA5 : A.eval (.tmp 5) = .pointer (some ⟨br, 0, none⟩) := by rw [← hA]; rfl
              have hA6 : A.eval (.tmp 6) = .pointer (some ⟨g6, 0, none⟩) := by rw [← hA]; rfl
              have hA9 : A.eval (.tmp 9) = .int .i64 0 := by rw [← hA]; rfl
              have hA10 : A.eval (.tmp 10) = .string T := by rw [← hA]; rfl
              have hA11 : A.eval (.tmp 11) = .pointer (some ⟨(wr.heap.size + 1), 0, none⟩) := by rw [← hA]; rfl
              have hAs : A.tmps.size = 112 := by rw [← hA]; rfl
              obtain ⟨V, hVe⟩ : ∃ V : List (Nat × Nat × Value), V = [(0, 81, .int .i64 0), (1, 82, .pointer (some ⟨(wr.heap.size + 1), 2, none⟩)), (2, 83, .int .i64 0), (3, 84, .bool false), (4, 85, .bool false), (5, 86, .string T), (6, 87, .pointer (some ⟨(wr.heap.size + 1), 3, none⟩)), (7, 88, .string T), (8, 89, .bool false), (9, 90, .bool false), (10, 91, .bool false), (11, 92, .pointer (some ⟨br, 0, none⟩)), (12, 93, .int .i64 l), (13, 94, .agg #[.string q'.1, .int .i64 q'.2]), (14, 95, .int .i64 l), (15, 96, .bool false), (16, 97, .bool false), (17, 98, .bool false), (18, 99, .pointer (some ⟨br, 0, none⟩)), (19, 100, .int .i64 q'.2), (20, 101, .pointer (some ⟨g6, 1, none⟩)), (21, 102, .int .i64 q'.2), (22, 103, .bool false), (23, 104, .bool false), (24, 105, .bool false), (25, 106, .pointer (some ⟨br, 0, none⟩)), (26, 107, .int .i64 ae), (27, 108, .agg #[.string q'.1, .int .i64 q'.2]), (28, 109, .int .i64 ae), (29, 110, .bool false), (30, 111, .bool false)] := ⟨_, rfl⟩
              refine wp_region_invG (by kernel_rfl) (by kernel_rfl) (fun f a wx => Off [111, 81, 82, 83, 84, 85, 86, 87, 88, 89, 90, 91, 92, 93, 94, 95, 96, 97, 98, 99, 100, 101, 102, 103, 104, 105, 106, 107, 108, 109, 110] A a ∧ ValsOk V f a ∧ Below W0.heap.size W0 wx) ?start ?step ?fin
              case start => exact ⟨Off.refl _ _, vals_start _ _, unhide HW0⟩
              case step =>
                rintro f a wx i o ⟨hoff, hV, hbl⟩ ho hfi hdep
                have has : a.tmps.size = 112 := hoff.size.trans hAs
                have hv := fun (i d : Nat) (v : Value) (hm : (i, d, v) ∈ V) (hf : f i = true) => hV (i, d, v) hm hf
                rcases i with _ | _ | _ | _ | _ | _ | _ | _ | _ | _ | _ | _ | _ | _ | _ | _ | _ | _ | _ | _ | _ | _ | _ | _ | _ | _ | _ | _ | _ | _ | _ | i
                · obtain rfl := Option.some.inj ho
                  refine ⟨rfl, ?_⟩
                  refine wp_move (.tmp 9) rfl ?_
                  rw [((hoff.eval 9 (by simp)).trans hA9)]
                  exact ⟨hoff.put 81 _ (by simp), vals_put hV 0 81 _ (by omega) (by rw [hVe]; simp) (by rw [hVe]; simp), hbl⟩
                · obtain rfl := Option.some.inj ho
                  refine ⟨rfl, ?_⟩
                  refine wp_field 56 (.tmp 11) 1 rfl _ _ ((hoff.eval 11 (by simp)).trans hA11) (fa_got1 (wr.heap.size + 1)) ?_
                  exact ⟨hoff.put 82 _ (by simp), vals_put hV 1 82 _ (by omega) (by rw [hVe]; simp) (by rw [hVe]; simp), hbl⟩
                · obtain rfl := Option.some.inj ho
                  have d1 : f 1 = true := hdep ⟨1, .data⟩ (by simp) rfl
                  refine ⟨rfl, ?_⟩
                  refine wp_load1 3 (.tmp 82) rfl _ _ (hv 1 82 (.pointer (some ⟨(wr.heap.size + 1), 2, none⟩)) (by rw [hVe]; simp) d1) (loadI _ _ _ ((hbl.cell (p := ⟨(wr.heap.size + 1), 2, none⟩) (lt_of_block (unhide HG0))).trans (unhide HGC).1)) ?_
                  exact ⟨hoff.put 83 _ (by simp), vals_put hV 2 83 _ (by omega) (by rw [hVe]; simp) (by rw [hVe]; simp), hbl⟩
                · obtain rfl := Option.some.inj ho
                  have d0 : f 0 = true := hdep ⟨0, .data⟩ (by simp) rfl
                  have d2 : f 2 = true := hdep ⟨2, .data⟩ (by simp) rfl
                  refine ⟨rfl, ?_⟩
                  refine wp_ne64F 3 3 (.tmp 81) (.tmp 83) rfl Try.underlying3 _ (hv 0 81 (.int .i64 0) (by rw [hVe]; simp) d0) (hv 2 83 (.int .i64 0) (by rw [hVe]; simp) d2) ?_
                  exact ⟨hoff.put 84 _ (by simp), vals_put hV 3 84 _ (by omega) (by rw [hVe]; simp) (by rw [hVe]; simp), hbl⟩
                · obtain rfl := Option.some.inj ho
                  have d3 : f 3 = true := hdep ⟨3, .data⟩ (by simp) rfl
                  refine ⟨rfl, ?_⟩
                  refine wp_move (.tmp 84) rfl ?_
                  rw [(hv 3 84 (.bool false) (by rw [hVe]; simp) d3)]
                  exact ⟨hoff.put 85 _ (by simp), vals_put hV 4 85 _ (by omega) (by rw [hVe]; simp) (by rw [hVe]; simp), hbl⟩
                · obtain rfl := Option.some.inj ho
                  have d4 : f 4 = true := hdep ⟨4, .guard⟩ (by simp) rfl
                  refine ⟨wanted_of 4 85 false rfl rfl (hv 4 85 (.bool false) (by rw [hVe]; simp) d4), ?_⟩
                  refine wp_move (.tmp 10) rfl ?_
                  rw [((hoff.eval 10 (by simp)).trans hA10)]
                  exact ⟨hoff.put 86 _ (by simp), vals_put hV 5 86 _ (by omega) (by rw [hVe]; simp) (by rw [hVe]; simp), hbl⟩
                · obtain rfl := Option.some.inj ho
                  have d4 : f 4 = true := hdep ⟨4, .guard⟩ (by simp) rfl
                  refine ⟨wanted_of 4 85 false rfl rfl (hv 4 85 (.bool false) (by rw [hVe]; simp) d4), ?_⟩
                  refine wp_field 56 (.tmp 11) 2 rfl _ _ ((hoff.eval 11 (by simp)).trans hA11) (fa_got2 (wr.heap.size + 1)) ?_
                  exact ⟨hoff.put 87 _ (by simp), vals_put hV 6 87 _ (by omega) (by rw [hVe]; simp) (by rw [hVe]; simp), hbl⟩
                · obtain rfl := Option.some.inj ho
                  have d4 : f 4 = true := hdep ⟨4, .guard⟩ (by simp) rfl
                  have d6 : f 6 = true := hdep ⟨6, .data⟩ (by simp) rfl
                  refine ⟨wanted_of 4 85 false rfl rfl (hv 4 85 (.bool false) (by rw [hVe]; simp) d4), ?_⟩
                  refine wp_load1 9 (.tmp 87) rfl _ _ (hv 6 87 (.pointer (some ⟨(wr.heap.size + 1), 3, none⟩)) (by rw [hVe]; simp) d6) (loadS _ _ _ ((hbl.cell (p := ⟨(wr.heap.size + 1), 3, none⟩) (lt_of_block (unhide HG0))).trans (unhide HGC).2)) ?_
                  exact ⟨hoff.put 88 _ (by simp), vals_put hV 7 88 _ (by omega) (by rw [hVe]; simp) (by rw [hVe]; simp), hbl⟩
                · obtain rfl := Option.some.inj ho
                  have d4 : f 4 = true := hdep ⟨4, .guard⟩ (by simp) rfl
                  have d5 : f 5 = true := hdep ⟨5, .data⟩ (by simp) rfl
                  have d7 : f 7 = true := hdep ⟨7, .data⟩ (by simp) rfl
                  refine ⟨wanted_of 4 85 false rfl rfl (hv 4 85 (.bool false) (by rw [hVe]; simp) d4), ?_⟩
                  refine wp_neStrF 9 9 (.tmp 86) (.tmp 88) rfl Try.underlying9 _ (hv 5 86 (.string T) (by rw [hVe]; simp) d5) (hv 7 88 (.string T) (by rw [hVe]; simp) d7) ?_
                  exact ⟨hoff.put 89 _ (by simp), vals_put hV 8 89 _ (by omega) (by rw [hVe]; simp) (by rw [hVe]; simp), hbl⟩
                · obtain rfl := Option.some.inj ho
                  have d4 : f 4 = true := hdep ⟨4, .data⟩ (by simp) rfl
                  have d8 : f 8 = true := hdep ⟨8, .data⟩ (by simp) rfl
                  refine ⟨rfl, ?_⟩
                  refine wp_pickF (.tmp 85) (.const (.bool true)) (.tmp 89) rfl _ (hv 4 85 (.bool false) (by rw [hVe]; simp) d4) (hv 8 89 (.bool false) (by rw [hVe]; simp) d8) ?_
                  exact ⟨hoff.put 90 _ (by simp), vals_put hV 9 90 _ (by omega) (by rw [hVe]; simp) (by rw [hVe]; simp), hbl⟩
                · obtain rfl := Option.some.inj ho
                  have d9 : f 9 = true := hdep ⟨9, .data⟩ (by simp) rfl
                  refine ⟨rfl, ?_⟩
                  refine wp_move (.tmp 90) rfl ?_
                  rw [(hv 9 90 (.bool false) (by rw [hVe]; simp) d9)]
                  exact ⟨hoff.put 91 _ (by simp), vals_put hV 10 91 _ (by omega) (by rw [hVe]; simp) (by rw [hVe]; simp), hbl⟩
                · obtain rfl := Option.some.inj ho
                  have d10 : f 10 = true := hdep ⟨10, .guard⟩ (by simp) rfl
                  refine ⟨wanted_of 10 91 false rfl rfl (hv 10 91 (.bool false) (by rw [hVe]; simp) d10), ?_⟩
                  refine wp_move (.tmp 5) rfl ?_
                  rw [((hoff.eval 5 (by simp)).trans hA5)]
                  exact ⟨hoff.put 92 _ (by simp), vals_put hV 11 92 _ (by omega) (by rw [hVe]; simp) (by rw [hVe]; simp), hbl⟩
                · obtain rfl := Option.some.inj ho
                  have d10 : f 10 = true := hdep ⟨10, .guard⟩ (by simp) rfl
                  have d11 : f 11 = true := hdep ⟨11, .data⟩ (by simp) rfl
                  refine ⟨wanted_of 10 91 false rfl rfl (hv 10 91 (.bool false) (by rw [hVe]; simp) d10), ?_⟩
                  refine wp_call 36 #[.tmp 92] #[52] rfl Try.call36 #[.pointer (some ⟨br, 0, none⟩)] (by simp [(hv 11 92 (.pointer (some ⟨br, 0, none⟩)) (by rw [hVe]; simp) d11)]) (unhide hcl wx ((hbl.block _ (lt_of_block (unhide HR0))).trans (unhide HR0))) ?_
                  rintro e w3 ⟨rfl, rfl⟩
                  exact ⟨_, rfl, hoff.put 93 _ (by simp), vals_put hV 12 93 _ (by omega) (by rw [hVe]; simp) (by rw [hVe]; simp), hbl⟩
                · obtain rfl := Option.some.inj ho
                  have d10 : f 10 = true := hdep ⟨10, .guard⟩ (by simp) rfl
                  refine ⟨wanted_of 10 91 false rfl rfl (hv 10 91 (.bool false) (by rw [hVe]; simp) d10), ?_⟩
                  refine wp_load_row 54 (.tmp 6) rfl g6 ((hoff.eval 6 (by simp)).trans hA6) 54 #[.string q'.1, .int .i64 q'.2] (0, 0) _ ((hbl.block _ (lt_of_block (unhide HQ0))).trans (unhide HQ0)) Try.underlying54 rfl (by kernel_rfl) ?_
                  exact ⟨hoff.put 94 _ (by simp), vals_put hV 13 94 _ (by omega) (by rw [hVe]; simp) (by rw [hVe]; simp), hbl⟩
                · obtain rfl := Option.some.inj ho
                  have d10 : f 10 = true := hdep ⟨10, .guard⟩ (by simp) rfl
                  have d13 : f 13 = true := hdep ⟨13, .data⟩ (by simp) rfl
                  refine ⟨wanted_of 10 91 false rfl rfl (hv 10 91 (.bool false) (by rw [hVe]; simp) d10), ?_⟩
                  refine wp_call 37 #[.tmp 94] #[54] rfl Try.call37 #[.agg #[.string q'.1, .int .i64 q'.2]] (by simp [(hv 13 94 (.agg #[.string q'.1, .int .i64 q'.2]) (by rw [hVe]; simp) d13)]) (unhide hql wx) ?_
                  rintro e w3 ⟨rfl, hb3⟩
                  exact ⟨_, rfl, hoff.put 95 _ (by simp), vals_put hV 14 95 _ (by omega) (by rw [hVe]; simp) (by rw [hVe]; simp), hbl.trans (hb3.mono hbl.size)⟩
                · obtain rfl := Option.some.inj ho
                  have d10 : f 10 = true := hdep ⟨10, .guard⟩ (by simp) rfl
                  have d12 : f 12 = true := hdep ⟨12, .data⟩ (by simp) rfl
                  have d14 : f 14 = true := hdep ⟨14, .data⟩ (by simp) rfl
                  refine ⟨wanted_of 10 91 false rfl rfl (hv 10 91 (.bool false) (by rw [hVe]; simp) d10), ?_⟩
                  refine wp_ne64F 3 3 (.tmp 93) (.tmp 95) rfl Try.underlying3 _ (hv 12 93 (.int .i64 l) (by rw [hVe]; simp) d12) (hv 14 95 (.int .i64 l) (by rw [hVe]; simp) d14) ?_
                  exact ⟨hoff.put 96 _ (by simp), vals_put hV 15 96 _ (by omega) (by rw [hVe]; simp) (by rw [hVe]; simp), hbl⟩
                · obtain rfl := Option.some.inj ho
                  have d10 : f 10 = true := hdep ⟨10, .data⟩ (by simp) rfl
                  have d15 : f 15 = true := hdep ⟨15, .data⟩ (by simp) rfl
                  refine ⟨rfl, ?_⟩
                  refine wp_pickF (.tmp 91) (.const (.bool true)) (.tmp 96) rfl _ (hv 10 91 (.bool false) (by rw [hVe]; simp) d10) (hv 15 96 (.bool false) (by rw [hVe]; simp) d15) ?_
                  exact ⟨hoff.put 97 _ (by simp), vals_put hV 16 97 _ (by omega) (by rw [hVe]; simp) (by rw [hVe]; simp), hbl⟩
                · obtain rfl := Option.some.inj ho
                  have d16 : f 16 = true := hdep ⟨16, .data⟩ (by simp) rfl
                  refine ⟨rfl, ?_⟩
                  refine wp_move (.tmp 97) rfl ?_
                  rw [(hv 16 97 (.bool false) (by rw [hVe]; simp) d16)]
                  exact ⟨hoff.put 98 _ (by simp), vals_put hV 17 98 _ (by omega) (by rw [hVe]; simp) (by rw [hVe]; simp), hbl⟩
                · obtain rfl := Option.some.inj ho
                  have d17 : f 17 = true := hdep ⟨17, .guard⟩ (by simp) rfl
                  refine ⟨wanted_of 17 98 false rfl rfl (hv 17 98 (.bool false) (by rw [hVe]; simp) d17), ?_⟩
                  refine wp_move (.tmp 5) rfl ?_
                  rw [((hoff.eval 5 (by simp)).trans hA5)]
                  exact ⟨hoff.put 99 _ (by simp), vals_put hV 18 99 _ (by omega) (by rw [hVe]; simp) (by rw [hVe]; simp), hbl⟩
                · obtain rfl := Option.some.inj ho
                  have d17 : f 17 = true := hdep ⟨17, .guard⟩ (by simp) rfl
                  have d18 : f 18 = true := hdep ⟨18, .data⟩ (by simp) rfl
                  refine ⟨wanted_of 17 98 false rfl rfl (hv 17 98 (.bool false) (by rw [hVe]; simp) d17), ?_⟩
                  refine wp_call 38 #[.tmp 99] #[52] rfl Try.call38 #[.pointer (some ⟨br, 0, none⟩)] (by simp [(hv 18 99 (.pointer (some ⟨br, 0, none⟩)) (by rw [hVe]; simp) d18)]) (unhide hce wx ((hbl.block _ (lt_of_block (unhide HR0))).trans (unhide HR0))) ?_
                  rintro e w3 ⟨rfl, rfl⟩
                  exact ⟨_, rfl, hoff.put 100 _ (by simp), vals_put hV 19 100 _ (by omega) (by rw [hVe]; simp) (by rw [hVe]; simp), hbl⟩
                · obtain rfl := Option.some.inj ho
                  have d17 : f 17 = true := hdep ⟨17, .guard⟩ (by simp) rfl
                  refine ⟨wanted_of 17 98 false rfl rfl (hv 17 98 (.bool false) (by rw [hVe]; simp) d17), ?_⟩
                  refine wp_field 54 (.tmp 6) 1 rfl _ _ ((hoff.eval 6 (by simp)).trans hA6) (fa_rd1 g6) ?_
                  exact ⟨hoff.put 101 _ (by simp), vals_put hV 20 101 _ (by omega) (by rw [hVe]; simp) (by rw [hVe]; simp), hbl⟩
                · obtain rfl := Option.some.inj ho
                  have d17 : f 17 = true := hdep ⟨17, .guard⟩ (by simp) rfl
                  have d20 : f 20 = true := hdep ⟨20, .data⟩ (by simp) rfl
                  refine ⟨wanted_of 17 98 false rfl rfl (hv 17 98 (.bool false) (by rw [hVe]; simp) d17), ?_⟩
                  refine wp_load1 3 (.tmp 101) rfl _ _ (hv 20 101 (.pointer (some ⟨g6, 1, none⟩)) (by rw [hVe]; simp) d20) (loadI _ _ _ ((hbl.cell (p := ⟨g6, 1, none⟩) (lt_of_block (unhide HQ0))).trans (cell1_of_two (unhide HQ0)))) ?_
                  exact ⟨hoff.put 102 _ (by simp), vals_put hV 21 102 _ (by omega) (by rw [hVe]; simp) (by rw [hVe]; simp), hbl⟩
                · obtain rfl := Option.some.inj ho
                  have d17 : f 17 = true := hdep ⟨17, .guard⟩ (by simp) rfl
                  have d19 : f 19 = true := hdep ⟨19, .data⟩ (by simp) rfl
                  have d21 : f 21 = true := hdep ⟨21, .data⟩ (by simp) rfl
                  refine ⟨wanted_of 17 98 false rfl rfl (hv 17 98 (.bool false) (by rw [hVe]; simp) d17), ?_⟩
                  refine wp_ne64F 3 3 (.tmp 100) (.tmp 102) rfl Try.underlying3 _ (hv 19 100 (.int .i64 q'.2) (by rw [hVe]; simp) d19) (hv 21 102 (.int .i64 q'.2) (by rw [hVe]; simp) d21) ?_
                  exact ⟨hoff.put 103 _ (by simp), vals_put hV 22 103 _ (by omega) (by rw [hVe]; simp) (by rw [hVe]; simp), hbl⟩
                · obtain rfl := Option.some.inj ho
                  have d17 : f 17 = true := hdep ⟨17, .data⟩ (by simp) rfl
                  have d22 : f 22 = true := hdep ⟨22, .data⟩ (by simp) rfl
                  refine ⟨rfl, ?_⟩
                  refine wp_pickF (.tmp 98) (.const (.bool true)) (.tmp 103) rfl _ (hv 17 98 (.bool false) (by rw [hVe]; simp) d17) (hv 22 103 (.bool false) (by rw [hVe]; simp) d22) ?_
                  exact ⟨hoff.put 104 _ (by simp), vals_put hV 23 104 _ (by omega) (by rw [hVe]; simp) (by rw [hVe]; simp), hbl⟩
                · obtain rfl := Option.some.inj ho
                  have d23 : f 23 = true := hdep ⟨23, .data⟩ (by simp) rfl
                  refine ⟨rfl, ?_⟩
                  refine wp_move (.tmp 104) rfl ?_
                  rw [(hv 23 104 (.bool false) (by rw [hVe]; simp) d23)]
                  exact ⟨hoff.put 105 _ (by simp), vals_put hV 24 105 _ (by omega) (by rw [hVe]; simp) (by rw [hVe]; simp), hbl⟩
                · obtain rfl := Option.some.inj ho
                  have d24 : f 24 = true := hdep ⟨24, .guard⟩ (by simp) rfl
                  refine ⟨wanted_of 24 105 false rfl rfl (hv 24 105 (.bool false) (by rw [hVe]; simp) d24), ?_⟩
                  refine wp_move (.tmp 5) rfl ?_
                  rw [((hoff.eval 5 (by simp)).trans hA5)]
                  exact ⟨hoff.put 106 _ (by simp), vals_put hV 25 106 _ (by omega) (by rw [hVe]; simp) (by rw [hVe]; simp), hbl⟩
                · obtain rfl := Option.some.inj ho
                  have d24 : f 24 = true := hdep ⟨24, .guard⟩ (by simp) rfl
                  have d25 : f 25 = true := hdep ⟨25, .data⟩ (by simp) rfl
                  refine ⟨wanted_of 24 105 false rfl rfl (hv 24 105 (.bool false) (by rw [hVe]; simp) d24), ?_⟩
                  refine wp_call 39 #[.tmp 106] #[52] rfl Try.call39 #[.pointer (some ⟨br, 0, none⟩)] (by simp [(hv 25 106 (.pointer (some ⟨br, 0, none⟩)) (by rw [hVe]; simp) d25)]) (unhide hcn wx ((hbl.block _ (lt_of_block (unhide HR0))).trans (unhide HR0))) ?_
                  rintro e w3 ⟨rfl, rfl⟩
                  exact ⟨_, rfl, hoff.put 107 _ (by simp), vals_put hV 26 107 _ (by omega) (by rw [hVe]; simp) (by rw [hVe]; simp), hbl⟩
                · obtain rfl := Option.some.inj ho
                  have d24 : f 24 = true := hdep ⟨24, .guard⟩ (by simp) rfl
                  refine ⟨wanted_of 24 105 false rfl rfl (hv 24 105 (.bool false) (by rw [hVe]; simp) d24), ?_⟩
                  refine wp_load_row 54 (.tmp 6) rfl g6 ((hoff.eval 6 (by simp)).trans hA6) 54 #[.string q'.1, .int .i64 q'.2] (0, 0) _ ((hbl.block _ (lt_of_block (unhide HQ0))).trans (unhide HQ0)) Try.underlying54 rfl (by kernel_rfl) ?_
                  exact ⟨hoff.put 108 _ (by simp), vals_put hV 27 108 _ (by omega) (by rw [hVe]; simp) (by rw [hVe]; simp), hbl⟩
                · obtain rfl := Option.some.inj ho
                  have d24 : f 24 = true := hdep ⟨24, .guard⟩ (by simp) rfl
                  have d27 : f 27 = true := hdep ⟨27, .data⟩ (by simp) rfl
                  refine ⟨wanted_of 24 105 false rfl rfl (hv 24 105 (.bool false) (by rw [hVe]; simp) d24), ?_⟩
                  refine wp_call 40 #[.tmp 108] #[54] rfl Try.call40 #[.agg #[.string q'.1, .int .i64 q'.2]] (by simp [(hv 27 108 (.agg #[.string q'.1, .int .i64 q'.2]) (by rw [hVe]; simp) d27)]) (unhide hqn wx) ?_
                  rintro e w3 ⟨rfl, hb3⟩
                  exact ⟨_, rfl, hoff.put 109 _ (by simp), vals_put hV 28 109 _ (by omega) (by rw [hVe]; simp) (by rw [hVe]; simp), hbl.trans (hb3.mono hbl.size)⟩
                · obtain rfl := Option.some.inj ho
                  have d24 : f 24 = true := hdep ⟨24, .guard⟩ (by simp) rfl
                  have d26 : f 26 = true := hdep ⟨26, .data⟩ (by simp) rfl
                  have d28 : f 28 = true := hdep ⟨28, .data⟩ (by simp) rfl
                  refine ⟨wanted_of 24 105 false rfl rfl (hv 24 105 (.bool false) (by rw [hVe]; simp) d24), ?_⟩
                  refine wp_ne64F 3 3 (.tmp 107) (.tmp 109) rfl Try.underlying3 _ (hv 26 107 (.int .i64 ae) (by rw [hVe]; simp) d26) (hv 28 109 (.int .i64 ae) (by rw [hVe]; simp) d28) ?_
                  exact ⟨hoff.put 110 _ (by simp), vals_put hV 29 110 _ (by omega) (by rw [hVe]; simp) (by rw [hVe]; simp), hbl⟩
                · obtain rfl := Option.some.inj ho
                  have d24 : f 24 = true := hdep ⟨24, .data⟩ (by simp) rfl
                  have d29 : f 29 = true := hdep ⟨29, .data⟩ (by simp) rfl
                  refine ⟨rfl, ?_⟩
                  refine wp_pickF (.tmp 105) (.const (.bool true)) (.tmp 110) rfl _ (hv 24 105 (.bool false) (by rw [hVe]; simp) d24) (hv 29 110 (.bool false) (by rw [hVe]; simp) d29) ?_
                  exact ⟨hoff.put 111 _ (by simp), vals_put hV 30 111 _ (by omega) (by rw [hVe]; simp) (by rw [hVe]; simp), hbl⟩
                · simp at ho
              case fin =>
                rintro f a wx ⟨hoff, hV, hbl⟩ hall
                have e := Off.all _ _ hoff
                have e111 : a.eval (.tmp 111) = .bool false := hV (30, 111, .bool false) (by rw [hVe]; simp) (hall 30 (by decide))
                have HI2 := hide (RInv.mk ((hbl.block _ (lt_of_block (unhide HR0))).trans (unhide HR0)) (unhide HPS) ((hbl.block _ (lt_of_block (unhide HQ0))).trans (unhide HQ0)) (unhide HQS) ((unhide HBE).trans (hbl.mono (unhide HBE).size)))
                simp only [List.foldl_cons, List.foldl_nil] at e
                rw [← hA, e111] at e
                generalize a.eval (.tmp 81) = y81, a.eval (.tmp 82) = y82, a.eval (.tmp 83) = y83, a.eval (.tmp 84) = y84, a.eval (.tmp 85) = y85, a.eval (.tmp 86) = y86, a.eval (.tmp 87) = y87, a.eval (.tmp 88) = y88, a.eval (.tmp 89) = y89, a.eval (.tmp 90) = y90, a.eval (.tmp 91) = y91, a.eval (.tmp 92) = y92, a.eval (.tmp 93) = y93, a.eval (.tmp 94) = y94, a.eval (.tmp 95) = y95, a.eval (.tmp 96) = y96, a.eval (.tmp 97) = y97, a.eval (.tmp 98) = y98, a.eval (.tmp 99) = y99, a.eval (.tmp 100) = y100, a.eval (.tmp 101) = y101, a.eval (.tmp 102) = y102, a.eval (.tmp 103) = y103, a.eval (.tmp 104) = y104, a.eval (.tmp 105) = y105, a.eval (.tmp 106) = y106, a.eval (.tmp 107) = y107, a.eval (.tmp 108) = y108, a.eval (.tmp 109) = y109, a.eval (.tmp 110) = y110 at e
                simp only [Act.put, List.setIfInBounds_toArray, List.set_cons_succ, List.set_cons_zero] at e
                subst e
                clear hoff hV hA hA5 hA6 hA9 hA10 hA11 hVe hbl e111 hcl hql hce hcn hqn
                go_wp2
                go_roundw
                case rel => exact ⟨k + 1, p', q', by omega, by go_num, unhide HAG, unhide HI2⟩
                case measure => simp [intOf]; omega
            · have n2 : (fk == 2) = false := by simpa using kk2
              by_cases kk3 : fk = 3
              · subst kk3
                have l6 := lt_of_block (unhide HI).rf
                have lr := lt_of_block (unhide HI).rd
                have BW : Hid (Below wr.heap.size wr ((wr.alloc (.cells #[.int .i64 3, .int .i64 fn, .int .i64 fz, .string fs] 45)).alloc (.cells #[.string q.1, .int .i64 q.2, .int .i64 0, .string ⟨#[]⟩] 56))) := ((Below.refl _ _).alloc (Nat.le_refl _) _).alloc (by simp) _
                have I1 := hide ((unhide HI).below (unhide BW))
                have XX : Hid (FldAt ((wr.alloc (.cells #[.int .i64 3, .int .i64 fn, .int .i64 fz, .string fs] 45)).alloc (.cells #[.string q.1, .int .i64 q.2, .int .i64 0, .string ⟨#[]⟩] 56)) wr.heap.size ⟨3, fn, fz, fs⟩) := (Below.heap_alloc _ _ _ (by simp)).trans (heap_alloc_new _ _)
                have GG : Hid (((wr.alloc (.cells #[.int .i64 3, .int .i64 fn, .int .i64 fz, .string fs] 45)).alloc (.cells #[.string q.1, .int .i64 q.2, .int .i64 0, .string ⟨#[]⟩] 56)).heap[wr.heap.size + 1]? = some (.cells #[.string q.1, .int .i64 q.2, .int .i64 0, .string ⟨#[]⟩] 56 (0, 0))) := heap2_b _ _ _
                have h11 : (wr.heap.size + 1) ≠ g6 := by omega
                have h11r : (wr.heap.size + 1) ≠ br := by omega
                have hxr : wr.heap.size ≠ br := by omega
                have hz0 := (unhide HI).be.size
                have hgt : w.heap.size ≤ (wr.heap.size + 1) := by omega
                clear l6 lr
                have hrc := hide (rrest_any ((wr.alloc (.cells #[.int .i64 3, .int .i64 fn, .int .i64 fz, .string fs] 45)).alloc (.cells #[.string q.1, .int .i64 q.2, .int .i64 0, .string ⟨#[]⟩] 56)) br p (by unfold maxLen; have := (unhide HI).ps; omega) (unhide I1).rd)
                have hag := hide (rest_ag (unhide HG))
                have hps := hide ((raw_le p (left p)).2)
                have hqs := hide ((raw_le q q.1.size).2)
                have hvc := hide (fun w => qraw_any q q.1.size w (by unfold maxLen; have := (unhide HI).qs; omega))
                rw [(unhide hag).1] at hrc
                unfold vV gV at hvc
                generalize (raw q q.1.size).1 = T at *
                generalize (raw p (left p)).2 = p' at *
                generalize (raw q q.1.size).2 = q' at *
                have HAG := hide (unhide hag).2
                have HPS := hide (Nat.le_trans (unhide hps) (unhide HI).ps)
                have HQS := hide (Nat.le_trans (unhide hqs) (unhide HI).qs)
                clear hag hps hqs
                go_wp2_with fail
                refine (unhide hrc).mono ?_
                rintro e w2 ⟨rfl, rd2, k2⟩
                have R2 : Hid (RdAt w2 br p') := rd2
                have Q2 : Hid (w2.heap[g6]? = some (.cells #[.string q.1, .int .i64 q.2] 54 (0, 0))) := (k2.block _ (lt_of_block (unhide I1).rf) hg6r).trans (unhide I1).rf
                have X2 : Hid (FldAt w2 wr.heap.size ⟨3, fn, fz, fs⟩) := (k2.block _ (lt_of_block (unhide XX)) hxr).trans (unhide XX)
                have G2 : Hid (w2.heap[(wr.heap.size + 1)]? = some (.cells #[.string q.1, .int .i64 q.2, .int .i64 0, .string ⟨#[]⟩] 56 (0, 0))) := (k2.block _ (lt_of_block (unhide GG)) h11r).trans (unhide GG)
                have B2 : Hid (Below w.heap.size w w2) := (unhide I1).be.trans (k2.below _ (Nat.le_trans (unhide HI).be.size (unhide BW).size) hbr)
                clear rd2 k2 I1 XX GG BW hrc HI
                obtain ⟨x0, x1, x2, x3⟩ := (unhide X2).cells
                have c0 := cell0_of_two (unhide Q2)
                have c1 := cell1_of_two (unhide Q2)
                go_wp2_with fail
                refine (unhide hvc w2).mono ?_
                rintro e w3 ⟨rfl, b3⟩
                have R3 : Hid (RdAt w3 br p') := (b3.block _ (lt_of_block (unhide R2))).trans (unhide R2)
                have Q3 : Hid (w3.heap[g6]? = some (.cells #[.string q.1, .int .i64 q.2] 54 (0, 0))) := (b3.block _ (lt_of_block (unhide Q2))).trans (unhide Q2)
                have G3 : Hid (w3.heap[(wr.heap.size + 1)]? = some (.cells #[.string q.1, .int .i64 q.2, .int .i64 0, .string ⟨#[]⟩] 56 (0, 0))) := (b3.block _ (lt_of_block (unhide G2))).trans (unhide G2)
                have B3 := hide ((unhide B2).trans (b3.mono (unhide B2).size))
                clear x0 x1 x2 x3 c0 c1 b3 R2 Q2 G2 X2 B2 hvc
                go_wp2_with (refine wpList_store_abs rfl 56 (.tmp 11) (.tmp 78) rfl (wr.heap.size + 1) 0 #[.string q'.1, .int .i64 q'.2, .int .i64 0, .string T] rfl rfl (by have h := there_row (unhide G3); exact h) Try.sizeGot (four_one _ _ _ _ ⟨rfl, rfl, rfl, rfl⟩) ?_)
                intro w4 hw4
                have RX : Hid (RdAt w4 br p') := by show RdAt _ _ _; rw [unhide hw4]; exact (Below.heap_setCell _ _ _ _ h11r.symm).trans ((Below.heap_setCell _ _ _ _ h11r.symm).trans ((Below.heap_setCell _ _ _ _ h11r.symm).trans ((Below.heap_setCell _ _ _ _ h11r.symm).trans (unhide R3))))
                have QX : Hid (w4.heap[g6]? = some (.cells #[.string q.1, .int .i64 q.2] 54 (0, 0))) := by show _ = _; rw [unhide hw4]; exact (Below.heap_setCell _ _ _ _ h11.symm).trans ((Below.heap_setCell _ _ _ _ h11.symm).trans ((Below.heap_setCell _ _ _ _ h11.symm).trans ((Below.heap_setCell _ _ _ _ h11.symm).trans (unhide Q3))))
                have GX : Hid (w4.heap[(wr.heap.size + 1)]? = some (.cells #[.string q'.1, .int .i64 q'.2, .int .i64 0, .string T] 56 (0, 0))) := by show _ = _; rw [unhide hw4]; exact four_set (unhide G3)
                have BX : Hid (Below w.heap.size w w4) := by show Below _ _ _; rw [unhide hw4]; exact ((((unhide B3).setCell hgt _).setCell hgt _).setCell hgt _).setCell hgt _
                clear hw4 R3 Q3 G3 B3
                have kk := cells_of_four (unhide GX)
                obtain ⟨k0, k1, k2, k3⟩ := kk
                go_wp2_with (refine wpList_store_abs rfl 54 (.tmp 6) (.tmp 80) rfl g6 0 #[.string q'.1, .int .i64 q'.2] rfl rfl (by have h := there_row (unhide QX); exact h) Try.sizeRd (two_one _ _ ⟨rfl, rfl⟩) ?_)
                intro w5 hw5
                have R5 : Hid (RdAt w5 br p') := by show RdAt _ _ _; rw [unhide hw5]; exact ((Below.heap_setCell _ _ _ _ hbr6).trans ((Below.heap_setCell _ _ _ _ hbr6).trans (unhide RX)))
                have Q5 : Hid (w5.heap[g6]? = some (.cells #[.string q'.1, .int .i64 q'.2] 54 (0, 0))) := by show _ = _; rw [unhide hw5]; exact two_set1 (two_set0 (unhide QX))
                have G5 : Hid (w5.heap[(wr.heap.size + 1)]? = some (.cells #[.string q'.1, .int .i64 q'.2, .int .i64 0, .string T] 56 (0, 0))) := by show _ = _; rw [unhide hw5]; exact ((Below.heap_setCell _ _ _ _ h11).trans ((Below.heap_setCell _ _ _ _ h11).trans (unhide GX)))
                have B5 : Hid (Below w.heap.size w w5) := by show Below _ _ _; rw [unhide hw5]; exact ((unhide BX).setCell hg6 _).setCell hg6 _
                clear hw5 RX QX GX BX k0 k1 k2 k3
                go_wp2
                obtain ⟨W0, hW0⟩ : ∃ W0, W0 = w5.drew := ⟨_, rfl⟩
                have HR0 : Hid (RdAt W0 br p') := by show RdAt _ _ _; rw [hW0]; exact unhide R5
                have HQ0 : Hid (W0.heap[g6]? = some (.cells #[.string q'.1, .int .i64 q'.2] 54 (0, 0))) := by show _ = _; rw [hW0]; exact unhide Q5
                have HG0 : Hid (W0.heap[(wr.heap.size + 1)]? = some (.cells #[.string q'.1, .int .i64 q'.2, .int .i64 0, .string T] 56 (0, 0))) := by show _ = _; rw [hW0]; exact unhide G5
                have HGC : Hid (W0.cell? ⟨(wr.heap.size + 1), 2, none⟩ = some (.int .i64 0) ∧ W0.cell? ⟨(wr.heap.size + 1), 3, none⟩ = some (.string T)) := ⟨(cells_of_four (unhide HG0)).2.2.1, (cells_of_four (unhide HG0)).2.2.2⟩
                have HBE : Hid (Below w.heap.size w W0) := by show Below _ _ _; rw [hW0]; exact (unhide B5).drew
                have HW0 : Hid (Below W0.heap.size W0 w5.drew) := by show Below _ _ _; rw [hW0]; exact Below.refl _ _
                clear hW0 R5 Q5 G5 B5
                obtain ⟨l, ae, hcl, hql, hce, hcn, hqn⟩ := reads_calls br p' q' (unhide HAG) (unhide HPS) (unhide HQS)
                generalize hA : Act.mk _ _ = A
                have hA5 : A.eval (.tmp 5) = .pointer (some ⟨br, 0, none⟩) := by rw [← hA]; rfl
                have hA6 : A.eval (.tmp 6) = .pointer (some ⟨g6, 0, none⟩) := by rw [← hA]; rfl
                have hA9 : A.eval (.tmp 9) = .int .i64 0 := by rw [← hA]; rfl
                have hA10 : A.eval (.tmp 10) = .string T := by rw [← hA]; rfl
                have hA11 : A.eval (.tmp 11) = .pointer (some ⟨(wr.heap.size + 1), 0, none⟩) := by rw [← hA]; rfl
                have hAs : A.tmps.size = 112 := by rw [← hA]; rfl
                obtain ⟨V, hVe⟩ : ∃ V : List (Nat × Nat × Value), V = [(0, 81, .int .i64 0), (1, 82, .pointer (some ⟨(wr.heap.size + 1), 2, none⟩)), (2, 83, .int .i64 0), (3, 84, .bool false), (4, 85, .bool false), (5, 86, .string T), (6, 87, .pointer (some ⟨(wr.heap.size + 1), 3, none⟩)), (7, 88, .string T), (8, 89, .bool false), (9, 90, .bool false), (10, 91, .bool false), (11, 92, .pointer (some ⟨br, 0, none⟩)), (12, 93, .int .i64 l), (13, 94, .agg #[.string q'.1, .int .i64 q'.2]), (14, 95, .int .i64 l), (15, 96, .bool false), (16, 97, .bool false), (17, 98, .bool false), (18, 99, .pointer (some ⟨br, 0, none⟩)), (19, 100, .int .i64 q'.2), (20, 101, .pointer (some ⟨g6, 1, none⟩)), (21, 102, .int .i64 q'.2), (22, 103, .bool false), (23, 104, .bool false), (24, 105, .bool false), (25, 106, .pointer (some ⟨br, 0, none⟩)), (26, 107, .int .i64 ae), (27, 108, .agg #[.string q'.1, .int .i64 q'.2]), (28, 109, .int .i64 ae), (29, 110, .bool false), (30, 111, .bool false)] := ⟨_, rfl⟩
                refine wp_region_invG (by kernel_rfl) (by kernel_rfl) (fun f a wx => Off [111, 81, 82, 83, 84, 85, 86, 87, 88, 89, 90, 91, 92, 93, 94, 95, 96, 97, 98, 99, 100, 101, 102, 103, 104, 105, 106, 107, 108, 109, 110] A a ∧ ValsOk V f a ∧ Below W0.heap.size W0 wx) ?start ?step ?fin
                case start => exact ⟨Off.refl _ _, vals_start _ _, unhide HW0⟩
                case step =>
                  rintro f a wx i o ⟨hoff, hV, hbl⟩ ho hfi hdep
                  have has : a.tmps.size = 112 := hoff.size.trans hAs
                  have hv := fun (i d : Nat) (v : Value) (hm : (i, d, v) ∈ V) (hf : f i = true) => hV (i, d, v) hm hf
                  rcases i with _ | _ | _ | _ | _ | _ | _ | _ | _ | _ | _ | _ | _ | _ | _ | _ | _ | _ | _ | _ | _ | _ | _ | _ | _ | _ | _ | _ | _ | _ | _ | i
                  · obtain rfl := Option.some.inj ho
                    refine ⟨rfl, ?_⟩
                    refine wp_move (.tmp 9) rfl ?_
                    rw [((hoff.eval 9 (by simp)).trans hA9)]
                    exact ⟨hoff.put 81 _ (by simp), vals_put hV 0 81 _ (by omega) (by rw [hVe]; simp) (by rw [hVe]; simp), hbl⟩
                  · obtain rfl := Option.some.inj ho
                    refine ⟨rfl, ?_⟩
                    refine wp_field 56 (.tmp 11) 1 rfl _ _ ((hoff.eval 11 (by simp)).trans hA11) (fa_got1 (wr.heap.size + 1)) ?_
                    exact ⟨hoff.put 82 _ (by simp), vals_put hV 1 82 _ (by omega) (by rw [hVe]; simp) (by rw [hVe]; simp), hbl⟩
                  · obtain rfl := Option.some.inj ho
                    have d1 : f 1 = true := hdep ⟨1, .data⟩ (by simp) rfl
                    refine ⟨rfl, ?_⟩
                    refine wp_load1 3 (.tmp 82) rfl _ _ (hv 1 82 (.pointer (some ⟨(wr.heap.size + 1), 2, none⟩)) (by rw [hVe]; simp) d1) (loadI _ _ _ ((hbl.cell (p := ⟨(wr.heap.size + 1), 2, none⟩) (lt_of_block (unhide HG0))).trans (unhide HGC).1)) ?_
                    exact ⟨hoff.put 83 _ (by simp), vals_put hV 2 83 _ (by omega) (by rw [hVe]; simp) (by rw [hVe]; simp), hbl⟩
                  · obtain rfl := Option.some.inj ho
                    have d0 : f 0 = true := hdep ⟨0, .data⟩ (by simp) rfl
                    have d2 : f 2 = true := hdep ⟨2, .data⟩ (by simp) rfl
                    refine ⟨rfl, ?_⟩
                    refine wp_ne64F 3 3 (.tmp 81) (.tmp 83) rfl Try.underlying3 _ (hv 0 81 (.int .i64 0) (by rw [hVe]; simp) d0) (hv 2 83 (.int .i64 0) (by rw [hVe]; simp) d2) ?_
                    exact ⟨hoff.put 84 _ (by simp), vals_put hV 3 84 _ (by omega) (by rw [hVe]; simp) (by rw [hVe]; simp), hbl⟩
                  · obtain rfl := Option.some.inj ho
                    have d3 : f 3 = true := hdep ⟨3, .data⟩ (by simp) rfl
                    refine ⟨rfl, ?_⟩
                    refine wp_move (.tmp 84) rfl ?_
                    rw [(hv 3 84 (.bool false) (by rw [hVe]; simp) d3)]
                    exact ⟨hoff.put 85 _ (by simp), vals_put hV 4 85 _ (by omega) (by rw [hVe]; simp) (by rw [hVe]; simp), hbl⟩
                  · obtain rfl := Option.some.inj ho
                    have d4 : f 4 = true := hdep ⟨4, .guard⟩ (by simp) rfl
                    refine ⟨wanted_of 4 85 false rfl rfl (hv 4 85 (.bool false) (by rw [hVe]; simp) d4), ?_⟩
                    refine wp_move (.tmp 10) rfl ?_
                    rw [((hoff.eval 10 (by simp)).trans hA10)]
                    exact ⟨hoff.put 86 _ (by simp), vals_put hV 5 86 _ (by omega) (by rw [hVe]; simp) (by rw [hVe]; simp), hbl⟩
                  · obtain rfl := Option.some.inj ho
                    have d4 : f 4 = true := hdep ⟨4, .guard⟩ (by simp) rfl
                    refine ⟨wanted_of 4 85 false rfl rfl (hv 4 85 (.bool false) (by rw [hVe]; simp) d4), ?_⟩
                    refine wp_field 56 (.tmp 11) 2 rfl _ _ ((hoff.eval 11 (by simp)).trans hA11) (fa_got2 (wr.heap.size + 1)) ?_
                    exact ⟨hoff.put 87 _ (by simp), vals_put hV 6 87 _ (by omega) (by rw [hVe]; simp) (by rw [hVe]; simp), hbl⟩
                  · obtain rfl := Option.some.inj ho
                    have d4 : f 4 = true := hdep ⟨4, .guard⟩ (by simp) rfl
                    have d6 : f 6 = true := hdep ⟨6, .data⟩ (by simp) rfl
                    refine ⟨wanted_of 4 85 false rfl rfl (hv 4 85 (.bool false) (by rw [hVe]; simp) d4), ?_⟩
                    refine wp_load1 9 (.tmp 87) rfl _ _ (hv 6 87 (.pointer (some ⟨(wr.heap.size + 1), 3, none⟩)) (by rw [hVe]; simp) d6) (loadS _ _ _ ((hbl.cell (p := ⟨(wr.heap.size + 1), 3, none⟩) (lt_of_block (unhide HG0))).trans (unhide HGC).2)) ?_
                    exact ⟨hoff.put 88 _ (by simp), vals_put hV 7 88 _ (by omega) (by rw [hVe]; simp) (by rw [hVe]; simp), hbl⟩
                  · obtain rfl := Option.some.inj ho
                    have d4 : f 4 = true := hdep ⟨4, .guard⟩ (by simp) rfl
                    have d5 : f 5 = true := hdep ⟨5, .data⟩ (by simp) rfl
                    have d7 : f 7 = true := hdep ⟨7, .data⟩ (by simp) rfl
                    refine ⟨wanted_of 4 85 false rfl rfl (hv 4 85 (.bool false) (by rw [hVe]; simp) d4), ?_⟩
                    refine wp_neStrF 9 9 (.tmp 86) (.tmp 88) rfl Try.underlying9 _ (hv 5 86 (.string T) (by rw [hVe]; simp) d5) (hv 7 88 (.string T) (by rw [hVe]; simp) d7) ?_
                    exact ⟨hoff.put 89 _ (by simp), vals_put hV 8 89 _ (by omega) (by rw [hVe]; simp) (by rw [hVe]; simp), hbl⟩
                  · obtain rfl := Option.some.inj ho
                    have d4 : f 4 = true := hdep ⟨4, .data⟩ (by simp) rfl
                    have d8 : f 8 = true := hdep ⟨8, .data⟩ (by simp) rfl
                    refine ⟨rfl, ?_⟩
                    refine wp_pickF (.tmp 85) (.const (.bool true)) (.tmp 89) rfl _ (hv 4 85 (.bool false) (by rw [hVe]; simp) d4) (hv 8 89 (.bool false) (by rw [hVe]; simp) d8) ?_
                    exact ⟨hoff.put 90 _ (by simp), vals_put hV 9 90 _ (by omega) (by rw [hVe]; simp) (by rw [hVe]; simp), hbl⟩
                  · obtain rfl := Option.some.inj ho
                    have d9 : f 9 = true := hdep ⟨9, .data⟩ (by simp) rfl
                    refine ⟨rfl, ?_⟩
                    refine wp_move (.tmp 90) rfl ?_
                    rw [(hv 9 90 (.bool false) (by rw [hVe]; simp) d9)]
                    exact ⟨hoff.put 91 _ (by simp), vals_put hV 10 91 _ (by omega) (by rw [hVe]; simp) (by rw [hVe]; simp), hbl⟩
                  · obtain rfl := Option.some.inj ho
                    have d10 : f 10 = true := hdep ⟨10, .guard⟩ (by simp) rfl
                    refine ⟨wanted_of 10 91 false rfl rfl (hv 10 91 (.bool false) (by rw [hVe]; simp) d10), ?_⟩
                    refine wp_move (.tmp 5) rfl ?_
                    rw [((hoff.eval 5 (by simp)).trans hA5)]
                    exact ⟨hoff.put 92 _ (by simp), vals_put hV 11 92 _ (by omega) (by rw [hVe]; simp) (by rw [hVe]; simp), hbl⟩
                  · obtain rfl := Option.some.inj ho
                    have d10 : f 10 = true := hdep ⟨10, .guard⟩ (by simp) rfl
                    have d11 : f 11 = true := hdep ⟨11, .data⟩ (by simp) rfl
                    refine ⟨wanted_of 10 91 false rfl rfl (hv 10 91 (.bool false) (by rw [hVe]; simp) d10), ?_⟩
                    refine wp_call 36 #[.tmp 92] #[52] rfl Try.call36 #[.pointer (some ⟨br, 0, none⟩)] (by simp [(hv 11 92 (.pointer (some ⟨br, 0, none⟩)) (by rw [hVe]; simp) d11)]) (unhide hcl wx ((hbl.block _ (lt_of_block (unhide HR0))).trans (unhide HR0))) ?_
                    rintro e w3 ⟨rfl, rfl⟩
                    exact ⟨_, rfl, hoff.put 93 _ (by simp), vals_put hV 12 93 _ (by omega) (by rw [hVe]; simp) (by rw [hVe]; simp), hbl⟩
                  · obtain rfl := Option.some.inj ho
                    have d10 : f 10 = true := hdep ⟨10, .guard⟩ (by simp) rfl
                    refine ⟨wanted_of 10 91 false rfl rfl (hv 10 91 (.bool false) (by rw [hVe]; simp) d10), ?_⟩
                    refine wp_load_row 54 (.tmp 6) rfl g6 ((hoff.eval 6 (by simp)).trans hA6) 54 #[.string q'.1, .int .i64 q'.2] (0, 0) _ ((hbl.block _ (lt_of_block (unhide HQ0))).trans (unhide HQ0)) Try.underlying54 rfl (by kernel_rfl) ?_
                    exact ⟨hoff.put 94 _ (by simp), vals_put hV 13 94 _ (by omega) (by rw [hVe]; simp) (by rw [hVe]; simp), hbl⟩
                  · obtain rfl := Option.some.inj ho
                    have d10 : f 10 = true := hdep ⟨10, .guard⟩ (by simp) rfl
                    have d13 : f 13 = true := hdep ⟨13, .data⟩ (by simp) rfl
                    refine ⟨wanted_of 10 91 false rfl rfl (hv 10 91 (.bool false) (by rw [hVe]; simp) d10), ?_⟩
                    refine wp_call 37 #[.tmp 94] #[54] rfl Try.call37 #[.agg #[.string q'.1, .int .i64 q'.2]] (by simp [(hv 13 94 (.agg #[.string q'.1, .int .i64 q'.2]) (by rw [hVe]; simp) d13)]) (unhide hql wx) ?_
                    rintro e w3 ⟨rfl, hb3⟩
                    exact ⟨_, rfl, hoff.put 95 _ (by simp), vals_put hV 14 95 _ (by omega) (by rw [hVe]; simp) (by rw [hVe]; simp), hbl.trans (hb3.mono hbl.size)⟩
                  · obtain rfl := Option.some.inj ho
                    have d10 : f 10 = true := hdep ⟨10, .guard⟩ (by simp) rfl
                    have d12 : f 12 = true := hdep ⟨12, .data⟩ (by simp) rfl
                    have d14 : f 14 = true := hdep ⟨14, .data⟩ (by simp) rfl
                    refine ⟨wanted_of 10 91 false rfl rfl (hv 10 91 (.bool false) (by rw [hVe]; simp) d10), ?_⟩
                    refine wp_ne64F 3 3 (.tmp 93) (.tmp 95) rfl Try.underlying3 _ (hv 12 93 (.int .i64 l) (by rw [hVe]; simp) d12) (hv 14 95 (.int .i64 l) (by rw [hVe]; simp) d14) ?_
                    exact ⟨hoff.put 96 _ (by simp), vals_put hV 15 96 _ (by omega) (by rw [hVe]; simp) (by rw [hVe]; simp), hbl⟩
                  · obtain rfl := Option.some.inj ho
                    have d10 : f 10 = true := hdep ⟨10, .data⟩ (by simp) rfl
                    have d15 : f 15 = true := hdep ⟨15, .data⟩ (by simp) rfl
                    refine ⟨rfl, ?_⟩
                    refine wp_pickF (.tmp 91) (.const (.bool true)) (.tmp 96) rfl _ (hv 10 91 (.bool false) (by rw [hVe]; simp) d10) (hv 15 96 (.bool false) (by rw [hVe]; simp) d15) ?_
                    exact ⟨hoff.put 97 _ (by simp), vals_put hV 16 97 _ (by omega) (by rw [hVe]; simp) (by rw [hVe]; simp), hbl⟩
                  · obtain rfl := Option.some.inj ho
                    have d16 : f 16 = true := hdep ⟨16, .data⟩ (by simp) rfl
                    refine ⟨rfl, ?_⟩
                    refine wp_move (.tmp 97) rfl ?_
                    rw [(hv 16 97 (.bool false) (by rw [hVe]; simp) d16)]
                    exact ⟨hoff.put 98 _ (by simp), vals_put hV 17 98 _ (by omega) (by rw [hVe]; simp) (by rw [hVe]; simp), hbl⟩
                  · obtain rfl := Option.some.inj ho
                    have d17 : f 17 = true := hdep ⟨17, .guard⟩ (by simp) rfl
                    refine ⟨wanted_of 17 98 false rfl rfl (hv 17 98 (.bool false) (by rw [hVe]; simp) d17), ?_⟩
                    refine wp_move (.tmp 5) rfl ?_
                    rw [((hoff.eval 5 (by simp)).trans hA5)]
                    exact ⟨hoff.put 99 _ (by simp), vals_put hV 18 99 _ (by omega) (by rw [hVe]; simp) (by rw [hVe]; simp), hbl⟩
                  · obtain rfl := Option.some.inj ho
                    have d17 : f 17 = true := hdep ⟨17, .guard⟩ (by simp) rfl
                    have d18 : f 18 = true := hdep ⟨18, .data⟩ (by simp) rfl
                    refine ⟨wanted_of 17 98 false rfl rfl (hv 17 98 (.bool false) (by rw [hVe]; simp) d17), ?_⟩
                    refine wp_call 38 #[.tmp 99] #[52] rfl Try.call38 #[.pointer (some ⟨br, 0, none⟩)] (by simp [(hv 18 99 (.pointer (some ⟨br, 0, none⟩)) (by rw [hVe]; simp) d18)]) (unhide hce wx ((hbl.block _ (lt_of_block (unhide HR0))).trans (unhide HR0))) ?_
                    rintro e w3 ⟨rfl, rfl⟩
                    exact ⟨_, rfl, hoff.put 100 _ (by simp), vals_put hV 19 100 _ (by omega) (by rw [hVe]; simp) (by rw [hVe]; simp), hbl⟩
                  · obtain rfl := Option.some.inj ho
                    have d17 : f 17 = true := hdep ⟨17, .guard⟩ (by simp) rfl
                    refine ⟨wanted_of 17 98 false rfl rfl (hv 17 98 (.bool false) (by rw [hVe]; simp) d17), ?_⟩
                    refine wp_field 54 (.tmp 6) 1 rfl _ _ ((hoff.eval 6 (by simp)).trans hA6) (fa_rd1 g6) ?_
                    exact ⟨hoff.put 101 _ (by simp), vals_put hV 20 101 _ (by omega) (by rw [hVe]; simp) (by rw [hVe]; simp), hbl⟩
                  · obtain rfl := Option.some.inj ho
                    have d17 : f 17 = true := hdep ⟨17, .guard⟩ (by simp) rfl
                    have d20 : f 20 = true := hdep ⟨20, .data⟩ (by simp) rfl
                    refine ⟨wanted_of 17 98 false rfl rfl (hv 17 98 (.bool false) (by rw [hVe]; simp) d17), ?_⟩
                    refine wp_load1 3 (.tmp 101) rfl _ _ (hv 20 101 (.pointer (some ⟨g6, 1, none⟩)) (by rw [hVe]; simp) d20) (loadI _ _ _ ((hbl.cell (p := ⟨g6, 1, none⟩) (lt_of_block (unhide HQ0))).trans (cell1_of_two (unhide HQ0)))) ?_
                    exact ⟨hoff.put 102 _ (by simp), vals_put hV 21 102 _ (by omega) (by rw [hVe]; simp) (by rw [hVe]; simp), hbl⟩
                  · obtain rfl := Option.some.inj ho
                    have d17 : f 17 = true := hdep ⟨17, .guard⟩ (by simp) rfl
                    have d19 : f 19 = true := hdep ⟨19, .data⟩ (by simp) rfl
                    have d21 : f 21 = true := hdep ⟨21, .data⟩ (by simp) rfl
                    refine ⟨wanted_of 17 98 false rfl rfl (hv 17 98 (.bool false) (by rw [hVe]; simp) d17), ?_⟩
                    refine wp_ne64F 3 3 (.tmp 100) (.tmp 102) rfl Try.underlying3 _ (hv 19 100 (.int .i64 q'.2) (by rw [hVe]; simp) d19) (hv 21 102 (.int .i64 q'.2) (by rw [hVe]; simp) d21) ?_
                    exact ⟨hoff.put 103 _ (by simp), vals_put hV 22 103 _ (by omega) (by rw [hVe]; simp) (by rw [hVe]; simp), hbl⟩
                  · obtain rfl := Option.some.inj ho
                    have d17 : f 17 = true := hdep ⟨17, .data⟩ (by simp) rfl
                    have d22 : f 22 = true := hdep ⟨22, .data⟩ (by simp) rfl
                    refine ⟨rfl, ?_⟩
                    refine wp_pickF (.tmp 98) (.const (.bool true)) (.tmp 103) rfl _ (hv 17 98 (.bool false) (by rw [hVe]; simp) d17) (hv 22 103 (.bool false) (by rw [hVe]; simp) d22) ?_
                    exact ⟨hoff.put 104 _ (by simp), vals_put hV 23 104 _ (by omega) (by rw [hVe]; simp) (by rw [hVe]; simp), hbl⟩
                  · obtain rfl := Option.some.inj ho
                    have d23 : f 23 = true := hdep ⟨23, .data⟩ (by simp) rfl
                    refine ⟨rfl, ?_⟩
                    refine wp_move (.tmp 104) rfl ?_
                    rw [(hv 23 104 (.bool false) (by rw [hVe]; simp) d23)]
                    exact ⟨hoff.put 105 _ (by simp), vals_put hV 24 105 _ (by omega) (by rw [hVe]; simp) (by rw [hVe]; simp), hbl⟩
                  · obtain rfl := Option.some.inj ho
                    have d24 : f 24 = true := hdep ⟨24, .guard⟩ (by simp) rfl
                    refine ⟨wanted_of 24 105 false rfl rfl (hv 24 105 (.bool false) (by rw [hVe]; simp) d24), ?_⟩
                    refine wp_move (.tmp 5) rfl ?_
                    rw [((hoff.eval 5 (by simp)).trans hA5)]
                    exact ⟨hoff.put 106 _ (by simp), vals_put hV 25 106 _ (by omega) (by rw [hVe]; simp) (by rw [hVe]; simp), hbl⟩
                  · obtain rfl := Option.some.inj ho
                    have d24 : f 24 = true := hdep ⟨24, .guard⟩ (by simp) rfl
                    have d25 : f 25 = true := hdep ⟨25, .data⟩ (by simp) rfl
                    refine ⟨wanted_of 24 105 false rfl rfl (hv 24 105 (.bool false) (by rw [hVe]; simp) d24), ?_⟩
                    refine wp_call 39 #[.tmp 106] #[52] rfl Try.call39 #[.pointer (some ⟨br, 0, none⟩)] (by simp [(hv 25 106 (.pointer (some ⟨br, 0, none⟩)) (by rw [hVe]; simp) d25)]) (unhide hcn wx ((hbl.block _ (lt_of_block (unhide HR0))).trans (unhide HR0))) ?_
                    rintro e w3 ⟨rfl, rfl⟩
                    exact ⟨_, rfl, hoff.put 107 _ (by simp), vals_put hV 26 107 _ (by omega) (by rw [hVe]; simp) (by rw [hVe]; simp), hbl⟩
                  · obtain rfl := Option.some.inj ho
                    have d24 : f 24 = true := hdep ⟨24, .guard⟩ (by simp) rfl
                    refine ⟨wanted_of 24 105 false rfl rfl (hv 24 105 (.bool false) (by rw [hVe]; simp) d24), ?_⟩
                    refine wp_load_row 54 (.tmp 6) rfl g6 ((hoff.eval 6 (by simp)).trans hA6) 54 #[.string q'.1, .int .i64 q'.2] (0, 0) _ ((hbl.block _ (lt_of_block (unhide HQ0))).trans (unhide HQ0)) Try.underlying54 rfl (by kernel_rfl) ?_
                    exact ⟨hoff.put 108 _ (by simp), vals_put hV 27 108 _ (by omega) (by rw [hVe]; simp) (by rw [hVe]; simp), hbl⟩
                  · obtain rfl := Option.some.inj ho
                    have d24 : f 24 = true := hdep ⟨24, .guard⟩ (by simp) rfl
                    have d27 : f 27 = true := hdep ⟨27, .data⟩ (by simp) rfl
                    refine ⟨wanted_of 24 105 false rfl rfl (hv 24 105 (.bool false) (by rw [hVe]; simp) d24), ?_⟩
                    refine wp_call 40 #[.tmp 108] #[54] rfl Try.call40 #[.agg #[.string q'.1, .int .i64 q'.2]] (by simp [(hv 27 108 (.agg #[.string q'.1, .int .i64 q'.2]) (by rw [hVe]; simp) d27)]) (unhide hqn wx) ?_
                    rintro e w3 ⟨rfl, hb3⟩
                    exact ⟨_, rfl, hoff.put 109 _ (by simp), vals_put hV 28 109 _ (by omega) (by rw [hVe]; simp) (by rw [hVe]; simp), hbl.trans (hb3.mono hbl.size)⟩
                  · obtain rfl := Option.some.inj ho
                    have d24 : f 24 = true := hdep ⟨24, .guard⟩ (by simp) rfl
                    have d26 : f 26 = true := hdep ⟨26, .data⟩ (by simp) rfl
                    have d28 : f 28 = true := hdep ⟨28, .data⟩ (by simp) rfl
                    refine ⟨wanted_of 24 105 false rfl rfl (hv 24 105 (.bool false) (by rw [hVe]; simp) d24), ?_⟩
                    refine wp_ne64F 3 3 (.tmp 107) (.tmp 109) rfl Try.underlying3 _ (hv 26 107 (.int .i64 ae) (by rw [hVe]; simp) d26) (hv 28 109 (.int .i64 ae) (by rw [hVe]; simp) d28) ?_
                    exact ⟨hoff.put 110 _ (by simp), vals_put hV 29 110 _ (by omega) (by rw [hVe]; simp) (by rw [hVe]; simp), hbl⟩
                  · obtain rfl := Option.some.inj ho
                    have d24 : f 24 = true := hdep ⟨24, .data⟩ (by simp) rfl
                    have d29 : f 29 = true := hdep ⟨29, .data⟩ (by simp) rfl
                    refine ⟨rfl, ?_⟩
                    refine wp_pickF (.tmp 105) (.const (.bool true)) (.tmp 110) rfl _ (hv 24 105 (.bool false) (by rw [hVe]; simp) d24) (hv 29 110 (.bool false) (by rw [hVe]; simp) d29) ?_
                    exact ⟨hoff.put 111 _ (by simp), vals_put hV 30 111 _ (by omega) (by rw [hVe]; simp) (by rw [hVe]; simp), hbl⟩
                  · simp at ho
                case fin =>
                  rintro f a wx ⟨hoff, hV, hbl⟩ hall
                  have e := Off.all _ _ hoff
                  have e111 : a.eval (.tmp 111) = .bool false := hV (30, 111, .bool false) (by rw [hVe]; simp) (hall 30 (by decide))
                  have HI2 := hide (RInv.mk ((hbl.block _ (lt_of_block (unhide HR0))).trans (unhide HR0)) (unhide HPS) ((hbl.block _ (lt_of_block (unhide HQ0))).trans (unhide HQ0)) (unhide HQS) ((unhide HBE).trans (hbl.mono (unhide HBE).size)))
                  simp only [List.foldl_cons, List.foldl_nil] at e
                  rw [← hA, e111] at e
                  generalize a.eval (.tmp 81) = y81, a.eval (.tmp 82) = y82, a.eval (.tmp 83) = y83, a.eval (.tmp 84) = y84, a.eval (.tmp 85) = y85, a.eval (.tmp 86) = y86, a.eval (.tmp 87) = y87, a.eval (.tmp 88) = y88, a.eval (.tmp 89) = y89, a.eval (.tmp 90) = y90, a.eval (.tmp 91) = y91, a.eval (.tmp 92) = y92, a.eval (.tmp 93) = y93, a.eval (.tmp 94) = y94, a.eval (.tmp 95) = y95, a.eval (.tmp 96) = y96, a.eval (.tmp 97) = y97, a.eval (.tmp 98) = y98, a.eval (.tmp 99) = y99, a.eval (.tmp 100) = y100, a.eval (.tmp 101) = y101, a.eval (.tmp 102) = y102, a.eval (.tmp 103) = y103, a.eval (.tmp 104) = y104, a.eval (.tmp 105) = y105, a.eval (.tmp 106) = y106, a.eval (.tmp 107) = y107, a.eval (.tmp 108) = y108, a.eval (.tmp 109) = y109, a.eval (.tmp 110) = y110 at e
                  simp only [Act.put, List.setIfInBounds_toArray, List.set_cons_succ, List.set_cons_zero] at e
                  subst e
                  clear hoff hV hA hA5 hA6 hA9 hA10 hA11 hVe hbl e111 hcl hql hce hcn hqn
                  go_wp2
                  go_roundw
                  case rel => exact ⟨k + 1, p', q', by omega, by go_num, unhide HAG, unhide HI2⟩
                  case measure => simp [intOf]; omega
              · have n3 : (fk == 3) = false := by simpa using kk3
                clear kk0 kk1 kk2 kk3
                have l6 := lt_of_block (unhide HI).rf
                have lr := lt_of_block (unhide HI).rd
                have BW : Hid (Below wr.heap.size wr ((wr.alloc (.cells #[.int .i64 fk, .int .i64 fn, .int .i64 fz, .string fs] 45)).alloc (.cells #[.string q.1, .int .i64 q.2, .int .i64 0, .string ⟨#[]⟩] 56))) := ((Below.refl _ _).alloc (Nat.le_refl _) _).alloc (by simp) _
                have I1 := hide ((unhide HI).below (unhide BW))
                have XX : Hid (FldAt ((wr.alloc (.cells #[.int .i64 fk, .int .i64 fn, .int .i64 fz, .string fs] 45)).alloc (.cells #[.string q.1, .int .i64 q.2, .int .i64 0, .string ⟨#[]⟩] 56)) wr.heap.size ⟨fk, fn, fz, fs⟩) := (Below.heap_alloc _ _ _ (by simp)).trans (heap_alloc_new _ _)
                have GG : Hid (((wr.alloc (.cells #[.int .i64 fk, .int .i64 fn, .int .i64 fz, .string fs] 45)).alloc (.cells #[.string q.1, .int .i64 q.2, .int .i64 0, .string ⟨#[]⟩] 56)).heap[wr.heap.size + 1]? = some (.cells #[.string q.1, .int .i64 q.2, .int .i64 0, .string ⟨#[]⟩] 56 (0, 0))) := heap2_b _ _ _
                have h11 : (wr.heap.size + 1) ≠ g6 := by omega
                have h11r : (wr.heap.size + 1) ≠ br := by omega
                have hxr : wr.heap.size ≠ br := by omega
                have hz0 := (unhide HI).be.size
                have hgt : w.heap.size ≤ (wr.heap.size + 1) := by omega
                clear l6 lr
                have RX := hide (unhide I1).rd
                have QX := hide (unhide I1).rf
                have GX := hide (unhide GG)
                have BX := hide (unhide I1).be
                have HAG := hide (unhide HG)
                have HPS := hide (unhide HI).ps
                have HQS := hide (unhide HI).qs
                clear I1 XX GG BW HI
                go_wp2_with (refine wpList_store_abs rfl 54 (.tmp 6) (.tmp 80) rfl g6 0 #[.string q.1, .int .i64 q.2] rfl rfl (by have h := there_row (unhide QX); exact h) Try.sizeRd (two_one _ _ ⟨rfl, rfl⟩) ?_)
                intro w5 hw5
                have R5 : Hid (RdAt w5 br p) := by show RdAt _ _ _; rw [unhide hw5]; exact ((Below.heap_setCell _ _ _ _ hbr6).trans ((Below.heap_setCell _ _ _ _ hbr6).trans (unhide RX)))
                have Q5 : Hid (w5.heap[g6]? = some (.cells #[.string q.1, .int .i64 q.2] 54 (0, 0))) := by show _ = _; rw [unhide hw5]; exact two_set1 (two_set0 (unhide QX))
                have G5 : Hid (w5.heap[(wr.heap.size + 1)]? = some (.cells #[.string q.1, .int .i64 q.2, .int .i64 0, .string (⟨#[]⟩ : ByteArray)] 56 (0, 0))) := by show _ = _; rw [unhide hw5]; exact ((Below.heap_setCell _ _ _ _ h11).trans ((Below.heap_setCell _ _ _ _ h11).trans (unhide GX)))
                have B5 : Hid (Below w.heap.size w w5) := by show Below _ _ _; rw [unhide hw5]; exact ((unhide BX).setCell hg6 _).setCell hg6 _
                clear hw5 RX QX GX BX
                go_wp2
                obtain ⟨W0, hW0⟩ : ∃ W0, W0 = w5.drew := ⟨_, rfl⟩
                have HR0 : Hid (RdAt W0 br p) := by show RdAt _ _ _; rw [hW0]; exact unhide R5
                have HQ0 : Hid (W0.heap[g6]? = some (.cells #[.string q.1, .int .i64 q.2] 54 (0, 0))) := by show _ = _; rw [hW0]; exact unhide Q5
                have HG0 : Hid (W0.heap[(wr.heap.size + 1)]? = some (.cells #[.string q.1, .int .i64 q.2, .int .i64 0, .string (⟨#[]⟩ : ByteArray)] 56 (0, 0))) := by show _ = _; rw [hW0]; exact unhide G5
                have HGC : Hid (W0.cell? ⟨(wr.heap.size + 1), 2, none⟩ = some (.int .i64 0) ∧ W0.cell? ⟨(wr.heap.size + 1), 3, none⟩ = some (.string (⟨#[]⟩ : ByteArray))) := ⟨(cells_of_four (unhide HG0)).2.2.1, (cells_of_four (unhide HG0)).2.2.2⟩
                have HBE : Hid (Below w.heap.size w W0) := by show Below _ _ _; rw [hW0]; exact (unhide B5).drew
                have HW0 : Hid (Below W0.heap.size W0 w5.drew) := by show Below _ _ _; rw [hW0]; exact Below.refl _ _
                clear hW0 R5 Q5 G5 B5
                obtain ⟨l, ae, hcl, hql, hce, hcn, hqn⟩ := reads_calls br p q (unhide HAG) (unhide HPS) (unhide HQS)
                generalize hA : Act.mk _ _ = A
                have hA5 : A.eval (.tmp 5) = .pointer (some ⟨br, 0, none⟩) := by rw [← hA]; rfl
                have hA6 : A.eval (.tmp 6) = .pointer (some ⟨g6, 0, none⟩) := by rw [← hA]; rfl
                have hA9 : A.eval (.tmp 9) = .int .i64 0 := by rw [← hA]; rfl
                have hA10 : A.eval (.tmp 10) = .string (⟨#[]⟩ : ByteArray) := by rw [← hA]; rfl
                have hA11 : A.eval (.tmp 11) = .pointer (some ⟨(wr.heap.size + 1), 0, none⟩) := by rw [← hA]; rfl
                have hAs : A.tmps.size = 112 := by rw [← hA]; rfl
                obtain ⟨V, hVe⟩ : ∃ V : List (Nat × Nat × Value), V = [(0, 81, .int .i64 0), (1, 82, .pointer (some ⟨(wr.heap.size + 1), 2, none⟩)), (2, 83, .int .i64 0), (3, 84, .bool false), (4, 85, .bool false), (5, 86, .string (⟨#[]⟩ : ByteArray)), (6, 87, .pointer (some ⟨(wr.heap.size + 1), 3, none⟩)), (7, 88, .string (⟨#[]⟩ : ByteArray)), (8, 89, .bool false), (9, 90, .bool false), (10, 91, .bool false), (11, 92, .pointer (some ⟨br, 0, none⟩)), (12, 93, .int .i64 l), (13, 94, .agg #[.string q.1, .int .i64 q.2]), (14, 95, .int .i64 l), (15, 96, .bool false), (16, 97, .bool false), (17, 98, .bool false), (18, 99, .pointer (some ⟨br, 0, none⟩)), (19, 100, .int .i64 q.2), (20, 101, .pointer (some ⟨g6, 1, none⟩)), (21, 102, .int .i64 q.2), (22, 103, .bool false), (23, 104, .bool false), (24, 105, .bool false), (25, 106, .pointer (some ⟨br, 0, none⟩)), (26, 107, .int .i64 ae), (27, 108, .agg #[.string q.1, .int .i64 q.2]), (28, 109, .int .i64 ae), (29, 110, .bool false), (30, 111, .bool false)] := ⟨_, rfl⟩
                refine wp_region_invG (by kernel_rfl) (by kernel_rfl) (fun f a wx => Off [111, 81, 82, 83, 84, 85, 86, 87, 88, 89, 90, 91, 92, 93, 94, 95, 96, 97, 98, 99, 100, 101, 102, 103, 104, 105, 106, 107, 108, 109, 110] A a ∧ ValsOk V f a ∧ Below W0.heap.size W0 wx) ?start ?step ?fin
                case start => exact ⟨Off.refl _ _, vals_start _ _, unhide HW0⟩
                case step =>
                  rintro f a wx i o ⟨hoff, hV, hbl⟩ ho hfi hdep
                  have has : a.tmps.size = 112 := hoff.size.trans hAs
                  have hv := fun (i d : Nat) (v : Value) (hm : (i, d, v) ∈ V) (hf : f i = true) => hV (i, d, v) hm hf
                  rcases i with _ | _ | _ | _ | _ | _ | _ | _ | _ | _ | _ | _ | _ | _ | _ | _ | _ | _ | _ | _ | _ | _ | _ | _ | _ | _ | _ | _ | _ | _ | _ | i
                  · obtain rfl := Option.some.inj ho
                    refine ⟨rfl, ?_⟩
                    refine wp_move (.tmp 9) rfl ?_
                    rw [((hoff.eval 9 (by simp)).trans hA9)]
                    exact ⟨hoff.put 81 _ (by simp), vals_put hV 0 81 _ (by omega) (by rw [hVe]; simp) (by rw [hVe]; simp), hbl⟩
                  · obtain rfl := Option.some.inj ho
                    refine ⟨rfl, ?_⟩
                    refine wp_field 56 (.tmp 11) 1 rfl _ _ ((hoff.eval 11 (by simp)).trans hA11) (fa_got1 (wr.heap.size + 1)) ?_
                    exact ⟨hoff.put 82 _ (by simp), vals_put hV 1 82 _ (by omega) (by rw [hVe]; simp) (by rw [hVe]; simp), hbl⟩
                  · obtain rfl := Option.some.inj ho
                    have d1 : f 1 = true := hdep ⟨1, .data⟩ (by simp) rfl
                    refine ⟨rfl, ?_⟩
                    refine wp_load1 3 (.tmp 82) rfl _ _ (hv 1 82 (.pointer (some ⟨(wr.heap.size + 1), 2, none⟩)) (by rw [hVe]; simp) d1) (loadI _ _ _ ((hbl.cell (p := ⟨(wr.heap.size + 1), 2, none⟩) (lt_of_block (unhide HG0))).trans (unhide HGC).1)) ?_
                    exact ⟨hoff.put 83 _ (by simp), vals_put hV 2 83 _ (by omega) (by rw [hVe]; simp) (by rw [hVe]; simp), hbl⟩
                  · obtain rfl := Option.some.inj ho
                    have d0 : f 0 = true := hdep ⟨0, .data⟩ (by simp) rfl
                    have d2 : f 2 = true := hdep ⟨2, .data⟩ (by simp) rfl
                    refine ⟨rfl, ?_⟩
                    refine wp_ne64F 3 3 (.tmp 81) (.tmp 83) rfl Try.underlying3 _ (hv 0 81 (.int .i64 0) (by rw [hVe]; simp) d0) (hv 2 83 (.int .i64 0) (by rw [hVe]; simp) d2) ?_
                    exact ⟨hoff.put 84 _ (by simp), vals_put hV 3 84 _ (by omega) (by rw [hVe]; simp) (by rw [hVe]; simp), hbl⟩
                  · obtain rfl := Option.some.inj ho
                    have d3 : f 3 = true := hdep ⟨3, .data⟩ (by simp) rfl
                    refine ⟨rfl, ?_⟩
                    refine wp_move (.tmp 84) rfl ?_
                    rw [(hv 3 84 (.bool false) (by rw [hVe]; simp) d3)]
                    exact ⟨hoff.put 85 _ (by simp), vals_put hV 4 85 _ (by omega) (by rw [hVe]; simp) (by rw [hVe]; simp), hbl⟩
                  · obtain rfl := Option.some.inj ho
                    have d4 : f 4 = true := hdep ⟨4, .guard⟩ (by simp) rfl
                    refine ⟨wanted_of 4 85 false rfl rfl (hv 4 85 (.bool false) (by rw [hVe]; simp) d4), ?_⟩
                    refine wp_move (.tmp 10) rfl ?_
                    rw [((hoff.eval 10 (by simp)).trans hA10)]
                    exact ⟨hoff.put 86 _ (by simp), vals_put hV 5 86 _ (by omega) (by rw [hVe]; simp) (by rw [hVe]; simp), hbl⟩
                  · obtain rfl := Option.some.inj ho
                    have d4 : f 4 = true := hdep ⟨4, .guard⟩ (by simp) rfl
                    refine ⟨wanted_of 4 85 false rfl rfl (hv 4 85 (.bool false) (by rw [hVe]; simp) d4), ?_⟩
                    refine wp_field 56 (.tmp 11) 2 rfl _ _ ((hoff.eval 11 (by simp)).trans hA11) (fa_got2 (wr.heap.size + 1)) ?_
                    exact ⟨hoff.put 87 _ (by simp), vals_put hV 6 87 _ (by omega) (by rw [hVe]; simp) (by rw [hVe]; simp), hbl⟩
                  · obtain rfl := Option.some.inj ho
                    have d4 : f 4 = true := hdep ⟨4, .guard⟩ (by simp) rfl
                    have d6 : f 6 = true := hdep ⟨6, .data⟩ (by simp) rfl
                    refine ⟨wanted_of 4 85 false rfl rfl (hv 4 85 (.bool false) (by rw [hVe]; simp) d4), ?_⟩
                    refine wp_load1 9 (.tmp 87) rfl _ _ (hv 6 87 (.pointer (some ⟨(wr.heap.size + 1), 3, none⟩)) (by rw [hVe]; simp) d6) (loadS _ _ _ ((hbl.cell (p := ⟨(wr.heap.size + 1), 3, none⟩) (lt_of_block (unhide HG0))).trans (unhide HGC).2)) ?_
                    exact ⟨hoff.put 88 _ (by simp), vals_put hV 7 88 _ (by omega) (by rw [hVe]; simp) (by rw [hVe]; simp), hbl⟩
                  · obtain rfl := Option.some.inj ho
                    have d4 : f 4 = true := hdep ⟨4, .guard⟩ (by simp) rfl
                    have d5 : f 5 = true := hdep ⟨5, .data⟩ (by simp) rfl
                    have d7 : f 7 = true := hdep ⟨7, .data⟩ (by simp) rfl
                    refine ⟨wanted_of 4 85 false rfl rfl (hv 4 85 (.bool false) (by rw [hVe]; simp) d4), ?_⟩
                    refine wp_neStrF 9 9 (.tmp 86) (.tmp 88) rfl Try.underlying9 _ (hv 5 86 (.string (⟨#[]⟩ : ByteArray)) (by rw [hVe]; simp) d5) (hv 7 88 (.string (⟨#[]⟩ : ByteArray)) (by rw [hVe]; simp) d7) ?_
                    exact ⟨hoff.put 89 _ (by simp), vals_put hV 8 89 _ (by omega) (by rw [hVe]; simp) (by rw [hVe]; simp), hbl⟩
                  · obtain rfl := Option.some.inj ho
                    have d4 : f 4 = true := hdep ⟨4, .data⟩ (by simp) rfl
                    have d8 : f 8 = true := hdep ⟨8, .data⟩ (by simp) rfl
                    refine ⟨rfl, ?_⟩
                    refine wp_pickF (.tmp 85) (.const (.bool true)) (.tmp 89) rfl _ (hv 4 85 (.bool false) (by rw [hVe]; simp) d4) (hv 8 89 (.bool false) (by rw [hVe]; simp) d8) ?_
                    exact ⟨hoff.put 90 _ (by simp), vals_put hV 9 90 _ (by omega) (by rw [hVe]; simp) (by rw [hVe]; simp), hbl⟩
                  · obtain rfl := Option.some.inj ho
                    have d9 : f 9 = true := hdep ⟨9, .data⟩ (by simp) rfl
                    refine ⟨rfl, ?_⟩
                    refine wp_move (.tmp 90) rfl ?_
                    rw [(hv 9 90 (.bool false) (by rw [hVe]; simp) d9)]
                    exact ⟨hoff.put 91 _ (by simp), vals_put hV 10 91 _ (by omega) (by rw [hVe]; simp) (by rw [hVe]; simp), hbl⟩
                  · obtain rfl := Option.some.inj ho
                    have d10 : f 10 = true := hdep ⟨10, .guard⟩ (by simp) rfl
                    refine ⟨wanted_of 10 91 false rfl rfl (hv 10 91 (.bool false) (by rw [hVe]; simp) d10), ?_⟩
                    refine wp_move (.tmp 5) rfl ?_
                    rw [((hoff.eval 5 (by simp)).trans hA5)]
                    exact ⟨hoff.put 92 _ (by simp), vals_put hV 11 92 _ (by omega) (by rw [hVe]; simp) (by rw [hVe]; simp), hbl⟩
                  · obtain rfl := Option.some.inj ho
                    have d10 : f 10 = true := hdep ⟨10, .guard⟩ (by simp) rfl
                    have d11 : f 11 = true := hdep ⟨11, .data⟩ (by simp) rfl
                    refine ⟨wanted_of 10 91 false rfl rfl (hv 10 91 (.bool false) (by rw [hVe]; simp) d10), ?_⟩
                    refine wp_call 36 #[.tmp 92] #[52] rfl Try.call36 #[.pointer (some ⟨br, 0, none⟩)] (by simp [(hv 11 92 (.pointer (some ⟨br, 0, none⟩)) (by rw [hVe]; simp) d11)]) (unhide hcl wx ((hbl.block _ (lt_of_block (unhide HR0))).trans (unhide HR0))) ?_
                    rintro e w3 ⟨rfl, rfl⟩
                    exact ⟨_, rfl, hoff.put 93 _ (by simp), vals_put hV 12 93 _ (by omega) (by rw [hVe]; simp) (by rw [hVe]; simp), hbl⟩
                  · obtain rfl := Option.some.inj ho
                    have d10 : f 10 = true := hdep ⟨10, .guard⟩ (by simp) rfl
                    refine ⟨wanted_of 10 91 false rfl rfl (hv 10 91 (.bool false) (by rw [hVe]; simp) d10), ?_⟩
                    refine wp_load_row 54 (.tmp 6) rfl g6 ((hoff.eval 6 (by simp)).trans hA6) 54 #[.string q.1, .int .i64 q.2] (0, 0) _ ((hbl.block _ (lt_of_block (unhide HQ0))).trans (unhide HQ0)) Try.underlying54 rfl (by kernel_rfl) ?_
                    exact ⟨hoff.put 94 _ (by simp), vals_put hV 13 94 _ (by omega) (by rw [hVe]; simp) (by rw [hVe]; simp), hbl⟩
                  · obtain rfl := Option.some.inj ho
                    have d10 : f 10 = true := hdep ⟨10, .guard⟩ (by simp) rfl
                    have d13 : f 13 = true := hdep ⟨13, .data⟩ (by simp) rfl
                    refine ⟨wanted_of 10 91 false rfl rfl (hv 10 91 (.bool false) (by rw [hVe]; simp) d10), ?_⟩
                    refine wp_call 37 #[.tmp 94] #[54] rfl Try.call37 #[.agg #[.string q.1, .int .i64 q.2]] (by simp [(hv 13 94 (.agg #[.string q.1, .int .i64 q.2]) (by rw [hVe]; simp) d13)]) (unhide hql wx) ?_
                    rintro e w3 ⟨rfl, hb3⟩
                    exact ⟨_, rfl, hoff.put 95 _ (by simp), vals_put hV 14 95 _ (by omega) (by rw [hVe]; simp) (by rw [hVe]; simp), hbl.trans (hb3.mono hbl.size)⟩
                  · obtain rfl := Option.some.inj ho
                    have d10 : f 10 = true := hdep ⟨10, .guard⟩ (by simp) rfl
                    have d12 : f 12 = true := hdep ⟨12, .data⟩ (by simp) rfl
                    have d14 : f 14 = true := hdep ⟨14, .data⟩ (by simp) rfl
                    refine ⟨wanted_of 10 91 false rfl rfl (hv 10 91 (.bool false) (by rw [hVe]; simp) d10), ?_⟩
                    refine wp_ne64F 3 3 (.tmp 93) (.tmp 95) rfl Try.underlying3 _ (hv 12 93 (.int .i64 l) (by rw [hVe]; simp) d12) (hv 14 95 (.int .i64 l) (by rw [hVe]; simp) d14) ?_
                    exact ⟨hoff.put 96 _ (by simp), vals_put hV 15 96 _ (by omega) (by rw [hVe]; simp) (by rw [hVe]; simp), hbl⟩
                  · obtain rfl := Option.some.inj ho
                    have d10 : f 10 = true := hdep ⟨10, .data⟩ (by simp) rfl
                    have d15 : f 15 = true := hdep ⟨15, .data⟩ (by simp) rfl
                    refine ⟨rfl, ?_⟩
                    refine wp_pickF (.tmp 91) (.const (.bool true)) (.tmp 96) rfl _ (hv 10 91 (.bool false) (by rw [hVe]; simp) d10) (hv 15 96 (.bool false) (by rw [hVe]; simp) d15) ?_
                    exact ⟨hoff.put 97 _ (by simp), vals_put hV 16 97 _ (by omega) (by rw [hVe]; simp) (by rw [hVe]; simp), hbl⟩
                  · obtain rfl := Option.some.inj ho
                    have d16 : f 16 = true := hdep ⟨16, .data⟩ (by simp) rfl
                    refine ⟨rfl, ?_⟩
                    refine wp_move (.tmp 97) rfl ?_
                    rw [(hv 16 97 (.bool false) (by rw [hVe]; simp) d16)]
                    exact ⟨hoff.put 98 _ (by simp), vals_put hV 17 98 _ (by omega) (by rw [hVe]; simp) (by rw [hVe]; simp), hbl⟩
                  · obtain rfl := Option.some.inj ho
                    have d17 : f 17 = true := hdep ⟨17, .guard⟩ (by simp) rfl
                    refine ⟨wanted_of 17 98 false rfl rfl (hv 17 98 (.bool false) (by rw [hVe]; simp) d17), ?_⟩
                    refine wp_move (.tmp 5) rfl ?_
                    rw [((hoff.eval 5 (by simp)).trans hA5)]
                    exact ⟨hoff.put 99 _ (by simp), vals_put hV 18 99 _ (by omega) (by rw [hVe]; simp) (by rw [hVe]; simp), hbl⟩
                  · obtain rfl := Option.some.inj ho
                    have d17 : f 17 = true := hdep ⟨17, .guard⟩ (by simp) rfl
                    have d18 : f 18 = true := hdep ⟨18, .data⟩ (by simp) rfl
                    refine ⟨wanted_of 17 98 false rfl rfl (hv 17 98 (.bool false) (by rw [hVe]; simp) d17), ?_⟩
                    refine wp_call 38 #[.tmp 99] #[52] rfl Try.call38 #[.pointer (some ⟨br, 0, none⟩)] (by simp [(hv 18 99 (.pointer (some ⟨br, 0, none⟩)) (by rw [hVe]; simp) d18)]) (unhide hce wx ((hbl.block _ (lt_of_block (unhide HR0))).trans (unhide HR0))) ?_
                    rintro e w3 ⟨rfl, rfl⟩
                    exact ⟨_, rfl, hoff.put 100 _ (by simp), vals_put hV 19 100 _ (by omega) (by rw [hVe]; simp) (by rw [hVe]; simp), hbl⟩
                  · obtain rfl := Option.some.inj ho
                    have d17 : f 17 = true := hdep ⟨17, .guard⟩ (by simp) rfl
                    refine ⟨wanted_of 17 98 false rfl rfl (hv 17 98 (.bool false) (by rw [hVe]; simp) d17), ?_⟩
                    refine wp_field 54 (.tmp 6) 1 rfl _ _ ((hoff.eval 6 (by simp)).trans hA6) (fa_rd1 g6) ?_
                    exact ⟨hoff.put 101 _ (by simp), vals_put hV 20 101 _ (by omega) (by rw [hVe]; simp) (by rw [hVe]; simp), hbl⟩
                  · obtain rfl := Option.some.inj ho
                    have d17 : f 17 = true := hdep ⟨17, .guard⟩ (by simp) rfl
                    have d20 : f 20 = true := hdep ⟨20, .data⟩ (by simp) rfl
                    refine ⟨wanted_of 17 98 false rfl rfl (hv 17 98 (.bool false) (by rw [hVe]; simp) d17), ?_⟩
                    refine wp_load1 3 (.tmp 101) rfl _ _ (hv 20 101 (.pointer (some ⟨g6, 1, none⟩)) (by rw [hVe]; simp) d20) (loadI _ _ _ ((hbl.cell (p := ⟨g6, 1, none⟩) (lt_of_block (unhide HQ0))).trans (cell1_of_two (unhide HQ0)))) ?_
                    exact ⟨hoff.put 102 _ (by simp), vals_put hV 21 102 _ (by omega) (by rw [hVe]; simp) (by rw [hVe]; simp), hbl⟩
                  · obtain rfl := Option.some.inj ho
                    have d17 : f 17 = true := hdep ⟨17, .guard⟩ (by simp) rfl
                    have d19 : f 19 = true := hdep ⟨19, .data⟩ (by simp) rfl
                    have d21 : f 21 = true := hdep ⟨21, .data⟩ (by simp) rfl
                    refine ⟨wanted_of 17 98 false rfl rfl (hv 17 98 (.bool false) (by rw [hVe]; simp) d17), ?_⟩
                    refine wp_ne64F 3 3 (.tmp 100) (.tmp 102) rfl Try.underlying3 _ (hv 19 100 (.int .i64 q.2) (by rw [hVe]; simp) d19) (hv 21 102 (.int .i64 q.2) (by rw [hVe]; simp) d21) ?_
                    exact ⟨hoff.put 103 _ (by simp), vals_put hV 22 103 _ (by omega) (by rw [hVe]; simp) (by rw [hVe]; simp), hbl⟩
                  · obtain rfl := Option.some.inj ho
                    have d17 : f 17 = true := hdep ⟨17, .data⟩ (by simp) rfl
                    have d22 : f 22 = true := hdep ⟨22, .data⟩ (by simp) rfl
                    refine ⟨rfl, ?_⟩
                    refine wp_pickF (.tmp 98) (.const (.bool true)) (.tmp 103) rfl _ (hv 17 98 (.bool false) (by rw [hVe]; simp) d17) (hv 22 103 (.bool false) (by rw [hVe]; simp) d22) ?_
                    exact ⟨hoff.put 104 _ (by simp), vals_put hV 23 104 _ (by omega) (by rw [hVe]; simp) (by rw [hVe]; simp), hbl⟩
                  · obtain rfl := Option.some.inj ho
                    have d23 : f 23 = true := hdep ⟨23, .data⟩ (by simp) rfl
                    refine ⟨rfl, ?_⟩
                    refine wp_move (.tmp 104) rfl ?_
                    rw [(hv 23 104 (.bool false) (by rw [hVe]; simp) d23)]
                    exact ⟨hoff.put 105 _ (by simp), vals_put hV 24 105 _ (by omega) (by rw [hVe]; simp) (by rw [hVe]; simp), hbl⟩
                  · obtain rfl := Option.some.inj ho
                    have d24 : f 24 = true := hdep ⟨24, .guard⟩ (by simp) rfl
                    refine ⟨wanted_of 24 105 false rfl rfl (hv 24 105 (.bool false) (by rw [hVe]; simp) d24), ?_⟩
                    refine wp_move (.tmp 5) rfl ?_
                    rw [((hoff.eval 5 (by simp)).trans hA5)]
                    exact ⟨hoff.put 106 _ (by simp), vals_put hV 25 106 _ (by omega) (by rw [hVe]; simp) (by rw [hVe]; simp), hbl⟩
                  · obtain rfl := Option.some.inj ho
                    have d24 : f 24 = true := hdep ⟨24, .guard⟩ (by simp) rfl
                    have d25 : f 25 = true := hdep ⟨25, .data⟩ (by simp) rfl
                    refine ⟨wanted_of 24 105 false rfl rfl (hv 24 105 (.bool false) (by rw [hVe]; simp) d24), ?_⟩
                    refine wp_call 39 #[.tmp 106] #[52] rfl Try.call39 #[.pointer (some ⟨br, 0, none⟩)] (by simp [(hv 25 106 (.pointer (some ⟨br, 0, none⟩)) (by rw [hVe]; simp) d25)]) (unhide hcn wx ((hbl.block _ (lt_of_block (unhide HR0))).trans (unhide HR0))) ?_
                    rintro e w3 ⟨rfl, rfl⟩
                    exact ⟨_, rfl, hoff.put 107 _ (by simp), vals_put hV 26 107 _ (by omega) (by rw [hVe]; simp) (by rw [hVe]; simp), hbl⟩
                  · obtain rfl := Option.some.inj ho
                    have d24 : f 24 = true := hdep ⟨24, .guard⟩ (by simp) rfl
                    refine ⟨wanted_of 24 105 false rfl rfl (hv 24 105 (.bool false) (by rw [hVe]; simp) d24), ?_⟩
                    refine wp_load_row 54 (.tmp 6) rfl g6 ((hoff.eval 6 (by simp)).trans hA6) 54 #[.string q.1, .int .i64 q.2] (0, 0) _ ((hbl.block _ (lt_of_block (unhide HQ0))).trans (unhide HQ0)) Try.underlying54 rfl (by kernel_rfl) ?_
                    exact ⟨hoff.put 108 _ (by simp), vals_put hV 27 108 _ (by omega) (by rw [hVe]; simp) (by rw [hVe]; simp), hbl⟩
                  · obtain rfl := Option.some.inj ho
                    have d24 : f 24 = true := hdep ⟨24, .guard⟩ (by simp) rfl
                    have d27 : f 27 = true := hdep ⟨27, .data⟩ (by simp) rfl
                    refine ⟨wanted_of 24 105 false rfl rfl (hv 24 105 (.bool false) (by rw [hVe]; simp) d24), ?_⟩
                    refine wp_call 40 #[.tmp 108] #[54] rfl Try.call40 #[.agg #[.string q.1, .int .i64 q.2]] (by simp [(hv 27 108 (.agg #[.string q.1, .int .i64 q.2]) (by rw [hVe]; simp) d27)]) (unhide hqn wx) ?_
                    rintro e w3 ⟨rfl, hb3⟩
                    exact ⟨_, rfl, hoff.put 109 _ (by simp), vals_put hV 28 109 _ (by omega) (by rw [hVe]; simp) (by rw [hVe]; simp), hbl.trans (hb3.mono hbl.size)⟩
                  · obtain rfl := Option.some.inj ho
                    have d24 : f 24 = true := hdep ⟨24, .guard⟩ (by simp) rfl
                    have d26 : f 26 = true := hdep ⟨26, .data⟩ (by simp) rfl
                    have d28 : f 28 = true := hdep ⟨28, .data⟩ (by simp) rfl
                    refine ⟨wanted_of 24 105 false rfl rfl (hv 24 105 (.bool false) (by rw [hVe]; simp) d24), ?_⟩
                    refine wp_ne64F 3 3 (.tmp 107) (.tmp 109) rfl Try.underlying3 _ (hv 26 107 (.int .i64 ae) (by rw [hVe]; simp) d26) (hv 28 109 (.int .i64 ae) (by rw [hVe]; simp) d28) ?_
                    exact ⟨hoff.put 110 _ (by simp), vals_put hV 29 110 _ (by omega) (by rw [hVe]; simp) (by rw [hVe]; simp), hbl⟩
                  · obtain rfl := Option.some.inj ho
                    have d24 : f 24 = true := hdep ⟨24, .data⟩ (by simp) rfl
                    have d29 : f 29 = true := hdep ⟨29, .data⟩ (by simp) rfl
                    refine ⟨rfl, ?_⟩
                    refine wp_pickF (.tmp 105) (.const (.bool true)) (.tmp 110) rfl _ (hv 24 105 (.bool false) (by rw [hVe]; simp) d24) (hv 29 110 (.bool false) (by rw [hVe]; simp) d29) ?_
                    exact ⟨hoff.put 111 _ (by simp), vals_put hV 30 111 _ (by omega) (by rw [hVe]; simp) (by rw [hVe]; simp), hbl⟩
                  · simp at ho
                case fin =>
                  rintro f a wx ⟨hoff, hV, hbl⟩ hall
                  have e := Off.all _ _ hoff
                  have e111 : a.eval (.tmp 111) = .bool false := hV (30, 111, .bool false) (by rw [hVe]; simp) (hall 30 (by decide))
                  have HI2 := hide (RInv.mk ((hbl.block _ (lt_of_block (unhide HR0))).trans (unhide HR0)) (unhide HPS) ((hbl.block _ (lt_of_block (unhide HQ0))).trans (unhide HQ0)) (unhide HQS) ((unhide HBE).trans (hbl.mono (unhide HBE).size)))
                  simp only [List.foldl_cons, List.foldl_nil] at e
                  rw [← hA, e111] at e
                  generalize a.eval (.tmp 81) = y81, a.eval (.tmp 82) = y82, a.eval (.tmp 83) = y83, a.eval (.tmp 84) = y84, a.eval (.tmp 85) = y85, a.eval (.tmp 86) = y86, a.eval (.tmp 87) = y87, a.eval (.tmp 88) = y88, a.eval (.tmp 89) = y89, a.eval (.tmp 90) = y90, a.eval (.tmp 91) = y91, a.eval (.tmp 92) = y92, a.eval (.tmp 93) = y93, a.eval (.tmp 94) = y94, a.eval (.tmp 95) = y95, a.eval (.tmp 96) = y96, a.eval (.tmp 97) = y97, a.eval (.tmp 98) = y98, a.eval (.tmp 99) = y99, a.eval (.tmp 100) = y100, a.eval (.tmp 101) = y101, a.eval (.tmp 102) = y102, a.eval (.tmp 103) = y103, a.eval (.tmp 104) = y104, a.eval (.tmp 105) = y105, a.eval (.tmp 106) = y106, a.eval (.tmp 107) = y107, a.eval (.tmp 108) = y108, a.eval (.tmp 109) = y109, a.eval (.tmp 110) = y110 at e
                  simp only [Act.put, List.setIfInBounds_toArray, List.set_cons_succ, List.set_cons_zero] at e
                  subst e
                  clear hoff hV hA hA5 hA6 hA9 hA10 hA11 hVe hbl e111 hcl hql hce hcn hqn
                  go_wp2
                  go_roundw
                  case rel => exact ⟨k + 1, p, q, by omega, by go_num, unhide HAG, unhide HI2⟩
                  case measure => simp [intOf]; omega
      · have hx : (¬ (k : Int) < len) ∨ ((k : Int) < len ∧ ¬ (k : Int) < 40) := by omega
        have B5 := hide (unhide HI).be
        clear hlt HF hk HI HG
        rcases hx with q | ⟨q, q'⟩
        all_goals
          go_wp2
          go_ret
          exact ⟨rfl, unhide B5⟩

end Go.Proofs.Ytahejlimdgniiab

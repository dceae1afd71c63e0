/- TrackerNear. -/
import Derived.Test.YtjdphcjapdklpaaTkZi
namespace Go.Proofs.Ytjdphcjapdklpaa
open Go.RowKit Go.Sort
set_option linter.unusedVariables false
attribute [local go_sem] Oper.semAt_some

/-- the cells of what is asked -/
theorem ask_cells {W : World} {g : Nat} {q : By} {t : ByteArray} {ax ay K now : Int} (h : W.heap[g]? = some (.cells #[.string (bs q), .string t, .int .i64 ax, .int .i64 ay, .int .i64 K, .int .i64 now] 37 (0, 0))) :
    (W.cell? ⟨g, 0, none⟩ = some (.string (bs q)) ∧ W.cell? ⟨g, 1, none⟩ = some (.string t) ∧ W.cell? ⟨g, 2, none⟩ = some (.int .i64 ax) ∧ W.cell? ⟨g, 3, none⟩ = some (.int .i64 ay) ∧ W.cell? ⟨g, 4, none⟩ = some (.int .i64 K) ∧ W.cell? ⟨g, 5, none⟩ = some (.int .i64 now)) ∧ g < W.heap.size :=
  ⟨⟨cell_of_row _ _ 0 _ _ _ h, cell_of_row _ _ 1 _ _ _ h, cell_of_row _ _ 2 _ _ _ h, cell_of_row _ _ 3 _ _ _ h, cell_of_row _ _ 4 _ _ _ h, cell_of_row _ _ 5 _ _ _ h⟩, lt_of_block h⟩
set_option maxRecDepth 100000 in
set_option maxHeartbeats 16000000 in
theorem trackerNear_law (a0 : Option Addr) (l : List Ta) (c : Nat) (q : By) (t : ByteArray) (ax ay K now : Int) (w : World) (hA : TasAt w a0 l) (hO : TasOk l c) : Calls Try.prog 4 #[.slice a0 l.length c, .agg #[.string (bs q), .string t, .int .i64 ax, .int .i64 ay, .int .i64 K, .int .i64 now]] w fun e w' => e = .returned (.bool true) ∧ Below w.heap.size w w' := by
  have HAW := hide (fun W => tawake_any W)
  have HNW := hide (fun W => tnew_any 5 W (by omega))
  have H0 := hide (heap_alloc_new w (.cells #[.string (bs q), .string t, .int .i64 ax, .int .i64 ay, .int .i64 K, .int .i64 now] 37))
  obtain ⟨W0, hW0⟩ : ∃ W0, W0 = w.alloc (.cells #[.string (bs q), .string t, .int .i64 ax, .int .i64 ay, .int .i64 K, .int .i64 now] 37) := ⟨_, rfl⟩
  have B0 : Hid (Below w.heap.size w W0) := by show Below _ _ _; rw [hW0]; exact (Below.refl _ _).alloc (Nat.le_refl _) _
  have S0 : Hid (W0.heap.size = w.heap.size + 1) := by show _ = _; rw [hW0]; simp
  rw [← hW0] at H0
  have HW := hide hW0
  have HA := hide hA
  have HFew := hide (fun W (h : TasAt W a0 l) => few_any a0 l c (bs q) t ax ay K now W h hO)
  obtain ⟨n, hn⟩ : ∃ n, n = l.length := ⟨_, rfl⟩
  rw [← hn] at HFew ⊢
  have HN := hide hn
  clear hA hO hW0 hn
  go_enter Try.func4, Try.ntmps4
  go_wp2_with fail
  rw [← unhide HW]
  clear HW
  refine (unhide HNW _).mono ?_
  rintro e w1 ⟨⟨b, mb, hb, hmb, rfl, hT⟩, b1⟩
  have HT1 := hide hT
  have B1 := hide ((unhide B0).trans (b1.mono (unhide B0).size))
  have H1 := hide ((b1.block _ (lt_of_block (unhide H0))).trans (unhide H0))
  have HMB : Hid (w.heap.size + 1 ≤ mb) := by have := unhide S0; show _ ≤ _; omega
  have HA1 := hide ((unhide HA).up (unhide B1))
  clear hT b1 hb hmb B0 H0 HNW S0
  obtain ⟨⟨u0, u1, u2, u3, u4, u5⟩, ul⟩ := ask_cells (unhide H1)
  go_wp2_with fail
  refine (unhide HFew _ (unhide HA1)).mono ?_
  rintro e w2 ⟨B, rfl, hB, b2⟩
  have HT2 := hide ((unhide HT1).up b2)
  have B2 := hide ((unhide B1).trans (b2.mono (unhide B1).size))
  have H2 := hide ((b2.block _ (lt_of_block (unhide H1))).trans (unhide H1))
  have HBF := hide hB
  clear b2 hB HT1 B1 H1 HA1 HFew u0 u1 u2 u3 u4 u5 ul
  cases B with
  | false =>
    go_wp2_with fail
    refine (unhide HAW _).mono ?_
    rintro e w3 ⟨rfl, b3⟩
    have B3 := hide ((unhide B2).trans (b3.mono (unhide B2).size))
    clear b3
    go_wp2
    go_ret
    exact ⟨rfl, unhide B3⟩
  | true =>
  obtain ⟨⟨hl60, hls⟩, hq, ht⟩ := unhide HBF rfl
  rw [bs_size] at hq
  have HQ : Hid (q.length ≤ maxLen) := by show _ ≤ _; unfold maxLen; omega
  have HLS := hide hls
  rw [← unhide HN] at hl60
  clear HBF hls hq ht
  go_wp2_with fail
  refine (unhide HAW _).mono ?_
  rintro e w3 ⟨rfl, b3⟩
  have HT3 := hide ((unhide HT2).up b3)
  have B3 := hide ((unhide B2).trans (b3.mono (unhide B2).size))
  have H3 := hide ((b3.block _ (lt_of_block (unhide H2))).trans (unhide H2))
  clear b3 HT2 B2 H2 HAW
  go_wp2_with fail
  go_loopw [6] (fun iv wr => ∃ (i : Nat) (f : Names), i ≤ n ∧ iv = .int .i64 i ∧ TbAt wr b mb f i 5 ∧ Below w.heap.size w wr ∧ wr.heap[w.heap.size]? = some (.cells #[.string (bs q), .string t, .int .i64 ax, .int .i64 ay, .int .i64 K, .int .i64 now] 37 (0, 0))) (fun iv _ => n - (intOf iv).toNat)
  case atStart => exact ⟨0, _, by omega, rfl, unhide HT3, unhide B3, unhide H3⟩
  case round =>
    clear HT3 B3 H3
    obtain ⟨i, f, hi, rfl, hT, hB, hX⟩ := hrel
    have HT := hide hT
    have HB := hide hB
    have HX := hide hX
    clear hT hB hX
    by_cases hlt : i < n
    · have q1 : (i : Int) < n := by omega
      obtain ⟨p, hp⟩ : ∃ p, l[i]? = some p := ⟨_, List.getElem?_eq_getElem (by have := unhide HN; omega)⟩
      obtain ⟨g, o, rfl, hgl, hra⟩ := ((unhide HA).up (unhide HB)) i p hp
      have hnm : p.n.nm.length ≤ maxLen := Nat.le_trans (unhide HLS p (List.mem_of_getElem? hp)) (by unfold maxLen; omega)
      have HAN := hide (fun W (h : TbAt W b mb f i 5) => ann_tot b mb f i 5 p.nw p.n W h (by omega) hnm)
      obtain ⟨kd, nw, nm, nd, px, py, un⟩ := p
      have HRA := hide hra
      unfold Ta.cl at HRA
      unfold Nt.cl at HRA HAN
      dsimp only at HRA HAN
      clear hp hra hnm
      go_wp2_with fail
      refine wp_region_late 11 ?A1 (by kernel_rfl) (by kernel_rfl) (by kernel_rfl) ?lex1 ?_
      case lex1 =>
        intro X
        have hneX := gb_ne X.w
        have y1 : ∀ y : Gb X.w, y.w.cell? ⟨g, o + i * 7 + 1, none⟩ = some (.int .i64 nw) := fun y => gb_cell (cell_below ((unhide HRA) 1 _ rfl) X.ok) y
        have y2 : ∀ y : Gb X.w, y.w.cell? ⟨g, o + i * 7 + 2, none⟩ = some (.string (bs nm)) := fun y => gb_cell (cell_below ((unhide HRA) 2 _ rfl) X.ok) y
        have y3 : ∀ y : Gb X.w, y.w.cell? ⟨g, o + i * 7 + 2 + 1, none⟩ = some (.int .i64 nd) := fun y => gb_cell (cell_below ((unhide HRA) 3 _ rfl) X.ok) y
        have y4 : ∀ y : Gb X.w, y.w.cell? ⟨g, o + i * 7 + 2 + 2, none⟩ = some (.int .i64 px) := fun y => gb_cell (cell_below ((unhide HRA) 4 _ rfl) X.ok) y
        have y5 : ∀ y : Gb X.w, y.w.cell? ⟨g, o + i * 7 + 2 + 3, none⟩ = some (.int .i64 py) := fun y => gb_cell (cell_below ((unhide HRA) 5 _ rfl) X.ok) y
        have y6 : ∀ y : Gb X.w, y.w.cell? ⟨g, o + i * 7 + 2 + 4, none⟩ = some (.int .i64 un) := fun y => gb_cell (cell_below ((unhide HRA) 6 _ rfl) X.ok) y
        dsimp only [List.take_succ_cons, List.take_zero]
        repeat (go_big_quiet_step ((fail)))
        refine wpQuiet_nil ?_
        exact rfl
      intro w4 b4
      try simp only [List.drop_succ_cons, List.drop_zero]
      have HT4 := hide ((unhide HT).up b4)
      have HB4 := hide ((unhide HB).trans (b4.mono (unhide HB).size))
      have HX4 := hide ((b4.block _ (lt_of_block (unhide HX))).trans (unhide HX))
      clear b4 HT HB HX HRA
      go_wp2_with fail
      refine (unhide HAN _ (unhide HT4)).mono ?_
      rintro e w5 ⟨c5, rfl, ⟨f5, hT5⟩, hg5⟩
      have HT5 := hide hT5
      have HB5 := hide (below_tab (unhide HB4) hg5 (unhide HB4).size (unhide HB4).size (by have := unhide HMB; omega))
      have HX5 := hide ((hg5.block _ (lt_of_block (unhide HX4)) (fun e => by have := Option.some.inj e; have := unhide HMB; omega)).trans (unhide HX4))
      clear hT5 hg5 HT4 HB4 HX4 HAN
      go_wp2_with fail
      refine onlyN ?_
      go_wp2
      go_roundw
      case rel => exact ⟨i + 1, f5, by omega, by go_num, unhide HT5, unhide HB5, unhide HX5⟩
      case measure => simp [intOf]; omega
    · have q1 : ¬ (i : Int) < n := by omega
      have HFI := hide (fun W (h : TbAt W b mb f i 5) => find_any b mb f i 5 q ax ay K now W h (unhide HQ))
      have HND := hide (fun W (h : TbAt W b mb f i 5) => nodes_any b mb f i 5 q now W h (unhide HQ))
      have HOKF := hide (unhide HT).ok
      have HNO := hide (fun (h : fdE f q ax ay K now ≠ 0) => fd_no h)
      have HLE := hide (fun (h : fdE f q ax ay K now = 0) => fd_len h)
      have HFL := hide (fd_le (unhide HT).ok q ax ay K now)
      have HNL := hide (nd_len (unhide HT).ok q now)
      have HNR := hide (fun (h : fdE f q ax ay K now = 0) p r (hp : p ∈ ndF f q now) (hr : r ∈ ndF f q now) => fd_near (unhide HT).ok h hp hr)
      generalize fdE f q ax ay K now = E at *
      generalize fdL f q ax ay K now = FL at *
      generalize ndF f q now = L at *
      obtain ⟨⟨u0, u1, u2, u3, u4, u5⟩, ul⟩ := ask_cells (unhide HX)
      go_wp2_with fail
      refine (unhide HFI _ (unhide HT)).mono ?_
      rintro e w4 ⟨v4, rfl, hO4, b4⟩
      have HT4 := hide ((unhide HT).up b4)
      have HB4 := hide ((unhide HB).trans (b4.mono (unhide HB).size))
      have HX4 := hide ((b4.block _ (lt_of_block (unhide HX))).trans (unhide HX))
      obtain ⟨a4, c4, rfl, hI4, -, -⟩ := hO4.ints
      have HI4 := hide hI4
      clear b4 hO4 hI4 u0 u1 u2 u3 u4 u5 ul HT HB HX HFI
      obtain ⟨⟨u0, u1, u2, u3, u4, u5⟩, ul⟩ := ask_cells (unhide HX4)
      go_wp2_with fail
      refine (unhide HND _ (unhide HT4)).mono ?_
      rintro e w5 ⟨v5, rfl, h5⟩
      obtain ⟨a5, c5, rfl, hN5, -⟩ := h5.own.nts
      have HN5 := hide hN5
      have HI5 := hide ((unhide HI4).below h5.be)
      have HB5 := hide ((unhide HB4).trans (h5.be.mono (unhide HB4).size))
      have HX5 := hide ((h5.be.block _ (lt_of_block (unhide HX4))).trans (unhide HX4))
      clear h5 hN5 u0 u1 u2 u3 u4 u5 ul HT4 HI4 HB4 HX4 HND
      obtain ⟨⟨u0, u1, u2, u3, u4, u5⟩, ul⟩ := ask_cells (unhide HX5)
      by_cases hE : ¬ E = 0
      · have hz := unhide HNO hE
        subst hz
        have q2 : (E == 0) = false := by simpa using hE
        go_wp2
        go_ret
        exact ⟨rfl, unhide HB5⟩
      have hE := Decidable.not_not.1 hE
      subst hE
      have HLE2 := hide (unhide HLE rfl)
      have HNR2 := hide (unhide HNR rfl)
      have HRH := hide (fun a1 (n1 : Int) W (h : Ints W a1 FL) => rhas_any a1 FL c4 n1 W h (by have := unhide HFL; unfold maxLen; omega))
      have hnl := unhide HNL
      have hfl := unhide HFL
      clear HLE HNR HNO HNL HFL
      obtain ⟨m, hm⟩ : ∃ m, m = L.length := ⟨_, rfl⟩
      rw [← hm] at HLE2 hnl ⊢
      have HM := hide hm
      obtain ⟨z, hz⟩ : ∃ z, z = FL.length := ⟨_, rfl⟩
      rw [← hz] at HLE2 hfl HRH ⊢
      have hle := unhide HLE2
      clear hm hz
      go_wp2_with fail
      go_loopw [10] (fun iv wr => ∃ (i1 : Nat), i1 ≤ m ∧ iv = .int .i64 i1 ∧ Below w5.heap.size w5 wr) (fun iv _ => m - (intOf iv).toNat)
      case atStart => exact ⟨0, Nat.zero_le _, rfl, Below.refl _ _⟩
      case round =>
        obtain ⟨i1, hi1, rfl, hB1⟩ := hrel
        have HB1 := hide hB1
        clear hB1
        by_cases hlt1 : i1 < m
        · have q2 : (i1 : Int) < m := by omega
          obtain ⟨p, hp⟩ : ∃ p, L[i1]? = some p := ⟨_, List.getElem?_eq_getElem (by have := unhide HM; omega)⟩
          obtain ⟨g5, o5, rfl, hgl, hra⟩ := (unhide HN5) i1 p hp
          have HRA := hide hra
          have HPM := hide (List.mem_of_getElem? hp)
          obtain ⟨nm, nd, px, py, un⟩ := p
          unfold Nt.cl at HRA
          dsimp only at HRA
          clear hp hra
          go_wp2_with fail
          go_loopw [11] (fun jv wr => ∃ (j1 : Nat), j1 ≤ m ∧ jv = .int .i64 j1 ∧ Below w5.heap.size w5 wr) (fun jv _ => m - (intOf jv).toNat)
          case atStart => exact ⟨0, Nat.zero_le _, rfl, unhide HB1⟩
          case round =>
            clear HB1
            obtain ⟨j1, hj1, rfl, hB2⟩ := hrel
            have HB2 := hide hB2
            clear hB2
            by_cases hlt2 : j1 < m
            · have q3 : (j1 : Int) < m := by omega
              obtain ⟨p, hp⟩ : ∃ p, L[j1]? = some p := ⟨_, List.getElem?_eq_getElem (by have := unhide HM; omega)⟩
              obtain ⟨g6, o6, e6, hgl6, hrb⟩ := (unhide HN5) j1 p hp
              simp only [Option.some.injEq, Addr.mk.injEq, and_true] at e6
              obtain ⟨rfl, rfl⟩ := e6
              have HRB := hide hrb
              have HNX := hide (unhide HNR2 _ _ (unhide HPM) (List.mem_of_getElem? hp))
              obtain ⟨nm2, nd2, px2, py2, un2⟩ := p
              unfold Nt.cl at HRB
              dsimp only at HRB HNX
              have HR1 : Hid (∀ X : Gb wr, Calls Try.prog 13 #[.slice a4 z c4, .int .i64 nd] X.w fun e w' => e = .returned (.bool (hasI FL nd)) ∧ X.w = w') := fun X => (unhide HRH) a4 nd X.w ((unhide HI5).below ((unhide HB2).trans (X.ok.mono (unhide HB2).size)))
              have HR2 : Hid (∀ X : Gb wr, Calls Try.prog 13 #[.slice a4 z c4, .int .i64 nd2] X.w fun e w' => e = .returned (.bool (hasI FL nd2)) ∧ X.w = w') := fun X => (unhide HRH) a4 nd2 X.w ((unhide HI5).below ((unhide HB2).trans (X.ok.mono (unhide HB2).size)))
              have HD1 := hide (fun W => ddist_any ax ay px py W)
              have HD2 := hide (fun W => ddist_any ax ay px2 py2 W)
              generalize hasI FL nd = I1 at *
              generalize hasI FL nd2 = I2 at *
              generalize distA ax ay px py = D1 at *
              generalize distA ax ay px2 py2 = D2 at *
              clear hp hrb
              have hneX := gb_ne wr
              have x2 : ∀ y : Gb wr, y.w.cell? ⟨w.heap.size, 2, none⟩ = some (.int .i64 ax) := fun y => gb_cell (cell_below u2 (unhide HB2)) y
              have x3 : ∀ y : Gb wr, y.w.cell? ⟨w.heap.size, 3, none⟩ = some (.int .i64 ay) := fun y => gb_cell (cell_below u3 (unhide HB2)) y
              have y1 : ∀ y : Gb wr, y.w.cell? ⟨g5, o5 + i1 * 5 + 1, none⟩ = some (.int .i64 nd) := fun y => gb_cell (cell_below ((unhide HRA) 1 _ rfl) (unhide HB2)) y
              have y2 : ∀ y : Gb wr, y.w.cell? ⟨g5, o5 + i1 * 5 + 2, none⟩ = some (.int .i64 px) := fun y => gb_cell (cell_below ((unhide HRA) 2 _ rfl) (unhide HB2)) y
              have y3 : ∀ y : Gb wr, y.w.cell? ⟨g5, o5 + i1 * 5 + 2 + 1, none⟩ = some (.int .i64 py) := fun y => gb_cell (cell_below ((unhide HRA) 3 _ rfl) (unhide HB2)) y
              have z1 : ∀ y : Gb wr, y.w.cell? ⟨g5, o5 + j1 * 5 + 1, none⟩ = some (.int .i64 nd2) := fun y => gb_cell (cell_below ((unhide HRB) 1 _ rfl) (unhide HB2)) y
              have z2 : ∀ y : Gb wr, y.w.cell? ⟨g5, o5 + j1 * 5 + 2, none⟩ = some (.int .i64 px2) := fun y => gb_cell (cell_below ((unhide HRB) 2 _ rfl) (unhide HB2)) y
              have z3 : ∀ y : Gb wr, y.w.cell? ⟨g5, o5 + j1 * 5 + 2 + 1, none⟩ = some (.int .i64 py2) := fun y => gb_cell (cell_below ((unhide HRB) 3 _ rfl) (unhide HB2)) y
              unfold rv at *
              cases I1 with
              | false =>
                go_wp2_with fail
                refine wp_region_grB (by kernel_rfl) (by kernel_rfl) ?_
                repeat (go_big_quiet_step ((go_at_call 13; exact gb_same (unhide HR1 _))))
                refine wpQuiet_nil ?_
                rintro w7 ⟨⟨_, b7⟩, rfl⟩
                have HB7 := hide ((unhide HB2).trans (b7.mono (unhide HB2).size))
                clear b7 hneX x2 x3 y1 y2 y3 z1 z2 z3
                go_wp2
                go_roundw
                case rel => exact ⟨j1 + 1, by omega, by go_num, unhide HB7⟩
                case measure => simp [intOf]; omega
              | true =>
              cases I2 with
              | true =>
                go_wp2_with fail
                refine wp_region_grB (by kernel_rfl) (by kernel_rfl) ?_
                iterate 7 (go_big_quiet_step ((go_at_call 13; exact gb_same (unhide HR1 _))))
                repeat (go_big_quiet_step ((go_at_call 13; exact gb_same (unhide HR2 _))))
                refine wpQuiet_nil ?_
                rintro w7 ⟨⟨_, b7⟩, rfl⟩
                have HB7 := hide ((unhide HB2).trans (b7.mono (unhide HB2).size))
                clear b7 hneX x2 x3 y1 y2 y3 z1 z2 z3
                go_wp2
                go_roundw
                case rel => exact ⟨j1 + 1, by omega, by go_num, unhide HB7⟩
                case measure => simp [intOf]; omega
              | false =>
                have hnx := unhide HNX rfl rfl
                have hdx : decide (D2 < D1) = false := decide_eq_false (by omega)
                go_wp2_with fail
                refine wp_region_grB (by kernel_rfl) (by kernel_rfl) ?_
                iterate 7 (go_big_quiet_step ((go_at_call 13; exact gb_same (unhide HR1 _))))
                iterate 8 (go_big_quiet_step ((go_at_call 13; exact gb_same (unhide HR2 _))))
                iterate 11 (go_big_quiet_step ((go_at_call 14; exact gb_call (unhide HD2 _))))
                repeat (go_big_quiet_step ((go_at_call 14; exact gb_call (unhide HD1 _))))
                refine wpQuiet_nil ?_
                rintro w7 ⟨⟨_, b7⟩, rfl⟩
                have HB7 := hide ((unhide HB2).trans (b7.mono (unhide HB2).size))
                clear b7 hneX x2 x3 y1 y2 y3 z1 z2 z3
                go_wp2
                go_roundw
                case rel => exact ⟨j1 + 1, by omega, by go_num, unhide HB7⟩
                case measure => simp [intOf]; omega
            · have hjm : j1 = m := by omega
              have q3 : ¬ (j1 : Int) < m := by omega
              go_wp2
              go_roundw
              case rel => exact ⟨i1 + 1, by omega, by go_num, unhide HB2⟩
              case measure => simp [intOf]; omega
        · have q2 : ¬ (i1 : Int) < m := by omega
          have HB6 := hide ((unhide HB5).trans ((unhide HB1).mono (unhide HB5).size))
          go_wp2
          go_ret
          exact ⟨rfl, unhide HB6⟩
end Go.Proofs.Ytjdphcjapdklpaa

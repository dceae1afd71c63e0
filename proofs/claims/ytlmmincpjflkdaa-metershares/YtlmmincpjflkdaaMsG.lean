/- meter: the document's Turn. -/
import Derived.Test.YtlmmincpjflkdaaMsF
namespace Go.Proofs.Ytlmmincpjflkdaa
open Go.RowKit
set_option linter.unusedVariables false
attribute [local go_sem] Oper.semAt_some

structure DOk (x : Dr) : Prop where
  w : 0 ≤ x.w ∧ x.w ≤ 16
  c : 0 ≤ x.c ∧ x.c ≤ 16777216
  n : x.l.length ≤ 100
  s : ∀ y ∈ x.l, 1 ≤ y ∧ y ≤ 65536
theorem ownSn_le {w : World} {B B' : Nat} {v : Value} {l : List (Int × Int)} (h : OwnSn w B v l) (hb : B' ≤ B) : OwnSn w B' v l := by
  have h := show World.ownsRow _ _ _ _ _ _ _ from h
  refine ⟨h.1, ?_⟩
  rcases h.2 with h2 | ⟨g, cap, cur, h1, h2, h3⟩
  · exact .inl h2
  · exact .inr ⟨g, cap, cur, h1, Nat.le_trans hb h2, h3⟩
theorem turned3 (w : World) (Q : Int) (a0 : Option Addr) (n c : Nat) (W0 : World) (hW0 : W0 = ((w.alloc (.cells #[.int .i64 Q, .slice a0 n c] 28)).alloc (.cells #[.int .i64 0, .slice none 0 0, .slice none 0 0, .int .i64 0] 37)).alloc (.cells #[.int .i64 Q, .slice a0 n c, .slice none 0 0, .int .i64 4] 37)) (D : List Dr) (hn : n = D.length) (hA : DrsAt w a0 D) : TS w Q a0 n c D [] 4 W0 := by
  have e1 : (w.alloc (.cells #[.int .i64 Q, .slice a0 n c] 28)).heap.size = w.heap.size + 1 := by simp
  have e2 : ((w.alloc (.cells #[.int .i64 Q, .slice a0 n c] 28)).alloc (.cells #[.int .i64 0, .slice none 0 0, .slice none 0 0, .int .i64 0] 37)).heap.size = w.heap.size + 2 := by simp
  have hb : Below w.heap.size w W0 := by rw [hW0]; exact (((Below.refl _ _).alloc (Nat.le_refl _) _).alloc (by simp) _).alloc (by simp; omega) _
  refine ⟨hb, ?_, ?_, a0, c, .slice none 0 0, ?_, hA.up hb, World.ownsRow_nil _ _ _ _⟩
  · rw [hW0, Below.heap_alloc _ _ _ (by simp; omega), Below.heap_alloc _ _ _ (by simp)]
    exact heap_alloc_new _ _
  · rw [hW0, Below.heap_alloc _ _ _ (by simp)]
    have := heap_alloc_new (w.alloc (.cells #[.int .i64 Q, .slice a0 n c] 28)) (.cells #[.int .i64 0, .slice none 0 0, .slice none 0 0, .int .i64 0] 37)
    rwa [e1] at this
  · rw [hW0, ← hn]
    have := heap_alloc_new ((w.alloc (.cells #[.int .i64 Q, .slice a0 n c] 28)).alloc (.cells #[.int .i64 0, .slice none 0 0, .slice none 0 0, .int .i64 0] 37)) (.cells #[.int .i64 Q, .slice a0 n c, .slice none 0 0, .int .i64 4] 37)
    rwa [e2] at this
theorem tS_no {D : List Dr} {Q : Int} {i : Nat} {x : Dr} (hx : D[i]? = some x) (hl : x.l = []) : tS D Q (i + 1) = tS D Q i ∧ tN D Q (i + 1) = tN D Q i ∧ tE D (i + 1) = tE D i := by
  refine ⟨?_, ?_, ?_⟩
  · rw [tS, hx]; dsimp only; rw [if_pos hl]
  · rw [tN, hx]; dsimp only; rw [if_pos hl]
  · rw [tE, hx]; dsimp only; rw [if_pos hl]
theorem tS_yes {D : List Dr} {Q : Int} {i : Nat} {x : Dr} (hx : D[i]? = some x) (hl : ¬ x.l = []) : tS D Q (i + 1) = withD (tS D Q i) (tqD x Q) ∧ tN D Q (i + 1) = tN D Q i ++ ((x.l.take (tn (crD x Q) x.l)).map fun s => (x.p, s)) ∧ tE D (i + 1) = 0 := by
  refine ⟨?_, ?_, ?_⟩
  · rw [tS, hx]; dsimp only; rw [if_neg hl]
  · rw [tN, hx]; dsimp only; rw [if_neg hl]
  · rw [tE, hx]; dsimp only; rw [if_neg hl]
theorem tN_len {D : List Dr} (Q : Int) (h : ∀ x ∈ D, x.l.length ≤ 100) : ∀ i, (tN D Q i).length ≤ i * 100
  | 0 => by simp [tN]
  | i + 1 => by
    have ih := tN_len Q h i
    unfold tN
    split
    · rename_i x hx
      have := h x (List.mem_of_getElem? hx)
      split
      · omega
      · rw [List.length_append, List.length_map, List.length_take]
        omega
    · omega
set_option maxRecDepth 100000 in
set_option maxHeartbeats 16000000 in
theorem dturn_any (Q : Int) (a0 : Option Addr) (D : List Dr) (c : Nat) (w : World) (hA : DrsAt w a0 D) (hQ : 1 ≤ Q ∧ Q ≤ 65536) (hl : D.length ≤ 16) (hok : ∀ x ∈ D, DOk x) :
    Calls Try.prog 10 #[shV Q a0 D.length c] w fun e w' => ∃ a c' v, e = .returned (.agg #[.int .i64 Q, .slice a (tS D Q D.length).length c', v, .int .i64 (tE D D.length)]) ∧ DrsAt w' a (tS D Q D.length) ∧ OwnSn w' w.heap.size v (tN D Q D.length) ∧ Below w.heap.size w w' := by
  obtain ⟨i0, hi, hz0, hz1, hz2⟩ := info_parts Try.infoSn
  have HNO := hide (fun i x (hx : D[i]? = some x) (hl : x.l = []) => tS_no (Q := Q) hx hl)
  have HYE := hide (fun i x (hx : D[i]? = some x) (hl : ¬ x.l = []) => tS_yes (Q := Q) hx hl)
  have HSL := hide (fun i => tS_len D Q i)
  have HNL := hide (fun i => tN_len Q (fun x hx => (hok x hx).n) i)
  have H0 : Hid (tS D Q 0 = D ∧ tN D Q 0 = [] ∧ tE D 0 = 4) := ⟨rfl, rfl, rfl⟩
  obtain ⟨FS, hFS⟩ : ∃ f, f = tS D Q := ⟨_, rfl⟩
  obtain ⟨FN, hFN⟩ : ∃ f, f = tN D Q := ⟨_, rfl⟩
  obtain ⟨FE, hFE⟩ : ∃ f, f = tE D := ⟨_, rfl⟩
  rw [← hFS] at HSL H0 ⊢
  rw [← hFN] at HNL H0 ⊢
  rw [← hFE] at H0 ⊢
  rw [← hFS, ← hFN, ← hFE] at HNO HYE
  clear hFS hFN hFE
  obtain ⟨n, hn⟩ : ∃ n, n = D.length := ⟨_, rfl⟩
  rw [← hn] at hl ⊢
  obtain ⟨W0, hW0⟩ : ∃ W0, W0 = ((w.alloc (.cells #[.int .i64 Q, .slice a0 n c] 28)).alloc (.cells #[.int .i64 0, .slice none 0 0, .slice none 0 0, .int .i64 0] 37)).alloc (.cells #[.int .i64 Q, .slice a0 n c, .slice none 0 0, .int .i64 4] 37) := ⟨_, rfl⟩
  have HTS := hide (turned3 w Q a0 n c W0 hW0 D hn hA)
  have HW := hide hW0
  have HA := hide hA
  have HN := hide hn
  have HOK := hide hok
  clear hA hn hok hW0
  go_enter Try.func10, Try.ntmps10
  go_wp2_with fail
  rw [← unhide HW]
  clear HW
  go_loopw [4] (fun iv wr => ∃ i : Nat, i ≤ n ∧ iv = .int .i64 i ∧ TS w Q a0 n c (FS i) (FN i) (FE i) wr) (fun iv _ => n - (intOf iv).toNat)
  case atStart => exact ⟨0, by omega, rfl, by obtain ⟨h1, h2, h3⟩ := unhide H0; rw [h1, h2, h3]; exact unhide HTS⟩
  case round =>
    clear HTS
    obtain ⟨i, hin, rfl, hT⟩ := hrel
    have HT := hide hT
    obtain ⟨⟨u0, u1⟩, -, ul⟩ := row2 hT.s
    clear hT
    by_cases hlt : i < n
    · have q1 : (i : Int) < n := by omega
      obtain ⟨x, hx⟩ : ∃ x, D[i]? = some x := ⟨_, List.getElem?_eq_getElem (by have := unhide HN; omega)⟩
      have hxm := List.mem_of_getElem? hx
      obtain ⟨⟨g, o, rfl, hgl, hra⟩, hvo, -⟩ := ((unhide HA).up (unhide HT).be) i x hx
      have HXO := hide (unhide HOK x hxm)
      have HVO := hide hvo
      obtain ⟨aS, cS, v, hDS, hTI⟩ := (unhide HT).start (x := x)
      have HDS := hide hDS
      have HTI := hide hTI
      have HX := hide hx
      have hra4 : wr.rangeAt g (o + i * 4) [.int .i64 x.p, .int .i64 x.w, .int .i64 x.c, .slice x.a x.l.length x.k] := hra
      have HRA := hide hra4
      clear hra hra4 hvo hDS hTI hx hxm
      by_cases hxl : x.l = []
      · obtain ⟨n1, n2, n3⟩ := unhide HNO i x (unhide HX) hxl
        have HN1 := hide n1
        have HN2 := hide n2
        have HN3 := hide n3
        have hz : x.l.length = 0 := by rw [hxl]; rfl
        rw [hz] at HRA HTI
        have HTW : Hid (TS w Q (some ⟨g, o, none⟩) n c (FS i) (FN i) (FE i) (wr.alloc (.cells #[.int .i64 x.p, .int .i64 x.w, .int .i64 x.c, .slice x.a 0 x.k] 45))) := by
          have t := unhide HTI
          have hb : Below wr.heap.size wr (wr.alloc (.cells #[.int .i64 x.p, .int .i64 x.w, .int .i64 x.c, .slice x.a 0 x.k] 45)) := (Below.refl _ _).alloc (Nat.le_refl _) _
          obtain ⟨aS, cS, v, h1, h2, h3⟩ := (unhide HT).o
          exact ⟨t.be, t.s, t.r, aS, cS, v, (hb.block _ (lt_of_block h1)).trans h1, h2.up hb, ownSn_up h3 hb⟩
        clear hz HX HXO HVO HDS HTI HT
        generalize x.p = xp at *
        generalize x.w = xw at *
        generalize x.c = xc at *
        generalize x.a = xa at *
        generalize x.k = xk at *
        go_wp2_with (refine wpList_load_mid rfl 45 (.tmp 19) rfl g (o + i * 4) rfl [.int .i64 xp, .int .i64 xw, .int .i64 xc, .slice xa 0 xk] _ (unhide HRA) Try.underlying45 rfl (by kernel_rfl) ?_)
        go_roundw
        case rel => exact ⟨i + 1, by omega, by go_num, by rw [unhide HN1, unhide HN2, unhide HN3]; exact unhide HTW⟩
        case measure => simp [intOf]; omega
      · obtain ⟨y1, y2, y3⟩ := unhide HYE i x (unhide HX) hxl
        have HY1 := hide y1
        have HY2 := hide y2
        have HY3 := hide y3
        have hzp : 0 < x.l.length := List.length_pos_iff.2 hxl
        clear y1 y2 y3 HX hxl
        have HAX : Hid (∃ ga oa, x.a = some ⟨ga, oa, none⟩) := by
          obtain ⟨ga, oa, e, _⟩ := (unhide HVO).ints 0 hzp
          exact ⟨ga, oa, e⟩
        obtain ⟨xp, xw, xc, xl, xa, xk⟩ := x
        dsimp only at HRA HTI HAX HY1 HY2 HY3 hzp
        obtain ⟨ga, oa, rfl⟩ := unhide HAX
        obtain ⟨z, hz⟩ : ∃ z, z = xl.length := ⟨_, rfl⟩
        rw [← hz] at HRA HTI hzp
        have HZ := hide hz
        obtain ⟨⟨w1, w2⟩, ⟨c1, c2⟩, hlz, hsz⟩ := unhide HXO
        dsimp only at w1 w2 c1 c2 hlz hsz
        rw [← hz] at hlz
        have hkl : z ≤ xk := by rw [hz]; exact (unhide HVO).le
        have hmul : 0 ≤ xw * Q ∧ xw * Q ≤ 1048576 := by
          obtain ⟨hq1, hq2⟩ := hQ
          constructor
          · exact Int.mul_nonneg w1 (by omega)
          · have := Int.mul_le_mul w2 hq2 (by omega) (by omega)
            omega
        have HSZ := hide hsz
        clear hz hsz HAX HT
        have q0 : ((z : Int) == 0) = false := by have h9 : ¬ (z : Int) = 0 := by omega
                                                 simpa using h9
        have hTI := unhide HTI
        have hTE := hTI.setE 0
        have hC0 := hTE.setC (xc + xw * Q)
        have hC1 := hC0.setC 16777216
        have t2 : w.heap.size + 2 = w.heap.size + 1 + 1 := rfl
        obtain ⟨⟨_, _⟩, _, r0, r1, r2, r3⟩ := hTI.cells
        have rf := (row4 hTI.o).2.1 3
        have rl := (row4 hTI.o).2.2
        rw [t2] at r3 rf rl
        clear r0 r1 r2
        have HQF := hide (row4 hTI.q)
        obtain ⟨X0, hX0⟩ : ∃ X, wr.alloc (.cells #[.int .i64 xp, .int .i64 xw, .int .i64 xc, .slice (some ⟨ga, oa, none⟩) z xk] 45) = X := ⟨_, rfl⟩
        rw [hX0] at hTI hTE hC0 hC1 r3 rf rl
        obtain ⟨W1, hW1⟩ : ∃ W, X0.setCell ⟨w.heap.size + 2, 3, none⟩ (.int .i64 0) = W := ⟨_, rfl⟩
        rw [hW1] at hTE hC0 hC1
        rw [t2] at hW1
        obtain ⟨W2, hW2⟩ : ∃ W, W1.setCell ⟨wr.heap.size, 2, none⟩ (.int .i64 (xc + xw * Q)) = W := ⟨_, rfl⟩
        rw [hW2] at hC0 hC1
        obtain ⟨W3, hW3⟩ : ∃ W, W2.setCell ⟨wr.heap.size, 2, none⟩ (.int .i64 16777216) = W := ⟨_, rfl⟩
        rw [hW3] at hC1
        obtain ⟨⟨s0, s1, s2, s3⟩, sf, sl⟩ := row4 hTE.q
        have sf2 := sf 2
        obtain ⟨⟨v0, v1⟩, -, vl⟩ := row2 hTE.s
        obtain ⟨⟨p0, p1, p2, p3⟩, pf, pl⟩ := row4 hC0.q
        have pf2 := pf 2
        obtain ⟨⟨o0, o1, o2, o3⟩, of, ol⟩ := row4 hTI.q
        have hcr : crD ⟨xp, xw, xc, xl, some ⟨ga, oa, none⟩, xk⟩ Q = min (xc + xw * Q) 16777216 := rfl
        have HCR := hide hcr
        have HC0 := hide hC0
        have HC1 := hide hC1
        have HKW := hide hTI.kq
        clear hcr hC0 hC1 hTE hTI HTI sf pf of HQF
        obtain ⟨CR, hCR⟩ : ∃ C, C = crD ⟨xp, xw, xc, xl, some ⟨ga, oa, none⟩, xk⟩ Q := ⟨_, rfl⟩
        rw [← hCR] at HCR HY2
        have HCRE := hide hCR
        clear hCR
        by_cases hcap : 16777216 < xc + xw * Q
        · have hcc : CR = 16777216 := (unhide HCR).trans (by omega)
          have HTC := HC1
          rw [← hcc] at HTC
          clear HC0 HC1 HCR
          have HCC := hide hcc
          clear hcc
          have hcc2 := unhide HCC
          go_wp2_with (refine wpList_load_mid rfl 45 (.tmp 19) rfl g (o + i * 4) rfl [.int .i64 xp, .int .i64 xw, .int .i64 xc, .slice (some ⟨ga, oa, none⟩) z xk] _ (unhide HRA) Try.underlying45 rfl (by kernel_rfl) ?_)
          obtain ⟨q5, hq5⟩ : ∃ q, q = wr.heap.size := ⟨_, rfl⟩
          rw [← hq5] at HTC ⊢
          have HQ5 := hide hq5
          clear hq5 hW1 hW2 hW3 hX0 s0 s1 s2 s3 sf2 sl v0 v1 vl p0 p1 p2 p3 pf2 pl o0 o1 o2 o3 ol r3 rf rl u0 u1 ul HRA hgl HKW
          generalize W3 = W9 at *
          generalize wr = w0 at *
          go_loopw [6] (fun kv wr => ∃ (k : Nat) (ck : Int) (vv : Value), k ≤ z ∧ kv = .int .i64 k ∧ (0 ≤ ck ∧ ck ≤ 16777216) ∧ tn CR xl = k + tn ck (xl.drop k) ∧ tc CR xl = tc ck (xl.drop k) ∧ TI w w0 Q (some ⟨g, o, none⟩) n c aS (FS i).length cS q5 xp xw (some ⟨ga, oa, none⟩) z xk ck vv (FN i ++ (xl.take k).map fun s => (xp, s)) 0 wr) (fun kv _ => z - (intOf kv).toNat)
          case atStart => exact ⟨0, CR, v, by omega, rfl, by omega, by rw [List.drop_zero, Nat.zero_add], by rw [List.drop_zero], by rw [List.take_zero, List.map_nil, List.append_nil]; exact unhide HTC⟩
          case round =>
            clear HTC
            obtain ⟨k, ck, vv, hkz, rfl, hck, htn, htc, hT⟩ := hrel
            have HTN := hide htn
            have HTQ := hide htc
            have HT := hide hT
            obtain ⟨⟨s0, s1⟩, ⟨c0, c1x, c2x, c3⟩, ⟨o0, o1, o2, o3⟩⟩ := hT.cells
            clear hT htn htc
            by_cases hlk : k < z
            · have q2 : (k : Int) < z := by omega
              have hkl : k < xl.length := by rw [← unhide HZ]; exact hlk
              have hcell : wr.cell? ⟨ga, oa + k, none⟩ = some (.int .i64 xl[k]) := by
                obtain ⟨g9, o9, e9, h9⟩ := ((unhide HVO).keepQ (unhide HT).kq).ints k hkl
                cases e9
                exact h9
              have hyb := unhide HSZ _ (List.getElem_mem hkl)
              have HT1 := hide (fun (h : xl[k] ≤ ck) => tn_at hkl rfl h)
              have HT0 := hide (fun (h : ¬ xl[k] ≤ ck) => tn_no hkl rfl h)
              have HTK : Hid ((xl.take (k + 1)).map (fun s => (xp, s)) = (xl.take k).map (fun s => (xp, s)) ++ [(xp, xl[k])]) := by
                show _ = _
                rw [List.take_succ_eq_append_getElem hkl, List.map_append]
                rfl
              generalize xl[k] = y at *
              by_cases hy : y ≤ ck
              · have hy2 : decide (y ≤ ck) = true := decide_eq_true hy
                obtain ⟨t1, t2⟩ := unhide HT1 hy
                have HTN2 : Hid (tn CR xl = (k + 1) + tn (ck - y) (xl.drop (k + 1))) := by show _ = _; rw [unhide HTN, t1]; omega
                have HTQ2 : Hid (tc CR xl = tc (ck - y) (xl.drop (k + 1))) := (unhide HTQ).trans t2
                have HC : Hid (wr.cell? ⟨ga, oa + k, none⟩ = some (.int .i64 y)) := hcell
                clear t1 t2 HT1 HT0 HTN HTQ hcell
                go_wp2_with fail
                refine wp_region_grB (by kernel_rfl) (by kernel_rfl) ?_
                have hneX := gb_ne wr
                have f1 : ∀ y9 : Gb wr, y9.w.cell? ⟨q5, 2, none⟩ = some (.int .i64 ck) := fun y9 => gb_cell (unhide HT).cells.2.1.2.2.1 y9
                have f2 : ∀ y9 : Gb wr, y9.w.cell? ⟨q5, 3, none⟩ = some (.slice (some ⟨ga, oa, none⟩) z xk) := fun y9 => gb_cell (unhide HT).cells.2.1.2.2.2 y9
                have f3 : ∀ y9 : Gb wr, y9.w.cell? ⟨ga, oa + k, none⟩ = some (.int .i64 y) := fun y9 => gb_cell (unhide HC) y9
                repeat (go_big_quiet_step (fail))
                refine wpQuiet_nil ?_
                rintro w4 ⟨⟨_, b4⟩, rfl⟩
                have HT4 := hide ((unhide HT).up b4)
                have HC4 := hide (cell_below (unhide HC) b4)
                clear b4 hneX f1 f2 f3 HT HC s0 s1 c0 c1x c2x c3 o0 o1 o2 o3
                go_wp2_with fail
                refine wp_region_late 9 ?A13a (by kernel_rfl) (by kernel_rfl) (by kernel_rfl) ?lex13a ?_
                case lex13a =>
                  intro X
                  have hneX := gb_ne X.w
                  have f1 : ∀ y9 : Gb X.w, y9.w.cell? ⟨q5, 2, none⟩ = some (.int .i64 ck) := fun y9 => gb_cell (cell_below (unhide HT4).cells.2.1.2.2.1 X.ok) y9
                  have f2 : ∀ y9 : Gb X.w, y9.w.cell? ⟨q5, 3, none⟩ = some (.slice (some ⟨ga, oa, none⟩) z xk) := fun y9 => gb_cell (cell_below (unhide HT4).cells.2.1.2.2.2 X.ok) y9
                  have f3 : ∀ y9 : Gb X.w, y9.w.cell? ⟨ga, oa + k, none⟩ = some (.int .i64 y) := fun y9 => gb_cell (cell_below (unhide HC4) X.ok) y9
                  dsimp only [List.take_succ_cons, List.take_zero]
                  repeat (go_big_quiet_step (fail))
                  refine wpQuiet_nil ?_
                  exact rfl
                intro w5 b5
                try simp only [List.drop_succ_cons, List.drop_zero]
                have hT5 := (unhide HT4).up b5
                have HC5 := hide (cell_below (unhide HC4) b5)
                have HT6 := hide (hT5.setC (ck - y))
                obtain ⟨⟨c0, c1x, c2x, c3⟩, cf, cl⟩ := row4 hT5.q
                have cf2 := cf 2
                have HCE : Hid ((w5.setCell ⟨q5, 2, none⟩ (.int .i64 (ck - y))).cell? ⟨ga, oa + k, none⟩ = some (.int .i64 y)) := by
                  refine (World.cell?_setCell_other _ _ _ _ (fun e => ?_)).trans (unhide HC5)
                  have e := congrArg Addr.block e
                  have e : q5 = ga := e
                  obtain ⟨cs9, fr9, h9⟩ := (((unhide HVO).keepQ (unhide HT4).kq).up b5).ty ⟨ga, oa, none⟩ rfl
                  have h8 := hT5.q
                  rw [e] at h8
                  rw [h8] at h9
                  simp at h9
                obtain ⟨W6, hW6⟩ : ∃ W, w5.setCell ⟨q5, 2, none⟩ (.int .i64 (ck - y)) = W := ⟨_, rfl⟩
                rw [hW6] at HT6 HCE
                clear b5 hT5 HC5 HC4 HT4 cf
                go_wp2_with fail
                refine onlyN ?_
                go_wp2_with fail
                clear hW6 c0 c1x c2x c3 cf2 cl
                refine wp_region_eff [false, false, false, false, false, false, false, false, false, false, true, true, false, true] [12] 10 ?A14a _ _ (by kernel_rfl) (by kernel_rfl) rfl ?lex14a ?free14a ?_
                case lex14a =>
                  intro X
                  have hneX := gb_ne X.w
                  have f0 : ∀ y9 : Gb X.w, y9.w.cell? ⟨w.heap.size + 1 + 1, 2, none⟩ = some vv := fun y9 => gb_cell (cell_below (unhide HT6).cells.2.2.2.2.1 X.ok) y9
                  have f1 : ∀ y9 : Gb X.w, y9.w.cell? ⟨q5, 0, none⟩ = some (.int .i64 xp) := fun y9 => gb_cell (cell_below (unhide HT6).cells.2.1.1 X.ok) y9
                  have f2 : ∀ y9 : Gb X.w, y9.w.cell? ⟨q5, 3, none⟩ = some (.slice (some ⟨ga, oa, none⟩) z xk) := fun y9 => gb_cell (cell_below (unhide HT6).cells.2.1.2.2.2 X.ok) y9
                  have f3 : ∀ y9 : Gb X.w, y9.w.cell? ⟨ga, oa + k, none⟩ = some (.int .i64 y) := fun y9 => gb_cell (cell_below (unhide HCE) X.ok) y9
                  dsimp only [restM]
                  repeat (go_big_quiet_step (fail))
                  refine wpQuiet_nil ?_
                  exact rfl
                case free14a =>
                  intro j hj o ho W
                  simp only [List.mem_cons, List.not_mem_nil, or_false] at hj
                  subst hj
                  simp only [List.getElem?_cons_succ, List.getElem?_cons_zero, Option.some.injEq] at ho
                  subst ho
                  go_big_quiet_step (fail)
                  refine wpQuiet_nil ?_
                  exact rfl
                intro w7 b7
                have hT7 := (unhide HT6).up b7
                have hv7 := hT7.v
                have HT7 := hide hT7
                obtain ⟨SN, hSN⟩ : ∃ S, S = FN i ++ (xl.take k).map (fun s => (xp, s)) := ⟨_, rfl⟩
                rw [← hSN] at hv7 HT7
                have hsl : SN.length ≤ 2000 := by
                  rw [hSN, List.length_append, List.length_map, List.length_take]
                  have := unhide HNL i
                  omega
                have HSE : Hid (FN i ++ (xl.take (k + 1)).map (fun s => (xp, s)) = SN ++ [(xp, y)]) := by
                  show _ = _
                  rw [unhide HTK, hSN, List.append_assoc]
                obtain ⟨av, cv, rfl⟩ := ownSn_shape hv7
                obtain ⟨sn, hsn⟩ : ∃ s, s = SN.length := ⟨_, rfl⟩
                rw [← hsn] at hsl HT7 hv7 ⊢
                have HSN := hide hsn
                have HP : Hid (∀ o1, (w7.alloc o1).ownsRow (w.heap.size + 3) 61 2 (.slice av sn cv) sn (stC SN)) := fun o1 => by
                  have h1 := ownSn_up hv7 ((Below.refl w7.heap.size w7).alloc (Nat.le_refl _) o1)
                  unfold OwnSn at h1
                  rw [← hsn] at h1
                  exact h1
                have hNW := hide (news_lit w7 [.int .i64 xp, .int .i64 y] 61)
                have hlo7 : w.heap.size + 3 ≤ w7.heap.size := by
                  have h1 := (unhide HT7).lo
                  have h2 := (unhide HT7).kq.size
                  omega
                clear b7 hT7 hv7 hSN hsn HT6 HCE HTK
                go_wp2_with fail
                refine onlyN ⟨(Below.refl _ _).alloc (Nat.le_refl _) _, ?_⟩
                dsimp only [effM]
                go_wp2_with (at_builtin; refine wpList_append_lies _ rfl _ _ 35 rfl (w.heap.size + 3) 61 i0 (.agg #[.int .i64 0, .int .i64 0]) 2 16 Try.undSn hi hz0 hz1 hz2 rfl (by decide) (.slice av sn cv) sn _ rfl (unhide HP _) ⟨w7.heap.size, 0, none⟩ 1 1 [.int .i64 xp, .int .i64 y] rfl rfl (unhide hNW) (by intro u hu; simp at hu; rcases hu with rfl | rfl <;> rfl) (by decide) (by unfold maxLen; omega) (by omega) (by simp; omega) (w7.heap.size + 1) (by simp) ?_)
                intro g8 cap8 w8 hown hgrow hat hlt8
                have hgr : w7.grownBy w8 (Value.slice av sn cv).ownBlock := ⟨hgrow.os, hgrow.tape, hgrow.output, by have := hgrow.size; simp at this; omega, fun k9 hk9 hn9 => (hgrow.block k9 (by simp; omega) hn9).trans (Below.heap_alloc _ _ _ hk9)⟩
                have HV8 : Hid (OwnSn w8 (w.heap.size + 3) (.slice (some ⟨g8, 0, none⟩) (sn + 1) cap8) (SN ++ [(xp, y)])) := by
                  show OwnSn _ _ _ _
                  unfold OwnSn
                  rw [stC_append, List.length_append, ← unhide HSN]
                  exact hown
                have HT8 := hide ((unhide HT7).setV hgr (unhide HV8))
                have hob : w8.heap[w.heap.size + 2]? = _ := (hgr.block _ (lt_of_block (unhide HT7).o) (fun e => by
                  obtain ⟨_, cs9, h9⟩ := ownSn_ge (unhide HT7).v e.symm
                  rw [(unhide HT7).o] at h9
                  simp at h9)).trans (unhide HT7).o
                obtain ⟨⟨r0, r1, r2, r3⟩, rf, rl⟩ := row4 hob
                have rf2 := rf 2
                have t2 : w.heap.size + 2 = w.heap.size + 1 + 1 := rfl
                rw [t2] at r2 rf2 rl HT8
                obtain ⟨W9, hW9⟩ : ∃ W, w8.setCell ⟨w.heap.size + 1 + 1, 2, none⟩ (.slice (some ⟨g8, 0, none⟩) (sn + 1) cap8) = W := ⟨_, rfl⟩
                rw [hW9] at HT8
                rw [← unhide HSE] at HT8
                clear hown hgrow hat hlt8 hgr HV8 hob r0 r1 r3 rf HP hNW hlo7 HSN hsl HSE HT7
                go_wp2_with fail
                refine onlyN ?_
                go_wp2
                go_roundw
                case rel => exact ⟨k + 1, ck - y, _, by omega, by go_num, by omega, unhide HTN2, unhide HTQ2, unhide HT8⟩
                case measure => simp [intOf]; omega
              · have hy2 : decide (y ≤ ck) = false := decide_eq_false hy
                obtain ⟨t1, t2⟩ := unhide HT0 hy
                have HTNk : Hid (tn CR xl = k) := by show _ = _; rw [unhide HTN, t1]; rfl
                have HTQk : Hid (tc CR xl = ck) := (unhide HTQ).trans t2
                have HC : Hid (wr.cell? ⟨ga, oa + k, none⟩ = some (.int .i64 y)) := hcell
                clear t1 t2 HT1 HT0 HTN HTQ hcell HTK
                go_wp2_with fail
                refine wp_region_grB (by kernel_rfl) (by kernel_rfl) ?_
                have hneX := gb_ne wr
                have f1 : ∀ y9 : Gb wr, y9.w.cell? ⟨q5, 2, none⟩ = some (.int .i64 ck) := fun y9 => gb_cell (unhide HT).cells.2.1.2.2.1 y9
                have f2 : ∀ y9 : Gb wr, y9.w.cell? ⟨q5, 3, none⟩ = some (.slice (some ⟨ga, oa, none⟩) z xk) := fun y9 => gb_cell (unhide HT).cells.2.1.2.2.2 y9
                have f3 : ∀ y9 : Gb wr, y9.w.cell? ⟨ga, oa + k, none⟩ = some (.int .i64 y) := fun y9 => gb_cell (unhide HC) y9
                repeat (go_big_quiet_step (fail))
                refine wpQuiet_nil ?_
                rintro w4 ⟨⟨_, b4⟩, rfl⟩
                have HT4 := hide ((unhide HT).up b4)
                clear b4 hneX f1 f2 f3 HT HC s0 s1 c0 c1x c2x c3 o0 o1 o2 o3 hy hy2 hyb
                have hcF : (if k = z then (0 : Int) else ck) = ck := if_neg (by omega)
                have hXcl : (tqD ⟨xp, xw, xc, xl, some ⟨ga, oa, none⟩, xk⟩ Q).cl.toArray = #[.int .i64 xp, .int .i64 xw, .int .i64 ck, .slice (some ⟨ga, oa + k, none⟩) (z - k) (xk - k)] := by
                  unfold tqD Dr.cl
                  dsimp only
                  rw [← unhide HCRE, unhide HTNk, unhide HTQk, List.length_drop, ← unhide HZ, hcF, if_neg (show ¬ k = xk by omega)]
                  rfl
                have hTS := (unhide HT4).setS (some ⟨ga, oa + k, none⟩) (z - k) (xk - k)
                have hvx : VOk w0 (tqD ⟨xp, xw, xc, xl, some ⟨ga, oa, none⟩, xk⟩ Q) := (unhide HVO).drop Q
                have hTSF := hTS
                have hWC : Calls Try.prog 17 #[shV Q aS (FS i).length cS, .agg #[.int .i64 xp, .int .i64 xw, .int .i64 ck, .slice (some ⟨ga, oa + k, none⟩) (z - k) (xk - k)]] (w4.setCell ⟨q5, 3, none⟩ (.slice (some ⟨ga, oa + k, none⟩) (z - k) (xk - k))) fun e w' => ∃ a c', e = .returned (shV Q a (FS (i + 1)).length c') ∧ DrsAt w' a (FS (i + 1)) ∧ Below (w4.setCell ⟨q5, 3, none⟩ (.slice (some ⟨ga, oa + k, none⟩) (z - k) (xk - k))).heap.size (w4.setCell ⟨q5, 3, none⟩ (.slice (some ⟨ga, oa + k, none⟩) (z - k) (xk - k))) w' := by
                  rw [← hXcl, unhide HY1]
                  exact dwith_any Q _ aS (FS i) cS _ ((unhide HDS).keepQ hTSF.kq) (hvx.keepQ hTSF.kq) (by have := unhide HSL i; have := unhide HN; omega)
                obtain ⟨⟨_, _, c2y, c3⟩, cf, cl⟩ := row4 (unhide HT4).q
                have cf3 := cf 3
                obtain ⟨⟨_, _, g2x, g3⟩, gf, gl⟩ := row4 hTS.q
                have gf2 := gf 2
                obtain ⟨⟨d0, d1, d2, d3⟩, df, dl⟩ := row4 hTSF.q
                have HRG := hide hTSF.range
                have HTF := hide hTSF
                have HWC := hide hWC
                obtain ⟨U1, hU1⟩ : ∃ W, w4.setCell ⟨q5, 3, none⟩ (.slice (some ⟨ga, oa + k, none⟩) (z - k) (xk - k)) = W := ⟨_, rfl⟩
                rw [hU1] at HRG HTF HWC g2x g3 gf2 gl d0 d1 d2 d3 dl
                have q5z : ((z - k : Nat) : Int) ≠ 0 := by omega
                have hkl2 : k ≤ xk := by omega
                clear hXcl hTS hvx hTSF hWC cf gf df HT4 hcF
                go_wp2_with (refine wpList_load_mid rfl 28 (.tmp 88) rfl (w.heap.size + 1 + 1) 0 rfl [.int .i64 Q, .slice aS (FS i).length cS] _ (unhide HRG) Try.underlying28 rfl (by kernel_rfl) ?_)
                refine (unhide HWC).mono ?_
                rintro e w6 ⟨a6, c6, rfl, hD6, b6⟩
                have hT6 := (unhide HTF).up b6
                have HTH := hide hT6.there
                have hNX := hT6.next (c' := c6) hD6
                rw [show FN i ++ (xl.take k).map (fun s => (xp, s)) = FN (i + 1) by rw [unhide HY2, unhide HTNk], ← unhide HY3] at hNX
                have HNX := hide hNX
                clear hNX hT6 b6 hD6 HTF HWC HRG hU1 c2y c3 cf3 cl g2x g3 gf2 gl d0 d1 d2 d3 dl
                obtain ⟨NN, hNN⟩ : ∃ N, N = (FS (i + 1)).length := ⟨_, rfl⟩
                rw [← hNN] at HNX ⊢
                clear hNN
                go_wp2_with (refine wpList_store_mid_to rfl 28 (.tmp 92) (.tmp 91) rfl (w.heap.size + 1 + 1) 0 #[.int .i64 Q, .slice a6 NN c6] rfl rfl (unhide HTH) (by kernel_rfl) (by simp [Value.oneCell']) (fun z9 => TS w Q (some ⟨g, o, none⟩) n c (FS (i + 1)) (FN (i + 1)) (FE (i + 1)) z9) (unhide HNX) ?_)
                intro w7 h7
                go_wp2
                go_roundw
                case rel => exact ⟨i + 1, by omega, by go_num, h7⟩
                case measure => simp [intOf]; omega
            · have q2 : ¬ (k : Int) < z := by omega
              have hkz2 : k = z := by omega
              have hxd : xl.drop k = [] := List.drop_eq_nil_of_le (by rw [← unhide HZ]; omega)
              have HTNk : Hid (tn CR xl = k) := by show _ = _; rw [unhide HTN, hxd]; rfl
              have HTQk : Hid (tc CR xl = ck) := by show _ = _; rw [unhide HTQ, hxd]; rfl
              clear hxd HTN HTQ
              go_wp2_with fail
              refine wp_region_grB (by kernel_rfl) (by kernel_rfl) ?_
              have hneX := gb_ne wr
              have f2 : ∀ y9 : Gb wr, y9.w.cell? ⟨q5, 3, none⟩ = some (.slice (some ⟨ga, oa, none⟩) z xk) := fun y9 => gb_cell (unhide HT).cells.2.1.2.2.2 y9
              repeat (go_big_quiet_step (fail))
              refine wpQuiet_nil ?_
              rintro w4 ⟨⟨_, b4⟩, rfl⟩
              have HT4 := hide ((unhide HT).up b4)
              clear b4 hneX f2 HT s0 s1 c0 c1x c2x c3 o0 o1 o2 o3
              subst hkz2
              by_cases hkx : k = xk
              · subst hkx
                have hXcl : (tqD ⟨xp, xw, xc, xl, some ⟨ga, oa, none⟩, k⟩ Q).cl.toArray = #[.int .i64 xp, .int .i64 xw, .int .i64 0, .slice (some ⟨ga, oa, none⟩) 0 0] := by
                  unfold tqD Dr.cl
                  dsimp only
                  rw [← unhide HCRE, unhide HTNk, unhide HTQk, List.length_drop, ← unhide HZ, if_pos rfl, if_pos rfl, Nat.sub_self]
                have hTS := (unhide HT4).setS (some ⟨ga, oa, none⟩) 0 0
                have hvx : VOk w0 (tqD ⟨xp, xw, xc, xl, some ⟨ga, oa, none⟩, k⟩ Q) := (unhide HVO).drop Q
                have hTSF := hTS.setC 0
                have hWC : Calls Try.prog 17 #[shV Q aS (FS i).length cS, .agg #[.int .i64 xp, .int .i64 xw, .int .i64 0, .slice (some ⟨ga, oa, none⟩) 0 0]] ((w4.setCell ⟨q5, 3, none⟩ (.slice (some ⟨ga, oa, none⟩) 0 0)).setCell ⟨q5, 2, none⟩ (.int .i64 0)) fun e w' => ∃ a c', e = .returned (shV Q a (FS (i + 1)).length c') ∧ DrsAt w' a (FS (i + 1)) ∧ Below ((w4.setCell ⟨q5, 3, none⟩ (.slice (some ⟨ga, oa, none⟩) 0 0)).setCell ⟨q5, 2, none⟩ (.int .i64 0)).heap.size ((w4.setCell ⟨q5, 3, none⟩ (.slice (some ⟨ga, oa, none⟩) 0 0)).setCell ⟨q5, 2, none⟩ (.int .i64 0)) w' := by
                  rw [← hXcl, unhide HY1]
                  exact dwith_any Q _ aS (FS i) cS _ ((unhide HDS).keepQ hTSF.kq) (hvx.keepQ hTSF.kq) (by have := unhide HSL i; have := unhide HN; omega)
                obtain ⟨⟨_, _, c2y, c3⟩, cf, cl⟩ := row4 (unhide HT4).q
                have cf3 := cf 3
                obtain ⟨⟨_, _, g2x, g3⟩, gf, gl⟩ := row4 hTS.q
                have gf2 := gf 2
                obtain ⟨⟨d0, d1, d2, d3⟩, df, dl⟩ := row4 hTSF.q
                have HRG := hide hTSF.range
                have HTF := hide hTSF
                have HWC := hide hWC
                obtain ⟨U1, hU1⟩ : ∃ W, w4.setCell ⟨q5, 3, none⟩ (.slice (some ⟨ga, oa, none⟩) 0 0) = W := ⟨_, rfl⟩
                rw [hU1] at HRG HTF HWC g2x g3 gf2 gl d0 d1 d2 d3 dl
                obtain ⟨U2, hU2⟩ : ∃ W, U1.setCell ⟨q5, 2, none⟩ (.int .i64 0) = W := ⟨_, rfl⟩
                rw [hU2] at HRG HTF HWC d0 d1 d2 d3 dl
                clear hXcl hTS hvx hTSF hWC cf gf df HT4
                go_wp2_with (refine wpList_load_mid rfl 28 (.tmp 88) rfl (w.heap.size + 1 + 1) 0 rfl [.int .i64 Q, .slice aS (FS i).length cS] _ (unhide HRG) Try.underlying28 rfl (by kernel_rfl) ?_)
                refine (unhide HWC).mono ?_
                rintro e w6 ⟨a6, c6, rfl, hD6, b6⟩
                have hT6 := (unhide HTF).up b6
                have HTH := hide hT6.there
                have hNX := hT6.next (c' := c6) hD6
                rw [show FN i ++ (xl.take k).map (fun s => (xp, s)) = FN (i + 1) by rw [unhide HY2, unhide HTNk], ← unhide HY3] at hNX
                have HNX := hide hNX
                clear hNX hT6 b6 hD6 HTF HWC HRG hU1 c2y c3 cf3 cl g2x g3 gf2 gl d0 d1 d2 d3 dl hU2
                obtain ⟨NN, hNN⟩ : ∃ N, N = (FS (i + 1)).length := ⟨_, rfl⟩
                rw [← hNN] at HNX ⊢
                clear hNN
                go_wp2_with (refine wpList_store_mid_to rfl 28 (.tmp 92) (.tmp 91) rfl (w.heap.size + 1 + 1) 0 #[.int .i64 Q, .slice a6 NN c6] rfl rfl (unhide HTH) (by kernel_rfl) (by simp [Value.oneCell']) (fun z9 => TS w Q (some ⟨g, o, none⟩) n c (FS (i + 1)) (FN (i + 1)) (FE (i + 1)) z9) (unhide HNX) ?_)
                intro w7 h7
                go_wp2
                go_roundw
                case rel => exact ⟨i + 1, by omega, by go_num, h7⟩
                case measure => simp [intOf]; omega
              · have hkx2 : k < xk := by omega
                have hXcl : (tqD ⟨xp, xw, xc, xl, some ⟨ga, oa, none⟩, xk⟩ Q).cl.toArray = #[.int .i64 xp, .int .i64 xw, .int .i64 0, .slice (some ⟨ga, oa + k, none⟩) 0 (xk - k)] := by
                  unfold tqD Dr.cl
                  dsimp only
                  rw [← unhide HCRE, unhide HTNk, unhide HTQk, List.length_drop, ← unhide HZ, if_pos rfl, if_neg hkx, Nat.sub_self]
                  rfl
                have hTS := (unhide HT4).setS (some ⟨ga, oa + k, none⟩) 0 (xk - k)
                have hvx : VOk w0 (tqD ⟨xp, xw, xc, xl, some ⟨ga, oa, none⟩, xk⟩ Q) := (unhide HVO).drop Q
                have hTSF := hTS.setC 0
                have hWC : Calls Try.prog 17 #[shV Q aS (FS i).length cS, .agg #[.int .i64 xp, .int .i64 xw, .int .i64 0, .slice (some ⟨ga, oa + k, none⟩) 0 (xk - k)]] ((w4.setCell ⟨q5, 3, none⟩ (.slice (some ⟨ga, oa + k, none⟩) 0 (xk - k))).setCell ⟨q5, 2, none⟩ (.int .i64 0)) fun e w' => ∃ a c', e = .returned (shV Q a (FS (i + 1)).length c') ∧ DrsAt w' a (FS (i + 1)) ∧ Below ((w4.setCell ⟨q5, 3, none⟩ (.slice (some ⟨ga, oa + k, none⟩) 0 (xk - k))).setCell ⟨q5, 2, none⟩ (.int .i64 0)).heap.size ((w4.setCell ⟨q5, 3, none⟩ (.slice (some ⟨ga, oa + k, none⟩) 0 (xk - k))).setCell ⟨q5, 2, none⟩ (.int .i64 0)) w' := by
                  rw [← hXcl, unhide HY1]
                  exact dwith_any Q _ aS (FS i) cS _ ((unhide HDS).keepQ hTSF.kq) (hvx.keepQ hTSF.kq) (by have := unhide HSL i; have := unhide HN; omega)
                obtain ⟨⟨_, _, c2y, c3⟩, cf, cl⟩ := row4 (unhide HT4).q
                have cf3 := cf 3
                obtain ⟨⟨_, _, g2x, g3⟩, gf, gl⟩ := row4 hTS.q
                have gf2 := gf 2
                obtain ⟨⟨d0, d1, d2, d3⟩, df, dl⟩ := row4 hTSF.q
                have HRG := hide hTSF.range
                have HTF := hide hTSF
                have HWC := hide hWC
                obtain ⟨U1, hU1⟩ : ∃ W, w4.setCell ⟨q5, 3, none⟩ (.slice (some ⟨ga, oa + k, none⟩) 0 (xk - k)) = W := ⟨_, rfl⟩
                rw [hU1] at HRG HTF HWC g2x g3 gf2 gl d0 d1 d2 d3 dl
                obtain ⟨U2, hU2⟩ : ∃ W, U1.setCell ⟨q5, 2, none⟩ (.int .i64 0) = W := ⟨_, rfl⟩
                rw [hU2] at HRG HTF HWC d0 d1 d2 d3 dl
                clear hXcl hTS hvx hTSF hWC cf gf df HT4
                go_wp2_with (refine wpList_load_mid rfl 28 (.tmp 88) rfl (w.heap.size + 1 + 1) 0 rfl [.int .i64 Q, .slice aS (FS i).length cS] _ (unhide HRG) Try.underlying28 rfl (by kernel_rfl) ?_)
                refine (unhide HWC).mono ?_
                rintro e w6 ⟨a6, c6, rfl, hD6, b6⟩
                have hT6 := (unhide HTF).up b6
                have HTH := hide hT6.there
                have hNX := hT6.next (c' := c6) hD6
                rw [show FN i ++ (xl.take k).map (fun s => (xp, s)) = FN (i + 1) by rw [unhide HY2, unhide HTNk], ← unhide HY3] at hNX
                have HNX := hide hNX
                clear hNX hT6 b6 hD6 HTF HWC HRG hU1 c2y c3 cf3 cl g2x g3 gf2 gl d0 d1 d2 d3 dl hU2
                obtain ⟨NN, hNN⟩ : ∃ N, N = (FS (i + 1)).length := ⟨_, rfl⟩
                rw [← hNN] at HNX ⊢
                clear hNN
                go_wp2_with (refine wpList_store_mid_to rfl 28 (.tmp 92) (.tmp 91) rfl (w.heap.size + 1 + 1) 0 #[.int .i64 Q, .slice a6 NN c6] rfl rfl (unhide HTH) (by kernel_rfl) (by simp [Value.oneCell']) (fun z9 => TS w Q (some ⟨g, o, none⟩) n c (FS (i + 1)) (FN (i + 1)) (FE (i + 1)) z9) (unhide HNX) ?_)
                intro w7 h7
                go_wp2
                go_roundw
                case rel => exact ⟨i + 1, by omega, by go_num, h7⟩
                case measure => simp [intOf]; omega
        · have hcc : CR = xc + xw * Q := (unhide HCR).trans (by omega)
          have HTC := HC0
          rw [← hcc] at HTC
          clear HC0 HC1 HCR
          have HCC := hide hcc
          clear hcc
          have hcc2 := unhide HCC
          go_wp2_with (refine wpList_load_mid rfl 45 (.tmp 19) rfl g (o + i * 4) rfl [.int .i64 xp, .int .i64 xw, .int .i64 xc, .slice (some ⟨ga, oa, none⟩) z xk] _ (unhide HRA) Try.underlying45 rfl (by kernel_rfl) ?_)
          obtain ⟨q5, hq5⟩ : ∃ q, q = wr.heap.size := ⟨_, rfl⟩
          rw [← hq5] at HTC ⊢
          have HQ5 := hide hq5
          clear hq5 hW1 hW2 hW3 hX0 s0 s1 s2 s3 sf2 sl v0 v1 vl p0 p1 p2 p3 pf2 pl o0 o1 o2 o3 ol r3 rf rl u0 u1 ul HRA hgl HKW
          generalize W2 = W9 at *
          generalize wr = w0 at *
          go_loopw [6] (fun kv wr => ∃ (k : Nat) (ck : Int) (vv : Value), k ≤ z ∧ kv = .int .i64 k ∧ (0 ≤ ck ∧ ck ≤ 16777216) ∧ tn CR xl = k + tn ck (xl.drop k) ∧ tc CR xl = tc ck (xl.drop k) ∧ TI w w0 Q (some ⟨g, o, none⟩) n c aS (FS i).length cS q5 xp xw (some ⟨ga, oa, none⟩) z xk ck vv (FN i ++ (xl.take k).map fun s => (xp, s)) 0 wr) (fun kv _ => z - (intOf kv).toNat)
          case atStart => exact ⟨0, CR, v, by omega, rfl, by omega, by rw [List.drop_zero, Nat.zero_add], by rw [List.drop_zero], by rw [List.take_zero, List.map_nil, List.append_nil]; exact unhide HTC⟩
          case round =>
            clear HTC
            obtain ⟨k, ck, vv, hkz, rfl, hck, htn, htc, hT⟩ := hrel
            have HTN := hide htn
            have HTQ := hide htc
            have HT := hide hT
            obtain ⟨⟨s0, s1⟩, ⟨c0, c1x, c2x, c3⟩, ⟨o0, o1, o2, o3⟩⟩ := hT.cells
            clear hT htn htc
            by_cases hlk : k < z
            · have q2 : (k : Int) < z := by omega
              have hkl : k < xl.length := by rw [← unhide HZ]; exact hlk
              have hcell : wr.cell? ⟨ga, oa + k, none⟩ = some (.int .i64 xl[k]) := by
                obtain ⟨g9, o9, e9, h9⟩ := ((unhide HVO).keepQ (unhide HT).kq).ints k hkl
                cases e9
                exact h9
              have hyb := unhide HSZ _ (List.getElem_mem hkl)
              have HT1 := hide (fun (h : xl[k] ≤ ck) => tn_at hkl rfl h)
              have HT0 := hide (fun (h : ¬ xl[k] ≤ ck) => tn_no hkl rfl h)
              have HTK : Hid ((xl.take (k + 1)).map (fun s => (xp, s)) = (xl.take k).map (fun s => (xp, s)) ++ [(xp, xl[k])]) := by
                show _ = _
                rw [List.take_succ_eq_append_getElem hkl, List.map_append]
                rfl
              generalize xl[k] = y at *
              by_cases hy : y ≤ ck
              · have hy2 : decide (y ≤ ck) = true := decide_eq_true hy
                obtain ⟨t1, t2⟩ := unhide HT1 hy
                have HTN2 : Hid (tn CR xl = (k + 1) + tn (ck - y) (xl.drop (k + 1))) := by show _ = _; rw [unhide HTN, t1]; omega
                have HTQ2 : Hid (tc CR xl = tc (ck - y) (xl.drop (k + 1))) := (unhide HTQ).trans t2
                have HC : Hid (wr.cell? ⟨ga, oa + k, none⟩ = some (.int .i64 y)) := hcell
                clear t1 t2 HT1 HT0 HTN HTQ hcell
                go_wp2_with fail
                refine wp_region_grB (by kernel_rfl) (by kernel_rfl) ?_
                have hneX := gb_ne wr
                have f1 : ∀ y9 : Gb wr, y9.w.cell? ⟨q5, 2, none⟩ = some (.int .i64 ck) := fun y9 => gb_cell (unhide HT).cells.2.1.2.2.1 y9
                have f2 : ∀ y9 : Gb wr, y9.w.cell? ⟨q5, 3, none⟩ = some (.slice (some ⟨ga, oa, none⟩) z xk) := fun y9 => gb_cell (unhide HT).cells.2.1.2.2.2 y9
                have f3 : ∀ y9 : Gb wr, y9.w.cell? ⟨ga, oa + k, none⟩ = some (.int .i64 y) := fun y9 => gb_cell (unhide HC) y9
                repeat (go_big_quiet_step (fail))
                refine wpQuiet_nil ?_
                rintro w4 ⟨⟨_, b4⟩, rfl⟩
                have HT4 := hide ((unhide HT).up b4)
                have HC4 := hide (cell_below (unhide HC) b4)
                clear b4 hneX f1 f2 f3 HT HC s0 s1 c0 c1x c2x c3 o0 o1 o2 o3
                go_wp2_with fail
                refine wp_region_late 9 ?A13b (by kernel_rfl) (by kernel_rfl) (by kernel_rfl) ?lex13b ?_
                case lex13b =>
                  intro X
                  have hneX := gb_ne X.w
                  have f1 : ∀ y9 : Gb X.w, y9.w.cell? ⟨q5, 2, none⟩ = some (.int .i64 ck) := fun y9 => gb_cell (cell_below (unhide HT4).cells.2.1.2.2.1 X.ok) y9
                  have f2 : ∀ y9 : Gb X.w, y9.w.cell? ⟨q5, 3, none⟩ = some (.slice (some ⟨ga, oa, none⟩) z xk) := fun y9 => gb_cell (cell_below (unhide HT4).cells.2.1.2.2.2 X.ok) y9
                  have f3 : ∀ y9 : Gb X.w, y9.w.cell? ⟨ga, oa + k, none⟩ = some (.int .i64 y) := fun y9 => gb_cell (cell_below (unhide HC4) X.ok) y9
                  dsimp only [List.take_succ_cons, List.take_zero]
                  repeat (go_big_quiet_step (fail))
                  refine wpQuiet_nil ?_
                  exact rfl
                intro w5 b5
                try simp only [List.drop_succ_cons, List.drop_zero]
                have hT5 := (unhide HT4).up b5
                have HC5 := hide (cell_below (unhide HC4) b5)
                have HT6 := hide (hT5.setC (ck - y))
                obtain ⟨⟨c0, c1x, c2x, c3⟩, cf, cl⟩ := row4 hT5.q
                have cf2 := cf 2
                have HCE : Hid ((w5.setCell ⟨q5, 2, none⟩ (.int .i64 (ck - y))).cell? ⟨ga, oa + k, none⟩ = some (.int .i64 y)) := by
                  refine (World.cell?_setCell_other _ _ _ _ (fun e => ?_)).trans (unhide HC5)
                  have e := congrArg Addr.block e
                  have e : q5 = ga := e
                  obtain ⟨cs9, fr9, h9⟩ := (((unhide HVO).keepQ (unhide HT4).kq).up b5).ty ⟨ga, oa, none⟩ rfl
                  have h8 := hT5.q
                  rw [e] at h8
                  rw [h8] at h9
                  simp at h9
                obtain ⟨W6, hW6⟩ : ∃ W, w5.setCell ⟨q5, 2, none⟩ (.int .i64 (ck - y)) = W := ⟨_, rfl⟩
                rw [hW6] at HT6 HCE
                clear b5 hT5 HC5 HC4 HT4 cf
                go_wp2_with fail
                refine onlyN ?_
                go_wp2_with fail
                clear hW6 c0 c1x c2x c3 cf2 cl
                refine wp_region_eff [false, false, false, false, false, false, false, false, false, false, true, true, false, true] [12] 10 ?A14b _ _ (by kernel_rfl) (by kernel_rfl) rfl ?lex14b ?free14b ?_
                case lex14b =>
                  intro X
                  have hneX := gb_ne X.w
                  have f0 : ∀ y9 : Gb X.w, y9.w.cell? ⟨w.heap.size + 1 + 1, 2, none⟩ = some vv := fun y9 => gb_cell (cell_below (unhide HT6).cells.2.2.2.2.1 X.ok) y9
                  have f1 : ∀ y9 : Gb X.w, y9.w.cell? ⟨q5, 0, none⟩ = some (.int .i64 xp) := fun y9 => gb_cell (cell_below (unhide HT6).cells.2.1.1 X.ok) y9
                  have f2 : ∀ y9 : Gb X.w, y9.w.cell? ⟨q5, 3, none⟩ = some (.slice (some ⟨ga, oa, none⟩) z xk) := fun y9 => gb_cell (cell_below (unhide HT6).cells.2.1.2.2.2 X.ok) y9
                  have f3 : ∀ y9 : Gb X.w, y9.w.cell? ⟨ga, oa + k, none⟩ = some (.int .i64 y) := fun y9 => gb_cell (cell_below (unhide HCE) X.ok) y9
                  dsimp only [restM]
                  repeat (go_big_quiet_step (fail))
                  refine wpQuiet_nil ?_
                  exact rfl
                case free14b =>
                  intro j hj o ho W
                  simp only [List.mem_cons, List.not_mem_nil, or_false] at hj
                  subst hj
                  simp only [List.getElem?_cons_succ, List.getElem?_cons_zero, Option.some.injEq] at ho
                  subst ho
                  go_big_quiet_step (fail)
                  refine wpQuiet_nil ?_
                  exact rfl
                intro w7 b7
                have hT7 := (unhide HT6).up b7
                have hv7 := hT7.v
                have HT7 := hide hT7
                obtain ⟨SN, hSN⟩ : ∃ S, S = FN i ++ (xl.take k).map (fun s => (xp, s)) := ⟨_, rfl⟩
                rw [← hSN] at hv7 HT7
                have hsl : SN.length ≤ 2000 := by
                  rw [hSN, List.length_append, List.length_map, List.length_take]
                  have := unhide HNL i
                  omega
                have HSE : Hid (FN i ++ (xl.take (k + 1)).map (fun s => (xp, s)) = SN ++ [(xp, y)]) := by
                  show _ = _
                  rw [unhide HTK, hSN, List.append_assoc]
                obtain ⟨av, cv, rfl⟩ := ownSn_shape hv7
                obtain ⟨sn, hsn⟩ : ∃ s, s = SN.length := ⟨_, rfl⟩
                rw [← hsn] at hsl HT7 hv7 ⊢
                have HSN := hide hsn
                have HP : Hid (∀ o1, (w7.alloc o1).ownsRow (w.heap.size + 3) 61 2 (.slice av sn cv) sn (stC SN)) := fun o1 => by
                  have h1 := ownSn_up hv7 ((Below.refl w7.heap.size w7).alloc (Nat.le_refl _) o1)
                  unfold OwnSn at h1
                  rw [← hsn] at h1
                  exact h1
                have hNW := hide (news_lit w7 [.int .i64 xp, .int .i64 y] 61)
                have hlo7 : w.heap.size + 3 ≤ w7.heap.size := by
                  have h1 := (unhide HT7).lo
                  have h2 := (unhide HT7).kq.size
                  omega
                clear b7 hT7 hv7 hSN hsn HT6 HCE HTK
                go_wp2_with fail
                refine onlyN ⟨(Below.refl _ _).alloc (Nat.le_refl _) _, ?_⟩
                dsimp only [effM]
                go_wp2_with (at_builtin; refine wpList_append_lies _ rfl _ _ 35 rfl (w.heap.size + 3) 61 i0 (.agg #[.int .i64 0, .int .i64 0]) 2 16 Try.undSn hi hz0 hz1 hz2 rfl (by decide) (.slice av sn cv) sn _ rfl (unhide HP _) ⟨w7.heap.size, 0, none⟩ 1 1 [.int .i64 xp, .int .i64 y] rfl rfl (unhide hNW) (by intro u hu; simp at hu; rcases hu with rfl | rfl <;> rfl) (by decide) (by unfold maxLen; omega) (by omega) (by simp; omega) (w7.heap.size + 1) (by simp) ?_)
                intro g8 cap8 w8 hown hgrow hat hlt8
                have hgr : w7.grownBy w8 (Value.slice av sn cv).ownBlock := ⟨hgrow.os, hgrow.tape, hgrow.output, by have := hgrow.size; simp at this; omega, fun k9 hk9 hn9 => (hgrow.block k9 (by simp; omega) hn9).trans (Below.heap_alloc _ _ _ hk9)⟩
                have HV8 : Hid (OwnSn w8 (w.heap.size + 3) (.slice (some ⟨g8, 0, none⟩) (sn + 1) cap8) (SN ++ [(xp, y)])) := by
                  show OwnSn _ _ _ _
                  unfold OwnSn
                  rw [stC_append, List.length_append, ← unhide HSN]
                  exact hown
                have HT8 := hide ((unhide HT7).setV hgr (unhide HV8))
                have hob : w8.heap[w.heap.size + 2]? = _ := (hgr.block _ (lt_of_block (unhide HT7).o) (fun e => by
                  obtain ⟨_, cs9, h9⟩ := ownSn_ge (unhide HT7).v e.symm
                  rw [(unhide HT7).o] at h9
                  simp at h9)).trans (unhide HT7).o
                obtain ⟨⟨r0, r1, r2, r3⟩, rf, rl⟩ := row4 hob
                have rf2 := rf 2
                have t2 : w.heap.size + 2 = w.heap.size + 1 + 1 := rfl
                rw [t2] at r2 rf2 rl HT8
                obtain ⟨W9, hW9⟩ : ∃ W, w8.setCell ⟨w.heap.size + 1 + 1, 2, none⟩ (.slice (some ⟨g8, 0, none⟩) (sn + 1) cap8) = W := ⟨_, rfl⟩
                rw [hW9] at HT8
                rw [← unhide HSE] at HT8
                clear hown hgrow hat hlt8 hgr HV8 hob r0 r1 r3 rf HP hNW hlo7 HSN hsl HSE HT7
                go_wp2_with fail
                refine onlyN ?_
                go_wp2
                go_roundw
                case rel => exact ⟨k + 1, ck - y, _, by omega, by go_num, by omega, unhide HTN2, unhide HTQ2, unhide HT8⟩
                case measure => simp [intOf]; omega
              · have hy2 : decide (y ≤ ck) = false := decide_eq_false hy
                obtain ⟨t1, t2⟩ := unhide HT0 hy
                have HTNk : Hid (tn CR xl = k) := by show _ = _; rw [unhide HTN, t1]; rfl
                have HTQk : Hid (tc CR xl = ck) := (unhide HTQ).trans t2
                have HC : Hid (wr.cell? ⟨ga, oa + k, none⟩ = some (.int .i64 y)) := hcell
                clear t1 t2 HT1 HT0 HTN HTQ hcell HTK
                go_wp2_with fail
                refine wp_region_grB (by kernel_rfl) (by kernel_rfl) ?_
                have hneX := gb_ne wr
                have f1 : ∀ y9 : Gb wr, y9.w.cell? ⟨q5, 2, none⟩ = some (.int .i64 ck) := fun y9 => gb_cell (unhide HT).cells.2.1.2.2.1 y9
                have f2 : ∀ y9 : Gb wr, y9.w.cell? ⟨q5, 3, none⟩ = some (.slice (some ⟨ga, oa, none⟩) z xk) := fun y9 => gb_cell (unhide HT).cells.2.1.2.2.2 y9
                have f3 : ∀ y9 : Gb wr, y9.w.cell? ⟨ga, oa + k, none⟩ = some (.int .i64 y) := fun y9 => gb_cell (unhide HC) y9
                repeat (go_big_quiet_step (fail))
                refine wpQuiet_nil ?_
                rintro w4 ⟨⟨_, b4⟩, rfl⟩
                have HT4 := hide ((unhide HT).up b4)
                clear b4 hneX f1 f2 f3 HT HC s0 s1 c0 c1x c2x c3 o0 o1 o2 o3 hy hy2 hyb
                have hcF : (if k = z then (0 : Int) else ck) = ck := if_neg (by omega)
                have hXcl : (tqD ⟨xp, xw, xc, xl, some ⟨ga, oa, none⟩, xk⟩ Q).cl.toArray = #[.int .i64 xp, .int .i64 xw, .int .i64 ck, .slice (some ⟨ga, oa + k, none⟩) (z - k) (xk - k)] := by
                  unfold tqD Dr.cl
                  dsimp only
                  rw [← unhide HCRE, unhide HTNk, unhide HTQk, List.length_drop, ← unhide HZ, hcF, if_neg (show ¬ k = xk by omega)]
                  rfl
                have hTS := (unhide HT4).setS (some ⟨ga, oa + k, none⟩) (z - k) (xk - k)
                have hvx : VOk w0 (tqD ⟨xp, xw, xc, xl, some ⟨ga, oa, none⟩, xk⟩ Q) := (unhide HVO).drop Q
                have hTSF := hTS
                have hWC : Calls Try.prog 17 #[shV Q aS (FS i).length cS, .agg #[.int .i64 xp, .int .i64 xw, .int .i64 ck, .slice (some ⟨ga, oa + k, none⟩) (z - k) (xk - k)]] (w4.setCell ⟨q5, 3, none⟩ (.slice (some ⟨ga, oa + k, none⟩) (z - k) (xk - k))) fun e w' => ∃ a c', e = .returned (shV Q a (FS (i + 1)).length c') ∧ DrsAt w' a (FS (i + 1)) ∧ Below (w4.setCell ⟨q5, 3, none⟩ (.slice (some ⟨ga, oa + k, none⟩) (z - k) (xk - k))).heap.size (w4.setCell ⟨q5, 3, none⟩ (.slice (some ⟨ga, oa + k, none⟩) (z - k) (xk - k))) w' := by
                  rw [← hXcl, unhide HY1]
                  exact dwith_any Q _ aS (FS i) cS _ ((unhide HDS).keepQ hTSF.kq) (hvx.keepQ hTSF.kq) (by have := unhide HSL i; have := unhide HN; omega)
                obtain ⟨⟨_, _, c2y, c3⟩, cf, cl⟩ := row4 (unhide HT4).q
                have cf3 := cf 3
                obtain ⟨⟨_, _, g2x, g3⟩, gf, gl⟩ := row4 hTS.q
                have gf2 := gf 2
                obtain ⟨⟨d0, d1, d2, d3⟩, df, dl⟩ := row4 hTSF.q
                have HRG := hide hTSF.range
                have HTF := hide hTSF
                have HWC := hide hWC
                obtain ⟨U1, hU1⟩ : ∃ W, w4.setCell ⟨q5, 3, none⟩ (.slice (some ⟨ga, oa + k, none⟩) (z - k) (xk - k)) = W := ⟨_, rfl⟩
                rw [hU1] at HRG HTF HWC g2x g3 gf2 gl d0 d1 d2 d3 dl
                have q5z : ((z - k : Nat) : Int) ≠ 0 := by omega
                have hkl2 : k ≤ xk := by omega
                clear hXcl hTS hvx hTSF hWC cf gf df HT4 hcF
                go_wp2_with (refine wpList_load_mid rfl 28 (.tmp 88) rfl (w.heap.size + 1 + 1) 0 rfl [.int .i64 Q, .slice aS (FS i).length cS] _ (unhide HRG) Try.underlying28 rfl (by kernel_rfl) ?_)
                refine (unhide HWC).mono ?_
                rintro e w6 ⟨a6, c6, rfl, hD6, b6⟩
                have hT6 := (unhide HTF).up b6
                have HTH := hide hT6.there
                have hNX := hT6.next (c' := c6) hD6
                rw [show FN i ++ (xl.take k).map (fun s => (xp, s)) = FN (i + 1) by rw [unhide HY2, unhide HTNk], ← unhide HY3] at hNX
                have HNX := hide hNX
                clear hNX hT6 b6 hD6 HTF HWC HRG hU1 c2y c3 cf3 cl g2x g3 gf2 gl d0 d1 d2 d3 dl
                obtain ⟨NN, hNN⟩ : ∃ N, N = (FS (i + 1)).length := ⟨_, rfl⟩
                rw [← hNN] at HNX ⊢
                clear hNN
                go_wp2_with (refine wpList_store_mid_to rfl 28 (.tmp 92) (.tmp 91) rfl (w.heap.size + 1 + 1) 0 #[.int .i64 Q, .slice a6 NN c6] rfl rfl (unhide HTH) (by kernel_rfl) (by simp [Value.oneCell']) (fun z9 => TS w Q (some ⟨g, o, none⟩) n c (FS (i + 1)) (FN (i + 1)) (FE (i + 1)) z9) (unhide HNX) ?_)
                intro w7 h7
                go_wp2
                go_roundw
                case rel => exact ⟨i + 1, by omega, by go_num, h7⟩
                case measure => simp [intOf]; omega
            · have q2 : ¬ (k : Int) < z := by omega
              have hkz2 : k = z := by omega
              have hxd : xl.drop k = [] := List.drop_eq_nil_of_le (by rw [← unhide HZ]; omega)
              have HTNk : Hid (tn CR xl = k) := by show _ = _; rw [unhide HTN, hxd]; rfl
              have HTQk : Hid (tc CR xl = ck) := by show _ = _; rw [unhide HTQ, hxd]; rfl
              clear hxd HTN HTQ
              go_wp2_with fail
              refine wp_region_grB (by kernel_rfl) (by kernel_rfl) ?_
              have hneX := gb_ne wr
              have f2 : ∀ y9 : Gb wr, y9.w.cell? ⟨q5, 3, none⟩ = some (.slice (some ⟨ga, oa, none⟩) z xk) := fun y9 => gb_cell (unhide HT).cells.2.1.2.2.2 y9
              repeat (go_big_quiet_step (fail))
              refine wpQuiet_nil ?_
              rintro w4 ⟨⟨_, b4⟩, rfl⟩
              have HT4 := hide ((unhide HT).up b4)
              clear b4 hneX f2 HT s0 s1 c0 c1x c2x c3 o0 o1 o2 o3
              subst hkz2
              by_cases hkx : k = xk
              · subst hkx
                have hXcl : (tqD ⟨xp, xw, xc, xl, some ⟨ga, oa, none⟩, k⟩ Q).cl.toArray = #[.int .i64 xp, .int .i64 xw, .int .i64 0, .slice (some ⟨ga, oa, none⟩) 0 0] := by
                  unfold tqD Dr.cl
                  dsimp only
                  rw [← unhide HCRE, unhide HTNk, unhide HTQk, List.length_drop, ← unhide HZ, if_pos rfl, if_pos rfl, Nat.sub_self]
                have hTS := (unhide HT4).setS (some ⟨ga, oa, none⟩) 0 0
                have hvx : VOk w0 (tqD ⟨xp, xw, xc, xl, some ⟨ga, oa, none⟩, k⟩ Q) := (unhide HVO).drop Q
                have hTSF := hTS.setC 0
                have hWC : Calls Try.prog 17 #[shV Q aS (FS i).length cS, .agg #[.int .i64 xp, .int .i64 xw, .int .i64 0, .slice (some ⟨ga, oa, none⟩) 0 0]] ((w4.setCell ⟨q5, 3, none⟩ (.slice (some ⟨ga, oa, none⟩) 0 0)).setCell ⟨q5, 2, none⟩ (.int .i64 0)) fun e w' => ∃ a c', e = .returned (shV Q a (FS (i + 1)).length c') ∧ DrsAt w' a (FS (i + 1)) ∧ Below ((w4.setCell ⟨q5, 3, none⟩ (.slice (some ⟨ga, oa, none⟩) 0 0)).setCell ⟨q5, 2, none⟩ (.int .i64 0)).heap.size ((w4.setCell ⟨q5, 3, none⟩ (.slice (some ⟨ga, oa, none⟩) 0 0)).setCell ⟨q5, 2, none⟩ (.int .i64 0)) w' := by
                  rw [← hXcl, unhide HY1]
                  exact dwith_any Q _ aS (FS i) cS _ ((unhide HDS).keepQ hTSF.kq) (hvx.keepQ hTSF.kq) (by have := unhide HSL i; have := unhide HN; omega)
                obtain ⟨⟨_, _, c2y, c3⟩, cf, cl⟩ := row4 (unhide HT4).q
                have cf3 := cf 3
                obtain ⟨⟨_, _, g2x, g3⟩, gf, gl⟩ := row4 hTS.q
                have gf2 := gf 2
                obtain ⟨⟨d0, d1, d2, d3⟩, df, dl⟩ := row4 hTSF.q
                have HRG := hide hTSF.range
                have HTF := hide hTSF
                have HWC := hide hWC
                obtain ⟨U1, hU1⟩ : ∃ W, w4.setCell ⟨q5, 3, none⟩ (.slice (some ⟨ga, oa, none⟩) 0 0) = W := ⟨_, rfl⟩
                rw [hU1] at HRG HTF HWC g2x g3 gf2 gl d0 d1 d2 d3 dl
                obtain ⟨U2, hU2⟩ : ∃ W, U1.setCell ⟨q5, 2, none⟩ (.int .i64 0) = W := ⟨_, rfl⟩
                rw [hU2] at HRG HTF HWC d0 d1 d2 d3 dl
                clear hXcl hTS hvx hTSF hWC cf gf df HT4
                go_wp2_with (refine wpList_load_mid rfl 28 (.tmp 88) rfl (w.heap.size + 1 + 1) 0 rfl [.int .i64 Q, .slice aS (FS i).length cS] _ (unhide HRG) Try.underlying28 rfl (by kernel_rfl) ?_)
                refine (unhide HWC).mono ?_
                rintro e w6 ⟨a6, c6, rfl, hD6, b6⟩
                have hT6 := (unhide HTF).up b6
                have HTH := hide hT6.there
                have hNX := hT6.next (c' := c6) hD6
                rw [show FN i ++ (xl.take k).map (fun s => (xp, s)) = FN (i + 1) by rw [unhide HY2, unhide HTNk], ← unhide HY3] at hNX
                have HNX := hide hNX
                clear hNX hT6 b6 hD6 HTF HWC HRG hU1 c2y c3 cf3 cl g2x g3 gf2 gl d0 d1 d2 d3 dl hU2
                obtain ⟨NN, hNN⟩ : ∃ N, N = (FS (i + 1)).length := ⟨_, rfl⟩
                rw [← hNN] at HNX ⊢
                clear hNN
                go_wp2_with (refine wpList_store_mid_to rfl 28 (.tmp 92) (.tmp 91) rfl (w.heap.size + 1 + 1) 0 #[.int .i64 Q, .slice a6 NN c6] rfl rfl (unhide HTH) (by kernel_rfl) (by simp [Value.oneCell']) (fun z9 => TS w Q (some ⟨g, o, none⟩) n c (FS (i + 1)) (FN (i + 1)) (FE (i + 1)) z9) (unhide HNX) ?_)
                intro w7 h7
                go_wp2
                go_roundw
                case rel => exact ⟨i + 1, by omega, by go_num, h7⟩
                case measure => simp [intOf]; omega
              · have hkx2 : k < xk := by omega
                have hXcl : (tqD ⟨xp, xw, xc, xl, some ⟨ga, oa, none⟩, xk⟩ Q).cl.toArray = #[.int .i64 xp, .int .i64 xw, .int .i64 0, .slice (some ⟨ga, oa + k, none⟩) 0 (xk - k)] := by
                  unfold tqD Dr.cl
                  dsimp only
                  rw [← unhide HCRE, unhide HTNk, unhide HTQk, List.length_drop, ← unhide HZ, if_pos rfl, if_neg hkx, Nat.sub_self]
                  rfl
                have hTS := (unhide HT4).setS (some ⟨ga, oa + k, none⟩) 0 (xk - k)
                have hvx : VOk w0 (tqD ⟨xp, xw, xc, xl, some ⟨ga, oa, none⟩, xk⟩ Q) := (unhide HVO).drop Q
                have hTSF := hTS.setC 0
                have hWC : Calls Try.prog 17 #[shV Q aS (FS i).length cS, .agg #[.int .i64 xp, .int .i64 xw, .int .i64 0, .slice (some ⟨ga, oa + k, none⟩) 0 (xk - k)]] ((w4.setCell ⟨q5, 3, none⟩ (.slice (some ⟨ga, oa + k, none⟩) 0 (xk - k))).setCell ⟨q5, 2, none⟩ (.int .i64 0)) fun e w' => ∃ a c', e = .returned (shV Q a (FS (i + 1)).length c') ∧ DrsAt w' a (FS (i + 1)) ∧ Below ((w4.setCell ⟨q5, 3, none⟩ (.slice (some ⟨ga, oa + k, none⟩) 0 (xk - k))).setCell ⟨q5, 2, none⟩ (.int .i64 0)).heap.size ((w4.setCell ⟨q5, 3, none⟩ (.slice (some ⟨ga, oa + k, none⟩) 0 (xk - k))).setCell ⟨q5, 2, none⟩ (.int .i64 0)) w' := by
                  rw [← hXcl, unhide HY1]
                  exact dwith_any Q _ aS (FS i) cS _ ((unhide HDS).keepQ hTSF.kq) (hvx.keepQ hTSF.kq) (by have := unhide HSL i; have := unhide HN; omega)
                obtain ⟨⟨_, _, c2y, c3⟩, cf, cl⟩ := row4 (unhide HT4).q
                have cf3 := cf 3
                obtain ⟨⟨_, _, g2x, g3⟩, gf, gl⟩ := row4 hTS.q
                have gf2 := gf 2
                obtain ⟨⟨d0, d1, d2, d3⟩, df, dl⟩ := row4 hTSF.q
                have HRG := hide hTSF.range
                have HTF := hide hTSF
                have HWC := hide hWC
                obtain ⟨U1, hU1⟩ : ∃ W, w4.setCell ⟨q5, 3, none⟩ (.slice (some ⟨ga, oa + k, none⟩) 0 (xk - k)) = W := ⟨_, rfl⟩
                rw [hU1] at HRG HTF HWC g2x g3 gf2 gl d0 d1 d2 d3 dl
                obtain ⟨U2, hU2⟩ : ∃ W, U1.setCell ⟨q5, 2, none⟩ (.int .i64 0) = W := ⟨_, rfl⟩
                rw [hU2] at HRG HTF HWC d0 d1 d2 d3 dl
                clear hXcl hTS hvx hTSF hWC cf gf df HT4
                go_wp2_with (refine wpList_load_mid rfl 28 (.tmp 88) rfl (w.heap.size + 1 + 1) 0 rfl [.int .i64 Q, .slice aS (FS i).length cS] _ (unhide HRG) Try.underlying28 rfl (by kernel_rfl) ?_)
                refine (unhide HWC).mono ?_
                rintro e w6 ⟨a6, c6, rfl, hD6, b6⟩
                have hT6 := (unhide HTF).up b6
                have HTH := hide hT6.there
                have hNX := hT6.next (c' := c6) hD6
                rw [show FN i ++ (xl.take k).map (fun s => (xp, s)) = FN (i + 1) by rw [unhide HY2, unhide HTNk], ← unhide HY3] at hNX
                have HNX := hide hNX
                clear hNX hT6 b6 hD6 HTF HWC HRG hU1 c2y c3 cf3 cl g2x g3 gf2 gl d0 d1 d2 d3 dl hU2
                obtain ⟨NN, hNN⟩ : ∃ N, N = (FS (i + 1)).length := ⟨_, rfl⟩
                rw [← hNN] at HNX ⊢
                clear hNN
                go_wp2_with (refine wpList_store_mid_to rfl 28 (.tmp 92) (.tmp 91) rfl (w.heap.size + 1 + 1) 0 #[.int .i64 Q, .slice a6 NN c6] rfl rfl (unhide HTH) (by kernel_rfl) (by simp [Value.oneCell']) (fun z9 => TS w Q (some ⟨g, o, none⟩) n c (FS (i + 1)) (FN (i + 1)) (FE (i + 1)) z9) (unhide HNX) ?_)
                intro w7 h7
                go_wp2
                go_roundw
                case rel => exact ⟨i + 1, by omega, by go_num, h7⟩
                case measure => simp [intOf]; omega
    · have hin2 : i = n := by omega
      have q1 : ¬ (i : Int) < n := by omega
      obtain ⟨aS, cS, v, h1, h2, h3⟩ := (unhide HT).o
      obtain ⟨av, cv, rfl⟩ := ownSn_shape h3
      have h4 := (unhide HT).r
      have hbe := (unhide HT).be
      rw [hin2] at h1 h2 h3
      obtain ⟨SL, hSL⟩ : ∃ s, s = FS n := ⟨_, rfl⟩
      obtain ⟨NL, hNL⟩ : ∃ s, s = FN n := ⟨_, rfl⟩
      obtain ⟨EL, hEL⟩ : ∃ s, s = FE n := ⟨_, rfl⟩
      rw [← hSL, ← hEL, ← hNL] at h1
      rw [← hNL] at h3
      rw [← hSL] at h2
      have HSLE := hide hSL
      have HNLE := hide hNL
      have HELE := hide hEL
      have H1 := hide h1
      have H2 := hide h2
      have H3 := hide h3
      have H4 := hide h4
      have HBE := hide hbe
      clear h1 h2 h3 h4 hbe hSL hNL hEL HT
      obtain ⟨nl, hnl⟩ : ∃ m, m = SL.length := ⟨_, rfl⟩
      rw [← hnl] at H1
      have HNL2 := hide hnl
      obtain ⟨sn, hsn⟩ : ∃ m, m = NL.length := ⟨_, rfl⟩
      rw [← hsn] at H1 H3
      clear hnl hsn
      go_wp2_with (first | (refine wpList_load_row rfl 37 (.tmp 3) rfl (w.heap.size + 1 + 1) rfl 37 _ (0, 0) _ (unhide H1) Try.underlying37 rfl (by kernel_rfl) ?_) | (refine wpList_store_rowM rfl 37 (.tmp 2) (.tmp 93) rfl (w.heap.size + 1) #[.int .i64 Q, .slice aS nl cS, .slice av sn cv, .int .i64 EL] rfl rfl 37 _ (unhide H4) (by kernel_rfl) rfl (by simp [Value.oneCell']) (StR wr (w.heap.size + 1) 37 #[.int .i64 Q, .slice aS nl cS, .slice av sn cv, .int .i64 EL]) (stR (unhide H4) _) ?_))
      intro w9 h9
      have hD9 := drs_st (unhide H2) h9 (unhide H4) (by decide) (by decide)
      have hO9 : OwnSn w9 w.heap.size (.slice av sn cv) NL := ownSn_le (World.ownsRow.kept (show World.ownsRow _ _ _ _ _ _ _ from unhide H3) h9.gr (.inr (fun e => by have := (ownSn_ge (unhide H3) e).1; omega))) (by omega)
      have B9 := (unhide HBE).trans (h9.be.mono (by omega))
      rw [unhide HSLE] at hD9
      rw [unhide HNLE] at hO9
      have hnn : nl = (FS n).length := by rw [unhide HNL2, unhide HSLE]
      clear H1 H2 H3 H4 HBE HSLE HNLE HNL2
      go_wp2_with fail
      exact ret_rowM (p := 2) (ty := 37) (by kernel_rfl) (w.heap.size + 1) 37 _ (0, 0) _ rfl h9.at_ rfl Try.underlying37 (by kernel_rfl) ⟨_, _, _, by rw [unhide HELE, hnn], hD9, hO9, B9⟩
end Go.Proofs.Ytlmmincpjflkdaa

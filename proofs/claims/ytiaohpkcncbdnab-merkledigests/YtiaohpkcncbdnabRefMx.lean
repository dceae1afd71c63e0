/- Contract of the document's own Mix, of layer 1. -/
import Derived.Test.YtiaohpkcncbdnabRefW
import Derived.Test.YtiaohpkcncbdnabShaX
namespace Go.Proofs.Ytiaohpkcncbdnab
open Go.RowKit
set_option linter.unusedVariables false
attribute [local go_sem] xor32 and32 or32 add32 not32 not32'

theorem rMix_quiet (x : UInt32) (n : Int) (w : World) (a m : Nat) (h1 : 1 ≤ n) (h2 : n ≤ 31) : Calls Try.prog 39 #[.int .u32 (n32 x), .int .u64 n] (w.drewN (a + m)) fun e w'' => e = .returned (.int .u32 (n32 (rot x n.toNat))) ∧ ∃ m', w'' = w.drewN (a + m') := quiet_same2 (rrotr_i x n _ h1 h2)

set_option maxHeartbeats 4000000 in
set_option maxRecDepth 100000 in
theorem rMix_any (s : S8) (b : ByteArray) (hb : b.size = 64) (g cap : Nat) (ty : TypeId) (w : World) (hS : WordsAt w g ty s.list) :
    Calls Try.prog 29 #[.slice (some ⟨g, 0, none⟩) 8 cap, .string b] w fun e w' => ∃ g', e = .returned (.slice (some ⟨g', 0, none⟩) 8 8) ∧ WordsAt w' g' 61 (mix s b.data.toList).list ∧ w.heap.size ≤ g' ∧ Below w.heap.size w w' := by
  have hwd := hide (rWords_any b hb w)
  obtain ⟨W, hW⟩ : ∃ W, W = sched b.data.toList := ⟨_, rfl⟩
  have hWl : W.length = 64 := by rw [hW]; unfold sched; rw [schedN_length]
  rw [← hW] at hwd
  have HW := hide hW
  have HS := hide hS
  have HB := hide hb
  clear hW hS hb
  go_enter Try.func29, Try.ntmps29
  go_wp2_with fail
  refine (unhide hwd).mono ?_
  rintro e w1 ⟨v1, rfl, hown, b1⟩
  obtain ⟨g1, cap1, rfl, hg1, hg1', hc1⟩ := own_words hown (by omega)
  have B1 := hide b1
  have S1 : Hid (WordsAt w1 g ty s.list) := (b1.block _ (unhide HS).lt).trans (unhide HS)
  clear hown b1 hwd
  go_wp2_with fail
  refine (rK_any w1).mono ?_
  rintro e w2 ⟨rfl, hK, b2⟩
  have hS2 : WordsAt w2 g ty s.list := (b2.block _ (unhide S1).lt).trans (unhide S1)
  have hc2 : ∀ j, (hj : j < W.length) → w2.cell? ⟨g1, j, none⟩ = some (.int .u32 (n32 W[j])) := by
    intro j hj
    rw [← hc1 j hj]
    exact b2.cell hg1'
  have B2 := hide ((unhide B1).trans (b2.mono (unhide B1).size))
  clear hc1 b2 B1 S1 HS
  generalize w1.heap.size = g2 at *
  have hN := hide hS2
  have c0 := hS2.cell 0 (by simp [S8.list])
  have c1 := hS2.cell 1 (by simp [S8.list])
  have c2 := hS2.cell 2 (by simp [S8.list])
  have c3 := hS2.cell 3 (by simp [S8.list])
  have c4 := hS2.cell 4 (by simp [S8.list])
  have c5 := hS2.cell 5 (by simp [S8.list])
  have c6 := hS2.cell 6 (by simp [S8.list])
  have c7 := hS2.cell 7 (by simp [S8.list])
  simp only [S8.list, List.getElem_cons_zero, List.getElem_cons_succ] at c0 c1 c2 c3 c4 c5 c6 c7
  have HC2 := hide hc2
  have HK := hide hK
  clear hS2 hc2 hK
  go_wp2
  go_big_quiet (fail)
  go_wp2
  go_big_quiet (fail)
  go_wp2
  clear c0 c1 c2 c3 c4 c5 c6 c7
  go_loopw [7, 8, 9, 10, 11, 12, 13, 14, 15] (fun xa xb xc xd xe xf xg xh i wr => ∃ t : Nat, t ≤ 64 ∧ i = .int .i64 t ∧ (∃ m, wr = w2.drewN m) ∧ xa = .int .u32 (n32 (rnds W s t).a) ∧ xb = .int .u32 (n32 (rnds W s t).b) ∧ xc = .int .u32 (n32 (rnds W s t).c) ∧ xd = .int .u32 (n32 (rnds W s t).d) ∧ xe = .int .u32 (n32 (rnds W s t).e) ∧ xf = .int .u32 (n32 (rnds W s t).f) ∧ xg = .int .u32 (n32 (rnds W s t).g) ∧ xh = .int .u32 (n32 (rnds W s t).h)) (fun _ _ _ _ _ _ _ _ i _ => 64 - (intOf i).toNat)
  case atStart => exact ⟨0, by omega, rfl, ⟨_, World.drewN_drewN _ _ _⟩, rfl, rfl, rfl, rfl, rfl, rfl, rfl, rfl⟩
  case round =>
    obtain ⟨t, ht, rfl, ⟨m, rfl⟩, rfl, rfl, rfl, rfl, rfl, rfl, rfl, rfl⟩ := hrel
    by_cases hlt : t < 64
    · have cK : w2.cell? ⟨g2, t, none⟩ = some (.int .u32 (n32 (KK.getD t 0))) := by
        rw [(unhide HK).cell t (by rw [show KK.length = 64 from rfl]; exact hlt)]
        rw [getD_of_lt _ _ (by rw [show KK.length = 64 from rfl]; exact hlt)]
      have cW : w2.cell? ⟨g1, t, none⟩ = some (.int .u32 (n32 (W.getD t 0))) := by
        rw [unhide HC2 t (by omega), getD_of_lt _ _ (by omega)]
      have hst : Hid (rnds W s (t + 1) = rnd (rnds W s t) (KK.getD t 0) (W.getD t 0)) := rfl
      generalize KK.getD t 0 = kt at *
      generalize W.getD t 0 = wt at *
      generalize rnds W s t = r at *
      have t0 : (0 : Int) ≤ t := by omega
      have t9 : (t : Int) < 64 := by omega
      go_wp2
      go_big_quiet ((go_at_call 39; exact quiet_same2 (rrotr_i _ _ _ (by decide) (by decide))))
      go_wp2_with (go_at_call 39; refine (rrotr_j _ _ _ (by decide) (by decide)).mono ?_; rintro e w' ⟨rfl, rfl⟩)
      go_roundw
      case rel => exact ⟨t + 1, by omega, by go_num, ⟨_, rfl⟩, by rw [unhide hst, add32]; rfl, by rw [unhide hst]; rfl, by rw [unhide hst]; rfl, by rw [unhide hst]; rfl, by rw [unhide hst, add32]; rfl, by rw [unhide hst]; rfl, by rw [unhide hst]; rfl, by rw [unhide hst]; rfl⟩
      case measure => simp [intOf]; omega
    · have ht64 : t = 64 := by omega
      subst ht64
      have hmx : Hid (mix s b.data.toList = s.add (rnds W s 64)) := by show _ = _; unfold mix; rw [unhide HW]
      generalize rnds W s 64 = x at *
      have HSD0 : Hid (WordsAt (w2.drewN m).drew g ty s.list) := unhide hN
      have HBD0 : Hid (Below w.heap.size w (w2.drewN m).drew) := (below_drewN (unhide B2) m).drew
      clear hN B2 HC2 HK HW HB hlt ht
      go_wp2
      generalize hwd : (w2.drewN m).drew = wd at *
      have HSD := HSD0
      have HBD := HBD0
      clear HSD0 HBD0
      generalize hA : Act.mk _ _ = A
      have hAs : A.tmps.size = 151 := by rw [← hA]; rfl
      have hA0 : A.eval (.tmp 0) = .slice (some ⟨g, 0, none⟩) 8 cap := by rw [← hA]; rfl
      have hA7 : A.eval (.tmp 7) = .int .u32 (n32 x.a) := by rw [← hA]; rfl
      have hA8 : A.eval (.tmp 8) = .int .u32 (n32 x.b) := by rw [← hA]; rfl
      have hA9 : A.eval (.tmp 9) = .int .u32 (n32 x.c) := by rw [← hA]; rfl
      have hA10 : A.eval (.tmp 10) = .int .u32 (n32 x.d) := by rw [← hA]; rfl
      have hA11 : A.eval (.tmp 11) = .int .u32 (n32 x.e) := by rw [← hA]; rfl
      have hA12 : A.eval (.tmp 12) = .int .u32 (n32 x.f) := by rw [← hA]; rfl
      have hA13 : A.eval (.tmp 13) = .int .u32 (n32 x.g) := by rw [← hA]; rfl
      have hA14 : A.eval (.tmp 14) = .int .u32 (n32 x.h) := by rw [← hA]; rfl
      obtain ⟨V, hVe⟩ : ∃ V : List (Nat × Nat × Value), V = [(0, 110, .slice (some ⟨g, 0, none⟩) 8 cap), (1, 111, .pointer (some ⟨g, 0, none⟩)), (2, 112, .int .u32 (n32 s.a)), (3, 113, .int .u32 (n32 x.a)), (4, 114, .int .u32 (n32 (s.a + x.a))), (5, 115, .slice (some ⟨g, 0, none⟩) 8 cap), (6, 116, .pointer (some ⟨g, 1, none⟩)), (7, 117, .int .u32 (n32 s.b)), (8, 118, .int .u32 (n32 x.b)), (9, 119, .int .u32 (n32 (s.b + x.b))), (10, 120, .slice (some ⟨g, 0, none⟩) 8 cap), (11, 121, .pointer (some ⟨g, 2, none⟩)), (12, 122, .int .u32 (n32 s.c)), (13, 123, .int .u32 (n32 x.c)), (14, 124, .int .u32 (n32 (s.c + x.c))), (15, 125, .slice (some ⟨g, 0, none⟩) 8 cap), (16, 126, .pointer (some ⟨g, 3, none⟩)), (17, 127, .int .u32 (n32 s.d)), (18, 128, .int .u32 (n32 x.d)), (19, 129, .int .u32 (n32 (s.d + x.d))), (20, 130, .slice (some ⟨g, 0, none⟩) 8 cap), (21, 131, .pointer (some ⟨g, 4, none⟩)), (22, 132, .int .u32 (n32 s.e)), (23, 133, .int .u32 (n32 x.e)), (24, 134, .int .u32 (n32 (s.e + x.e))), (25, 135, .slice (some ⟨g, 0, none⟩) 8 cap), (26, 136, .pointer (some ⟨g, 5, none⟩)), (27, 137, .int .u32 (n32 s.f)), (28, 138, .int .u32 (n32 x.f)), (29, 139, .int .u32 (n32 (s.f + x.f))), (30, 140, .slice (some ⟨g, 0, none⟩) 8 cap), (31, 141, .pointer (some ⟨g, 6, none⟩)), (32, 142, .int .u32 (n32 s.g)), (33, 143, .int .u32 (n32 x.g)), (34, 144, .int .u32 (n32 (s.g + x.g))), (35, 145, .slice (some ⟨g, 0, none⟩) 8 cap), (36, 146, .pointer (some ⟨g, 7, none⟩)), (37, 147, .int .u32 (n32 s.h)), (38, 148, .int .u32 (n32 x.h)), (39, 149, .int .u32 (n32 (s.h + x.h))), (40, 150, .slice (some ⟨wd.heap.size, 0, none⟩) 8 8), (41, 4, .slice (some ⟨wd.heap.size, 0, none⟩) 8 8)] := ⟨_, rfl⟩
      refine wp_region_invB0 (by kernel_rfl) (by kernel_rfl) (by kernel_rfl) (fun f a wx => Off [4, 110, 111, 112, 113, 114, 115, 116, 117, 118, 119, 120, 121, 122, 123, 124, 125, 126, 127, 128, 129, 130, 131, 132, 133, 134, 135, 136, 137, 138, 139, 140, 141, 142, 143, 144, 145, 146, 147, 148, 149, 150] A a ∧ ValsOk V f a ∧ (f 41 = true → f 40 = true) ∧ (f 40 = false → wx = wd) ∧ (f 40 = true → wx = wd.alloc (.cells #[.int .u32 (n32 (s.a + x.a)), .int .u32 (n32 (s.b + x.b)), .int .u32 (n32 (s.c + x.c)), .int .u32 (n32 (s.d + x.d)), .int .u32 (n32 (s.e + x.e)), .int .u32 (n32 (s.f + x.f)), .int .u32 (n32 (s.g + x.g)), .int .u32 (n32 (s.h + x.h))] 61))) ?start ?step ?fin
      case start => exact ⟨Off.refl _ _, vals_start _ _, by simp, fun _ => hwd, by simp⟩
      case step =>
        rintro f a wx i o ⟨hoff, hV, hm, n0, n1⟩ ho hfi hdep
        have has : a.tmps.size = 151 := hoff.size.trans hAs
        have hw : WordsAt wx g ty s.list := by
          cases hf : f 40 with
          | false => rw [n0 hf]; exact unhide HSD
          | true => rw [n1 hf]; exact (unhide HSD).alloc _
        have hv := fun (i d : Nat) (v : Value) (hm : (i, d, v) ∈ V) (hf : f i = true) => hV (i, d, v) hm hf
        rcases i with _ | _ | _ | _ | _ | _ | _ | _ | _ | _ | _ | _ | _ | _ | _ | _ | _ | _ | _ | _ | _ | _ | _ | _ | _ | _ | _ | _ | _ | _ | _ | _ | _ | _ | _ | _ | _ | _ | _ | _ | _ | _ | i
        · obtain rfl := Option.some.inj ho
          refine wp_move (.tmp 0) rfl ?_
          rw [((hoff.eval 0 (by simp)).trans hA0)]
          exact ⟨hoff.put 110 _ (by simp), vals_put hV 0 110 _ (by omega) (by rw [hVe]; simp) (by rw [hVe]; simp), hm, n0, n1⟩
        · obtain rfl := Option.some.inj ho
          have d0 : f 0 = true := hdep ⟨0, .data⟩ (by simp) rfl
          refine wp_indexAddr 57 (.tmp 110) (.const (.int .i64 0)) rfl _ _ (.pointer (some ⟨g, 0, none⟩)) (hv 0 110 (.slice (some ⟨g, 0, none⟩) 8 cap) (by rw [hVe]; simp) d0) rfl (iaddr32 g 0 8 cap 0 rfl (by decide)) ?_
          exact ⟨hoff.put 111 _ (by simp), vals_put hV 1 111 _ (by omega) (by rw [hVe]; simp) (by rw [hVe]; simp), hm, n0, n1⟩
        · obtain rfl := Option.some.inj ho
          have d1 : f 1 = true := hdep ⟨1, .data⟩ (by simp) rfl
          refine wp_load1 61 (.tmp 111) rfl _ (.int .u32 (n32 s.a)) (hv 1 111 (.pointer (some ⟨g, 0, none⟩)) (by rw [hVe]; simp) d1) (load32 _ _ _ (hw.cell 0 (by simp [S8.list]))) ?_
          exact ⟨hoff.put 112 _ (by simp), vals_put hV 2 112 _ (by omega) (by rw [hVe]; simp) (by rw [hVe]; simp), hm, n0, n1⟩
        · obtain rfl := Option.some.inj ho
          refine wp_move (.tmp 7) rfl ?_
          rw [((hoff.eval 7 (by simp)).trans hA7)]
          exact ⟨hoff.put 113 _ (by simp), vals_put hV 3 113 _ (by omega) (by rw [hVe]; simp) (by rw [hVe]; simp), hm, n0, n1⟩
        · obtain rfl := Option.some.inj ho
          have d2 : f 2 = true := hdep ⟨2, .data⟩ (by simp) rfl
          have d3 : f 3 = true := hdep ⟨3, .data⟩ (by simp) rfl
          refine wp_addU32 61 61 (.tmp 112) (.tmp 113) rfl Try.underlying61 (n32 s.a) (n32 x.a) (n32 (s.a + x.a)) (hv 2 112 (.int .u32 (n32 s.a)) (by rw [hVe]; simp) d2) (hv 3 113 (.int .u32 (n32 x.a)) (by rw [hVe]; simp) d3) (add32 _ _) ?_
          exact ⟨hoff.put 114 _ (by simp), vals_put hV 4 114 _ (by omega) (by rw [hVe]; simp) (by rw [hVe]; simp), hm, n0, n1⟩
        · obtain rfl := Option.some.inj ho
          refine wp_move (.tmp 0) rfl ?_
          rw [((hoff.eval 0 (by simp)).trans hA0)]
          exact ⟨hoff.put 115 _ (by simp), vals_put hV 5 115 _ (by omega) (by rw [hVe]; simp) (by rw [hVe]; simp), hm, n0, n1⟩
        · obtain rfl := Option.some.inj ho
          have d5 : f 5 = true := hdep ⟨5, .data⟩ (by simp) rfl
          refine wp_indexAddr 57 (.tmp 115) (.const (.int .i64 1)) rfl _ _ (.pointer (some ⟨g, 1, none⟩)) (hv 5 115 (.slice (some ⟨g, 0, none⟩) 8 cap) (by rw [hVe]; simp) d5) rfl (iaddr32 g 1 8 cap 1 rfl (by decide)) ?_
          exact ⟨hoff.put 116 _ (by simp), vals_put hV 6 116 _ (by omega) (by rw [hVe]; simp) (by rw [hVe]; simp), hm, n0, n1⟩
        · obtain rfl := Option.some.inj ho
          have d6 : f 6 = true := hdep ⟨6, .data⟩ (by simp) rfl
          refine wp_load1 61 (.tmp 116) rfl _ (.int .u32 (n32 s.b)) (hv 6 116 (.pointer (some ⟨g, 1, none⟩)) (by rw [hVe]; simp) d6) (load32 _ _ _ (hw.cell 1 (by simp [S8.list]))) ?_
          exact ⟨hoff.put 117 _ (by simp), vals_put hV 7 117 _ (by omega) (by rw [hVe]; simp) (by rw [hVe]; simp), hm, n0, n1⟩
        · obtain rfl := Option.some.inj ho
          refine wp_move (.tmp 8) rfl ?_
          rw [((hoff.eval 8 (by simp)).trans hA8)]
          exact ⟨hoff.put 118 _ (by simp), vals_put hV 8 118 _ (by omega) (by rw [hVe]; simp) (by rw [hVe]; simp), hm, n0, n1⟩
        · obtain rfl := Option.some.inj ho
          have d7 : f 7 = true := hdep ⟨7, .data⟩ (by simp) rfl
          have d8 : f 8 = true := hdep ⟨8, .data⟩ (by simp) rfl
          refine wp_addU32 61 61 (.tmp 117) (.tmp 118) rfl Try.underlying61 (n32 s.b) (n32 x.b) (n32 (s.b + x.b)) (hv 7 117 (.int .u32 (n32 s.b)) (by rw [hVe]; simp) d7) (hv 8 118 (.int .u32 (n32 x.b)) (by rw [hVe]; simp) d8) (add32 _ _) ?_
          exact ⟨hoff.put 119 _ (by simp), vals_put hV 9 119 _ (by omega) (by rw [hVe]; simp) (by rw [hVe]; simp), hm, n0, n1⟩
        · obtain rfl := Option.some.inj ho
          refine wp_move (.tmp 0) rfl ?_
          rw [((hoff.eval 0 (by simp)).trans hA0)]
          exact ⟨hoff.put 120 _ (by simp), vals_put hV 10 120 _ (by omega) (by rw [hVe]; simp) (by rw [hVe]; simp), hm, n0, n1⟩
        · obtain rfl := Option.some.inj ho
          have d10 : f 10 = true := hdep ⟨10, .data⟩ (by simp) rfl
          refine wp_indexAddr 57 (.tmp 120) (.const (.int .i64 2)) rfl _ _ (.pointer (some ⟨g, 2, none⟩)) (hv 10 120 (.slice (some ⟨g, 0, none⟩) 8 cap) (by rw [hVe]; simp) d10) rfl (iaddr32 g 2 8 cap 2 rfl (by decide)) ?_
          exact ⟨hoff.put 121 _ (by simp), vals_put hV 11 121 _ (by omega) (by rw [hVe]; simp) (by rw [hVe]; simp), hm, n0, n1⟩
        · obtain rfl := Option.some.inj ho
          have d11 : f 11 = true := hdep ⟨11, .data⟩ (by simp) rfl
          refine wp_load1 61 (.tmp 121) rfl _ (.int .u32 (n32 s.c)) (hv 11 121 (.pointer (some ⟨g, 2, none⟩)) (by rw [hVe]; simp) d11) (load32 _ _ _ (hw.cell 2 (by simp [S8.list]))) ?_
          exact ⟨hoff.put 122 _ (by simp), vals_put hV 12 122 _ (by omega) (by rw [hVe]; simp) (by rw [hVe]; simp), hm, n0, n1⟩
        · obtain rfl := Option.some.inj ho
          refine wp_move (.tmp 9) rfl ?_
          rw [((hoff.eval 9 (by simp)).trans hA9)]
          exact ⟨hoff.put 123 _ (by simp), vals_put hV 13 123 _ (by omega) (by rw [hVe]; simp) (by rw [hVe]; simp), hm, n0, n1⟩
        · obtain rfl := Option.some.inj ho
          have d12 : f 12 = true := hdep ⟨12, .data⟩ (by simp) rfl
          have d13 : f 13 = true := hdep ⟨13, .data⟩ (by simp) rfl
          refine wp_addU32 61 61 (.tmp 122) (.tmp 123) rfl Try.underlying61 (n32 s.c) (n32 x.c) (n32 (s.c + x.c)) (hv 12 122 (.int .u32 (n32 s.c)) (by rw [hVe]; simp) d12) (hv 13 123 (.int .u32 (n32 x.c)) (by rw [hVe]; simp) d13) (add32 _ _) ?_
          exact ⟨hoff.put 124 _ (by simp), vals_put hV 14 124 _ (by omega) (by rw [hVe]; simp) (by rw [hVe]; simp), hm, n0, n1⟩
        · obtain rfl := Option.some.inj ho
          refine wp_move (.tmp 0) rfl ?_
          rw [((hoff.eval 0 (by simp)).trans hA0)]
          exact ⟨hoff.put 125 _ (by simp), vals_put hV 15 125 _ (by omega) (by rw [hVe]; simp) (by rw [hVe]; simp), hm, n0, n1⟩
        · obtain rfl := Option.some.inj ho
          have d15 : f 15 = true := hdep ⟨15, .data⟩ (by simp) rfl
          refine wp_indexAddr 57 (.tmp 125) (.const (.int .i64 3)) rfl _ _ (.pointer (some ⟨g, 3, none⟩)) (hv 15 125 (.slice (some ⟨g, 0, none⟩) 8 cap) (by rw [hVe]; simp) d15) rfl (iaddr32 g 3 8 cap 3 rfl (by decide)) ?_
          exact ⟨hoff.put 126 _ (by simp), vals_put hV 16 126 _ (by omega) (by rw [hVe]; simp) (by rw [hVe]; simp), hm, n0, n1⟩
        · obtain rfl := Option.some.inj ho
          have d16 : f 16 = true := hdep ⟨16, .data⟩ (by simp) rfl
          refine wp_load1 61 (.tmp 126) rfl _ (.int .u32 (n32 s.d)) (hv 16 126 (.pointer (some ⟨g, 3, none⟩)) (by rw [hVe]; simp) d16) (load32 _ _ _ (hw.cell 3 (by simp [S8.list]))) ?_
          exact ⟨hoff.put 127 _ (by simp), vals_put hV 17 127 _ (by omega) (by rw [hVe]; simp) (by rw [hVe]; simp), hm, n0, n1⟩
        · obtain rfl := Option.some.inj ho
          refine wp_move (.tmp 10) rfl ?_
          rw [((hoff.eval 10 (by simp)).trans hA10)]
          exact ⟨hoff.put 128 _ (by simp), vals_put hV 18 128 _ (by omega) (by rw [hVe]; simp) (by rw [hVe]; simp), hm, n0, n1⟩
        · obtain rfl := Option.some.inj ho
          have d17 : f 17 = true := hdep ⟨17, .data⟩ (by simp) rfl
          have d18 : f 18 = true := hdep ⟨18, .data⟩ (by simp) rfl
          refine wp_addU32 61 61 (.tmp 127) (.tmp 128) rfl Try.underlying61 (n32 s.d) (n32 x.d) (n32 (s.d + x.d)) (hv 17 127 (.int .u32 (n32 s.d)) (by rw [hVe]; simp) d17) (hv 18 128 (.int .u32 (n32 x.d)) (by rw [hVe]; simp) d18) (add32 _ _) ?_
          exact ⟨hoff.put 129 _ (by simp), vals_put hV 19 129 _ (by omega) (by rw [hVe]; simp) (by rw [hVe]; simp), hm, n0, n1⟩
        · obtain rfl := Option.some.inj ho
          refine wp_move (.tmp 0) rfl ?_
          rw [((hoff.eval 0 (by simp)).trans hA0)]
          exact ⟨hoff.put 130 _ (by simp), vals_put hV 20 130 _ (by omega) (by rw [hVe]; simp) (by rw [hVe]; simp), hm, n0, n1⟩
        · obtain rfl := Option.some.inj ho
          have d20 : f 20 = true := hdep ⟨20, .data⟩ (by simp) rfl
          refine wp_indexAddr 57 (.tmp 130) (.const (.int .i64 4)) rfl _ _ (.pointer (some ⟨g, 4, none⟩)) (hv 20 130 (.slice (some ⟨g, 0, none⟩) 8 cap) (by rw [hVe]; simp) d20) rfl (iaddr32 g 4 8 cap 4 rfl (by decide)) ?_
          exact ⟨hoff.put 131 _ (by simp), vals_put hV 21 131 _ (by omega) (by rw [hVe]; simp) (by rw [hVe]; simp), hm, n0, n1⟩
        · obtain rfl := Option.some.inj ho
          have d21 : f 21 = true := hdep ⟨21, .data⟩ (by simp) rfl
          refine wp_load1 61 (.tmp 131) rfl _ (.int .u32 (n32 s.e)) (hv 21 131 (.pointer (some ⟨g, 4, none⟩)) (by rw [hVe]; simp) d21) (load32 _ _ _ (hw.cell 4 (by simp [S8.list]))) ?_
          exact ⟨hoff.put 132 _ (by simp), vals_put hV 22 132 _ (by omega) (by rw [hVe]; simp) (by rw [hVe]; simp), hm, n0, n1⟩
        · obtain rfl := Option.some.inj ho
          refine wp_move (.tmp 11) rfl ?_
          rw [((hoff.eval 11 (by simp)).trans hA11)]
          exact ⟨hoff.put 133 _ (by simp), vals_put hV 23 133 _ (by omega) (by rw [hVe]; simp) (by rw [hVe]; simp), hm, n0, n1⟩
        · obtain rfl := Option.some.inj ho
          have d22 : f 22 = true := hdep ⟨22, .data⟩ (by simp) rfl
          have d23 : f 23 = true := hdep ⟨23, .data⟩ (by simp) rfl
          refine wp_addU32 61 61 (.tmp 132) (.tmp 133) rfl Try.underlying61 (n32 s.e) (n32 x.e) (n32 (s.e + x.e)) (hv 22 132 (.int .u32 (n32 s.e)) (by rw [hVe]; simp) d22) (hv 23 133 (.int .u32 (n32 x.e)) (by rw [hVe]; simp) d23) (add32 _ _) ?_
          exact ⟨hoff.put 134 _ (by simp), vals_put hV 24 134 _ (by omega) (by rw [hVe]; simp) (by rw [hVe]; simp), hm, n0, n1⟩
        · obtain rfl := Option.some.inj ho
          refine wp_move (.tmp 0) rfl ?_
          rw [((hoff.eval 0 (by simp)).trans hA0)]
          exact ⟨hoff.put 135 _ (by simp), vals_put hV 25 135 _ (by omega) (by rw [hVe]; simp) (by rw [hVe]; simp), hm, n0, n1⟩
        · obtain rfl := Option.some.inj ho
          have d25 : f 25 = true := hdep ⟨25, .data⟩ (by simp) rfl
          refine wp_indexAddr 57 (.tmp 135) (.const (.int .i64 5)) rfl _ _ (.pointer (some ⟨g, 5, none⟩)) (hv 25 135 (.slice (some ⟨g, 0, none⟩) 8 cap) (by rw [hVe]; simp) d25) rfl (iaddr32 g 5 8 cap 5 rfl (by decide)) ?_
          exact ⟨hoff.put 136 _ (by simp), vals_put hV 26 136 _ (by omega) (by rw [hVe]; simp) (by rw [hVe]; simp), hm, n0, n1⟩
        · obtain rfl := Option.some.inj ho
          have d26 : f 26 = true := hdep ⟨26, .data⟩ (by simp) rfl
          refine wp_load1 61 (.tmp 136) rfl _ (.int .u32 (n32 s.f)) (hv 26 136 (.pointer (some ⟨g, 5, none⟩)) (by rw [hVe]; simp) d26) (load32 _ _ _ (hw.cell 5 (by simp [S8.list]))) ?_
          exact ⟨hoff.put 137 _ (by simp), vals_put hV 27 137 _ (by omega) (by rw [hVe]; simp) (by rw [hVe]; simp), hm, n0, n1⟩
        · obtain rfl := Option.some.inj ho
          refine wp_move (.tmp 12) rfl ?_
          rw [((hoff.eval 12 (by simp)).trans hA12)]
          exact ⟨hoff.put 138 _ (by simp), vals_put hV 28 138 _ (by omega) (by rw [hVe]; simp) (by rw [hVe]; simp), hm, n0, n1⟩
        · obtain rfl := Option.some.inj ho
          have d27 : f 27 = true := hdep ⟨27, .data⟩ (by simp) rfl
          have d28 : f 28 = true := hdep ⟨28, .data⟩ (by simp) rfl
          refine wp_addU32 61 61 (.tmp 137) (.tmp 138) rfl Try.underlying61 (n32 s.f) (n32 x.f) (n32 (s.f + x.f)) (hv 27 137 (.int .u32 (n32 s.f)) (by rw [hVe]; simp) d27) (hv 28 138 (.int .u32 (n32 x.f)) (by rw [hVe]; simp) d28) (add32 _ _) ?_
          exact ⟨hoff.put 139 _ (by simp), vals_put hV 29 139 _ (by omega) (by rw [hVe]; simp) (by rw [hVe]; simp), hm, n0, n1⟩
        · obtain rfl := Option.some.inj ho
          refine wp_move (.tmp 0) rfl ?_
          rw [((hoff.eval 0 (by simp)).trans hA0)]
          exact ⟨hoff.put 140 _ (by simp), vals_put hV 30 140 _ (by omega) (by rw [hVe]; simp) (by rw [hVe]; simp), hm, n0, n1⟩
        · obtain rfl := Option.some.inj ho
          have d30 : f 30 = true := hdep ⟨30, .data⟩ (by simp) rfl
          refine wp_indexAddr 57 (.tmp 140) (.const (.int .i64 6)) rfl _ _ (.pointer (some ⟨g, 6, none⟩)) (hv 30 140 (.slice (some ⟨g, 0, none⟩) 8 cap) (by rw [hVe]; simp) d30) rfl (iaddr32 g 6 8 cap 6 rfl (by decide)) ?_
          exact ⟨hoff.put 141 _ (by simp), vals_put hV 31 141 _ (by omega) (by rw [hVe]; simp) (by rw [hVe]; simp), hm, n0, n1⟩
        · obtain rfl := Option.some.inj ho
          have d31 : f 31 = true := hdep ⟨31, .data⟩ (by simp) rfl
          refine wp_load1 61 (.tmp 141) rfl _ (.int .u32 (n32 s.g)) (hv 31 141 (.pointer (some ⟨g, 6, none⟩)) (by rw [hVe]; simp) d31) (load32 _ _ _ (hw.cell 6 (by simp [S8.list]))) ?_
          exact ⟨hoff.put 142 _ (by simp), vals_put hV 32 142 _ (by omega) (by rw [hVe]; simp) (by rw [hVe]; simp), hm, n0, n1⟩
        · obtain rfl := Option.some.inj ho
          refine wp_move (.tmp 13) rfl ?_
          rw [((hoff.eval 13 (by simp)).trans hA13)]
          exact ⟨hoff.put 143 _ (by simp), vals_put hV 33 143 _ (by omega) (by rw [hVe]; simp) (by rw [hVe]; simp), hm, n0, n1⟩
        · obtain rfl := Option.some.inj ho
          have d32 : f 32 = true := hdep ⟨32, .data⟩ (by simp) rfl
          have d33 : f 33 = true := hdep ⟨33, .data⟩ (by simp) rfl
          refine wp_addU32 61 61 (.tmp 142) (.tmp 143) rfl Try.underlying61 (n32 s.g) (n32 x.g) (n32 (s.g + x.g)) (hv 32 142 (.int .u32 (n32 s.g)) (by rw [hVe]; simp) d32) (hv 33 143 (.int .u32 (n32 x.g)) (by rw [hVe]; simp) d33) (add32 _ _) ?_
          exact ⟨hoff.put 144 _ (by simp), vals_put hV 34 144 _ (by omega) (by rw [hVe]; simp) (by rw [hVe]; simp), hm, n0, n1⟩
        · obtain rfl := Option.some.inj ho
          refine wp_move (.tmp 0) rfl ?_
          rw [((hoff.eval 0 (by simp)).trans hA0)]
          exact ⟨hoff.put 145 _ (by simp), vals_put hV 35 145 _ (by omega) (by rw [hVe]; simp) (by rw [hVe]; simp), hm, n0, n1⟩
        · obtain rfl := Option.some.inj ho
          have d35 : f 35 = true := hdep ⟨35, .data⟩ (by simp) rfl
          refine wp_indexAddr 57 (.tmp 145) (.const (.int .i64 7)) rfl _ _ (.pointer (some ⟨g, 7, none⟩)) (hv 35 145 (.slice (some ⟨g, 0, none⟩) 8 cap) (by rw [hVe]; simp) d35) rfl (iaddr32 g 7 8 cap 7 rfl (by decide)) ?_
          exact ⟨hoff.put 146 _ (by simp), vals_put hV 36 146 _ (by omega) (by rw [hVe]; simp) (by rw [hVe]; simp), hm, n0, n1⟩
        · obtain rfl := Option.some.inj ho
          have d36 : f 36 = true := hdep ⟨36, .data⟩ (by simp) rfl
          refine wp_load1 61 (.tmp 146) rfl _ (.int .u32 (n32 s.h)) (hv 36 146 (.pointer (some ⟨g, 7, none⟩)) (by rw [hVe]; simp) d36) (load32 _ _ _ (hw.cell 7 (by simp [S8.list]))) ?_
          exact ⟨hoff.put 147 _ (by simp), vals_put hV 37 147 _ (by omega) (by rw [hVe]; simp) (by rw [hVe]; simp), hm, n0, n1⟩
        · obtain rfl := Option.some.inj ho
          refine wp_move (.tmp 14) rfl ?_
          rw [((hoff.eval 14 (by simp)).trans hA14)]
          exact ⟨hoff.put 148 _ (by simp), vals_put hV 38 148 _ (by omega) (by rw [hVe]; simp) (by rw [hVe]; simp), hm, n0, n1⟩
        · obtain rfl := Option.some.inj ho
          have d37 : f 37 = true := hdep ⟨37, .data⟩ (by simp) rfl
          have d38 : f 38 = true := hdep ⟨38, .data⟩ (by simp) rfl
          refine wp_addU32 61 61 (.tmp 147) (.tmp 148) rfl Try.underlying61 (n32 s.h) (n32 x.h) (n32 (s.h + x.h)) (hv 37 147 (.int .u32 (n32 s.h)) (by rw [hVe]; simp) d37) (hv 38 148 (.int .u32 (n32 x.h)) (by rw [hVe]; simp) d38) (add32 _ _) ?_
          exact ⟨hoff.put 149 _ (by simp), vals_put hV 39 149 _ (by omega) (by rw [hVe]; simp) (by rw [hVe]; simp), hm, n0, n1⟩
        · obtain rfl := Option.some.inj ho
          have d4 : f 4 = true := hdep ⟨4, .data⟩ (by simp) rfl
          have d9 : f 9 = true := hdep ⟨9, .data⟩ (by simp) rfl
          have d14 : f 14 = true := hdep ⟨14, .data⟩ (by simp) rfl
          have d19 : f 19 = true := hdep ⟨19, .data⟩ (by simp) rfl
          have d24 : f 24 = true := hdep ⟨24, .data⟩ (by simp) rfl
          have d29 : f 29 = true := hdep ⟨29, .data⟩ (by simp) rfl
          have d34 : f 34 = true := hdep ⟨34, .data⟩ (by simp) rfl
          have d39 : f 39 = true := hdep ⟨39, .data⟩ (by simp) rfl
          have f41 : f 41 = false := by
            cases hf : f 41 with
            | false => rfl
            | true => exact absurd (hm hf) (by rw [hfi]; simp)
          have hW := n0 hfi
          subst hW
          refine wp_buildR 57 8 #[(0, .tmp 114), (1, .tmp 119), (2, .tmp 124), (3, .tmp 129), (4, .tmp 134), (5, .tmp 139), (6, .tmp 144), (7, .tmp 149)] rfl #[(0, .int .u32 (n32 (s.a + x.a))), (1, .int .u32 (n32 (s.b + x.b))), (2, .int .u32 (n32 (s.c + x.c))), (3, .int .u32 (n32 (s.d + x.d))), (4, .int .u32 (n32 (s.e + x.e))), (5, .int .u32 (n32 (s.f + x.f))), (6, .int .u32 (n32 (s.g + x.g))), (7, .int .u32 (n32 (s.h + x.h)))] (by simp [hv 4 114 (.int .u32 (n32 (s.a + x.a))) (by rw [hVe]; simp) d4, hv 9 119 (.int .u32 (n32 (s.b + x.b))) (by rw [hVe]; simp) d9, hv 14 124 (.int .u32 (n32 (s.c + x.c))) (by rw [hVe]; simp) d14, hv 19 129 (.int .u32 (n32 (s.d + x.d))) (by rw [hVe]; simp) d19, hv 24 134 (.int .u32 (n32 (s.e + x.e))) (by rw [hVe]; simp) d24, hv 29 139 (.int .u32 (n32 (s.f + x.f))) (by rw [hVe]; simp) d29, hv 34 144 (.int .u32 (n32 (s.g + x.g))) (by rw [hVe]; simp) d34, hv 39 149 (.int .u32 (n32 (s.h + x.h))) (by rw [hVe]; simp) d39]) _ _ (build32_8 _ _ _ _ _ _ _ _ _) ?_
          exact ⟨hoff.put 150 _ (by simp), vals_put hV 40 150 _ (by omega) (by rw [hVe]; simp) (by rw [hVe]; simp), fun h => absurd h (by show ¬ f 41 = true; rw [f41]; simp), fun h => (by cases h), fun _ => rfl⟩
        · obtain rfl := Option.some.inj ho
          have d40 : f 40 = true := hdep ⟨40, .data⟩ (by simp) rfl
          refine wp_assign (.tmp 150) rfl ?_
          rw [hv 40 150 (.slice (some ⟨wd.heap.size, 0, none⟩) 8 8) (by rw [hVe]; simp) d40]
          exact ⟨hoff.put 4 _ (by simp), vals_put hV 41 4 _ (by omega) (by rw [hVe]; simp) (by rw [hVe]; simp), fun _ => d40, n0, n1⟩
        · simp at ho
      case fin =>
        rintro f a w3 ⟨hoff, hV, hm, n0, n1⟩ hall
        have e := Off.all _ _ hoff
        have e4 : a.eval (.tmp 4) = .slice (some ⟨wd.heap.size, 0, none⟩) 8 8 := hV (41, 4, .slice (some ⟨wd.heap.size, 0, none⟩) 8 8) (by rw [hVe]; simp) (hall 41 (by decide))
        have hw3 := n1 (hall 40 (by decide))
        simp only [List.foldl_cons, List.foldl_nil] at e
        rw [← hA, e4] at e
        generalize a.eval (.tmp 110) = y110, a.eval (.tmp 111) = y111, a.eval (.tmp 112) = y112, a.eval (.tmp 113) = y113, a.eval (.tmp 114) = y114, a.eval (.tmp 115) = y115, a.eval (.tmp 116) = y116, a.eval (.tmp 117) = y117, a.eval (.tmp 118) = y118, a.eval (.tmp 119) = y119, a.eval (.tmp 120) = y120, a.eval (.tmp 121) = y121, a.eval (.tmp 122) = y122, a.eval (.tmp 123) = y123, a.eval (.tmp 124) = y124, a.eval (.tmp 125) = y125, a.eval (.tmp 126) = y126, a.eval (.tmp 127) = y127, a.eval (.tmp 128) = y128, a.eval (.tmp 129) = y129, a.eval (.tmp 130) = y130, a.eval (.tmp 131) = y131, a.eval (.tmp 132) = y132, a.eval (.tmp 133) = y133, a.eval (.tmp 134) = y134, a.eval (.tmp 135) = y135, a.eval (.tmp 136) = y136, a.eval (.tmp 137) = y137, a.eval (.tmp 138) = y138, a.eval (.tmp 139) = y139, a.eval (.tmp 140) = y140, a.eval (.tmp 141) = y141, a.eval (.tmp 142) = y142, a.eval (.tmp 143) = y143, a.eval (.tmp 144) = y144, a.eval (.tmp 145) = y145, a.eval (.tmp 146) = y146, a.eval (.tmp 147) = y147, a.eval (.tmp 148) = y148, a.eval (.tmp 149) = y149, a.eval (.tmp 150) = y150 at e
        simp only [Act.put, List.setIfInBounds_toArray, List.set_cons_succ, List.set_cons_zero] at e
        subst e
        subst hw3
        clear hwd hoff hV hA0 hA7 hA8 hA9 hA10 hA11 hA12 hA13 hA14 hA hVe n0 n1 hm e4
        go_wp2
        go_ret
        refine ⟨wd.heap.size, rfl, ?_, (unhide HBD).size, (unhide HBD).alloc (unhide HBD).size _⟩
        rw [unhide hmx]
        exact heap_alloc_new _ _

end Go.Proofs.Ytiaohpkcncbdnab

/- The law GaussTrue, walked: rows that may be, blocks of one size. -/
import Derived.Test.YtpcndjnhpjhjkaaDoorGmT
namespace Go.Proofs.YtpcndjnhpjhjkaaDoor
open Go.RowKit
set_option linter.unusedVariables false
attribute [local go_sem] Oper.semAt_some

theorem own_some {w : World} {base : Nat} {v : Value} {T : List By} (h : OwnS w base v T) (h0 : 0 < T.length) : ∃ g c, v = .slice (some ⟨g, 0, none⟩) T.length c := by
  rcases (show World.ownsRow _ _ _ _ _ _ _ from h).2 with ⟨_, h1⟩ | ⟨g, cap, cur, h1, _⟩
  · omega
  · exact ⟨g, cap, h1⟩
theorem turn_len (m : Nat) (h : 1 ≤ m) : ((1 : UInt8) :: List.replicate (m - 1) 0).length = m := by simp; omega
theorem zeroL_pred (m : Nat) (h1 : 1 ≤ m) (h2 : m ≤ 64) : zeroL ((m : Int) - 1) = List.replicate (m - 1) 0 := by
  by_cases h : m = 1
  · subst h
    unfold zeroL
    rw [if_neg (by rw [may_iff]; omega)]
    rfl
  · have := zeroL_nat (m - 1) (by omega) (by omega)
    rw [← this]
    congr 1
    omega
set_option maxRecDepth 100000 in
set_option maxHeartbeats 4000000 in
theorem gaussTrue_on (X : List By) (m : Nat) (h1 : 1 ≤ m) (h64 : m ≤ 64) (hX : ∀ s ∈ X, s.length = m) (hX0 : 0 < X.length) (x0 : Option Addr) (xc : Nat) (Rs : List (List Int)) (R : List (List Nat)) (hR : Rws X.length Rs R) (a0 : Option Addr) (c : Nat) (which : Int) (w : World) (hT : Tz w) (hXT : Txts w x0 X) (kX : X.length ≤ maxLen) (hI : RowsA w a0 Rs) (hO : RowsOk Rs a0 c) (hfe : fewB X.length Rs = true) (hse : szB X = true) :
    Calls Tryd.prog 8 #[.slice x0 X.length xc, .slice a0 Rs.length c, .int .i64 which] w fun e w' => e = .returned (.bool true) ∧ Below w.heap.size w w' := by
  have hxm := kX
  unfold maxLen at hxm
  have hf := hide (gfew_any X.length Rs a0 c (by have := hO.1; have := hO.2.1; omega) hO.2.2.1 w hI)
  have hm := hide (may_any X.length Rs a0 c ⟨by omega, by omega⟩ (by have := hO.1; have := hO.2.1; omega) hO.2.2.1 w hI)
  have hs := hide (rsized_any X x0 xc w hXT kX)
  rw [hfe] at hf
  rw [rws_may hR] at hm
  rw [hse] at hs
  have haw := hide (fun W (hb : Below w.heap.size w W) => gawake_any W (hT.below hb))
  have h60 : X.length ≤ 60 ∧ Rs.length ≤ 40 := by
    unfold fewB at hfe
    have := of_decide_eq_true hfe
    omega
  have hlen : Rs.length = R.length := by rw [hR.eq, List.length_map]
  have hmem : ∀ t, t < R.length → R.getD t [] ∈ R := fun t h => by simp [List.getD, h]
  have hrl : ∀ r ∈ R, r.length ≤ 160 := fun r hr => by
    have := hR.n160
    rw [sorted_nums (hR.lt r hr) (hR.ord r hr)]
    have := numsR_len X.length (rowN r)
    omega
  have hsum : Hid (∀ k, k < R.length → ∀ b d W, Below w.heap.size w W → Ints W b (zs (R.getD k [])) → Calls Tryd.prog 28 #[.slice x0 X.length xc, .slice b (R.getD k []).length d, .int .i64 m] W fun e w' => e = .returned (.string (bs (evL X m (R.getD k [])))) ∧ Below W.heap.size W w') := fun k hk b d W hW hb =>
    rsum_any X m h1 h64 hX x0 xc (R.getD k []) (fun i hi => hR.lt _ (hmem k hk) i hi) b d (by have := hrl _ (hmem k hk); omega) (by omega) W (hXT.below hW) hb
  have hlD : ∀ k, k < R.length → (evL X m (R.getD k [])).length = m := fun k hk => evL_len hX _ _ (by simp) (fun i hi => hR.lt _ (hmem k hk) i hi)
  have HLD := hide hlD
  have hts := true_solved (E := eqs R (fun j => evL X m (R.getD j []))) h1 hX rfl hR (fun t ht => eqs_getD R _ t ht)
  have hsol : Hid (∀ a1 c1 W, EqnsA W a1 (eqs R (fun j => evL X m (R.getD j []))) → Calls Tryd.prog 21 #[.int .i64 X.length, .int .i64 m, .slice a1 R.length c1] W fun e w' => ∃ v, e = .returned (.tuple #[v, .int .i64 0]) ∧ OwnS w' W.heap.size v (slv X.length (kep (eL R (eqs R (fun j => evL X m (R.getD j []))) R.length) X.length)) ∧ Below W.heap.size W w') := fun a1 c1 W hE => by
    refine (solve_eqs X.length m Rs R hR _ h1 h64 hlD a1 c1 W hE).mono fun e w' h => ?_
    rcases h with ⟨h, _⟩ | ⟨_, h⟩
    · rw [hts.1] at h; cases h
    · exact h
  have hsol2 : Hid (∀ (D : Nat → By), (∀ j, j < R.length → (D j).length = m) → ∀ a1 c1 W, EqnsA W a1 (eqs R D) → Calls Tryd.prog 21 #[.int .i64 X.length, .int .i64 m, .slice a1 R.length c1] W fun e w' => (e = .returned (.tuple #[.slice none 0 0, .int .i64 9]) ∧ Below W.heap.size W w') ∨ ∃ v Z, e = .returned (.tuple #[v, .int .i64 0]) ∧ OwnS w' W.heap.size v Z ∧ Z.length = X.length ∧ (∀ i, i < X.length → (Z.getD i [] = [] ↔ i ∉ fixN (kep (gL R) X.length))) ∧ Below W.heap.size W w') := fun D hD a1 c1 W hE => by
    refine (solve_eqs X.length m Rs R hR D h1 h64 hD a1 c1 W hE).mono fun e w' h => ?_
    rcases h with ⟨_, h⟩ | ⟨_, v, he, hO, hB⟩
    · exact .inl h
    · exact .inr ⟨v, _, he, hO, slv_len _ _, slv_rows (E := eqs R D) h1 hR (fun t ht => by rw [eqs_getD R D t ht]; exact hD t ht), hB⟩
  have hfx : Hid (∀ W, Below w.heap.size w W → Calls Tryd.prog 14 #[.int .i64 X.length, .slice a0 Rs.length c] W fun e w' => ∃ v, e = .returned (.tuple #[v, .int .i64 0]) ∧ w'.ownsRow W.heap.size 3 1 v (fixN (kep (gL R) X.length)).length (ic (zs (fixN (kep (gL R) X.length)))) ∧ Below W.heap.size W w') := fun W hb => fixed_yes X.length _ _ hR a0 c W (hI.below hb)
  have hFl : (fixN (kep (gL R) X.length)).length ≤ 160 := by
    have h160 := hR.n160
    obtain ⟨_, _, h3, _, _, _, h7⟩ := kep_rd (n := X.length) (m := 0) (by omega) (gL_szd R) hR.bd
    have := fixN_len (kep (gL R) X.length)
    omega
  have HOUT := hide hts.2
  have hYl : (slv X.length (kep (eL R (eqs R (fun j => evL X m (R.getD j []))) R.length) X.length)).length = X.length := slv_len _ _
  have HROW : Hid (∀ k, k < R.length → ∃ g o, a0 = some ⟨g, o, none⟩ ∧ ∃ b cc, w.cell? ⟨g, o + k, none⟩ = some (.slice b (R.getD k []).length cc) ∧ Ints w b (zs (R.getD k []))) := fun k hk => by
    obtain ⟨g, o, e0, b, cc, e1, e2⟩ := hI k (by omega)
    have er : Rs[k]'(by omega) = zs (R.getD k []) := by
      have := hR.eq
      subst this
      simp [List.getD, hk]
    rw [er] at e1 e2
    rw [zs_length] at e1
    exact ⟨g, o, e0, b, cc, e1, e2⟩
  have HXT := hide hXT
  have HX := hide hX
  generalize slv X.length (kep (eL R (eqs R (fun j => evL X m (R.getD j []))) R.length) X.length) = Y at *
  generalize fixN (kep (gL R) X.length) = F at *
  generalize hnn : X.length = n at *
  have HNN := hide hnn
  rw [hlen] at *
  generalize hM : R.length = M at *
  have HM := hide hM
  have HYl := hide hYl
  obtain ⟨i0, hi0, hz0, hz1, hz2⟩ : ∃ i, Tryd.prog.info? 58 = some i ∧ i.zero = some (.agg #[.slice none 0 0, .string ⟨#[]⟩]) ∧ i.size = 2 ∧ i.bytes = 40 := by
    have h := Tryd.infoE
    cases hh : Tryd.prog.info? 58 with
    | none => rw [hh] at h; cases h
    | some i =>
      rw [hh] at h
      simp only [Option.map_some, Option.some.injEq, Prod.mk.injEq] at h
      exact ⟨i, rfl, h.1, h.2.1, h.2.2⟩
  obtain ⟨gx, ox, rfl, xcell⟩ := hXT 0 (by rw [hnn]; exact hX0)
  rw [Nat.add_zero] at xcell
  have sx : (bs X[0]).size = m := by rw [bs_size]; exact hX _ (List.getElem_mem _)
  generalize bs X[0] = S0 at *
  have q0 : (0 : Int) < n := by omega
  have h60a := h60.1
  have h60b := h60.2
  clear hR hts hI hO hfe hse hlD hmem hrl hlen hXT hX hnn hM hYl hT h60
  go_enter Tryd.func8, Tryd.ntmps8
  go_wp2_with fail
  refine (unhide hf).mono ?_
  rintro e w1 ⟨rfl, rfl⟩
  go_wp2_with fail
  refine (unhide hm).mono ?_
  rintro e w1 ⟨rfl, rfl⟩
  go_wp2_with fail
  refine (unhide hs).mono ?_
  rintro e w1 ⟨rfl, b1⟩
  have B1 := hide b1
  have xc1 := cell_below xcell b1
  clear b1
  go_wp2_with fail
  go_loopw [9, 10] (fun v u wr => ∃ (k : Nat) (Cs : List Value), k ≤ M ∧ u = .int .i64 k ∧ wr.ownsRow w1.heap.size 58 2 v k Cs ∧ EqC w R (fun j => evL X m (R.getD j [])) k Cs ∧ Below w1.heap.size w1 wr) (fun _ u _ => M - (intOf u).toNat)
  case atStart => exact ⟨0, [], by omega, rfl, World.ownsRow_nil _ _ _ _, fun j hj => absurd hj (by omega), Below.refl _ _⟩
  case round =>
    obtain ⟨k, Cs, hk, rfl, hO, hC, hB⟩ := hrel
    obtain ⟨ao, cap, rfl⟩ := own_shape4 hO
    have BW := (unhide B1).trans (hB.mono (unhide B1).size)
    have HBW := hide BW
    have HO := hide hO
    have HC := hide hC
    have HB := hide hB
    by_cases hlt : k < M
    · obtain ⟨g, o, rfl, b, cc, c0, hIk⟩ := unhide HROW k hlt
      have d0 := cell_below c0 BW
      have hIw := hIk.below BW
      have q1 : (k : Int) < M := by omega
      have hsm := hide (fun Z : Gb wr => unhide hsum k hlt b cc Z.w ((unhide HBW).trans (Z.ok.mono (unhide HBW).size)) (hIw.below Z.ok))
      have HCN := hide (hC.snoc (by have := hO.1; omega) (c := cc) hIk)
      generalize hDD : bs (evL X m (R.getD k [])) = DD at *
      generalize (R.getD k []).length = rl at *
      have hcl : Cs.length = k * 2 := by have := hO.1; omega
      clear hO hB hC BW c0 hIk hDD
      subst sx
      go_wp2_with fail
      refine wp_region_late 13 ?A0 (by kernel_rfl) (by kernel_rfl) (by kernel_rfl) ?lex ?_
      case lex =>
        intro Z
        have hneX := gb_ne Z.w
        have X1 : ∀ y : Gb Z.w, y.w.cell? ⟨g, o + k, none⟩ = _ := fun y => gb_cell (cell_below d0 Z.ok) y
        have hr2 := hide (fun y : Gb Z.w => unhide hsm ⟨y.w, Z.ok.trans (y.ok.mono Z.ok.size)⟩)
        dsimp only [List.take_succ_cons, List.take_zero]
        repeat (go_big_quiet_step ((go_at_call 28; exact gb_call (unhide hr2 _))))
        refine wpQuiet_nil ?_
        exact rfl
      intro w8 b8
      try simp only [List.drop_succ_cons, List.drop_zero]
      have HO8 := hide (own_below2 (unhide HO) b8)
      have B8 := hide ((unhide HB).trans (b8.mono (unhide HB).size))
      have hz8 := (unhide B8).size
      clear HO b8 d0 hIw
      go_wp2_with (at_builtin; refine wpList_append_own _ rfl _ _ 39 rfl w1.heap.size 58 i0 _ 2 40 Tryd.undE hi0 hz0 hz1 hz2 rfl (by decide) _ _ _ rfl ((unhide HO8).alloc _) ⟨w8.heap.size, 0, none⟩ 1 1 [.slice b rl cc, .string DD] rfl rfl (news_lit _ [_, _] _) ?d2 ?d3 ?d4 ?d5 ?_)
      case d2 => intro u hu; simp at hu; rcases hu with rfl | rfl <;> rfl
      case d3 => unfold maxLen; omega
      case d4 => omega
      case d5 => first | omega | (simp; omega)
      intro v' w3 hown' hgrow _
      have hb' := hide ((((unhide B8).alloc (by omega) _)).grown hgrow (by simp; omega) (fun k hk => (((unhide HO8).lt k hk).1)))
      have ho2 := hide hown'
      obtain ⟨ao', cap', rfl⟩ := own_shape4 hown'
      clear hown' hgrow HO8 B8
      go_wp2_with fail
      refine onlyN ?_
      go_wp2
      go_roundw
      case rel => exact ⟨k + 1, _, by omega, by go_num, unhide ho2, unhide HCN, unhide hb'⟩
      case measure => simp [intOf]; omega
    · have hkm : k = M := by omega
      subst hkm
      obtain ⟨_, _, e9, hEA⟩ := eqns_own (unhide HM) hO hC BW
      simp only [Value.slice.injEq, true_and] at e9
      obtain ⟨rfl, rfl⟩ := e9
      subst sx
      have hs1 := hide (unhide hsol ao cap wr hEA)
      have q1 : ¬ (k : Int) < k := by omega
      have hcl : Cs.length = k * 2 := by have := hO.1; omega
      clear hO hB hC BW hEA
      go_wp2_with fail
      refine (unhide hs1).mono ?_
      rintro e w2 ⟨v2, rfl, hY, b2⟩
      obtain ⟨gy, yc, rfl⟩ := own_some hY (by rw [unhide HYl]; exact hX0)
      obtain ⟨_, _, e9, hTY, _⟩ := hY.txts
      simp only [Value.slice.injEq, true_and] at e9
      obtain ⟨rfl, rfl⟩ := e9
      have HTY := hide hTY
      have HOY := hide hY
      have hgyr := ((show World.ownsRow _ _ _ _ _ _ _ from hY).lt gy rfl).1
      have HB2 := hide ((unhide HB).trans (b2.mono (unhide HB).size))
      have BW2 := hide ((unhide HBW).trans (b2.mono (unhide HBW).size))
      have HO2 := hide (own_below2 (unhide HO) b2)
      rw [unhide HYl]
      clear hY hTY b2
      go_wp2_with fail
      refine (unhide hfx w2 (unhide BW2)).mono ?_
      rintro e w3 ⟨v3, rfl, hF3, b3⟩
      obtain ⟨f0, fc, rfl, hIF⟩ := ints_own (r := zs F) (by rw [zs_length]; exact hF3)
      rw [zs_length]
      have HIF := hide hIF
      have HB3 := hide ((unhide HB2).trans (b3.mono (unhide HB2).size))
      have BW3 := hide ((unhide BW2).trans (b3.mono (unhide BW2).size))
      have HO3 := hide (own_below2 (unhide HO2) b3)
      have HTY3 := hide ((unhide HTY).below b3)
      have HOY3 := hide (own_below2 (show World.ownsRow _ _ _ _ _ _ _ from unhide HOY) b3)
      generalize hfl : F.length = lf at *
      have HFL := hide hfl
      clear hF3 hIF b3 hfl
      go_wp2_with fail
      go_loopw [15] (fun v wr' => ∃ i q' : Nat, i ≤ n ∧ v = .int .i64 i ∧ w3.drewN q' = wr') (fun v _ => n - (intOf v).toNat)
      case atStart => exact ⟨0, 0, by omega, rfl, rfl⟩
      case round =>
        obtain ⟨i, q', hi, rfl, rfl⟩ := hrel
        by_cases hlt2 : i < n
        · have q2 : (i : Int) < n := by omega
          have hiX : i < X.length := by rw [unhide HNN]; exact hlt2
          have hiY : i < Y.length := by rw [unhide HYl]; exact hlt2
          obtain ⟨_, _, e9, x1⟩ := ((unhide HXT).below (unhide BW3)) i hiX
          simp only [Option.some.injEq, Addr.mk.injEq, and_true] at e9
          obtain ⟨rfl, rfl⟩ := e9
          obtain ⟨_, _, e8, y1⟩ := unhide HTY3 i hiY
          simp only [Option.some.injEq, Addr.mk.injEq, and_true] at e8
          obtain ⟨rfl, rfl⟩ := e8
          rw [Nat.zero_add] at y1
          have hout := unhide HOUT i hlt2
          have eY : Y.getD i [] = Y[i] := by simp [List.getD, hiY]
          have eX : X.getD i [] = X[i] := by simp [List.getD, hiX]
          rw [eY, eX] at hout
          have hh : Hid (∀ x, Calls Tryd.prog 25 #[.slice f0 lf fc, .int .i64 (i : Nat)] (w3.drewN (q' + x)) fun e w'' => e = .returned (.bool (decide (i ∈ F))) ∧ ∃ m, w'' = w3.drewN (q' + m)) := fun x => by
            have h := ghas_any (zs F) ((i : Nat) : Int) f0 fc (by rw [zs_length, unhide HFL]; unfold maxLen; omega) (w3.drewN (q' + x)) ((unhide HIF).below ⟨rfl, rfl, rfl, Nat.le_refl _, fun _ _ => rfl⟩)
            rw [zs_length, unhide HFL] at h
            have ed : decide ((i : Int) ∈ zs F) = decide (i ∈ F) := by
              by_cases h : i ∈ F
              · rw [decide_eq_true h, decide_eq_true (mem_zs.2 h)]
              · rw [decide_eq_false h, decide_eq_false (fun h' => h (mem_zs.1 h'))]
            rw [ed] at h
            exact h.mono fun _ _ ⟨he, hw⟩ => ⟨he, x, hw.symm⟩
          clear eY eX
          by_cases hin : i ∈ F
          · rw [if_pos hin] at hout
            rw [decide_eq_true hin] at hh
            rw [hout] at y1
            generalize bs X[i] = S at *
            have r3 : (S.toList == S.toList) = true := by simp
            clear hout hiX hiY
            go_wp2
            go_big_quiet ((go_at_call 25; exact unhide hh _))
            go_wp2
            go_roundw
            case rel => exact ⟨i + 1, _, by omega, by go_num, by first | rfl | exact (World.drewN_drewN _ _ _).symm | exact World.drewN_drewN _ _ _⟩
            case measure => simp [intOf]; omega
          · rw [if_neg hin] at hout
            rw [decide_eq_false hin] at hh
            rw [hout, show bs [] = ⟨#[]⟩ from rfl] at y1
            generalize bs X[i] = S at *
            clear hout hiX hiY
            go_wp2
            go_big_quiet ((go_at_call 25; exact unhide hh _))
            go_wp2
            go_roundw
            case rel => exact ⟨i + 1, _, by omega, by go_num, by first | rfl | exact (World.drewN_drewN _ _ _).symm | exact World.drewN_drewN _ _ _⟩
            case measure => simp [intOf]; omega
        · have q2 : ¬ (i : Int) < n := by omega
          have bd : Below w3.heap.size w3 (w3.drewN q') := ⟨rfl, rfl, rfl, Nat.le_refl _, fun _ _ => rfl⟩
          have BW4 := hide ((unhide BW3).trans (bd.mono (unhide BW3).size))
          have HB4 := hide ((unhide HB3).trans (bd.mono (unhide HB3).size))
          have HO4 := hide (own_below2 (unhide HO3) bd)
          have HOY4 := hide (own_below2 (unhide HOY3) bd)
          generalize w3.drewN q' = w4 at *
          clear bd
          by_cases hk0 : k = 0
          · subst hk0
            go_wp2_with fail
            refine (unhide haw _ (unhide BW4)).mono ?_
            rintro e w5 ⟨rfl, b5⟩
            have BW5 := hide ((unhide BW4).trans (b5.mono (unhide BW4).size))
            clear b5
            go_wp2
            go_ret
            exact ⟨rfl, unhide BW5⟩
          · obtain ⟨t, ht, htk, hm1, hm2⟩ := mod_pick2 which k (by omega)
            obtain ⟨gl, rfl⟩ : ∃ gl, ao = some ⟨gl, 0, none⟩ := by
              rcases (unhide HO4).2 with ⟨_, h0⟩ | ⟨gl, c', cur, h, _⟩
              · omega
              · simp only [Value.slice.injEq] at h
                exact ⟨gl, h.1⟩
            obtain ⟨bt, ct, _, ct1, _⟩ := unhide HC t ht
            have cl4 := ((unhide HO4).cellAt (t * 2 + 1) (by omega)).trans ct1
            have hglr := (unhide HO).lt gl rfl
            have hld : (evL X S0.size (R.getD t [])).length = S0.size := unhide HLD t ht
            have hlT := turn_len S0.size h1
            have hx := hide (fun W => xor_any (evL X S0.size (R.getD t [])) ((1 : UInt8) :: List.replicate (S0.size - 1) 0) W (by omega) (by omega))
            have e1 : xorR (evL X S0.size (R.getD t [])) ((1 : UInt8) :: List.replicate (S0.size - 1) 0) = xorL (evL X S0.size (R.getD t [])) ((1 : UInt8) :: List.replicate (S0.size - 1) 0) := by unfold xorR; rw [if_pos (by rw [hld, hlT])]
            have e2 : xorE (evL X S0.size (R.getD t [])) ((1 : UInt8) :: List.replicate (S0.size - 1) 0) = 0 := by unfold xorE; rw [if_pos (by rw [hld, hlT])]
            have e3 : bs ((1 : UInt8) :: List.replicate (S0.size - 1) 0) = ⟨#[1]⟩ ++ bs (List.replicate (S0.size - 1) 0) := by
              have := bs_append [(1 : UInt8)] (List.replicate (S0.size - 1) 0)
              exact this.symm
            have hTl : (xorL (evL X S0.size (R.getD t [])) ((1 : UInt8) :: List.replicate (S0.size - 1) 0)).length = S0.size := by rw [xorL_len _ _ (by rw [hld, hlT]), hld]
            have sz9 : (⟨#[1]⟩ ++ bs (List.replicate (S0.size - 1) 0) : ByteArray).size = S0.size := by rw [← e3, bs_size, hlT]
            rw [e1, e2, e3] at hx
            have hzz := hide (zero_any ((S0.size : Int) - 1))
            rw [zeroL_pred S0.size h1 h64] at hzz
            have szz : (bs (List.replicate (S0.size - 1) (0 : UInt8))).size = S0.size - 1 := by rw [bs_size]; simp
            have hx1 : Hid (S0.size = 1 → ∀ W, Calls Tryd.prog 29 #[.string (bs (evL X S0.size (R.getD t []))), .string ⟨#[1]⟩] W fun e w' => e = .returned (.tuple #[.string (bs (xorL (evL X S0.size (R.getD t [])) ((1 : UInt8) :: List.replicate (S0.size - 1) 0))), .int .i64 0]) ∧ Below W.heap.size W w') := fun h W => by
              have h2 := unhide hx W
              rw [h] at h2 ⊢
              exact h2
            have hD2 := hide (unhide hsol2 (fun j => if j = t then xorL (evL X S0.size (R.getD t [])) ((1 : UInt8) :: List.replicate (S0.size - 1) 0) else evL X S0.size (R.getD j [])) (fun j hj => by
              show (if j = t then _ else _ : By).length = _
              by_cases e : j = t
              · rw [if_pos e]; exact hTl
              · rw [if_neg e]; exact unhide HLD j hj))
            have HC2 := hide ((unhide HC).set hcl ht (xorL (evL X S0.size (R.getD t [])) ((1 : UInt8) :: List.replicate (S0.size - 1) 0)))
            generalize xorL (evL X S0.size (R.getD t [])) ((1 : UInt8) :: List.replicate (S0.size - 1) 0) = TT at *
            generalize hTB : bs TT = TB at *
            generalize bs (evL X S0.size (R.getD t [])) = DB at *
            generalize bs (List.replicate (S0.size - 1) (0 : UInt8)) = ZB at *
            generalize hfm : which.tmod (k : Int) = fm at *
            have v1 : wrap64 (fm + k) = fm + k := by unfold wrap64; omega
            have q3 : ¬ ((k : Int) = 0) := by omega
            have q3' : ((k : Int) == 0) = false := by simp; omega
            have q4 : (t : Int) < k := by omega
            clear e1 e2 e3 hTl hld hlT ct1
            go_wp2_with fail
            have hne := gb_ne w4
            have e0 : ∀ y : Gb w4, y.w.cell? ⟨gl, t * 2 + 1, none⟩ = _ := fun y => gb_cell cl4 y
            refine wp_region_gr (fun x => Below w4.heap.size w4 x) (by kernel_rfl) (by kernel_rfl) (gb_start w4) ?_
            repeat (go_big_quiet_step (first | (go_at_call 30; exact gb_call (unhide hzz _)) | (go_at_call 29; exact gb_call (unhide hx _))))
            refine wpQuiet_nil ?_
            rintro w5 ⟨⟨w5', b5⟩, rfl⟩
            have cl5 := cell_below cl4 b5
            have BW5 := hide ((unhide BW4).trans (b5.mono (unhide BW4).size))
            have HB5 := hide ((unhide HB4).trans (b5.mono (unhide HB4).size))
            have HO5 := hide (own_below2 (unhide HO4) b5)
            have HOY5 := hide (own_below2 (unhide HOY4) b5)
            clear b5 e0 hne cl4 hx hzz
            have hgw : w.heap.size ≤ gl := Nat.le_trans (unhide B1).size hglr.1
            have hgy9 : ¬ gl = gy := by omega
            have hgy8 : ¬ gy = gl := by omega
            have hgo : ∀ w6, w6.cell? ⟨gl, t * 2 + 1, none⟩ = some (.string DB) → Below w.heap.size w w6 → w6.ownsRow w1.heap.size 58 2 (.slice (some ⟨gl, 0, none⟩) k cap) k Cs → w6.ownsRow wr.heap.size 9 1 (.slice (some ⟨gy, 0, none⟩) Y.length yc) Y.length (sc Y) → w6.frozen? ⟨gl, t * 2 + 1, none⟩ = false ∧ Below w.heap.size w (w6.setCell ⟨gl, t * 2 + 1, none⟩ (.string TB)) ∧ EqnsA (w6.setCell ⟨gl, t * 2 + 1, none⟩ (.string TB)) (some ⟨gl, 0, none⟩) (eqs R (fun j => if j = t then TT else evL X S0.size (R.getD j []))) ∧ (w6.setCell ⟨gl, t * 2 + 1, none⟩ (.string TB)).ownsRow wr.heap.size 9 1 (.slice (some ⟨gy, 0, none⟩) Y.length yc) Y.length (sc Y) := fun w6 hc hb ho hy => by
              have hb7 := hb.setCell (p := ⟨gl, t * 2 + 1, none⟩) hgw (.string TB)
              have hst := (ho.stored (t * 2 + 1) (.string TB)).1
              obtain ⟨_, _, e9, hEA⟩ := eqns_own (unhide HM) hst (unhide HC2) hb7
              simp only [Value.slice.injEq, true_and] at e9
              obtain ⟨rfl, rfl⟩ := e9
              exact ⟨ho.frozenAt (t * 2 + 1), hb7, hEA, ownsRow_setCell_other hy (by simp [Value.ownBlock]; omega) _⟩
            have HGO := hide hgo
            clear hgo
            have hfork : S0.size = 1 ∨ ¬ S0.size = 1 := by omega
            have HTB := hide hTB
            clear hTB
            rcases hfork with hone | hone
            · have d1 : ((S0.size : Int) == 1) = true := by simp; omega
              have d2 : (S0.size : Int) = 1 := by omega
              have hx1' := hide (unhide hx1 hone)
              have HON := hide hone
              clear hone d2
              go_wp2_with fail
              refine (unhide hx1' _).mono ?_
              rintro e w6 ⟨rfl, b6⟩
              have cl6 := cell_below cl5 b6
              obtain ⟨hfz, hb7, hEA7, hOY7⟩ := unhide HGO w6 cl6 ((unhide BW5).trans (b6.mono (unhide BW5).size)) (own_below2 (unhide HO5) b6) (own_below2 (unhide HOY5) b6)
              clear b6
              have hs2 := hide (unhide hD2 _ cap _ hEA7)
              have BW7 := hide hb7
              have HOY7 := hide hOY7
              clear hb7 hEA7 hOY7
              go_wp2_with fail
              refine (unhide hs2).mono ?_
              rintro e w8 h8
              rcases h8 with ⟨rfl, b8⟩ | ⟨v8, Z, rfl, hZ, hZl, hZe, b8⟩
              · have BW8 := hide ((unhide BW7).trans (b8.mono (unhide BW7).size))
                clear b8
                go_wp2_with fail
                refine (unhide haw _ (unhide BW8)).mono ?_
                rintro e w9 ⟨rfl, b9⟩
                have BW9 := hide ((unhide BW8).trans (b9.mono (unhide BW8).size))
                clear b9
                go_wp2
                go_ret
                exact ⟨rfl, unhide BW9⟩
              · obtain ⟨gz, zc, rfl⟩ := own_some hZ (by rw [hZl]; exact hX0)
                have HOZ : Hid (w8.ownsRow (w6.setCell ⟨gl, t * 2 + 1, none⟩ (.string TB)).heap.size 9 1 (.slice (some ⟨gz, 0, none⟩) Z.length zc) Z.length (sc Z)) := hZ
                have HOY8 := hide (own_below2 (unhide HOY7) b8)
                have BW8 := hide ((unhide BW7).trans (b8.mono (unhide BW7).size))
                have HZe := hide hZe
                have HZl := hide hZl
                rw [hZl]
                clear b8 hZ hZe hZl
                go_wp2_with fail
                go_loopw [21] (fun v wr' => ∃ i q' : Nat, i ≤ n ∧ v = .int .i64 i ∧ w8.drewN q' = wr') (fun v _ => n - (intOf v).toNat)
                case atStart => exact ⟨0, 0, by omega, rfl, rfl⟩
                case round =>
                  obtain ⟨ii, q9, hii, rfl, rfl⟩ := hrel
                  by_cases hlt3 : ii < n
                  · have q6 : (ii : Int) < n := by omega
                    have hiZ : ii < Z.length := by rw [unhide HZl]; exact hlt3
                    have hiY : ii < Y.length := by rw [unhide HYl]; exact hlt3
                    have z1 := ((unhide HOZ).cellAt ii (by omega)).trans (sc_get Z ii hiZ)
                    have y1 := ((unhide HOY8).cellAt ii (by omega)).trans (sc_get Y ii hiY)
                    have hze := unhide HZe ii hlt3
                    have hye := unhide HOUT ii hlt3
                    have eY : Y.getD ii [] = Y[ii] := by simp [List.getD, hiY]
                    have eZ : Z.getD ii [] = Z[ii] := by simp [List.getD, hiZ]
                    rw [eZ] at hze
                    rw [eY] at hye
                    clear eY eZ
                    by_cases hin : ii ∈ F
                    · rw [if_pos hin] at hye
                      have hx9 : X.getD ii [] ≠ [] := fun e => by
                        have h9 := unhide HX (X.getD ii []) (by have : ii < X.length := by { rw [unhide HNN]; exact hlt3 }; simp [List.getD, this])
                        rw [e] at h9
                        simp at h9
                        omega
                      have hz9 : Z[ii] ≠ [] := fun e => (hze.1 e) hin
                      rw [← hye] at hx9
                      have r1 : (bs Z[ii]).toList.isEmpty = false := by rw [ByteArray.toList_eq, bs_list]; simpa using hz9
                      have r2 : (bs Y[ii]).toList.isEmpty = false := by rw [ByteArray.toList_eq, bs_list]; simpa using hx9
                      generalize bs Z[ii] = SZ at *
                      generalize bs Y[ii] = SY at *
                      clear hze hye hx9 hz9 hiZ hiY
                      go_wp2
                      go_big_quiet (fail)
                      go_wp2
                      go_roundw
                      case rel => exact ⟨ii + 1, _, by omega, by go_num, by first | rfl | exact (World.drewN_drewN _ _ _).symm | exact World.drewN_drewN _ _ _⟩
                      case measure => simp [intOf]; omega
                    · rw [if_neg hin] at hye
                      rw [hze.2 hin, show bs [] = ⟨#[]⟩ from rfl] at z1
                      rw [hye, show bs [] = ⟨#[]⟩ from rfl] at y1
                      clear hze hye hiZ hiY
                      go_wp2
                      go_big_quiet (fail)
                      go_wp2
                      go_roundw
                      case rel => exact ⟨ii + 1, _, by omega, by go_num, by first | rfl | exact (World.drewN_drewN _ _ _).symm | exact World.drewN_drewN _ _ _⟩
                      case measure => simp [intOf]; omega
                  · have q6 : ¬ (ii : Int) < n := by omega
                    have bd9 : Below w8.heap.size w8 (w8.drewN q9) := ⟨rfl, rfl, rfl, Nat.le_refl _, fun _ _ => rfl⟩
                    have BW9 := hide ((unhide BW8).trans (bd9.mono (unhide BW8).size))
                    clear bd9
                    go_wp2_with fail
                    refine (unhide haw _ (unhide BW9)).mono ?_
                    rintro e w9 ⟨rfl, b9⟩
                    have BWX := hide ((unhide BW9).trans (b9.mono (unhide BW9).size))
                    clear b9
                    go_wp2
                    go_ret
                    exact ⟨rfl, unhide BWX⟩
            · have d1 : ((S0.size : Int) == 1) = false := by simp; omega
              have d2 : ¬ (S0.size : Int) = 1 := by omega
              obtain ⟨hfz, hb7, hEA7, hOY7⟩ := unhide HGO w5 cl5 (unhide BW5) (unhide HO5) (unhide HOY5)
              have hs2 := hide (unhide hD2 _ cap _ hEA7)
              have BW7 := hide hb7
              have HOY7 := hide hOY7
              clear hb7 hEA7 hOY7
              go_wp2_with fail
              refine (unhide hs2).mono ?_
              rintro e w8 h8
              rcases h8 with ⟨rfl, b8⟩ | ⟨v8, Z, rfl, hZ, hZl, hZe, b8⟩
              · have BW8 := hide ((unhide BW7).trans (b8.mono (unhide BW7).size))
                clear b8
                go_wp2_with fail
                refine (unhide haw _ (unhide BW8)).mono ?_
                rintro e w9 ⟨rfl, b9⟩
                have BW9 := hide ((unhide BW8).trans (b9.mono (unhide BW8).size))
                clear b9
                go_wp2
                go_ret
                exact ⟨rfl, unhide BW9⟩
              · obtain ⟨gz, zc, rfl⟩ := own_some hZ (by rw [hZl]; exact hX0)
                have HOZ : Hid (w8.ownsRow (w5.setCell ⟨gl, t * 2 + 1, none⟩ (.string TB)).heap.size 9 1 (.slice (some ⟨gz, 0, none⟩) Z.length zc) Z.length (sc Z)) := hZ
                have HOY8 := hide (own_below2 (unhide HOY7) b8)
                have BW8 := hide ((unhide BW7).trans (b8.mono (unhide BW7).size))
                have HZe := hide hZe
                have HZl := hide hZl
                rw [hZl]
                clear b8 hZ hZe hZl
                go_wp2_with fail
                go_loopw [21] (fun v wr' => ∃ i q' : Nat, i ≤ n ∧ v = .int .i64 i ∧ w8.drewN q' = wr') (fun v _ => n - (intOf v).toNat)
                case atStart => exact ⟨0, 0, by omega, rfl, rfl⟩
                case round =>
                  obtain ⟨ii, q9, hii, rfl, rfl⟩ := hrel
                  by_cases hlt3 : ii < n
                  · have q6 : (ii : Int) < n := by omega
                    have hiZ : ii < Z.length := by rw [unhide HZl]; exact hlt3
                    have hiY : ii < Y.length := by rw [unhide HYl]; exact hlt3
                    have z1 := ((unhide HOZ).cellAt ii (by omega)).trans (sc_get Z ii hiZ)
                    have y1 := ((unhide HOY8).cellAt ii (by omega)).trans (sc_get Y ii hiY)
                    have hze := unhide HZe ii hlt3
                    have hye := unhide HOUT ii hlt3
                    have eY : Y.getD ii [] = Y[ii] := by simp [List.getD, hiY]
                    have eZ : Z.getD ii [] = Z[ii] := by simp [List.getD, hiZ]
                    rw [eZ] at hze
                    rw [eY] at hye
                    clear eY eZ
                    by_cases hin : ii ∈ F
                    · rw [if_pos hin] at hye
                      have hx9 : X.getD ii [] ≠ [] := fun e => by
                        have h9 := unhide HX (X.getD ii []) (by have : ii < X.length := by { rw [unhide HNN]; exact hlt3 }; simp [List.getD, this])
                        rw [e] at h9
                        simp at h9
                        omega
                      have hz9 : Z[ii] ≠ [] := fun e => (hze.1 e) hin
                      rw [← hye] at hx9
                      have r1 : (bs Z[ii]).toList.isEmpty = false := by rw [ByteArray.toList_eq, bs_list]; simpa using hz9
                      have r2 : (bs Y[ii]).toList.isEmpty = false := by rw [ByteArray.toList_eq, bs_list]; simpa using hx9
                      generalize bs Z[ii] = SZ at *
                      generalize bs Y[ii] = SY at *
                      clear hze hye hx9 hz9 hiZ hiY
                      go_wp2
                      go_big_quiet (fail)
                      go_wp2
                      go_roundw
                      case rel => exact ⟨ii + 1, _, by omega, by go_num, by first | rfl | exact (World.drewN_drewN _ _ _).symm | exact World.drewN_drewN _ _ _⟩
                      case measure => simp [intOf]; omega
                    · rw [if_neg hin] at hye
                      rw [hze.2 hin, show bs [] = ⟨#[]⟩ from rfl] at z1
                      rw [hye, show bs [] = ⟨#[]⟩ from rfl] at y1
                      clear hze hye hiZ hiY
                      go_wp2
                      go_big_quiet (fail)
                      go_wp2
                      go_roundw
                      case rel => exact ⟨ii + 1, _, by omega, by go_num, by first | rfl | exact (World.drewN_drewN _ _ _).symm | exact World.drewN_drewN _ _ _⟩
                      case measure => simp [intOf]; omega
                  · have q6 : ¬ (ii : Int) < n := by omega
                    have bd9 : Below w8.heap.size w8 (w8.drewN q9) := ⟨rfl, rfl, rfl, Nat.le_refl _, fun _ _ => rfl⟩
                    have BW9 := hide ((unhide BW8).trans (bd9.mono (unhide BW8).size))
                    clear bd9
                    go_wp2_with fail
                    refine (unhide haw _ (unhide BW9)).mono ?_
                    rintro e w9 ⟨rfl, b9⟩
                    have BWX := hide ((unhide BW9).trans (b9.mono (unhide BW9).size))
                    clear b9
                    go_wp2
                    go_ret
                    exact ⟨rfl, unhide BWX⟩
end Go.Proofs.YtpcndjnhpjhjkaaDoor

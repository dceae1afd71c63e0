/- peel's peel: the steps, and the marks behind them. -/
import Derived.Test.YtfihpmhobjjaaaaPeC
import Derived.Test.YtfihpmhobjjaaaaGrT
import Derived.ScopeJumps
namespace Go.Proofs.Ytfihpmhobjjaaaa
open Go.RowKit
set_option linter.unusedVariables false
attribute [local go_sem] Oper.semAt_some

theorem Try.infoSt : (Try.prog.info? 34).map (fun i => (i.zero, i.size, i.bytes)) = some (some (.agg #[.int .i64 0, .int .i64 0]), 2, 16) := by kernel_rfl
theorem Try.undSt : Try.prog.underlying 26 = some (.slice 34) := by kernel_rfl
/-- rows of numbers with their room -/
def RowsC (w : World) (a0 : Option Addr) (R : List (List Nat)) : Prop := ∀ i (h : i < R.length), ∃ g o, a0 = some ⟨g, o, none⟩ ∧ ∃ b c, w.cell? ⟨g, o + i, none⟩ = some (.slice b R[i].length c) ∧ Ints w b (zs R[i]) ∧ R[i].length ≤ c ∧ c ≤ maxLen
theorem RowsC.below {w w' : World} {a0 : Option Addr} {R : List (List Nat)} (h : RowsC w a0 R) (hb : Below w.heap.size w w') : RowsC w' a0 R := fun i hi => by
  obtain ⟨g, o, h1, b, c, h2, h3, h4⟩ := h i hi
  exact ⟨g, o, h1, b, c, cell_below h2 hb, h3.below hb, h4⟩
/-- steps as cells -/
def stc (D : List (Nat × Nat)) : List Value := D.flatMap fun p => [Value.int .i64 (p.1 : Int), Value.int .i64 (p.2 : Int)]
theorem stc_snoc (D : List (Nat × Nat)) (p : Nat × Nat) : stc (D ++ [p]) = stc D ++ [Value.int .i64 (p.1 : Int), Value.int .i64 (p.2 : Int)] := by simp [stc]
theorem wp_scope_pass {P : Program} {a : Act} {w : World} {Q : Exit → Act → World → Prop} {c rest : Code} (l : Nat) (J : Act → World → Prop) (μ : Act → World → Nat) (hf : findLabel c l = some (Code.skip.seq rest))
    (pass : ∀ a w, J a w → rest.wp P (Exit.jump l (fun a' w' => J a' w' ∧ μ a' w' < μ a w) Q) a w)
    (first : (∀ a w, J a w → rest.wp P (Exit.jump l J Q) a w) → c.wp P (Exit.jump l J Q) a w) : (Code.scope c).wp P Q a w :=
  wp_scope_jumps l J μ hf (first (fun a w h => wp_mono (pass a w h) (fun e a' w' hq => by
    cases e with
    | goto l' => exact ⟨hq.1, hq.2.1⟩
    | normal => exact hq
    | exit id => exact hq
    | ret => exact hq
    | panic ch => exact hq
    | outgrown => exact hq))) (fun a w h => wp_seq (wp_skip (pass a w h)))
/-- how many marks are not set -/
def isOff : Option Value → Bool
  | some (.bool b) => !b
  | _ => false
def lackM (w : World) (g : Nat) : Nat := ((List.range 160).filter fun i => isOff (w.cell? ⟨g, i, none⟩)).length
theorem lackM_un {w : World} {g : Nat} {S : Nat → Bool} (h : MkAt w g S) : lackM w g = un 160 S := by
  unfold lackM un
  congr 1
  refine List.filter_congr (fun i hi => ?_)
  rw [h.cell i (List.mem_range.1 hi)]
  rfl
theorem own_shape2 {w : World} {base n size : Nat} {e : TypeId} {v : Value} {xs : List Value} (hown : w.ownsRow base e size v n xs) : ∃ ao cap, v = .slice ao n cap := by
  rcases hown.2 with ⟨rfl, rfl⟩ | ⟨g, c, cur, rfl, _⟩
  · exact ⟨_, _, rfl⟩
  · exact ⟨_, _, rfl⟩
set_option maxRecDepth 100000 in
set_option maxHeartbeats 1000000 in
theorem peel_any (R : List (List Nat)) (hR : RLt 160 R) (hm : R.length ≤ 400) (a0 : Option Addr) (c g : Nat) (S : Nat → Bool) (w0 w : World) (hb0 : Below w0.heap.size w0 w) (hg : w0.heap.size ≤ g) (hI : RowsC w0 a0 R) (hM : MkAt w g S) (hl : ∀ r ∈ R, r.length ≤ maxLen) :
    Calls Try.prog 27 #[.slice a0 R.length c, .pointer (some ⟨g, 0, none⟩)] w fun e w' => ∃ v, e = .returned v ∧ w'.ownsRow w.heap.size 34 2 v (peelF 160 S R).1.length (stc (peelF 160 S R).1) ∧ MkAt w' g (peelF 160 S R).2 ∧ Kept w.heap.size g w w' := by
  obtain ⟨i0, hi0, hz0, hz1, hz2⟩ := info_parts Try.infoSt
  have HR := hide hR
  have HI := hide hI
  have HM := hide hM
  have HL := hide hl
  have hgw := hM.lt
  have hls : ∀ (wr : World) (T : Nat → Bool) (r : List Nat), r ∈ R → ∀ b cc, Ints wr b (zs r) → r.length ≤ cc → cc ≤ maxLen → MkAt wr g T → Calls Try.prog 30 #[.slice b r.length cc, .pointer (some ⟨g, 0, none⟩)] wr fun e w' => e = .returned (.tuple #[.int .i64 (lastI T r : Nat), .bool (lstN T r).isSome]) ∧ Below wr.heap.size wr w' := fun wr T r hr b cc h1 h2 h3 h4 => last_any r b cc g T (fun x hx => hR _ hr x hx) (hl _ hr) h2 h3 wr h1 h4
  have HLS := hide hls
  generalize hE : peelF 160 S R = E at *
  have HE := hide hE
  generalize hmm : R.length = m at *
  have HMM := hide hmm
  clear hR hI hM hl hls hE hmm
  go_enter Try.func27, Try.ntmps27
  go_wp2
  refine wp_scope_pass 0 (fun a' w' => ∃ (k : Nat) (v5 : Value) (D : List (Nat × Nat)) (T : Nat → Bool) (f : Nat) (u7 u8 u9 u10 u11 u12 u13 u14 u15 u16 u17 u18 u19 u20 u21 u22 u23 u24 u25 u26 u27 u28 u29 u30 u31 u32 u33 u34 u35 u36 : Value), a' = { tmps := #[.slice a0 m c, .pointer (some ⟨g, 0, none⟩), undef, undef, .slice none 0 0, v5, .int .i64 k, u7, u8, u9, u10, u11, u12, u13, u14, u15, u16, u17, u18, u19, u20, u21, u22, u23, u24, u25, u26, u27, u28, u29, u30, u31, u32, u33, u34, u35, u36], defers := [] } ∧ k ≤ m ∧ MkAt w' g T ∧ w'.ownsRow w.heap.size 34 2 v5 D.length (stc D) ∧ Kept w.heap.size g w w' ∧ un 160 T ≤ f ∧ D.length + un 160 T ≤ 160 ∧ D ++ (peelF f T R).1 = E.1 ∧ (peelF f T R).2 = E.2 ∧ ∀ s (h : s < R.length), s < k → lstN T R[s] = none) (fun a' w' => lackM w' g * 401 + (m - (intOf (a'.tmps.getD 6 undef)).toNat)) rfl ?_ ?_
  · rintro a' w1 ⟨k, v5, D, T, f, u7, u8, u9, u10, u11, u12, u13, u14, u15, u16, u17, u18, u19, u20, u21, u22, u23, u24, u25, u26, u27, u28, u29, u30, u31, u32, u33, u34, u35, u36, rfl, hk, hM, hO, hK, hf, hD, he1, he2, hno⟩
    have hB1 := hb0.trans (hK.below w0.heap.size hb0.size hg)
    have hun := lackM_un hM
    have HUN := hide hun
    have HK := hide hK
    have HO := hide hO
    have HM1 := hide hM
    have HF := hide hf
    have HD := hide hD
    have HE1 := hide he1
    have HE2 := hide he2
    have HNO := hide hno
    obtain ⟨ao, cp, rfl⟩ := own_shape2 hO
    by_cases hkm : k = m
    · subst hkm
      have hn0 : ripe1 T 0 R = none := ripe1_no (fun r hr => by
        obtain ⟨s, hs, rfl⟩ := List.getElem_of_mem hr
        exact hno s hs (by rw [← unhide HMM]; exact hs))
      rw [peelF_none hn0] at he1 he2
      have HX : Hid (w1.ownsRow w.heap.size 34 2 (.slice ao D.length cp) E.1.length (stc E.1) ∧ MkAt w1 g E.2 ∧ Kept w.heap.size g w w1) := by
        rw [← he1, ← he2]
        simp only [List.append_nil]
        exact ⟨hO, hM, hK⟩
      have q1 : ((k : Int) == k) = true := by simp
      generalize D.length = dl at *
      clear hM hO hK hf hD he1 he2 hno hB1 hn0 hun
      go_wp2
      simp only [Exit.jump]
      go_ret
      exact ⟨_, rfl, unhide HX⟩
    · have hlt : k < m := by omega
      have hlt' : k < R.length := by rw [unhide HMM]; exact hlt
      obtain ⟨gr, ogr, rfl, b, cc, c0, hIk, hcc, hcm⟩ := ((unhide HI).below hB1) k hlt'
      have hls := hide (unhide HLS w1 T R[k] (List.getElem_mem hlt') b cc hIk hcc hcm hM)
      have q1 : (k : Int) < m := by omega
      have q2 : ((k : Int) == m) = false := by simp; omega
      have q3 : ¬ ((k : Int) = m) := by omega
      cases hlst : lstN T R[k] with
      | none =>
        rw [hlst] at hls
        have HNO2 : Hid (∀ s (h : s < R.length), s < k + 1 → lstN T R[s] = none) := fun s h hs => by
          by_cases e : s = k
          · subst e; exact hlst
          · exact hno s h (by omega)
        have hgl := hM.lt
        simp only [Option.isSome_none] at hls
        generalize R[k].length = rl at *
        generalize lastI T R[k] = li at *
        generalize hdle : D.length = dl at *
        have HDL := hide hdle
        clear hM hO hK hf hD he1 he2 hno hB1 hun hIk hlt' hlst hdle
        go_wp2_with fail
        refine (unhide hls).mono ?_
        rintro e w2 ⟨rfl, b2⟩
        have HM2 := hide ((unhide HM1).kept b2)
        have HO2 := hide (own_below2 (unhide HO) b2)
        have HK2 := hide ((unhide HK).trans ((Kept.of_below b2).mono (unhide HK).size))
        clear b2
        go_wp2
        go_step3
        refine ⟨rfl, ⟨k + 1, .slice ao dl cp, D, T, f, _, _, _, _, _, _, _, _, _, _, _, _, _, _, _, _, _, _, _, _, _, _, _, _, _, _, _, _, _, _, rfl, by omega, unhide HM2, by rw [unhide HDL]; exact unhide HO2, unhide HK2, unhide HF, by rw [unhide HDL]; exact unhide HD, unhide HE1, unhide HE2, unhide HNO2⟩, ?_⟩
        rw [lackM_un (unhide HM2), unhide HUN]
        simp [intOf]
        omega
      | some i =>
        obtain ⟨hi1, hi2, hi3⟩ := lstN_some hlst
        have hi160 : i < 160 := unhide HR _ (List.getElem_mem hlt') _ hi1
        have hrp : ripe1 T 0 R = some (k, i) := by
          have := ripe1_at (S := T) (R := R) (k := 0) (t := k) (i := i) hlt' (fun s h hs => hno s h hs) hlst
          rwa [Nat.zero_add] at this
        have hun2 := un_mk hi160 hi2
        obtain ⟨f', rfl⟩ : ∃ f', f = f' + 1 := ⟨f - 1, by omega⟩
        rw [peelF_some hrp] at he1 he2
        have HF2 : Hid (un 160 (mkS T i) ≤ f') := by show _ ≤ _; omega
        have HD2 : Hid ((D ++ [(k, i)]).length + un 160 (mkS T i) ≤ 160) := by show _ ≤ _; rw [List.length_append]; simp; omega
        have HE3 : Hid ((D ++ [(k, i)]) ++ (peelF f' (mkS T i) R).1 = E.1) := by show _ = _; rw [List.append_assoc]; exact he1
        have HE4 : Hid ((peelF f' (mkS T i) R).2 = E.2) := he2
        have hli : lastI T R[k] = i := by unfold lastI; rw [hlst]; rfl
        rw [hlst, hli] at hls
        simp only [Option.isSome_some] at hls
        have HUN2 := hide hun2
        have hdl : D.length ≤ 160 := by omega
        have hgl := hM.lt
        have HSN := hide (stc_snoc D (k, i))
        generalize R[k].length = rl at *
        generalize hdle : D.length = dl at *
        have HDL := hide hdle
        have q5 : (i : Int) < 160 := by omega
        clear hM hO hK hf hD he1 he2 hno hB1 hun hIk hlt' hlst hi1 hi2 hi3 hrp hun2 hli hdle
        go_wp2_with fail
        refine (unhide hls).mono ?_
        rintro e w2 ⟨rfl, b2⟩
        have HM2 := hide ((unhide HM1).kept b2)
        have HO2 := hide (own_below2 (unhide HO) b2)
        have HK2 := hide ((unhide HK).trans ((Kept.of_below b2).mono (unhide HK).size))
        have c1 := (unhide HM2).cell i hi160
        have f1 := (unhide HM2).free i
        have hsz2 := (unhide HK2).size
        generalize T i = ti at *
        clear b2
        go_wp2_with (at_builtin; refine wpList_append_own _ rfl _ _ 26 rfl w.heap.size 34 i0 (.agg #[.int .i64 0, .int .i64 0]) 2 16 Try.undSt hi0 hz0 hz1 hz2 rfl (by decide) _ _ _ rfl ((ownsRow_setCell_below (unhide HO2) (a := ⟨g, i, none⟩) (by simpa using hgw) (.bool true)).alloc _) ⟨w2.heap.size, 0, none⟩ 1 1 [.int .i64 (k : Int), .int .i64 (i : Int)] ?cx rfl ?cn ?c2 ?c3 ?c4 ?c5 ?_)
        case cn =>
          have := news_lit (w2.setCell ⟨g, i, none⟩ (.bool true)) [.int .i64 (k : Int), .int .i64 (i : Int)] 34
          simpa using this
        case c2 => intro u hu; simp at hu; rcases hu with rfl | rfl <;> rfl
        case c3 => unfold maxLen; omega
        case c4 => omega
        case c5 => simp; omega
        all_goals try rfl
        intro v' w7 hown7 hgrow7 _
        obtain ⟨ao', cp', rfl⟩ := own_shape2 hown7
        have hM3 := (unhide HM2).set i
        have hb7 : Below w.heap.size (w2.setCell ⟨g, i, none⟩ (.bool true)) w7 := ((Below.refl w.heap.size _).alloc (by simp; omega) _).grown hgrow7 (by simp; omega) (fun q hq => ((unhide HO2).lt q hq).1)
        have HM7 := hide (hM3.below hb7 hgw)
        have HK7 := hide (((unhide HK2).trans (kept_set w.heap.size w2 g i (.bool true))).trans (Kept.of_below hb7))
        have HO7 : Hid (w7.ownsRow w.heap.size 34 2 (.slice ao' (dl + 1) cp') (D ++ [(k, i)]).length (stc (D ++ [(k, i)]))) := by
          show World.ownsRow _ _ _ _ _ _ _
          rw [unhide HSN, List.length_append, unhide HDL]
          exact hown7
        clear hM3 hb7 hown7 hgrow7 c1 f1
        go_wp2
        go_step3
        refine ⟨rfl, ⟨0, .slice ao' (dl + 1) cp', D ++ [(k, i)], mkS T i, f', _, _, _, _, _, _, _, _, _, _, _, _, _, _, _, _, _, _, _, _, _, _, _, _, _, _, _, _, _, _, rfl, by omega, unhide HM7, unhide HO7, unhide HK7, unhide HF2, unhide HD2, unhide HE3, unhide HE4, fun s h hs => absurd hs (by omega)⟩, ?_⟩
        rw [lackM_un (unhide HM7), unhide HUN]
        have := unhide HUN2
        simp [intOf]
        omega
  · intro hJ
    go_wp2
    go_step3
    rename_i hK
    exact hK _ _ (hJ _ _ ⟨0, .slice none 0 0, [], S, 160, _, _, _, _, _, _, _, _, _, _, _, _, _, _, _, _, _, _, _, _, _, _, _, _, _, _, _, _, _, _, rfl, by omega, unhide HM, World.ownsRow_nil _ _ _ _, Kept.refl _ _ _, un_le _ _, by have := un_le 160 S; simp; omega, by rw [unhide HE]; rfl, by rw [unhide HE], fun s h hs => absurd hs (by omega)⟩)
end Go.Proofs.Ytfihpmhobjjaaaa

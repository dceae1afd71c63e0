/- What the law DegreeEach does, whatever the world: it answers true and changes nothing that was there. -/
import Derived.Test.YtmaeebgphblilabDgG
import Derived.OpenShut
namespace Go.Proofs.Ytmaeebgphblilab
open Go.RowKit
set_option linter.unusedVariables false

/-- where a word is met in a table whose last number is above it -/
theorem deg_at {l : List Int} {x : Int} {J : Nat} (hJ : J < l.length) (hx : x < l[J]) : ∃ i, ∃ hi : i < l.length, degA l x = i + 1 ∧ x < l[i] ∧ i ≤ J ∧ ∀ j (hj : j < l.length), j < i → l[j] ≤ x := by
  have hlt : l.findIdx (fun z => decide (x < z)) < l.length := List.findIdx_lt_length_of_exists ⟨l[J], List.getElem_mem hJ, by simpa using hx⟩
  refine ⟨_, hlt, ?_, ?_, ?_, ?_⟩
  · unfold degA; omega
  · have := List.findIdx_getElem (xs := l) (p := fun z => decide (x < z)) (w := hlt)
    simpa using this
  · rcases Nat.lt_or_ge J (l.findIdx (fun z => decide (x < z))) with hc | hc
    · have := List.not_of_lt_findIdx hc
      simp at this
      omega
    · exact hc
  · intro j hj hji
    have := List.not_of_lt_findIdx hji
    simpa using this
theorem deg_mono {l : List Int} {x y : Int} {J : Nat} (hJ : J < l.length) (hx : y < l[J]) (h : x ≤ y) : degA l x ≤ degA l y := by
  obtain ⟨i, hi, e, h1, _, _⟩ := deg_at hJ hx
  obtain ⟨j, hj, e', _, h2, _⟩ := deg_at hi (show x < l[i] by omega)
  omega

set_option maxRecDepth 100000 in
set_option maxHeartbeats 8000000 in
theorem degreeEach_any (n d q f a b : Int) (w : World) (wn : (Lit.int .i64 n).wf = true) (wd : (Lit.int .i64 d).wf = true) (wq : (Lit.int .i64 q).wf = true) (wf : (Lit.int .i64 f).wf = true) (wa : (Lit.int .u32 a).wf = true) (wb : (Lit.int .u32 b).wf = true) :
    Calls Try.prog 8 #[cv n d q f, .int .u32 a, .int .u32 b] w fun e w' => e = .returned (.bool true) ∧ Below w.heap.size w w' := by
  obtain ⟨n0, n1⟩ := bounds_i64 wn
  obtain ⟨d0, d1⟩ := bounds_i64 wd
  obtain ⟨q0, q1⟩ := bounds_i64 wq
  obtain ⟨f0, f1⟩ := bounds_i64 wf
  obtain ⟨a0, a1⟩ := bounds_u32 wa
  obtain ⟨b0, b1⟩ := bounds_u32 wb
  have T0 := hide (four_alloc w (.int .i64 n) (.int .i64 d) (.int .i64 q) (.int .i64 f) 25)
  have BB : Hid (Below w.heap.size w (w.alloc (.cells #[.int .i64 n, .int .i64 d, .int .i64 q, .int .i64 f] 25))) := (Below.refl _ _).alloc (Nat.le_refl _) _
  cases hE : codeOk n d q f
  · have h1 := fun w => table_bad n d q f w (by omega) (by omega) (by omega) (by omega) (by omega) (by omega) (by omega) (by omega) hE
    clear hE
    simp only [cv] at h1 ⊢
    have h1 := hide h1
    clear wn n0 n1 wd d0 d1 wq q0 q1 wf f0 f1
    go_enter Try.func8, Try.ntmps8
    go_wp2_with fail
    refine (unhide h1 _).mono ?_
    rintro e w1 ⟨rfl, b1⟩
    have T0n := hide ((unhide T0).up b1)
    have BBn := hide ((unhide BB).trans (b1.mono (unhide BB).size))
    clear b1 BB T0
    have T0 := T0n
    have BB := BBn
    clear BBn T0n
    go_wp2_with fail
    refine (dgawake_any _).mono ?_
    rintro e w2 ⟨rfl, b2⟩
    have T0n := hide ((unhide T0).up b2)
    have BBn := hide ((unhide BB).trans (b2.mono (unhide BB).size))
    clear b2 BB T0
    have T0 := T0n
    have BB := BBn
    clear BBn T0n
    go_wp2
    go_ret
    exact ⟨rfl, unhide BB⟩
  · obtain ⟨F, hF⟩ : ∃ F : Nat, f = F := ⟨f.toNat, by have := codeOk_of hE; omega⟩
    subst hF
    have hF2 : 2 ≤ F ∧ F ≤ 64 := by have := codeOk_of hE; omega
    have h1 := fun w => table_any n d q F w (by omega) (by omega) (by omega) (by omega) (by omega) (by omega) (by omega) (by omega) hE
    have hlen : (tabL n d F F).length = F := tabL_length _ _ _ _
    have hlast : ∃ hJ : F - 1 < (tabL n d F F).length, (tabL n d F F)[F - 1] = 4294967296 := by
      have hJ : F - 1 < (tabL n d F F).length := by rw [hlen]; omega
      refine ⟨hJ, ?_⟩
      have e1 := tabL_get n d F F (F - 1) (by omega)
      rw [List.getElem?_eq_getElem hJ] at e1
      rw [Option.some.inj e1, show (((F - 1 : Nat) : Int) + 1) = (F : Int) by omega]
      exact (tab_last hE).2
    obtain ⟨hJ, hl⟩ := hlast
    obtain ⟨i, hi, eX, hai, _, hlow⟩ := deg_at (l := tabL n d F F) (x := a) hJ (by rw [hl]; omega)
    have hmo : Hid (a ≤ b → degA (tabL n d F F) a ≤ degA (tabL n d F F) b) := fun h => deg_mono hJ (by rw [hl]; omega) h
    have h2 := hide (fun (w : World) (a0 : Option Addr) (c : Nat) (hA : ZAt w a0 (tabL n d F F)) => degree_any w a0 (tabL n d F F) F c a hlen (by omega) hA (by omega) (by omega))
    have h3 := hide (fun (w : World) (a0 : Option Addr) (c : Nat) (hA : ZAt w a0 (tabL n d F F)) => degree_any w a0 (tabL n d F F) F c b hlen (by omega) hA (by omega) (by omega))
    have hget : Hid (∀ (w : World) (a0 : Option Addr), ZAt w a0 (tabL n d F F) → ∃ g o, a0 = some ⟨g, o, none⟩ ∧ w.cell? ⟨g, o + i, none⟩ = some (.int .i64 (tabL n d F F)[i])) := fun w a0 h => h.get i hi
    have hgp : Hid (∀ m : Nat, m + 1 = i → ∃ V', V' ≤ a ∧ ∀ (w : World) (g o : Nat), ZAt w (some ⟨g, o, none⟩) (tabL n d F F) → w.cell? ⟨g, o + m, none⟩ = some (.int .i64 V')) := by
      intro m hm
      have hml : m < (tabL n d F F).length := by omega
      refine ⟨(tabL n d F F)[m], hlow m hml (by omega), fun w g o h => ?_⟩
      obtain ⟨g', o', eg, hc⟩ := h.get m hml
      simp only [Option.some.injEq, Addr.mk.injEq, and_true] at eg
      obtain ⟨rfl, rfl⟩ := eg
      exact hc
    have hiF : i < F := by rw [hlen] at hi; exact hi
    generalize (tabL n d F F)[i] = V at *
    generalize degA (tabL n d F F) a = X at *
    generalize degA (tabL n d F F) b = Y at *
    simp only [cv] at h1 ⊢
    have h1 := hide h1
    have hw1 : IntKind.i64.wrap a = a := IntWalk.i64_in a ⟨by omega, by omega⟩
    have x1 : ¬ (X : Int) < 1 := by omega
    have x2 : ¬ (F : Int) < X := by omega
    have x3 : (X : Int) - 1 = (i : Int) := by omega
    have x4 : (i : Int) < F := by omega
    clear wn n0 n1 wd d0 d1 wq q0 q1 wf f0 f1 hlow hl hE hlen wa wb
    by_cases hab : a ≤ b
    · have hXY := unhide hmo hab
      have x7 : ¬ (Y : Int) < X := by omega
      have x8 : ¬ Y < X := by omega
      clear hXY
      rcases Nat.eq_zero_or_pos i with hi0 | hi0
      · have hX1 : X = 1 := by omega
        subst hX1
        have hi0' : (i : Int) = 0 := by omega
        subst hi0
        clear hi0' eX x3
        go_enter Try.func8, Try.ntmps8
        go_wp2_with fail
        refine (unhide h1 _).mono ?_
        rintro e w1 ⟨a0', c0, rfl, hZ1, b1⟩
        have Z1 := hide hZ1
        clear hZ1
        have T0n := hide ((unhide T0).up b1)
        have Z1n := hide (unhide Z1)
        have BBn := hide ((unhide BB).trans (b1.mono (unhide BB).size))
        clear b1 BB T0 Z1
        have T0 := T0n
        have Z1 := Z1n
        have BB := BBn
        clear BBn T0n Z1n
        go_wp2_with fail
        refine (unhide h2 _ _ _ (unhide Z1)).mono ?_
        rintro e w2 ⟨rfl, rfl⟩
        go_wp2_with fail
        refine (unhide h3 _ _ _ (unhide Z1)).mono ?_
        rintro e w2 ⟨rfl, rfl⟩
        have fT00 := (unhide T0).c0
        have fT01 := (unhide T0).c1
        have fT02 := (unhide T0).c2
        have fT03 := (unhide T0).c3
        go_wp2_with fail
        clear fT00 fT01 fT02 fT03
        refine (dgawake_any _).mono ?_
        rintro e w4 ⟨rfl, b4⟩
        have T0n := hide ((unhide T0).up b4)
        have Z1n := hide ((unhide Z1).up b4)
        have BBn := hide ((unhide BB).trans (b4.mono (unhide BB).size))
        clear b4 BB T0 Z1
        have T0 := T0n
        have Z1 := Z1n
        have BB := BBn
        clear BBn T0n Z1n
        obtain ⟨g, o, rfl, y1⟩ := unhide hget _ _ (unhide Z1)
        rw [Nat.add_zero] at y1
        go_wp2
        go_ret
        exact ⟨rfl, unhide BB⟩
      · obtain ⟨m, hm⟩ : ∃ m, m + 1 = i := ⟨i - 1, by omega⟩
        obtain ⟨V', hV', hV'c⟩ := unhide hgp m hm
        have n4 : decide ((X : Int) = 1) = false := decide_eq_false (by omega)
        have n5 : ((X : Int) == 1) = false := beq_eq_false_iff_ne.2 (by omega)
        have n6 : (X == 1) = false := beq_eq_false_iff_ne.2 (by omega)
        have x5 : (X : Int) - 2 = (m : Int) := by omega
        have x6 : (m : Int) < F := by omega
        clear hm eX
        go_enter Try.func8, Try.ntmps8
        go_wp2_with fail
        refine (unhide h1 _).mono ?_
        rintro e w1 ⟨a0', c0, rfl, hZ1, b1⟩
        have Z1 := hide hZ1
        clear hZ1
        have T0n := hide ((unhide T0).up b1)
        have Z1n := hide (unhide Z1)
        have BBn := hide ((unhide BB).trans (b1.mono (unhide BB).size))
        clear b1 BB T0 Z1
        have T0 := T0n
        have Z1 := Z1n
        have BB := BBn
        clear BBn T0n Z1n
        go_wp2_with fail
        refine (unhide h2 _ _ _ (unhide Z1)).mono ?_
        rintro e w2 ⟨rfl, rfl⟩
        go_wp2_with fail
        refine (unhide h3 _ _ _ (unhide Z1)).mono ?_
        rintro e w2 ⟨rfl, rfl⟩
        have fT00 := (unhide T0).c0
        have fT01 := (unhide T0).c1
        have fT02 := (unhide T0).c2
        have fT03 := (unhide T0).c3
        go_wp2_with fail
        clear fT00 fT01 fT02 fT03
        refine (dgawake_any _).mono ?_
        rintro e w4 ⟨rfl, b4⟩
        have T0n := hide ((unhide T0).up b4)
        have Z1n := hide ((unhide Z1).up b4)
        have BBn := hide ((unhide BB).trans (b4.mono (unhide BB).size))
        clear b4 BB T0 Z1
        have T0 := T0n
        have Z1 := Z1n
        have BB := BBn
        clear BBn T0n Z1n
        obtain ⟨g, o, rfl, y1⟩ := unhide hget _ _ (unhide Z1)
        have y2 := hV'c _ _ _ (unhide Z1)
        go_wp2
        go_ret
        exact ⟨rfl, unhide BB⟩
    · have hab' : decide (a ≤ b) = false := decide_eq_false hab
      rcases Nat.eq_zero_or_pos i with hi0 | hi0
      · have hX1 : X = 1 := by omega
        subst hX1
        have hi0' : (i : Int) = 0 := by omega
        subst hi0
        clear hi0' eX x3
        go_enter Try.func8, Try.ntmps8
        go_wp2_with fail
        refine (unhide h1 _).mono ?_
        rintro e w1 ⟨a0', c0, rfl, hZ1, b1⟩
        have Z1 := hide hZ1
        clear hZ1
        have T0n := hide ((unhide T0).up b1)
        have Z1n := hide (unhide Z1)
        have BBn := hide ((unhide BB).trans (b1.mono (unhide BB).size))
        clear b1 BB T0 Z1
        have T0 := T0n
        have Z1 := Z1n
        have BB := BBn
        clear BBn T0n Z1n
        go_wp2_with fail
        refine (unhide h2 _ _ _ (unhide Z1)).mono ?_
        rintro e w2 ⟨rfl, rfl⟩
        go_wp2_with fail
        refine (unhide h3 _ _ _ (unhide Z1)).mono ?_
        rintro e w2 ⟨rfl, rfl⟩
        have fT00 := (unhide T0).c0
        have fT01 := (unhide T0).c1
        have fT02 := (unhide T0).c2
        have fT03 := (unhide T0).c3
        go_wp2_with fail
        clear fT00 fT01 fT02 fT03
        refine (dgawake_any _).mono ?_
        rintro e w4 ⟨rfl, b4⟩
        have T0n := hide ((unhide T0).up b4)
        have Z1n := hide ((unhide Z1).up b4)
        have BBn := hide ((unhide BB).trans (b4.mono (unhide BB).size))
        clear b4 BB T0 Z1
        have T0 := T0n
        have Z1 := Z1n
        have BB := BBn
        clear BBn T0n Z1n
        obtain ⟨g, o, rfl, y1⟩ := unhide hget _ _ (unhide Z1)
        rw [Nat.add_zero] at y1
        go_wp2
        go_ret
        exact ⟨rfl, unhide BB⟩
      · obtain ⟨m, hm⟩ : ∃ m, m + 1 = i := ⟨i - 1, by omega⟩
        obtain ⟨V', hV', hV'c⟩ := unhide hgp m hm
        have n4 : decide ((X : Int) = 1) = false := decide_eq_false (by omega)
        have n5 : ((X : Int) == 1) = false := beq_eq_false_iff_ne.2 (by omega)
        have n6 : (X == 1) = false := beq_eq_false_iff_ne.2 (by omega)
        have x5 : (X : Int) - 2 = (m : Int) := by omega
        have x6 : (m : Int) < F := by omega
        clear hm eX
        go_enter Try.func8, Try.ntmps8
        go_wp2_with fail
        refine (unhide h1 _).mono ?_
        rintro e w1 ⟨a0', c0, rfl, hZ1, b1⟩
        have Z1 := hide hZ1
        clear hZ1
        have T0n := hide ((unhide T0).up b1)
        have Z1n := hide (unhide Z1)
        have BBn := hide ((unhide BB).trans (b1.mono (unhide BB).size))
        clear b1 BB T0 Z1
        have T0 := T0n
        have Z1 := Z1n
        have BB := BBn
        clear BBn T0n Z1n
        go_wp2_with fail
        refine (unhide h2 _ _ _ (unhide Z1)).mono ?_
        rintro e w2 ⟨rfl, rfl⟩
        go_wp2_with fail
        refine (unhide h3 _ _ _ (unhide Z1)).mono ?_
        rintro e w2 ⟨rfl, rfl⟩
        have fT00 := (unhide T0).c0
        have fT01 := (unhide T0).c1
        have fT02 := (unhide T0).c2
        have fT03 := (unhide T0).c3
        go_wp2_with fail
        clear fT00 fT01 fT02 fT03
        refine (dgawake_any _).mono ?_
        rintro e w4 ⟨rfl, b4⟩
        have T0n := hide ((unhide T0).up b4)
        have Z1n := hide ((unhide Z1).up b4)
        have BBn := hide ((unhide BB).trans (b4.mono (unhide BB).size))
        clear b4 BB T0 Z1
        have T0 := T0n
        have Z1 := Z1n
        have BB := BBn
        clear BBn T0n Z1n
        obtain ⟨g, o, rfl, y1⟩ := unhide hget _ _ (unhide Z1)
        have y2 := hV'c _ _ _ (unhide Z1)
        go_wp2
        go_ret
        exact ⟨rfl, unhide BB⟩

end Go.Proofs.Ytmaeebgphblilab

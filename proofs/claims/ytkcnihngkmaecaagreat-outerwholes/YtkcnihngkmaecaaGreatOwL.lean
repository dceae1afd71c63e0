/- The law OuterWholes, walked. -/
import Derived.Test.YtkcnihngkmaecaaGreatOwC
import Derived.Test.YtkcnihngkmaecaaGreatOpenPl
namespace Go.Proofs.YtkcnihngkmaecaaGreat
open Go.RowKit
set_option linter.unusedVariables false
attribute [local go_sem] Oper.semAt_some

set_option maxRecDepth 100000 in
set_option maxHeartbeats 2000000 in
theorem outerWholes_few (sd n a q : Int) (A B : List By) (a0 b0 : Option Addr) (c d : Nat) (w : World) (hA : Txts w a0 A) (hB : Txts w b0 B) (h2 : A.length ≤ maxLen) (h3 : ∀ s ∈ A, s.length ≤ maxLen) (h4 : B.length ≤ maxLen) (h5 : ∀ s ∈ B, s.length ≤ maxLen)
    (hf : fewO A = false ∨ fewO B = false) :
    Calls Tryz.prog 4 #[plV sd n a q, .slice a0 A.length c, .slice b0 B.length d] w fun e w' => e = .returned (.bool true) ∧ Below w.heap.size w w' := by
  have haw := hide oawake_any
  have hb0 : Below w.heap.size w (w.alloc (.cells #[.int .i64 sd, .int .i64 n, .int .i64 a, .int .i64 q] 23)) := (Below.refl _ w).alloc (Nat.le_refl _) _
  have hfA := hide (ofew_any A a0 c _ (hA.below hb0) h2 h3)
  have hfB := hide (ofew_any B b0 d _ (hB.below hb0) h4 h5)
  have B0 := hide hb0
  unfold plV at *
  generalize A.length = lA at *
  generalize B.length = lB at *
  clear hb0 hA hB h3 h5
  cases hfa : fewO A with
  | false =>
    rw [hfa] at hfA
    clear hf hfB
    go_enter Tryz.func4, Tryz.ntmps4
    go_wp2_with fail
    refine (unhide hfA).mono ?_
    rintro e w1 ⟨rfl, rfl⟩
    go_wp2_with fail
    refine (unhide haw _).mono ?_
    rintro e w2 ⟨rfl, b2⟩
    have B2 := hide ((unhide B0).trans (b2.mono (unhide B0).size))
    clear b2
    go_wp2
    go_ret
    exact ⟨rfl, unhide B2⟩
  | true =>
    rw [hfa] at hfA hf
    have hfb : fewO B = false := by rcases hf with h | h; cases h; exact h
    rw [hfb] at hfB
    clear hf
    go_enter Tryz.func4, Tryz.ntmps4
    go_wp2_with fail
    refine (unhide hfA).mono ?_
    rintro e w1 ⟨rfl, rfl⟩
    go_wp2_with fail
    refine (unhide hfB).mono ?_
    rintro e w1 ⟨rfl, rfl⟩
    go_wp2_with fail
    refine (unhide haw _).mono ?_
    rintro e w2 ⟨rfl, b2⟩
    have B2 := hide ((unhide B0).trans (b2.mono (unhide B0).size))
    clear b2
    go_wp2
    go_ret
    exact ⟨rfl, unhide B2⟩
set_option maxRecDepth 100000 in
set_option maxHeartbeats 8000000 in
theorem outerWholes_yes (sd n a q : Int) (A B : List By) (a0 b0 : Option Addr) (c d : Nat) (w : World) (hA : Txts w a0 A) (hB : Txts w b0 B) (hfa : fewO A = true) (hfb : fewO B = true) :
    Calls Tryz.prog 4 #[plV sd n a q, .slice a0 A.length c, .slice b0 B.length d] w fun e w' => e = .returned (.bool true) ∧ Below w.heap.size w w' := by
  have fA : A.length ≤ 180 ∧ ∀ s ∈ A, s.length ≤ 100 := by unfold fewO at hfa; simpa using hfa
  have fB : B.length ≤ 180 ∧ ∀ s ∈ B, s.length ≤ 100 := by unfold fewO at hfb; simpa using hfb
  have A2 : A.length ≤ 100000 := by omega
  have A3 : ∀ s ∈ A, s.length ≤ 100000 := fun s hs => Nat.le_trans (fA.2 s hs) (by omega)
  have B2' : B.length ≤ 100000 := by omega
  have B3' : ∀ s ∈ B, s.length ≤ 100000 := fun s hs => Nat.le_trans (fB.2 s hs) (by omega)
  have hb0 : Below w.heap.size w (w.alloc (.cells #[.int .i64 sd, .int .i64 n, .int .i64 a, .int .i64 q] 23)) := (Below.refl _ w).alloc (Nat.le_refl _) _
  have hfA := hide (ofew_any A a0 c _ (hA.below hb0) (by unfold maxLen; omega) (fun s hs => Nat.le_trans (A3 s hs) (by unfold maxLen; omega)))
  have hfB := hide (ofew_any B b0 d _ (hB.below hb0) (by unfold maxLen; omega) (fun s hs => Nat.le_trans (B3' s hs) (by unfold maxLen; omega)))
  rw [hfa] at hfA
  rw [hfb] at hfB
  have hwh := hide (fun w hT => whole_any sd n a q A a0 c w hT A2 A3)
  have hdw := hide (fun w hT => dWhole_any sd n a q A a0 c w hT A2 A3)
  have hho := hide (fun w hT => Holds_any sd n a q B b0 d w hT B2' B3')
  have hdh := hide (fun w hT => dHolds_any sd n a q B b0 d w hT B2' B3')
  have hrf := hide (fun w => dref_any sd n a q w)
  have haw := hide oawake_any
  have hpc := hide (plan_cells w sd n a q)
  obtain ⟨c0, c1, c2, c3⟩ := unhide hpc _ (Below.refl _ _)
  have HA := hide hA
  have HB := hide hB
  have hRl : (whR sd n a q A).length ≤ 100000 := by
    unfold whR
    split
    · rename_i h
      obtain ⟨sd', n', a', q', rfl, rfl, rfl, rfl, k1, k2, k4, k6⟩ := plOk_facts h.1
      simp [auxL]
      omega
    · simp
  have B0 := hide hb0
  generalize hE : whE sd n a q A = E at *
  generalize hR : whR sd n a q A = R at *
  generalize hHB : holdsB sd n a q B = bb at *
  generalize A.length = lA at *
  generalize B.length = lB at *
  unfold plV at *
  clear hb0 hA hB fA fB A2 A3 B2' B3' hfa hfb hE hR hHB
  go_enter Tryz.func4, Tryz.ntmps4
  go_wp2_with fail
  refine (unhide hfA).mono ?_
  rintro e w1 ⟨rfl, rfl⟩
  go_wp2_with fail
  refine (unhide hfB).mono ?_
  rintro e w1 ⟨rfl, rfl⟩
  generalize hW0 : w.alloc (.cells #[.int .i64 sd, .int .i64 n, .int .i64 a, .int .i64 q] 23) = W0 at *
  have HW0 := hide hW0
  clear hW0 hfA hfB
  go_wp2_with fail
  refine (unhide hwh W0 ((unhide HA).below (unhide B0))).mono ?_
  rintro e w1 ⟨v1, rfl, hO1, b1⟩
  obtain ⟨ra, rc, rfl, hT1, _, _⟩ := hO1.txts
  have HT1 := hide hT1
  have D1 := hide b1
  clear hO1 hT1 c0 c1 c2 c3 b1
  obtain ⟨c0, c1, c2, c3⟩ := unhide hpc w1 (unhide D1)
  go_wp2_with fail
  refine (unhide hrf w1).mono ?_
  rintro e w2 ⟨rfl, b2⟩
  have D2 := hide ((unhide D1).trans (b2.mono (unhide D1).size))
  have HT2 := hide ((unhide HT1).below b2)
  clear b2 c0 c1 c2 c3 HT1
  obtain ⟨c0, c1, c2, c3⟩ := unhide hpc w2 (unhide D2)
  have BW2 := hide ((unhide B0).trans ((unhide D2).mono (unhide B0).size))
  go_wp2_with fail
  refine (unhide hdw w2 ((unhide HA).below (unhide BW2))).mono ?_
  rintro e w3 ⟨v3, rfl, hO3, b3⟩
  obtain ⟨sa, sc', rfl, hT3, _, _⟩ := hO3.txts
  have D3 := hide ((unhide D2).trans (b3.mono (unhide D2).size))
  have BW3 := hide ((unhide BW2).trans (b3.mono (unhide BW2).size))
  have HT3 := hide ((unhide HT2).below b3)
  have HT4 := hide hT3
  clear hO3 hT3 b3 c0 c1 c2 c3 HT2
  obtain ⟨c0, c1, c2, c3⟩ := unhide hpc w3 (unhide D3)
  have hsm : Hid (∀ X : Gb w3, Calls Tryz.prog 21 #[.slice ra R.length rc, .slice sa R.length sc'] X.w fun e w' => e = .returned (.bool true) ∧ Below X.w.heap.size X.w w') := fun X => msame_any X.w R ra sa rc sc' hRl ((unhide HT3).below X.ok) ((unhide HT4).below X.ok)
  have hh1 : Hid (∀ X : Gb w3, Calls Tryz.prog 22 #[.agg #[.int .i64 sd, .int .i64 n, .int .i64 a, .int .i64 q], .slice b0 lB d] X.w fun e w' => e = .returned (.bool bb) ∧ Below X.w.heap.size X.w w') := fun X => unhide hho X.w (((unhide HB).below (unhide BW3)).below X.ok)
  have hh2 : Hid (∀ X : Gb w3, Calls Tryz.prog 23 #[.agg #[.int .i64 sd, .int .i64 n, .int .i64 a, .int .i64 q], .slice b0 lB d] X.w fun e w' => e = .returned (.bool bb) ∧ Below X.w.heap.size X.w w') := fun X => unhide hdh X.w (((unhide HB).below (unhide BW3)).below X.ok)
  generalize R.length = rl at *
  clear HT3 HT4
  go_wp2_with fail
  have hne := gb_ne w3
  have d0 : ∀ x : Gb w3, x.w.cell? ⟨w.heap.size, 0, none⟩ = some (.int .i64 sd) := fun x => gb_cell c0 x
  have d1 : ∀ x : Gb w3, x.w.cell? ⟨w.heap.size, 1, none⟩ = some (.int .i64 n) := fun x => gb_cell c1 x
  have d2 : ∀ x : Gb w3, x.w.cell? ⟨w.heap.size, 2, none⟩ = some (.int .i64 a) := fun x => gb_cell c2 x
  have d3 : ∀ x : Gb w3, x.w.cell? ⟨w.heap.size, 3, none⟩ = some (.int .i64 q) := fun x => gb_cell c3 x
  clear c0 c1 c2 c3
  refine wp_region_gr (fun x => Below w3.heap.size w3 x) (by kernel_rfl) (by kernel_rfl) (gb_start w3) ?_
  repeat (go_big_quiet_step ((first | (go_at_call 11; exact gb_call (unhide haw _)) | (go_at_call 21; exact gb_call (unhide hsm _)) | (go_at_call 22; exact gb_call (unhide hh1 _)) | (go_at_call 6; exact gb_call (unhide hrf _)) | (go_at_call 23; exact gb_call (unhide hh2 _)))))
  refine wpQuiet_nil ?_
  rintro w7 ⟨⟨_, b7⟩, rfl⟩
  have B7 := hide ((unhide BW3).trans (b7.mono (unhide BW3).size))
  clear b7 d0 d1 d2 d3 hne
  go_wp2
  go_ret
  exact ⟨by simp, unhide B7⟩
theorem outerWholes_law (sd n a q : Int) (a0 : Option Addr) (A : List By) (c : Nat) (b0 : Option Addr) (B : List By) (d : Nat) (w : World) (_ : (Lit.int .i64 sd).wf = true) (_ : (Lit.int .i64 n).wf = true) (_ : (Lit.int .i64 a).wf = true) (_ : (Lit.int .i64 q).wf = true) (hA : Txts w a0 A) (kA : TxtsOk A c) (hB : Txts w b0 B) (kB : TxtsOk B d) :
    Calls Tryz.prog 4 #[plV sd n a q, .slice a0 A.length c, .slice b0 B.length d] w fun e w' => e = .returned (.bool true) ∧ Below w.heap.size w w' := by
  have h2 : A.length ≤ maxLen := Nat.le_trans kA.1 kA.2.1
  have h4 : B.length ≤ maxLen := Nat.le_trans kB.1 kB.2.1
  cases ha : fewO A with
  | false => exact outerWholes_few sd n a q A B a0 b0 c d w hA hB h2 kA.2.2 h4 kB.2.2 (.inl ha)
  | true =>
    cases hb : fewO B with
    | false => exact outerWholes_few sd n a q A B a0 b0 c d w hA hB h2 kA.2.2 h4 kB.2.2 (.inr hb)
    | true => exact outerWholes_yes sd n a q A B a0 b0 c d w hA hB ha hb
end Go.Proofs.YtkcnihngkmaecaaGreat

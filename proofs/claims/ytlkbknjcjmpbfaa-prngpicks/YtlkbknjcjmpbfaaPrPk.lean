/- What the law PrngPicks does, whatever the world: it answers true and changes nothing that was there. -/
import Derived.Test.YtlkbknjcjmpbfaaPrQ
import Derived.Test.YtlkbknjcjmpbfaaPrBl
namespace Go.Proofs.Ytlkbknjcjmpbfaa
open Go.RowKit
set_option linter.unusedVariables false

theorem mod_norm (n m : Int) (h1 : 1 ≤ m) : ∃ a : Int, n.tmod m = a ∧ -m < a ∧ a < m :=
  ⟨_, rfl, Int.lt_tmod_of_pos n (by omega), Int.tmod_lt_of_pos n (by omega)⟩

theorem cell_lt {w : World} {g o : Nat} {v : Value} (h : w.cell? ⟨g, o, none⟩ = some v) : g < w.heap.size := by
  rcases Nat.lt_or_ge g w.heap.size with h' | h'
  · exact h'
  · simp [World.cell?, Array.getElem?_eq_none h'] at h
/-- 151 marks -/
def bb (f : Nat → Bool) : List Value := (List.range 151).map fun x => Value.bool (f x)
def SeenAt (w : World) (g : Nat) (f : Nat → Bool) : Prop := w.heap[g]? = some (.cells (bb f).toArray 55 (0, 0))
theorem SeenAt.cell {w : World} {g : Nat} {f : Nat → Bool} (h : SeenAt w g f) (x : Nat) (hx : x < 151) : w.cell? ⟨g, x, none⟩ = some (.bool (f x)) := by
  rw [cell_of_row w g x _ _ (0, 0) h]
  simp [bb, hx]
theorem SeenAt.free {w : World} {g : Nat} {f : Nat → Bool} (h : SeenAt w g f) (x : Nat) : w.frozen? ⟨g, x, none⟩ = false := frozen_of_row w g x _ _ h
theorem SeenAt.set {w : World} {g : Nat} {f f' : Nat → Bool} (h : SeenAt w g f) (x : Nat) (hf : ∀ y, f' y = if y = x then true else f y) : SeenAt (w.setCell ⟨g, x, none⟩ (.bool true)) g f' := by
  unfold SeenAt
  rw [heap_setCell_same w g x _ _ _ h]
  congr 2
  apply Array.ext
  · simp [bb]
  · intro i h1 h2
    simp [bb] at h1 h2
    by_cases e : x = i
    · subst e; simp [bb, hf]
    · simp [bb, hf, e, Ne.symm e]

set_option maxRecDepth 100000 in
set_option maxHeartbeats 2000000 in
theorem prngPicks_any (s : ByteArray) (n k : Int) (w : World) (hs : s.size ≤ maxLen) :
    Calls Try.prog 7 #[.string s, .int .i64 n, .int .i64 k] w fun e w' => e = .returned (.bool true) ∧ Below w.heap.size w w' := by
  obtain ⟨a, ha, ha1, ha2⟩ := mod_norm n 151 (by omega)
  have haw : wrap64 a = a := IntWalk.wrap64_in a ⟨by omega, by omega⟩
  obtain ⟨N, hN⟩ : ∃ N : Nat, (a + 151) % 151 = N := ⟨((a + 151) % 151).toNat, by omega⟩
  have hN1 : N ≤ 150 := by omega
  obtain ⟨c, hc, hc1, hc2⟩ := mod_norm k ((N : Int) + 1) (by omega)
  have hcw : wrap64 c = c := IntWalk.wrap64_in c ⟨by omega, by omega⟩
  obtain ⟨K, hK⟩ : ∃ K : Nat, (c + N + 1) % ((N : Int) + 1) = K := ⟨((c + N + 1) % ((N : Int) + 1)).toNat, by have := Int.emod_nonneg (c + N + 1) (show ((N : Int) + 1) ≠ 0 by omega); omega⟩
  have hK1 : K ≤ N := by have := Int.emod_lt_of_pos (c + N + 1) (show 0 < (N : Int) + 1 by omega); omega
  have HM := hide hs
  unfold maxLen at hs
  by_cases h64 : (64 : Int) < s.size
  · go_enter Try.func7, Try.ntmps7
    go_wp2_with fail
    try simp only [hN, hK]
    clear ha haw hN hc hcw hK ha1 ha2 hc1 hc2
    refine (gnew_long s w (unhide HM) (by omega)).mono ?_
    rintro e w1 ⟨rfl, rfl⟩
    go_wp2_with fail
    refine (gnew_long s w (unhide HM) (by omega)).mono ?_
    rintro e w1 ⟨rfl, rfl⟩
    go_wp2_with fail
    refine (pawake_any w).mono ?_
    rintro e w1 ⟨rfl, b1⟩
    have B1 := hide b1
    clear b1
    go_wp2_with fail
    refine (pawake_any w1).mono ?_
    rintro e w2 ⟨rfl, b2⟩
    have B2 := hide ((unhide B1).trans (b2.mono (unhide B1).size))
    clear b2 B1
    go_wp2
    go_ret
    exact ⟨rfl, unhide B2⟩
  · have hs64 : s.size ≤ 64 := by omega
    have hA := hide (pkS_inj s.data.toList N 0 N (Nat.le_refl _))
    have hF := hide (fun i hi => pkS_fix s.data.toList N 0 K i hi N hK1 (Nat.le_refl _))
    have hp1 := hide (fun w b h => pick_any w b 0 N K s hs64 (by omega) (by omega) hK1 h)
    have hp2 := hide (fun w b h => pick_any w b 0 N N s hs64 (by omega) (by omega) (Nat.le_refl _) h)
    obtain ⟨A, hAe⟩ : ∃ A : Nat → Nat, A = fun i => (pkS s.data.toList N 0 N).2.getD i 0 := ⟨_, rfl⟩
    obtain ⟨Lk, hLe⟩ : ∃ A : Nat → Nat, A = fun i => (pkS s.data.toList N 0 K).2.getD i 0 := ⟨_, rfl⟩
    have e1 : ∀ i, (pkS s.data.toList N 0 N).2.getD i 0 = A i := fun i => by rw [hAe]
    have e2 : ∀ i, (pkS s.data.toList N 0 K).2.getD i 0 = Lk i := fun i => by rw [hLe]
    simp only [e1, e2] at hA hF hp1 hp2
    clear hAe hLe e1 e2
    go_enter Try.func7, Try.ntmps7
    go_wp2_with fail
    try simp only [hN, hK]
    clear ha haw hN hc hcw hK ha1 ha2 hc1 hc2
    refine (gnew_any s w hs64).mono ?_
    rintro e w1 ⟨b, rfl, hG, hb, b1⟩
    have HG1 := hide hG
    have B1 := hide b1
    clear hG b1
    go_wp2_with fail
    refine (gnew_any s w1 hs64).mono ?_
    rintro e w2 ⟨b', rfl, hG', hb', b2⟩
    have hbb : b < b' := by have := lt_of_block (unhide HG1); omega
    have HG2 := hide (show GenAt w2 b s 0 from (b2.block b (lt_of_block (unhide HG1))).trans (unhide HG1))
    have HH2 := hide hG'
    have B2 := hide ((unhide B1).trans (b2.mono (unhide B1).size))
    clear hG' b2 B1 HG1
    go_wp2_with fail
    refine (pawake_any w2).mono ?_
    rintro e w3 ⟨rfl, b3⟩
    have HG3 := hide (show GenAt w3 b s 0 from (b3.block b (lt_of_block (unhide HG2))).trans (unhide HG2))
    have HH3 := hide (show GenAt w3 b' s 0 from (b3.block b' (lt_of_block (unhide HH2))).trans (unhide HH2))
    have B3 := hide ((unhide B2).trans (b3.mono (unhide B2).size))
    clear b3 B2 HG2 HH2
    go_wp2_with fail
    refine (unhide hp1 w3 b (unhide HG3)).mono ?_
    rintro e w4 ⟨g1, rfl, hg1, hc1, _, hk4⟩
    have HH4 := hide (show GenAt w4 b' s 0 from (hk4.block b' (lt_of_block (unhide HH3)) (by omega)).trans (unhide HH3))
    have hwb : w.heap.size ≤ b := hb
    have hwb' : w.heap.size ≤ b' := by omega
    have B4 := hide ((unhide B3).trans (hk4.below w.heap.size (unhide B3).size hwb))
    have HC1 := hide hc1
    have hgb : g1 ≠ b' := by have := lt_of_block (unhide HH3); omega
    clear hc1 hk4 HH3 HG3 B3 hp1
    go_wp2_with fail
    refine (unhide hp2 w4 b' (unhide HH4)).mono ?_
    rintro e w5 ⟨g2, rfl, hg2, hc2, _, hk5⟩
    have B5 := hide ((unhide B4).trans (hk5.below w.heap.size (unhide B4).size hwb'))
    have HC1' : Hid (∀ i, i < N → w5.cell? ⟨g1, i, none⟩ = some (.int .i64 (Lk i))) := fun i hi => kept_cell (unhide HC1 i hi) hk5 hgb
    have HC2 := hide hc2
    clear hc2 hk5 HH4 B4 hp2 HC1
    obtain ⟨Z, hZ⟩ : ∃ Z : Array Value, Z = (bb fun _ => false).toArray := ⟨_, rfl⟩
    have hzv : ∀ w, (zeroValue 55).run Try.prog w = .ok (.agg Z) w := fun w => by rw [hZ]; kernel_rfl
    have HZ := hide hZ
    clear hZ
    go_wp2_with fail
    have hsz5 := (unhide B5).size
    have hgl : N = 0 ∨ (g1 < w5.heap.size ∧ g2 < w5.heap.size) := by
      rcases Nat.eq_zero_or_pos N with h0 | h0
      · exact .inl h0
      · exact .inr ⟨cell_lt (unhide HC1' 0 h0), cell_lt (unhide HC2 0 h0)⟩
    go_loopw [12] (fun v wr => ∃ i : Nat, i ≤ N ∧ v = .int .i64 i ∧ SeenAt wr w5.heap.size (snB A i) ∧ (∀ j, j < N → wr.cell? ⟨g1, j, none⟩ = some (.int .i64 (Lk j))) ∧ (∀ j, j < N → wr.cell? ⟨g2, j, none⟩ = some (.int .i64 (A j))) ∧ Below w.heap.size w wr) (fun v _ => N - (intOf v).toNat)
    case atStart =>
      have hal : Below w5.heap.size w5 (w5.alloc (.cells Z 55)) := (Below.refl _ _).alloc (Nat.le_refl _) _
      refine ⟨0, Nat.zero_le _, rfl, ?_, fun j hj => ?_, fun j hj => ?_, (unhide B5).trans (hal.mono hsz5)⟩
      · show _ = _
        rw [heap_alloc_new, unhide HZ]
        rfl
      · exact gb_cell (unhide HC1' j hj) ⟨_, hal⟩
      · exact gb_cell (unhide HC2 j hj) ⟨_, hal⟩
    case round =>
      clear HC1' HC2 B5 hzv HZ
      obtain ⟨i, hi, rfl, hS, hL, hAl, hB⟩ := hrel
      by_cases hlt : i < N
      · have hx := (unhide hA).2 i hlt
        have hfr := snB_fresh A N i hlt (unhide hA).1
        have cS := hS.cell (A i) (by omega)
        rw [hfr] at cS
        have fS := hS.free (A i)
        have c2 := hAl i hlt
        have HS := hide (hS.set (f' := snB A (i + 1)) (A i) (fun y => by rw [snB_succ]; by_cases e : y = A i <;> simp [e]; exact fun h => (e h.symm).elim))
        have hl1 := lt_of_block hS
        have HL := hide hL
        have HA2 := hide hAl
        have HB2 := hide (hB.setCell (p := ⟨w5.heap.size, A i, none⟩) hsz5 (.bool true))
        have hne1 : Hid (∀ j, j < N → (wr.setCell ⟨w5.heap.size, A i, none⟩ (.bool true)).cell? ⟨g1, j, none⟩ = some (.int .i64 (Lk j))) := fun j hj => kept_cell (hL j hj) (kept_set _ _ _ _ _) (by show g1 ≠ _; omega)
        have hne2 : Hid (∀ j, j < N → (wr.setCell ⟨w5.heap.size, A i, none⟩ (.bool true)).cell? ⟨g2, j, none⟩ = some (.int .i64 (A j))) := fun j hj => kept_cell (hAl j hj) (kept_set _ _ _ _ _) (by show g2 ≠ _; omega)
        have hlt' : (i : Int) < N := by omega
        clear hS hAl hB hfr
        by_cases hik : (i : Int) < K
        · have c1 := hL i hlt
          have hle := unhide hF i (by omega)
          rw [← hle] at c1
          have hd1 : decide ((i : Int) < K) = true := decide_eq_true hik
          have hd2 : decide (i < K) = true := decide_eq_true (by omega)
          clear hL hle
          generalize A i = x at *
          have hx1 : ¬ (x : Int) < 0 := by omega
          have hx2 : ¬ (N : Int) ≤ x := by omega
          have hx3 : (x : Int) < 151 := by omega
          have hx1d : decide ((x : Int) < 0) = false := decide_eq_false hx1
          have hx2d : decide ((N : Int) ≤ x) = false := decide_eq_false hx2
          have hx2e : decide (N ≤ x) = false := decide_eq_false (by omega)
          clear hx1 hx2
          go_wp2
          go_quiet (fail)
          go_wp2
          go_roundw
          case rel => exact ⟨i + 1, by omega, by go_num, unhide HS, unhide hne1, unhide hne2, ⟨(unhide HB2).os, (unhide HB2).tape, (unhide HB2).output, (unhide HB2).size, (unhide HB2).block⟩⟩
          case measure => simp [intOf]; omega
        · clear hL
          generalize A i = x at *
          have hx1 : ¬ (x : Int) < 0 := by omega
          have hx2 : ¬ (N : Int) ≤ x := by omega
          have hx3 : (x : Int) < 151 := by omega
          have hx1d : decide ((x : Int) < 0) = false := decide_eq_false hx1
          have hx2d : decide ((N : Int) ≤ x) = false := decide_eq_false hx2
          have hx2e : decide (N ≤ x) = false := decide_eq_false (by omega)
          clear hx1 hx2
          have hd1 : decide ((i : Int) < K) = false := decide_eq_false hik
          have hd2 : decide (i < K) = false := decide_eq_false (by omega)
          clear hik
          go_wp2
          go_quiet (fail)
          go_wp2
          go_roundw
          case rel => exact ⟨i + 1, by omega, by go_num, unhide HS, unhide hne1, unhide hne2, ⟨(unhide HB2).os, (unhide HB2).tape, (unhide HB2).output, (unhide HB2).size, (unhide HB2).block⟩⟩
          case measure => simp [intOf]; omega
      · clear hS hL hAl
        have hlt' : ¬ (i : Int) < N := by omega
        go_wp2
        go_ret
        exact ⟨rfl, hB⟩

end Go.Proofs.Ytlkbknjcjmpbfaa

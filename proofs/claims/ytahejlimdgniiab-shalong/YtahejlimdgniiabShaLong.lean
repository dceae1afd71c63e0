/- What the law ShaLong does, whatever the world: it answers true and changes nothing that was there. -/
import Derived.Test.YtahejlimdgniiabShaAwake
namespace Go.Proofs.Ytahejlimdgniiab
open Go.RowKit
set_option linter.unusedVariables false

theorem tmod_bounds (a b : Int) (hb : 0 < b) : -b < a.tmod b ∧ a.tmod b < b := by
  have h1 := Int.tmod_lt_of_pos a hb
  have h2 := Int.lt_tmod_of_pos a hb
  omega
theorem size_ne_nil {l : List UInt8} (h : l.length = 32) : (⟨l.toArray⟩ : ByteArray).toList.isEmpty = false := by
  rw [ByteArray.toList_eq]
  cases l with
  | nil => simp at h
  | cons a l => rfl

theorem sum_both (w : World) (s : ByteArray) (hs : s.size ≤ maxLen) :
    Calls Try.prog 13 #[.string s] w fun e w' => ∃ t : ByteArray, e = .returned (.string t) ∧ t.toList.isEmpty = decide (65536 < s.size) ∧ Below w.heap.size w w' := by
  by_cases h : 65536 < s.size
  · refine (sum_long w s hs h).mono ?_
    rintro e w' ⟨rfl, b⟩
    exact ⟨_, rfl, by rw [decide_eq_true h, ByteArray.toList_eq]; rfl, b⟩
  · refine (sum_any w s (by omega)).mono ?_
    rintro e w' ⟨rfl, b⟩
    exact ⟨_, rfl, by rw [decide_eq_false h]; exact size_ne_nil (shaSum_length _), b⟩

set_option maxHeartbeats 1000000 in
set_option maxRecDepth 100000 in
theorem shaLong_any (part over : Int) (w : World) (h0 : (Lit.int .i64 part).wf = true) (h1 : (Lit.int .i64 over).wf = true) :
    Calls Try.prog 3 #[.int .i64 part, .int .i64 over] w fun e w' => e = .returned (.bool true) ∧ Below w.heap.size w w' := by
  obtain ⟨t1, t2⟩ := tmod_bounds over 7 (by omega)
  obtain ⟨N, hN⟩ := Int.eq_ofNat_of_zero_le (show 0 ≤ 65533 + over.tmod 7 % 7 by omega)
  have n1 : 65533 ≤ N := by omega
  have n2 : N ≤ 65539 := by omega
  clear h0 h1
  obtain ⟨i0, hi, hz0, hz1, hz2⟩ := info_parts Try.infoU
  by_cases hc : (N : Int) ≤ 65536
  · obtain ⟨t3, t4⟩ := tmod_bounds part N (by omega)
    obtain ⟨p, hp⟩ := Int.eq_ofNat_of_zero_le (show 0 ≤ part.tmod N % N from Int.emod_nonneg _ (by omega))
    have p1 : p < N := by have := Int.emod_lt_of_pos (part.tmod N) (show (0 : Int) < N by omega); omega
    go_enter Try.func3, Try.ntmps3
    go_wp2_with fail
    refine (new_any w).mono ?_
    rintro e w1 ⟨b, rfl, hA, hb, b1⟩
    have HA := hide hA
    clear hA
    go_wp2_with fail
    refine (awake_any w1).mono ?_
    rintro e w2 ⟨rfl, b2⟩
    have A2 := hide ((unhide HA).below b2)
    have B2 := hide (b1.trans (b2.mono b1.size))
    have HB := hide (Nat.lt_of_lt_of_le (unhide HA).lt b2.size)
    clear HA b1 b2
    go_wp2_with (at_make; refine wpList_make_full _ rfl _ _ 25 rfl w.heap.size 5 i0 (.int .u8 0) 1 Try.undB hi hz0 hz1 .i64 .i64 _ _ N rfl rfl rfl rfl ?c2 ?c3 ?c4 ?_)
    case c2 => rw [hz2]; omega
    case c3 => unfold maxLen; omega
    case c4 => exact (unhide B2).size
    intro w3 hown hgrow
    have b3 : Below w.heap.size w w3 := (unhide B2).grown hgrow (unhide B2).size (by intro k hk; cases hk)
    have A3 := hide ((unhide A2).below ((Below.refl w2.heap.size _).grown hgrow (Nat.le_refl _) (by intro k hk; cases hk)))
    rw [made_bytes] at hown
    have hcv := run_string_own (P := Try.prog) 25 9 Try.undB (by kernel_rfl) (by kernel_rfl) hown
    obtain ⟨s, hs⟩ : ∃ s : ByteArray, s = ⟨(List.replicate N 0).toArray⟩ := ⟨_, rfl⟩
    rw [← hs] at hcv
    have hsz : s.size = N := by rw [hs]; simp [ByteArray.size]
    clear hs hown hgrow hi hz0 hz1 hz2 t1 t2 t3 t4 A2 B2
    have HS := hide hsz
    have B3 := hide b3
    clear b3
    have hps : (p : Int) ≤ s.size := by rw [hsz]; omega
    have hX : (s.extract 0 p).size = p := by
      rw [ByteArray.size_extract]
      omega
    have hY : (s.extract p N).size = N - p := by
      rw [ByteArray.size_extract]
      omega
    have HX := hide hX
    have HY := hide hY
    have HP := hide p1
    have HN := hide n2
    clear hX hY hN hp
    go_wp2_with fail
    refine (write_any w3 b [] _ _ (s.extract 0 p) (by rw [unhide HX]; have := unhide HP; simp; omega) (unhide A3) hashOf_nil).mono ?_
    rintro e w4 ⟨rfl, st4, P4, hA4, hO4, hK4⟩
    rw [List.nil_append] at hA4 hO4
    have A4 := hide hA4
    have O4 := hide hO4
    have B4 := hide ((unhide B3).trans (hK4.below _ (unhide B3).size hb))
    have hLp : (s.extract 0 p).data.toList.length = p := by rw [blen]; exact unhide HX
    clear hA4 hO4 hK4 B3 A3
    go_wp2_with fail
    refine (write_any w4 b _ st4 P4 (s.extract p N) (by rw [hLp, unhide HY]; have := unhide HP; omega) (unhide A4) (unhide O4)).mono ?_
    rintro e w5 ⟨rfl, st5, P5, hA5, hO5, hK5⟩
    have B5 := hide ((unhide B4).trans (hK5.below _ (unhide B4).size hb))
    clear hA5 hO5 hK5 B4 A4 O4 hLp hps hsz
    have d1 : decide ((N : Int) ≤ 65536) = true := by simpa using hc
    have d2 : decide ((65536 : Int) < N) = false := by simp; omega
    go_wp2_with fail
    refine (sum_both w5 s (by rw [unhide HS]; unfold maxLen; omega)).mono ?_
    rintro e w6 ⟨t, rfl, ht, b6⟩
    rw [unhide HS, decide_eq_false (by omega)] at ht
    have B6 := hide ((unhide B5).trans (b6.mono (unhide B5).size))
    clear b6 B5
    go_wp2
    go_ret
    exact ⟨rfl, unhide B6⟩
  · obtain ⟨t3, t4⟩ := tmod_bounds part 65536 (by omega)
    obtain ⟨p, hp⟩ := Int.eq_ofNat_of_zero_le (show 0 ≤ part.tmod 65536 % 65536 from Int.emod_nonneg _ (by omega))
    have p1 : p < 65536 := by have := Int.emod_lt_of_pos (part.tmod 65536) (show (0 : Int) < 65536 by omega); omega
    go_enter Try.func3, Try.ntmps3
    go_wp2_with fail
    refine (new_any w).mono ?_
    rintro e w1 ⟨b, rfl, hA, hb, b1⟩
    have HA := hide hA
    clear hA
    go_wp2_with fail
    refine (awake_any w1).mono ?_
    rintro e w2 ⟨rfl, b2⟩
    have A2 := hide ((unhide HA).below b2)
    have B2 := hide (b1.trans (b2.mono b1.size))
    have HB := hide (Nat.lt_of_lt_of_le (unhide HA).lt b2.size)
    clear HA b1 b2
    go_wp2_with (at_make; refine wpList_make_full _ rfl _ _ 25 rfl w.heap.size 5 i0 (.int .u8 0) 1 Try.undB hi hz0 hz1 .i64 .i64 _ _ N rfl rfl rfl rfl ?c2 ?c3 ?c4 ?_)
    case c2 => rw [hz2]; omega
    case c3 => unfold maxLen; omega
    case c4 => exact (unhide B2).size
    intro w3 hown hgrow
    have b3 : Below w.heap.size w w3 := (unhide B2).grown hgrow (unhide B2).size (by intro k hk; cases hk)
    have A3 := hide ((unhide A2).below ((Below.refl w2.heap.size _).grown hgrow (Nat.le_refl _) (by intro k hk; cases hk)))
    rw [made_bytes] at hown
    have hcv := run_string_own (P := Try.prog) 25 9 Try.undB (by kernel_rfl) (by kernel_rfl) hown
    obtain ⟨s, hs⟩ : ∃ s : ByteArray, s = ⟨(List.replicate N 0).toArray⟩ := ⟨_, rfl⟩
    rw [← hs] at hcv
    have hsz : s.size = N := by rw [hs]; simp [ByteArray.size]
    clear hs hown hgrow hi hz0 hz1 hz2 t1 t2 t3 t4 A2 B2
    have HS := hide hsz
    have B3 := hide b3
    clear b3
    have hps : (p : Int) ≤ s.size := by rw [hsz]; omega
    have hX : (s.extract 0 p).size = p := by
      rw [ByteArray.size_extract]
      omega
    have hY : (s.extract p N).size = N - p := by
      rw [ByteArray.size_extract]
      omega
    have HX := hide hX
    have HY := hide hY
    have HP := hide p1
    have HN := hide n2
    clear hX hY hN hp
    go_wp2_with fail
    refine (write_any w3 b [] _ _ (s.extract 0 p) (by rw [unhide HX]; have := unhide HP; simp; omega) (unhide A3) hashOf_nil).mono ?_
    rintro e w4 ⟨rfl, st4, P4, hA4, hO4, hK4⟩
    rw [List.nil_append] at hA4 hO4
    have A4 := hide hA4
    have O4 := hide hO4
    have B4 := hide ((unhide B3).trans (hK4.below _ (unhide B3).size hb))
    have hLp : (s.extract 0 p).data.toList.length = p := by rw [blen]; exact unhide HX
    clear hA4 hO4 hK4 B3 A3
    go_wp2_with fail
    refine (write_long w4 b st4 P4 p (s.extract p N) (by rw [unhide HY]; unfold maxLen; have := unhide HN; omega) (by have := unhide HP; omega) (by rw [unhide HY]; have := unhide HP; omega) (by have := unhide A4; rw [hLp] at this; exact this)).mono ?_
    rintro e w5 ⟨rfl, rfl⟩
    rw [hLp] at A4
    clear O4 hLp hps hsz
    have d1 : decide ((N : Int) ≤ 65536) = false := by simpa using hc
    go_wp2_with fail
    refine (len_any w4 b st4 P4 p (unhide A4)).mono ?_
    rintro e w5 ⟨rfl, rfl⟩
    go_wp2_with fail
    refine (sum_both w4 s (by rw [unhide HS]; unfold maxLen; omega)).mono ?_
    rintro e w6 ⟨t, rfl, ht, b6⟩
    rw [unhide HS, decide_eq_true (by omega)] at ht
    have B6 := hide ((unhide B4).trans (b6.mono (unhide B4).size))
    clear b6 B4
    go_wp2
    go_ret
    exact ⟨rfl, unhide B6⟩

end Go.Proofs.Ytahejlimdgniiab

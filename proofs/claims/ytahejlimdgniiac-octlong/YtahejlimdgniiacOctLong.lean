/- What the law OctLong does, whatever the world: it answers true and changes nothing that was there. -/
import Derived.Test.YtahejlimdgniiacOctAwake
namespace Go.Proofs.Ytahejlimdgniiac
open Go.RowKit
set_option linter.unusedVariables false

theorem Kept.heap {B b k : Nat} {w w' : World} (h : Kept B b w w') (hk : k < B) (hn : k ≠ b) : w'.heap[k]? = w.heap[k]? := h.block k hk hn

theorem empty_writer {w : World} {b : Nat} (h : w.heap[b]? = some (.cells #[.slice none 0 0, .int .i64 0] 43 (0, 0))) (base : Nat) : WriterAt w b base [] 0 :=
  ⟨⟨none, 0, h, World.ownsRow_nil _ _ _ _⟩⟩

theorem to_any2 (w : World) :
    Calls Try.prog 8 #[] w fun x w' => x = .returned (.pointer (some ⟨w.heap.size, 0, none⟩)) ∧ w'.heap[w.heap.size]? = some (.cells #[.slice none 0 0, .int .i64 0] 43 (0, 0)) ∧ w'.heap.size = w.heap.size + 1 ∧ Below w.heap.size w w' := by
  refine (to_any w).mono ?_
  rintro e w' ⟨rfl, _, rfl⟩
  exact ⟨rfl, heap_alloc_new _ _, by simp, (Below.refl _ _).alloc (Nat.le_refl _) _⟩

theorem bytes_any2 (w : World) (b base : Nat) (l : List UInt8) (err : Int) (hW : WriterAt w b base l err) :
    Calls Try.prog 10 #[.pointer (some ⟨b, 0, none⟩)] w fun x w' => ∃ t : ByteArray, x = .returned (.tuple #[.string t, .int .i64 err]) ∧ (¬ err = 0 → t = ⟨#[]⟩) ∧ ∃ n, w' = w.drewN n := by
  refine (bytes_any w b base l err hW).mono ?_
  rintro e w' ⟨rfl, h⟩
  exact ⟨_, rfl, fun h => by rw [if_neg h], h⟩

theorem putS_len2 (n : Nat) (h : n ≤ 65535) : (putS n 2).1.length = 2 ∧ (putS n 2).2 = 0 := by
  unfold putS
  have h2 : (n : Int) / 2 ^ (8 * (2 : Int).toNat) = 0 := by
    show (n : Int) / 65536 = 0
    omega
  rw [if_neg (by omega), if_neg (by rintro (h | h) <;> omega)]
  exact ⟨putB_length _ _, rfl⟩
theorem text_err (L : List UInt8) : (L.length ≤ 65534 ∧ (wText ([], 0) L).2 = 0) ∨ (65534 < L.length ∧ (wText ([], 0) L).2 = 2) := by
  unfold wText
  by_cases h : 65535 < L.length
  · rw [if_pos h]
    exact .inr ⟨by omega, by simp [wNote]⟩
  · rw [if_neg h]
    obtain ⟨p1, p2⟩ := putS_len2 L.length (by omega)
    have e : wNum ([], 0) L.length 2 = ((putS L.length 2).1, 0) := by
      unfold wNum
      rw [if_neg (by simp [p2])]
      unfold wRaw
      rw [if_neg (by simp), if_neg (by simp only [List.length_nil, p1]; omega)]
      simp
    rw [e]
    unfold wRaw
    rw [if_neg (by simp)]
    simp only [p1]
    by_cases h2 : 65536 < 2 + L.length
    · rw [if_pos h2]; exact .inr ⟨by omega, rfl⟩
    · rw [if_neg h2]; exact .inl ⟨by omega, rfl⟩
theorem raws_err (X Y : List UInt8) : (X.length + Y.length ≤ 65536 ∧ (wRaw (wRaw ([], 0) X) Y).2 = 0) ∨ (65536 < X.length + Y.length ∧ (wRaw (wRaw ([], 0) X) Y).2 = 2) := by
  by_cases h : 65536 < X.length
  · have e : wRaw ([], 0) X = ([], 2) := by simp [wRaw, h]
    rw [e]
    exact .inr ⟨by omega, by simp [wRaw]⟩
  · have e : wRaw ([], 0) X = (X, 0) := by simp [wRaw, h]
    rw [e]
    by_cases h2 : 65536 < X.length + Y.length
    · exact .inr ⟨h2, by simp [wRaw, h2]⟩
    · exact .inl ⟨by omega, by simp [wRaw, h2]⟩

theorem tmod_bounds (a b : Int) (hb : 0 < b) : -b < a.tmod b ∧ a.tmod b < b := by
  have h1 := Int.tmod_lt_of_pos a hb
  have h2 := Int.lt_tmod_of_pos a hb
  omega

set_option maxHeartbeats 1000000 in
set_option maxRecDepth 100000 in
theorem octLong_any (n part : Int) (w : World) (h0 : (Lit.int .i64 n).wf = true) (h1 : (Lit.int .i64 part).wf = true) :
    Calls Try.prog 4 #[.int .i64 n, .int .i64 part] w fun e w' => e = .returned (.bool true) ∧ Below w.heap.size w w' := by
  obtain ⟨t1, t2⟩ := tmod_bounds n 10 (by omega)
  obtain ⟨N, hN⟩ := Int.eq_ofNat_of_zero_le (show 0 ≤ 65530 + n.tmod 10 % 10 by omega)
  have n1 : 65530 ≤ N := by omega
  have n2 : N ≤ 65539 := by omega
  obtain ⟨t3, t4⟩ := tmod_bounds part N (by omega)
  obtain ⟨p, hp⟩ := Int.eq_ofNat_of_zero_le (show 0 ≤ part.tmod N % N from Int.emod_nonneg _ (by omega))
  have p1 : p < N := by have := Int.emod_lt_of_pos (part.tmod N) (show (0 : Int) < N by omega); omega
  obtain ⟨i0, hi, hz0, hz1, hz2⟩ := info_parts Try.info5
  clear h0 h1
  go_enter Try.func4, Try.ntmps4
  go_wp2_with (at_make; refine wpList_make_full _ rfl _ _ 27 rfl w.heap.size 5 i0 (.int .u8 0) 1 Try.und27 hi hz0 hz1 .i64 .i64 _ _ N rfl rfl rfl rfl ?c2 ?c3 ?c4 ?_)
  case c2 => rw [hz2]; omega
  case c3 => unfold maxLen; omega
  case c4 => exact Nat.le_refl _
  intro w1 hown hgrow
  have b1 : Below w.heap.size w w1 := (Below.refl _ _).grown hgrow (Nat.le_refl _) (by intro k hk; cases hk)
  rw [made_bytes] at hown
  have hcv := run_string_own (P := Try.prog) 27 9 Try.und27 (by kernel_rfl) (by kernel_rfl) hown
  obtain ⟨s, hs⟩ : ∃ s : ByteArray, s = ⟨(List.replicate N 0).toArray⟩ := ⟨_, rfl⟩
  rw [← hs] at hcv
  have hsz : s.size = N := by rw [hs]; simp [ByteArray.size]
  clear hs hown hgrow hi hz0 hz1 hz2 t1 t2 t3 t4
  have HS := hide hsz
  go_wp2_with fail
  refine (to_any2 w1).mono ?_
  rintro e w2 ⟨rfl, a2, z2, b2⟩
  have A2 := hide a2
  have Z2 := hide z2
  clear a2 z2 hcv
  go_wp2_with fail
  refine (to_any2 w2).mono ?_
  rintro e w3 ⟨rfl, a3, z3, b3⟩
  have A3 := hide a3
  have Z3 := hide z3
  clear a3 z3
  go_wp2_with fail
  refine (awake_any w3).mono ?_
  rintro e w4 ⟨rfl, b4⟩
  have F : Hid (w4.heap[w1.heap.size]? = some (.cells #[.slice none 0 0, .int .i64 0] 43 (0, 0)) ∧ w4.heap[w2.heap.size]? = some (.cells #[.slice none 0 0, .int .i64 0] 43 (0, 0)) ∧ w1.heap.size < w2.heap.size ∧ w2.heap.size < w4.heap.size ∧ w.heap.size ≤ w1.heap.size ∧ Below w.heap.size w w4) := by
    have z2 := unhide Z2
    have z3 := unhide Z3
    have z1 := b1.size
    have z4 := b4.size
    refine ⟨?_, ?_, by omega, by omega, z1, ?_⟩
    · rw [b4.block _ (by omega), b3.block _ (by omega)]; exact unhide A2
    · rw [b4.block _ (by omega)]; exact unhide A3
    · exact ((b1.trans (b2.mono z1)).trans (b3.mono (by omega))).trans (b4.mono (by omega))
  clear A2 A3 Z2 Z3 b1 b2 b3 b4
  go_wp2_with fail
  refine (wtext_any w4 w1.heap.size w4.heap.size [] 0 s (by rw [unhide HS]; unfold maxLen; omega) (by simp) (Nat.le_refl _) (by have := unhide F; omega) (empty_writer (unhide F).1 _)).mono ?_
  rintro e w5 ⟨rfl, hW5, k5⟩
  have E1 := hide (text_err s.data.toList)
  have HW5 := hide hW5
  have K5 := hide k5
  clear hW5 k5
  generalize (wText ([], 0) s.data.toList).1 = l1 at *
  generalize (wText ([], 0) s.data.toList).2 = e1 at *
  go_wp2_with fail
  refine (bytes_any2 w5 w1.heap.size w4.heap.size l1 e1 (unhide HW5)).mono ?_
  rintro e w6 ⟨x1, rfl, hx1, nd6, hw6⟩
  have X1 := hide hx1
  have G : Hid (w6.heap[w2.heap.size]? = some (.cells #[.slice none 0 0, .int .i64 0] 43 (0, 0)) ∧ w2.heap.size < w6.heap.size ∧ w.heap.size ≤ w2.heap.size ∧ Below w.heap.size w w6) := by
    obtain ⟨f1, f2, f3, f4, f5, f6⟩ := unhide F
    have k := unhide K5
    have z := k.size
    rw [hw6]
    refine ⟨?_, Nat.lt_of_lt_of_le f4 z, by omega, below_drewN (f6.trans (k.below _ (by omega) (by omega))) nd6⟩
    exact (k.block _ f4 (by omega)).trans f2
  clear hx1 hw6 F K5 HW5
  have hps : (p : Int) ≤ s.size := by rw [unhide HS]; omega
  have hL : s.data.toList.length = N := by rw [← unhide HS]; simp
  rw [hL] at E1
  have hX : (s.extract 0 p).data.toList.length = p := by
    rw [blen, ByteArray.size_extract]
    omega
  have hY : (s.extract p N).data.toList.length = N - p := by
    rw [blen, ByteArray.size_extract]
    omega
  have hX2 : (s.extract 0 p).size ≤ maxLen := by rw [ByteArray.size_extract]; unfold maxLen; omega
  have hY2 : (s.extract p N).size ≤ maxLen := by rw [ByteArray.size_extract]; unfold maxLen; omega
  have E2 := raws_err (s.extract 0 p).data.toList (s.extract p N).data.toList
  rw [hX, hY, show p + (N - p) = N by omega] at E2
  have HE2 := hide E2
  have HX2 := hide hX2
  have HY2 := hide hY2
  clear E2 hX hY hX2 hY2 hL
  go_wp2_with fail
  refine (wraw_any w6 w2.heap.size w6.heap.size [] 0 (s.extract 0 p) (unhide HX2) (by simp) (Nat.le_refl _) (unhide G).2.1 (empty_writer (unhide G).1 _)).mono ?_
  rintro e w7 ⟨rfl, hW7, k7⟩
  have HW7 := hide hW7
  have K7 := hide k7
  clear hW7 k7
  go_wp2_with fail
  refine (wraw_any w7 w2.heap.size w6.heap.size _ _ (s.extract p N) (unhide HY2) (wRaw_le (by simp) _) (unhide K7).size (unhide G).2.1 (unhide HW7)).mono ?_
  rintro e w8 ⟨rfl, hW8, k8⟩
  have HW8 := hide hW8
  have K8 := hide ((unhide K7).trans k8)
  clear hW8 k8 K7 HW7
  generalize (wRaw (wRaw ([], 0) (s.extract 0 p).data.toList) (s.extract p N).data.toList).1 = l2 at *
  generalize (wRaw (wRaw ([], 0) (s.extract 0 p).data.toList) (s.extract p N).data.toList).2 = e2 at *
  go_wp2_with fail
  refine (bytes_any2 w8 w2.heap.size w6.heap.size l2 e2 (unhide HW8)).mono ?_
  rintro e w9 ⟨x2, rfl, hx2, nd9, hw9⟩
  have B : Hid (Below w.heap.size w w9) := by
    obtain ⟨g1, g2, g3, g4⟩ := unhide G
    rw [hw9]
    exact below_drewN (g4.trans ((unhide K8).below _ (by omega) g3)) nd9
  clear hw9 HW8 K8 G HX2 HY2 hps hsz HS
  rcases unhide E1 with ⟨q1, rfl⟩ | ⟨q1, rfl⟩
  · rcases unhide HE2 with ⟨q2, rfl⟩ | ⟨q2, rfl⟩
    · have d1 : decide ((N : Int) + 2 ≤ 65536) = true := by simp; omega
      have d2 : decide ((N : Int) ≤ 65536) = true := by simp; omega
      have n3 : (N : Int) ≤ 65539 := by omega
      clear hx2 X1 E1 HE2 q1 q2 n1 n2 p1
      go_wp2
      go_ret
      exact ⟨rfl, unhide B⟩
    · omega
  · have hx1 := unhide X1 (by omega)
    subst hx1
    rcases unhide HE2 with ⟨q2, rfl⟩ | ⟨q2, rfl⟩
    · have d1 : decide ((N : Int) + 2 ≤ 65536) = false := by simp; omega
      have d2 : decide ((N : Int) ≤ 65536) = true := by simp; omega
      have n3 : (N : Int) ≤ 65539 := by omega
      clear hx2 X1 E1 HE2 q1 q2 n1 n2 p1
      go_wp2
      go_ret
      exact ⟨rfl, unhide B⟩
    · have hx3 := hx2 (by omega)
      subst hx3
      have d1 : decide ((N : Int) + 2 ≤ 65536) = false := by simp; omega
      have d2 : decide ((N : Int) ≤ 65536) = false := by simp; omega
      have n3 : (N : Int) ≤ 65539 := by omega
      clear hx2 X1 E1 HE2 q1 q2 n1 n2 p1
      go_wp2
      go_ret
      exact ⟨rfl, unhide B⟩

end Go.Proofs.Ytahejlimdgniiac

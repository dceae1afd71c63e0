/- What the law ShaHexes does, whatever the world: it answers true and changes nothing that was there. -/
import Derived.Test.YtahejlimdgniiaaShaAwake
import Derived.Test.YtahejlimdgniiaaRefX
namespace Go.Proofs.Ytahejlimdgniiaa
open Go.RowKit
set_option linter.unusedVariables false

theorem digN_hexD (k : Nat) (h : k < 16) : digN (hexD k).toNat = k := by
  have : ∀ m : Fin 16, digN (hexD m.val).toNat = m.val := by decide +kernel
  exact this ⟨k, h⟩
theorem hexD_digN (c : UInt8) (h : digN c.toNat ≠ 16) : hexD (digN c.toNat) = c := by
  have : ∀ m : Fin 256, digN m.val ≠ 16 → (hexD (digN m.val)).toNat = m.val := by decide +kernel
  have h2 := this ⟨c.toNat, c.toNat_lt⟩ h
  exact UInt8.toNat_inj.1 h2

theorem hexL_even (l : List UInt8) : ∀ j, j < l.length → (hexL l).getD (2 * j) 0 = hexD ((l.getD j 0).toNat / 16) ∧ (hexL l).getD (2 * j + 1) 0 = hexD ((l.getD j 0).toNat % 16) := by
  induction l with
  | nil => intro j h; simp at h
  | cons b l ih =>
    intro j h
    cases j with
    | zero => exact ⟨rfl, rfl⟩
    | succ j =>
      have := ih j (by simpa using h)
      rw [show 2 * (j + 1) = 2 * j + 1 + 1 by omega]
      exact this

theorem unS_hexL (l : List UInt8) : unS (hexL l) = (l, 0) := by
  have hl : (hexL l).length / 2 = l.length := by rw [hexL_length]; omega
  rw [unS_ok (hexL l) (by rw [hexL_length]; omega), hl]
  · congr 1
    apply List.ext_getElem
    · rw [unP_length]
    · intro j h1 h2
      obtain ⟨e1, e2⟩ := hexL_even l j h2
      simp only [unP, List.getElem_map, List.getElem_range]
      unfold unB
      rw [e1, e2, digN_hexD _ (by have := (l.getD j 0).toNat_lt; omega), digN_hexD _ (by omega), Nat.div_add_mod]
      have : l.getD j 0 = l[j] := by rw [List.getD_eq_getElem?_getD, List.getElem?_eq_getElem h2]; rfl
      rw [this]
      exact UInt8.toNat_inj.1 (by rw [UInt8.toNat_ofNat', Nat.mod_eq_of_lt l[j].toNat_lt])
  · rw [hl]
    intro j hj
    obtain ⟨e1, e2⟩ := hexL_even l j hj
    show _ ∧ _
    rw [e1, e2, digN_hexD _ (by have := (l.getD j 0).toNat_lt; omega), digN_hexD _ (by omega)]
    have := (l.getD j 0).toNat_lt
    omega

theorem hexL_unP (l : List UInt8) : ∀ k, 2 * k ≤ l.length → (∀ j, j < k → goodAt l j) → hexL (unP l k) = l.take (2 * k) := by
  intro k
  induction k with
  | zero => intro _ _; rfl
  | succ k ih =>
    intro h hg
    rw [unP_succ, hexL_append, ih (by omega) (fun j hj => hg j (by omega))]
    obtain ⟨g1, g2⟩ := hg k (by omega)
    have v := unB_val l k ⟨g1, g2⟩
    have d1 := digN_le (l.getD (2 * k) 0).toNat
    have d2 := digN_le (l.getD (2 * k + 1) 0).toNat
    have e1 : (unB l k).toNat / 16 = digN (l.getD (2 * k) 0).toNat := by omega
    have e2 : (unB l k).toNat % 16 = digN (l.getD (2 * k + 1) 0).toNat := by omega
    have e3 : hexL [unB l k] = [l.getD (2 * k) 0, l.getD (2 * k + 1) 0] := by
      show [hexD ((unB l k).toNat / 16), hexD ((unB l k).toNat % 16)] = _
      rw [e1, e2, hexD_digN _ g1, hexD_digN _ g2]
    rw [e3, show 2 * (k + 1) = 2 * k + 1 + 1 by omega, List.take_succ_eq_append_getElem (show 2 * k + 1 < l.length by omega), List.take_succ_eq_append_getElem (show 2 * k < l.length by omega)]
    rw [List.append_assoc]
    congr 1
    rw [List.getD_eq_getElem?_getD, List.getElem?_eq_getElem (show 2 * k < l.length by omega), List.getD_eq_getElem?_getD, List.getElem?_eq_getElem (show 2 * k + 1 < l.length by omega)]
    rfl
theorem hexL_unS (l : List UInt8) (h : (unS l).2 = 0) : hexL (unS l).1 = l := by
  unfold unS at *
  by_cases c : l.length % 2 = 0 ∧ (∀ j, j < l.length / 2 → goodAt l j)
  · rw [if_pos c]
    show hexL (unP l (l.length / 2)) = l
    rw [hexL_unP l _ (by omega) c.2, List.take_of_length_le (by omega)]
  · rw [if_neg c] at h
    simp at h
theorem unS_cases (l : List UInt8) : (unS l).2 = 0 ∨ (unS l).2 = 3 := by
  unfold unS
  split
  · exact .inl rfl
  · exact .inr rfl
theorem unS_length (l : List UInt8) : (unS l).1.length ≤ l.length := by
  unfold unS
  split
  · show (unP l _).length ≤ _
    rw [unP_length]; omega
  · exact Nat.zero_le _

theorem unhex_any (s : ByteArray) (w : World) (hs : s.size ≤ 100000) :
    Calls Try.prog 24 #[.string s] w fun e w' => e = .returned (.tuple #[.string ⟨(unS s.data.toList).1.toArray⟩, .int .i64 (unS s.data.toList).2]) ∧ Below w.heap.size w w' := by
  by_cases h : s.size % 2 = 0
  · exact unhex_even s w hs h
  · rw [unS_odd _ (by rw [blen]; exact h)]
    refine (unhex_odd s w hs h).mono ?_
    rintro e w' ⟨rfl, rfl⟩
    exact ⟨rfl, Below.refl _ _⟩

set_option maxHeartbeats 1000000 in
theorem shaHexes_any (s : ByteArray) (w : World) (hs : s.size ≤ maxLen) :
    Calls Try.prog 8 #[.string s] w fun e w' => e = .returned (.bool true) ∧ Below w.heap.size w w' := by
  by_cases hl : (2000 : Int) < s.size
  · unfold maxLen at hs
    go_enter Try.func8, Try.ntmps8
    go_wp2_with fail
    refine (awake_any w).mono ?_
    rintro e w1 ⟨rfl, b1⟩
    go_wp2
    go_ret
    exact ⟨rfl, b1⟩
  · have hl2 : s.size ≤ 2000 := by omega
    clear hs
    obtain ⟨X, hX⟩ : ∃ X : ByteArray, X = ⟨(hexL s.data.toList).toArray⟩ := ⟨_, rfl⟩
    have hXl : X.data.toList = hexL s.data.toList := by rw [hX]
    have hXs : X.size ≤ 4000 := by rw [← blen, hXl, hexL_length, blen]; omega
    obtain ⟨B, hB⟩ : ∃ B : ByteArray, B = ⟨(unS s.data.toList).1.toArray⟩ := ⟨_, rfl⟩
    have hBl : B.data.toList = (unS s.data.toList).1 := by rw [hB]
    have hBs : B.size ≤ 2000 := by rw [← blen, hBl]; have := unS_length s.data.toList; rw [blen] at this; omega
    have h1 := hide (fun w => hex_any s w (by omega))
    have h2 := hide (fun w => rhex_any s w (by omega))
    have h3 := hide (fun w => unhex_any s w (by omega))
    have h4 := hide (fun w => runhex_any s w (by omega))
    have h5 := hide (fun w => unhex_any X w (by omega))
    have h6 := hide (fun w => hex_any B w (by omega))
    rw [← hX] at h1 h2
    rw [hXl, unS_hexL, show (⟨s.data.toList.toArray⟩ : ByteArray) = s from rfl] at h5
    rw [← hB] at h3 h4
    have hb := hide (hexL_unS s.data.toList)
    rw [← hBl] at hb
    have hc := unS_cases s.data.toList
    generalize (unS s.data.toList).2 = er at *
    have h6' : Hid (er = 0 → ∀ w, Calls Try.prog 26 #[.string B] w fun e w' => e = .returned (.string s) ∧ Below w.heap.size w w') := by
      show _ → _
      intro h0 w
      have := unhide h6 w
      rw [unhide hb h0] at this
      exact this
    clear hX hXl hXs hB hBl hBs h6 hb
    have hl' : ¬ (2000 : Int) < s.size := hl
    rcases hc with rfl | rfl
    · have h6 := hide (unhide h6' rfl)
      clear h6'
      go_enter Try.func8, Try.ntmps8
      go_wp2_with fail
      refine (unhide h3 w).mono ?_
      rintro e w1 ⟨rfl, b1⟩
      have B1 := hide b1
      clear b1
      go_wp2_with fail
      refine (unhide h4 w1).mono ?_
      rintro e w2 ⟨rfl, b2⟩
      have B2 := hide ((unhide B1).trans (b2.mono (unhide B1).size))
      clear b2 B1
      go_wp2_with fail
      refine (unhide h1 w2).mono ?_
      rintro e w3 ⟨rfl, b3⟩
      have B3 := hide ((unhide B2).trans (b3.mono (unhide B2).size))
      clear b3 B2
      go_wp2_with fail
      refine (unhide h5 w3).mono ?_
      rintro e w4 ⟨rfl, b4⟩
      have B4 := hide ((unhide B3).trans (b4.mono (unhide B3).size))
      clear b4 B3
      go_wp2_with fail
      refine (awake_any w4).mono ?_
      rintro e w5 ⟨rfl, b5⟩
      have B5 := hide ((unhide B4).trans (b5.mono (unhide B4).size))
      clear b5 B4
      go_wp2_with fail
      refine (unhide h1 w5).mono ?_
      rintro e w6 ⟨rfl, b6⟩
      have B6 := hide ((unhide B5).trans (b6.mono (unhide B5).size))
      clear b6 B5
      go_wp2_with fail
      refine (unhide h2 w6).mono ?_
      rintro e w7 ⟨rfl, b7⟩
      have B7 := hide ((unhide B6).trans (b7.mono (unhide B6).size))
      clear b7 B6
      go_wp2_with fail
      refine (unhide h6 w7).mono ?_
      rintro e w8 ⟨rfl, b8⟩
      have B8 := hide ((unhide B7).trans (b8.mono (unhide B7).size))
      clear b8 B7
      go_wp2
      go_ret
      exact ⟨by first | rfl | simp, unhide B8⟩
    · clear h6'
      go_enter Try.func8, Try.ntmps8
      go_wp2_with fail
      refine (unhide h3 w).mono ?_
      rintro e w1 ⟨rfl, b1⟩
      have B1 := hide b1
      clear b1
      go_wp2_with fail
      refine (unhide h4 w1).mono ?_
      rintro e w2 ⟨rfl, b2⟩
      have B2 := hide ((unhide B1).trans (b2.mono (unhide B1).size))
      clear b2 B1
      go_wp2_with fail
      refine (unhide h1 w2).mono ?_
      rintro e w3 ⟨rfl, b3⟩
      have B3 := hide ((unhide B2).trans (b3.mono (unhide B2).size))
      clear b3 B2
      go_wp2_with fail
      refine (unhide h5 w3).mono ?_
      rintro e w4 ⟨rfl, b4⟩
      have B4 := hide ((unhide B3).trans (b4.mono (unhide B3).size))
      clear b4 B3
      go_wp2_with fail
      refine (awake_any w4).mono ?_
      rintro e w5 ⟨rfl, b5⟩
      have B5 := hide ((unhide B4).trans (b5.mono (unhide B4).size))
      clear b5 B4
      go_wp2_with fail
      refine (unhide h1 w5).mono ?_
      rintro e w6 ⟨rfl, b6⟩
      have B6 := hide ((unhide B5).trans (b6.mono (unhide B5).size))
      clear b6 B5
      go_wp2_with fail
      refine (unhide h2 w6).mono ?_
      rintro e w7 ⟨rfl, b7⟩
      have B7 := hide ((unhide B6).trans (b7.mono (unhide B6).size))
      clear b7 B6
      go_wp2
      go_ret
      exact ⟨by first | rfl | simp, unhide B7⟩

end Go.Proofs.Ytahejlimdgniiaa

/- What the law StoreFull does, whatever the world: it answers true and changes nothing that was there. -/
import Derived.Test.YtgomnmhjkjahlaaStI
namespace Go.Proofs.Ytgomnmhjkjahlaa
open Go.RowKit
set_option linter.unusedVariables false
attribute [local go_sem] Oper.semAt_some

theorem mod_norm (n m : Int) (h1 : 1 ≤ m) : ∃ a : Int, n.tmod m = a ∧ -m < a ∧ a < m :=
  ⟨_, rfl, by have := Int.lt_tmod_of_pos n (show 0 < m by omega); omega, Int.tmod_lt_of_pos n (by omega)⟩
/-- what is kept behind i entries -/
structure Row14 (rs : List Raw) (i : Nat) : Prop where
  len : rs.length = i
  sd : ∀ r ∈ rs, r.seed < i
  all : ∀ k : Int, 1 ≤ k → k ≤ i → ∃ r ∈ rs, r.id = k
  fst : 1 ≤ i → rs.any (hasB 1 0 0 ⟨#[]⟩) = true
theorem Row14.no {rs : List Raw} {i : Nat} (h : Row14 rs i) (peer seed : Int) (hs : (i : Int) ≤ seed) : rs.any (hasB peer 0 seed ⟨#[]⟩) = false := by
  rw [List.any_eq_false]
  intro r hr
  have := h.sd r hr
  unfold hasB
  simp
  intro _ _ e
  omega
theorem Row14.nil : Row14 [] 0 := ⟨rfl, by simp, fun k h1 h2 => by omega, fun h => by omega⟩
theorem Row14.add {rs : List Raw} {i : Nat} (h : Row14 rs i) (a : Option Addr) (c : Nat) (l : List Int) : Row14 (rs ++ [⟨(i : Int) + 1, 1 + (i : Int) % 15, 0, (i : Int), ⟨#[]⟩, a, l, c, ⟨#[120]⟩⟩]) (i + 1) := by
  refine ⟨by simp [h.len], fun r hr => ?_, fun k h1 h2 => ?_, fun _ => ?_⟩
  · rw [List.mem_append] at hr
    rcases hr with hr | hr
    · have := h.sd r hr; omega
    · simp at hr; subst hr; simp only; omega
  · by_cases e : k = (i : Int) + 1
    · exact ⟨_, by simp; right; rfl, by simp [e]⟩
    · obtain ⟨r, hr, e2⟩ := h.all k h1 (by omega)
      exact ⟨r, List.mem_append_left _ hr, e2⟩
  · rw [List.any_append]
    by_cases e : 1 ≤ i
    · rw [h.fst e, Bool.true_or]
    · have : i = 0 := by omega
      subst this
      simp [hasB]
set_option maxRecDepth 100000 in
set_option maxHeartbeats 4000000 in
theorem storeFull_any (room drop : Int) (w : World) (hr : (Lit.int .i64 room).wf = true) (hd : (Lit.int .i64 drop).wf = true) : Calls Try.prog 5 #[.int .i64 room, .int .i64 drop] w fun e w' => e = .returned (.bool true) ∧ Below w.heap.size w w' := by
  have hr' := wf64 hr
  have hd' := wf64 hd
  obtain ⟨a, e1, ha1, ha2⟩ := mod_norm room 400 (by omega)
  obtain ⟨r0, e2⟩ : ∃ r0 : Int, (a + 400) % 400 = r0 := ⟨_, rfl⟩
  have hr0 : 0 ≤ r0 ∧ r0 < 400 := by omega
  obtain ⟨R, hR⟩ : ∃ R : Int, 1 + r0 = R := ⟨_, rfl⟩
  have hRb : 1 ≤ R ∧ R ≤ 400 := by omega
  obtain ⟨d1, e3, hd1, hd2⟩ := mod_norm drop R (by omega)
  obtain ⟨d0, e4⟩ : ∃ d0 : Int, (d1 + R) % R = d0 := ⟨_, rfl⟩
  have hd0 : 0 ≤ d0 ∧ d0 < R := by
    subst e4
    exact ⟨Int.emod_nonneg _ (by omega), Int.emod_lt_of_pos _ (by omega)⟩
  have hn := hide (new_any R w hRb.1 hRb.2)
  have hRp : 0 < R := by omega
  clear hr hd
  go_enter Try.func5, Try.ntmps5
  go_wp2_with fail
  have HE4 := hide e4
  obtain ⟨E, hE⟩ : ∃ E : Int, 1 + d0 = E := ⟨_, rfl⟩
  have hEb : 1 ≤ E ∧ E ≤ R := by omega
  clear e1 e2 e3 e4 hR HE4
  simp only [hE]
  clear hE hd0 hd1 hd2 ha1 ha2 hr0
  refine (unhide hn).mono ?_
  rintro e w1 ⟨⟨p, b, rfl, hp, hb, hS1⟩, hB1⟩
  have HS1 := hide hS1
  have HB1 := hide hB1
  clear hS1 hB1 hn
  go_wp2_with fail
  refine (sawake_any w1).mono ?_
  rintro e w2 ⟨rfl, hb2⟩
  have HS2 := hide ((unhide HS1).kept hb2)
  have HB2 := hide ((unhide HB1).trans (hb2.mono (unhide HB1).size))
  clear hb2 HS1 HB1
  go_wp2_with fail
  go_loopw [6] (fun v wr => ∃ (i : Nat) (rs : List Raw), (i : Int) ≤ R ∧ v = .int .i64 i ∧ StAt wr p b R i rs ∧ Row14 rs i ∧ Below w.heap.size w wr) (fun v _ => (R - intOf v).toNat)
  case atStart => exact ⟨0, [], by omega, rfl, unhide HS2, Row14.nil, unhide HB2⟩
  case round =>
    clear HS2 HB2
    obtain ⟨i, rs, hiR, rfl, hS, hRw, hB⟩ := hrel
    have hplt := hS.plt
    have HS := hide hS
    have HRW := hide hRw
    have HB := hide hB
    clear hS hRw hB
    by_cases hlt : (i : Int) < R
    · have hen := hide (entry_any (1 + (i : Int) % 15) i (by omega) (by omega) wr)
      have hm1 : 0 ≤ (i : Int) % 15 ∧ (i : Int) % 15 < 15 := by omega
      have hm2 : (Int.tmod (i : Int) 15) = (i : Int) % 15 := Int.tmod_eq_emod_of_nonneg (by omega)
      obtain ⟨k, hk⟩ : ∃ k : Int, (i : Int) % 15 = k := ⟨_, rfl⟩
      rw [hk] at hen hm1
      have HK := hide hk
      clear hm2
      go_wp2_with fail
      clear hk
      refine (unhide hen).mono ?_
      rintro e w3 ⟨⟨a3, rfl, hI3, hlt3⟩, hb3⟩
      have hS3 := (unhide HS).kept hb3
      have hA := hide (addE_ok p b R i rs (1 + k) i a3 w3 hS3 (by omega) (by omega) hI3 (fun a ha => by have := hlt3 a ha; omega) ((unhide HRW).no _ _ (by omega)) (by rw [(unhide HRW).len]; exact hlt) (by omega))
      have HB3 := hide ((unhide HB).trans (hb3.mono (unhide HB).size))
      clear hS3 hI3 hlt3 hb3 HS HB hen
      go_wp2_with fail
      refine (unhide hA).mono ?_
      rintro e w4 ⟨rfl, ⟨a4, c4, hS4⟩, hk4⟩
      have HS4 := hide hS4
      have HB4 := hide ((unhide HB3).trans (hk4.below w.heap.size (unhide HB3).size hp hb))
      have HRW4 := hide ((unhide HRW).add a4 c4 [(i : Int) % 100])
      clear hS4 hk4 hA HB3
      go_wp2
      go_roundw
      case rel =>
        refine ⟨i + 1, _, by omega, by go_num, ?_, unhide HRW4, unhide HB4⟩
        rw [unhide HK]
        exact unhide HS4
      case measure => simp [intOf]; omega
    · have hie : (i : Int) = R := by omega
      have hi400 : i ≤ 400 := by omega
      have HIE := hide hie
      clear hie
      have hen1 := hide (fun w => entry_any 1 ((i : Int) + 20) (by omega) (by omega) w)
      have hen0 := hide (fun w => entry_any 1 0 (by omega) (by omega) w)
      rw [unhide HIE] at hen1
      go_wp2_with fail
      refine (unhide hen1 wr).mono ?_
      rintro e w3 ⟨⟨a3, rfl, hI3, hlt3⟩, hb3⟩
      have hS3 := (unhide HS).kept hb3
      have hA := hide (addE_full p b R i rs 1 (R + 20) a3 w3 hS3 (by omega) (by omega) hI3 ((unhide HRW).no _ _ (by omega)) (by rw [(unhide HRW).len, unhide HIE]; omega))
      have HS3 := hide hS3
      have HB3 := hide ((unhide HB).trans (hb3.mono (unhide HB).size))
      clear hS3 hI3 hlt3 hb3 HS HB
      go_wp2_with fail
      refine (unhide hA).mono ?_
      rintro e w4 ⟨rfl, hb4⟩
      have HS4 := hide ((unhide HS3).kept hb4)
      have HB4 := hide ((unhide HB3).trans (hb4.mono (unhide HB3).size))
      clear hb4 hA HS3 HB3
      go_wp2_with fail
      refine (unhide hen0 w4).mono ?_
      rintro e w5 ⟨⟨a5, rfl, hI5, hlt5⟩, hb5⟩
      have hS5 := (unhide HS4).kept hb5
      have hA := hide (addE_there p b R i rs 1 0 a5 w5 hS5 (by omega) (by omega) hI5 ((unhide HRW).fst (by omega)))
      have HS5 := hide hS5
      have HB5 := hide ((unhide HB4).trans (hb5.mono (unhide HB4).size))
      clear hS5 hI5 hlt5 hb5 HS4 HB4 hen0
      go_wp2_with fail
      refine (unhide hA).mono ?_
      rintro e w6 ⟨rfl, hb6⟩
      have HS6 := hide ((unhide HS5).kept hb6)
      have HB6 := hide ((unhide HB5).trans (hb6.mono (unhide HB5).size))
      clear hb6 hA HS5 HB5
      obtain ⟨x, hx, hxE⟩ := (unhide HRW).all E hEb.1 (by rw [unhide HIE]; exact hEb.2)
      have hD := hide (drop_ok p b R i rs x w6 (unhide HS6) hx)
      rw [hxE] at hD
      have hfl : Hid ((rs.filter fun r => decide (r.id ≠ E)).length + 1 = i) := by
        have h1 := filter_one_less rs (unhide HS6).up E
        rw [(unhide HRW).len, if_pos (by rw [List.any_eq_true]; exact ⟨x, hx, by simp [hxE]⟩)] at h1
        exact h1
      have hno : Hid ((rs.filter fun r => decide (r.id ≠ E)).any (hasB 1 0 (R + 20) ⟨#[]⟩) = false) := by
        show _ = _
        have h1 := (unhide HRW).no 1 (R + 20) (by rw [unhide HIE]; omega)
        rw [List.any_eq_false] at h1 ⊢
        exact fun r hr => h1 r (List.mem_filter.1 hr).1
      clear hx hxE
      go_wp2_with fail
      refine (unhide hD).mono ?_
      rintro e w7 ⟨rfl, hS7, hk7⟩
      have HS7 := hide hS7
      have hp7 := hS7.plt
      have HB7 := hide ((unhide HB6).trans (hk7.below w.heap.size (unhide HB6).size hp hb))
      clear hS7 hk7 hD HS6 HB6
      go_wp2_with fail
      refine (unhide hen1 w7).mono ?_
      rintro e w8 ⟨⟨a8, rfl, hI8, hlt8⟩, hb8⟩
      have hS8 := (unhide HS7).kept hb8
      have hA := hide (addE_ok p b R i _ 1 (R + 20) a8 w8 hS8 (by omega) (by omega) hI8 (fun a ha => by have := hlt8 a ha; omega) (unhide hno) (by have := unhide hfl; have := unhide HIE; omega) (by omega))
      have HB8 := hide ((unhide HB7).trans (hb8.mono (unhide HB7).size))
      clear hS8 hI8 hlt8 hb8 HS7 HB7
      go_wp2_with fail
      refine (unhide hA).mono ?_
      rintro e w9 ⟨rfl, ⟨a9, c9, hS9⟩, hk9⟩
      have hL := hide (len_any p b R _ _ w9 hS9)
      rw [List.length_append, List.length_singleton, unhide hfl] at hL
      have HB9 := hide ((unhide HB8).trans (hk9.below w.heap.size (unhide HB8).size hp hb))
      clear hS9 hk9 hA HB8 hfl hno
      have hie := unhide HIE
      go_wp2_with fail
      refine (unhide hL).mono ?_
      rintro e w10 ⟨rfl, rfl⟩
      go_wp2
      go_ret
      exact ⟨rfl, unhide HB9⟩
end Go.Proofs.Ytgomnmhjkjahlaa

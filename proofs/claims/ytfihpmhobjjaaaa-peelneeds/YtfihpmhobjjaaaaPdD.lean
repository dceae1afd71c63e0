/- The document's Steps and Known; the program's Ripe and the document's. -/
import Derived.Test.YtfihpmhobjjaaaaPdC
namespace Go.Proofs.Ytfihpmhobjjaaaa
open Go.RowKit
set_option linter.unusedVariables false
attribute [local go_sem] Oper.semAt_some

theorem field_peeled (x y : Value) (w : World) : Sem.run Try.prog (Instr.field 52 (.agg #[x, y]) 0) w = .ok x w := by kernel_rfl
theorem steps_len {n : Nat} {R : List (List Nat)} (hR : RLt n R) : ∀ (f : Nat) (S : Nat → Bool), (peelF f S R).1.length ≤ un n S := by
  intro f
  induction f with
  | zero => intro S; exact Nat.zero_le _
  | succ f ih =>
    intro S
    cases h : ripe1 S 0 R with
    | none => rw [peelF_none h]; exact Nat.zero_le _
    | some p =>
      obtain ⟨a, b, _⟩ := ripe_num hR h
      have h1 := un_mk a b
      have h2 := ih (mkS S p.2)
      rw [peelF_some h]
      simp only [List.length_cons]
      omega
set_option maxRecDepth 100000 in
set_option maxHeartbeats 1000000 in
theorem dsteps_no (n : Int) (Rs : List (List Int)) (Ks : List Int) (a0 k0 : Option Addr) (c kc : Nat) (hn : -9223372036854775808 ≤ n ∧ n ≤ 9223372036854775807) (hk : Rs.length ≤ maxLen) (hk2 : ∀ r ∈ Rs, r.length ≤ maxLen) (hk3 : Ks.length ≤ maxLen) (w : World) (hI : RowsA w a0 Rs) (hK : Ints w k0 Ks) (hno : (mayB n Rs && mayB n [Ks]) = false) :
    Calls Try.prog 11 #[.int .i64 n, .slice a0 Rs.length c, .slice k0 Ks.length kc] w fun e w' => e = .returned (.tuple #[.slice none 0 0, .int .i64 1]) ∧ Below w.heap.size w w' := by
  have hm := hide (pdmay_any n Rs Ks a0 k0 c kc hn hk hk2 hk3 w hI hK)
  rw [hno] at hm
  generalize Rs.length = m at *
  generalize Ks.length = l at *
  clear hI hK hno
  go_enter Try.func11, Try.ntmps11
  go_wp2_with fail
  refine (unhide hm).mono ?_
  rintro e w1 ⟨rfl, b1⟩
  have B1 := hide b1
  clear b1
  go_wp2
  go_ret2
  exact ⟨rfl, unhide B1⟩
set_option maxRecDepth 100000 in
set_option maxHeartbeats 1000000 in
theorem dsteps_yes (n : Nat) (R : List (List Nat)) (K : List Nat) (h : Pl n R K) (a0 k0 : Option Addr) (c kc : Nat) (w : World) (hI : RowsC w a0 R) (hK : Ints w k0 (zs K)) :
    Calls Try.prog 11 #[.int .i64 n, .slice a0 R.length c, .slice k0 K.length kc] w fun e w' => ∃ v, e = .returned (.tuple #[v, .int .i64 0]) ∧ w'.ownsRow w.heap.size 35 2 v (peelF n (inS K) R).1.length (stc (peelF n (inS K) R).1) ∧ Below w.heap.size w w' := by
  have h160 := h.n160
  have hm := pdmay_any n (R.map zs) (zs K) a0 k0 c kc ⟨by omega, by omega⟩ (by have := h.m400; rw [List.length_map]; unfold maxLen; omega) (fun r hr => by
    obtain ⟨x, hx, rfl⟩ := List.mem_map.1 hr
    have := h.rlen x hx
    rw [zs_length]; unfold maxLen; omega) (by have := h.klen; rw [zs_length]; unfold maxLen; omega) w hI.rowsA hK
  rw [rws_may h.rws, rws_may h.rwsK, List.length_map, zs_length] at hm
  have HM := hide hm
  have HP := hide (fun W (hb : Below w.heap.size w W) => dpeel_any n R K h a0 k0 c kc W (hI.below hb) (hK.below hb))
  generalize hF : peelF n (inS K) R = F at *
  generalize R.length = m at *
  generalize K.length = l at *
  clear hI hK hm hF h
  go_enter Try.func11, Try.ntmps11
  go_wp2_with fail
  refine (unhide HM).mono ?_
  rintro e w1 ⟨rfl, b1⟩
  have B1 := hide b1
  have hp := hide (unhide HP w1 b1)
  clear b1
  go_wp2_with fail
  refine (unhide hp).mono ?_
  rintro e w2 ⟨vL, vK, rfl, D, hL, hKn, rfl, _, b2⟩
  have B2 := hide ((unhide B1).trans (b2.mono (unhide B1).size))
  have HL := hide (own_mono hL (unhide B1).size)
  clear b2 hL hKn
  go_wp2
  rw [field_peeled]
  go_wp2
  go_ret2
  exact ⟨_, rfl, unhide HL, unhide B2⟩
set_option maxRecDepth 100000 in
set_option maxHeartbeats 1000000 in
theorem dknown_no (n : Int) (Rs : List (List Int)) (Ks : List Int) (a0 k0 : Option Addr) (c kc : Nat) (hn : -9223372036854775808 ≤ n ∧ n ≤ 9223372036854775807) (hk : Rs.length ≤ maxLen) (hk2 : ∀ r ∈ Rs, r.length ≤ maxLen) (hk3 : Ks.length ≤ maxLen) (w : World) (hI : RowsA w a0 Rs) (hK : Ints w k0 Ks) (hno : (mayB n Rs && mayB n [Ks]) = false) :
    Calls Try.prog 13 #[.int .i64 n, .slice a0 Rs.length c, .slice k0 Ks.length kc] w fun e w' => e = .returned (.tuple #[.slice none 0 0, .int .i64 1]) ∧ Below w.heap.size w w' := by
  have hm := hide (pdmay_any n Rs Ks a0 k0 c kc hn hk hk2 hk3 w hI hK)
  rw [hno] at hm
  generalize Rs.length = m at *
  generalize Ks.length = l at *
  clear hI hK hno
  go_enter Try.func13, Try.ntmps13
  go_wp2_with fail
  refine (unhide hm).mono ?_
  rintro e w1 ⟨rfl, b1⟩
  have B1 := hide b1
  clear b1
  go_wp2
  go_ret2
  exact ⟨rfl, unhide B1⟩
set_option maxRecDepth 100000 in
set_option maxHeartbeats 1000000 in
theorem dknown_yes (n : Nat) (R : List (List Nat)) (K : List Nat) (h : Pl n R K) (a0 k0 : Option Addr) (c kc : Nat) (w : World) (hI : RowsC w a0 R) (hK : Ints w k0 (zs K)) :
    Calls Try.prog 13 #[.int .i64 n, .slice a0 R.length c, .slice k0 K.length kc] w fun e w' => ∃ v, e = .returned (.tuple #[v, .int .i64 0]) ∧ w'.ownsRow w.heap.size 3 1 v (knN n R K).length (ic (zs (knN n R K))) ∧ Below w.heap.size w w' := by
  obtain ⟨i0, hi0, hz0, hz1, hz2⟩ := info_parts Try.infoI
  have h160 := h.n160
  have hm := pdmay_any n (R.map zs) (zs K) a0 k0 c kc ⟨by omega, by omega⟩ (by have := h.m400; rw [List.length_map]; unfold maxLen; omega) (fun r hr => by
    obtain ⟨x, hx, rfl⟩ := List.mem_map.1 hr
    have := h.rlen x hx
    rw [zs_length]; unfold maxLen; omega) (by have := h.klen; rw [zs_length]; unfold maxLen; omega) w hI.rowsA hK
  rw [rws_may h.rws, rws_may h.rwsK, List.length_map, zs_length] at hm
  have HM := hide hm
  have HP := hide (fun W (hb : Below w.heap.size w W) => dpeel_any n R K h a0 k0 c kc W (hI.below hb) (hK.below hb))
  have HE : Hid (knN n R K = (List.range n).filter fun i => (peelF n (inS K) R).2 i) := rfl
  have hdl : (peelF n (inS K) R).1.length ≤ 1000 := by
    have := un_le n (inS K)
    have := steps_len (R := R) h.lt n (inS K)
    omega
  have hkl := h.klen
  generalize hF : peelF n (inS K) R = F at *
  generalize hkn : knN n R K = KN at *
  generalize R.length = m at *
  clear hI hK hm hF hkn h
  generalize hlk : K.length = l at *
  have HLK := hide hlk
  clear hlk
  go_enter Try.func13, Try.ntmps13
  go_wp2_with fail
  refine (unhide HM).mono ?_
  rintro e w1 ⟨rfl, b1⟩
  have B1 := hide b1
  have hp := hide (unhide HP w1 b1)
  clear b1
  go_wp2_with fail
  refine (unhide hp).mono ?_
  rintro e w2 ⟨vL, vK, rfl, D, hL, hKn, hD, hS, b2⟩
  have B2 := hide ((unhide B1).trans (b2.mono (unhide B1).size))
  obtain ⟨la, lc, rfl⟩ := own_shape2 hL
  obtain ⟨a0', c', e', hi', _, _⟩ := OwnI.ints (l := zs (KD K D)) (by show World.ownsRow _ _ _ _ _ _ _; rw [zs_length]; exact hKn)
  rw [zs_length] at e'
  subst e'
  have hks : (KD K D).length ≤ 2000 := by rw [KD_len, unhide HLK, hD]; omega
  have HH : Hid (∀ (W : World) (x : Nat), Below w2.heap.size w2 W → Calls Try.prog 22 #[.slice a0' (KD K D).length c', .int .i64 (x : Int)] W fun e w' => e = .returned (.bool (F.2 x)) ∧ W = w') := fun W x hb => by
    have := ghas_any (zs (KD K D)) (x : Int) a0' c' (by rw [zs_length]; unfold maxLen; omega) W (hi'.below hb)
    rwa [zs_length, mem_zs, hS] at this
  generalize D.length = dl at *
  generalize (KD K D).length = kl at *
  clear hL hKn hD hS b2 hi'
  go_wp2_with fail
  have hbx := heap_alloc_new w2 (.cells #[.slice la dl lc, .slice a0' kl c'] 52)
  have b3 : Below w2.heap.size w2 (w2.alloc (.cells #[.slice la dl lc, .slice a0' kl c'] 52)) := (Below.refl _ _).alloc (Nat.le_refl _) _
  have hs3 : w2.heap.size < (w2.alloc (.cells #[.slice la dl lc, .slice a0' kl c'] 52)).heap.size := by simp
  generalize w2.alloc (.cells #[.slice la dl lc, .slice a0' kl c'] 52) = w3 at *
  have B3 := hide ((unhide B2).trans (b3.mono (unhide B2).size))
  have B23 := hide b3
  have hsz := (unhide B3).size
  have hcl := two1 hbx
  have HCL := hide hcl
  clear hbx b3 hcl
  go_loopw [8, 10] (fun v u wr => ∃ k : Nat, k ≤ n ∧ u = .int .i64 k ∧ wr.ownsRow w3.heap.size 3 1 v ((List.range k).filter fun i => F.2 i).length (ic (zs ((List.range k).filter fun i => F.2 i))) ∧ Below w3.heap.size w3 wr) (fun _ u _ => n - (intOf u).toNat)
  case atStart => exact ⟨0, by omega, rfl, World.ownsRow_nil _ _ _ _, Below.refl _ _⟩
  case round =>
    obtain ⟨k, hk, rfl, hO, hB⟩ := hrel
    obtain ⟨ao, cp, rfl⟩ := own_shape2 hO
    have hbs := hB.size
    by_cases hlt : k < n
    · have c1 := cell_below (unhide HCL) hB
      have q1 : (k : Int) < n := by omega
      have hh := hide (unhide HH wr k ((unhide B23).trans (hB.mono (unhide B23).size)))
      have hln : ((List.range k).filter fun i => F.2 i).length ≤ 160 := by
        have := List.length_filter_le (fun i => F.2 i) (List.range k)
        simp at this
        omega
      have HRS : Hid ((List.range (k + 1)).filter (fun i => F.2 i) = (List.range k).filter (fun i => F.2 i) ++ if F.2 k = true then [k] else []) := by
        show _ = _
        rw [List.range_succ, List.filter_append]
        congr 1
        cases hq : F.2 k <;> simp [hq]
      cases hfk : F.2 k with
      | false =>
        rw [hfk] at hh HRS
        simp only [Bool.false_eq_true, if_false, List.append_nil] at HRS
        have HX : Hid (wr.ownsRow w3.heap.size 3 1 (.slice ao ((List.range k).filter fun i => F.2 i).length cp) ((List.range (k + 1)).filter fun i => F.2 i).length (ic (zs ((List.range (k + 1)).filter fun i => F.2 i))) ∧ Below w3.heap.size w3 wr) := by
          rw [unhide HRS]
          exact ⟨hO, hB⟩
        generalize ((List.range k).filter fun i => F.2 i).length = dl2 at *
        clear hO hB hfk HRS
        go_wp2_with fail
        refine (unhide hh).mono ?_
        rintro e w5 ⟨rfl, rfl⟩
        go_wp2
        go_roundw
        case rel => exact ⟨k + 1, by omega, by go_num, unhide HX⟩
        case measure => simp [intOf]; omega
      | true =>
        rw [hfk] at hh HRS
        simp only [if_true] at HRS
        have HO := hide hO
        have HB := hide hB
        generalize hDe : (List.range k).filter (fun i => F.2 i) = D2 at *
        generalize hdl2 : D2.length = dl2 at *
        have HDL := hide hdl2
        clear hO hB hfk hDe hdl2
        go_wp2_with fail
        refine (unhide hh).mono ?_
        rintro e w5 ⟨rfl, rfl⟩
        go_wp2_with (at_builtin; refine wpList_append_own _ rfl _ _ 23 rfl w3.heap.size 3 i0 (.int .i64 0) 1 8 Try.undI hi0 hz0 hz1 hz2 rfl (by decide) _ _ _ rfl ((unhide HO).alloc _) ⟨wr.heap.size, 0, none⟩ 1 1 [.int .i64 (k : Int)] ?cx rfl ?cn ?c2 ?c3 ?c4 ?c5 ?_)
        case cn => exact news_lit wr [.int .i64 (k : Int)] 3
        case c2 => intro u hu; simp at hu; rw [hu]; rfl
        case c3 => unfold maxLen; omega
        case c4 => omega
        case c5 => simp; omega
        all_goals try rfl
        intro v' w7 hown7 hgrow7 _
        obtain ⟨ao', cp', rfl⟩ := own_shape2 hown7
        have hb7 : Below w3.heap.size wr w7 := ((Below.refl w3.heap.size _).alloc (by omega) _).grown hgrow7 (by simp; omega) (fun q hq => ((unhide HO).lt q hq).1)
        have HB7 := hide ((unhide HB).trans hb7)
        have HO7 : Hid (w7.ownsRow w3.heap.size 3 1 (.slice ao' (dl2 + 1) cp') ((List.range (k + 1)).filter fun i => F.2 i).length (ic (zs ((List.range (k + 1)).filter fun i => F.2 i)))) := by
          show World.ownsRow _ _ _ _ _ _ _
          rw [unhide HRS, List.length_append, unhide HDL]
          unfold zs
          rw [List.map_append, ic_append]
          exact hown7
        clear hb7 hown7 hgrow7 c1
        go_wp2
        go_roundw
        case rel => exact ⟨k + 1, by omega, by go_num, unhide HO7, unhide HB7⟩
        case measure => simp [intOf]; omega
    · have hkn : k = n := by omega
      subst hkn
      have q1 : ¬ (k : Int) < k := by omega
      have HX : Hid (wr.ownsRow w.heap.size 3 1 (.slice ao ((List.range k).filter fun i => F.2 i).length cp) KN.length (ic (zs KN)) ∧ Below w.heap.size w wr) := by
        rw [unhide HE]
        exact ⟨own_mono hO hsz, (unhide B3).trans (hB.mono hsz)⟩
      generalize ((List.range k).filter fun i => F.2 i).length = dl2 at *
      clear hO hB
      go_wp2
      go_ret2
      exact ⟨_, rfl, unhide HX⟩
end Go.Proofs.Ytfihpmhobjjaaaa

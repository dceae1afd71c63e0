/- The law PeelNeeds, walked. -/
import Derived.Test.YtfihpmhobjjaaaaPsL
import Derived.Test.YtfihpmhobjjaaaaPnS
namespace Go.Proofs.Ytfihpmhobjjaaaa
open Go.RowKit
set_option linter.unusedVariables false
attribute [local go_sem] Oper.semAt_some

set_option maxRecDepth 100000 in
set_option maxHeartbeats 1000000 in
theorem peelNeeds_off (n : Int) (Rs : List (List Int)) (Ks : List Int) (a0 k0 : Option Addr) (c kc : Nat) (hk : Rs.length ≤ maxLen) (hk2 : ∀ r ∈ Rs, r.length ≤ maxLen) (hk3 : Ks.length ≤ maxLen) (w : World) (hI : RowsA w a0 Rs) (hK : Ints w k0 Ks) (hno : (fewB n Rs && fewB n [Ks]) = false) :
    Calls Try.prog 4 #[.int .i64 n, .slice a0 Rs.length c, .slice k0 Ks.length kc] w fun e w' => e = .returned (.bool true) ∧ Below w.heap.size w w' := by
  have hf := hide (pfew_any n Rs Ks a0 k0 c kc hk hk2 hk3 w hI hK)
  have haw := hide (fun W => pawake_any W)
  rw [hno] at hf
  generalize Rs.length = m at *
  generalize Ks.length = l at *
  clear hI hK hno
  go_enter Try.func4, Try.ntmps4
  go_wp2_with fail
  refine (unhide hf).mono ?_
  rintro e w1 ⟨rfl, b1⟩
  have B1 := hide b1
  clear b1
  go_wp2_with fail
  refine (unhide haw _).mono ?_
  rintro e w2 ⟨rfl, b2⟩
  have B2 := hide ((unhide B1).trans (b2.mono (unhide B1).size))
  clear b2
  go_wp2
  go_ret
  exact ⟨rfl, unhide B2⟩
set_option maxRecDepth 100000 in
set_option maxHeartbeats 2000000 in
theorem peelNeeds_no (n : Int) (m l : Nat) (a0 k0 : Option Addr) (c kc : Nat) (w : World) (E : List Nat) (Ls : List (List Int)) (hE : E.length ≤ 1000) (hLl : Ls.length ≤ 100000) (hLr : ∀ r ∈ Ls, r.length ≤ 100000)
    (hf : Calls Try.prog 8 #[.int .i64 n, .slice a0 m c, .slice k0 l kc] w fun e w' => e = .returned (.bool true) ∧ Below w.heap.size w w')
    (hl1 : ∀ W, Below w.heap.size w W → Calls Try.prog 18 #[.slice a0 m c, .slice k0 l kc] W fun e w' => ∃ v, e = .returned v ∧ RowsV w' v Ls ∧ Below W.heap.size W w')
    (hl2 : ∀ W, Below w.heap.size w W → Calls Try.prog 19 #[.slice a0 m c, .slice k0 l kc] W fun e w' => ∃ v, e = .returned v ∧ RowsV w' v Ls ∧ Below W.heap.size W w')
    (h1 : Tells 20 #[.int .i64 n, .slice a0 m c, .slice k0 l kc] w 3 1 E.length (ic (zs E)) 1)
    (h2 : Tells 21 #[.int .i64 n, .slice a0 m c, .slice k0 l kc] w 3 1 E.length (ic (zs E)) 1) :
    Calls Try.prog 4 #[.int .i64 n, .slice a0 m c, .slice k0 l kc] w fun e w' => e = .returned (.bool true) ∧ Below w.heap.size w w' := by
  have haw := hide (fun W => pawake_any W)
  have hf := hide hf
  have hl1 := hide hl1
  have hl2 := hide hl2
  have hsr := hide (fun W a b c d (hA : RowsA W a Ls) (hB : RowsA W b Ls) => sameRows_any Ls a b c d hLl hLr W hA hB)
  have h1 := hide h1
  have h2 := hide h2
  generalize hel : E.length = el at *
  have HEL := hide hel
  generalize hll : Ls.length = ll at *
  have HLL := hide hll
  clear hel hll
  go_enter Try.func4, Try.ntmps4
  go_wp2_with fail
  refine (unhide hf).mono ?_
  rintro e w1 ⟨rfl, b1⟩
  have B1 := hide b1
  clear b1
  go_wp2_with fail
  refine (unhide hl1 _ (unhide B1)).mono ?_
  rintro e w2 ⟨v2, rfl, ⟨a2, c2, rfl, hR2⟩, b2⟩
  rw [unhide HLL]
  have B2 := hide ((unhide B1).trans (b2.mono (unhide B1).size))
  have HR2 := hide hR2
  clear b2 hR2
  go_wp2_with fail
  refine (unhide hl2 _ (unhide B2)).mono ?_
  rintro e w3 ⟨v3, rfl, ⟨a3, c3, rfl, hR3⟩, b3⟩
  rw [unhide HLL]
  have B3 := hide ((unhide B2).trans (b3.mono (unhide B2).size))
  have HSR := hide (unhide hsr w3 a2 a3 c2 c3 ((unhide HR2).below b3) hR3)
  clear b3 hR3 HR2
  go_wp2_with fail
  refine (unhide HSR).mono ?_
  rintro e w4 ⟨rfl, b4⟩
  have B4 := hide ((unhide B3).trans (b4.mono (unhide B3).size))
  clear b4
  go_wp2_with fail
  refine (unhide h1 _ (unhide B4)).mono ?_
  rintro e w5 ⟨v5, rfl, hO5, b5⟩
  obtain ⟨a5, c5, rfl, hi5, _⟩ := OwnI.ints (l := zs E) (by show World.ownsRow _ _ _ _ _ _ _; rw [zs_length, unhide HEL]; exact hO5)
  rw [zs_length, unhide HEL]
  have B5 := hide ((unhide B4).trans (b5.mono (unhide B4).size))
  have HI5 := hide hi5
  clear b5 hO5 hi5
  go_wp2_with fail
  refine (unhide h2 _ (unhide B5)).mono ?_
  rintro e w6 ⟨v6, rfl, hO6, b6⟩
  obtain ⟨a6, c6, rfl, hi6, _⟩ := OwnI.ints (l := zs E) (by show World.ownsRow _ _ _ _ _ _ _; rw [zs_length, unhide HEL]; exact hO6)
  rw [zs_length, unhide HEL]
  have B6 := hide ((unhide B5).trans (b6.mono (unhide B5).size))
  have HI5a := hide ((unhide HI5).below b6)
  have hs1 := isame_any w6 (zs E) a5 a6 c5 c6 (by rw [zs_length, unhide HEL]; omega) (unhide HI5a) hi6
  rw [zs_length, unhide HEL] at hs1
  have HS1 := hide hs1
  clear b6 hO6 hi6 HI5 hs1
  go_wp2_with fail
  refine (unhide HS1).mono ?_
  rintro e w7 ⟨rfl, b7⟩
  have B7 := hide ((unhide B6).trans (b7.mono (unhide B6).size))
  have HI7 := hide ((unhide HI5a).below b7)
  clear b7 HI5a
  go_wp2_with fail
  refine (unhide haw _).mono ?_
  rintro e w8 ⟨rfl, b8⟩
  have B8 := hide ((unhide B7).trans (b8.mono (unhide B7).size))
  clear b8
  go_wp2
  go_ret
  exact ⟨rfl, unhide B8⟩
theorem goN_len {n : Nat} {R : List (List Nat)} : ∀ (l : List Nat) (S : Nat → Bool), (goN n R l S).length ≤ l.length
  | [], _ => Nat.le_refl _
  | i :: l, S => by
    show (if S i = true then goN n R l S else i :: goN n R l (pl n R (mkS S i))).length ≤ _
    by_cases h : S i = true
    · rw [if_pos h]
      have := goN_len (n := n) (R := R) l S
      simp
      omega
    · rw [if_neg h]
      have := goN_len (n := n) (R := R) l (pl n R (mkS S i))
      simp
      omega
theorem needN_len (n : Nat) (R : List (List Nat)) (K : List Nat) : (needN n R K).length ≤ n + n := by
  unfold needN
  rw [List.length_append]
  have h1 := loN_len n R (inS K)
  have h2 := goN_len (n := n) (R := R) (List.range n) (pl n R (orS (inS K) (loN n R (inS K))))
  rw [List.length_range] at h2
  omega
/-- the first k that are known or needed -/
def allN (K E : List Nat) (k : Nat) : List Nat := (List.range k).filter fun i => inS K i || inS E i
theorem allN_succ (K E : List Nat) (k : Nat) : allN K E (k + 1) = allN K E k ++ if (inS K k || inS E k) = true then [k] else [] := by
  unfold allN
  rw [List.range_succ, List.filter_append]
  congr 1
  cases h1 : inS K k <;> cases h2 : inS E k <;> simp [h1, h2]
theorem allN_len (K E : List Nat) (k : Nat) : (allN K E k).length ≤ k := by
  unfold allN
  have := List.length_filter_le (fun i => inS K i || inS E i) (List.range k)
  rwa [List.length_range] at this
set_option maxRecDepth 100000 in
set_option maxHeartbeats 2000000 in
theorem peelNeeds_yes (n m l : Nat) (a0 k0 : Option Addr) (c kc : Nat) (w : World) (K E : List Nat) (Ls : List (List Int)) (cs : List Value) (hn : n ≤ 160) (hE : E.length ≤ 1000) (hLl : Ls.length ≤ 100000) (hLr : ∀ r ∈ Ls, r.length ≤ 100000)
    (hf : Calls Try.prog 8 #[.int .i64 n, .slice a0 m c, .slice k0 l kc] w fun e w' => e = .returned (.bool true) ∧ Below w.heap.size w w')
    (hl1 : ∀ W, Below w.heap.size w W → Calls Try.prog 18 #[.slice a0 m c, .slice k0 l kc] W fun e w' => ∃ v, e = .returned v ∧ RowsV w' v Ls ∧ Below W.heap.size W w')
    (hl2 : ∀ W, Below w.heap.size w W → Calls Try.prog 19 #[.slice a0 m c, .slice k0 l kc] W fun e w' => ∃ v, e = .returned v ∧ RowsV w' v Ls ∧ Below W.heap.size W w')
    (h1 : Tells 20 #[.int .i64 n, .slice a0 m c, .slice k0 l kc] w 3 1 E.length (ic (zs E)) 0)
    (h2 : Tells 21 #[.int .i64 n, .slice a0 m c, .slice k0 l kc] w 3 1 E.length (ic (zs E)) 0)
    (hh : ∀ (W : World) (i : Nat), Below w.heap.size w W → Calls Try.prog 22 #[.slice k0 l kc, .int .i64 (i : Int)] W fun e w' => e = .returned (.bool (inS K i)) ∧ W = w')
    (hkn : ∀ W b d, Below w.heap.size w W → Ints W b (zs (allN K E n)) → Calls Try.prog 12 #[.int .i64 n, .slice a0 m c, .slice b (allN K E n).length d] W fun e w' => ∃ v, e = .returned (.tuple #[v, .int .i64 0]) ∧ w'.ownsRow W.heap.size 3 1 v n cs ∧ Below W.heap.size W w') :
    Calls Try.prog 4 #[.int .i64 n, .slice a0 m c, .slice k0 l kc] w fun e w' => e = .returned (.bool true) ∧ Below w.heap.size w w' := by
  obtain ⟨i0, hi0, hz0, hz1, hz2⟩ := info_parts Try.infoI
  have hh := hide hh
  have hkn := hide hkn
  have haw := hide (fun W => pawake_any W)
  have hf := hide hf
  have hl1 := hide hl1
  have hl2 := hide hl2
  have hsr := hide (fun W a b c d (hA : RowsA W a Ls) (hB : RowsA W b Ls) => sameRows_any Ls a b c d hLl hLr W hA hB)
  have h1 := hide h1
  have h2 := hide h2
  generalize hel : E.length = el at *
  have HEL := hide hel
  generalize hll : Ls.length = ll at *
  have HLL := hide hll
  clear hel hll
  go_enter Try.func4, Try.ntmps4
  go_wp2_with fail
  refine (unhide hf).mono ?_
  rintro e w1 ⟨rfl, b1⟩
  have B1 := hide b1
  clear b1
  go_wp2_with fail
  refine (unhide hl1 _ (unhide B1)).mono ?_
  rintro e w2 ⟨v2, rfl, ⟨a2, c2, rfl, hR2⟩, b2⟩
  rw [unhide HLL]
  have B2 := hide ((unhide B1).trans (b2.mono (unhide B1).size))
  have HR2 := hide hR2
  clear b2 hR2
  go_wp2_with fail
  refine (unhide hl2 _ (unhide B2)).mono ?_
  rintro e w3 ⟨v3, rfl, ⟨a3, c3, rfl, hR3⟩, b3⟩
  rw [unhide HLL]
  have B3 := hide ((unhide B2).trans (b3.mono (unhide B2).size))
  have HSR := hide (unhide hsr w3 a2 a3 c2 c3 ((unhide HR2).below b3) hR3)
  clear b3 hR3 HR2
  go_wp2_with fail
  refine (unhide HSR).mono ?_
  rintro e w4 ⟨rfl, b4⟩
  have B4 := hide ((unhide B3).trans (b4.mono (unhide B3).size))
  clear b4
  go_wp2_with fail
  refine (unhide h1 _ (unhide B4)).mono ?_
  rintro e w5 ⟨v5, rfl, hO5, b5⟩
  obtain ⟨a5, c5, rfl, hi5, _⟩ := OwnI.ints (l := zs E) (by show World.ownsRow _ _ _ _ _ _ _; rw [zs_length, unhide HEL]; exact hO5)
  rw [zs_length, unhide HEL]
  have B5 := hide ((unhide B4).trans (b5.mono (unhide B4).size))
  have HI5 := hide hi5
  clear b5 hO5 hi5
  go_wp2_with fail
  refine (unhide h2 _ (unhide B5)).mono ?_
  rintro e w6 ⟨v6, rfl, hO6, b6⟩
  obtain ⟨a6, c6, rfl, hi6, _⟩ := OwnI.ints (l := zs E) (by show World.ownsRow _ _ _ _ _ _ _; rw [zs_length, unhide HEL]; exact hO6)
  rw [zs_length, unhide HEL]
  have B6 := hide ((unhide B5).trans (b6.mono (unhide B5).size))
  have HI5a := hide ((unhide HI5).below b6)
  have hs1 := isame_any w6 (zs E) a5 a6 c5 c6 (by rw [zs_length, unhide HEL]; omega) (unhide HI5a) hi6
  rw [zs_length, unhide HEL] at hs1
  have HS1 := hide hs1
  clear b6 hO6 hi6 HI5 hs1
  go_wp2_with fail
  refine (unhide HS1).mono ?_
  rintro e w7 ⟨rfl, b7⟩
  have B7 := hide ((unhide B6).trans (b7.mono (unhide B6).size))
  have HI7 := hide ((unhide HI5a).below b7)
  clear b7 HI5a
  have HH2 : Hid (∀ (W : World) (i : Nat), Below w7.heap.size w7 W → Calls Try.prog 22 #[.slice a5 el c5, .int .i64 (i : Int)] W fun e w' => e = .returned (.bool (inS E i)) ∧ W = w') := fun W i hb => by
    have := ghas_any (zs E) (i : Int) a5 c5 (by rw [zs_length, unhide HEL]; unfold maxLen; omega) W ((unhide HI7).below hb)
    rwa [zs_length, mem_zs, unhide HEL] at this
  clear hf hl1 hl2 hsr h1 h2 HI7
  have hb7s := (unhide B7).size
  go_wp2_with fail
  go_loopw [11, 12] (fun v u wr => ∃ k : Nat, k ≤ n ∧ u = .int .i64 k ∧ wr.ownsRow w7.heap.size 3 1 v (allN K E k).length (ic (zs (allN K E k))) ∧ Below w7.heap.size w7 wr) (fun _ u _ => n - (intOf u).toNat)
  case atStart => exact ⟨0, by omega, rfl, World.ownsRow_nil _ _ _ _, Below.refl _ _⟩
  case round =>
    obtain ⟨k, hk, rfl, hO, hB⟩ := hrel
    obtain ⟨ao, cp, rfl⟩ := own_shape2 hO
    have hbs := hB.size
    by_cases hlt : k < n
    · have q1 : (k : Int) < n := by omega
      have hln := allN_len K E k
      have HRS := hide (allN_succ K E k)
      have hh1 := hide (unhide hh wr k ((unhide B7).trans (hB.mono hb7s)))
      have hh2 := hide (unhide HH2 wr k hB)
      have HO := hide hO
      have HB := hide hB
      generalize hDe : allN K E k = D at *
      generalize hdl : D.length = dl at *
      have HDL := hide hdl
      clear hO hB hDe hdl
      cases hb1 : inS K k with
      | true =>
        rw [hb1] at hh1 HRS
        simp only [Bool.true_or, if_true] at HRS
        clear hb1 hh2
        go_wp2_with fail
        refine (unhide hh1).mono ?_
        rintro e w8 ⟨rfl, rfl⟩
        go_wp2_with (at_builtin; refine wpList_append_own _ rfl _ _ 23 rfl w7.heap.size 3 i0 (.int .i64 0) 1 8 Try.undI hi0 hz0 hz1 hz2 rfl (by decide) _ _ _ rfl ((unhide HO).alloc _) ⟨wr.heap.size, 0, none⟩ 1 1 [.int .i64 (k : Int)] ?cx rfl ?cn ?c2 ?c3 ?c4 ?c5 ?_)
        case cn => exact news_lit wr [.int .i64 (k : Int)] 3
        case c2 => intro u hu; simp at hu; rw [hu]; rfl
        case c3 => unfold maxLen; omega
        case c4 => omega
        case c5 => simp; omega
        all_goals try rfl
        intro v' w10 hown10 hgrow10 _
        obtain ⟨ao', cp', rfl⟩ := own_shape2 hown10
        have HB10 := hide ((unhide HB).trans (((Below.refl w7.heap.size _).alloc (by omega) _).grown hgrow10 (by simp; omega) (fun q hq => ((unhide HO).lt q hq).1)))
        have HO10 : Hid (w10.ownsRow w7.heap.size 3 1 (.slice ao' (dl + 1) cp') (allN K E (k + 1)).length (ic (zs (allN K E (k + 1))))) := by
          show World.ownsRow _ _ _ _ _ _ _
          rw [unhide HRS, List.length_append, unhide HDL]
          unfold zs
          rw [List.map_append, ic_append]
          exact hown10
        clear hown10 hgrow10
        go_wp2
        go_roundw
        case rel => exact ⟨k + 1, by omega, by go_num, unhide HO10, unhide HB10⟩
        case measure => simp [intOf]; omega
      | false =>
        rw [hb1] at hh1 HRS
        cases hb2 : inS E k with
        | true =>
          rw [hb2] at hh2 HRS
          simp only [Bool.or_true, if_true] at HRS
          clear hb1 hb2
          go_wp2_with fail
          refine (unhide hh1).mono ?_
          rintro e w8 ⟨rfl, rfl⟩
          go_wp2_with fail
          refine (unhide hh2).mono ?_
          rintro e w9 ⟨rfl, rfl⟩
          go_wp2_with (at_builtin; refine wpList_append_own _ rfl _ _ 23 rfl w7.heap.size 3 i0 (.int .i64 0) 1 8 Try.undI hi0 hz0 hz1 hz2 rfl (by decide) _ _ _ rfl ((unhide HO).alloc _) ⟨wr.heap.size, 0, none⟩ 1 1 [.int .i64 (k : Int)] ?dx rfl ?dn ?d2 ?d3 ?d4 ?d5 ?_)
          case dn => exact news_lit wr [.int .i64 (k : Int)] 3
          case d2 => intro u hu; simp at hu; rw [hu]; rfl
          case d3 => unfold maxLen; omega
          case d4 => omega
          case d5 => simp; omega
          all_goals try rfl
          intro v' w10 hown10 hgrow10 _
          obtain ⟨ao', cp', rfl⟩ := own_shape2 hown10
          have HB10 := hide ((unhide HB).trans (((Below.refl w7.heap.size _).alloc (by omega) _).grown hgrow10 (by simp; omega) (fun q hq => ((unhide HO).lt q hq).1)))
          have HO10 : Hid (w10.ownsRow w7.heap.size 3 1 (.slice ao' (dl + 1) cp') (allN K E (k + 1)).length (ic (zs (allN K E (k + 1))))) := by
            show World.ownsRow _ _ _ _ _ _ _
            rw [unhide HRS, List.length_append, unhide HDL]
            unfold zs
            rw [List.map_append, ic_append]
            exact hown10
          clear hown10 hgrow10
          go_wp2
          go_roundw
          case rel => exact ⟨k + 1, by omega, by go_num, unhide HO10, unhide HB10⟩
          case measure => simp [intOf]; omega
        | false =>
          rw [hb2] at hh2 HRS
          simp only [Bool.or_self, Bool.false_eq_true, if_false, List.append_nil] at HRS
          clear hb1 hb2
          have HX : Hid (wr.ownsRow w7.heap.size 3 1 (.slice ao dl cp) (allN K E (k + 1)).length (ic (zs (allN K E (k + 1)))) ∧ Below w7.heap.size w7 wr) := by
            show _ ∧ _
            rw [unhide HRS, unhide HDL]
            exact ⟨unhide HO, unhide HB⟩
          go_wp2_with fail
          refine (unhide hh1).mono ?_
          rintro e w8 ⟨rfl, rfl⟩
          go_wp2_with fail
          refine (unhide hh2).mono ?_
          rintro e w9 ⟨rfl, rfl⟩
          go_wp2
          go_roundw
          case rel => exact ⟨k + 1, by omega, by go_num, unhide HX⟩
          case measure => simp [intOf]; omega
    · have hkn2 : k = n := by omega
      subst hkn2
      have q1 : ¬ (k : Int) < k := by omega
      have qe : ((k : Int) == k) = true := by simp
      have B8 := hide ((unhide B7).trans (hB.mono hb7s))
      obtain ⟨a9, c9, e9, hi9, _⟩ := OwnI.ints (l := zs (allN K E k)) (by show World.ownsRow _ _ _ _ _ _ _; rw [zs_length]; exact hO)
      rw [zs_length] at e9
      simp only [Value.slice.injEq, true_and] at e9
      obtain ⟨rfl, rfl⟩ := e9
      have HK := hide (unhide hkn wr ao cp (unhide B8) hi9)
      generalize (allN K E k).length = al at *
      clear hO hB hi9 hkn
      go_wp2_with fail
      refine (unhide HK).mono ?_
      rintro e w9 ⟨v9, rfl, hO9, b9⟩
      obtain ⟨a9, c9, rfl⟩ := own_shape2 hO9
      have B9 := hide ((unhide B8).trans (b9.mono (unhide B8).size))
      clear b9 hO9 HK
      go_wp2_with fail
      refine (unhide haw _).mono ?_
      rintro e w10 ⟨rfl, b10⟩
      have B10 := hide ((unhide B9).trans (b10.mono (unhide B9).size))
      clear b10
      go_wp2
      go_ret
      exact ⟨rfl, unhide B10⟩
theorem left_len {Rs : List (List Int)} {Ks : List Int} (h : ∀ r ∈ Rs, r.length ≤ 10000) : ∀ r ∈ leftR Rs Ks, r.length ≤ 100000 := fun r hr => by
  obtain ⟨x, hx, rfl⟩ := List.mem_map.1 hr
  have h1 := restS_len (inZ Ks) x
  have h2 := h x hx
  omega
theorem peelNeeds_law (n : Int) (a0 : Option Addr) (Rs : List (List Int)) (c : Nat) (k0 : Option Addr) (Ks : List Int) (kc : Nat) (w : World) (hn : (Lit.int .i64 n).wf = true) (hI : RowsK w a0 Rs) (hO : RowsOk Rs a0 c) (hK : Ints w k0 Ks) (hKO : IntsOk Ks kc) :
    Calls Try.prog 4 #[.int .i64 n, .slice a0 Rs.length c, .slice k0 Ks.length kc] w fun e w' => e = .returned (.bool true) ∧ Below w.heap.size w w' := by
  have h1 : Rs.length ≤ maxLen := Nat.le_trans hO.1 hO.2.1
  have h2 : Ks.length ≤ maxLen := Nat.le_trans hKO.1 hKO.2.1
  have hf := pfew_any n Rs Ks a0 k0 c kc h1 hO.2.2.1 h2 w hI.rowsA hK
  cases hfe : (fewB n Rs && fewB n [Ks]) with
  | false => exact peelNeeds_off n Rs Ks a0 k0 c kc h1 hO.2.2.1 h2 w hI.rowsA hK hfe
  | true =>
    rw [hfe] at hf
    have hA : ∀ W, Below w.heap.size w W → RowsA W a0 Rs := fun W hb => hI.rowsA.below hb
    have hfe' := hfe
    rw [Bool.and_eq_true] at hfe'
    unfold fewB at hfe'
    simp only [decide_eq_true_eq] at hfe'
    obtain ⟨⟨_, hr40, hr80⟩, ⟨_, _, hk80⟩⟩ := hfe'
    have hk80' : Ks.length ≤ 80 := hk80 Ks (by simp)
    have hr1 : ∀ r ∈ Rs, r.length ≤ 10000 := fun r hr => by have := hr80 r hr; omega
    have hL1 : ∀ W, Below w.heap.size w W → Calls Try.prog 18 #[.slice a0 Rs.length c, .slice k0 Ks.length kc] W fun e w' => ∃ v, e = .returned v ∧ RowsV w' v (leftR Rs Ks) ∧ Below W.heap.size W w' := fun W hb => left_any Rs Ks a0 k0 c kc (by omega) hr1 (by omega) W (hA W hb) (hK.below hb)
    have hL2 : ∀ W, Below w.heap.size w W → Calls Try.prog 19 #[.slice a0 Rs.length c, .slice k0 Ks.length kc] W fun e w' => ∃ v, e = .returned v ∧ RowsV w' v (leftR Rs Ks) ∧ Below W.heap.size W w' := fun W hb => dleft_any Rs Ks a0 k0 c kc (by omega) hr1 (by omega) W (hA W hb) (hK.below hb)
    have hLr := left_len (Ks := Ks) hr1
    have hLl : (leftR Rs Ks).length ≤ 100000 := by rw [leftR_len]; omega
    cases hme : (mayB n Rs && mayB n [Ks]) with
    | false =>
      refine peelNeeds_no n Rs.length Ks.length a0 k0 c kc w [] (leftR Rs Ks) (by simp) hLl hLr hf hL1 hL2 ?_ ?_
      · exact fun W hb => (needs_no n Rs Ks a0 k0 c kc (wf64 hn) h1 hO.2.2.1 h2 W (hA W hb) (hK.below hb) hme).mono (fun e w' ⟨he, hb'⟩ => ⟨_, he, World.ownsRow_nil _ _ _ _, hb'⟩)
      · exact fun W hb => (dneeds_no n Rs Ks a0 k0 c kc (wf64 hn) h1 hO.2.2.1 h2 W (hA W hb) (hK.below hb) hme).mono (fun e w' ⟨he, hb'⟩ => ⟨_, he, World.ownsRow_nil _ _ _ _, hb'⟩)
    | true =>
      rw [Bool.and_eq_true] at hme
      obtain ⟨k, R, K, rfl, rfl, rfl, hP⟩ := may_pl hme.1 hme.2
      generalize hLe : leftR (R.map zs) (zs K) = Ls at *
      rw [List.length_map, zs_length] at hf hL1 hL2 ⊢
      have hC : ∀ W, Below w.heap.size w W → RowsC W a0 R := fun W hb => hI.rowsC.below hb
      have n160 := hP.n160
      have hall : ∀ i, i < k → (i ∈ allN K (needN k R K) k ↔ i ∈ K ∨ i ∈ needN k R K) := fun i hi => by
        unfold allN
        rw [List.mem_filter, List.mem_range]
        simp [inS, hi]
      have hPA : Pl k R (allN K (needN k R K) k) := ⟨hP.n160, hP.m400, hP.lt, hP.ord, fun x hx => by unfold allN at hx; exact List.mem_range.1 (List.mem_filter.1 hx).1, by unfold allN; exact List.Pairwise.filter _ List.pairwise_lt_range⟩
      have hkn := needs_all hP.lt hP.nodup hall hP.klt
      refine peelNeeds_yes k R.length K.length a0 k0 c kc w K (needN k R K) Ls (ic (zs (List.range k))) n160 ?_ hLl hLr hf hL1 hL2 ?_ ?_ ?_ ?_
      · have := needN_len k R K
        omega
      · exact fun W hb => needs_yes k R K hP a0 k0 c kc W (hC W hb) (hK.below hb)
      · exact fun W hb => dneeds_yes k R K hP a0 k0 c kc W (hC W hb) (hK.below hb)
      · exact fun W i hb => by
          have := ghas_any (zs K) (i : Int) k0 kc (by have := hP.klen; rw [zs_length]; unfold maxLen; omega) W (hK.below hb)
          rwa [zs_length, mem_zs] at this
      · exact fun W b d hb hi => by
          have := known_yes k R _ hPA a0 b c d W (hC W hb) hi
          rw [hkn, List.length_range] at this
          exact this
end Go.Proofs.Ytfihpmhobjjaaaa

/- The document's May, Rest. -/
import Derived.Test.YtfihpmhobjjaaaaPeR
namespace Go.Proofs.Ytfihpmhobjjaaaa
open Go.RowKit
set_option linter.unusedVariables false
attribute [local go_sem] Oper.semAt_some

theorem isR_cons (n le x : Int) (r : List Int) : isR n le (x :: r) = if x < le then false else if n ≤ x then false else isR n (x + 1) r := rfl
/-- from where on the k-th number of a row may be -/
def leastR (r : List Int) (k : Nat) : Int := if k = 0 then 0 else r.getD (k - 1) 0 + 1
set_option maxRecDepth 100000 in
set_option maxHeartbeats 2000000 in
theorem dmay_any (n : Int) (Rs : List (List Int)) (a0 : Option Addr) (c : Nat) (hn : -9223372036854775808 ≤ n ∧ n ≤ 9223372036854775807) (hk : Rs.length ≤ maxLen) (hk2 : ∀ r ∈ Rs, r.length ≤ maxLen) (w : World) (hI : RowsA w a0 Rs) :
    Calls Try.prog 40 #[.int .i64 n, .slice a0 Rs.length c] w fun e w' => e = .returned (.bool (mayB n Rs)) ∧ w = w' := by
  have hm := hk
  unfold maxLen at hm
  by_cases h0 : 0 ≤ n ∧ n ≤ 160 ∧ Rs.length ≤ 400
  · have HI := hide hI
    have H2 := hide hk2
    have HE : Hid (mayB n Rs = Rs.all (isR n 0)) := by
      show _ = _
      unfold mayB
      rw [decide_eq_true h0, Bool.true_and]
    generalize mayB n Rs = E at *
    have q1 : ¬ n < 0 := by omega
    have q2 : ¬ 160 < n := by omega
    have q3 : ¬ (400 : Int) < Rs.length := by omega
    have d1 : decide (n < 0) = false := decide_eq_false q1
    have d2 : decide (160 < n) = false := decide_eq_false q2
    have d3 : decide ((400 : Int) < Rs.length) = false := decide_eq_false q3
    generalize hL : Rs.length = m at *
    have HL := hide hL
    clear hI hL hk hk2 h0
    go_enter Try.func40, Try.ntmps40
    go_wp2_with fail
    go_loopw [5] (fun v wr => w = wr ∧ ∃ k : Nat, k ≤ m ∧ v = .int .i64 k ∧ ∀ r ∈ Rs.take k, isR n 0 r = true) (fun v _ => m - (intOf v).toNat)
    case atStart => exact ⟨rfl, 0, by omega, rfl, by simp⟩
    case round =>
      obtain ⟨rfl, k, hk', rfl, ha⟩ := hrel
      by_cases hlt : k < m
      · have hlt' : k < Rs.length := by rw [unhide HL]; exact hlt
        obtain ⟨g, o, rfl, b, cc, c0, hI⟩ := unhide HI k hlt'
        have q4 : (k : Int) < m := by omega
        have hrm := unhide H2 _ (List.getElem_mem hlt')
        have HBAD : Hid (isR n 0 Rs[k] = false → E = false) := fun hb => by
          rw [unhide HE]
          apply Bool.eq_false_iff.2
          intro h
          rw [List.all_eq_true] at h
          have := h _ (List.getElem_mem hlt')
          rw [hb] at this
          cases this
        have HOK : Hid (isR n 0 Rs[k] = true → ∀ r ∈ Rs.take (k + 1), isR n 0 r = true) := fun hb r hr => by
          rw [List.take_succ_eq_append_getElem hlt', List.mem_append] at hr
          rcases hr with hr | hr
          · exact ha r hr
          · simp at hr; rw [hr]; exact hb
        have HIr := hide hI
        generalize Rs[k] = r at *
        unfold maxLen at hrm
        generalize hrl : r.length = rl at *
        have HRL := hide hrl
        clear ha hI hlt' hrl
        go_wp2_with fail
        go_loopw [6] (fun v wr => w = wr ∧ ∃ j : Nat, j ≤ rl ∧ v = .int .i64 j ∧ 0 ≤ leastR r j ∧ isR n (leastR r j) (r.drop j) = isR n 0 r) (fun v _ => rl - (intOf v).toNat)
        case atStart => exact ⟨rfl, 0, by omega, rfl, by simp [leastR], rfl⟩
        case round =>
          obtain ⟨rfl, j, hj, rfl, hl0, he⟩ := hrel
          by_cases hjl : j < rl
          · have hjl' : j < r.length := by rw [unhide HRL]; exact hjl
            obtain ⟨gr, orr, rfl, e0⟩ := unhide HIr j hjl'
            rw [List.drop_eq_getElem_cons hjl', isR_cons] at he
            have hnx : leastR r (j + 1) = r[j] + 1 := by
              unfold leastR
              rw [if_neg (by omega), Nat.add_sub_cancel]
              simp [List.getD, hjl']
            have q5 : (j : Int) < rl := by omega
            have hprev : 0 < j → ∃ p, leastR r j = p + 1 ∧ w.cell? ⟨gr, orr + (j - 1), none⟩ = some (.int .i64 p) := fun h => by
              have hj1 : j - 1 < r.length := by omega
              obtain ⟨_, _, e9, e1⟩ := unhide HIr (j - 1) hj1
              simp only [Option.some.injEq, Addr.mk.injEq, and_true] at e9
              obtain ⟨rfl, rfl⟩ := e9
              refine ⟨r[j - 1], ?_, e1⟩
              unfold leastR
              rw [if_neg (by omega)]
              simp [List.getD, hj1]
            have hl00 : j = 0 → leastR r j = 0 := fun h => by unfold leastR; rw [if_pos h]
            generalize leastR r j = le at *
            generalize r[j] = x at *
            have HE2 := hide he
            have HNX := hide hnx
            clear he hnx hjl'
            by_cases h1 : x < 0
            · have e2 : E = false := unhide HBAD (by rw [← unhide HE2, if_pos (by omega)])
              subst e2
              have d4 : decide (x < 0) = true := decide_eq_true h1
              go_wp2
              go_ret
              exact ⟨rfl, rfl⟩
            · have d4 : decide (x < 0) = false := decide_eq_false h1
              by_cases h2 : n ≤ x
              · have e2 : E = false := unhide HBAD (by
                  rw [← unhide HE2]
                  by_cases h : x < le
                  · rw [if_pos h]
                  · rw [if_neg h, if_pos h2])
                subst e2
                have d5 : decide (n ≤ x) = true := decide_eq_true h2
                go_wp2
                go_ret
                exact ⟨rfl, rfl⟩
              · have d5 : decide (n ≤ x) = false := decide_eq_false h2
                by_cases h3 : 0 < j
                · obtain ⟨p, ep, cp⟩ := hprev h3
                  have q6 : (0 : Int) < j := by omega
                  have q7 : (j : Int) - 1 = ((j - 1 : Nat) : Int) := by omega
                  have q8 : ((j - 1 : Nat) : Int) < rl := by omega
                  generalize j - 1 = j1 at *
                  by_cases h4 : x ≤ p
                  · have e2 : E = false := unhide HBAD (by rw [← unhide HE2, if_pos (by omega)])
                    subst e2
                    have d6 : decide (x ≤ p) = true := decide_eq_true h4
                    clear hprev hl00
                    go_wp2
                    go_ret
                    exact ⟨rfl, rfl⟩
                  · have d6 : decide (x ≤ p) = false := decide_eq_false h4
                    have HE3 : Hid (isR n (leastR r (j + 1)) (r.drop (j + 1)) = isR n 0 r) := by
                      show _ = _
                      rw [← unhide HE2, if_neg (by omega), if_neg h2, unhide HNX]
                    have hp1 : 0 ≤ leastR r (j + 1) := by rw [unhide HNX]; omega
                    have HP1 := hide hp1
                    clear hprev hl00 hp1
                    go_wp2
                    go_roundw
                    case rel => exact ⟨trivial, j + 1, by omega, by go_num, unhide HP1, unhide HE3⟩
                    case measure => simp [intOf]; omega
                · have hj0 : j = 0 := by omega
                  have q6 : ¬ (0 : Int) < j := by omega
                  have e00 := hl00 hj0
                  have HE3 : Hid (isR n (leastR r (j + 1)) (r.drop (j + 1)) = isR n 0 r) := by
                    show _ = _
                    rw [← unhide HE2, if_neg (by omega), if_neg h2, unhide HNX]
                  have hp1 : 0 ≤ leastR r (j + 1) := by rw [unhide HNX]; omega
                  have HP1 := hide hp1
                  clear hprev hl00 hp1 e00 hj0
                  go_wp2
                  go_roundw
                  case rel => exact ⟨trivial, j + 1, by omega, by go_num, unhide HP1, unhide HE3⟩
                  case measure => simp [intOf]; omega
          · have hjr : j = rl := by omega
            have q5 : ¬ (j : Int) < rl := by omega
            have hT : isR n 0 r = true := by
              rw [← he, List.drop_of_length_le (by rw [unhide HRL]; omega)]
              rfl
            have HA2 := hide (unhide HOK hT)
            clear he hT hjr
            go_wp2
            go_roundw
            case rel => exact ⟨trivial, k + 1, by omega, by go_num, unhide HA2⟩
            case measure => simp [intOf]; omega
      · have hkm : k = m := by omega
        subst hkm
        have e2 : E = true := by
          rw [unhide HE, List.all_eq_true]
          rw [List.take_of_length_le (by rw [unhide HL]; exact Nat.le_refl _)] at ha
          exact ha
        subst e2
        have q4 : ¬ (k : Int) < k := by omega
        clear ha
        go_wp2
        go_ret
        exact ⟨rfl, rfl⟩
  · have e : mayB n Rs = false := by unfold mayB; rw [decide_eq_false h0, Bool.false_and]
    rw [e]
    generalize Rs.length = m at *
    clear hI e hk2
    by_cases q1 : n < 0
    · have d1 : decide (n < 0) = true := decide_eq_true q1
      go_enter Try.func40, Try.ntmps40
      go_wp2
      go_ret
      exact ⟨rfl, rfl⟩
    · have d1 : decide (n < 0) = false := decide_eq_false q1
      by_cases q2 : 160 < n
      · have d2 : decide (160 < n) = true := decide_eq_true q2
        go_enter Try.func40, Try.ntmps40
        go_wp2
        go_ret
        exact ⟨rfl, rfl⟩
      · have d2 : decide (160 < n) = false := decide_eq_false q2
        have q3 : (400 : Int) < m := by omega
        have d3 : decide ((400 : Int) < m) = true := decide_eq_true q3
        go_enter Try.func40, Try.ntmps40
        go_wp2
        go_ret
        exact ⟨rfl, rfl⟩
set_option maxRecDepth 100000 in
set_option maxHeartbeats 1000000 in
theorem pdmay_any (n : Int) (Rs : List (List Int)) (Ks : List Int) (a0 k0 : Option Addr) (c kc : Nat) (hn : -9223372036854775808 ≤ n ∧ n ≤ 9223372036854775807) (hk : Rs.length ≤ maxLen) (hk2 : ∀ r ∈ Rs, r.length ≤ maxLen) (hk3 : Ks.length ≤ maxLen) (w : World) (hI : RowsA w a0 Rs) (hK : Ints w k0 Ks) :
    Calls Try.prog 28 #[.int .i64 n, .slice a0 Rs.length c, .slice k0 Ks.length kc] w fun e w' => e = .returned (.bool (mayB n Rs && mayB n [Ks])) ∧ Below w.heap.size w w' := by
  have h1 := hide (fun W (hb : Below w.heap.size w W) => dmay_any n Rs a0 c hn hk hk2 W (hI.below hb))
  have hb1 : Below w.heap.size w (w.alloc (.cells #[.slice k0 Ks.length kc] 23)) := (Below.refl _ _).alloc (Nat.le_refl _) _
  have h2 := hide (dmay_any n [Ks] (some ⟨w.heap.size, 0, none⟩) 1 hn (by unfold maxLen; simp) (by simpa using hk3) _ (one_row kc 23 hK))
  have HB1 := hide hb1
  simp only [List.length_singleton] at h2
  generalize Rs.length = m at *
  generalize Ks.length = l at *
  cases hm1 : mayB n Rs with
  | false =>
    rw [hm1] at h1
    clear hI hK hb1 hm1 hk hk3
    go_enter Try.func28, Try.ntmps28
    go_wp2_with fail
    refine (unhide h1 _ (Below.refl _ _)).mono ?_
    rintro e w1 ⟨rfl, rfl⟩
    go_wp2
    go_ret
    exact ⟨rfl, Below.refl _ _⟩
  | true =>
    rw [hm1] at h1
    generalize mayB n [Ks] = x at *
    clear hI hK hb1 hm1 hk hk3
    go_enter Try.func28, Try.ntmps28
    go_wp2_with fail
    refine (unhide h1 _ (Below.refl _ _)).mono ?_
    rintro e w1 ⟨rfl, rfl⟩
    go_wp2_with fail
    refine (unhide h2).mono ?_
    rintro e w1 ⟨rfl, rfl⟩
    go_wp2
    go_ret
    exact ⟨by simp, unhide HB1⟩
theorem mem_zs {x : Nat} {K : List Nat} : decide ((x : Int) ∈ zs K) = inS K x := by
  unfold inS zs
  by_cases h : x ∈ K
  · rw [decide_eq_true h, decide_eq_true (List.mem_map.2 ⟨x, h, rfl⟩)]
  · rw [decide_eq_false h]
    refine decide_eq_false (fun h2 => ?_)
    obtain ⟨y, hy, e⟩ := List.mem_map.1 h2
    exact h (by have : y = x := by omega
                rwa [this] at hy)
theorem unk_take {S : Nat → Bool} {r : List Nat} {k : Nat} (h : k < r.length) : unk S (r.take (k + 1)) = unk S (r.take k) ++ if S r[k] = true then [] else [r[k]] := by
  unfold unk
  rw [List.take_succ_eq_append_getElem h, List.filter_append]
  congr 1
  cases hq : S r[k] <;> simp [hq]
set_option maxRecDepth 100000 in
set_option maxHeartbeats 1000000 in
theorem rest_any (r K : List Nat) (a0 k0 : Option Addr) (c kc : Nat) (hr : r.length ≤ 10000) (hk : K.length ≤ 10000) (w : World) (hI : Ints w a0 (zs r)) (hK : Ints w k0 (zs K)) :
    Calls Try.prog 31 #[.slice a0 r.length c, .slice k0 K.length kc] w fun e w' => ∃ v, e = .returned v ∧ w'.ownsRow w.heap.size 3 1 v (unk (inS K) r).length (ic (zs (unk (inS K) r))) ∧ Below w.heap.size w w' := by
  obtain ⟨i0, hi0, hz0, hz1, hz2⟩ := info_parts Try.infoI
  have HI := hide hI
  have HH : Hid (∀ (W : World) (x : Nat), Below w.heap.size w W → Calls Try.prog 22 #[.slice k0 K.length kc, .int .i64 (x : Int)] W fun e w' => e = .returned (.bool (inS K x)) ∧ W = w') := fun W x hb => by
    have := ghas_any (zs K) (x : Int) k0 kc (by rw [zs_length]; unfold maxLen; omega) W (hK.below hb)
    rwa [zs_length, mem_zs] at this
  generalize inS K = S at *
  generalize K.length = l at *
  generalize hn : r.length = n at *
  have HN := hide hn
  clear hI hK hn
  go_enter Try.func31, Try.ntmps31
  go_wp2_with fail
  go_loopw [5, 6] (fun v u wr => ∃ k : Nat, k ≤ n ∧ u = .int .i64 k ∧ wr.ownsRow w.heap.size 3 1 v (unk S (r.take k)).length (ic (zs (unk S (r.take k)))) ∧ Below w.heap.size w wr) (fun _ u _ => n - (intOf u).toNat)
  case atStart => exact ⟨0, by omega, rfl, World.ownsRow_nil _ _ _ _, Below.refl _ _⟩
  case round =>
    obtain ⟨k, hk', rfl, hO, hB⟩ := hrel
    obtain ⟨ao, cp, rfl⟩ := own_shape2 hO
    have hbs := hB.size
    by_cases hlt : k < n
    · have hlt' : k < r.length := by rw [unhide HN]; exact hlt
      obtain ⟨g, o, rfl, c0⟩ := ((unhide HI).below hB) k (by rw [zs_length]; exact hlt')
      rw [zs_get r k hlt'] at c0
      have hh := hide (unhide HH wr r[k] hB)
      have q1 : (k : Int) < n := by omega
      have hle : (unk S (r.take k)).length ≤ 10000 := by
        have h1 := List.length_filter_le (fun i => !S i) (r.take k)
        have h2 : (unk S (r.take k)).length ≤ (r.take k).length := h1
        rw [List.length_take] at h2
        omega
      have HT := hide (unk_take (S := S) hlt')
      generalize r[k] = y at *
      cases hs : S y with
      | true =>
        rw [hs] at HT hh
        simp only [if_true, List.append_nil] at HT
        have HX : Hid (wr.ownsRow w.heap.size 3 1 (.slice ao (unk S (r.take k)).length cp) (unk S (r.take (k + 1))).length (ic (zs (unk S (r.take (k + 1))))) ∧ Below w.heap.size w wr) := by
          rw [unhide HT]
          exact ⟨hO, hB⟩
        generalize (unk S (r.take k)).length = dl at *
        clear hO hB hs HT hlt'
        go_wp2_with fail
        refine (unhide hh).mono ?_
        rintro e w1 ⟨rfl, rfl⟩
        go_wp2
        go_roundw
        case rel => exact ⟨k + 1, by omega, by go_num, unhide HX⟩
        case measure => simp [intOf]; omega
      | false =>
        rw [hs] at HT hh
        simp only [Bool.false_eq_true, if_false] at HT
        have HO := hide hO
        have HB := hide hB
        generalize hDe : unk S (r.take k) = D at *
        generalize hdl : D.length = dl at *
        have HDL := hide hdl
        clear hO hB hs hlt' hDe hdl
        go_wp2_with fail
        refine (unhide hh).mono ?_
        rintro e w1 ⟨rfl, rfl⟩
        go_wp2_with (at_builtin; refine wpList_append_own _ rfl _ _ 23 rfl w.heap.size 3 i0 (.int .i64 0) 1 8 Try.undI hi0 hz0 hz1 hz2 rfl (by decide) _ _ _ rfl ((unhide HO).alloc _) ⟨wr.heap.size, 0, none⟩ 1 1 [.int .i64 (y : Int)] ?cx rfl ?cn ?c2 ?c3 ?c4 ?c5 ?_)
        case cn => exact news_lit wr [.int .i64 (y : Int)] 3
        case c2 => intro u hu; simp at hu; rw [hu]; rfl
        case c3 => unfold maxLen; omega
        case c4 => omega
        case c5 => simp; omega
        all_goals try rfl
        intro v' w7 hown7 hgrow7 _
        obtain ⟨ao', cp', rfl⟩ := own_shape2 hown7
        have HB7 := hide ((unhide HB).trans (((Below.refl w.heap.size _).alloc (by omega) _).grown hgrow7 (by simp; omega) (fun q hq => ((unhide HO).lt q hq).1)))
        have HO7 : Hid (w7.ownsRow w.heap.size 3 1 (.slice ao' (dl + 1) cp') (unk S (r.take (k + 1))).length (ic (zs (unk S (r.take (k + 1)))))) := by
          show World.ownsRow _ _ _ _ _ _ _
          rw [unhide HT, List.length_append, unhide HDL]
          unfold zs
          rw [List.map_append, ic_append]
          exact hown7
        clear hown7 hgrow7 c0
        go_wp2
        go_roundw
        case rel => exact ⟨k + 1, by omega, by go_num, unhide HO7, unhide HB7⟩
        case measure => simp [intOf]; omega
    · have hkn : k = n := by omega
      subst hkn
      have q1 : ¬ (k : Int) < k := by omega
      rw [List.take_of_length_le (by rw [unhide HN]; exact Nat.le_refl _)] at hO
      rw [List.take_of_length_le (by rw [unhide HN]; exact Nat.le_refl _)]
      obtain ⟨dl, hdl⟩ : ∃ dl, dl = (unk S r).length := ⟨_, rfl⟩
      have HX : Hid (wr.ownsRow w.heap.size 3 1 (.slice ao dl cp) (unk S r).length (ic (zs (unk S r))) ∧ Below w.heap.size w wr) := by
        rw [hdl]
        exact ⟨hO, hB⟩
      rw [← hdl]
      clear hO hB hdl
      go_wp2
      go_ret
      exact ⟨_, rfl, unhide HX⟩
end Go.Proofs.Ytfihpmhobjjaaaa

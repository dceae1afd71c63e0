/- gauss: the document's May and first. gauss: the document's plus. -/
import Derived.Test.YtpcndjnhpjhjkaaDoorGmF
namespace Go.Proofs.YtpcndjnhpjhjkaaDoor
open Go.RowKit
set_option linter.unusedVariables false
attribute [local go_sem] Oper.semAt_some

theorem isR_cons (n le x : Int) (r : List Int) : isR n le (x :: r) = if x < le then false else if n ≤ x then false else isR n (x + 1) r := rfl
/-- from where on the k-th number of a row may be -/
def leastR (r : List Int) (k : Nat) : Int := if k = 0 then 0 else r.getD (k - 1) 0 + 1
set_option maxRecDepth 100000 in
set_option maxHeartbeats 2000000 in
theorem dmay_any (n : Int) (Rs : List (List Int)) (a0 : Option Addr) (c : Nat) (hn : -9223372036854775808 ≤ n ∧ n ≤ 9223372036854775807) (hk : Rs.length ≤ maxLen) (hk2 : ∀ r ∈ Rs, r.length ≤ maxLen) (w : World) (hI : RowsA w a0 Rs) :
    Calls Tryd.prog 17 #[.int .i64 n, .slice a0 Rs.length c] w fun e w' => e = .returned (.bool (mayB n Rs)) ∧ w = w' := by
  have hm := hk
  unfold maxLen at hm
  by_cases h0 : 0 ≤ n ∧ n ≤ 160 ∧ Rs.length ≤ 400
  · have HI := hide hI
    have H2 := hide hk2
    have HE : Hid (mayB n Rs = Rs.all (isR n 0)) := by
      show _ = _
      unfold mayB
      rw [decide_eq_true h0, Bool.true_and]
    generalize mayB n Rs = E at *
    have q1 : ¬ n < 0 := by omega
    have q2 : ¬ 160 < n := by omega
    have q3 : ¬ (400 : Int) < Rs.length := by omega
    have d1 : decide (n < 0) = false := decide_eq_false q1
    have d2 : decide (160 < n) = false := decide_eq_false q2
    have d3 : decide ((400 : Int) < Rs.length) = false := decide_eq_false q3
    generalize hL : Rs.length = m at *
    have HL := hide hL
    clear hI hL hk hk2 h0
    go_enter Tryd.func17, Tryd.ntmps17
    go_wp2_with fail
    go_loopw [5] (fun v wr => w = wr ∧ ∃ k : Nat, k ≤ m ∧ v = .int .i64 k ∧ ∀ r ∈ Rs.take k, isR n 0 r = true) (fun v _ => m - (intOf v).toNat)
    case atStart => exact ⟨rfl, 0, by omega, rfl, by simp⟩
    case round =>
      obtain ⟨rfl, k, hk', rfl, ha⟩ := hrel
      by_cases hlt : k < m
      · have hlt' : k < Rs.length := by rw [unhide HL]; exact hlt
        obtain ⟨g, o, rfl, b, cc, c0, hI⟩ := unhide HI k hlt'
        have q4 : (k : Int) < m := by omega
        have hrm := unhide H2 _ (List.getElem_mem hlt')
        have HBAD : Hid (isR n 0 Rs[k] = false → E = false) := fun hb => by
          rw [unhide HE]
          apply Bool.eq_false_iff.2
          intro h
          rw [List.all_eq_true] at h
          have := h _ (List.getElem_mem hlt')
          rw [hb] at this
          cases this
        have HOK : Hid (isR n 0 Rs[k] = true → ∀ r ∈ Rs.take (k + 1), isR n 0 r = true) := fun hb r hr => by
          rw [List.take_succ_eq_append_getElem hlt', List.mem_append] at hr
          rcases hr with hr | hr
          · exact ha r hr
          · simp at hr; rw [hr]; exact hb
        have HIr := hide hI
        generalize Rs[k] = r at *
        unfold maxLen at hrm
        generalize hrl : r.length = rl at *
        have HRL := hide hrl
        clear ha hI hlt' hrl
        go_wp2_with fail
        go_loopw [6] (fun v wr => w = wr ∧ ∃ j : Nat, j ≤ rl ∧ v = .int .i64 j ∧ 0 ≤ leastR r j ∧ isR n (leastR r j) (r.drop j) = isR n 0 r) (fun v _ => rl - (intOf v).toNat)
        case atStart => exact ⟨rfl, 0, by omega, rfl, by simp [leastR], rfl⟩
        case round =>
          obtain ⟨rfl, j, hj, rfl, hl0, he⟩ := hrel
          by_cases hjl : j < rl
          · have hjl' : j < r.length := by rw [unhide HRL]; exact hjl
            obtain ⟨gr, orr, rfl, e0⟩ := unhide HIr j hjl'
            rw [List.drop_eq_getElem_cons hjl', isR_cons] at he
            have hnx : leastR r (j + 1) = r[j] + 1 := by
              unfold leastR
              rw [if_neg (by omega), Nat.add_sub_cancel]
              simp [List.getD, hjl']
            have q5 : (j : Int) < rl := by omega
            have hprev : 0 < j → ∃ p, leastR r j = p + 1 ∧ w.cell? ⟨gr, orr + (j - 1), none⟩ = some (.int .i64 p) := fun h => by
              have hj1 : j - 1 < r.length := by omega
              obtain ⟨_, _, e9, e1⟩ := unhide HIr (j - 1) hj1
              simp only [Option.some.injEq, Addr.mk.injEq, and_true] at e9
              obtain ⟨rfl, rfl⟩ := e9
              refine ⟨r[j - 1], ?_, e1⟩
              unfold leastR
              rw [if_neg (by omega)]
              simp [List.getD, hj1]
            have hl00 : j = 0 → leastR r j = 0 := fun h => by unfold leastR; rw [if_pos h]
            generalize leastR r j = le at *
            generalize r[j] = x at *
            have HE2 := hide he
            have HNX := hide hnx
            clear he hnx hjl'
            by_cases h1 : x < 0
            · have e2 : E = false := unhide HBAD (by rw [← unhide HE2, if_pos (by omega)])
              subst e2
              have d4 : decide (x < 0) = true := decide_eq_true h1
              go_wp2
              go_ret
              exact ⟨rfl, rfl⟩
            · have d4 : decide (x < 0) = false := decide_eq_false h1
              by_cases h2 : n ≤ x
              · have e2 : E = false := unhide HBAD (by
                  rw [← unhide HE2]
                  by_cases h : x < le
                  · rw [if_pos h]
                  · rw [if_neg h, if_pos h2])
                subst e2
                have d5 : decide (n ≤ x) = true := decide_eq_true h2
                go_wp2
                go_ret
                exact ⟨rfl, rfl⟩
              · have d5 : decide (n ≤ x) = false := decide_eq_false h2
                by_cases h3 : 0 < j
                · obtain ⟨p, ep, cp⟩ := hprev h3
                  have q6 : (0 : Int) < j := by omega
                  have q7 : (j : Int) - 1 = ((j - 1 : Nat) : Int) := by omega
                  have q8 : ((j - 1 : Nat) : Int) < rl := by omega
                  generalize j - 1 = j1 at *
                  by_cases h4 : x ≤ p
                  · have e2 : E = false := unhide HBAD (by rw [← unhide HE2, if_pos (by omega)])
                    subst e2
                    have d6 : decide (x ≤ p) = true := decide_eq_true h4
                    clear hprev hl00
                    go_wp2
                    go_ret
                    exact ⟨rfl, rfl⟩
                  · have d6 : decide (x ≤ p) = false := decide_eq_false h4
                    have HE3 : Hid (isR n (leastR r (j + 1)) (r.drop (j + 1)) = isR n 0 r) := by
                      show _ = _
                      rw [← unhide HE2, if_neg (by omega), if_neg h2, unhide HNX]
                    have hp1 : 0 ≤ leastR r (j + 1) := by rw [unhide HNX]; omega
                    have HP1 := hide hp1
                    clear hprev hl00 hp1
                    go_wp2
                    go_roundw
                    case rel => exact ⟨trivial, j + 1, by omega, by go_num, unhide HP1, unhide HE3⟩
                    case measure => simp [intOf]; omega
                · have hj0 : j = 0 := by omega
                  have q6 : ¬ (0 : Int) < j := by omega
                  have e00 := hl00 hj0
                  have HE3 : Hid (isR n (leastR r (j + 1)) (r.drop (j + 1)) = isR n 0 r) := by
                    show _ = _
                    rw [← unhide HE2, if_neg (by omega), if_neg h2, unhide HNX]
                  have hp1 : 0 ≤ leastR r (j + 1) := by rw [unhide HNX]; omega
                  have HP1 := hide hp1
                  clear hprev hl00 hp1 e00 hj0
                  go_wp2
                  go_roundw
                  case rel => exact ⟨trivial, j + 1, by omega, by go_num, unhide HP1, unhide HE3⟩
                  case measure => simp [intOf]; omega
          · have hjr : j = rl := by omega
            have q5 : ¬ (j : Int) < rl := by omega
            have hT : isR n 0 r = true := by
              rw [← he, List.drop_of_length_le (by rw [unhide HRL]; omega)]
              rfl
            have HA2 := hide (unhide HOK hT)
            clear he hT hjr
            go_wp2
            go_roundw
            case rel => exact ⟨trivial, k + 1, by omega, by go_num, unhide HA2⟩
            case measure => simp [intOf]; omega
      · have hkm : k = m := by omega
        subst hkm
        have e2 : E = true := by
          rw [unhide HE, List.all_eq_true]
          rw [List.take_of_length_le (by rw [unhide HL]; exact Nat.le_refl _)] at ha
          exact ha
        subst e2
        have q4 : ¬ (k : Int) < k := by omega
        clear ha
        go_wp2
        go_ret
        exact ⟨rfl, rfl⟩
  · have e : mayB n Rs = false := by unfold mayB; rw [decide_eq_false h0, Bool.false_and]
    rw [e]
    generalize Rs.length = m at *
    clear hI e hk2
    by_cases q1 : n < 0
    · have d1 : decide (n < 0) = true := decide_eq_true q1
      go_enter Tryd.func17, Tryd.ntmps17
      go_wp2
      go_ret
      exact ⟨rfl, rfl⟩
    · have d1 : decide (n < 0) = false := decide_eq_false q1
      by_cases q2 : 160 < n
      · have d2 : decide (160 < n) = true := decide_eq_true q2
        go_enter Tryd.func17, Tryd.ntmps17
        go_wp2
        go_ret
        exact ⟨rfl, rfl⟩
      · have d2 : decide (160 < n) = false := decide_eq_false q2
        have q3 : (400 : Int) < m := by omega
        have d3 : decide ((400 : Int) < m) = true := decide_eq_true q3
        go_enter Tryd.func17, Tryd.ntmps17
        go_wp2
        go_ret
        exact ⟨rfl, rfl⟩
/-- what first answers -/
def fstI (n : Nat) (r : Nat) : Int := if r = 0 then (n : Int) else (fb r : Int)
set_option maxRecDepth 100000 in
set_option maxHeartbeats 1000000 in
theorem dfirst_any (n : Nat) (x : Ln) (hn : n ≤ 160) (hb : x.1 < 2 ^ n) (a : Option Addr) (c : Nat) (w : World) (hI : Ints w a (zs (numsR n x.1))) :
    Calls Tryd.prog 48 #[.int .i64 n, .agg #[.slice a (numsR n x.1).length c, .string (bs x.2)]] w fun e w' => e = .returned (.int .i64 (fstI n x.1)) ∧ Below w.heap.size w w' := by
  generalize bs x.2 = S at *
  by_cases h0 : x.1 = 0
  · have e1 : fstI n x.1 = n := by unfold fstI; rw [if_pos h0]
    have e2 : numsR n x.1 = [] := by
      rw [h0]
      unfold numsR
      simp
    rw [e1, e2]
    have B1 := hide ((Below.refl _ w).alloc (Nat.le_refl _) (.cells #[.slice a ([] : List Nat).length c, .string S] 78))
    clear hI e1 e2
    go_enter Tryd.func48, Tryd.ntmps48
    go_wp2
    go_ret
    exact ⟨rfl, unhide B1⟩
  · obtain ⟨t, ht⟩ := first_num (by omega) h0 hb
    have e1 : fstI n x.1 = (fb x.1 : Int) := by unfold fstI; rw [if_neg h0]
    rw [e1]
    obtain ⟨g, o, rfl, c0⟩ := hI 0 (by rw [zs_length, ht]; simp)
    have e3 : (zs (numsR n x.1))[0]'(by rw [zs_length, ht]; simp) = (fb x.1 : Int) := by simp [zs, ht]
    rw [e3, Nat.add_zero] at c0
    clear e3
    have hl : (numsR n x.1).length = t.length + 1 := by rw [ht]; rfl
    have hl2 := numsR_len n x.1
    have B1 := hide ((Below.refl _ w).alloc (Nat.le_refl _) (.cells #[.slice (some ⟨g, o, none⟩) (numsR n x.1).length c, .string S] 78))
    have c1 := cell_below c0 (unhide B1)
    generalize (numsR n x.1).length = le at *
    generalize fb x.1 = f at *
    have q1 : (0 : Int) < le := by omega
    have q2 : ¬ (le : Int) = 0 := by omega
    have q3 : ((le : Int) == 0) = false := by simp; omega
    have q4 : ¬ le = 0 := by omega
    clear hI e1 ht hl c0
    go_enter Tryd.func48, Tryd.ntmps48
    go_wp2
    go_ret
    exact ⟨rfl, unhide B1⟩
end Go.Proofs.YtpcndjnhpjhjkaaDoor
namespace Go.Proofs.YtpcndjnhpjhjkaaDoor
open Go.RowKit
set_option linter.unusedVariables false
attribute [local go_sem] Oper.semAt_some

theorem ret_cell {fn : Func} {p : Tmp} {ty : TypeId} {a : Act} {w : World} {R : Ending → World → Prop} (h : fn.results = #[.cell p ty]) (g : Nat) (t : TypeId) (cs : Array Value) (fr : Nat × Nat) (fs : Array Field)
    (hp : a.tmps.getD p undef = .pointer (some ⟨g, 0, none⟩)) (hg : w.heap[g]? = some (.cells cs t fr)) (hdf : a.defers = [])
    (hu : Tryd.prog.underlying ty = some (.struct fs)) (hi : (Tryd.prog.info? ty).map (·.size) = some cs.size) (hR : R (.returned (.agg cs)) w) :
    bodyPost Tryd.prog fn R .ret a w := bodyPost_ret (results_cell_row h _ w g t cs fr _ hp hg hu rfl hi) hdf hR
theorem set_row2 {w : World} {g : Nat} {cs : Array Value} {t : TypeId} (h : w.heap[g]? = some (.cells cs t (0, 0))) (j : Nat) (v : Value) : (w.setCell ⟨g, j, none⟩ v).heap[g]? = some (.cells (cs.setIfInBounds j v) t (0, 0)) := heap_setCell_same w g j _ t _ h
theorem cell0_two {w : World} {b : Nat} {u v : Value} {t : TypeId} (h : w.heap[b]? = some (.cells #[u, v] t (0, 0))) : w.cell? ⟨b, 0, none⟩ = some u := by simp [World.cell?, h]
theorem cell1_two {w : World} {b : Nat} {u v : Value} {t : TypeId} (h : w.heap[b]? = some (.cells #[u, v] t (0, 0))) : w.cell? ⟨b, 1, none⟩ = some v := by simp [World.cell?, h]
theorem free_two {w : World} {b j : Nat} {u v : Value} {t : TypeId} (h : w.heap[b]? = some (.cells #[u, v] t (0, 0))) : w.frozen? ⟨b, j, none⟩ = false := by simp [World.frozen?, h]
set_option maxRecDepth 100000 in
set_option maxHeartbeats 1000000 in
theorem dplus_any (n m : Nat) (x y : Ln) (hn : n ≤ 160) (hm : m ≤ 100) (hx : x.1 < 2 ^ n) (hy : y.1 < 2 ^ n) (lx : x.2.length = m) (ly : y.2.length = m) (a b : Option Addr) (c d : Nat) (w : World) (hA : Ints w a (zs (numsR n x.1))) (hB : Ints w b (zs (numsR n y.1))) :
    Calls Tryd.prog 49 #[.int .i64 n, .agg #[.slice a (numsR n x.1).length c, .string (bs x.2)], .agg #[.slice b (numsR n y.1).length d, .string (bs y.2)]] w fun e w' => ∃ v, e = .returned (.agg #[v, .string (bs (addV x y).2)]) ∧ w'.ownsRow w.heap.size 3 1 v (numsR n (addV x y).1).length (ic (zs (numsR n (addV x y).1))) ∧ Below w.heap.size w w' := by
  have hxo := hide (fun W => rxor_any x.2 y.2 W (by omega) (by omega))
  have e1 : xorR x.2 y.2 = xorL x.2 y.2 := by unfold xorR; rw [if_pos (by rw [lx, ly])]
  have e2 : xorE x.2 y.2 = 0 := by unfold xorE; rw [if_pos (by rw [lx, ly])]
  rw [e1, e2] at hxo
  have had := hide (fun W (hw : Below w.heap.size w W) => radd_any n (numsR n x.1) (numsR n y.1) a b c d hn (by have := numsR_len n x.1; omega) (by have := numsR_len n y.1; omega) W (hA.below hw) (hB.below hw))
  rw [rowN_nums hx, rowN_nums hy] at had
  have eA : (addV x y).1 = x.1 ^^^ y.1 := rfl
  have eB : (addV x y).2 = xorL x.2 y.2 := rfl
  rw [eA, eB]
  generalize numsR n (x.1 ^^^ y.1) = ns at *
  generalize bs (xorL x.2 y.2) = S2 at *
  generalize bs x.2 = S0 at *
  generalize bs y.2 = S1 at *
  generalize (numsR n x.1).length = l0 at *
  generalize (numsR n y.1).length = l1 at *
  have hb1 : Below w.heap.size w (((w.alloc (.cells #[.slice a l0 c, .string S0] 78)).alloc (.cells #[.slice b l1 d, .string S1] 78)).alloc (.cells #[.slice none 0 0, .string ⟨#[]⟩] 78)) := (((Below.refl _ w).alloc (Nat.le_refl _) _).alloc (by simp) _).alloc (by simp; omega) _
  have B1 := hide hb1
  clear hA hB e1 e2 eA eB lx ly hx hy hb1
  go_enter Tryd.func49, Tryd.ntmps49
  go_wp2_with fail
  refine (unhide hxo _).mono ?_
  rintro e w2 ⟨rfl, b2⟩
  have B2 := hide ((unhide B1).trans (b2.mono (unhide B1).size))
  have r0 : w2.heap[w.heap.size]? = some (.cells #[.slice a l0 c, .string S0] 78 (0, 0)) := by
    rw [b2.block _ (by simp; omega), Below.heap_alloc _ _ _ (by simp; omega), Below.heap_alloc _ _ _ (by simp)]
    exact heap_alloc_new _ _
  have r1 : w2.heap[w.heap.size + 1]? = some (.cells #[.slice b l1 d, .string S1] 78 (0, 0)) := by
    rw [b2.block _ (by simp), Below.heap_alloc _ _ _ (by simp)]
    have := heap_alloc_new (w.alloc (.cells #[.slice a l0 c, .string S0] 78)) (.cells #[.slice b l1 d, .string S1] 78)
    simpa using this
  have r2 : w2.heap[w.heap.size + 1 + 1]? = some (.cells #[.slice none 0 0, .string ⟨#[]⟩] 78 (0, 0)) := by
    rw [b2.block _ (by simp)]
    have := heap_alloc_new ((w.alloc (.cells #[.slice a l0 c, .string S0] 78)).alloc (.cells #[.slice b l1 d, .string S1] 78)) (.cells #[.slice none 0 0, .string ⟨#[]⟩] 78)
    simpa using this
  have c0 := cell0_two r0
  have c1 := cell0_two r1
  have hA2 := hide (unhide had w2 (unhide B2))
  have R2 := hide r2
  clear b2 r0 r1 r2
  go_wp2_with fail
  refine (unhide hA2).mono ?_
  rintro e w3 ⟨v, rfl, hV, b3⟩
  have R3 := hide ((b3.block _ (lt_of_block (unhide R2))).trans (unhide R2))
  have f0 := free_two (j := 0) (unhide R3)
  have f1 := free_two (j := 1) (unhide R3)
  have d0 := cell0_two (unhide R3)
  have d1 := cell1_two (unhide R3)
  have B3 := hide ((unhide B2).trans (b3.mono (unhide B2).size))
  have hlt2 := lt_of_block (unhide R2)
  have HV := hide hV
  have hw2 := (unhide B2).size
  have hvl := hV.lt
  obtain ⟨va, vc, rfl⟩ := own_shape' hV
  clear hV b3
  go_wp2
  have hOW := ownsRow_setCell_other (ownsRow_setCell_other (own_mono (unhide HV) hw2) (a := ⟨w.heap.size + 1 + 1, 0, none⟩) (by
    intro h
    have := hvl _ h
    have h9 : w.heap.size + 1 + 1 < w2.heap.size := hlt2
    have h7 : w2.heap.size ≤ w.heap.size + 1 + 1 := this.1
    omega) (.slice va ns.length vc)) (a := ⟨w.heap.size + 1 + 1, 1, none⟩) (by
    intro h
    have := hvl _ h
    have h9 : w.heap.size + 1 + 1 < w2.heap.size := hlt2
    have h7 : w2.heap.size ≤ w.heap.size + 1 + 1 := this.1
    omega) (.string S2)
  refine ret_cell rfl (w.heap.size + 1 + 1) 78 #[.slice va ns.length vc, .string S2] (0, 0) _ rfl (set_row2 (set_row2 (unhide R3) 0 _) 1 _) rfl Tryd.underlying78 (by kernel_rfl) ⟨_, rfl, hOW, ((unhide B3).setCell (p := ⟨w.heap.size + 1 + 1, 0, none⟩) (by show w.heap.size ≤ w.heap.size + 1 + 1; omega) _).setCell (p := ⟨w.heap.size + 1 + 1, 1, none⟩) (by show w.heap.size ≤ w.heap.size + 1 + 1; omega) _⟩
end Go.Proofs.YtpcndjnhpjhjkaaDoor

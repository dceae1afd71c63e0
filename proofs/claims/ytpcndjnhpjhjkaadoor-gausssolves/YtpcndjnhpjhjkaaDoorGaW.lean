/- gauss: the document's Sized and Sum; what true equations solve to. -/
import Derived.Test.YtpcndjnhpjhjkaaDoorGaV
import Derived.Test.YtpcndjnhpjhjkaaDoorGmM
namespace Go.Proofs.YtpcndjnhpjhjkaaDoor
open Go.RowKit
set_option linter.unusedVariables false
attribute [local go_sem] Oper.semAt_some

/-- blocks of one size -/
def szB (ss : List By) : Bool := decide (ss ≠ [] ∧ ∀ s ∈ ss, may s.length = true ∧ s.length = (ss.getD 0 []).length)
set_option maxRecDepth 100000 in
set_option maxHeartbeats 1000000 in
theorem rsized_any (ss : List By) (a0 : Option Addr) (c : Nat) (w : World) (hT : Txts w a0 ss) (h2 : ss.length ≤ maxLen) :
    Calls Tryd.prog 27 #[.slice a0 ss.length c] w fun e w' => e = .returned (.bool (szB ss)) ∧ Below w.heap.size w w' := by
  unfold maxLen at h2
  have HT := hide hT
  have hm := hide rmay_any
  generalize hE : szB ss = E at *
  have HE := hide hE
  generalize hn : ss.length = n at *
  have HN := hide hn
  clear hT hE hn
  go_enter Tryd.func27, Tryd.ntmps27
  go_wp2_with fail
  go_loopw [3] (fun v wr => ∃ k q' : Nat, k ≤ n ∧ v = .int .i64 k ∧ w.drewN q' = wr ∧ ∀ s ∈ ss.take k, may s.length = true ∧ s.length = (ss.getD 0 []).length) (fun v _ => n - (intOf v).toNat)
  case atStart => exact ⟨0, 0, by omega, rfl, rfl, by simp⟩
  case round =>
    obtain ⟨k, q', hk, rfl, rfl, ha⟩ := hrel
    by_cases hlt : k < n
    · have hlt' : k < ss.length := by rw [unhide HN]; exact hlt
      have h0' : 0 < ss.length := by omega
      obtain ⟨g, o, rfl, c0⟩ := unhide HT k hlt'
      obtain ⟨_, _, e, c1⟩ := unhide HT 0 h0'
      simp only [Option.some.injEq, Addr.mk.injEq, and_true] at e
      obtain ⟨rfl, rfl⟩ := e
      have e0 : ss.getD 0 [] = ss[0] := by simp [List.getD, h0']
      rw [e0] at ha
      rw [Nat.add_zero] at c1
      have q1 : (k : Int) < n := by omega
      have q0 : (0 : Int) < n := by omega
      have s0 : (bs ss[k]).size = ss[k].length := bs_size _
      have s1 : (bs ss[0]).size = ss[0].length := bs_size _
      have HA := hide ha
      have HF : Hid (¬ (may (ss[k].length : Int) = true ∧ ss[k].length = ss[0].length) → E = false) := fun h => by
        rw [← unhide HE]
        unfold szB
        rw [e0]
        exact decide_eq_false (fun h' => h (h'.2 _ (List.getElem_mem hlt')))
      have HT2 : Hid ((may (ss[k].length : Int) = true ∧ ss[k].length = ss[0].length) → ∀ s ∈ ss.take (k + 1), may s.length = true ∧ s.length = (ss.getD 0 []).length) := fun h s hs => by
        rw [List.take_succ_eq_append_getElem hlt', List.mem_append] at hs
        rw [e0]
        rcases hs with hs | hs
        · exact ha s hs
        · simp at hs; rw [hs]; exact h
      have hmk : Hid (∀ x, Calls Tryd.prog 42 #[.int .i64 (ss[k].length : Nat)] (w.drewN (q' + x)) fun e w'' => e = .returned (.bool (may (ss[k].length : Int))) ∧ ∃ m, w'' = w.drewN (q' + m)) := fun x => (unhide hm _ _).mono fun _ _ ⟨he, hw⟩ => ⟨he, x, hw.symm⟩
      generalize bs ss[k] = S0 at *
      generalize bs ss[0] = S1 at *
      generalize ss[k].length = l0 at *
      generalize ss[0].length = l1 at *
      clear ha e0 h0' hlt'
      subst s0
      subst s1
      cases hy : may (S0.size : Int) with
      | false =>
        have e2 : E = false := unhide HF (fun h => by rw [hy] at h; cases h.1)
        subst e2
        rw [hy] at hmk
        clear HF HT2 hy
        go_wp2
        go_big_quiet ((go_at_call 42; exact unhide hmk _))
        go_wp2
        go_ret
        exact ⟨rfl, rfl, rfl, rfl, Nat.le_refl _, fun _ _ => rfl⟩
      | true =>
        rw [hy] at hmk
        by_cases hz : S0.size = S1.size
        · have HA2 := hide (unhide HT2 ⟨hy, hz⟩)
          have HZ := hide hz
          clear HF HT2 hy hz
          go_wp2
          have d1 : ((S0.size : Int) != (S1.size : Int)) = false := by have := unhide HZ; simp; omega
          go_big_quiet ((go_at_call 42; exact unhide hmk _))
          go_wp2
          go_roundw
          case rel => exact ⟨k + 1, _, by omega, by go_num, by first | rfl | exact (World.drewN_drewN _ _ _).symm | exact World.drewN_drewN _ _ _, unhide HA2⟩
          case measure => simp [intOf]; omega
        · have e2 : E = false := unhide HF (fun h => hz h.2)
          subst e2
          have HZ := hide hz
          clear HF HT2 hy hz
          go_wp2
          have d1 : ((S0.size : Int) != (S1.size : Int)) = true := by have := unhide HZ; simp; omega
          go_big_quiet ((go_at_call 42; exact unhide hmk _))
          go_wp2
          go_ret
          exact ⟨rfl, rfl, rfl, rfl, Nat.le_refl _, fun _ _ => rfl⟩
    · have hkn : k = n := by omega
      subst hkn
      rw [List.take_of_length_le (by rw [unhide HN]; exact Nat.le_refl _)] at ha
      have q1 : ¬ (k : Int) < k := by omega
      by_cases h0 : 0 < k
      · have e2 : E = true := by
          rw [← unhide HE]
          unfold szB
          exact decide_eq_true ⟨fun h => by have := unhide HN; rw [h] at this; simp at this; omega, ha⟩
        subst e2
        have q2 : (0 : Int) < k := by omega
        clear ha
        go_wp2
        go_ret
        exact ⟨rfl, rfl, rfl, rfl, Nat.le_refl _, fun _ _ => rfl⟩
      · have e2 : E = false := by
          rw [← unhide HE]
          unfold szB
          exact decide_eq_false (fun h => h.1 (List.eq_nil_of_length_eq_zero (by have := unhide HN; omega)))
        subst e2
        have q2 : ¬ (0 : Int) < k := by omega
        clear ha
        go_wp2
        go_ret
        exact ⟨rfl, rfl, rfl, rfl, Nat.le_refl _, fun _ _ => rfl⟩
/-- the sum of some of blocks -/
def evL (X : List By) (m : Nat) (ns : List Nat) : By := ns.foldl (fun s i => xorL s (X.getD i [])) (List.replicate m 0)
theorem evL_len {X : List By} {m : Nat} (hX : ∀ s ∈ X, s.length = m) : ∀ (ns : List Nat) (a : By), a.length = m → (∀ i ∈ ns, i < X.length) → (ns.foldl (fun s i => xorL s (X.getD i [])) a).length = m
  | [], a, h, _ => h
  | i :: ns, a, h, hn => by
    rw [List.foldl_cons]
    refine evL_len hX ns _ ?_ (fun j hj => hn j (by simp [hj]))
    rw [xorL_len _ _ (by rw [h]; exact hX _ (by have := hn i (by simp); simp [List.getD, this])), h]
theorem evL_snoc (X : List By) (m : Nat) (ns : List Nat) (k : Nat) (h : k < ns.length) : evL X m (ns.take (k + 1)) = xorL (evL X m (ns.take k)) (X.getD ns[k] []) := by
  unfold evL
  rw [List.take_succ_eq_append_getElem h, List.foldl_append]
  rfl
set_option maxRecDepth 100000 in
set_option maxHeartbeats 1000000 in
theorem rsum_any (X : List By) (m : Nat) (hm : 1 ≤ m) (hm2 : m ≤ 64) (hX : ∀ s ∈ X, s.length = m) (x0 : Option Addr) (xc : Nat) (ns : List Nat) (hns : ∀ i ∈ ns, i < X.length) (b0 : Option Addr) (d : Nat) (hl : ns.length ≤ 100000) (hXl : X.length ≤ 100000) (w : World) (hT : Txts w x0 X) (hI : Ints w b0 (zs ns)) :
    Calls Tryd.prog 28 #[.slice x0 X.length xc, .slice b0 ns.length d, .int .i64 m] w fun e w' => e = .returned (.string (bs (evL X m ns))) ∧ Below w.heap.size w w' := by
  have hz := hide (rzero_any m)
  rw [zeroL_nat m hm hm2] at hz
  have HT := hide hT
  have HI := hide hI
  have HS := hide hX
  have HNS := hide hns
  generalize hE : bs (evL X m ns) = V at *
  have HE := hide hE
  generalize hn : ns.length = n at *
  have HN := hide hn
  generalize hxl : X.length = lx at *
  have HX := hide hxl
  clear hT hI hE hn hxl hX hns
  go_enter Tryd.func28, Tryd.ntmps28
  go_wp2_with fail
  refine (unhide hz _).mono ?_
  rintro e w1 ⟨rfl, b1⟩
  have B1 := hide b1
  clear b1
  go_wp2_with fail
  go_loopw [7, 8] (fun v u wr => ∃ k : Nat, k ≤ n ∧ u = .int .i64 k ∧ v = .string (bs (evL X m (ns.take k))) ∧ Below w.heap.size w wr) (fun _ u _ => n - (intOf u).toNat)
  case atStart => exact ⟨0, by omega, rfl, rfl, unhide B1⟩
  case round =>
    obtain ⟨k, hk, rfl, rfl, hB⟩ := hrel
    by_cases hlt : k < n
    · have hlt' : k < ns.length := by rw [unhide HN]; exact hlt
      obtain ⟨g, o, rfl, c0⟩ := (unhide HI).below hB k (by rw [zs_length]; exact hlt')
      have ez : (zs ns)[k]'(by rw [zs_length]; exact hlt') = ((ns[k] : Nat) : Int) := by simp [zs]
      rw [ez] at c0
      have hi := unhide HNS _ (List.getElem_mem hlt')
      have hi' : ns[k] < X.length := by rw [unhide HX]; exact hi
      obtain ⟨gx, ox, rfl, c1⟩ := (unhide HT).below hB ns[k] hi'
      have eg : X.getD ns[k] [] = X[ns[k]] := by simp [List.getD, hi']
      have hS := hide (evL_snoc X m ns k hlt')
      have hl1 : (evL X m (ns.take k)).length = m := evL_len (unhide HS) _ _ (by simp) (fun i hi => by rw [unhide HX]; exact unhide HNS i (List.mem_of_mem_take hi))
      have hl2 : X[ns[k]].length = m := unhide HS _ (List.getElem_mem hi')
      have hx := hide (fun W => rxor_any (evL X m (ns.take k)) X[ns[k]] W (by omega) (by omega))
      have e1 : xorR (evL X m (ns.take k)) X[ns[k]] = xorL (evL X m (ns.take k)) X[ns[k]] := by unfold xorR; rw [if_pos (by rw [hl1, hl2])]
      have e2 : xorE (evL X m (ns.take k)) X[ns[k]] = 0 := by unfold xorE; rw [if_pos (by rw [hl1, hl2])]
      rw [eg] at hS
      rw [e1, e2, ← unhide hS] at hx
      have q1 : (k : Int) < n := by omega
      have q2 : ((ns[k] : Nat) : Int) < lx := by omega
      generalize bs (evL X m (ns.take k)) = A0 at *
      generalize hA1 : bs (evL X m (ns.take (k + 1))) = A1 at *
      have HA1 := hide hA1
      generalize bs X[ns[k]] = A2 at *
      generalize ns[k] = i at *
      have HB := hide hB
      clear hB hA1 hS eg ez hl1 hl2 e1 e2 hlt'
      go_wp2_with fail
      refine (unhide hx _).mono ?_
      rintro e w2 ⟨rfl, b2⟩
      have HB2 := hide ((unhide HB).trans (b2.mono (unhide HB).size))
      clear b2
      go_wp2
      go_roundw
      case rel => exact ⟨k + 1, by omega, by go_num, by rw [unhide HA1], unhide HB2⟩
      case measure => simp [intOf]; omega
    · have hkn : k = n := by omega
      subst hkn
      rw [List.take_of_length_le (by rw [unhide HN]; exact Nat.le_refl _), unhide HE]
      have q1 : ¬ (k : Int) < k := by omega
      have HB := hide hB
      clear hB
      go_wp2
      go_ret
      exact ⟨rfl, unhide HB⟩
end Go.Proofs.YtpcndjnhpjhjkaaDoor

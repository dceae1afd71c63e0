/- store: the document's Has; an entry is added, whatever comes of it. -/
import Derived.Test.YtgomnmhjkjahlaaStK
import Derived.Test.YtgomnmhjkjahlaaSnL
namespace Go.Proofs.Ytgomnmhjkjahlaa
open Go.RowKit
set_option linter.unusedVariables false
attribute [local go_sem] Oper.semAt_some

set_option maxRecDepth 100000 in
set_option maxHeartbeats 1000000 in
theorem ghas_any (l : List Int) (x : Int) (a0 : Option Addr) (c : Nat) (hk : l.length ≤ maxLen) (w : World) (hI : Ints w a0 l) :
    Calls Try.prog 31 #[.slice a0 l.length c, .int .i64 x] w fun e w' => e = .returned (.bool (decide (x ∈ l))) ∧ w = w' := by
  unfold maxLen at hk
  have HI := hide hI
  generalize hE : decide (x ∈ l) = E at *
  have HE := hide hE
  generalize hL : l.length = m at *
  have HL := hide hL
  clear hI hL hE
  go_enter Try.func31, Try.ntmps31
  go_wp2_with fail
  go_loopw [5] (fun v wr => w = wr ∧ ∃ k : Nat, k ≤ m ∧ v = .int .i64 k ∧ x ∉ l.take k) (fun v _ => m - (intOf v).toNat)
  case atStart => exact ⟨rfl, 0, by omega, rfl, by simp⟩
  case round =>
    obtain ⟨rfl, k, hk', rfl, ha⟩ := hrel
    by_cases hlt : k < m
    · have hlt' : k < l.length := by rw [unhide HL]; exact hlt
      obtain ⟨g, o, rfl, c0⟩ := unhide HI k hlt'
      have q1 : (k : Int) < m := by omega
      by_cases e : l[k] = x
      · have e2 : E = true := by
          rw [← unhide HE]
          exact decide_eq_true (by rw [← e]; exact List.getElem_mem hlt')
        subst e2
        have d1 : (l[k] == x) = true := by simp [e]
        generalize l[k] = y at *
        clear ha hlt'
        subst e
        go_wp2
        go_ret
        exact ⟨rfl, rfl⟩
      · have HA : Hid (x ∉ l.take (k + 1)) := by
          show ¬ _
          rw [List.take_succ_eq_append_getElem hlt', List.mem_append]
          rintro (h | h)
          · exact ha h
          · simp at h; exact e h.symm
        have d1 : (l[k] == x) = false := by simp [e]
        generalize l[k] = y at *
        clear ha hlt'
        go_wp2
        go_roundw
        case rel => exact ⟨trivial, k + 1, by omega, by go_num, unhide HA⟩
        case measure => simp [intOf]; omega
    · have hkm : k = m := by omega
      subst hkm
      have e2 : E = false := by
        rw [← unhide HE]
        rw [List.take_of_length_le (by rw [unhide HL]; exact Nat.le_refl _)] at ha
        exact decide_eq_false ha
      subst e2
      have q1 : ¬ (k : Int) < k := by omega
      clear ha
      go_wp2
      go_ret
      exact ⟨rfl, rfl⟩
/-- an entry that was handed in -/
structure RawOk (W : World) (r : Raw) : Prop where
  ints : Ints W r.a0 r.idx
  len : r.idx.length ≤ maxLen
  hv : r.hv.size ≤ maxLen
  dt : r.dt.size ≤ maxLen
  w0 : (Lit.int .i64 r.id).wf = true
  w1 : (Lit.int .i64 r.peer).wf = true
  w2 : (Lit.int .i64 r.mode).wf = true
  w3 : (Lit.int .i64 r.seed).wf = true
theorem RawOk.below {w w' : World} {r : Raw} (h : RawOk w r) (hb : Below w.heap.size w w') : RawOk w' r := ⟨h.ints.below hb, h.len, h.hv, h.dt, h.w0, h.w1, h.w2, h.w3⟩
theorem RawOk.lt {w : World} {r : Raw} (h : RawOk w r) (hn : r.idx ≠ []) (a : Addr) (ha : r.a0 = some a) : a.block < w.heap.size := by
  obtain ⟨g, o, e, hc⟩ := h.ints 0 (List.length_pos_iff.2 hn)
  rw [ha] at e
  cases e
  exact cell_lt hc
theorem fewB_facts {r : Raw} (h : fewB r = true) : r.idx.length ≤ 170 ∧ r.dt.size ≤ 100 ∧ r.hv.size ≤ 100 := by
  unfold fewB at h
  simp at h
  omega
/-- what Add answers, and what it keeps -/
def addS (room last : Int) (rs : List Raw) (x : Raw) : Int × Int :=
  if mayK x.peer x.idx x.dt.size = false then (0, 1) else if rs.any (hasB x.peer x.mode x.seed x.hv) = true then (0, 5) else if room ≤ (rs.length : Int) then (0, 6) else (last + 1, 0)
theorem add_spec (p b : Nat) (room last : Int) (rs : List Raw) (x : Raw) (w : World) (hS : StAt w p b room last rs) (hI : Ints w x.a0 x.idx) (hf : fewB x = true) (hxp : x.idx ≠ [] → ∀ a, x.a0 = some a → a.block ≠ p) (hlast : last < 1000000000) :
    Calls Try.prog 14 #[.pointer (some ⟨p, 0, none⟩), rawV x] w fun e w' => e = .returned (.tuple #[.int .i64 (addS room last rs x).1, .int .i64 (addS room last rs x).2]) ∧ ((addS room last rs x).2 = 0 ∧ (addS room last rs x).1 = last + 1 ∧ (∃ a1 c1, StAt w' p b room (last + 1) (rs ++ [{ x with id := last + 1, a0 := a1, cap := c1 }])) ∨ (addS room last rs x).2 ≠ 0 ∧ StAt w' p b room last rs) ∧ K2 p b w w' := by
  obtain ⟨hl, hd, hh⟩ := fewB_facts hf
  have hdm : x.dt.size ≤ maxLen := by unfold maxLen; omega
  unfold addS
  cases h1 : mayK x.peer x.idx x.dt.size with
  | false =>
    rw [if_pos rfl]
    refine (add_bad p x w hI (by omega) hdm h1).mono ?_
    rintro e w' ⟨rfl, hb⟩
    exact ⟨rfl, .inr ⟨by simp, hS.kept hb⟩, K2.of_below hb⟩
  | true =>
    rw [if_neg (by simp)]
    cases h2 : rs.any (hasB x.peer x.mode x.seed x.hv) with
    | true =>
      rw [if_pos rfl]
      refine (add_there p b room last rs x w hS hI (by omega) hdm h1 h2).mono ?_
      rintro e w' ⟨rfl, hb⟩
      exact ⟨rfl, .inr ⟨by simp, hS.kept hb⟩, K2.of_below hb⟩
    | false =>
      rw [if_neg (by simp)]
      by_cases h3 : room ≤ (rs.length : Int)
      · rw [if_pos h3]
        refine (add_full p b room last rs x w hS hI (by omega) hdm h1 h2 h3).mono ?_
        rintro e w' ⟨rfl, hb⟩
        exact ⟨rfl, .inr ⟨by simp, hS.kept hb⟩, K2.of_below hb⟩
      · rw [if_neg h3]
        have hne : x.idx ≠ [] := by
          unfold mayK at h1
          simp at h1
          exact h1.2.1
        refine (add_ok p b room last rs x w hS hI (by omega) hdm (hxp hne) h1 h2 (by omega) hlast).mono ?_
        rintro e w' ⟨rfl, hs, hk⟩
        exact ⟨rfl, .inl ⟨rfl, rfl, hs⟩, hk⟩
end Go.Proofs.Ytgomnmhjkjahlaa

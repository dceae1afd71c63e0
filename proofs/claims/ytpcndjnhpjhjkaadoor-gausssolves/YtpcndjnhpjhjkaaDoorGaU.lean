/- gauss: Solve. -/
import Derived.Test.YtpcndjnhpjhjkaaDoorGaS
import Derived.Test.YtpcndjnhpjhjkaaDoorLate
namespace Go.Proofs.YtpcndjnhpjhjkaaDoor
open Go.RowKit
set_option linter.unusedVariables false
attribute [local go_sem] Oper.semAt_some

theorem bs_cmp (a b : By) : ((bs a).toList == (bs b).toList) = decide (a = b) := by
  rw [ByteArray.toList_eq, ByteArray.toList_eq, bs_list, bs_list]
  by_cases h : a = b
  · rw [decide_eq_true h, h]; simp
  · rw [decide_eq_false h]; simpa using h
set_option maxRecDepth 100000 in
set_option maxHeartbeats 1000000 in
theorem solve1_any (x : Ln) (z : By) (b : Nat) (w : World) (hb : w.cell? ⟨b, 0, none⟩ = some (.string (bs z))) :
    Calls Tryd.prog 41 #[lineV x, .pointer (some ⟨b, 0, none⟩)] w fun e w' => e = .returned (.bool (decide (x.2 ≠ z))) ∧ Below w.heap.size w w' := by
  have hlt := cell_lt hb
  have hcmp := bs_cmp x.2 z
  have hd : decide (x.2 ≠ z) = !decide (x.2 = z) := by simp
  rw [hd]
  generalize decide (x.2 = z) = D at *
  unfold lineV
  have hc2 : (w.alloc (.cells #[.int .u64 (wd x.1 0), .int .u64 (wd x.1 1), .int .u64 (wd x.1 2), .string (bs x.2)] 70)).cell? ⟨b, 0, none⟩ = some (.string (bs z)) := cell_below hb ((Below.refl _ w).alloc (Nat.le_refl _) _)
  have B1 := hide ((Below.refl _ w).alloc (Nat.le_refl _) (.cells #[.int .u64 (wd x.1 0), .int .u64 (wd x.1 1), .int .u64 (wd x.1 2), .string (bs x.2)] 70))
  generalize bs x.2 = S1 at *
  generalize bs z = S2 at *
  generalize ((wd x.1 0 : Nat) : Int) = x0 at *
  generalize ((wd x.1 1 : Nat) : Int) = x1 at *
  generalize ((wd x.1 2 : Nat) : Int) = x2 at *
  clear hd
  cases D with
  | true =>
    go_enter Tryd.func41, Tryd.ntmps41
    go_wp2
    go_ret
    exact ⟨rfl, unhide B1⟩
  | false =>
    go_enter Tryd.func41, Tryd.ntmps41
    go_wp2
    go_ret
    exact ⟨rfl, unhide B1⟩
/-- where the first one stands whose data are not those; -1: nowhere -/
def idxZ (M : List Ln) (z : By) : Int := match M.findIdx? (fun x => decide (x.2 ≠ z)) with | some k => (k : Int) | none => -1
set_option maxRecDepth 100000 in
set_option maxHeartbeats 1000000 in
theorem gindexZ_any (M : List Ln) (a0 : Option Addr) (c : Nat) (z : By) (b : Nat) (w : World) (hM : M.length ≤ 100000) (hb : w.cell? ⟨b, 0, none⟩ = some (.string (bs z))) (hL : LinesA w a0 M) :
    Calls Tryd.prog 52 #[.slice a0 M.length c, .func (.func 41) #[] #[.pointer (some ⟨b, 0, none⟩)]] w fun e w' => e = .returned (.int .i64 (idxZ M z)) ∧ Below w.heap.size w w' := by
  have HL := hide hL
  have HC := hide (fun x => solve1_any x z b)
  have Hb := hide hb
  generalize hE : idxZ M z = E at *
  have HE := hide hE
  generalize hn : M.length = n at *
  have HN := hide hn
  clear hL hE hn hb
  go_enter Tryd.func52, Tryd.ntmps52
  go_wp2_with fail
  go_loopw [8] (fun v wr => Below w.heap.size w wr ∧ ∃ k : Nat, k ≤ n ∧ v = .int .i64 k ∧ ∀ x ∈ M.take k, decide (x.2 ≠ z) = false) (fun v _ => n - (intOf v).toNat)
  case atStart => exact ⟨Below.refl _ _, 0, by omega, rfl, by simp⟩
  case round =>
    obtain ⟨hB, k, hk', rfl, ha⟩ := hrel
    by_cases hlt : k < n
    · have hlt' : k < M.length := by rw [unhide HN]; exact hlt
      obtain ⟨g, o, rfl, d0, d1, d2, d3⟩ := unhide HL k hlt'
      have c0 := cell_below d0 hB
      have c1 := cell_below d1 hB
      have c2 := cell_below d2 hB
      have c3 := cell_below d3 hB
      have hc := hide (unhide HC (gt M k) wr (cell_below (unhide Hb) hB))
      have q1 : (k : Int) < n := by omega
      have hgm : gt M k = M[k] := by simp [gt, List.getD, hlt']
      have HB := hide hB
      clear d0 d1 d2 d3
      cases hbit : decide ((gt M k).2 ≠ z) with
      | true =>
        have e2 : E = (k : Int) := by
          rw [← unhide HE]
          unfold idxZ
          have : M.findIdx? (fun x => decide (x.2 ≠ z)) = some k := by
            rw [List.findIdx?_eq_some_iff_getElem]
            refine ⟨hlt', by rw [← hgm]; exact hbit, fun j hj => ?_⟩
            rw [ha _ (List.mem_take_iff_getElem.2 ⟨j, by omega, rfl⟩)]
            simp
          rw [this]
        subst e2
        rw [hbit] at hc
        unfold lineV at hc
        generalize bs (gt M k).2 = D at *
        generalize ((wd (gt M k).1 0 : Nat) : Int) = x0 at *
        generalize ((wd (gt M k).1 1 : Nat) : Int) = x1 at *
        generalize ((wd (gt M k).1 2 : Nat) : Int) = x2 at *
        clear hbit ha hgm hB hlt'
        go_wp2_with fail
        refine (unhide hc).mono ?_
        rintro e w1 ⟨rfl, b1⟩
        have B1 := hide ((unhide HB).trans (b1.mono (unhide HB).size))
        clear b1
        go_wp2
        go_ret
        exact ⟨rfl, unhide B1⟩
      | false =>
        have HA : Hid (∀ x ∈ M.take (k + 1), decide (x.2 ≠ z) = false) := by
          intro x hx
          rw [List.take_succ_eq_append_getElem hlt', List.mem_append] at hx
          rcases hx with hx | hx
          · exact ha x hx
          · simp at hx; rw [hx, ← hgm]; exact hbit
        rw [hbit] at hc
        unfold lineV at hc
        generalize bs (gt M k).2 = D at *
        generalize ((wd (gt M k).1 0 : Nat) : Int) = x0 at *
        generalize ((wd (gt M k).1 1 : Nat) : Int) = x1 at *
        generalize ((wd (gt M k).1 2 : Nat) : Int) = x2 at *
        clear hbit ha hgm hB hlt'
        go_wp2_with fail
        refine (unhide hc).mono ?_
        rintro e w1 ⟨rfl, b1⟩
        have B1 := hide ((unhide HB).trans (b1.mono (unhide HB).size))
        clear b1
        go_wp2
        go_roundw
        case rel => exact ⟨unhide B1, k + 1, by omega, by go_num, unhide HA⟩
        case measure => simp [intOf]; omega
    · have hkn : k = n := by omega
      subst hkn
      have e2 : E = -1 := by
        rw [← unhide HE]
        unfold idxZ
        have : M.findIdx? (fun x => decide (x.2 ≠ z)) = none := by
          rw [List.findIdx?_eq_none_iff]
          rw [List.take_of_length_le (by rw [unhide HN]; exact Nat.le_refl _)] at ha
          exact ha
        rw [this]
      subst e2
      have q1 : ¬ (k : Int) < k := by omega
      have HB := hide hB
      clear ha hB
      go_wp2
      go_ret
      exact ⟨rfl, unhide HB⟩
theorem idxZ_any (M : List Ln) (z : By) : (idxZ M z = -1 ∧ M.any (fun x => decide (x.2 ≠ z)) = false) ∨ ∃ k : Nat, idxZ M z = (k : Int) ∧ M.any (fun x => decide (x.2 ≠ z)) = true := by
  unfold idxZ
  cases h : M.findIdx? (fun x => decide (x.2 ≠ z)) with
  | none =>
    refine .inl ⟨rfl, ?_⟩
    rw [List.findIdx?_eq_none_iff] at h
    rw [List.any_eq_false]
    intro x hx
    have := h x hx
    simpa using this
  | some k =>
    refine .inr ⟨k, rfl, ?_⟩
    rw [List.findIdx?_eq_some_iff_getElem] at h
    obtain ⟨h1, h2, _⟩ := h
    exact List.any_eq_true.2 ⟨_, List.getElem_mem h1, h2⟩
set_option maxRecDepth 100000 in
set_option maxHeartbeats 1000000 in
theorem contains_any (M : List Ln) (a0 : Option Addr) (c : Nat) (z : By) (b : Nat) (w : World) (hM : M.length ≤ 100000) (hb : w.cell? ⟨b, 0, none⟩ = some (.string (bs z))) (hL : LinesA w a0 M) :
    Calls Tryd.prog 40 #[.slice a0 M.length c, .func (.func 41) #[] #[.pointer (some ⟨b, 0, none⟩)]] w fun e w' => e = .returned (.bool (M.any (fun x => decide (x.2 ≠ z)))) ∧ Below w.heap.size w w' := by
  have hi := hide (gindexZ_any M a0 c z b w hM hb hL)
  rcases idxZ_any M z with ⟨e1, e2⟩ | ⟨k, e1, e2⟩
  · rw [e1] at hi
    rw [e2]
    generalize M.length = m at *
    clear hL e1 e2 hb
    go_enter Tryd.func40, Tryd.ntmps40
    go_wp2_with fail
    refine (unhide hi).mono ?_
    rintro e w1 ⟨rfl, b1⟩
    have B1 := hide b1
    clear b1
    go_wp2
    go_ret
    exact ⟨rfl, unhide B1⟩
  · rw [e1] at hi
    rw [e2]
    generalize M.length = m at *
    have q : 0 ≤ (k : Int) := by omega
    clear hL e1 e2 hb
    go_enter Tryd.func40, Tryd.ntmps40
    go_wp2_with fail
    refine (unhide hi).mono ?_
    rintro e w1 ⟨rfl, b1⟩
    have B1 := hide b1
    have d1 : decide (0 ≤ (k : Int)) = true := decide_eq_true q
    clear b1
    go_wp2
    go_ret
    exact ⟨rfl, unhide B1⟩
end Go.Proofs.YtpcndjnhpjhjkaaDoor

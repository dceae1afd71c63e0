/- The document's runs: Of in all, SameSpans, has; the law's refs. -/
import Derived.Test.YtbodklppgcloiaaDoorRwA
namespace Go.Proofs.YtbodklppgcloiaaDoor
open Go.RowKit
set_option linter.unusedVariables false

set_option maxHeartbeats 1000000 in
theorem rhas25_any (l : List Int) (x : Int) (a0 : Option Addr) (c : Nat) (w : World) (hT : Ints w a0 l) (h2 : l.length ≤ 100000) :
    Calls Tryd.prog 39 #[.slice a0 l.length c, .int .i64 x] w fun e w' => e = .returned (.bool (decide (x ∈ l))) ∧ w = w' := by
  have HT := hide hT
  generalize hE : decide (x ∈ l) = E
  have HE := hide hE
  generalize hn : l.length = m at *
  have HN := hide hn
  clear hT hn hE
  go_enter Tryd.func39, Tryd.ntmps39
  go_wp2_with fail
  go_loopw [5] (fun i wr => w = wr ∧ ∃ k : Nat, k ≤ m ∧ i = .int .i64 k ∧ x ∉ l.take k) (fun i _ => m - (intOf i).toNat)
  case atStart => exact ⟨rfl, 0, Nat.zero_le _, rfl, by simp⟩
  case round =>
    obtain ⟨rfl, k, hk, rfl, ha⟩ := hrel
    by_cases hlt : k < m
    · have hlt' : k < l.length := by rw [unhide HN]; exact hlt
      obtain ⟨g, o, rfl, hc0⟩ := unhide HT k hlt'
      have q2 : (k : Int) < m := by omega
      by_cases hl : l[k] = x
      · have he : E = true := by rw [← unhide HE]; exact decide_eq_true (hl ▸ List.getElem_mem hlt')
        subst he
        have q3 : (l[k] == x) = true := by simp [hl]
        rw [hl] at hc0
        clear ha hl hlt' q3
        have q4 : (x == x) = true := by simp
        go_wp2
        go_ret
        exact ⟨rfl, rfl⟩
      · have HA : Hid (x ∉ l.take (k + 1)) := by
          intro h
          rw [List.take_succ_eq_append_getElem hlt', List.mem_append] at h
          rcases h with h | h
          · exact ha h
          · simp at h; exact hl h.symm
        have q3 : (l[k] == x) = false := by rw [beq_eq_false_iff_ne]; exact hl
        generalize l[k] = B at *
        clear ha hlt'
        go_wp2
        go_roundw
        case rel => exact ⟨trivial, k + 1, by omega, by go_num, unhide HA⟩
        case measure => simp [intOf]; omega
    · have hkl : k = m := by omega
      subst hkl
      rw [← unhide HN, List.take_length] at ha
      have he : E = false := by rw [← unhide HE]; exact decide_eq_false ha
      subst he
      have q2 : ¬ (k : Int) < k := by omega
      clear ha
      go_wp2
      go_ret
      exact ⟨rfl, rfl⟩

/-- the document's answer -/
def docR (n : Int) (s : By) (inn : Bool) : List (Nat × Nat) := if chkI n s = true then (if inn = true then runsL s n.toNat else runsL (restL n s) n.toNat) else []
theorem rsof_any (n : Int) (s : By) (inn : Bool) (w : World) (hs : s.length ≤ maxLen) : Calls Tryd.prog 11 #[.int .i64 n, .string (bs s), .bool inn] w fun e w' => ∃ v, e = .returned (.tuple #[v, .int .i64 (ofsE n s)]) ∧ OwnR w' w.heap.size v (docR n s inn) ∧ Below w.heap.size w w' := by
  unfold ofsE docR
  cases hC : chkI n s with
  | false =>
    have hc := hide (rcheck_any n s w hs)
    rw [hC] at hc
    rw [if_neg (by simp), if_neg (by simp)]
    generalize bs s = S at *
    clear hC
    go_enter Tryd.func11, Tryd.ntmps11
    go_wp2_with fail
    refine (unhide hc).mono ?_
    rintro e w1 ⟨rfl, rfl⟩
    go_wp2
    go_ret2
    exact ⟨_, rfl, World.ownsRow_nil _ _ _ _, Below.refl _ _⟩
  | true =>
    obtain ⟨m, rfl, hch, hm, hl, hl20⟩ := chkI_facts hC
    rw [if_pos rfl, if_pos rfl, Int.toNat_natCast]
    cases inn with
    | true =>
      rw [if_pos rfl]
      refine rsof_true m s s hm hl20 hC (fun j hj => ?_) w
      rcases Nat.lt_or_ge j m with h | h
      · rw [decide_eq_true h]; cases bitAt s j <;> rfl
      · rw [decide_eq_false (by omega), chk_hi hch j h]; rfl
    | false =>
      rw [if_neg (by simp)]
      refine rsof_false m s (restL m s) hm hl20 hC (fun j hj => ?_) w
      rw [(rest_facts hch).2.1]
      cases bitAt s j <;> rfl
/-- spans in cells -/
def SpR (w : World) (a0 : Option Addr) (l : List (Int × Int)) : Prop := ∀ i (h : i < l.length), ∃ g o, a0 = some ⟨g, o, none⟩ ∧ w.cell? ⟨g, o + i * 2, none⟩ = some (.int .i64 l[i].1) ∧ w.cell? ⟨g, o + i * 2 + 1, none⟩ = some (.int .i64 l[i].2)
theorem SpR.below {w w' : World} {a0 : Option Addr} {l : List (Int × Int)} (h : SpR w a0 l) (hb : Below w.heap.size w w') : SpR w' a0 l := fun i hi => by
  obtain ⟨g, o, h1, h2, h3⟩ := h i hi
  exact ⟨g, o, h1, cell_below h2 hb, cell_below h3 hb⟩
theorem SpansAt.spr {N0 : Nat} {w : World} {a0 : Option Addr} {l : List (Int × Int)} (h : SpansAt N0 w a0 l) : SpR w a0 l := fun i hi => by
  obtain ⟨g, o, h1, _, h2, h3⟩ := h i hi
  exact ⟨g, o, h1, h2, h3⟩
/-- spans as cells -/
def pci (l : List (Int × Int)) : List Value := l.flatMap fun x => [.int .i64 x.1, .int .i64 x.2]
theorem pci_append (a b : List (Int × Int)) : pci (a ++ b) = pci a ++ pci b := by simp [pci]
theorem pcs_pci (l : List (Nat × Nat)) : pcs l = pci (toI l) := by
  induction l with
  | nil => rfl
  | cons x l ih => show _ :: _ :: pcs l = _ :: _ :: pci (toI l); rw [ih]
theorem pci_get (l : List (Int × Int)) : ∀ (i : Nat) (h : i < l.length), (pci l)[i * 2]? = some (.int .i64 l[i].1) ∧ (pci l)[i * 2 + 1]? = some (.int .i64 l[i].2) := by
  induction l with
  | nil => intro i h; simp at h
  | cons x l ih =>
    intro i h
    have e : pci (x :: l) = .int .i64 x.1 :: .int .i64 x.2 :: pci l := rfl
    rw [e]
    cases i with
    | zero => exact ⟨rfl, rfl⟩
    | succ i =>
      have := ih i (by simpa using h)
      rw [show (i + 1) * 2 = i * 2 + 2 by omega]
      exact this
def OwnRI (w : World) (base : Nat) (v : Value) (l : List (Int × Int)) : Prop := w.ownsRow base 55 2 v l.length (pci l)
theorem OwnRI.spr {w : World} {base : Nat} {v : Value} {l : List (Int × Int)} (h : OwnRI w base v l) : ∃ a0 c, v = .slice a0 l.length c ∧ SpR w a0 l := by
  rcases (show World.ownsRow _ _ _ _ _ _ _ from h).2 with ⟨rfl, h0⟩ | ⟨g, cap, cur, rfl, _, hg, hnc, hcm, hcs, htake⟩
  · exact ⟨none, 0, by rw [h0], fun i hi => absurd hi (by omega)⟩
  · refine ⟨some ⟨g, 0, none⟩, cap, rfl, fun i hi => ⟨g, 0, rfl, ?_, ?_⟩⟩
    · have h1 := (pci_get l i hi).1
      rw [← htake, List.getElem?_take, if_pos (by omega)] at h1
      rw [Nat.zero_add, cell_of_row _ _ _ _ _ (0, 0) hg]
      simpa using h1
    · have h1 := (pci_get l i hi).2
      rw [← htake, List.getElem?_take, if_pos (by omega)] at h1
      rw [Nat.zero_add, cell_of_row _ _ _ _ _ (0, 0) hg]
      simpa using h1
theorem OwnR.own {w : World} {base : Nat} {v : Value} {l : List (Nat × Nat)} (h : OwnR w base v l) : OwnRI w base v (toI l) := by
  unfold OwnRI
  rw [toI_length, ← pcs_pci]
  exact h
set_option maxRecDepth 100000 in
set_option maxHeartbeats 4000000 in
theorem refs_any (xs : List (Int × Int)) (a0 : Option Addr) (c : Nat) (w : World) (hS : SpR w a0 xs) (hx : xs.length ≤ 100000) : Calls Tryd.prog 15 #[.slice a0 xs.length c] w fun e w' => ∃ v, e = .returned v ∧ OwnRI w' w.heap.size v xs ∧ Below w.heap.size w w' := by
  obtain ⟨i0, hi, hz0, hz1, hz2⟩ := info_parts Tryd.infoR
  have HS := hide hS
  obtain ⟨n, hn⟩ : ∃ n, n = xs.length := ⟨_, rfl⟩
  rw [← hn]
  have HN := hide hn
  have hnb : n ≤ 100000 := by omega
  clear hS hn
  go_enter Tryd.func15, Tryd.ntmps15
  go_wp2
  go_loopw [3, 4] (fun v i wr => ∃ k : Nat, k ≤ n ∧ i = .int .i64 k ∧ wr.ownsRow w.heap.size 55 2 v (xs.take k).length (pci (xs.take k)) ∧ Below w.heap.size w wr) (fun _ i _ => n - (intOf i).toNat)
  case atStart => exact ⟨0, Nat.zero_le _, rfl, World.ownsRow_nil _ _ _ _, Below.refl _ _⟩
  case round =>
    obtain ⟨k, hk, rfl, hrow, hB⟩ := hrel
    by_cases hlt : k < n
    · have hlt' : k < xs.length := by rw [← unhide HN]; exact hlt
      have q1 : (k : Int) < (n : Int) := by omega
      obtain ⟨g, o, rfl, c1, c2⟩ := unhide HS k hlt'
      have c1 := cell_below c1 hB
      have c2 := cell_below c2 hB
      have HT : Hid (xs.take (k + 1) = xs.take k ++ [xs[k]]) := List.take_succ_eq_append_getElem hlt'
      have hlen : (xs.take k).length ≤ 100000 := by rw [List.length_take]; omega
      obtain ⟨⟨x1, x2⟩, hxe⟩ : ∃ x, xs[k] = x := ⟨_, rfl⟩
      rw [hxe] at c1 c2 HT
      simp only at c1 c2
      obtain ⟨ao, cap, rfl⟩ := own_form2 hrow
      have HROW := hide hrow
      have HB := hide hB
      have HXE := hide hxe
      have HN2 : Hid (∀ j u, [Value.int .i64 x1, Value.int .i64 x2][j]? = some u → (wr.alloc (.cells #[.int .i64 x1, .int .i64 x2] 55)).cell? ((⟨wr.heap.size, 0, none⟩ : Addr).add j) = some u) := news_lit wr [_, _] _
      clear hrow hB hxe
      generalize hLL : (xs.take k).length = LL at *
      have HLL := hide hLL
      clear hLL
      go_wp2_with (at_builtin; refine wpList_append_own _ rfl _ _ 27 rfl w.heap.size 55 i0 (.agg #[.int .i64 0, .int .i64 0]) 2 16 Tryd.undR hi hz0 hz1 hz2 rfl (by decide) _ _ _ rfl (unhide HROW |>.alloc _) ⟨wr.heap.size, 0, none⟩ 1 1 [.int .i64 x1, .int .i64 x2] rfl rfl (unhide HN2) (by intro u hu; simp at hu; rcases hu with rfl | rfl <;> rfl) (by unfold maxLen; omega) (by omega) (by have := (unhide HB).size; simp; omega) ?_; intro v' w1 hown' hgrow _; obtain ⟨ao', cap', rfl⟩ := own_form2 hown')
      have HB2 := hide (((unhide HB).alloc (unhide HB).size _).grown hgrow (by have := (unhide HB).size; simp; omega) (fun g e => own_ge (unhide HROW) e))
      go_roundw
      case rel => exact ⟨k + 1, by omega, by go_num, by rw [unhide HT, List.length_append, unhide HLL, pci_append]; exact hown', unhide HB2⟩
      case measure => simp [intOf]; omega
    · have q1 : ¬ (k : Int) < (n : Int) := by omega
      have hke : k = xs.length := by have := unhide HN; omega
      rw [hke, List.take_length] at hrow
      have HROW := hide hrow
      have HB := hide hB
      obtain ⟨ao, cap, rfl⟩ := own_form2 hrow
      clear hrow hB hke
      go_wp2
      go_ret
      exact ⟨_, rfl, unhide HROW, unhide HB⟩
set_option maxRecDepth 100000 in
set_option maxHeartbeats 4000000 in
theorem same_spans (xs ys : List (Int × Int)) (a0 b0 : Option Addr) (c d : Nat) (w : World) (hA : SpR w a0 xs) (hB : SpR w b0 ys) (hx : xs.length ≤ 100000) (hy : ys.length ≤ 100000) : Calls Tryd.prog 16 #[.slice a0 xs.length c, .slice b0 ys.length d] w fun e w' => e = .returned (.bool (decide (xs = ys))) ∧ Below w.heap.size w w' := by
  by_cases hl : xs.length = ys.length
  · have HA := hide hA
    have HB := hide hB
    generalize hE : decide (xs = ys) = E
    have HE := hide hE
    obtain ⟨n, hn⟩ : ∃ n, n = xs.length := ⟨_, rfl⟩
    rw [← hl, ← hn]
    have HN := hide hn
    have HL := hide hl
    have hnb : n ≤ 100000 := by omega
    clear hA hB hn hl hE hx hy
    go_enter Tryd.func16, Tryd.ntmps16
    go_wp2
    go_loopw [5] (fun i wr => ∃ k : Nat, k ≤ n ∧ i = .int .i64 k ∧ xs.take k = ys.take k ∧ Below w.heap.size w wr) (fun i _ => n - (intOf i).toNat)
    case atStart => exact ⟨0, Nat.zero_le _, rfl, rfl, Below.refl _ _⟩
    case round =>
      obtain ⟨k, hk, rfl, hpre, hBe⟩ := hrel
      by_cases hlt : k < n
      · have hlx : k < xs.length := by rw [← unhide HN]; exact hlt
        have hly : k < ys.length := by rw [← unhide HL]; exact hlx
        have q1 : (k : Int) < (n : Int) := by omega
        obtain ⟨g, o, rfl, s1, s2⟩ := unhide HA k hlx
        obtain ⟨g', o', rfl, s3, s4⟩ := unhide HB k hly
        have c1 := cell_below s1 hBe
        have c2 := cell_below s2 hBe
        have c3 := cell_below s3 hBe
        have c4 := cell_below s4 hBe
        clear s1 s2 s3 s4
        have HTX : Hid (xs.take (k + 1) = xs.take k ++ [xs[k]]) := List.take_succ_eq_append_getElem hlx
        have HTY : Hid (ys.take (k + 1) = ys.take k ++ [ys[k]]) := List.take_succ_eq_append_getElem hly
        have HNE : Hid (xs[k] ≠ ys[k] → E = false) := by
          intro hne
          rw [← unhide HE]
          exact decide_eq_false fun h => hne (by subst h; rfl)
        obtain ⟨⟨x1, x2⟩, hxe⟩ : ∃ x, xs[k] = x := ⟨_, rfl⟩
        obtain ⟨⟨y1, y2⟩, hye⟩ : ∃ y, ys[k] = y := ⟨_, rfl⟩
        rw [hxe] at c1 c2 HTX HNE
        rw [hye] at c3 c4 HTY HNE
        simp only at c1 c2 c3 c4
        have HP := hide hpre
        have HBE := hide hBe
        have hneW := gb_ne wr
        have d1 : ∀ y : Gb wr, y.w.cell? ⟨g, o + k * 2, none⟩ = some (.int .i64 x1) := fun y => gb_cell c1 y
        have d2 : ∀ y : Gb wr, y.w.cell? ⟨g, o + k * 2 + 1, none⟩ = some (.int .i64 x2) := fun y => gb_cell c2 y
        have d3 : ∀ y : Gb wr, y.w.cell? ⟨g', o' + k * 2, none⟩ = some (.int .i64 y1) := fun y => gb_cell c3 y
        have d4 : ∀ y : Gb wr, y.w.cell? ⟨g', o' + k * 2 + 1, none⟩ = some (.int .i64 y2) := fun y => gb_cell c4 y
        clear hxe hye hpre hBe hlx hly c1 c2 c3 c4
        by_cases he : x1 = y1 ∧ x2 = y2
        · obtain ⟨rfl, rfl⟩ := he
          go_wp2_with fail
          refine wp_region_gr (fun x => Below wr.heap.size wr x) (by kernel_rfl) (by kernel_rfl) (gb_start wr) ?_
          repeat (go_big_quiet_step ((fail)))
          refine wpQuiet_nil ?_
          rintro w7 ⟨⟨_, b7⟩, rfl⟩
          have B7 := hide ((unhide HBE).trans (b7.mono (unhide HBE).size))
          clear b7 hneW d1 d2 d3 d4
          go_wp2
          go_roundw
          case rel => exact ⟨k + 1, by omega, by go_num, by rw [unhide HTX, unhide HTY, unhide HP], unhide B7⟩
          case measure => simp [intOf]; omega
        · have hE0 : E = false := unhide HNE (fun h => he (by simpa using h))
          by_cases h1 : x1 = y1
          · subst h1
            have n1 : ¬ x2 = y2 := fun h => he ⟨rfl, h⟩
            have n2 : (x2 == y2) = false := by rw [beq_eq_false_iff_ne]; exact n1
            clear he
            subst hE0
            clear HNE HTX HTY HE
            go_wp2_with fail
            refine wp_region_gr (fun x => Below wr.heap.size wr x) (by kernel_rfl) (by kernel_rfl) (gb_start wr) ?_
            repeat (go_big_quiet_step ((fail)))
            refine wpQuiet_nil ?_
            rintro w7 ⟨⟨_, b7⟩, rfl⟩
            have B7 := hide ((unhide HBE).trans (b7.mono (unhide HBE).size))
            clear b7 hneW d1 d2 d3 d4
            go_wp2
            go_ret
            exact ⟨rfl, unhide B7⟩
          · have n2 : (x1 == y1) = false := by rw [beq_eq_false_iff_ne]; exact h1
            clear he
            subst hE0
            clear HNE HTX HTY HE
            go_wp2_with fail
            refine wp_region_gr (fun x => Below wr.heap.size wr x) (by kernel_rfl) (by kernel_rfl) (gb_start wr) ?_
            repeat (go_big_quiet_step ((fail)))
            refine wpQuiet_nil ?_
            rintro w7 ⟨⟨_, b7⟩, rfl⟩
            have B7 := hide ((unhide HBE).trans (b7.mono (unhide HBE).size))
            clear b7 hneW d1 d2 d3 d4
            go_wp2
            go_ret
            exact ⟨rfl, unhide B7⟩
      · have q1 : ¬ (k : Int) < (n : Int) := by omega
        have hke : k = xs.length := by have := unhide HN; omega
        have hE1 : E = true := by
          rw [← unhide HE]
          refine decide_eq_true ?_
          rw [hke, List.take_length, unhide HL, List.take_length] at hpre
          exact hpre
        subst hE1
        have HBE := hide hBe
        clear hpre hBe hke
        go_wp2
        go_ret
        exact ⟨rfl, unhide HBE⟩
  · have hne : decide (xs = ys) = false := decide_eq_false fun h => hl (by rw [h])
    rw [hne]
    have q1 : ¬ (xs.length : Int) = (ys.length : Int) := by omega
    have q2 : ((xs.length : Int) == (ys.length : Int)) = false := by rw [beq_eq_false_iff_ne]; exact q1
    clear hA hB hne
    generalize xs.length = A at *
    generalize ys.length = B at *
    go_enter Tryd.func16, Tryd.ntmps16
    go_wp2
    go_ret
    exact ⟨rfl, Below.refl _ _⟩
end Go.Proofs.YtbodklppgcloiaaDoor

/- meter: the document's average, and MeterMeans. -/
import Derived.Test.YtiibdlddamcfaaaMeH
namespace Go.Proofs.Ytiibdlddamcfaaa
open Go.RowKit
set_option linter.unusedVariables false
attribute [local go_sem] Oper.semAt_some

set_option maxRecDepth 100000 in
set_option maxHeartbeats 1000000 in
theorem davg_bad0 (a : Int) (l : List Int) (a0 : Option Addr) (c : Nat) (w : World) (h : ¬ isRt a) :
    Calls Try.prog 30 #[.int .i64 a, .slice a0 l.length c] w fun e w' => e = .returned (.tuple #[.int .i64 0, .int .i64 1]) ∧ w = w' := by
  generalize l.length = m at *
  unfold isRt at h
  by_cases h0 : a < 0
  · clear h
    go_enter Try.func30, Try.ntmps30
    go_wp2
    go_ret2
    exact ⟨rfl, rfl⟩
  · have h1 : 1099511627776 < a := by omega
    clear h
    go_enter Try.func30, Try.ntmps30
    go_wp2
    go_ret2
    exact ⟨rfl, rfl⟩
set_option maxRecDepth 100000 in
set_option maxHeartbeats 1000000 in
theorem davg_any (a : Int) (l : List Int) (a0 : Option Addr) (c : Nat) (w : World) (hl : l.length ≤ 100) (hI : Ints w a0 l) (ha : isRt a) :
    Calls Try.prog 30 #[.int .i64 a, .slice a0 l.length c] w fun e w' => (((∀ r ∈ l, isRt r) ∧ e = .returned (.tuple #[.int .i64 (avgL a l), .int .i64 0])) ∨ ((∃ r, r ∈ l ∧ ¬ isRt r) ∧ e = .returned (.tuple #[.int .i64 0, .int .i64 1]))) ∧ w = w' := by
  have HI := hide hI
  have HA := hide ha
  have h0 : ¬ a < 0 := by have := ha.1; omega
  have h1 : ¬ 1099511627776 < a := by have := ha.2; omega
  generalize hm : l.length = m at *
  have HM := hide hm
  clear hI hm ha
  go_enter Try.func30, Try.ntmps30
  go_wp2_with fail
  go_loopw [6] (fun iv wr => w = wr ∧ ∃ (k : Nat), k ≤ m ∧ iv = .int .i64 k ∧ (∀ r ∈ l.take k, isRt r)) (fun iv _ => m - (intOf iv).toNat)
  case atStart => exact ⟨rfl, 0, by omega, rfl, by simp⟩
  case round =>
    obtain ⟨rfl, k, hk, rfl, hr⟩ := hrel
    have HR := hide hr
    clear hr
    by_cases hlt : k < m
    · have hlt' : k < l.length := by rw [unhide HM]; exact hlt
      obtain ⟨g, o, rfl, c0⟩ := unhide HI k hlt'
      obtain ⟨r, hr⟩ : ∃ r, l[k] = r := ⟨_, rfl⟩
      rw [hr] at c0
      have q1 : (k : Int) < m := by omega
      by_cases h2 : isRt r
      · have hr2 : Hid (∀ r ∈ l.take (k + 1), isRt r) := by
          intro x hx
          rw [List.take_succ_eq_append_getElem hlt', List.mem_append] at hx
          rcases hx with hx | hx
          · exact unhide HR x hx
          · simp at hx; rw [hx, hr]; exact h2
        have hr0 : ¬ r < 0 := by have := h2.1; omega
        have hr1 : ¬ 1099511627776 < r := by have := h2.2; omega
        clear hlt' hr h2
        go_wp2
        go_roundw
        case rel => exact ⟨trivial, k + 1, by omega, by go_num, unhide hr2⟩
        case measure => simp [intOf]; omega
      · have hex : Hid (∃ r, r ∈ l ∧ ¬ isRt r) := ⟨r, by rw [← hr]; exact List.getElem_mem hlt', h2⟩
        unfold isRt at h2
        by_cases h3 : r < 0
        · clear hlt' hr h2
          go_wp2
          go_ret2
          exact ⟨.inr ⟨unhide hex, rfl⟩, rfl⟩
        · have h4 : 1099511627776 < r := by omega
          clear hlt' hr h2
          go_wp2
          go_ret2
          exact ⟨.inr ⟨unhide hex, rfl⟩, rfl⟩
    · have hkm : k = m := by omega
      have q1 : ¬ (k : Int) < m := by omega
      have hall : l.take k = l := List.take_of_length_le (by rw [unhide HM]; omega)
      have e2 : Hid (∀ r ∈ l, isRt r) := by have := unhide HR; rw [hall] at this; exact this
      clear hall HR hkm
      go_wp2_with fail
      go_loopw [0, 7] (fun av iv wr => w = wr ∧ ∃ (k : Nat) (z : Int), k ≤ m ∧ iv = .int .i64 k ∧ av = .int .i64 z ∧ z = avgL a (l.take k)) (fun _ iv _ => m - (intOf iv).toNat)
      case atStart => exact ⟨rfl, 0, a, by omega, rfl, rfl, rfl⟩
      case round =>
        obtain ⟨rfl, k, z, hk, rfl, rfl, hz⟩ := hrel
        have hzr : isRt z := by rw [hz]; exact avgL_in _ _ (unhide HA) (fun r hr => unhide e2 r (List.mem_of_mem_take hr))
        have hz0 := hzr.1
        have hz1 := hzr.2
        have HZ := hide hz
        clear hz
        by_cases hlt : k < m
        · have hlt' : k < l.length := by rw [unhide HM]; exact hlt
          obtain ⟨g, o, rfl, c0⟩ := unhide HI k hlt'
          obtain ⟨r, hr⟩ : ∃ r, l[k] = r := ⟨_, rfl⟩
          rw [hr] at c0
          have q2 : (k : Int) < m := by omega
          have h1 : isRt r := by rw [← hr]; exact unhide e2 _ (List.getElem_mem hlt')
          obtain ⟨y, hy⟩ : ∃ y, (7 * z + r).tdiv 8 = y := ⟨_, rfl⟩
          have hy2 : Hid (y = avgL a (l.take (k + 1))) := by
            show _ = _
            rw [List.take_succ_eq_append_getElem hlt', avgL_snoc, hr, ← unhide HZ, ← hy]
            rfl
          have hr0 : 0 ≤ r := h1.1
          have hr1 : r ≤ 1099511627776 := h1.2
          have hyr : isRt y := by
            rw [← hy]; exact (avg1_in hzr h1).1
          have hy0 : 0 ≤ y := hyr.1
          have hy1 : y ≤ 1099511627776 := hyr.2
          clear hlt' hr h1 hzr hyr
          go_wp2
          go_roundw
          case rel => exact ⟨trivial, k + 1, y, by omega, by go_num, rfl, unhide hy2⟩
          case measure => simp [intOf]; omega
        · have hkm : k = m := by omega
          have q2 : ¬ (k : Int) < m := by omega
          have hall : l.take k = l := List.take_of_length_le (by rw [unhide HM]; omega)
          have e1 : Hid (z = avgL a l) := by have := unhide HZ; rw [hall] at this; exact this
          clear hall hzr
          go_wp2
          go_ret2
          exact ⟨.inl ⟨unhide e2, by rw [← unhide e1]; rfl⟩, rfl⟩

set_option maxRecDepth 100000 in
set_option maxHeartbeats 2000000 in
theorem meterMeans_any (a : Int) (l : List Int) (a0 : Option Addr) (c : Nat) (w : World) (hI : Ints w a0 l) (hc : IntsOk l c) :
    Calls Try.prog 8 #[.int .i64 a, .slice a0 l.length c] w fun e w' => e = .returned (.bool true) ∧ Below w.heap.size w w' := by
  by_cases hl : l.length ≤ 100
  · by_cases ha : isRt a
    · have g1 := hide (avg_any a l a0 c w hl hI ha)
      have g2 := hide (davg_any a l a0 c w hl hI ha)
      have HI := hide hI
      have HA := hide ha
      generalize hm : l.length = m at *
      have HM := hide hm
      have q0 : ¬ (100 : Int) < m := by omega
      clear hI hm hc ha
      go_enter Try.func8, Try.ntmps8
      go_wp2_with fail
      refine (unhide g1).mono ?_
      rintro e w1 ⟨h1, rfl⟩
      rcases h1 with ⟨hall, rfl⟩ | ⟨hex, rfl⟩
      · have HALL := hide hall
        have HMID := hide (avgL_mid l a (unhide HA) hall)
        have hzr := avgL_in l a (unhide HA) hall
        generalize hz : avgL a l = z at *
        have HZ := hide hz
        clear hall hz
        go_wp2_with fail
        refine (unhide g2).mono ?_
        rintro e w1 ⟨h1, rfl⟩
        rcases h1 with ⟨_, rfl⟩ | ⟨⟨r, hr, hn⟩, rfl⟩
        · go_wp2_with fail
          go_loopw [9, 10, 11] (fun lv hv iv wr => w = wr ∧ ∃ (k : Nat) (lo hi : Int), k ≤ m ∧ iv = .int .i64 k ∧ lv = .int .i64 lo ∧ hv = .int .i64 hi ∧ lo = (l.take k).foldl min a ∧ hi = (l.take k).foldl max a) (fun _ _ iv _ => m - (intOf iv).toNat)
          case atStart => exact ⟨rfl, 0, a, a, by omega, rfl, rfl, rfl, rfl, rfl⟩
          case round =>
            obtain ⟨rfl, k, lo, hi, hk, rfl, rfl, rfl, hlo, hhi⟩ := hrel
            have HLO := hide hlo
            have HHI := hide hhi
            clear hlo hhi
            by_cases hlt : k < m
            · have hlt' : k < l.length := by rw [unhide HM]; exact hlt
              obtain ⟨g, o, rfl, c0⟩ := unhide HI k hlt'
              obtain ⟨r, hr⟩ : ∃ r, l[k] = r := ⟨_, rfl⟩
              rw [hr] at c0
              have q2 : (k : Int) < m := by omega
              have h2 : Hid (min lo r = (l.take (k + 1)).foldl min a ∧ max hi r = (l.take (k + 1)).foldl max a) := by
                show _ ∧ _
                rw [List.take_succ_eq_append_getElem hlt', List.foldl_append, List.foldl_append, ← unhide HLO, ← unhide HHI, hr]
                exact ⟨rfl, rfl⟩
              clear hlt' hr
              go_wp2
              go_roundw
              case rel => exact ⟨trivial, k + 1, _, _, by omega, by go_num, rfl, rfl, (unhide h2).1, (unhide h2).2⟩
              case measure => simp [intOf]; omega
            · have hkm : k = m := by omega
              have q2 : ¬ (k : Int) < m := by omega
              have hall : l.take k = l := List.take_of_length_le (by rw [unhide HM]; omega)
              have e1 : lo ≤ z := by have h := unhide HMID; rw [unhide HLO, hall]; exact h.1
              have e2 : z ≤ hi := by have h := unhide HMID; rw [unhide HHI, hall]; exact h.2
              clear hall hzr
              go_wp2_with fail
              refine (mawake_any w).mono ?_
              rintro e w2 ⟨rfl, hb⟩
              have HB := hide hb
              clear hb
              go_wp2
              go_ret
              exact ⟨rfl, unhide HB⟩
        · exact absurd (unhide HALL r hr) hn
      · obtain ⟨r, hr, hn⟩ := hex
        have HN := hide (show ¬ ∀ r ∈ l, isRt r from fun h => hn (h r hr))
        clear hr hn
        go_wp2_with fail
        refine (unhide g2).mono ?_
        rintro e w1 ⟨h1, rfl⟩
        rcases h1 with ⟨h1, rfl⟩ | ⟨_, rfl⟩
        · exact absurd h1 (unhide HN)
        · go_wp2_with fail
          refine (mawake_any w).mono ?_
          rintro e w2 ⟨rfl, hb⟩
          have HB := hide hb
          clear hb
          go_wp2
          go_ret
          exact ⟨rfl, unhide HB⟩
    · have g1 := hide (avg_bad0 a l a0 c w ha)
      have g2 := hide (davg_bad0 a l a0 c w ha)
      generalize l.length = m at *
      have q0 : ¬ (100 : Int) < m := by omega
      clear hI hc ha
      go_enter Try.func8, Try.ntmps8
      go_wp2_with fail
      refine (unhide g1).mono ?_
      rintro e w1 ⟨rfl, rfl⟩
      go_wp2_with fail
      refine (unhide g2).mono ?_
      rintro e w1 ⟨rfl, rfl⟩
      go_wp2_with fail
      refine (mawake_any w).mono ?_
      rintro e w2 ⟨rfl, hb⟩
      have HB := hide hb
      clear hb
      go_wp2
      go_ret
      exact ⟨rfl, unhide HB⟩
  · generalize l.length = m at *
    have q0 : (100 : Int) < m := by omega
    clear hI hc
    go_enter Try.func8, Try.ntmps8
    go_wp2_with fail
    refine (mawake_any w).mono ?_
    rintro e w2 ⟨rfl, hb⟩
    have HB := hide hb
    clear hb
    go_wp2
    go_ret
    exact ⟨rfl, unhide HB⟩
end Go.Proofs.Ytiibdlddamcfaaa

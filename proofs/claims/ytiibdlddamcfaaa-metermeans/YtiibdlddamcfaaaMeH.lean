/- meter: the average, and MeterMeans. -/
import Derived.Test.YtiibdlddamcfaaaMeG
namespace Go.Proofs.Ytiibdlddamcfaaa
open Go.RowKit
set_option linter.unusedVariables false
attribute [local go_sem] Oper.semAt_some

/-- a rate -/
def isRt (x : Int) : Prop := 0 ≤ x ∧ x ≤ 1099511627776
def avg1 (a r : Int) : Int := (7 * a + r).tdiv 8
def avgL (a : Int) (l : List Int) : Int := l.foldl avg1 a
def avgOk (a : Int) (l : List Int) : Prop := isRt a ∧ ∀ r ∈ l, isRt r
def avgV (a : Int) (l : List Int) (ok : Bool) : Int := if ok then avgL a l else 0
theorem avg1_in {a r : Int} (ha : isRt a) (hr : isRt r) : isRt (avg1 a r) ∧ min a r ≤ avg1 a r ∧ avg1 a r ≤ max a r := by
  unfold isRt at *
  unfold avg1
  rw [Int.tdiv_eq_ediv_of_nonneg (by omega)]
  omega
theorem avgL_in (l : List Int) : ∀ a, isRt a → (∀ r ∈ l, isRt r) → isRt (avgL a l) := by
  induction l with
  | nil => intro a ha _; exact ha
  | cons r l ih => intro a ha h; exact ih _ (avg1_in ha (h r (by simp))).1 (fun x hx => h x (by simp [hx]))
theorem avgL_snoc (a : Int) (l : List Int) (r : Int) : avgL a (l ++ [r]) = avg1 (avgL a l) r := by unfold avgL; simp
theorem fold_min_mono (l : List Int) : ∀ a b : Int, a ≤ b → l.foldl min a ≤ l.foldl min b := by
  induction l with
  | nil => intro a b h; exact h
  | cons r l ih => intro a b h; exact ih _ _ (by omega)
theorem fold_max_mono (l : List Int) : ∀ a b : Int, a ≤ b → l.foldl max a ≤ l.foldl max b := by
  induction l with
  | nil => intro a b h; exact h
  | cons r l ih => intro a b h; exact ih _ _ (by omega)
theorem avgL_mid (l : List Int) : ∀ a, isRt a → (∀ r ∈ l, isRt r) → l.foldl min a ≤ avgL a l ∧ avgL a l ≤ l.foldl max a := by
  induction l with
  | nil => intro a _ _; exact ⟨Int.le_refl _, Int.le_refl _⟩
  | cons r l ih =>
    intro a ha h
    have h1 := avg1_in ha (h r (by simp))
    have h2 := ih _ h1.1 (fun x hx => h x (by simp [hx]))
    exact ⟨Int.le_trans (fold_min_mono l _ _ h1.2.1) h2.1, Int.le_trans h2.2 (fold_max_mono l _ _ h1.2.2)⟩

set_option maxRecDepth 100000 in
set_option maxHeartbeats 1000000 in
theorem avg_bad0 (a : Int) (l : List Int) (a0 : Option Addr) (c : Nat) (w : World) (h : ¬ isRt a) :
    Calls Try.prog 29 #[.int .i64 a, .slice a0 l.length c] w fun e w' => e = .returned (.tuple #[.int .i64 0, .int .i64 1]) ∧ w = w' := by
  have g1 := hide (isFrom_no 0 a 1099511627776 w h)
  generalize l.length = m at *
  clear h
  go_enter Try.func29, Try.ntmps29
  go_wp2_with fail
  refine (unhide g1).mono ?_
  rintro e w1 ⟨rfl, rfl⟩
  go_wp2
  go_ret2
  exact ⟨rfl, rfl⟩
set_option maxRecDepth 100000 in
set_option maxHeartbeats 1000000 in
theorem avg_any (a : Int) (l : List Int) (a0 : Option Addr) (c : Nat) (w : World) (hl : l.length ≤ 100) (hI : Ints w a0 l) (ha : isRt a) :
    Calls Try.prog 29 #[.int .i64 a, .slice a0 l.length c] w fun e w' => (((∀ r ∈ l, isRt r) ∧ e = .returned (.tuple #[.int .i64 (avgL a l), .int .i64 0])) ∨ ((∃ r, r ∈ l ∧ ¬ isRt r) ∧ e = .returned (.tuple #[.int .i64 0, .int .i64 1]))) ∧ w = w' := by
  have g1 := hide (isFrom_yes 0 a 1099511627776 w ha)
  have g2 := hide (fun r h => isFrom_yes 0 r 1099511627776 w h)
  have g3 := hide (fun r h => isFrom_no 0 r 1099511627776 w h)
  have HI := hide hI
  have HA := hide ha
  generalize hm : l.length = m at *
  have HM := hide hm
  clear hI hm ha
  go_enter Try.func29, Try.ntmps29
  go_wp2_with fail
  refine (unhide g1).mono ?_
  rintro e w1 ⟨rfl, rfl⟩
  go_wp2_with fail
  go_loopw [0, 13] (fun av iv wr => w = wr ∧ ∃ (k : Nat) (z : Int), k ≤ m ∧ iv = .int .i64 k ∧ av = .int .i64 z ∧ z = avgL a (l.take k) ∧ (∀ r ∈ l.take k, isRt r)) (fun _ iv _ => m - (intOf iv).toNat)
  case atStart => exact ⟨rfl, 0, a, by omega, rfl, rfl, rfl, by simp⟩
  case round =>
    obtain ⟨rfl, k, z, hk, rfl, rfl, hz, hr⟩ := hrel
    have hzr : isRt z := by rw [hz]; exact avgL_in _ _ (unhide HA) hr
    have hz0 := hzr.1
    have hz1 := hzr.2
    have HZ := hide hz
    have HR := hide hr
    clear hz hr
    by_cases hlt : k < m
    · have hlt' : k < l.length := by rw [unhide HM]; exact hlt
      obtain ⟨g, o, rfl, c0⟩ := unhide HI k hlt'
      obtain ⟨r, hr⟩ : ∃ r, l[k] = r := ⟨_, rfl⟩
      rw [hr] at c0
      have q1 : (k : Int) < m := by omega
      by_cases h1 : isRt r
      · have c1 := hide (unhide g2 r h1)
        obtain ⟨y, hy⟩ : ∃ y, (7 * z + r).tdiv 8 = y := ⟨_, rfl⟩
        have hy2 : Hid (y = avgL a (l.take (k + 1))) := by
          show _ = _
          rw [List.take_succ_eq_append_getElem hlt', avgL_snoc, hr, ← unhide HZ, ← hy]
          rfl
        have hr2 : Hid (∀ r ∈ l.take (k + 1), isRt r) := by
          intro x hx
          rw [List.take_succ_eq_append_getElem hlt', List.mem_append] at hx
          rcases hx with hx | hx
          · exact unhide HR x hx
          · simp at hx; rw [hx, hr]; exact h1
        have hr0 : 0 ≤ r := h1.1
        have hr1 : r ≤ 1099511627776 := h1.2
        have hyr : isRt y := by
          rw [← hy]; exact (avg1_in hzr h1).1
        have hy0 : 0 ≤ y := hyr.1
        have hy1 : y ≤ 1099511627776 := hyr.2
        clear hlt' hr h1 hzr hyr
        go_wp2_with fail
        refine (unhide c1).mono ?_
        rintro e w1 ⟨rfl, rfl⟩
        go_wp2
        go_roundw
        case rel => exact ⟨trivial, k + 1, y, by omega, by go_num, rfl, unhide hy2, unhide hr2⟩
        case measure => simp [intOf]; omega
      · have c1 := hide (unhide g3 r h1)
        have hex : Hid (∃ r, r ∈ l ∧ ¬ isRt r) := ⟨r, by rw [← hr]; exact List.getElem_mem hlt', h1⟩
        clear hlt' hr h1 hzr
        go_wp2_with fail
        refine (unhide c1).mono ?_
        rintro e w1 ⟨rfl, rfl⟩
        go_wp2
        go_ret2
        exact ⟨.inr ⟨unhide hex, rfl⟩, rfl⟩
    · have hkm : k = m := by omega
      have q1 : ¬ (k : Int) < m := by omega
      have hall : l.take k = l := List.take_of_length_le (by rw [unhide HM]; omega)
      have e1 : Hid (z = avgL a l) := by have := unhide HZ; rw [hall] at this; exact this
      have e2 : Hid (∀ r ∈ l, isRt r) := by have := unhide HR; rw [hall] at this; exact this
      clear hall hzr
      go_wp2
      go_ret2
      exact ⟨.inl ⟨unhide e2, by rw [← unhide e1]; rfl⟩, rfl⟩
end Go.Proofs.Ytiibdlddamcfaaa

/- meter: bounds, and buckets. -/
import Derived.Test.YtpaecblgilepoaaTxtI
import Derived.Test.YtpaecblgilepoaaTwo
import Derived.BigRegion
namespace Go.Proofs.Ytpaecblgilepoaa
open Go.RowKit
set_option linter.unusedVariables false
attribute [local go_sem] Oper.semAt_some

set_option maxRecDepth 100000 in
theorem isFrom_any (a n b : Int) (w : World) :
    Calls Try.prog 31 #[.int .i64 a, .int .i64 n, .int .i64 b] w fun e w' => e = .returned (.bool (decide (a ≤ n ∧ n ≤ b))) ∧ w = w' := by
  by_cases h1 : a ≤ n
  · by_cases h2 : n ≤ b
    · rw [decide_eq_true (⟨h1, h2⟩ : a ≤ n ∧ n ≤ b)]
      have d1 := decide_eq_true h1
      have d2 := decide_eq_true h2
      go_enter Try.func31, Try.ntmps31
      go_wp2
      go_ret
      exact ⟨rfl, rfl⟩
    · rw [decide_eq_false (fun h : a ≤ n ∧ n ≤ b => h2 h.2)]
      have d1 := decide_eq_true h1
      have d2 := decide_eq_false h2
      go_enter Try.func31, Try.ntmps31
      go_wp2
      go_ret
      exact ⟨rfl, rfl⟩
  · rw [decide_eq_false (fun h : a ≤ n ∧ n ≤ b => h1 h.1)]
    have d1 := decide_eq_false h1
    go_enter Try.func31, Try.ntmps31
    go_wp2
    go_ret
    exact ⟨rfl, rfl⟩
theorem isFrom_yes (a n b : Int) (w : World) (h : a ≤ n ∧ n ≤ b) :
    Calls Try.prog 31 #[.int .i64 a, .int .i64 n, .int .i64 b] w fun e w' => e = .returned (.bool true) ∧ w = w' := by
  have := isFrom_any a n b w
  rwa [decide_eq_true h] at this
theorem isFrom_no (a n b : Int) (w : World) (h : ¬ (a ≤ n ∧ n ≤ b)) :
    Calls Try.prog 31 #[.int .i64 a, .int .i64 n, .int .i64 b] w fun e w' => e = .returned (.bool false) ∧ w = w' := by
  have := isFrom_any a n b w
  rwa [decide_eq_false h] at this

theorem Kept.drew {B b : Nat} {w w' : World} (h : Kept B b w w') : Kept B b w w'.drew := ⟨h.os, h.tape, h.output, h.size, h.block⟩
/-- block b is a bucket -/
def Bk (w : World) (b : Nat) (r s l : Int) : Prop := w.heap[b]? = some (.cells #[.int .i64 r, .int .i64 s, .int .i64 l] 74 (0, 0))
theorem Bk.c0 {w : World} {b : Nat} {r s l : Int} (h : Bk w b r s l) : w.cell? ⟨b, 0, none⟩ = some (.int .i64 r) := by unfold Bk at h; simp [World.cell?, h]
theorem Bk.c1 {w : World} {b : Nat} {r s l : Int} (h : Bk w b r s l) : w.cell? ⟨b, 1, none⟩ = some (.int .i64 s) := by unfold Bk at h; simp [World.cell?, h]
theorem Bk.c2 {w : World} {b : Nat} {r s l : Int} (h : Bk w b r s l) : w.cell? ⟨b, 2, none⟩ = some (.int .i64 l) := by unfold Bk at h; simp [World.cell?, h]
theorem Bk.free {w : World} {b : Nat} {r s l : Int} (h : Bk w b r s l) (j : Nat) : w.frozen? ⟨b, j, none⟩ = false := by unfold Bk at h; simp [World.frozen?, h]
theorem Bk.set {w : World} {b : Nat} {r s l : Int} (h : Bk w b r s l) (x : Int) : Bk (w.setCell ⟨b, 2, none⟩ (.int .i64 x)) b r s x := heap_setCell_same w b 2 _ _ _ h
theorem Bk.lt {w : World} {b : Nat} {r s l : Int} (h : Bk w b r s l) : b < w.heap.size := lt_of_block h
theorem Bk.up {w w' : World} {b : Nat} {r s l : Int} (h : Bk w b r s l) (hb : Below w.heap.size w w') : Bk w' b r s l := (hb.block b h.lt).trans h
theorem Bk.kept {w w' : World} {b b' : Nat} {r s l : Int} (h : Bk w b r s l) (hb : Kept w.heap.size b' w w') (hn : b ≠ b') : Bk w' b r s l := (hb.block b h.lt hn).trans h

/-- a bucket's numbers may be -/
def bkOk (r s : Int) : Prop := 1 ≤ r ∧ r ≤ 65536 ∧ 1 ≤ s ∧ s ≤ 65536

set_option maxRecDepth 100000 in
theorem newBucket_no (r s : Int) (w : World) (h : ¬ bkOk r s) :
    Calls Try.prog 9 #[.int .i64 r, .int .i64 s] w fun e w' => e = .returned (.pointer none) ∧ w = w' := by
  by_cases h1 : 1 ≤ r ∧ r ≤ 65536
  · have h2 : ¬ (1 ≤ s ∧ s ≤ 65536) := fun h2 => h ⟨h1.1, h1.2, h2.1, h2.2⟩
    have g1 := hide (isFrom_yes 1 r 65536 w h1)
    have g2 := hide (isFrom_no 1 s 65536 w h2)
    clear h h1 h2
    go_enter Try.func9, Try.ntmps9
    go_wp2_with fail
    refine (unhide g1).mono ?_
    rintro e w1 ⟨rfl, rfl⟩
    go_wp2_with fail
    refine (unhide g2).mono ?_
    rintro e w1 ⟨rfl, rfl⟩
    go_wp2
    go_ret
    exact ⟨rfl, rfl⟩
  · have g1 := hide (isFrom_no 1 r 65536 w h1)
    clear h h1
    go_enter Try.func9, Try.ntmps9
    go_wp2_with fail
    refine (unhide g1).mono ?_
    rintro e w1 ⟨rfl, rfl⟩
    go_wp2
    go_ret
    exact ⟨rfl, rfl⟩
set_option maxRecDepth 100000 in
theorem newBucket_yes (r s : Int) (w : World) (h : bkOk r s) :
    Calls Try.prog 9 #[.int .i64 r, .int .i64 s] w fun e w' => e = .returned (.pointer (some ⟨w.heap.size, 0, none⟩)) ∧ Bk w' w.heap.size r s s ∧ Below w.heap.size w w' ∧ w.heap.size < w'.heap.size := by
  have g1 := hide (isFrom_yes 1 r 65536 w ⟨h.1, h.2.1⟩)
  have g2 := hide (isFrom_yes 1 s 65536 w h.2.2)
  clear h
  go_enter Try.func9, Try.ntmps9
  go_wp2_with fail
  refine (unhide g1).mono ?_
  rintro e w1 ⟨rfl, rfl⟩
  go_wp2_with fail
  refine (unhide g2).mono ?_
  rintro e w1 ⟨rfl, rfl⟩
  go_wp2
  go_ret
  exact ⟨rfl, heap_alloc_new _ _, (Below.refl _ _).alloc (Nat.le_refl _) _, by simp⟩

/-- a tick -/
def tickL (r s l : Int) : Int := min (l + r) s
set_option maxRecDepth 100000 in
set_option maxHeartbeats 1000000 in
theorem tick_any (r s l : Int) (b : Nat) (w : World) (hr : 0 ≤ r ∧ r ≤ 65536) (hs : 0 ≤ s ∧ s ≤ 65536) (hl : 0 ≤ l ∧ l ≤ 65536) (h : Bk w b r s l) :
    Calls Try.prog 11 #[.pointer (some ⟨b, 0, none⟩)] w fun e w' => e = .returned (.tuple #[]) ∧ Bk w' b r s (tickL r s l) ∧ Kept w.heap.size b w w' := by
  have c0 := h.c0
  have c1 := h.c1
  have c2 := h.c2
  have f2 := h.free 2
  have HH := hide h
  clear h
  unfold tickL
  by_cases q : l + r ≤ s
  · have q2 : min (l + r) s = l + r := by omega
    have q3 : decide (l + r ≤ s) = true := decide_eq_true q
    rw [q2]
    go_enter Try.func11, Try.ntmps11
    go_wp2
    go_region
    go_wp2
    go_end0
    exact ⟨rfl, (unhide HH).set _, (kept_set _ _ _ _ _).drew⟩
  · have q2 : min (l + r) s = s := by omega
    have q3 : decide (l + r ≤ s) = false := decide_eq_false q
    rw [q2]
    go_enter Try.func11, Try.ntmps11
    go_wp2
    go_region
    go_wp2
    go_end0
    exact ⟨rfl, (unhide HH).set _, (kept_set _ _ _ _ _).drew⟩

/-- what Take answers, and the level behind it -/
def takeE (s l n : Int) : Int := if n < 0 then 1 else if s < n then 8 else if l < n then 6 else 0
def takeL (s l n : Int) : Int := if takeE s l n = 0 then l - n else l
theorem takeE_0 {s l n : Int} (h : takeE s l n = 0) : 0 ≤ n ∧ n ≤ s ∧ n ≤ l := by
  unfold takeE at h
  split at h
  · cases h
  · split at h
    · cases h
    · split at h
      · cases h
      · omega
theorem takeL_in {s l n : Int} (hl : 0 ≤ l ∧ l ≤ s) : 0 ≤ takeL s l n ∧ takeL s l n ≤ s := by
  unfold takeL
  split
  · rename_i h
    have := takeE_0 h
    omega
  · omega
theorem tickL_in {r s l : Int} (hr : 0 ≤ r) (hl : 0 ≤ l ∧ l ≤ s) : 0 ≤ tickL r s l ∧ tickL r s l ≤ s := by unfold tickL; omega
set_option maxRecDepth 100000 in
set_option maxHeartbeats 1000000 in
theorem take_any (r s l n : Int) (b : Nat) (w : World) (hs : 0 ≤ s ∧ s ≤ 65536) (hl : 0 ≤ l ∧ l ≤ 65536) (h : Bk w b r s l) :
    Calls Try.prog 14 #[.pointer (some ⟨b, 0, none⟩), .int .i64 n] w fun e w' => e = .returned (.int .i64 (takeE s l n)) ∧ Bk w' b r s (takeL s l n) ∧ Kept w.heap.size b w w' := by
  have c1 := h.c1
  have c2 := h.c2
  have f2 := h.free 2
  have HH := hide h
  clear h
  unfold takeL takeE
  by_cases q0 : n < 0
  · rw [if_pos q0, if_neg (by decide)]
    go_enter Try.func14, Try.ntmps14
    go_wp2
    go_ret
    exact ⟨rfl, unhide HH, Kept.refl _ _ _⟩
  · rw [if_neg q0]
    by_cases q1 : s < n
    · rw [if_pos q1, if_neg (by decide)]
      go_enter Try.func14, Try.ntmps14
      go_wp2
      go_ret
      exact ⟨rfl, unhide HH, Kept.refl _ _ _⟩
    · rw [if_neg q1]
      by_cases q2 : l < n
      · rw [if_pos q2, if_neg (by decide)]
        go_enter Try.func14, Try.ntmps14
        go_wp2
        go_ret
        exact ⟨rfl, unhide HH, Kept.refl _ _ _⟩
      · rw [if_neg q2, if_pos rfl]
        go_enter Try.func14, Try.ntmps14
        go_wp2
        go_ret
        exact ⟨rfl, (unhide HH).set _, kept_set _ _ _ _ _⟩
set_option maxRecDepth 100000 in
theorem level_any (r s l : Int) (b : Nat) (w : World) (h : Bk w b r s l) :
    Calls Try.prog 17 #[.pointer (some ⟨b, 0, none⟩)] w fun e w' => e = .returned (.int .i64 l) ∧ w = w' := by
  have c2 := h.c2
  clear h
  go_enter Try.func17, Try.ntmps17
  go_wp2
  go_ret
  exact ⟨rfl, rfl⟩
/-- what Wait answers -/
def waitN (r s l n : Int) : Int := if s < n then -1 else if n ≤ l then 0 else (n - l + r - 1).tdiv r
set_option maxRecDepth 100000 in
set_option maxHeartbeats 1000000 in
theorem wait_any (r s l n : Int) (b : Nat) (w : World) (hr : 1 ≤ r ∧ r ≤ 65536) (hs : 0 ≤ s ∧ s ≤ 65536) (hl : 0 ≤ l ∧ l ≤ 65536) (h : Bk w b r s l) :
    Calls Try.prog 15 #[.pointer (some ⟨b, 0, none⟩), .int .i64 n] w fun e w' => e = .returned (.int .i64 (waitN r s l n)) ∧ Below w.heap.size w w' ∧ w'.heap = w.heap := by
  have c0 := h.c0
  have c1 := h.c1
  have c2 := h.c2
  clear h
  unfold waitN
  by_cases q1 : s < n
  · rw [if_pos q1]
    go_enter Try.func15, Try.ntmps15
    go_wp2
    go_ret
    exact ⟨rfl, Below.refl _ _, rfl⟩
  · rw [if_neg q1]
    by_cases q2 : n ≤ l
    · rw [if_pos q2]
      go_enter Try.func15, Try.ntmps15
      go_wp2
      go_ret
      exact ⟨rfl, Below.refl _ _, rfl⟩
    · rw [if_neg q2]
      have hq : Hid (0 ≤ (n - l + r - 1).tdiv r ∧ (n - l + r - 1).tdiv r ≤ 200000) := by
        refine ⟨Int.tdiv_nonneg (by omega) (by omega), ?_⟩
        exact Int.le_trans (Int.tdiv_le_self r (by omega)) (by omega)
      have r0 : (r == 0) = false := by simp; omega
      have r1 : ¬ r = 0 := by omega
      obtain ⟨z, hz⟩ : ∃ z, z = (n - l + r - 1).tdiv r := ⟨_, rfl⟩
      have hz0 : 0 ≤ z := by rw [hz]; exact (unhide hq).1
      have hz1 : z ≤ 200000 := by rw [hz]; exact (unhide hq).2
      have hz' := hz.symm
      rw [← hz]
      have HZ := hide hz
      clear hz hq
      go_enter Try.func15, Try.ntmps15
      go_wp2
      go_region
      go_wp2
      go_ret
      exact ⟨rfl, (Below.refl _ _).drew, rfl⟩
end Go.Proofs.Ytpaecblgilepoaa

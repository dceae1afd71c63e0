/- Contracts of ratio's lowest and the document's. -/
import Derived.Test.YtmaeebgphblilabRtB
import Derived.Test.YtmaeebgphblilabTwo
import Derived.BigRegion
import Derived.Outline
namespace Go.Proofs.Ytmaeebgphblilab
open Go.RowKit
set_option linter.unusedVariables false

def loQ (n d : Int) : Int := n.tdiv (Nat.gcd n.natAbs d.natAbs : Nat)
def loR (n d : Int) : Int := d.tdiv (Nat.gcd n.natAbs d.natAbs : Nat)
def loN (n d : Int) : Int := if d < 0 then -loQ n d else loQ n d
def loD (n d : Int) : Int := if d < 0 then -loR n d else loR n d
/-- the ratio of two numbers in lowest terms, and the error -/
def loA (n d : Int) : Int × Int × Int := if okR (loN n d) (loD n d) = true then (loN n d, loD n d, 0) else (0, 0, 8)
/-- what two results are: a ratio and an error -/
def rvE (x : Int × Int × Int) : Value := .tuple #[rv x.1 x.2.1, .int .i64 x.2.2]

theorem tdiv_bound (n : Int) (g : Nat) (h : 0 < g) (m : Int) (h0 : -m ≤ n) (h1 : n ≤ m) : -m ≤ n.tdiv g ∧ n.tdiv g ≤ m := by
  have h2 : (n.tdiv g).natAbs ≤ n.natAbs := by
    rw [Int.natAbs_tdiv]
    exact Nat.div_le_self _ _
  omega
theorem gcd_pos_of {n d : Int} (h : d ≠ 0) : 0 < Nat.gcd n.natAbs d.natAbs := Nat.gcd_pos_of_pos_right _ (by omega)

set_option maxRecDepth 100000 in
set_option maxHeartbeats 1000000 in
theorem lowest_any (n d : Int) (w : World) (hn0 : -9223372036854775807 ≤ n) (hn1 : n ≤ 9223372036854775807) (hd0 : -9223372036854775807 ≤ d) (hd1 : d ≤ 9223372036854775807) (hz : d ≠ 0) : Calls Try.prog 38 #[.int .i64 n, .int .i64 d] w fun e w' => e = .returned (rvE (loA n d)) ∧ Below w.heap.size w w' := by
  have hg := gcd_pos_of (n := n) hz
  have hN : n.tdiv (Nat.gcd n.natAbs d.natAbs : Nat) = loQ n d := rfl
  have hD : d.tdiv (Nat.gcd n.natAbs d.natAbs : Nat) = loR n d := rfl
  have hA : loA n d = if okR (loN n d) (loD n d) = true then (loN n d, loD n d, 0) else (0, 0, 8) := rfl
  have b1 := tdiv_bound n _ hg 9223372036854775807 (by omega) (by omega)
  have b2 := tdiv_bound d _ hg 9223372036854775807 (by omega) (by omega)
  rw [hN] at b1
  rw [hD] at b2
  unfold loN loD at hA
  generalize loQ n d = N at *
  generalize loR n d = D at *
  have hgc := fun w => gcd_any n.natAbs d.natAbs w (by omega) (by omega)
  by_cases hs : d < 0
  · rw [if_pos hs, if_pos hs] at hA
    have hsz := fun w => size_any (-n) w (by omega) (by omega)
    rw [Int.natAbs_neg] at hsz
    rw [show (d.natAbs : Int) = -d by omega] at hgc
    generalize Nat.gcd n.natAbs d.natAbs = g at *
    generalize n.natAbs = A at *
    have hck := fun w => check_any (-N) (-D) w (by omega) (by omega) (by omega) (by omega)
    have hg0 : ¬ (g : Int) = 0 := by omega
    have Hsz := hide hsz
    have Hgc := hide hgc
    have Hck := hide hck
    have HA := hide hA
    clear hsz hgc hck hA hg
    generalize okR (-N) (-D) = E at *
    go_enter Try.func38, Try.ntmps38
    go_wp2_with fail
    refine (unhide Hsz _).mono ?_
    rintro e w1 ⟨rfl, rfl⟩
    go_wp2_with fail
    refine (unhide Hgc _).mono ?_
    rintro e w2 ⟨rfl, b3⟩
    go_wp2_with fail
    go_region
    go_wp2_with fail
    refine (unhide Hck _).mono ?_
    rintro e w4 ⟨rfl, b4⟩
    have t4 := (((two_alloc w (.int .i64 0) (.int .i64 0) 23).up b3).alloc (.cells #[.int .i64 (-N), .int .i64 (-D)] 23)).drew.up b4
    have t5 := (two_alloc w2 (.int .i64 (-N)) (.int .i64 (-D)) 23).drew.up b4
    have x0 := t4.c0
    have x1 := t4.c1
    have x2 := t4.free 0
    have x3 := t4.free 1
    have y0 := t5.c0
    have y1 := t5.c1
    have B4 : Hid (Below w.heap.size w w4) := (((Below.refl _ _).alloc (Nat.le_refl _) _).trans (b3.mono (by simp))).trans ((((Below.refl _ _).alloc (by have := b3.size; simp at this; omega) _).drew).trans (b4.mono (by have := b3.size; simp at this ⊢; omega)))
    have T4 := hide t4
    clear t4 t5 b3 b4
    cases E
    · go_wp2
      refine ret_two (p := 4) (q := 5) (ty := 23) (by kernel_rfl) w.heap.size 23 (.int .i64 0) (.int .i64 0) (.int .i64 8) _ rfl rfl (((unhide T4).set0 _).set1 _) rfl Try.underlying23 (by kernel_rfl) ⟨?_, below_two (unhide B4) (Nat.le_refl _) _ _⟩
      rw [unhide HA]
      rfl
    · go_wp2
      refine ret_two (p := 4) (q := 5) (ty := 23) (by kernel_rfl) w.heap.size 23 (.int .i64 (-N)) (.int .i64 (-D)) (.int .i64 0) _ rfl rfl (((unhide T4).set0 _).set1 _) rfl Try.underlying23 (by kernel_rfl) ⟨?_, below_two (unhide B4) (Nat.le_refl _) _ _⟩
      rw [unhide HA]
      rfl
  · rw [if_neg hs, if_neg hs] at hA
    have hsz := fun w => size_any n w (by omega) (by omega)
    rw [show (d.natAbs : Int) = d by omega] at hgc
    generalize Nat.gcd n.natAbs d.natAbs = g at *
    generalize n.natAbs = A at *
    have hck := fun w => check_any N D w (by omega) (by omega) (by omega) (by omega)
    have hg0 : ¬ (g : Int) = 0 := by omega
    have Hsz := hide hsz
    have Hgc := hide hgc
    have Hck := hide hck
    have HA := hide hA
    clear hsz hgc hck hA hg
    generalize okR N D = E at *
    go_enter Try.func38, Try.ntmps38
    go_wp2_with fail
    refine (unhide Hsz _).mono ?_
    rintro e w1 ⟨rfl, rfl⟩
    go_wp2_with fail
    refine (unhide Hgc _).mono ?_
    rintro e w2 ⟨rfl, b3⟩
    go_wp2_with fail
    go_region
    go_wp2_with fail
    refine (unhide Hck _).mono ?_
    rintro e w4 ⟨rfl, b4⟩
    have t4 := (((two_alloc w (.int .i64 0) (.int .i64 0) 23).up b3).alloc (.cells #[.int .i64 N, .int .i64 D] 23)).drew.up b4
    have t5 := (two_alloc w2 (.int .i64 N) (.int .i64 D) 23).drew.up b4
    have x0 := t4.c0
    have x1 := t4.c1
    have x2 := t4.free 0
    have x3 := t4.free 1
    have y0 := t5.c0
    have y1 := t5.c1
    have B4 : Hid (Below w.heap.size w w4) := (((Below.refl _ _).alloc (Nat.le_refl _) _).trans (b3.mono (by simp))).trans ((((Below.refl _ _).alloc (by have := b3.size; simp at this; omega) _).drew).trans (b4.mono (by have := b3.size; simp at this ⊢; omega)))
    have T4 := hide t4
    clear t4 t5 b3 b4
    cases E
    · go_wp2
      refine ret_two (p := 4) (q := 5) (ty := 23) (by kernel_rfl) w.heap.size 23 (.int .i64 0) (.int .i64 0) (.int .i64 8) _ rfl rfl (((unhide T4).set0 _).set1 _) rfl Try.underlying23 (by kernel_rfl) ⟨?_, below_two (unhide B4) (Nat.le_refl _) _ _⟩
      rw [unhide HA]
      rfl
    · go_wp2
      refine ret_two (p := 4) (q := 5) (ty := 23) (by kernel_rfl) w.heap.size 23 (.int .i64 N) (.int .i64 D) (.int .i64 0) _ rfl rfl (((unhide T4).set0 _).set1 _) rfl Try.underlying23 (by kernel_rfl) ⟨?_, below_two (unhide B4) (Nat.le_refl _) _ _⟩
      rw [unhide HA]
      rfl

theorem loR_neg (n d : Int) (h : d < 0) : loR n d < 0 := by
  have hg : Nat.gcd n.natAbs d.natAbs ∣ d.natAbs := Nat.gcd_dvd_right _ _
  have hp := gcd_pos_of (n := n) (d := d) (by omega)
  obtain ⟨k, hk⟩ := hg
  have hk0 : 0 < k := by
    rcases Nat.eq_zero_or_pos k with e | e
    · rw [e] at hk; simp at hk; omega
    · exact e
  have hd : d = -((Nat.gcd n.natAbs d.natAbs : Nat) * k : Int) := by
    have : (d.natAbs : Int) = ((Nat.gcd n.natAbs d.natAbs * k : Nat) : Int) := by rw [← hk]
    rw [Int.natCast_mul] at this
    omega
  unfold loR
  generalize Nat.gcd n.natAbs d.natAbs = g at *
  rw [hd, Int.neg_tdiv, Int.mul_tdiv_cancel_left _ (by omega)]
  omega
theorem loR_pos (n d : Int) (h : 0 < d) : 0 < loR n d := by
  have hg : Nat.gcd n.natAbs d.natAbs ∣ d.natAbs := Nat.gcd_dvd_right _ _
  have hp := gcd_pos_of (n := n) (d := d) (by omega)
  obtain ⟨k, hk⟩ := hg
  have hk0 : 0 < k := by
    rcases Nat.eq_zero_or_pos k with e | e
    · rw [e] at hk; simp at hk; omega
    · exact e
  have hd : d = ((Nat.gcd n.natAbs d.natAbs : Nat) * k : Int) := by
    have : (d.natAbs : Int) = ((Nat.gcd n.natAbs d.natAbs * k : Nat) : Int) := by rw [← hk]
    rw [Int.natCast_mul] at this
    omega
  unfold loR
  generalize Nat.gcd n.natAbs d.natAbs = g at *
  rw [hd, Int.mul_tdiv_cancel_left _ (by omega)]
  omega

set_option maxRecDepth 100000 in
set_option maxHeartbeats 1000000 in
theorem rlowest_any (n d : Int) (w : World) (hn0 : -9223372036854775807 ≤ n) (hn1 : n ≤ 9223372036854775807) (hd0 : -9223372036854775807 ≤ d) (hd1 : d ≤ 9223372036854775807) (hz : d ≠ 0) : Calls Try.prog 39 #[.int .i64 n, .int .i64 d] w fun e w' => e = .returned (rvE (loA n d)) ∧ Below w.heap.size w w' := by
  have hg := gcd_pos_of (n := n) hz
  have hN : n.tdiv (Nat.gcd n.natAbs d.natAbs : Nat) = loQ n d := rfl
  have hD : d.tdiv (Nat.gcd n.natAbs d.natAbs : Nat) = loR n d := rfl
  have hA : loA n d = if okR (loN n d) (loD n d) = true then (loN n d, loD n d, 0) else (0, 0, 8) := rfl
  have b1 := tdiv_bound n _ hg 9223372036854775807 (by omega) (by omega)
  have b2 := tdiv_bound d _ hg 9223372036854775807 (by omega) (by omega)
  rw [hN] at b1
  rw [hD] at b2
  unfold loN loD at hA
  have hgc := fun w => rgcd_any n.natAbs d.natAbs w (by omega) (by omega)
  have hsn := fun w => rabs_any n w (by omega) (by omega)
  have hsd := fun w => rabs_any d w (by omega) (by omega)
  by_cases hs : d < 0
  · rw [if_pos hs, if_pos hs] at hA
    have hDz := loR_neg n d hs
    generalize loQ n d = N at *
    generalize loR n d = D at *
    generalize Nat.gcd n.natAbs d.natAbs = g at *
    generalize n.natAbs = A at *
    generalize d.natAbs = B at *
    have hck := fun w => rcheck_any (-N) (-D) w (by omega) (by omega) (by omega) (by omega)
    have hg0 : ¬ (g : Int) = 0 := by omega
    have hDs : D < 0 := hDz
    have Hsn := hide hsn
    have Hsd := hide hsd
    have Hgc := hide hgc
    have Hck := hide hck
    have HA := hide hA
    clear hsn hsd hgc hck hA hg hDz
    generalize okR (-N) (-D) = E at *
    go_enter Try.func39, Try.ntmps39
    go_wp2_with fail
    refine (unhide Hsn _).mono ?_
    rintro e w1 ⟨rfl, rfl⟩
    go_wp2_with fail
    refine (unhide Hsd _).mono ?_
    rintro e w1 ⟨rfl, rfl⟩
    go_wp2_with fail
    refine (unhide Hgc _).mono ?_
    rintro e w2 ⟨rfl, rfl⟩
    go_wp2_with fail
    go_region
    go_wp2_with fail
    refine (unhide Hck _).mono ?_
    rintro e w4 ⟨rfl, b4⟩
    have t4 := ((two_alloc w (.int .i64 0) (.int .i64 0) 32).alloc (.cells #[.int .i64 (-N), .int .i64 (-D)] 32)).drew.up b4
    have t5 := (two_alloc (w.alloc (.cells #[.int .i64 0, .int .i64 0] 32)) (.int .i64 (-N)) (.int .i64 (-D)) 32).drew.up b4
    rw [show (w.alloc (.cells #[.int .i64 0, .int .i64 0] 32)).heap.size = w.heap.size + 1 by simp] at t5
    have x0 := t4.c0
    have x1 := t4.c1
    have x2 := t4.free 0
    have x3 := t4.free 1
    have y0 := t5.c0
    have y1 := t5.c1
    have B4 : Hid (Below w.heap.size w w4) := ((((Below.refl _ _).alloc (Nat.le_refl _) _).alloc (by simp) _).drew).trans (b4.mono (by simp; omega))
    have T4 := hide t4
    clear t4 t5 b4
    cases E
    · go_wp2
      refine ret_two (p := 4) (q := 5) (ty := 32) (by kernel_rfl) w.heap.size 32 (.int .i64 0) (.int .i64 0) (.int .i64 8) _ rfl rfl (((unhide T4).set0 _).set1 _) rfl Try.underlying32 (by kernel_rfl) ⟨?_, below_two (unhide B4) (Nat.le_refl _) _ _⟩
      rw [unhide HA]
      rfl
    · go_wp2
      refine ret_two (p := 4) (q := 5) (ty := 32) (by kernel_rfl) w.heap.size 32 (.int .i64 (-N)) (.int .i64 (-D)) (.int .i64 0) _ rfl rfl (((unhide T4).set0 _).set1 _) rfl Try.underlying32 (by kernel_rfl) ⟨?_, below_two (unhide B4) (Nat.le_refl _) _ _⟩
      rw [unhide HA]
      rfl
  · rw [if_neg hs, if_neg hs] at hA
    have hDz : ¬ loR n d < 0 := by have := loR_pos n d (by omega); omega
    generalize loQ n d = N at *
    generalize loR n d = D at *
    generalize Nat.gcd n.natAbs d.natAbs = g at *
    generalize n.natAbs = A at *
    generalize d.natAbs = B at *
    have hck := fun w => rcheck_any N D w (by omega) (by omega) (by omega) (by omega)
    have hg0 : ¬ (g : Int) = 0 := by omega
    have hDs : ¬ D < 0 := hDz
    have Hsn := hide hsn
    have Hsd := hide hsd
    have Hgc := hide hgc
    have Hck := hide hck
    have HA := hide hA
    clear hsn hsd hgc hck hA hg hDz
    generalize okR N D = E at *
    go_enter Try.func39, Try.ntmps39
    go_wp2_with fail
    refine (unhide Hsn _).mono ?_
    rintro e w1 ⟨rfl, rfl⟩
    go_wp2_with fail
    refine (unhide Hsd _).mono ?_
    rintro e w1 ⟨rfl, rfl⟩
    go_wp2_with fail
    refine (unhide Hgc _).mono ?_
    rintro e w2 ⟨rfl, rfl⟩
    go_wp2_with fail
    go_region
    go_wp2_with fail
    refine (unhide Hck _).mono ?_
    rintro e w4 ⟨rfl, b4⟩
    have t4 := ((two_alloc w (.int .i64 0) (.int .i64 0) 32).alloc (.cells #[.int .i64 N, .int .i64 D] 32)).drew.up b4
    have t5 := (two_alloc (w.alloc (.cells #[.int .i64 0, .int .i64 0] 32)) (.int .i64 N) (.int .i64 D) 32).drew.up b4
    rw [show (w.alloc (.cells #[.int .i64 0, .int .i64 0] 32)).heap.size = w.heap.size + 1 by simp] at t5
    have x0 := t4.c0
    have x1 := t4.c1
    have x2 := t4.free 0
    have x3 := t4.free 1
    have y0 := t5.c0
    have y1 := t5.c1
    have B4 : Hid (Below w.heap.size w w4) := ((((Below.refl _ _).alloc (Nat.le_refl _) _).alloc (by simp) _).drew).trans (b4.mono (by simp; omega))
    have T4 := hide t4
    clear t4 t5 b4
    cases E
    · go_wp2
      refine ret_two (p := 4) (q := 5) (ty := 32) (by kernel_rfl) w.heap.size 32 (.int .i64 0) (.int .i64 0) (.int .i64 8) _ rfl rfl (((unhide T4).set0 _).set1 _) rfl Try.underlying32 (by kernel_rfl) ⟨?_, below_two (unhide B4) (Nat.le_refl _) _ _⟩
      rw [unhide HA]
      rfl
    · go_wp2
      refine ret_two (p := 4) (q := 5) (ty := 32) (by kernel_rfl) w.heap.size 32 (.int .i64 N) (.int .i64 D) (.int .i64 0) _ rfl rfl (((unhide T4).set0 _).set1 _) rfl Try.underlying32 (by kernel_rfl) ⟨?_, below_two (unhide B4) (Nat.le_refl _) _ _⟩
      rw [unhide HA]
      rfl

end Go.Proofs.Ytmaeebgphblilab


/- Contracts of ratio's Compare, Floor, Ceil, Scale, and the document's; the document's Of. -/
import Derived.Test.YtmaeebgphblilabRtF
namespace Go.Proofs.Ytmaeebgphblilab
open Go.RowKit
set_option linter.unusedVariables false

def cmpA (a b c d : Int) : Int := if (okR a b && okR c d) = true then cmpV (a * d) (c * b) else 0
def floA (a b : Int) : Int := if okR a b = true then a / b else 0
def ceA (a b : Int) : Int := if okR a b = true then -(-a / b) else 0
def scOk (a b k : Int) : Bool := okR a b && decide (0 ≤ k ∧ k ≤ 4294967296)
/-- what Scale answers -/
def scA (a b k : Int) : Int × Int := if scOk a b k = true then (a * k / b, 0) else (0, 1)

theorem ediv_bound {a b m : Int} (h0 : -m ≤ a) (h1 : a ≤ m) (hb : 0 < b) : -m ≤ a / b ∧ a / b ≤ m := by
  have hm : 0 ≤ m := by omega
  constructor
  · have : -m ≤ -m / 1 := by simp
    rw [Int.le_ediv_iff_mul_le hb]
    have : -m * b ≤ -m * 1 := Int.mul_le_mul_of_nonpos_left (by omega) (by omega)
    omega
  · have h2 : a / b < m + 1 := by
      rw [Int.ediv_lt_iff_lt_mul hb]
      have : (m + 1) * 1 ≤ (m + 1) * b := Int.mul_le_mul_of_nonneg_left (by omega) (by omega)
      omega
    omega
theorem div_ceil (n d : Int) (hd : 0 < d) : (0 < n.tmod d → -(-n / d) = n.tdiv d + 1) ∧ (¬ 0 < n.tmod d → -(-n / d) = n.tdiv d) := by
  obtain ⟨f1, f2⟩ := div_floor (-n) d hd
  rw [Int.neg_tmod, Int.neg_tdiv] at f1 f2
  constructor
  · intro h
    rw [f1 (by omega)]
    omega
  · intro h
    rw [f2 (by omega)]
    omega

set_option maxRecDepth 100000 in
set_option maxHeartbeats 1000000 in
theorem ceil_any (a b : Int) (w : World) (ha0 : -9223372036854775808 ≤ a) (ha1 : a ≤ 9223372036854775807) (hb0 : -9223372036854775808 ≤ b) (hb1 : b ≤ 9223372036854775807) : Calls Try.prog 32 #[rv a b] w fun e w' => e = .returned (.int .i64 (ceA a b)) ∧ Below w.heap.size w w' := by
  have T1 := hide (two_alloc w (.int .i64 a) (.int .i64 b) 23)
  have B0 : Hid (Below w.heap.size w (w.alloc (.cells #[.int .i64 a, .int .i64 b] 23))) := (Below.refl _ _).alloc (Nat.le_refl _) _
  have h1 := hide (fun w => check_any a b w ha0 ha1 hb0 hb1)
  cases hE : okR a b
  · have hA : ceA a b = 0 := by unfold ceA; rw [hE]; rfl
    rw [hA]
    rw [hE] at h1
    clear hA hE
    unfold rv at *
    go_enter Try.func32, Try.ntmps32
    go_wp2_with fail
    refine (unhide h1 _).mono ?_
    rintro e w1 ⟨rfl, b1⟩
    have t1 := (unhide T1).up b1
    have B1 := hide ((unhide B0).trans (b1.mono (unhide B0).size))
    have p0 := t1.c0
    have p1 := t1.c1
    clear b1 t1 T1 B0
    go_wp2
    go_ret
    exact ⟨rfl, unhide B1⟩
  · have hA : ceA a b = -(-a / b) := by unfold ceA; rw [hE]; rfl
    rw [hA]
    rw [hE] at h1
    obtain ⟨m1, m2, m3, m4, _⟩ := okR_of hE
    clear hA hE
    unfold rv at *
    have h2 := hide (fun w => notAbove_any (-a) b w (by omega) (by omega) (by omega) (by omega))
    have hq : -2147483647 ≤ -a / b ∧ -a / b ≤ 2147483647 := ediv_bound (by omega) (by omega) m3
    generalize -a / b = Q at *
    go_enter Try.func32, Try.ntmps32
    go_wp2_with fail
    refine (unhide h1 _).mono ?_
    rintro e w1 ⟨rfl, b1⟩
    have t1 := (unhide T1).up b1
    have B1 := hide ((unhide B0).trans (b1.mono (unhide B0).size))
    have p0 := t1.c0
    have p1 := t1.c1
    clear b1 t1 T1 B0
    go_wp2_with fail
    refine (unhide h2 _).mono ?_
    rintro e w2 ⟨rfl, rfl⟩
    go_wp2
    go_ret
    exact ⟨rfl, unhide B1⟩

end Go.Proofs.Ytmaeebgphblilab

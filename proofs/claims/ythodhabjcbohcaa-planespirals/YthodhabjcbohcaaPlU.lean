/- Contract of plane's Unspiral. -/
import Derived.Test.YthodhabjcbohcaaPlF
namespace Go.Proofs.Ythodhabjcbohcaa
open Go.RowKit
set_option linter.unusedVariables false

/-- so many quarters back -/
def bk : Nat → Int × Int → Int × Int
  | 0, p => p
  | n + 1, p => ((bk n p).2, -(bk n p).1)
theorem bk_abs (n : Nat) (p : Int × Int) (m : Nat) (h1 : p.1.natAbs ≤ m) (h2 : p.2.natAbs ≤ m) : (bk n p).1.natAbs ≤ m ∧ (bk n p).2.natAbs ≤ m := by
  induction n with
  | zero => exact ⟨h1, h2⟩
  | succ n ih => exact ⟨ih.2, by simp only [bk, Int.natAbs_neg]; exact ih.1⟩
theorem quart3 (x y : Int) : quart 3 (x, y) = (y, -x) := by show (-(-y), -x) = _; rw [Int.neg_neg]

def rk (x y : Int) : Nat := max x.natAbs y.natAbs
/-- on which side of its ring a place is -/
def sdJ (x y : Int) (k : Nat) : Nat := if x = k ∧ y ≠ -k then 0 else if y = k ∧ x ≠ k then 1 else if x = -k ∧ y ≠ k then 2 else 3
/-- the number of a place -/
def unP (x y : Int) : Int := if x = 0 ∧ y = 0 then 0 else (((2 * rk x y - 1) * (2 * rk x y - 1) - 1 : Nat) : Int) + 2 * (rk x y : Nat) * (sdJ x y (rk x y) : Nat) + (bk (sdJ x y (rk x y)) (x, y)).2 + (rk x y : Nat)
def unA (x y : Int) : Int := if okP x y = true then unP x y else -1

theorem rk_facts (x y : Int) : ((rk x y : Nat) : Int) = max (max (max x (-x)) y) (-y) := by
  unfold rk; omega
theorem sd_done (x y : Int) (k : Nat) (hk : k = rk x y) (h0 : 1 ≤ k) : (bk (sdJ x y k) (x, y)).1 = k ∧ (bk (sdJ x y k) (x, y)).2 ≠ -k := by
  unfold rk at hk
  unfold sdJ
  split
  · assumption
  · split
    · simp only [bk]; omega
    · split
      · simp only [bk]; omega
      · simp only [bk]; omega
theorem sd_le (x y : Int) (k : Nat) : sdJ x y k ≤ 3 := by unfold sdJ; split; omega; split; omega; split; omega; omega
theorem sd_first (x y : Int) (k j : Nat) (hk : k = rk x y) (h0 : 1 ≤ k) (hj : j < sdJ x y k) : (bk j (x, y)).1 ≠ k ∨ (bk j (x, y)).2 = -k := by
  unfold rk at hk
  unfold sdJ at hj
  split at hj
  · omega
  · split at hj
    · obtain rfl : j = 0 := by omega
      simp only [bk]; omega
    · split at hj
      · have : j = 0 ∨ j = 1 := by omega
        rcases this with rfl | rfl <;> simp only [bk] <;> omega
      · have : j = 0 ∨ j = 1 ∨ j = 2 := by omega
        rcases this with rfl | rfl | rfl <;> simp only [bk] <;> omega

set_option maxRecDepth 100000 in
set_option maxHeartbeats 2000000 in
theorem unspiral_any (x y : Int) (w : World) : Calls Try.prog 32 #[rv x y] w fun e w' => e = .returned (.int .i64 (unA x y)) ∧ Below w.heap.size w w' := by
  have h1 := hide (fun w => check_any x y w)
  have T0 := hide (two_alloc w (.int .i64 x) (.int .i64 y) 23)
  have BB : Hid (Below w.heap.size w (w.alloc (.cells #[.int .i64 x, .int .i64 y] 23))) := (Below.refl _ _).alloc (Nat.le_refl _) _
  have f0 := (unhide T0).c0
  have f1 := (unhide T0).c1
  have HA : Hid (unA x y = if okP x y = true then unP x y else -1) := rfl
  generalize unA x y = R at *
  have q1 := hide (@okP_t x y)
  generalize okP x y = E at *
  unfold rv at *
  go_enter Try.func32, Try.ntmps32
  go_wp2_with fail
  refine (unhide h1 _).mono ?_
  rintro e w1 ⟨rfl, b1⟩
  have T1 := hide ((unhide T0).up b1)
  have B1 := hide ((unhide BB).trans (b1.mono (unhide BB).size))
  clear b1 BB T0 f0 f1 h1
  cases E
  · go_wp2
    go_ret
    exact ⟨by rw [unhide HA]; rfl, unhide B1⟩
  obtain ⟨⟨a1, a2⟩, a3, a4⟩ := unhide q1 (by first | rfl | trivial)
  have HR : Hid (R = unP x y) := by show R = _; rw [unhide HA]; rfl
  clear HA q1
  have f0 := (unhide T1).c0
  have f1 := (unhide T1).c1
  by_cases hz : x = 0 ∧ y = 0
  · obtain ⟨rfl, rfl⟩ := hz
    go_wp2
    go_ret
    exact ⟨by rw [unhide HR]; rfl, unhide B1⟩
  have hU : unP x y = (((2 * rk x y - 1) * (2 * rk x y - 1) - 1 : Nat) : Int) + 2 * (rk x y : Nat) * (sdJ x y (rk x y) : Nat) + (bk (sdJ x y (rk x y)) (x, y)).2 + (rk x y : Nat) := by unfold unP; rw [if_neg hz]
  have hm := rk_facts x y
  have hk1 : 1 ≤ rk x y := by unfold rk; omega
  have hk2 : rk x y ≤ 1048576 := by unfold rk; omega
  have hd := sd_done x y (rk x y) rfl hk1
  have hf := fun j => sd_first x y (rk x y) j rfl hk1
  have hs3 := sd_le x y (rk x y)
  have hab := fun j => bk_abs j (x, y) 1048576 (by show x.natAbs ≤ _; omega) (by show y.natAbs ≤ _; omega)
  have hbf := hide (fun w => before_any (rk x y) w hk1 hk2)
  generalize sdJ x y (rk x y) = J at *
  generalize rk x y = k at *
  have hne : ¬ (x = 0 ∧ y = 0) := hz
  have HU := hide hU
  have Hd := hide hd
  have Hf := hide hf
  have Hab := hide hab
  clear hU hd hf hab hz
  have hV : (2 * k - 1) * (2 * k - 1) - 1 ≤ 4398046511104 := by
    have := Nat.mul_le_mul (show 2 * k - 1 ≤ 2097152 by omega) (show 2 * k - 1 ≤ 2097152 by omega)
    omega
  have hkJ : 0 ≤ 2 * ((k : Nat) : Int) * ((J : Nat) : Int) ∧ 2 * ((k : Nat) : Int) * ((J : Nat) : Int) ≤ 6291456 := by
    have : 2 * k * J ≤ 2097152 * 3 := Nat.mul_le_mul (by omega) hs3
    have e : 2 * ((k : Nat) : Int) * ((J : Nat) : Int) = ((2 * k * J : Nat) : Int) := by simp
    rw [e]; omega
  generalize (2 * k - 1) * (2 * k - 1) - 1 = V at *
  by_cases hx0 : x = 0
  · subst hx0
    have hmx : ∀ ts t w, (Builtin.max_ ts t #[.int .i64 0, .int .i64 0, .int .i64 y, .int .i64 (-y)]).run Try.prog w = .ok (.int .i64 (k : Nat)) w := by
      intro ts t w
      rw [hm]
      simp only [Builtin.max_, List.foldlM_cons, List.foldlM_nil, Builtin.max2]
      simp
      omega
    clear hm
    have hy0 : ¬ y = 0 := by omega
    have hy1 : (y == 0) = false := by simpa using hy0
    have hy2 : decide (y = 0) = false := decide_eq_false hy0
    go_wp2_with fail
    go_loopw [4] (fun sv wr => ∃ j : Nat, sv = .int .i64 (j : Nat) ∧ j ≤ J ∧ Hid (Below w.heap.size w wr) ∧ Hid (Two wr w.heap.size (.int .i64 (bk j (0, y)).1) (.int .i64 (bk j (0, y)).2) 23)) (fun sv _ => J - (intOf sv).toNat)
    case atStart => exact ⟨0, rfl, by omega, B1, T1⟩
    case round =>
      obtain ⟨j, rfl, hj, bb, ss⟩ := hrel
      clear f0 f1
      obtain ⟨m1, m2⟩ := unhide Hab j
      have f0 := (unhide ss).c0
      have f1 := (unhide ss).c1
      by_cases hlt : j < J
      · have hff := unhide Hf j hlt
        have hP1 : (bk (j + 1) (0, y)).1 = (bk j (0, y)).2 := rfl
        have hP2 : (bk (j + 1) (0, y)).2 = -(bk j (0, y)).1 := rfl
        have HP1 := hide hP1
        have HP2 := hide hP2
        clear hP1 hP2
        generalize (bk j (0, y)).1 = p at *
        generalize (bk j (0, y)).2 = q at *
        have hnb := hide (fun w => number_any p q w)
        have htn := hide (fun w => turned_any _ _ p q (-1) w (fl_of p (by omega)) (fl_of q (by omega)) (by omega) (by omega))
        rw [show (((-1 : Int) % 4)).toNat = 3 from rfl, quart3] at htn
        have hpl := hide (fun (r i : Nat) (hr : Fl r q) (hi : Fl i (-p)) w => place_any r i q (-p) w hr hi (by omega) (by omega))
        unfold rv at hnb hpl
        by_cases hpk : p = ((k : Nat) : Int)
        · have hqk : q = -((k : Nat) : Int) := by omega
          clear hff
          have hq2 : (q == -((k : Nat) : Int)) = true := by simpa using hqk
          have hq3 : decide (q = -((k : Nat) : Int)) = true := decide_eq_true hqk
          have hp2 : (p != ((k : Nat) : Int)) = false := by simpa using hpk
          have hp3 : decide (p = ((k : Nat) : Int)) = true := decide_eq_true hpk
          clear hqk hpk
          go_wp2_with fail
          refine (unhide hnb _).mono ?_
          rintro e w2 ⟨rfl, b2⟩
          have s2 := hide ((unhide ss).up b2)
          have B2 := hide ((unhide bb).trans (b2.mono (unhide bb).size))
          clear b2 f0 f1
          go_wp2_with fail
          refine (unhide htn _).mono ?_
          rintro e w3 ⟨rfl, r, i, rfl, fr, fi⟩
          have hpp := hide (unhide hpl r i fr fi)
          clear fr fi
          go_wp2_with fail
          refine (unhide hpp _).mono ?_
          rintro e w4 ⟨rfl, b4⟩
          have s4 := (unhide s2).up b4
          have B4 := hide ((unhide B2).trans (b4.mono (unhide B2).size))
          have x0 := s4.c0
          have x1 := s4.c1
          have x2 := s4.free 0
          have x3 := s4.free 1
          have S4 := hide s4
          clear s4 b4
          go_wp2
          go_roundw
          case rel =>
            refine ⟨j + 1, rfl, by omega, below_two (unhide B4) (by omega) _ _, ?_⟩
            rw [unhide HP1, unhide HP2]
            exact ((unhide S4).set0 _).set1 _
          case measure => simp [intOf]; omega
        · clear hff
          have hp2 : (p != ((k : Nat) : Int)) = true := by simpa using hpk
          have hp3 : decide (p = ((k : Nat) : Int)) = false := decide_eq_false hpk
          go_wp2_with fail
          refine (unhide hnb _).mono ?_
          rintro e w2 ⟨rfl, b2⟩
          have s2 := hide ((unhide ss).up b2)
          have B2 := hide ((unhide bb).trans (b2.mono (unhide bb).size))
          clear b2 f0 f1
          go_wp2_with fail
          refine (unhide htn _).mono ?_
          rintro e w3 ⟨rfl, r, i, rfl, fr, fi⟩
          have hpp := hide (unhide hpl r i fr fi)
          clear fr fi
          go_wp2_with fail
          refine (unhide hpp _).mono ?_
          rintro e w4 ⟨rfl, b4⟩
          have s4 := (unhide s2).up b4
          have B4 := hide ((unhide B2).trans (b4.mono (unhide B2).size))
          have x0 := s4.c0
          have x1 := s4.c1
          have x2 := s4.free 0
          have x3 := s4.free 1
          have S4 := hide s4
          clear s4 b4
          go_wp2
          go_roundw
          case rel =>
            refine ⟨j + 1, rfl, by omega, below_two (unhide B4) (by omega) _ _, ?_⟩
            rw [unhide HP1, unhide HP2]
            exact ((unhide S4).set0 _).set1 _
          case measure => simp [intOf]; omega
      · obtain rfl : j = J := by omega
        obtain ⟨d1, d2⟩ := unhide Hd
        have hR2 : R = _ := (unhide HR).trans (unhide HU)
        generalize (bk j (0, y)).1 = p at *
        generalize (bk j (0, y)).2 = q at *
        have HR2 := hide hR2
        clear hR2 HR HU
        have hp2 : (p != ((k : Nat) : Int)) = false := by simpa using d1
        have hp3 : decide (p = ((k : Nat) : Int)) = true := decide_eq_true d1
        have hq2 : (q == -((k : Nat) : Int)) = false := by simpa using d2
        have hq3 : decide (q = -((k : Nat) : Int)) = false := decide_eq_false d2
        clear d1
        go_wp2_with fail
        have hne := gb_ne wr
        have p0 : ∀ x : Gb wr, _ := fun x => (gb_two (unhide ss) x).c0
        have p1 : ∀ x : Gb wr, _ := fun x => (gb_two (unhide ss) x).c1
        clear f0 f1
        refine wp_region_grB (by kernel_rfl) (by kernel_rfl) ?_
        repeat (go_big_quiet_step ((go_at_call 49; exact gb_same (unhide hbf _))))
        refine wpQuiet_nil ?_
        rintro w7 ⟨⟨_, b7⟩, rfl⟩
        have B7 := hide ((unhide bb).trans (b7.mono (unhide bb).size))
        clear b7 hne p0 p1
        go_wp2
        go_ret
        exact ⟨by rw [unhide HR2]; rfl, unhide B7⟩
  · have hmx : ∀ ts t w, (Builtin.max_ ts t #[.int .i64 x, .int .i64 (-x), .int .i64 y, .int .i64 (-y)]).run Try.prog w = .ok (.int .i64 (k : Nat)) w := by
      intro ts t w
      rw [hm]
      simp only [Builtin.max_, List.foldlM_cons, List.foldlM_nil, Builtin.max2]
      simp
      omega
    clear hm
    have hx1 : (x == 0) = false := by simpa using hx0
    have hx2 : decide (x = 0) = false := decide_eq_false hx0
    go_wp2_with fail
    go_loopw [4] (fun sv wr => ∃ j : Nat, sv = .int .i64 (j : Nat) ∧ j ≤ J ∧ Hid (Below w.heap.size w wr) ∧ Hid (Two wr w.heap.size (.int .i64 (bk j (x, y)).1) (.int .i64 (bk j (x, y)).2) 23)) (fun sv _ => J - (intOf sv).toNat)
    case atStart => exact ⟨0, rfl, by omega, B1, T1⟩
    case round =>
      obtain ⟨j, rfl, hj, bb, ss⟩ := hrel
      clear f0 f1
      obtain ⟨m1, m2⟩ := unhide Hab j
      have f0 := (unhide ss).c0
      have f1 := (unhide ss).c1
      by_cases hlt : j < J
      · have hff := unhide Hf j hlt
        have hP1 : (bk (j + 1) (x, y)).1 = (bk j (x, y)).2 := rfl
        have hP2 : (bk (j + 1) (x, y)).2 = -(bk j (x, y)).1 := rfl
        have HP1 := hide hP1
        have HP2 := hide hP2
        clear hP1 hP2
        generalize (bk j (x, y)).1 = p at *
        generalize (bk j (x, y)).2 = q at *
        have hnb := hide (fun w => number_any p q w)
        have htn := hide (fun w => turned_any _ _ p q (-1) w (fl_of p (by omega)) (fl_of q (by omega)) (by omega) (by omega))
        rw [show (((-1 : Int) % 4)).toNat = 3 from rfl, quart3] at htn
        have hpl := hide (fun (r i : Nat) (hr : Fl r q) (hi : Fl i (-p)) w => place_any r i q (-p) w hr hi (by omega) (by omega))
        unfold rv at hnb hpl
        by_cases hpk : p = ((k : Nat) : Int)
        · have hqk : q = -((k : Nat) : Int) := by omega
          clear hff
          have hq2 : (q == -((k : Nat) : Int)) = true := by simpa using hqk
          have hq3 : decide (q = -((k : Nat) : Int)) = true := decide_eq_true hqk
          have hp2 : (p != ((k : Nat) : Int)) = false := by simpa using hpk
          have hp3 : decide (p = ((k : Nat) : Int)) = true := decide_eq_true hpk
          clear hqk hpk
          go_wp2_with fail
          refine (unhide hnb _).mono ?_
          rintro e w2 ⟨rfl, b2⟩
          have s2 := hide ((unhide ss).up b2)
          have B2 := hide ((unhide bb).trans (b2.mono (unhide bb).size))
          clear b2 f0 f1
          go_wp2_with fail
          refine (unhide htn _).mono ?_
          rintro e w3 ⟨rfl, r, i, rfl, fr, fi⟩
          have hpp := hide (unhide hpl r i fr fi)
          clear fr fi
          go_wp2_with fail
          refine (unhide hpp _).mono ?_
          rintro e w4 ⟨rfl, b4⟩
          have s4 := (unhide s2).up b4
          have B4 := hide ((unhide B2).trans (b4.mono (unhide B2).size))
          have x0 := s4.c0
          have x1 := s4.c1
          have x2 := s4.free 0
          have x3 := s4.free 1
          have S4 := hide s4
          clear s4 b4
          go_wp2
          go_roundw
          case rel =>
            refine ⟨j + 1, rfl, by omega, below_two (unhide B4) (by omega) _ _, ?_⟩
            rw [unhide HP1, unhide HP2]
            exact ((unhide S4).set0 _).set1 _
          case measure => simp [intOf]; omega
        · clear hff
          have hp2 : (p != ((k : Nat) : Int)) = true := by simpa using hpk
          have hp3 : decide (p = ((k : Nat) : Int)) = false := decide_eq_false hpk
          go_wp2_with fail
          refine (unhide hnb _).mono ?_
          rintro e w2 ⟨rfl, b2⟩
          have s2 := hide ((unhide ss).up b2)
          have B2 := hide ((unhide bb).trans (b2.mono (unhide bb).size))
          clear b2 f0 f1
          go_wp2_with fail
          refine (unhide htn _).mono ?_
          rintro e w3 ⟨rfl, r, i, rfl, fr, fi⟩
          have hpp := hide (unhide hpl r i fr fi)
          clear fr fi
          go_wp2_with fail
          refine (unhide hpp _).mono ?_
          rintro e w4 ⟨rfl, b4⟩
          have s4 := (unhide s2).up b4
          have B4 := hide ((unhide B2).trans (b4.mono (unhide B2).size))
          have x0 := s4.c0
          have x1 := s4.c1
          have x2 := s4.free 0
          have x3 := s4.free 1
          have S4 := hide s4
          clear s4 b4
          go_wp2
          go_roundw
          case rel =>
            refine ⟨j + 1, rfl, by omega, below_two (unhide B4) (by omega) _ _, ?_⟩
            rw [unhide HP1, unhide HP2]
            exact ((unhide S4).set0 _).set1 _
          case measure => simp [intOf]; omega
      · obtain rfl : j = J := by omega
        obtain ⟨d1, d2⟩ := unhide Hd
        have hR2 : R = _ := (unhide HR).trans (unhide HU)
        generalize (bk j (x, y)).1 = p at *
        generalize (bk j (x, y)).2 = q at *
        have HR2 := hide hR2
        clear hR2 HR HU
        have hp2 : (p != ((k : Nat) : Int)) = false := by simpa using d1
        have hp3 : decide (p = ((k : Nat) : Int)) = true := decide_eq_true d1
        have hq2 : (q == -((k : Nat) : Int)) = false := by simpa using d2
        have hq3 : decide (q = -((k : Nat) : Int)) = false := decide_eq_false d2
        clear d1
        go_wp2_with fail
        have hne := gb_ne wr
        have p0 : ∀ x : Gb wr, _ := fun x => (gb_two (unhide ss) x).c0
        have p1 : ∀ x : Gb wr, _ := fun x => (gb_two (unhide ss) x).c1
        clear f0 f1
        refine wp_region_grB (by kernel_rfl) (by kernel_rfl) ?_
        repeat (go_big_quiet_step ((go_at_call 49; exact gb_same (unhide hbf _))))
        refine wpQuiet_nil ?_
        rintro w7 ⟨⟨_, b7⟩, rfl⟩
        have B7 := hide ((unhide bb).trans (b7.mono (unhide bb).size))
        clear b7 hne p0 p1
        go_wp2
        go_ret
        exact ⟨by rw [unhide HR2]; rfl, unhide B7⟩

end Go.Proofs.Ythodhabjcbohcaa

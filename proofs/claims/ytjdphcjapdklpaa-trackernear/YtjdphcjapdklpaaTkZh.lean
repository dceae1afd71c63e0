/- tracker: the document's Dist and Has. -/
import Derived.Test.YtjdphcjapdklpaaTkZg
namespace Go.Proofs.Ytjdphcjapdklpaa
open Go.RowKit Go.Sort
set_option linter.unusedVariables false
attribute [local go_sem] Oper.semAt_some

def isPl (x y : Int) : Bool := decide (-1048576 ≤ x ∧ x ≤ 1048576 ∧ -1048576 ≤ y ∧ y ≤ 1048576)
set_option maxRecDepth 100000 in
theorem dCheck_any (x y : Int) (w : World) : Calls Try.prog 24 #[.agg #[.int .i64 x, .int .i64 y]] w fun e w' => e = .returned (.bool (isPl x y)) ∧ Below w.heap.size w w' := by
  unfold isPl
  have B1 := hide ((Below.refl w.heap.size w).alloc (Nat.le_refl _) (.cells #[.int .i64 x, .int .i64 y] 46))
  have go : ∀ b, decide (-1048576 ≤ x ∧ x ≤ 1048576 ∧ -1048576 ≤ y ∧ y ≤ 1048576) = b → Calls Try.prog 24 #[.agg #[.int .i64 x, .int .i64 y]] w fun e w' => e = .returned (.bool b) ∧ Below w.heap.size w w' := by
    intro b hb
    by_cases h1 : -1048576 ≤ x
    · by_cases h2 : x ≤ 1048576
      · by_cases h3 : -1048576 ≤ y
        · by_cases h4 : y ≤ 1048576
          · obtain rfl : b = true := by rw [← hb]; exact decide_eq_true ⟨h1, h2, h3, h4⟩
            clear hb
            go_enter Try.func24, Try.ntmps24
            go_wp2
            go_ret
            exact ⟨rfl, unhide B1⟩
          · obtain rfl : b = false := by rw [← hb]; exact decide_eq_false fun h => h4 h.2.2.2
            clear hb
            go_enter Try.func24, Try.ntmps24
            go_wp2
            go_ret
            exact ⟨rfl, unhide B1⟩
        · obtain rfl : b = false := by rw [← hb]; exact decide_eq_false fun h => h3 h.2.2.1
          clear hb
          go_enter Try.func24, Try.ntmps24
          go_wp2
          go_ret
          exact ⟨rfl, unhide B1⟩
      · obtain rfl : b = false := by rw [← hb]; exact decide_eq_false fun h => h2 h.2.1
        clear hb
        go_enter Try.func24, Try.ntmps24
        go_wp2
        go_ret
        exact ⟨rfl, unhide B1⟩
    · obtain rfl : b = false := by rw [← hb]; exact decide_eq_false fun h => h1 h.1
      clear hb
      go_enter Try.func24, Try.ntmps24
      go_wp2
      go_ret
      exact ⟨rfl, unhide B1⟩
  exact go _ rfl
/-- is a number among these? -/
def hasI (l : List Int) (n : Int) : Bool := l.any fun x => decide (x = n)
set_option maxRecDepth 100000 in
set_option maxHeartbeats 1000000 in
theorem rhas_any (a0 : Option Addr) (l : List Int) (c : Nat) (n : Int) (w : World) (hA : Ints w a0 l) (hl : l.length ≤ maxLen) :
    Calls Try.prog 13 #[.slice a0 l.length c, .int .i64 n] w fun e w' => e = .returned (.bool (hasI l n)) ∧ w = w' := by
  obtain ⟨r, hr⟩ : ∃ r, r = hasI l n := ⟨_, rfl⟩
  rw [← hr]
  have HR := hide hr
  have HA := hide hA
  generalize hm : l.length = m at *
  have HM := hide hm
  have hml : (m : Int) ≤ 9223372036854775807 := by unfold maxLen at hl; omega
  clear hr hA hm hl
  go_enter Try.func13, Try.ntmps13
  go_wp2_with fail
  go_loopw [5] (fun iv wr => ∃ i : Nat, i ≤ m ∧ iv = .int .i64 i ∧ wr = w ∧ ∀ (j : Nat) (d : Int), j < i → l[j]? = some d → d ≠ n) (fun iv _ => m - (intOf iv).toNat)
  case atStart => exact ⟨0, by simp⟩
  case round =>
    obtain ⟨i, hi, rfl, rfl, hno⟩ := hrel
    have HNO := hide hno
    clear hno
    by_cases hlt : i < m
    · have q1 : (i : Int) < m := by omega
      have hil : i < l.length := by rw [unhide HM]; exact hlt
      obtain ⟨g, o, rfl, e0⟩ := unhide HA i hil
      obtain ⟨x, hx⟩ : ∃ x, l[i] = x := ⟨_, rfl⟩
      rw [hx] at e0
      have HX := hide hx
      clear hx
      by_cases hq : x = n
      · subst hq
        have hrt : r = true := by
          rw [unhide HR]
          unfold hasI
          rw [List.any_eq_true]
          exact ⟨x, by rw [← unhide HX]; exact List.getElem_mem hil, by simp⟩
        subst hrt
        clear HR
        go_wp2
        go_ret
        exact ⟨rfl, rfl⟩
      · have d0 : (x == n) = false := by simpa using hq
        go_wp2
        go_roundw
        case rel => exact ⟨i + 1, by omega, by go_num, trivial, fun j d hj hd => by
          by_cases ej : j = i
          · subst ej
            rw [List.getElem?_eq_getElem hil, unhide HX] at hd
            cases hd
            exact hq
          · exact unhide HNO j d (by omega) hd⟩
        case measure => simp [intOf]; omega
    · have q1 : ¬ (i : Int) < m := by omega
      have hrt : r = false := by
        rw [unhide HR]
        unfold hasI
        rw [List.any_eq_false]
        intro x hx
        obtain ⟨j, hj⟩ := List.getElem?_of_mem hx
        have := (List.getElem?_eq_some_iff.1 hj).1
        rw [unhide HM] at this
        simpa using unhide HNO j x (by omega) hj
      subst hrt
      clear HR
      go_wp2
      go_ret
      exact ⟨rfl, rfl⟩
theorem okP_isPl (x y : Int) : okP x y = isPl x y := by
  unfold okP okN isPl
  by_cases h1 : -1048576 ≤ x <;> by_cases h2 : x ≤ 1048576 <;> by_cases h3 : -1048576 ≤ y <;> by_cases h4 : y ≤ 1048576 <;> simp [h1, h2, h3, h4]
theorem dcheck_any (x y : Int) (w : World) : Calls Try.prog 24 #[rv x y] w fun e w' => e = .returned (.bool (okP x y)) ∧ Below w.heap.size w w' := by
  rw [okP_isPl]
  exact dCheck_any x y w
set_option maxRecDepth 100000 in
theorem ddist_any (a b c d : Int) (w : World) : Calls Try.prog 14 #[rv a b, rv c d] w fun e w' => e = .returned (.int .i64 (distA a b c d)) ∧ Below w.heap.size w w' := by
  have h1 := hide (fun w => dcheck_any a b w)
  have h2 := hide (fun w => dcheck_any c d w)
  have T0 := hide ((two_alloc w (.int .i64 a) (.int .i64 b) 46).alloc (.cells #[.int .i64 c, .int .i64 d] 46))
  have e1 : (w.alloc (.cells #[.int .i64 a, .int .i64 b] 46)).heap.size = w.heap.size + 1 := by simp
  have t1 := two_alloc (w.alloc (.cells #[.int .i64 a, .int .i64 b] 46)) (.int .i64 c) (.int .i64 d) 46
  rw [e1] at t1
  have T1 := hide t1
  clear e1 t1
  have BB : Hid (Below w.heap.size w ((w.alloc (.cells #[.int .i64 a, .int .i64 b] 46)).alloc (.cells #[.int .i64 c, .int .i64 d] 46))) := ((Below.refl _ _).alloc (Nat.le_refl _) _).alloc (by simp) _
  have f00 := (unhide T0).c0
  have f01 := (unhide T0).c1
  have HA : Hid (distA a b c d = if (okP a b && okP c d) = true then (a - c) * (a - c) + (b - d) * (b - d) else -1) := rfl
  generalize distA a b c d = R at *
  have Q1 := hide (@okP_t a b)
  have Q2 := hide (@okP_t c d)
  generalize okP a b = E1 at *
  generalize okP c d = E2 at *
  unfold rv at *
  go_enter Try.func14, Try.ntmps14
  go_wp2_with fail
  refine (unhide h1 _).mono ?_
  rintro e w1 ⟨rfl, b1⟩
  have T0n := hide ((unhide T0).up b1)
  have T1n := hide ((unhide T1).up b1)
  have BBn := hide ((unhide BB).trans (b1.mono (unhide BB).size))
  clear b1 BB T0 T1 f00 f01
  have g0 := (unhide T1n).c0
  have g1 := (unhide T1n).c1
  cases E1
  · go_wp2
    go_ret
    exact ⟨by rw [unhide HA]; rfl, unhide BBn⟩
  go_wp2_with fail
  refine (unhide h2 _).mono ?_
  rintro e w2 ⟨rfl, b2⟩
  have T0 := hide ((unhide T0n).up b2)
  have T1 := hide ((unhide T1n).up b2)
  have BB := hide ((unhide BBn).trans (b2.mono (unhide BBn).size))
  clear b2 BBn T0n T1n g0 g1
  cases E2
  · go_wp2
    go_ret
    exact ⟨by rw [unhide HA]; rfl, unhide BB⟩
  obtain ⟨⟨a1, a2⟩, a3, a4⟩ := unhide Q1 (by first | rfl | trivial)
  obtain ⟨⟨c1, c2⟩, c3, c4⟩ := unhide Q2 (by first | rfl | trivial)
  have m1 := abs_mul_le (n := 2097152) (m := 2097152) (show (a - c).natAbs ≤ _ by omega) (show (a - c).natAbs ≤ _ by omega)
  have m2 := abs_mul_le (n := 2097152) (m := 2097152) (show (b - d).natAbs ≤ _ by omega) (show (b - d).natAbs ≤ _ by omega)
  have l1 : -4398046511104 ≤ (a - c) * (a - c) ∧ (a - c) * (a - c) ≤ 4398046511104 := by omega
  have l2 : -4398046511104 ≤ (b - d) * (b - d) ∧ (b - d) * (b - d) ≤ 4398046511104 := by omega
  have f00 := (unhide T0).c0
  have f01 := (unhide T0).c1
  have g0 := (unhide T1).c0
  have g1 := (unhide T1).c1
  clear m1 m2 Q1 Q2
  go_wp2
  go_ret
  exact ⟨by rw [unhide HA]; rfl, unhide BB⟩

end Go.Proofs.Ytjdphcjapdklpaa

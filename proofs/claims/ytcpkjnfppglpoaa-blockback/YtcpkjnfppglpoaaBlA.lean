/- Contracts of block's small functions, and of the document's: sizes, counts, blocks of bytes 0. -/
import Derived.Test.YtcpkjnfppglpoaaTxtS
import Derived.Test.YtcpkjnfppglpoaaBrow
namespace Go.Proofs.Ytcpkjnfppglpoaa
open Go.RowKit
set_option linter.unusedVariables false

/-- may a size be? -/
def may (n : Int) : Bool := decide (1 ≤ n ∧ n ≤ 64)
theorem may_iff {n : Int} : may n = true ↔ 1 ≤ n ∧ n ≤ 64 := by unfold may; simp
theorem may_not {n : Int} : may n = false ↔ n < 1 ∨ 64 < n := by unfold may; simp; omega

theorem isSize_any (n : Int) (w : World) : Calls Try.prog 25 #[.int .i64 n] w fun e w' => e = .returned (.bool (may n)) ∧ w = w' := by
  cases h : may n with
  | true =>
    obtain ⟨h1, h2⟩ := may_iff.1 h
    clear h
    go_enter Try.func25, Try.ntmps25
    go_wp2
    go_ret
    exact ⟨rfl, rfl⟩
  | false =>
    rcases may_not.1 h with h1 | h1
    · have h2 : ¬ (1 : Int) ≤ n := by omega
      clear h
      go_enter Try.func25, Try.ntmps25
      go_wp2
      go_ret
      exact ⟨rfl, rfl⟩
    · have h2 : (1 : Int) ≤ n := by omega
      have h3 : ¬ n ≤ 64 := by omega
      clear h
      go_enter Try.func25, Try.ntmps25
      go_wp2
      go_ret
      exact ⟨rfl, rfl⟩
theorem rmay_any (n : Int) (w : World) : Calls Try.prog 20 #[.int .i64 n] w fun e w' => e = .returned (.bool (may n)) ∧ w = w' := by
  cases h : may n with
  | true =>
    obtain ⟨h1, h2⟩ := may_iff.1 h
    clear h
    go_enter Try.func20, Try.ntmps20
    go_wp2
    go_ret
    exact ⟨rfl, rfl⟩
  | false =>
    rcases may_not.1 h with h1 | h1
    · have h2 : ¬ (1 : Int) ≤ n := by omega
      clear h
      go_enter Try.func20, Try.ntmps20
      go_wp2
      go_ret
      exact ⟨rfl, rfl⟩
    · have h2 : (1 : Int) ≤ n := by omega
      have h3 : ¬ n ≤ 64 := by omega
      clear h
      go_enter Try.func20, Try.ntmps20
      go_wp2
      go_ret
      exact ⟨rfl, rfl⟩

/-- a block of bytes 0 -/
def zeroL (n : Int) : By := if may n = true then List.replicate n.toNat 0 else []
theorem zero_any (n : Int) (w : World) : Calls Try.prog 23 #[.int .i64 n] w fun e w' => e = .returned (.string (bs (zeroL n))) ∧ Below w.heap.size w w' := by
  have hm := hide (isSize_any n)
  cases h : may n with
  | true =>
    rw [h] at hm
    obtain ⟨h1, h2⟩ := may_iff.1 h
    have hz : zeroL n = List.replicate n.toNat 0 := by unfold zeroL; rw [if_pos h]
    rw [hz]
    obtain ⟨m, rfl⟩ : ∃ m : Nat, n = m := ⟨n.toNat, by omega⟩
    rw [Int.toNat_natCast]
    clear h hz
    have hm1 : m ≤ 64 := by omega
    go_enter Try.func23, Try.ntmps23
    go_wp2_with fail
    refine (unhide hm _).mono ?_
    rintro e w1 ⟨rfl, rfl⟩
    obtain ⟨i0, hi, hz0, hz1, hz2⟩ := info_parts Try.infoU
    go_wp2_with (at_make; refine wpList_make_full _ rfl _ _ 45 rfl w.heap.size 5 i0 (.int .u8 0) 1 Try.undB hi hz0 hz1 .i64 .i64 _ _ m rfl rfl rfl rfl ?c2 ?c3 ?c4 ?_)
    case c2 => rw [hz2]; omega
    case c3 => unfold maxLen; omega
    case c4 => exact Nat.le_refl _
    intro w1 hown hgrow
    have hb1 : Below w.heap.size w w1 := (Below.refl _ _).grown hgrow (Nat.le_refl _) (by intro k hk; cases hk)
    rw [made_bytes] at hown
    have hcv := run_string_own (P := Try.prog) 45 9 Try.undB (by kernel_rfl) (by kernel_rfl) hown
    clear hgrow hown
    have HB := hide hb1
    clear hb1
    generalize hD : (List.replicate m (0 : UInt8)).toArray = D at *
    have HD := hide hD
    clear hD
    go_wp2
    go_ret
    exact ⟨by rw [← unhide HD]; rfl, unhide HB⟩
  | false =>
    rw [h] at hm
    have hz : zeroL n = [] := by unfold zeroL; rw [if_neg (by rw [h]; simp)]
    rw [hz]
    clear h hz
    go_enter Try.func23, Try.ntmps23
    go_wp2_with fail
    refine (unhide hm _).mono ?_
    rintro e w1 ⟨rfl, rfl⟩
    go_wp2
    go_ret
    exact ⟨rfl, Below.refl _ _⟩

theorem zeroL_nat (m : Nat) (h1 : 1 ≤ m) (h2 : m ≤ 64) : zeroL m = List.replicate m 0 := by
  unfold zeroL
  rw [if_pos (may_iff.2 (by omega)), Int.toNat_natCast]
set_option maxHeartbeats 1000000 in
theorem rzero_any (n : Int) (w : World) : Calls Try.prog 24 #[.int .i64 n] w fun e w' => e = .returned (.string (bs (zeroL n))) ∧ Below w.heap.size w w' := by
  have hm := hide (rmay_any n)
  cases h : may n with
  | true =>
    rw [h] at hm
    obtain ⟨h1, h2⟩ := may_iff.1 h
    obtain ⟨m, rfl⟩ : ∃ m : Nat, n = m := ⟨n.toNat, by omega⟩
    rw [zeroL_nat m (by omega) (by omega)]
    clear h
    have hm1 : m ≤ 64 := by omega
    obtain ⟨i0, hi, hz0, hz1, hz2⟩ := info_parts Try.infoU
    go_enter Try.func24, Try.ntmps24
    go_wp2_with fail
    go_loopw [3, 4] (fun v i wr => ∃ k : Nat, k ≤ m ∧ i = .int .i64 k ∧ wr.ownsRow w.heap.size 5 1 v k (bc (List.replicate k 0)) ∧ Below w.heap.size w wr) (fun _ i _ => m - (intOf i).toNat)
    case atStart => exact ⟨0, Nat.zero_le _, rfl, World.ownsRow_nil _ _ _ _, Below.refl _ _⟩
    case round =>
      obtain ⟨k, hk, rfl, hown, hb⟩ := hrel
      obtain ⟨ao, cap, rfl⟩ := own_shape' hown
      have hz := hb.size
      have HO := hide hown
      have HB := hide hb
      clear hown hb
      by_cases hlt : k < m
      · have q1 : (k : Int) < m := by omega
        go_wp2_with (first | (go_at_call 20; refine (unhide hm _).mono ?_; rintro e w1 ⟨rfl, rfl⟩) | (at_builtin; refine wpList_append_own _ rfl _ _ 45 rfl w.heap.size 5 i0 (.int .u8 0) 1 1 Try.undB hi hz0 hz1 hz2 rfl (by decide) _ _ _ rfl ((unhide HO).alloc _) ⟨wr.heap.size, 0, none⟩ 1 1 [.int .u8 0] rfl rfl (news_lit _ [_] _) ?c2 ?c3 ?c4 ?c5 ?_))
        case c2 => intro u hu; simp at hu; subst hu; rfl
        case c3 => unfold maxLen; omega
        case c4 => omega
        case c5 => simp; omega
        intro v' w3 hown' hgrow _
        have hb' := hide ((((unhide HB).alloc (by omega) _)).grown hgrow (by simp; omega) (fun k hk => (((unhide HO).lt k hk).1)))
        have ho2 : Hid (w3.ownsRow w.heap.size 5 1 v' (k + 1) (bc (List.replicate (k + 1) 0))) := by
          show World.ownsRow _ _ _ _ _ _ _
          rw [List.replicate_succ', bc_append]
          exact hown'
        obtain ⟨ao', cap', rfl⟩ := own_shape' hown'
        clear hown' hgrow HO HB
        go_wp2
        go_roundw
        case rel => exact ⟨k + 1, by omega, by go_num, unhide ho2, unhide hb'⟩
        case measure => simp [intOf]; omega
      · have hke : k = m := by omega
        subst hke
        have q1 : ¬ (k : Int) < k := by omega
        have hcv := run_string_own (P := Try.prog) 45 9 Try.undB (by kernel_rfl) (by kernel_rfl) (unhide HO)
        generalize hD : (List.replicate k (0 : UInt8)).toArray = D at *
        have HD := hide hD
        clear hD
        go_wp2
        go_ret
        exact ⟨by rw [← unhide HD]; rfl, unhide HB⟩
  | false =>
    rw [h] at hm
    have hz : zeroL n = [] := by unfold zeroL; rw [if_neg (by rw [h]; simp)]
    rw [hz]
    have hcv : ∀ w, (convert 45 9 (.slice none 0 0)).run Try.prog w = .ok (.string ⟨#[]⟩) w := fun w => run_string_own (P := Try.prog) (w := w) (l := []) 45 9 Try.undB (by kernel_rfl) (by kernel_rfl) (World.ownsRow_nil w 0 _ _)
    clear h hz
    go_enter Try.func24, Try.ntmps24
    go_wp2_with fail
    go_loopw [3, 4] (fun v i wr => v = .slice none 0 0 ∧ i = .int .i64 0 ∧ w = wr) (fun _ i _ => 0)
    case atStart => exact ⟨rfl, rfl, rfl⟩
    case round =>
      obtain ⟨rfl, rfl, rfl⟩ := hrel
      by_cases hlt : (0 : Int) < n
      · go_wp2_with (go_at_call 20; refine (unhide hm _).mono ?_; rintro e w1 ⟨rfl, rfl⟩)
        go_ret
        exact ⟨rfl, Below.refl _ _⟩
      · go_wp2
        go_ret
        exact ⟨rfl, Below.refl _ _⟩

/-- how many blocks of a size there are -/
def countN (long size : Int) : Nat :=
  if (1 ≤ long ∧ long ≤ 4096) ∧ may size = true then (if ((long + size - 1) / size) ≤ 96 then ((long + size - 1) / size).toNat else 0) else 0
theorem countN_le (long size : Int) : countN long size ≤ 96 := by
  unfold countN
  split
  · split
    · omega
    · omega
  · omega
theorem countN_pos {long size : Int} (h : countN long size ≠ 0) : ∃ l s : Nat, long = l ∧ size = s ∧ 1 ≤ l ∧ l ≤ 4096 ∧ 1 ≤ s ∧ s ≤ 64 ∧ countN long size = (l + s - 1) / s := by
  unfold countN at h ⊢
  by_cases h1 : (1 ≤ long ∧ long ≤ 4096) ∧ may size = true
  · rw [if_pos h1] at h ⊢
    by_cases h2 : ((long + size - 1) / size) ≤ 96
    · rw [if_pos h2]
      obtain ⟨m1, m2⟩ := may_iff.1 h1.2
      obtain ⟨l, rfl⟩ : ∃ m : Nat, long = m := ⟨long.toNat, by omega⟩
      obtain ⟨s, rfl⟩ : ∃ m : Nat, size = m := ⟨size.toNat, by omega⟩
      refine ⟨l, s, rfl, rfl, by omega, by omega, by omega, by omega, ?_⟩
      have : ((l : Int) + s - 1) / s = (((l + s - 1) / s : Nat) : Int) := by
        rw [Int.natCast_ediv]
        congr 1
        omega
      rw [this]
      exact Int.toNat_natCast _
    · rw [if_neg h2] at h; exact absurd rfl h
  · rw [if_neg h1] at h; exact absurd rfl h
theorem count_any (long size : Int) (w : World) : Calls Try.prog 12 #[.int .i64 long, .int .i64 size] w fun e w' => e = .returned (.int .i64 (countN long size)) ∧ w = w' := by
  have hm := hide (isSize_any size)
  by_cases h1 : long < 1
  · have e : countN long size = 0 := by unfold countN; rw [if_neg (by omega)]
    rw [e]
    clear e
    go_enter Try.func12, Try.ntmps12
    go_wp2
    go_ret
    exact ⟨rfl, rfl⟩
  by_cases h2 : 4096 < long
  · have e : countN long size = 0 := by unfold countN; rw [if_neg (by omega)]
    rw [e]
    clear e
    go_enter Try.func12, Try.ntmps12
    go_wp2
    go_ret
    exact ⟨rfl, rfl⟩
  cases h : may size with
  | false =>
    have e : countN long size = 0 := by unfold countN; rw [if_neg (by rw [h]; simp)]
    rw [e]
    rw [h] at hm
    clear e h
    go_enter Try.func12, Try.ntmps12
    go_wp2_with (go_at_call 25; refine (unhide hm _).mono ?_; rintro e w1 ⟨rfl, rfl⟩)
    go_ret
    exact ⟨rfl, rfl⟩
  | true =>
    obtain ⟨m1, m2⟩ := may_iff.1 h
    have e : countN long size = if ((long + size - 1) / size) ≤ 96 then ((long + size - 1) / size).toNat else 0 := by unfold countN; rw [if_pos ⟨by omega, h⟩]
    rw [h] at hm
    have g0 : 0 ≤ (long + size - 1) / size := Int.ediv_nonneg (by omega) (by omega)
    have g1 : (long + size - 1).tdiv size = (long + size - 1) / size := Int.tdiv_eq_ediv_of_nonneg (by omega)
    have g2 : (long + size - 1) / size ≤ long + size - 1 := Int.ediv_le_self _ (by omega)
    rw [e]
    have ne : ¬ size = 0 := by omega
    clear e h
    generalize hq : (long + size - 1) / size = Q at *
    have HQ := hide hq
    clear hq
    by_cases hQ : Q ≤ 96
    · rw [if_pos hQ]
      have q1 : ¬ 96 < Q := by omega
      have q2 : ((Q.toNat : Nat) : Int) = Q := by omega
      rw [q2]
      clear q2
      go_enter Try.func12, Try.ntmps12
      go_wp2_with (go_at_call 25; refine (unhide hm _).mono ?_; rintro e w1 ⟨rfl, rfl⟩)
      go_ret
      exact ⟨rfl, rfl⟩
    · rw [if_neg hQ]
      have q1 : 96 < Q := by omega
      go_enter Try.func12, Try.ntmps12
      go_wp2_with (go_at_call 25; refine (unhide hm _).mono ?_; rintro e w1 ⟨rfl, rfl⟩)
      go_ret
      exact ⟨rfl, rfl⟩
/-- the least number of blocks that hold all -/
theorem ceil_lt (l s k : Nat) (hs : 1 ≤ s) (hl : 1 ≤ l) : k * s < l ↔ k < (l + s - 1) / s := by
  rw [Nat.lt_div_iff_mul_lt (by omega)]
  constructor
  · intro h
    omega
  · intro h
    omega
theorem rcount_any (long size : Int) (w : World) : Calls Try.prog 13 #[.int .i64 long, .int .i64 size] w fun e w' => e = .returned (.int .i64 (countN long size)) ∧ w = w' := by
  have hm := hide (rmay_any size)
  by_cases h1 : long < 1
  · have e : countN long size = 0 := by unfold countN; rw [if_neg (by omega)]
    rw [e]
    clear e
    go_enter Try.func13, Try.ntmps13
    go_wp2
    go_ret
    exact ⟨rfl, rfl⟩
  by_cases h2 : 4096 < long
  · have e : countN long size = 0 := by unfold countN; rw [if_neg (by omega)]
    rw [e]
    clear e
    go_enter Try.func13, Try.ntmps13
    go_wp2
    go_ret
    exact ⟨rfl, rfl⟩
  cases h : may size with
  | false =>
    have e : countN long size = 0 := by unfold countN; rw [if_neg (by rw [h]; simp)]
    rw [e]
    rw [h] at hm
    clear e h
    go_enter Try.func13, Try.ntmps13
    go_wp2_with (go_at_call 20; refine (unhide hm _).mono ?_; rintro e w1 ⟨rfl, rfl⟩)
    go_ret
    exact ⟨rfl, rfl⟩
  | true =>
    obtain ⟨m1, m2⟩ := may_iff.1 h
    obtain ⟨l, rfl⟩ : ∃ m : Nat, long = m := ⟨long.toNat, by omega⟩
    obtain ⟨s, rfl⟩ : ∃ m : Nat, size = m := ⟨size.toNat, by omega⟩
    rw [h] at hm
    have ed : ((l : Int) + s - 1) / s = (((l + s - 1) / s : Nat) : Int) := by
      rw [Int.natCast_ediv]
      congr 1
      omega
    have e : countN l s = if (l + s - 1) / s ≤ 96 then (l + s - 1) / s else 0 := by
      unfold countN
      rw [if_pos ⟨by omega, h⟩, ed]
      by_cases c : (l + s - 1) / s ≤ 96
      · rw [if_pos c, if_pos (by omega)]; exact Int.toNat_natCast _
      · rw [if_neg c, if_neg (by omega)]
    have hc := fun k => ceil_lt l s k (by omega) (by omega)
    have g2 : (l + s - 1) / s ≤ l + s - 1 := Nat.div_le_self _ _
    rw [e]
    clear e h ed
    generalize (l + s - 1) / s = Q at *
    have HC := hide hc
    have hQ0 : Q ≤ 5000 := by omega
    clear hc g2
    generalize hE : (if Q ≤ 96 then Q else 0) = E
    have HE := hide hE
    clear hE
    go_enter Try.func13, Try.ntmps13
    go_wp2_with (first | (go_at_call 20; refine (unhide hm _).mono ?_; rintro e w1 ⟨rfl, rfl⟩) | fail)
    go_loopw [5] (fun i wr => w = wr ∧ ∃ k : Nat, k ≤ Q ∧ i = .int .i64 k) (fun i _ => Q - (intOf i).toNat)
    case atStart => exact ⟨rfl, 0, Nat.zero_le _, rfl⟩
    case round =>
      obtain ⟨rfl, k, hk, rfl⟩ := hrel
      have hks : (k : Int) * s ≤ 5000 * 64 := by
        have h3 : k * s ≤ 5000 * 64 := Nat.mul_le_mul (by omega) (by omega)
        have h4 : ((k * s : Nat) : Int) ≤ ((5000 * 64 : Nat) : Int) := by omega
        simpa using h4
      have hks0 : 0 ≤ (k : Int) * s := Int.mul_nonneg (by omega) (by omega)
      by_cases hlt : k < Q
      · have h3 := (unhide HC k).2 hlt
        have q1 : (k : Int) * s < l := by
          have : ((k * s : Nat) : Int) < l := by omega
          simpa using this
        clear h3
        go_wp2
        go_roundw
        case rel => exact ⟨trivial, k + 1, by omega, by go_num⟩
        case measure => simp [intOf]; omega
      · have hke : k = Q := by omega
        subst hke
        have h3 : ¬ k * s < l := fun h => absurd ((unhide HC k).1 h) (by omega)
        have q1 : ¬ (k : Int) * s < l := by
          intro h
          apply h3
          have : ((k * s : Nat) : Int) < l := by simpa using h
          omega
        clear h3
        by_cases c : k ≤ 96
        · have q2 : ¬ (96 : Int) < k := by omega
          go_wp2
          go_ret
          exact ⟨by rw [← unhide HE, if_pos c]; rfl, rfl⟩
        · have q2 : (96 : Int) < k := by omega
          go_wp2
          go_ret
          exact ⟨by rw [← unhide HE, if_neg c]; rfl, rfl⟩

end Go.Proofs.Ytcpkjnfppglpoaa

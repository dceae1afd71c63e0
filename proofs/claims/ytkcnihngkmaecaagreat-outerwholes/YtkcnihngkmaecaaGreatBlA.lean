
/- Contracts of block's small functions, and of the document's: sizes, counts, blocks of bytes 0. -/
import Derived.Test.YtkcnihngkmaecaaGreatTxtS
import Derived.Test.YtkcnihngkmaecaaGreatBrow
namespace Go.Proofs.YtkcnihngkmaecaaGreat
open Go.RowKit
set_option linter.unusedVariables false

/-- may a size be? -/
def may (n : Int) : Bool := decide (1 ≤ n ∧ n ≤ 64)
theorem may_iff {n : Int} : may n = true ↔ 1 ≤ n ∧ n ≤ 64 := by unfold may; simp
theorem may_not {n : Int} : may n = false ↔ n < 1 ∨ 64 < n := by unfold may; simp; omega

theorem isSize_any (n : Int) (w : World) : Calls Tryz.prog 74 #[.int .i64 n] w fun e w' => e = .returned (.bool (may n)) ∧ w = w' := by
  cases h : may n with
  | true =>
    obtain ⟨h1, h2⟩ := may_iff.1 h
    clear h
    go_enter Tryz.func74, Tryz.ntmps74
    go_wp2
    go_ret
    exact ⟨rfl, rfl⟩
  | false =>
    rcases may_not.1 h with h1 | h1
    · have h2 : ¬ (1 : Int) ≤ n := by omega
      clear h
      go_enter Tryz.func74, Tryz.ntmps74
      go_wp2
      go_ret
      exact ⟨rfl, rfl⟩
    · have h2 : (1 : Int) ≤ n := by omega
      have h3 : ¬ n ≤ 64 := by omega
      clear h
      go_enter Tryz.func74, Tryz.ntmps74
      go_wp2
      go_ret
      exact ⟨rfl, rfl⟩
theorem rmay_any (n : Int) (w : World) : Calls Tryz.prog 56 #[.int .i64 n] w fun e w' => e = .returned (.bool (may n)) ∧ w = w' := by
  cases h : may n with
  | true =>
    obtain ⟨h1, h2⟩ := may_iff.1 h
    clear h
    go_enter Tryz.func56, Tryz.ntmps56
    go_wp2
    go_ret
    exact ⟨rfl, rfl⟩
  | false =>
    rcases may_not.1 h with h1 | h1
    · have h2 : ¬ (1 : Int) ≤ n := by omega
      clear h
      go_enter Tryz.func56, Tryz.ntmps56
      go_wp2
      go_ret
      exact ⟨rfl, rfl⟩
    · have h2 : (1 : Int) ≤ n := by omega
      have h3 : ¬ n ≤ 64 := by omega
      clear h
      go_enter Tryz.func56, Tryz.ntmps56
      go_wp2
      go_ret
      exact ⟨rfl, rfl⟩

/-- a block of bytes 0 -/
def zeroL (n : Int) : By := if may n = true then List.replicate n.toNat 0 else []
theorem zero_any (n : Int) (w : World) : Calls Tryz.prog 59 #[.int .i64 n] w fun e w' => e = .returned (.string (bs (zeroL n))) ∧ Below w.heap.size w w' := by
  have hm := hide (isSize_any n)
  cases h : may n with
  | true =>
    rw [h] at hm
    obtain ⟨h1, h2⟩ := may_iff.1 h
    have hz : zeroL n = List.replicate n.toNat 0 := by unfold zeroL; rw [if_pos h]
    rw [hz]
    obtain ⟨m, rfl⟩ : ∃ m : Nat, n = m := ⟨n.toNat, by omega⟩
    rw [Int.toNat_natCast]
    clear h hz
    have hm1 : m ≤ 64 := by omega
    go_enter Tryz.func59, Tryz.ntmps59
    go_wp2_with fail
    refine (unhide hm _).mono ?_
    rintro e w1 ⟨rfl, rfl⟩
    obtain ⟨i0, hi, hz0, hz1, hz2⟩ := info_parts Tryz.infoUb
    go_wp2_with (at_make; refine wpList_make_full _ rfl _ _ 88 rfl w.heap.size 5 i0 (.int .u8 0) 1 Tryz.undBb hi hz0 hz1 .i64 .i64 _ _ m rfl rfl rfl rfl ?c2 ?c3 ?c4 ?_)
    case c2 => rw [hz2]; omega
    case c3 => unfold maxLen; omega
    case c4 => exact Nat.le_refl _
    intro w1 hown hgrow
    have hb1 : Below w.heap.size w w1 := (Below.refl _ _).grown hgrow (Nat.le_refl _) (by intro k hk; cases hk)
    rw [made_bytes] at hown
    have hcv := run_string_own (P := Tryz.prog) 88 9 Tryz.undBb (by kernel_rfl) (by kernel_rfl) hown
    clear hgrow hown
    have HB := hide hb1
    clear hb1
    generalize hD : (List.replicate m (0 : UInt8)).toArray = D at *
    have HD := hide hD
    clear hD
    go_wp2
    go_ret
    exact ⟨by rw [← unhide HD]; rfl, unhide HB⟩
  | false =>
    rw [h] at hm
    have hz : zeroL n = [] := by unfold zeroL; rw [if_neg (by rw [h]; simp)]
    rw [hz]
    clear h hz
    go_enter Tryz.func59, Tryz.ntmps59
    go_wp2_with fail
    refine (unhide hm _).mono ?_
    rintro e w1 ⟨rfl, rfl⟩
    go_wp2
    go_ret
    exact ⟨rfl, Below.refl _ _⟩

theorem zeroL_nat (m : Nat) (h1 : 1 ≤ m) (h2 : m ≤ 64) : zeroL m = List.replicate m 0 := by
  unfold zeroL
  rw [if_pos (may_iff.2 (by omega)), Int.toNat_natCast]
set_option maxHeartbeats 1000000 in
theorem rzero_any (n : Int) (w : World) : Calls Tryz.prog 41 #[.int .i64 n] w fun e w' => e = .returned (.string (bs (zeroL n))) ∧ Below w.heap.size w w' := by
  have hm := hide (rmay_any n)
  cases h : may n with
  | true =>
    rw [h] at hm
    obtain ⟨h1, h2⟩ := may_iff.1 h
    obtain ⟨m, rfl⟩ : ∃ m : Nat, n = m := ⟨n.toNat, by omega⟩
    rw [zeroL_nat m (by omega) (by omega)]
    clear h
    have hm1 : m ≤ 64 := by omega
    obtain ⟨i0, hi, hz0, hz1, hz2⟩ := info_parts Tryz.infoUb
    go_enter Tryz.func41, Tryz.ntmps41
    go_wp2_with fail
    go_loopw [3, 4] (fun v i wr => ∃ k : Nat, k ≤ m ∧ i = .int .i64 k ∧ wr.ownsRow w.heap.size 5 1 v k (bc (List.replicate k 0)) ∧ Below w.heap.size w wr) (fun _ i _ => m - (intOf i).toNat)
    case atStart => exact ⟨0, Nat.zero_le _, rfl, World.ownsRow_nil _ _ _ _, Below.refl _ _⟩
    case round =>
      obtain ⟨k, hk, rfl, hown, hb⟩ := hrel
      obtain ⟨ao, cap, rfl⟩ := own_shape' hown
      have hz := hb.size
      have HO := hide hown
      have HB := hide hb
      clear hown hb
      by_cases hlt : k < m
      · have q1 : (k : Int) < m := by omega
        go_wp2_with (first | (go_at_call 56; refine (unhide hm _).mono ?_; rintro e w1 ⟨rfl, rfl⟩) | (at_builtin; refine wpList_append_own _ rfl _ _ 88 rfl w.heap.size 5 i0 (.int .u8 0) 1 1 Tryz.undBb hi hz0 hz1 hz2 rfl (by decide) _ _ _ rfl ((unhide HO).alloc _) ⟨wr.heap.size, 0, none⟩ 1 1 [.int .u8 0] rfl rfl (news_lit _ [_] _) ?c2 ?c3 ?c4 ?c5 ?_))
        case c2 => intro u hu; simp at hu; subst hu; rfl
        case c3 => unfold maxLen; omega
        case c4 => omega
        case c5 => simp; omega
        intro v' w3 hown' hgrow _
        have hb' := hide ((((unhide HB).alloc (by omega) _)).grown hgrow (by simp; omega) (fun k hk => (((unhide HO).lt k hk).1)))
        have ho2 : Hid (w3.ownsRow w.heap.size 5 1 v' (k + 1) (bc (List.replicate (k + 1) 0))) := by
          show World.ownsRow _ _ _ _ _ _ _
          rw [List.replicate_succ', bc_append]
          exact hown'
        obtain ⟨ao', cap', rfl⟩ := own_shape' hown'
        clear hown' hgrow HO HB
        go_wp2
        go_roundw
        case rel => exact ⟨k + 1, by omega, by go_num, unhide ho2, unhide hb'⟩
        case measure => simp [intOf]; omega
      · have hke : k = m := by omega
        subst hke
        have q1 : ¬ (k : Int) < k := by omega
        have hcv := run_string_own (P := Tryz.prog) 88 9 Tryz.undBb (by kernel_rfl) (by kernel_rfl) (unhide HO)
        generalize hD : (List.replicate k (0 : UInt8)).toArray = D at *
        have HD := hide hD
        clear hD
        go_wp2
        go_ret
        exact ⟨by rw [← unhide HD]; rfl, unhide HB⟩
  | false =>
    rw [h] at hm
    have hz : zeroL n = [] := by unfold zeroL; rw [if_neg (by rw [h]; simp)]
    rw [hz]
    have hcv : ∀ w, (convert 88 9 (.slice none 0 0)).run Tryz.prog w = .ok (.string ⟨#[]⟩) w := fun w => run_string_own (P := Tryz.prog) (w := w) (l := []) 88 9 Tryz.undBb (by kernel_rfl) (by kernel_rfl) (World.ownsRow_nil w 0 _ _)
    clear h hz
    go_enter Tryz.func41, Tryz.ntmps41
    go_wp2_with fail
    go_loopw [3, 4] (fun v i wr => v = .slice none 0 0 ∧ i = .int .i64 0 ∧ w = wr) (fun _ i _ => 0)
    case atStart => exact ⟨rfl, rfl, rfl⟩
    case round =>
      obtain ⟨rfl, rfl, rfl⟩ := hrel
      by_cases hlt : (0 : Int) < n
      · go_wp2_with (go_at_call 56; refine (unhide hm _).mono ?_; rintro e w1 ⟨rfl, rfl⟩)
        go_ret
        exact ⟨rfl, Below.refl _ _⟩
      · go_wp2
        go_ret
        exact ⟨rfl, Below.refl _ _⟩

/-- how many blocks of a size there are -/
def countN (long size : Int) : Nat :=
  if (1 ≤ long ∧ long ≤ 4096) ∧ may size = true then (if ((long + size - 1) / size) ≤ 96 then ((long + size - 1) / size).toNat else 0) else 0
theorem countN_le (long size : Int) : countN long size ≤ 96 := by
  unfold countN
  split
  · split
    · omega
    · omega
  · omega
theorem countN_pos {long size : Int} (h : countN long size ≠ 0) : ∃ l s : Nat, long = l ∧ size = s ∧ 1 ≤ l ∧ l ≤ 4096 ∧ 1 ≤ s ∧ s ≤ 64 ∧ countN long size = (l + s - 1) / s := by
  unfold countN at h ⊢
  by_cases h1 : (1 ≤ long ∧ long ≤ 4096) ∧ may size = true
  · rw [if_pos h1] at h ⊢
    by_cases h2 : ((long + size - 1) / size) ≤ 96
    · rw [if_pos h2]
      obtain ⟨m1, m2⟩ := may_iff.1 h1.2
      obtain ⟨l, rfl⟩ : ∃ m : Nat, long = m := ⟨long.toNat, by omega⟩
      obtain ⟨s, rfl⟩ : ∃ m : Nat, size = m := ⟨size.toNat, by omega⟩
      refine ⟨l, s, rfl, rfl, by omega, by omega, by omega, by omega, ?_⟩
      have : ((l : Int) + s - 1) / s = (((l + s - 1) / s : Nat) : Int) := by
        rw [Int.natCast_ediv]
        congr 1
        omega
      rw [this]
      exact Int.toNat_natCast _
    · rw [if_neg h2] at h; exact absurd rfl h
  · rw [if_neg h1] at h; exact absurd rfl h
/-- the least number of blocks that hold all -/
theorem ceil_lt (l s k : Nat) (hs : 1 ≤ s) (hl : 1 ≤ l) : k * s < l ↔ k < (l + s - 1) / s := by
  rw [Nat.lt_div_iff_mul_lt (by omega)]
  constructor
  · intro h
    omega
  · intro h
    omega
end Go.Proofs.YtkcnihngkmaecaaGreat

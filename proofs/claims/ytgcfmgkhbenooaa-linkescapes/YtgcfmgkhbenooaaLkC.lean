/- Contracts of strings.IndexByte at the digits, of link's escaped, and of the document's digit. -/
import Derived.Test.YtgcfmgkhbenooaaLkB
import Derived.Test.YtgcfmgkhbenooaaGrT
import Derived.Laws.Externs
namespace Go.Proofs.Ytgcfmgkhbenooaa
open Go.RowKit
set_option linter.unusedVariables false

/-- the number of a digit; 16: it is none -/
def dgN (c : Nat) : Nat := if 48 ≤ c ∧ c ≤ 57 then c - 48 else if 65 ≤ c ∧ c ≤ 70 then c - 55 else 16
theorem dgN_cases (c : Nat) : (48 ≤ c ∧ c ≤ 57 ∧ dgN c = c - 48) ∨ (65 ≤ c ∧ c ≤ 70 ∧ dgN c = c - 55) ∨ ((c < 48 ∨ 57 < c) ∧ (c < 65 ∨ 70 < c) ∧ dgN c = 16) := by
  unfold dgN
  split <;> (try split) <;> omega
theorem dgN_le (c : Nat) : dgN c ≤ 16 := by rcases dgN_cases c with h | h | h <;> omega

set_option maxRecDepth 100000 in
theorem digit_any (c : Nat) (hc : c < 256) (w : World) :
    Calls Try.prog 21 #[.int .u8 (c : Nat)] w fun e w' => e = .returned (.int .u8 (dgN c : Nat)) ∧ w = w' := by
  rcases dgN_cases c with ⟨h1, h2, h3⟩ | ⟨h1, h2, h3⟩ | ⟨h1, h2, h3⟩
  · have a1 : (48 : Int) ≤ c := by omega
    have a2 : (c : Int) ≤ 57 := by omega
    have e : ((dgN c : Nat) : Int) = c - 48 := by omega
    rw [e]
    clear h3 e
    go_enter Try.func21, Try.ntmps21
    go_wp2
    go_ret
    exact ⟨rfl, rfl⟩
  · have a1 : (65 : Int) ≤ c := by omega
    have a2 : (c : Int) ≤ 70 := by omega
    have a3 : (48 : Int) ≤ c := by omega
    have a4 : ¬ (c : Int) ≤ 57 := by omega
    have e : ((dgN c : Nat) : Int) = c - 55 := by omega
    rw [e]
    clear h3 e
    go_enter Try.func21, Try.ntmps21
    go_wp2
    go_ret
    exact ⟨rfl, rfl⟩
  · rw [h3]
    clear h3
    have hb : c < 48 ∨ (57 < c ∧ c < 65) ∨ 70 < c := by omega
    clear h1 h2
    rcases hb with h | ⟨h, h'⟩ | h
    · go_enter Try.func21, Try.ntmps21
      go_wp2
      go_ret
      exact ⟨rfl, rfl⟩
    · go_enter Try.func21, Try.ntmps21
      go_wp2
      go_ret
      exact ⟨rfl, rfl⟩
    · go_enter Try.func21, Try.ntmps21
      go_wp2
      go_ret
      exact ⟨rfl, rfl⟩

theorem ibs_run (s : ByteArray) (c : Int) (w : World) : (callFunc 24 #[.string s, .int .u8 c]).run Try.prog w = .ok (.value (.int .i64 (firstIdx s c.toNat.toUInt8))) w := by
  rw [run_callFunc_extern (fn := Try.f24) (e := Extern.BytealgIndexByte.indexByte) Try.func24 (by kernel_rfl) (by kernel_rfl) (by kernel_rfl) (by kernel_rfl), run_indexByte_string]
  rfl

set_option maxRecDepth 100000 in
theorem slIndexByte_any (s : ByteArray) (c : Int) (w : World) : Calls Try.prog 23 #[.string s, .int .u8 c] w fun e w' => e = .returned (.int .i64 (firstIdx s c.toNat.toUInt8)) ∧ w = w' := by
  have hs := ibs_run s c
  generalize firstIdx s c.toNat.toUInt8 = R at *
  go_enter Try.func23, Try.ntmps23
  go_wp2_with (simp only [hs])
  go_ret
  exact ⟨rfl, rfl⟩
set_option maxRecDepth 100000 in
theorem indexByte_any (s : ByteArray) (c : Int) (w : World) : Calls Try.prog 14 #[.string s, .int .u8 c] w fun e w' => e = .returned (.int .i64 (firstIdx s c.toNat.toUInt8)) ∧ w = w' := by
  have hs := hide (fun w => slIndexByte_any s c w)
  generalize firstIdx s c.toNat.toUInt8 = R at *
  go_enter Try.func14, Try.ntmps14
  go_wp2_with fail
  refine (unhide hs _).mono ?_
  rintro e w1 ⟨rfl, rfl⟩
  go_wp2
  go_ret
  exact ⟨rfl, rfl⟩

/-- where a digit stands -/
def dgI (c : Nat) : Int := if dgN c = 16 then -1 else (dgN c : Nat)
theorem dig_idx (c : Nat) (hc : c < 256) : firstIdx ⟨#[48, 49, 50, 51, 52, 53, 54, 55, 56, 57, 65, 66, 67, 68, 69, 70]⟩ ((c : Nat) : Int).toNat.toUInt8 = dgI c := by
  have : ∀ m : Fin 256, firstIdx ⟨#[48, 49, 50, 51, 52, 53, 54, 55, 56, 57, 65, 66, 67, 68, 69, 70]⟩ ((m.val : Nat) : Int).toNat.toUInt8 = dgI m.val := by decide +kernel
  exact this ⟨c, hc⟩
theorem digIdx_any (c : Nat) (hc : c < 256) (w : World) : Calls Try.prog 14 #[.string ⟨#[48, 49, 50, 51, 52, 53, 54, 55, 56, 57, 65, 66, 67, 68, 69, 70]⟩, .int .u8 (c : Nat)] w fun e w' => e = .returned (.int .i64 (dgI c)) ∧ w = w' := by
  have := indexByte_any ⟨#[48, 49, 50, 51, 52, 53, 54, 55, 56, 57, 65, 66, 67, 68, 69, 70]⟩ ((c : Nat) : Int) w
  rwa [dig_idx c hc] at this

/-- what escaped answers at three bytes -/
def escV (b x y : Nat) : Nat × Bool := if b = 37 ∧ dgN x ≠ 16 ∧ dgN y ≠ 16 then (16 * dgN x + dgN y, !plN (16 * dgN x + dgN y)) else (0, false)

set_option maxRecDepth 100000 in
theorem escaped_short (s : ByteArray) (w : World) (h : s.size < 3) : Calls Try.prog 20 #[.string s] w fun e w' => e = .returned (.tuple #[.int .u8 0, .bool false]) ∧ Below w.heap.size w w' := by
  have h1 : ((s.size : Nat) : Int) < 3 := by omega
  go_enter Try.func20, Try.ntmps20
  go_wp2
  go_ret2
  exact ⟨rfl, Below.refl _ _⟩
theorem or16 (a b : Nat) (ha : a < 16) (hb : b < 16) : bits .or .i64 ((a : Int) * 16) b = ((16 * a + b : Nat) : Int) := by
  have : ∀ x y : Fin 16, bits .or .i64 ((x.val : Int) * 16) (y.val : Int) = ((16 * x.val + y.val : Nat) : Int) := by decide +kernel
  exact this ⟨a, ha⟩ ⟨b, hb⟩
theorem wrap256 (n : Nat) (h : n < 256) : IntKind.u8.wrap ((n : Nat) : Int) = ((n : Nat) : Int) := by
  have : ∀ m : Fin 256, IntKind.u8.wrap ((m.val : Nat) : Int) = ((m.val : Nat) : Int) := by decide +kernel
  exact this ⟨n, h⟩

set_option maxRecDepth 100000 in
set_option maxHeartbeats 1000000 in
theorem escaped_three (s : ByteArray) (b x y : Nat) (w : World) (h : 3 ≤ s.size) (hb : b < 256) (hx : x < 256) (hy : y < 256)
    (i0 : ∀ w, (Instr.index 9 (.string s) (.int .i64 0)).run Try.prog w = .ok (.int .u8 (b : Nat)) w) (i1 : ∀ w, (Instr.index 9 (.string s) (.int .i64 1)).run Try.prog w = .ok (.int .u8 (x : Nat)) w) (i2 : ∀ w, (Instr.index 9 (.string s) (.int .i64 2)).run Try.prog w = .ok (.int .u8 (y : Nat)) w) :
    Calls Try.prog 20 #[.string s] w fun e w' => e = .returned (.tuple #[.int .u8 ((escV b x y).1 : Nat), .bool (escV b x y).2]) ∧ Below w.heap.size w w' := by
  have h1 : ¬ ((s.size : Nat) : Int) < 3 := by omega
  have h1' : decide (((s.size : Nat) : Int) < 3) = false := decide_eq_false h1
  by_cases hb37 : b = 37
  · subst hb37
    have g1 := hide (fun w => digIdx_any x hx w)
    have g2 := hide (fun w => digIdx_any y hy w)
    have hxl := dgN_le x
    have hyl := dgN_le y
    have hd1 : dgI x = if dgN x = 16 then (-1 : Int) else ((dgN x : Nat) : Int) := rfl
    have hd2 : dgI y = if dgN y = 16 then (-1 : Int) else ((dgN y : Nat) : Int) := rfl
    have hE : escV 37 x y = if 37 = 37 ∧ dgN x ≠ 16 ∧ dgN y ≠ 16 then (16 * dgN x + dgN y, !plN (16 * dgN x + dgN y)) else (0, false) := rfl
    have hor := or16 (dgN x) (dgN y)
    have hpl := hide (fun w h => isplain_any (16 * dgN x + dgN y) h w)
    generalize dgN x = X at *
    generalize dgN y = Y at *
    generalize dgI x = IX at *
    generalize dgI y = IY at *
    by_cases hX : X = 16
    · rw [if_pos hX] at hd1
      rw [if_neg (by omega)] at hE
      subst hd1
      rw [hE]
      clear hE hor hpl hd2 hX hxl hyl
      go_enter Try.func20, Try.ntmps20
      go_wp2_with fail
      have hne := gb_ne w
      refine wp_region_grB (by kernel_rfl) (by kernel_rfl) ?_
      iterate 3 (go_big_quiet_step ((go_at_call 14; exact gb_same (unhide g1 _))))
      repeat (go_big_quiet_step ((go_at_call 14; exact gb_same (unhide g2 _))))
      refine wpQuiet_nil ?_
      rintro w7 ⟨⟨_, b7⟩, rfl⟩
      have B7 := hide b7
      clear b7
      go_wp2
      go_ret2
      exact ⟨rfl, unhide B7⟩
    · rw [if_neg hX] at hd1
      subst hd1
      by_cases hY : Y = 16
      · rw [if_pos hY] at hd2
        rw [if_neg (by omega)] at hE
        subst hd2
        rw [hE]
        have u1 : ¬ ((X : Nat) : Int) < 0 := by omega
        clear hE hor hpl hX hY hxl hyl
        go_enter Try.func20, Try.ntmps20
        go_wp2_with fail
        have hne := gb_ne w
        refine wp_region_grB (by kernel_rfl) (by kernel_rfl) ?_
        iterate 3 (go_big_quiet_step ((go_at_call 14; exact gb_same (unhide g1 _))))
        repeat (go_big_quiet_step ((go_at_call 14; exact gb_same (unhide g2 _))))
        refine wpQuiet_nil ?_
        rintro w7 ⟨⟨_, b7⟩, rfl⟩
        have B7 := hide b7
        clear b7
        go_wp2
        go_ret2
        exact ⟨rfl, unhide B7⟩
      · rw [if_neg hY] at hd2
        rw [if_pos ⟨rfl, hX, hY⟩] at hE
        subst hd2
        rw [hE]
        have u1 : ¬ ((X : Nat) : Int) < 0 := by omega
        have u2 : ¬ ((Y : Nat) : Int) < 0 := by omega
        have hor := hor (by omega) (by omega)
        have hwr := wrap256 (16 * X + Y) (by omega)
        have hpl := hide (fun w => unhide hpl w (by omega))
        generalize plN (16 * X + Y) = PB at *
        have hbX : ((X : Nat) : Int) ≤ 15 := by omega
        generalize 16 * X + Y = V at *
        clear hE hX hY hxl hyl
        go_enter Try.func20, Try.ntmps20
        go_wp2_with fail
        have hne := gb_ne w
        refine wp_region_grB (by kernel_rfl) (by kernel_rfl) ?_
        iterate 3 (go_big_quiet_step ((go_at_call 14; exact gb_same (unhide g1 _))))
        repeat (go_big_quiet_step ((go_at_call 14; exact gb_same (unhide g2 _))))
        refine wpQuiet_nil ?_
        rintro w7 ⟨⟨_, b7⟩, rfl⟩
        have B7 := hide b7
        clear b7
        go_wp2_with fail
        refine (unhide hpl _).mono ?_
        rintro e w9 ⟨rfl, rfl⟩
        go_wp2
        go_ret2
        exact ⟨rfl, unhide B7⟩
  · have e1 : (((b : Nat) : Int) != 37) = true := by simp; omega
    have e2 : ¬ ((b : Nat) : Int) = 37 := by omega
    have hE : escV b x y = (0, false) := by unfold escV; rw [if_neg (by omega)]
    rw [hE]
    go_enter Try.func20, Try.ntmps20
    go_wp2
    go_ret2
    exact ⟨rfl, Below.refl _ _⟩

end Go.Proofs.Ytgcfmgkhbenooaa

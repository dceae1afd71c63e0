/- Contracts of the document's own functions of layer 2: power, Put, Get. -/
import Derived.Test.YthgijdhifhnmfaaOctG
namespace Go.Proofs.Ythgijdhifhnmfaa
open Go.RowKit
set_option linter.unusedVariables false

/-- 256 to the j -/
def pw (j : Nat) : Int := 2 ^ (8 * j)
theorem pw_zero : pw 0 = 1 := rfl
theorem pw_succ (j : Nat) : pw (j + 1) = pw j * 256 := by
  unfold pw
  rw [show 8 * (j + 1) = 8 * j + 8 by omega, Int.pow_add]
  rfl
theorem pw_pos (j : Nat) : 1 ≤ pw j := by have : (0 : Int) < 2 ^ (8 * j) := Int.pow_pos (by omega); unfold pw; omega
theorem pw_le {i j : Nat} (h : i ≤ j) : pw i ≤ pw j := by
  induction h with
  | refl => exact Int.le_refl _
  | step h ih => rw [pw_succ]; have := pw_pos i; omega
theorem pw6 : pw 6 = 281474976710656 := rfl
theorem pw7 : pw 7 = 72057594037927936 := rfl

set_option maxRecDepth 100000 in
theorem power_any (k : Nat) (w : World) (hk : k ≤ 7) :
    Calls Try.prog 52 #[.int .i64 k] w fun e w' => e = .returned (.int .i64 (pw k)) ∧ w = w' := by
  go_enter Try.func52, Try.ntmps52
  go_wp2
  go_loop [3, 4] (fun n i => ∃ j : Nat, j ≤ k ∧ i = .int .i64 j ∧ n = .int .i64 (pw j)) (fun _ i => k - (intOf i).toNat)
  case atStart => exact ⟨0, Nat.zero_le _, rfl, rfl⟩
  case round =>
    obtain ⟨j, hj, rfl, rfl⟩ := hrel
    by_cases hlt : j < k
    · have hs := hide (pw_succ j)
      have h1 := pw_pos j
      have h2 : pw j ≤ 281474976710656 := by have := pw_le (show j ≤ 6 by omega); rw [pw6] at this; exact this
      go_wp2
      go_round
      case rel => exact ⟨j + 1, by omega, by go_num, by rw [unhide hs]⟩
      case measure => simp [intOf]; omega
    · have : j = k := by omega
      subst this
      go_wp2
      go_ret
      exact ⟨rfl, rfl⟩

set_option maxRecDepth 100000 in
theorem rget_any (s : ByteArray) (w : World) (hs : s.size ≤ 7) :
    Calls Try.prog 48 #[.string s] w fun x w' => x = .returned (.int .i64 (getV s.data.toList)) ∧ w = w' := by
  go_enter Try.func48, Try.ntmps48
  go_wp2
  go_loop [3, 4] (fun n i => ∃ j : Nat, j ≤ s.size ∧ i = .int .i64 j ∧ n = .int .i64 (getV (s.data.toList.take j))) (fun _ i => s.size - (intOf i).toNat)
  case atStart => exact ⟨0, Nat.zero_le _, rfl, rfl⟩
  case round =>
    obtain ⟨j, hj, rfl, rfl⟩ := hrel
    by_cases hlt : j < s.size
    · have hb := s[j].toNat_lt
      have hst : Hid (256 * getV (s.data.toList.take j) + s[j].toNat = getV (s.data.toList.take (j + 1))) := by
        show _ = _
        rw [take_snoc s j hlt, getV_snoc]; omega
      have hg0 := (getV_bounds (s.data.toList.take j)).1
      have hg1 := getV_le6 (s.data.toList.take j) (by rw [List.length_take]; omega)
      go_wp2
      go_round
      case rel => exact ⟨j + 1, by omega, by go_num, by rw [← unhide hst]⟩
      case measure => simp [intOf]; omega
    · have htk : s.data.toList.take j = s.data.toList := List.take_of_length_le (by rw [blen]; omega)
      rw [htk]
      go_wp2
      go_ret
      exact ⟨rfl, rfl⟩
set_option maxRecDepth 100000 in
theorem rget_long (s : ByteArray) (w : World) (hm : s.size ≤ maxLen) (hs : 7 < s.size) :
    Calls Try.prog 48 #[.string s] w fun x w' => x = .returned (.int .i64 0) ∧ w = w' := by
  unfold maxLen at hm
  have h7 : (7 : Int) < s.size := by omega
  go_enter Try.func48, Try.ntmps48
  go_wp2
  go_ret
  exact ⟨rfl, rfl⟩

theorem putB_take (n : Int) (size t : Nat) (h : t < size) : (putB n size).take (t + 1) = (putB n size).take t ++ [byteAt n (size - 1 - t)] := by
  have hl : t < (putB n size).length := by rw [putB_length]; exact h
  rw [List.take_succ_eq_append_getElem hl]
  congr 2
  simp [putB]

set_option maxRecDepth 100000 in
theorem rput_arg (n size : Int) (w : World) (h : size < 1 ∨ 7 < size) :
    Calls Try.prog 42 #[.int .i64 n, .int .i64 size] w fun e w' => e = .returned (.tuple #[.string ⟨#[]⟩, .int .i64 1]) ∧ w = w' := by
  rcases h with h | h
  · go_enter Try.func42, Try.ntmps42
    go_wp2
    go_ret2
    exact ⟨rfl, rfl⟩
  · have h' : ¬ size < 1 := by omega
    go_enter Try.func42, Try.ntmps42
    go_wp2
    go_ret2
    exact ⟨rfl, rfl⟩
set_option maxRecDepth 100000 in
theorem rput_over (n : Int) (size : Nat) (w : World) (h1 : 1 ≤ size) (h2 : size ≤ 7) (hn : n < 0 ∨ pw size ≤ n) :
    Calls Try.prog 42 #[.int .i64 n, .int .i64 size] w fun e w' => e = .returned (.tuple #[.string ⟨#[]⟩, .int .i64 8]) ∧ w = w' := by
  have a1 : ¬ (size : Int) < 1 := by omega
  have a2 : ¬ (7 : Int) < size := by omega
  rcases hn with hn | hn
  · go_enter Try.func42, Try.ntmps42
    go_wp2
    go_ret2
    exact ⟨rfl, rfl⟩
  · have hp := pw_pos size
    have h' : ¬ n < 0 := by omega
    go_enter Try.func42, Try.ntmps42
    go_wp2_with (go_at_call 52; refine (power_any _ _ h2).mono ?_; rintro e w' ⟨rfl, rfl⟩)
    go_ret2
    exact ⟨rfl, rfl⟩

set_option maxRecDepth 100000 in
set_option maxHeartbeats 400000 in
theorem rput_ok (n : Int) (size : Nat) (w : World) (h1 : 1 ≤ size) (h2 : size ≤ 7) (h0 : 0 ≤ n) (hn : n < pw size) :
    Calls Try.prog 42 #[.int .i64 n, .int .i64 size] w fun e w' => e = .returned (.tuple #[.string ⟨(putB n size).toArray⟩, .int .i64 0]) ∧ Below w.heap.size w w' := by
  obtain ⟨i0, hi, hz0, hz1, hz2⟩ := info_parts Try.info5
  have a1 : ¬ (size : Int) < 1 := by omega
  have a2 : ¬ (7 : Int) < size := by omega
  have h' : ¬ n < 0 := by omega
  go_enter Try.func42, Try.ntmps42
  go_wp2_with (go_at_call 52; refine (power_any _ _ h2).mono ?_; rintro e w' ⟨rfl, rfl⟩)
  go_loopw [6, 7] (fun v i wr => ∃ t : Nat, t ≤ size ∧ i = .int .i64 ((size : Int) - 1 - t) ∧ wr.ownsRow w.heap.size 5 1 v t (bc ((putB n size).take t)) ∧ Below w.heap.size w wr) (fun _ i _ => (intOf i + 1).toNat)
  case atStart => exact ⟨0, Nat.zero_le _, by go_num, World.ownsRow_nil _ _ _ _, Below.refl _ _⟩
  case round =>
    obtain ⟨t, ht, rfl, hown, hb⟩ := hrel
    by_cases hlt : t < size
    · obtain ⟨i, hi2⟩ := Int.eq_ofNat_of_zero_le (show (0 : Int) ≤ (size : Int) - 1 - t by omega)
      have hie : size - 1 - t = i := by omega
      rw [hi2]
      have HI := hide hi2
      have hp := pw_pos i
      obtain ⟨q, hq⟩ : ∃ q, q = n / pw i := ⟨_, rfl⟩
      have hq0 : 0 ≤ q := by rw [hq]; exact Int.ediv_nonneg h0 (by omega)
      have hq1 : q ≤ 72057594037927936 := by
        rw [hq]
        have e1 : n / pw i ≤ n := Int.ediv_le_self _ h0
        have e2 := pw_le h2
        rw [pw7] at e2
        omega
      have hdv : wrap64 (n.tdiv (pw i)) = q := by
        rw [Int.tdiv_eq_ediv_of_nonneg h0, ← hq]
        exact IntWalk.wrap64_in q ⟨by omega, by omega⟩
      have hby : Hid (byteAt n i = byteOf (q % 256)) := by show _ = _; rw [hq]; rfl
      have htk := hide (putB_take n size t hlt)
      have hz := hb.size
      clear hi2 hq
      go_wp2_with (first | (go_at_call 52; refine (power_any i _ (by omega)).mono ?_; rintro e w' ⟨rfl, rfl⟩) | (at_builtin; refine wpList_append_own _ rfl _ _ 73 rfl w.heap.size 5 i0 (.int .u8 0) 1 1 Try.und27 hi hz0 hz1 hz2 rfl (by decide) _ _ _ rfl (hown.alloc _) ⟨wr.heap.size, 0, none⟩ 1 1 [.int .u8 (q % 256)] rfl rfl ?c1 ?c2 ?c3 ?c4 ?c5 ?_))
      case c1 => exact cell_one_new _ _ _
      case c2 => intro u hu; simp at hu; subst hu; rfl
      case c3 => unfold maxLen; omega
      case c4 => omega
      case c5 => simp; omega
      intro v' w1 hown' hgrow _
      have hb' : Below w.heap.size w w1 := ((hb.alloc (by omega) _).grown hgrow (by simp; omega) (fun k hk => ((hown.lt k hk).1)))
      have ho2 : Hid (w1.ownsRow w.heap.size 5 1 v' (t + 1) (bc ((putB n size).take (t + 1)))) := by
        show World.ownsRow _ _ _ _ _ _ _
        rw [unhide htk, hie, bc_append, unhide hby]
        have e : bc [byteOf (q % 256)] = [.int .u8 (q % 256)] := by simp [bc, byteOf_toNat (q % 256) (by omega) (by omega)]
        rw [e]
        exact hown'
      obtain ⟨ao', cap', rfl⟩ := own_shape hown'
      clear hown' hgrow hown hb hdv
      go_wp2
      go_roundw
      case rel => exact ⟨t + 1, by omega, by have := unhide HI; go_num, unhide ho2, hb'⟩
      case measure => have := unhide HI; simp [intOf]
    · have hte : t = size := by omega
      subst hte
      have hcv := run_string_own (P := Try.prog) 73 9 Try.und27 (by kernel_rfl) (by kernel_rfl) hown
      rw [List.take_of_length_le (by rw [putB_length]; omega)] at hcv
      obtain ⟨ao', cap', rfl⟩ := own_shape hown
      go_wp2
      go_ret2
      exact ⟨rfl, hb⟩

theorem rput_any (n size : Int) (w : World) :
    Calls Try.prog 42 #[.int .i64 n, .int .i64 size] w fun e w' => e = .returned (.tuple #[.string ⟨(putS n size).1.toArray⟩, .int .i64 (putS n size).2]) ∧ Below w.heap.size w w' := by
  unfold putS
  by_cases hs : size < 1 ∨ 7 < size
  · rw [if_pos hs]
    refine (rput_arg n size w hs).mono ?_
    rintro e w' ⟨rfl, rfl⟩
    exact ⟨rfl, Below.refl _ _⟩
  · rw [if_neg hs]
    obtain ⟨k, rfl⟩ := Int.eq_ofNat_of_zero_le (show 0 ≤ size by omega)
    rw [Int.toNat_natCast]
    by_cases hd : n < 0 ∨ n / 2 ^ (8 * k) ≠ 0
    · rw [if_pos hd]
      refine (rput_over n k w (by omega) (by omega) ?_).mono ?_
      · rcases hd with h | h
        · exact .inl h
        · by_cases h0 : n < 0
          · exact .inl h0
          · refine .inr (Int.not_lt.1 fun hlt => h ?_)
            exact Int.ediv_eq_zero_of_lt (by omega) hlt
      · rintro e w' ⟨rfl, rfl⟩
        exact ⟨rfl, Below.refl _ _⟩
    · rw [if_neg hd]
      refine rput_ok n k w (by omega) (by omega) (by omega) ?_
      have hz : n / pw k = 0 := by unfold pw; omega
      have h3 := Int.mul_ediv_add_emod n (pw k)
      have h4 := Int.emod_lt_of_pos n (show 0 < pw k by have := pw_pos k; omega)
      rw [hz] at h3
      omega

end Go.Proofs.Ythgijdhifhnmfaa

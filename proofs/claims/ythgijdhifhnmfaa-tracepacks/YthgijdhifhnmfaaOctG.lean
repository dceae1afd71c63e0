/- Contract of oct.Get. -/
import Derived.Test.YthgijdhifhnmfaaOctW
import Derived.ScopeJumps
import Derived.WalkMore
namespace Go.Proofs.Ythgijdhifhnmfaa
open Go.RowKit
set_option linter.unusedVariables false

theorem getV_snoc (l : List UInt8) (b : UInt8) : getV (l ++ [b]) = getV l * 256 + b.toNat := by simp [getV]
theorem getF_bounds (l : List UInt8) : ∀ a : Int, 0 ≤ a → 0 ≤ l.foldl (fun (n : Int) b => n * 256 + b.toNat) a ∧ l.foldl (fun (n : Int) b => n * 256 + b.toNat) a < (a + 1) * 256 ^ l.length := by
  induction l with
  | nil => intro a h; simp; omega
  | cons b l ih =>
    intro a h
    have hb := b.toNat_lt
    obtain ⟨h1, h2⟩ := ih (a * 256 + b.toNat) (by omega)
    rw [List.foldl_cons, List.length_cons]
    refine ⟨h1, Int.lt_of_lt_of_le h2 ?_⟩
    rw [Int.pow_succ, Int.mul_comm (256 ^ l.length) 256, ← Int.mul_assoc]
    have hp : (0 : Int) ≤ 256 ^ l.length := Int.pow_nonneg (by omega)
    exact Int.mul_le_mul_of_nonneg_right (by omega) hp
theorem getV_bounds (l : List UInt8) : 0 ≤ getV l ∧ getV l < 256 ^ l.length := by
  have := getF_bounds l 0 (by omega)
  simpa [getV] using this
theorem take_snoc (s : ByteArray) (k : Nat) (h : k < s.size) : s.data.toList.take (k + 1) = s.data.toList.take k ++ [s[k]] := by
  rw [List.take_succ_eq_append_getElem (by simpa using h)]; rfl
theorem pow256_le {m n : Nat} (h : m ≤ n) : (256 : Int) ^ m ≤ 256 ^ n := by
  have h1 : 256 ^ m ≤ 256 ^ n := Nat.pow_le_pow_right (by omega) h
  have h2 : ((256 ^ m : Nat) : Int) ≤ ((256 ^ n : Nat) : Int) := Int.ofNat_le.2 h1
  rw [Int.natCast_pow, Int.natCast_pow] at h2
  exact h2
theorem getV_le6 (l : List UInt8) (h : l.length ≤ 6) : getV l ≤ 281474976710655 := by
  have h1 := (getV_bounds l).2
  have h2 : (256 : Int) ^ l.length ≤ 256 ^ 6 := pow256_le h
  have h3 : (256 : Int) ^ 6 = 281474976710656 := rfl
  omega
theorem or_byte (x : Int) (b : UInt8) (h0 : 0 ≤ x) (h1 : x ≤ 281474976710655) : bits .or .i64 (x * 256) b.toNat = x * 256 + b.toNat := by
  have := b.toNat_lt
  refine bits_join .i64 63 (by decide) (fun n a b => ?_) 8 _ _ (by omega) (by omega) (by omega) (by omega) (by omega) (by omega)
  simp [IntKind.wrap, IntKind.bits, IntKind.signed]
  omega
/-- the step in the walk's own form -/
theorem get_step (s : ByteArray) (k : Nat) (h : k < s.size) (hs : s.size ≤ 7) :
    bits .or .i64 (getV (s.data.toList.take k) * 256) s[k].toNat = getV (s.data.toList.take (k + 1)) := by
  have hl : (s.data.toList.take k).length ≤ 6 := by rw [List.length_take]; omega
  rw [or_byte _ _ (getV_bounds _).1 (getV_le6 _ hl), take_snoc s k h, getV_snoc]

set_option maxRecDepth 100000 in
set_option maxHeartbeats 400000 in
theorem get_any (s : ByteArray) (w : World) (hs : s.size ≤ 7) :
    Calls Try.prog 47 #[.string s] w fun x w' => x = .returned (.int .i64 (getV s.data.toList)) ∧ w = w' := by
  go_enter Try.func47, Try.ntmps47
  go_wp2
  refine wp_scope_jumps 0 (fun a' w' => w = w' ∧ ∃ (k : Nat) (u5 u6 u7 u8 u9 u10 u11 u12 u13 u14 u15 u16 u17 u18 u19 u20 u21 : Value), a' = { tmps := #[.string s, undef, .int .i64 0, .int .i64 (getV (s.data.toList.take k)), .int .i64 k, u5, u6, u7, u8, u9, u10, u11, u12, u13, u14, u15, u16, u17, u18, u19, u20, u21], defers := [] } ∧ k ≤ s.size) (fun a' _ => s.size - (intOf (a'.tmps.getD 4 undef)).toNat) rfl ?_ ?_
  · by_cases h0 : 0 < s.size
    · have hst := get_step s 0 h0 hs
      have hb := s[0].toNat_lt
      simp only [List.take_zero, show getV [] = 0 from rfl, Int.zero_mul, Nat.zero_add] at hst
      go_wp2
      go_step3
      go_wp2
      go_step3
      refine ⟨rfl, rfl, 1, _, _, _, _, _, _, _, _, _, _, _, _, _, _, _, _, _, rfl, h0⟩
    · have hl0 : s.data.toList.length = s.size := by simp
      have hz : s.data.toList = [] := List.eq_nil_of_length_eq_zero (by omega)
      clear hl0
      have hsz : (s.size : Int) = 0 := by omega
      go_wp2
      go_step3
      go_wp2
      simp only [Exit.jump]
      go_ret
      rw [hz]
      exact ⟨rfl, rfl⟩
  · rintro a' w' ⟨rfl, k, u5, u6, u7, u8, u9, u10, u11, u12, u13, u14, u15, u16, u17, u18, u19, u20, u21, rfl, hk⟩
    by_cases hlt : k < s.size
    · have hst := get_step s k hlt hs
      have hb := s[k].toNat_lt
      have hg0 := (getV_bounds (s.data.toList.take k)).1
      have hg1 := getV_le6 (s.data.toList.take k) (by rw [List.length_take]; omega)
      go_wp2
      go_step3
      refine ⟨rfl, ⟨rfl, k + 1, _, _, _, _, _, _, _, _, _, _, _, _, _, _, _, _, _, rfl, hlt⟩, ?_⟩
      simp [intOf]
      omega
    · have hks : k = s.size := by omega
      have hl0 : s.data.toList.length = s.size := by simp
      have htk : s.data.toList.take k = s.data.toList := List.take_of_length_le (by omega)
      clear hl0
      rw [htk]
      go_wp2
      simp only [Exit.jump]
      go_ret
      exact ⟨rfl, rfl⟩

set_option maxRecDepth 100000 in
theorem get_long (s : ByteArray) (w : World) (hm : s.size ≤ maxLen) (hs : 7 < s.size) :
    Calls Try.prog 47 #[.string s] w fun x w' => x = .returned (.int .i64 0) ∧ w = w' := by
  unfold maxLen at hm
  have h7 : (7 : Int) < s.size := by omega
  go_enter Try.func47, Try.ntmps47
  go_wp2
  go_step3
  go_wp2
  rw [Exit.noGoto_ret]
  go_ret
  exact ⟨rfl, rfl⟩

end Go.Proofs.Ythgijdhifhnmfaa

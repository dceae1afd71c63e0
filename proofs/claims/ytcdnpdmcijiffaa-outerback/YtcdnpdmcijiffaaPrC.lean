
/- Contracts of prng's Choose, chosen, Below. -/
import Derived.Test.YtcdnpdmcijiffaaPrB
namespace Go.Proofs.Ytcdnpdmcijiffaa
open Go.RowKit
set_option linter.unusedVariables false

/-- how many words are used: from the k-th on, of r that are left -/
def chUse (Z : Nat → Int) (m : Int) : Nat → Nat → Nat
  | 0, k => k
  | r + 1, k => if Z k < m ∨ r = 0 then k + 1 else chUse Z m r (k + 1)
def fairOf (n : Int) : Int := 4294967296 - 4294967296 % n
/-- what is chosen below n, of so many words -/
def chV (Z : Nat → Int) (n : Int) (t : Nat) : Int := Z (chUse Z (fairOf n) t 0 - 1) % n
theorem chUse_le (Z : Nat → Int) (m : Int) : ∀ r k, chUse Z m r k ≤ k + r
  | 0, k => Nat.le_refl _
  | r + 1, k => by
    rw [chUse]
    split
    · omega
    · have := chUse_le Z m r (k + 1)
      omega
theorem chUse_gt (Z : Nat → Int) (m : Int) : ∀ r k, k < chUse Z m (r + 1) k
  | 0, k => by rw [chUse, if_pos (.inr rfl)]; omega
  | r + 1, k => by
    rw [chUse]
    split
    · omega
    · have := chUse_gt Z m r (k + 1)
      omega
theorem chUse_congr (Z Y : Nat → Int) (m : Int) : ∀ r k, (∀ i, k ≤ i → i < k + r → Z i = Y i) → chUse Z m r k = chUse Y m r k
  | 0, k, _ => rfl
  | r + 1, k, h => by
    rw [chUse, chUse, h k (Nat.le_refl _) (by omega), chUse_congr Z Y m r (k + 1) (fun i h1 h2 => h i (by omega) (by omega))]

theorem isBound_any (n : Int) (w : World) : Calls Try.prog 53 #[.int .i64 n] w fun e w' => e = .returned (.bool (decide (1 ≤ n ∧ n ≤ 2147483647))) ∧ w = w' := by
  by_cases h1 : 1 ≤ n
  · by_cases h2 : n ≤ 2147483647
    · have hd : decide (1 ≤ n ∧ n ≤ 2147483647) = true := by simp; omega
      rw [hd]
      go_enter Try.func53, Try.ntmps53
      go_wp2
      go_ret
      exact ⟨rfl, rfl⟩
    · have hd : decide (1 ≤ n ∧ n ≤ 2147483647) = false := by simp; omega
      rw [hd]
      go_enter Try.func53, Try.ntmps53
      go_wp2
      go_ret
      exact ⟨rfl, rfl⟩
  · have hd : decide (1 ≤ n ∧ n ≤ 2147483647) = false := by simp; omega
    rw [hd]
    go_enter Try.func53, Try.ntmps53
    go_wp2
    go_ret
    exact ⟨rfl, rfl⟩

/-- words in a row -/
def WordsIn (w : World) (g o len : Nat) (Z : Nat → Int) : Prop := ∀ i, i < len → w.cell? ⟨g, o + i, none⟩ = some (.int .u32 (Z i)) ∧ 0 ≤ Z i ∧ Z i < 4294967296
theorem WordsIn.kept {w w' : World} {g o len c : Nat} {Z : Nat → Int} (h : WordsIn w g o len Z) (hk : Kept w.heap.size c w w') (hne : g ≠ c) : WordsIn w' g o len Z := by
  intro i hi
  obtain ⟨h1, h2⟩ := h i hi
  refine ⟨?_, h2⟩
  have hlt : g < w.heap.size := by
    rcases Nat.lt_or_ge g w.heap.size with h' | h'
    · exact h'
    · simp [World.cell?, Array.getElem?_eq_none h'] at h1
  have hb := hk.block g hlt hne
  unfold World.cell? at h1 ⊢
  simp only at h1 ⊢
  rw [hb]
  exact h1
theorem WordsIn.below {w w' : World} {g o len : Nat} {Z : Nat → Int} (h : WordsIn w g o len Z) (hk : Below w.heap.size w w') : WordsIn w' g o len Z := by
  intro i hi
  obtain ⟨h1, h2⟩ := h i hi
  refine ⟨?_, h2⟩
  have hlt : g < w.heap.size := by
    rcases Nat.lt_or_ge g w.heap.size with h' | h'
    · exact h'
    · simp [World.cell?, Array.getElem?_eq_none h'] at h1
  rw [hk.cell (p := ⟨g, o + i, none⟩) hlt]
  exact h1

end Go.Proofs.Ytcdnpdmcijiffaa

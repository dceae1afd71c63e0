
/- The document's Texts; what the law MerkleTexts does, whatever the world: it answers true and changes nothing that was there. -/
import Derived.Test.YtiaohpkcncbdnabMkTt
namespace Go.Proofs.Ytiaohpkcncbdnab
open Go.RowKit
set_option linter.unusedVariables false

theorem tree_end (ss : List By) (h : 1 ≤ ss.length) : ∃ hl : 2 * ss.length - 2 < (treeP shaSum (ss.map (leafP shaSum))).2.length, shaSum ((treeP shaSum (ss.map (leafP shaSum))).2[2 * ss.length - 2]) = (treeP shaSum (ss.map (leafP shaSum))).1 := by
  have hlen := tree_texts_len ss h
  obtain ⟨t, h1, h2⟩ := tree_last shaSum (ss.map (leafP shaSum)) (by rw [List.length_map]; exact h) (fun p hp => by obtain ⟨s, _, rfl⟩ := List.mem_map.1 hp; exact ⟨leafT s, rfl, rfl⟩)
  refine ⟨by omega, ?_⟩
  rw [List.getLast?_eq_getElem?, hlen, show 2 * ss.length - 1 - 1 = 2 * ss.length - 2 by omega, List.getElem?_eq_getElem (by omega)] at h1
  rw [Option.some.inj h1]
  exact h2
theorem knotT_len (a b : By) : (knotT a b).length = a.length + b.length + 1 := by
  simp [knotT]
theorem texts_short (ss : List By) (h : 1 ≤ ss.length) (hs : ∀ s ∈ ss, s.length ≤ 1024) : ∀ t ∈ (treeP shaSum (ss.map (leafP shaSum))).2, t.length ≤ 1100 := by
  suffices H : ∀ (N : Nat) (ss : List By), ss.length = N → 1 ≤ N → (∀ s ∈ ss, s.length ≤ 1024) → ∀ t ∈ (treeP shaSum (ss.map (leafP shaSum))).2, t.length ≤ 1100 from H _ ss rfl h hs
  intro N
  induction N using Nat.strongRecOn with
  | ind N ih =>
    intro ss hN h1 hs t ht
    by_cases e : N = 1
    · subst e
      obtain ⟨s, rfl⟩ : ∃ s, ss = [s] := by
        match ss, hN with
        | [s], _ => exact ⟨s, rfl⟩
      rw [show ([s].map (leafP shaSum)) = [leafP shaSum s] from rfl, treeP_one] at ht
      simp only [leafP, List.mem_singleton] at ht
      have := hs s (by simp)
      rw [ht]
      simp [leafT]
      omega
    · have hk1 := half_lt N (by omega)
      have hk2 := half_pos N
      have L1 : (treeP shaSum ((ss.take (half N)).map (leafP shaSum))).1.length = 32 := tree_len32 shaSum shaSum_length _ (by rw [List.length_map, List.length_take]; omega) (fun p hp => by obtain ⟨s, _, rfl⟩ := List.mem_map.1 hp; exact shaSum_length _)
      have L2 : (treeP shaSum ((ss.drop (half N)).map (leafP shaSum))).1.length = 32 := tree_len32 shaSum shaSum_length _ (by rw [List.length_map, List.length_drop]; omega) (fun p hp => by obtain ⟨s, _, rfl⟩ := List.mem_map.1 hp; exact shaSum_length _)
      rw [treeP_more shaSum _ (by rw [List.length_map]; omega), List.length_map, hN, ← List.map_take, ← List.map_drop] at ht
      simp only [joinP, List.mem_append, List.mem_singleton] at ht
      rcases ht with (ht | ht) | ht
      · exact ih (half N) hk1 (ss.take (half N)) (by rw [List.length_take]; omega) (by omega) (fun s h' => hs s (List.mem_of_mem_take h')) t ht
      · exact ih (N - half N) (by omega) (ss.drop (half N)) (by rw [List.length_drop]; omega) (by omega) (fun s h' => hs s (List.mem_of_mem_drop h')) t ht
      · rw [ht, knotT_len, L1, L2]
        omega

end Go.Proofs.Ytiaohpkcncbdnab

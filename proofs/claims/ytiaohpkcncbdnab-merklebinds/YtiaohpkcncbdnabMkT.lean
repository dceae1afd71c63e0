/- Contract of merkle's Texts. -/
import Derived.Test.YtiaohpkcncbdnabMkPl
namespace Go.Proofs.Ytiaohpkcncbdnab
open Go.RowKit
set_option linter.unusedVariables false

/-- the texts that are summed for a list -/
def textsOf (ss : List By) : List By := if mayE ss = 0 then (treeP shaSum (ss.map (leafP shaSum))).2 else []
set_option maxRecDepth 100000 in
theorem mtexts_any (ss : List By) (a0 : Option Addr) (c : Nat) (w : World) (hT : Txts w a0 ss) (h2 : ss.length ≤ 100000) (h3 : ∀ s ∈ ss, s.length ≤ 100000) :
    Calls Try.prog 12 #[.slice a0 ss.length c] w fun e w' => ∃ a1 c1, e = .returned (.slice a1 (textsOf ss).length c1) ∧ Txts w' a1 (textsOf ss) ∧ (textsOf ss).length ≤ c1 ∧ Below w.heap.size w w' := by
  have hf := hide (fun w' (hb : Below w.heap.size w w') => fault_any ss a0 c w' (hT.below hb) h2 h3)
  rcases mayE_cases ss with h0 | hE
  · obtain ⟨x1, x2, x3⟩ := mayE_ok h0
    have ht := hide (fun w' (hb : Below w.heap.size w w') => top_any ss a0 c w' (hT.below hb) x1 x2 x3)
    rw [show textsOf ss = (treeP shaSum (ss.map (leafP shaSum))).2 from if_pos h0]
    rw [h0] at hf
    clear hT h3 x3 h0
    generalize treeP shaSum (ss.map (leafP shaSum)) = P at *
    generalize ss.length = n at *
    go_enter Try.func12, Try.ntmps12
    go_wp2_with fail
    refine (unhide hf _ (Below.refl _ _)).mono ?_
    rintro e w1 ⟨rfl, rfl⟩
    go_wp2_with fail
    refine (unhide ht _ (Below.refl _ _)).mono ?_
    rintro e w2 ⟨v, rfl, ⟨a5, c5, rfl, hs, hc⟩, b2⟩
    have HS := hide hs.txts
    clear hs
    go_wp2
    rw [field_texts]
    go_wp2
    go_ret
    exact ⟨_, _, rfl, unhide HS, hc, b2⟩
  · rw [show textsOf ss = [] from if_neg (by omega)]
    clear hT h3
    generalize ss.length = n at *
    generalize mayE ss = E at *
    rcases hE with rfl | rfl
    all_goals
      go_enter Try.func12, Try.ntmps12
      go_wp2_with fail
      refine (unhide hf _ (Below.refl _ _)).mono ?_
      rintro e w1 ⟨rfl, rfl⟩
      go_wp2
      go_ret
      exact ⟨_, _, rfl, fun i hi => absurd hi (by simp), by simp, Below.refl _ _⟩

end Go.Proofs.Ytiaohpkcncbdnab

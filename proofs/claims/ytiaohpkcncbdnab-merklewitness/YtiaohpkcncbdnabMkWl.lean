/- What the law MerkleWitness does, whatever the world: it answers true and changes nothing that was there. -/
import Derived.Test.YtiaohpkcncbdnabMkWr
import Derived.Test.YtiaohpkcncbdnabOpenT
namespace Go.Proofs.Ytiaohpkcncbdnab
open Go.RowKit
set_option linter.unusedVariables false

theorem witG_eq {T : List By} {l r l' r' : Nat} (h : WitAt T T.length l r) (h' : WitAt T T.length l' r') : l = l' ∧ witG T l r = witG T l' r' := by
  obtain ⟨h1, h2⟩ := witAt_eq h h'
  subst h1
  refine ⟨rfl, ?_⟩
  unfold witG
  by_cases h3 : l < T.length
  · rw [h2 h3]
  · rw [if_neg h3, if_neg h3]

set_option maxRecDepth 100000 in
set_option maxHeartbeats 2000000 in
theorem merkleWitness_any (a0 : Option Addr) (ss : List By) (c : Nat) (w : World) (hT : Txts w a0 ss) (hm : TxtsOk ss c) :
    Calls Try.prog 5 #[.slice a0 ss.length c] w fun e w' => e = .returned (.bool true) ∧ Below w.heap.size w w' := by
  obtain ⟨m1, m2, m3⟩ := hm
  have haw := hide mawake_any
  have hfew := hide (fun w' (hb : Below w.heap.size w w') => few_any ss a0 c 20 300 w' (hT.below hb) (by omega) (by omega) (by omega) m3)
  cases hF : fewB ss 20 300 with
  | false =>
    rw [hF] at hfew
    clear hT m3 hF
    generalize ss.length = n at *
    go_enter Try.func5, Try.ntmps5
    go_wp2_with fail
    refine (unhide hfew _ (Below.refl _ _)).mono ?_
    rintro e w1 ⟨rfl, rfl⟩
    go_wp2_with fail
    refine (unhide haw _).mono ?_
    rintro e w1 ⟨rfl, b1⟩
    go_wp2
    go_ret
    exact ⟨rfl, b1⟩
  | true =>
    rw [hF] at hfew
    obtain ⟨f1, f2⟩ := of_decide_eq_true hF
    have f3 : ∀ s ∈ ss, s.length ≤ 65536 := fun s hs => Nat.le_trans (f2 s hs) (by omega)
    have h1 := hide (fun w' (hb : Below w.heap.size w w') => mwitness_any ss a0 c w' (hT.below hb) (by omega) f3)
    have h2 := hide (fun w' (hb : Below w.heap.size w w') => rwitness_any ss a0 c w' (hT.below hb) (by omega) f3)
    have heq : Hid (∀ l r l' r', WitAt ss ss.length l r → WitAt ss ss.length l' r' → l = l' ∧ witG ss l r = witG ss l' r') := fun _ _ _ _ => witG_eq
    clear hT m3 hF f2 f3
    generalize ss.length = n at *
    go_enter Try.func5, Try.ntmps5
    go_wp2_with fail
    refine (unhide hfew _ (Below.refl _ _)).mono ?_
    rintro e w1 ⟨rfl, rfl⟩
    go_wp2_with fail
    refine (unhide h1 _ (Below.refl _ _)).mono ?_
    rintro e w1 ⟨l, r, hw1, rfl, b1⟩
    go_wp2_with fail
    refine (unhide h2 _ b1).mono ?_
    rintro e w2 ⟨l', r', hw2, rfl, b2⟩
    obtain ⟨rfl, hr⟩ := unhide heq _ _ _ _ hw1 hw2
    rw [← hr]
    have B2 := hide (b1.trans (b2.mono b1.size))
    clear hw1 hw2 hr b1 b2 h1 h2 hfew heq
    generalize bs (witG ss l l) = X1 at *
    generalize bs (witG ss l r) = X2 at *
    generalize decide (l < n) = X3 at *
    go_wp2_with fail
    generalize hV : World.alloc _ _ = V
    have rV : V.heap[w2.heap.size]? = some (.cells #[.string X1, .string X2, .bool X3] 41 (0, 0)) := by rw [← hV]; exact heap_alloc_new _ _
    have BV : Hid (Below w.heap.size w V) := by rw [← hV]; exact (unhide B2).alloc (unhide B2).size _
    clear hV B2
    refine (unhide haw _).mono ?_
    rintro e w3 ⟨rfl, b3⟩
    obtain ⟨d0, d1, d2, _⟩ := three_row ((b3.block _ (lt_of_block rV)).trans rV)
    have B3 := hide ((unhide BV).trans (b3.mono (unhide BV).size))
    clear b3 BV rV
    go_wp2
    go_ret
    exact ⟨rfl, unhide B3⟩

end Go.Proofs.Ytiaohpkcncbdnab

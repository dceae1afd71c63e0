/- The document's way, Path, Same. -/
import Derived.Test.YtiaohpkcncbdnaaOpenT
namespace Go.Proofs.Ytiaohpkcncbdnaa
open Go.RowKit
set_option linter.unusedVariables false

theorem OwnS.more {w' : World} {base : Nat} {v' : Value} {T : List By} {t : By} (h : w'.ownsRow base 9 1 v' (T.length + 1) (sc T ++ [.string (bs t)])) : OwnS w' base v' (T ++ [t]) := by
  show World.ownsRow _ _ _ _ _ _ _
  rw [sc_append, List.length_append]
  exact h
theorem wayLen (l : List By) (i : Nat) (hi : i < l.length) (h : l.length ≤ 256) : (way shaSum (l.map (leafP shaSum)) i).length ≤ 8 := by
  rw [way_length shaSum _ _ (by rw [List.length_map]; exact hi), List.length_map]
  exact plan_length _ _ 8 hi h

set_option maxRecDepth 100000 in
set_option maxHeartbeats 1000000 in
theorem rway_any (N : Nat) : ∀ (ss : List By) (g o c i : Nat) (w : World), ss.length = N → Txts w (some ⟨g, o, none⟩) ss → i < N → N ≤ 256 → N ≤ c → c ≤ maxLen → (∀ s ∈ ss, s.length ≤ 1100) →
    Calls Try.prog 45 #[.slice (some ⟨g, o, none⟩) N c, .int .i64 i] w fun e w' => ∃ v, e = .returned v ∧ OwnS w' w.heap.size v (way shaSum (ss.map (leafP shaSum)) i) ∧ Below w.heap.size w w' := by
  obtain ⟨i0, hi0, hz0, hz1, hz2⟩ := info_parts Try.infoS
  induction N using Nat.strongRecOn with
  | ind N ih =>
    intro ss g o c i w hN hT h1 h2 h3 h4 h5
    by_cases e1 : N = 1
    · subst e1
      rw [way_one shaSum _ _ (by rw [List.length_map]; omega)]
      clear hT h5 ih hN
      unfold maxLen at h4
      go_enter Try.func45, Try.ntmps45
      go_wp2
      go_ret
      exact ⟨_, rfl, World.ownsRow_nil _ _ _ _, Below.refl _ _⟩
    · have hk1 := half_lt N (by omega)
      have hk2 := half_pos N
      have hh := hide (fun w => rhalf_any N w (by omega) (by omega))
      have hlm : (ss.map (leafP shaSum)).length = N := by rw [List.length_map]; exact hN
      by_cases hik : i < half N
      · have hw := hide (ih (half N) hk1 (ss.take (half N)) g o c i w (by rw [List.length_take]; omega) (hT.take _) hik (by omega) (by omega) h4 (fun s hs => h5 s (List.mem_of_mem_take hs)))
        have ht := hide (fun w' (hb : Below w.heap.size w w') => rtop_any (N - half N) (ss.drop (half N)) g (o + half N) (c - half N) w' (by rw [List.length_drop]; omega) ((hT.below hb).drop _) (by omega) (by omega) (by omega) (by omega) (fun s hs => h5 s (List.mem_of_mem_drop hs)))
        have hl8 := wayLen (ss.take (half N)) i (by rw [List.length_take]; omega) (by rw [List.length_take]; omega)
        rw [way_left shaSum _ _ (by omega) (by rw [hlm]; exact hik), hlm, ← List.map_take, ← List.map_drop]
        generalize way shaSum ((ss.take (half N)).map (leafP shaSum)) i = Y at *
        generalize (treeP shaSum ((ss.drop (half N)).map (leafP shaSum))).1 = R at *
        clear hT h5 ih hN hlm
        generalize half N = k at *
        unfold maxLen at h4
        have q1 : ¬ (N : Int) = 1 := by omega
        have q2 : (k : Int) ≤ N := by omega
        have q3 : (k : Int) ≤ c := by omega
        have q4 : (N : Int) ≤ c := by omega
        have q5 : (i : Int) < k := by omega
        go_enter Try.func45, Try.ntmps45
        go_wp2_with fail
        refine (unhide hh _).mono ?_
        rintro e w1 ⟨rfl, rfl⟩
        go_wp2_with fail
        refine (unhide hw).mono ?_
        rintro e w1 ⟨v, rfl, ho1, b1⟩
        obtain ⟨ao, cp, rfl⟩ := own_shapeN ho1
        go_wp2_with fail
        refine (unhide ht _ b1).mono ?_
        rintro e w2 ⟨rfl, b2⟩
        have ho2 : w2.ownsRow w.heap.size 9 1 (.slice ao Y.length cp) Y.length (sc Y) := own_below2 ho1 b2
        have hz1' := b1.size
        have hz2' := b2.size
        go_wp2_with (at_builtin; refine wpList_append_own _ rfl _ _ 22 rfl w.heap.size 9 i0 (.string ⟨#[]⟩) 1 16 Try.undS hi0 hz0 hz1 hz2 rfl (by decide) _ _ _ rfl (ho2.alloc _) ⟨w2.heap.size, 0, none⟩ 1 1 [.string (bs R)] rfl ?c0 (news_one' _ _ _) ?c2 ?c3 ?c4 ?c5 ?_)
        case c0 => rfl
        case c2 => intro u hu; simp at hu; subst hu; rfl
        case c3 => unfold maxLen; omega
        case c4 => omega
        case c5 => simp; omega
        intro v' w7 hown7 hgrow7 _
        obtain ⟨ao', cp', rfl⟩ := own_shapeN hown7
        have H7 := hide (OwnS.more hown7)
        have B7 := hide (((b1.trans (b2.mono b1.size)).alloc (by omega) (.cells #[.string (bs R)] 9)).grown hgrow7 (by simp; omega) (fun q hq => ((ho2.lt q hq).1)))
        clear hown7 hgrow7 ho1 ho2 b1 b2 hw ht
        go_wp2
        go_ret
        exact ⟨_, rfl, unhide H7, unhide B7⟩
      · have hw := hide (ih (N - half N) (by omega) (ss.drop (half N)) g (o + half N) (c - half N) (i - half N) w (by rw [List.length_drop]; omega) (hT.drop _) (by omega) (by omega) (by omega) (by omega) (fun s hs => h5 s (List.mem_of_mem_drop hs)))
        have ht := hide (fun w' (hb : Below w.heap.size w w') => rtop_any (half N) (ss.take (half N)) g o c w' (by rw [List.length_take]; omega) ((hT.below hb).take _) (by omega) (by omega) (by omega) (by omega) (fun s hs => h5 s (List.mem_of_mem_take hs)))
        have hl8 := wayLen (ss.drop (half N)) (i - half N) (by rw [List.length_drop]; omega) (by rw [List.length_drop]; omega)
        rw [way_right shaSum _ _ (by omega) (by rw [hlm]; exact hik), hlm, ← List.map_take, ← List.map_drop]
        generalize way shaSum ((ss.drop (half N)).map (leafP shaSum)) (i - half N) = Y at *
        generalize (treeP shaSum ((ss.take (half N)).map (leafP shaSum))).1 = R at *
        clear hT h5 ih hN hlm
        generalize half N = k at *
        obtain ⟨i2, hi2⟩ : ∃ i2, i2 = i - k := ⟨_, rfl⟩
        rw [← hi2] at hw
        unfold maxLen at h4
        have q1 : ¬ (N : Int) = 1 := by omega
        have q2 : (k : Int) ≤ N := by omega
        have q3 : (k : Int) ≤ c := by omega
        have q4 : (N : Int) ≤ c := by omega
        have q5 : ¬ (i : Int) < k := by omega
        have q6 : (i : Int) - k = i2 := by omega
        have q7 : i2 < 256 := by omega
        clear hi2
        go_enter Try.func45, Try.ntmps45
        go_wp2_with fail
        refine (unhide hh _).mono ?_
        rintro e w1 ⟨rfl, rfl⟩
        go_wp2_with fail
        refine (unhide hw).mono ?_
        rintro e w1 ⟨v, rfl, ho1, b1⟩
        obtain ⟨ao, cp, rfl⟩ := own_shapeN ho1
        go_wp2_with fail
        refine (unhide ht _ b1).mono ?_
        rintro e w2 ⟨rfl, b2⟩
        have ho2 : w2.ownsRow w.heap.size 9 1 (.slice ao Y.length cp) Y.length (sc Y) := own_below2 ho1 b2
        have hz1' := b1.size
        have hz2' := b2.size
        go_wp2_with (at_builtin; refine wpList_append_own _ rfl _ _ 22 rfl w.heap.size 9 i0 (.string ⟨#[]⟩) 1 16 Try.undS hi0 hz0 hz1 hz2 rfl (by decide) _ _ _ rfl (ho2.alloc _) ⟨w2.heap.size, 0, none⟩ 1 1 [.string (bs R)] rfl ?c0 (news_one' _ _ _) ?c2 ?c3 ?c4 ?c5 ?_)
        case c0 => rfl
        case c2 => intro u hu; simp at hu; subst hu; rfl
        case c3 => unfold maxLen; omega
        case c4 => omega
        case c5 => simp; omega
        intro v' w7 hown7 hgrow7 _
        obtain ⟨ao', cp', rfl⟩ := own_shapeN hown7
        have H7 := hide (OwnS.more hown7)
        have B7 := hide (((b1.trans (b2.mono b1.size)).alloc (by omega) (.cells #[.string (bs R)] 9)).grown hgrow7 (by simp; omega) (fun q hq => ((ho2.lt q hq).1)))
        clear hown7 hgrow7 ho1 ho2 b1 b2 hw ht
        go_wp2
        go_ret
        exact ⟨_, rfl, unhide H7, unhide B7⟩

end Go.Proofs.Ytiaohpkcncbdnaa

/- tracker: forget, Names, Len. -/
import Derived.Test.YtjdphcjapdklpaaTkE
import Derived.Test.YtjdphcjapdklpaaTkF
namespace Go.Proofs.Ytjdphcjapdklpaa
open Go.RowKit
set_option linter.unusedVariables false
attribute [local go_sem] Oper.semAt_some

def forgetF (f : Names) (now : Int) : Names := fun k => match f k with
  | none => none
  | some s => if nodesF now s = [] then none else some (clean now s)
/-- the first names have been gone through -/
def midF (f : Names) (now : Int) (ks : List By) : Names := fun k => if k ∈ ks then forgetF f now k else f k
theorem midF_nil (f : Names) (now : Int) : midF f now [] = f := by
  funext k
  simp [midF]
theorem midF_all {f : Names} {now : Int} {ss : List By} (h : ∀ x, x ∈ ss ↔ (f x).isSome = true) : midF f now ss = forgetF f now := by
  funext k
  unfold midF
  split
  · rfl
  · rename_i hk
    have : f k = none := by
      cases hf : f k with
      | none => rfl
      | some s => exact absurd ((h k).2 (by rw [hf]; rfl)) hk
    rw [this]
    unfold forgetF
    rw [this]
theorem midF_step {f : Names} {now : Int} {ss : List By} {i : Nat} (hnd : ss.Nodup) (hi : i < ss.length) (hm : (f ss[i]).isSome = true) (hok : ∀ k s, f k = some s → SlOk k s) :
    (midF f now (ss.take i) ss[i]).isSome = true ∧ keepF (midF f now (ss.take i)) ss[i] (nodesF now ((midF f now (ss.take i) ss[i]).getD zS)) = midF f now (ss.take (i + 1)) := by
  have hni : ss[i] ∉ ss.take i := fun h => by
    obtain ⟨j, hj, e⟩ := List.getElem_of_mem h
    rw [List.length_take] at hj
    rw [List.getElem_take] at e
    exact List.pairwise_iff_getElem.1 hnd j i (by omega) hi (by omega) e
  have e0 : midF f now (ss.take i) ss[i] = f ss[i] := by unfold midF; rw [if_neg hni]
  refine ⟨by rw [e0]; exact hm, ?_⟩
  obtain ⟨s, hs⟩ := Option.isSome_iff_exists.1 hm
  rw [e0, hs]
  have ht : ss.take (i + 1) = ss.take i ++ [ss[i]] := List.take_succ_eq_append_getElem hi
  have hmi : ss[i] ∈ ss.take (i + 1) := by rw [ht]; exact List.mem_append_right _ (List.mem_singleton.2 rfl)
  have hme : ∀ k, k ≠ ss[i] → (k ∈ ss.take (i + 1) ↔ k ∈ ss.take i) := fun k hk => by
    rw [ht, List.mem_append, List.mem_singleton]
    exact ⟨fun h => h.resolve_right hk, Or.inl⟩
  funext k
  unfold keepF
  by_cases hn : nodesF now s = []
  · rw [if_pos (by simpa using hn)]
    unfold delF
    by_cases hk : k = ss[i]
    · rw [if_pos hk, hk]
      unfold midF forgetF
      rw [if_pos hmi, hs]
      simp [hn]
    · rw [if_neg hk]
      unfold midF
      simp only [hme k hk]
  · rw [if_neg (by simpa using hn)]
    unfold putF
    by_cases hk : k = ss[i]
    · rw [if_pos hk, hk]
      unfold midF forgetF
      rw [if_pos hmi, hs]
      simp only [Option.getD_some, if_neg hn, put_nodes (hok _ _ hs) now]
    · rw [if_neg hk]
      unfold midF
      simp only [hme k hk]
theorem strs_cell {w : World} {B : Nat} {v : Value} {ss : List By} (h : w.ownsRow B 9 1 v ss.length (ssC ss)) : ∃ a c, v = .slice a ss.length c ∧ ∀ i (hi : i < ss.length), ∃ g, a = some ⟨g, 0, none⟩ ∧ w.cell? ⟨g, 0 + i, none⟩ = some (.string (bs ss[i])) := by
  rcases h.2 with ⟨h1, h2⟩ | ⟨g, cap, cur, h1, h2, h3, h4, h5, h6, h7⟩
  · exact ⟨none, 0, by rw [h1, h2], fun i hi => by omega⟩
  · rw [h1] at h
    refine ⟨_, cap, h1, fun i hi => ⟨g, rfl, ?_⟩⟩
    rw [Nat.zero_add, World.ownsRow.cellAt h i (by omega)]
    simp [ssC, hi]
theorem strs_ge {w : World} {B : Nat} {v : Value} {n : Nat} {xs : List Value} {T : TypeId} {z : Nat} (h : w.ownsRow B T z v n xs) {k : Nat} (hk : v.ownBlock = some k) : B ≤ k := by
  rcases h.2 with ⟨h1, h2⟩ | ⟨g, cap, cur, h1, h2, h3⟩
  · rw [h1] at hk; cases hk
  · rw [h1] at hk; cases hk; exact h2
set_option maxRecDepth 100000 in
set_option maxHeartbeats 4000000 in
theorem forget_any (b mb : Nat) (f : Names) (N : Nat) (room now : Int) (w : World) (hT : TbAt w b mb f N room) (hN : N ≤ 100000) (hnow : isT now = true) :
    Calls Try.prog 19 #[.pointer (some ⟨b, 0, none⟩), .int .i64 now] w fun e w' => e = .returned (.tuple #[]) ∧ TbAt w' b mb (forgetF f now) N room ∧ w.grownBy w' (some mb) := by
  have HS := hide (stored_any b mb f N room w hT hN)
  have HT := hide hT
  have HNow := hide hnow
  clear hT hnow
  go_enter Try.func19, Try.ntmps19
  go_wp2_with fail
  refine (unhide HS).mono ?_
  rintro e w1 ⟨v1, ss, rfl, hsl, hR⟩
  obtain ⟨a1, c1, rfl, hcell⟩ := strs_cell hR.own
  have HR := hide hR
  have hml : mb < w.heap.size := (unhide HT).mlt
  have HMN : Hid ((Value.slice a1 ss.length c1).ownBlock ≠ some mb) := fun e => by have := strs_ge hR.own e; omega
  obtain ⟨n, hn⟩ : ∃ n, n = ss.length := ⟨_, rfl⟩
  rw [← hn]
  have HN := hide hn
  have HCell := hide hcell
  have hn1 : n ≤ 100000 := by omega
  clear hR hn hcell hsl HS
  go_wp2_with fail
  go_loopw [9] (fun kv wr => ∃ i : Nat, i ≤ n ∧ kv = .int .i64 i ∧ TbAt wr b mb (midF f now (ss.take i)) N room ∧ w1.grownBy wr (some mb)) (fun kv _ => n - (intOf kv).toNat)
  case atStart => exact ⟨0, by omega, rfl, by rw [List.take_zero, midF_nil]; exact (unhide HT).up (unhide HR).be, grown_of (Below.refl _ _) _⟩
  case round =>
    obtain ⟨i, hi, rfl, hTb, hG⟩ := hrel
    have HTb := hide hTb
    have HG := hide hG
    clear hTb hG
    by_cases hlt : i < n
    · have hlt' : i < ss.length := by rw [← unhide HN]; exact hlt
      obtain ⟨g, rfl, hc⟩ := unhide HCell i hlt'
      have hc2 : wr.cell? ⟨g, 0 + i, none⟩ = some (.string (bs ss[i])) := by
        have hgl : g < w1.heap.size := by
          rcases Nat.lt_or_ge g w1.heap.size with h | h
          · exact h
          · simp [World.cell?, Array.getElem?_eq_none h] at hc
        rw [World.cell?_of_block (a := ⟨g, 0 + i, none⟩) ((unhide HG).block g hgl (fun e => unhide HMN (by cases e; rfl)))]
        exact hc
      rw [Nat.zero_add] at hc2
      have hmem := ((unhide HR).keys.mem ss[i]).1 (List.getElem_mem hlt')
      obtain ⟨h1, h2⟩ := midF_step (now := now) (unhide HR).keys.nd hlt' hmem (unhide HT).ok
      have hkl : ss[i].length ≤ maxLen := by
        obtain ⟨s0, hs0⟩ := Option.isSome_iff_exists.1 hmem
        rw [(unhide HT).kl _ _ hs0]
        unfold maxLen
        omega
      have HND := hide (nodes_any b mb _ N room ss[i] now wr (unhide HTb) hkl)
      have hnd : ndF (midF f now (ss.take i)) ss[i] now = nodesF now ((midF f now (ss.take i) ss[i]).getD zS) := by unfold ndF; rw [if_pos (unhide HNow)]
      rw [hnd] at HND
      have hso := ok_get (unhide HTb).ok ss[i]
      have HKP := hide (fun a0 c W (hW : TbAt W b mb (midF f now (ss.take i)) N room) (hl : NtsAt W a0 (nodesF now ((midF f now (ss.take i) ss[i]).getD zS))) => keep_any b mb _ N room ss[i] a0 _ c W hW hN hkl h1 hl (by have h := List.length_filter_le (cntB now) ((midF f now (ss.take i) ss[i]).getD zS); have := hso.len; unfold nodesF; omega) (fun p hp => nodes_ok hso hp))
      rw [h2] at HKP
      generalize nodesF now ((midF f now (ss.take i) ss[i]).getD zS) = L at *
      generalize ss[i] = k at *
      have q1 : (i : Int) < n := by omega
      clear hlt' hc hmem h1 h2 hnd hso
      go_wp2_with fail
      refine (unhide HND).mono ?_
      rintro e w2 ⟨v2, rfl, hr⟩
      obtain ⟨a2, c2, rfl, hnt, _⟩ := hr.own.nts
      have HX := hide (unhide HKP a2 c2 w2 ((unhide HTb).up hr.be) hnt)
      have HG2 := hide (grown_trans (unhide HG) (grown_of hr.be (some mb)))
      clear hr hnt HKP HND hc2 HTb HG hkl
      generalize L.length = ll at *
      go_wp2_with fail
      refine (unhide HX).mono ?_
      rintro e w3 ⟨rfl, h3, h4⟩
      have HR3 := hide (And.intro h3 (grown_trans (unhide HG2) h4))
      clear h3 h4 HX HG2
      go_wp2
      go_roundw
      case rel => exact ⟨i + 1, by omega, by go_num, (unhide HR3).1, (unhide HR3).2⟩
      case measure => simp [intOf]; omega
    · have hin : i = n := by omega
      have q1 : ¬ (i : Int) < n := by omega
      have HF : Hid (TbAt wr b mb (forgetF f now) N room ∧ w.grownBy wr (some mb)) := by
        have h := unhide HTb
        rw [show ss.take i = ss by rw [hin, unhide HN, List.take_length], midF_all (unhide HR).keys.mem] at h
        exact ⟨h, grown_trans (grown_of (unhide HR).be _) (unhide HG)⟩
      clear hin HTb HG
      go_wp2
      go_end0
      exact ⟨rfl, unhide HF⟩
end Go.Proofs.Ytjdphcjapdklpaa

/- tracker: mathematics of announcements; what calls answer, in short. -/
import Derived.Test.YtjdphcjapdklpaaTkJ
namespace Go.Proofs.Ytjdphcjapdklpaa
open Go.RowKit
set_option linter.unusedVariables false
attribute [local go_sem] Oper.semAt_some

theorem nodesF_z (t : Int) : nodesF t zS = [] := rfl
theorem clean_z (t : Int) : clean t zS = zS := rfl
theorem rep_set (i : Nat) (x : Nt) (h : i < 16) : zS.set i x = List.replicate i zN ++ x :: List.replicate (15 - i) zN := by
  unfold zS
  apply List.ext_getElem?
  intro j
  rw [List.getElem?_set]
  by_cases e : i = j
  · subst e
    rw [if_pos rfl, if_pos (by simpa using h), List.getElem?_append_right (by simp)]
    simp
  · rw [if_neg e]
    by_cases hj : j < i
    · rw [List.getElem?_append_left (by simpa using hj), List.getElem?_replicate, List.getElem?_replicate, if_pos (by omega), if_pos hj]
    · rw [List.getElem?_append_right (by simp; omega), List.length_replicate, show j - i = (j - i - 1) + 1 by omega, List.getElem?_cons_succ, List.getElem?_replicate, List.getElem?_replicate]
      by_cases h16 : j < 16
      · rw [if_pos h16, if_pos (by omega)]
      · rw [if_neg h16, if_neg (by omega)]
theorem filt_rep (t : Int) (n : Nat) : (List.replicate n zN).filter (cntB t) = [] := by
  rw [List.filter_eq_nil_iff]
  intro a ha
  rw [List.eq_of_mem_replicate ha, zN_cnt]
  exact Bool.noConfusion
theorem nodesF_set (t : Int) (i : Nat) (x : Nt) (h : i < 16) : nodesF t (zS.set i x) = if cntB t x = true then [x] else [] := by
  unfold nodesF
  rw [rep_set i x h, List.filter_append, List.filter_cons, filt_rep, filt_rep, List.nil_append]
theorem nodesF_one (t : Int) (x : Nt) (h : 1 ≤ x.nd ∧ x.nd ≤ 15) : nodesF t (putA zS x) = if cntB t x = true then [x] else [] := nodesF_set t _ x (by omega)
theorem clean_one (t : Int) (x : Nt) : clean t (putA zS x) = zS.set x.nd.toNat (if cntB t x = true then x else zN) := by
  unfold putA
  unfold clean
  rw [List.map_set]
  rfl
theorem clean_put (t : Int) (x y : Nt) (h : x.nd = y.nd) : putA (clean t (putA zS x)) y = putA zS y := by
  rw [clean_one]
  unfold putA
  rw [h, List.set_set]
theorem forget_none (t : Int) : forgetF (fun _ => none) t = fun _ => none := rfl
theorem ann_none (x : Nt) (t : Int) : annF (fun _ => none) x t = putF (fun _ => none) x.nm (putA zS x) := rfl
theorem putF_at (f : Names) (k : By) (s : List Nt) : putF f k s k = some s := by unfold putF; rw [if_pos rfl]
theorem putF_ne (f : Names) (k j : By) (s : List Nt) (h : j ≠ k) : putF f k s j = f j := by unfold putF; rw [if_neg h]
theorem ann_at (f : Names) (x : Nt) (t : Int) : annF f x t x.nm = some (putA ((forgetF f t x.nm).getD zS) x) := putF_at _ _ _
theorem ann_ne (f : Names) (x : Nt) (t : Int) (k : By) (h : k ≠ x.nm) : annF f x t k = forgetF f t k := putF_ne _ _ _ _ h
theorem ndF_t {f : Names} {k : By} {now : Int} (h : isT now = true) : ndF f k now = nodesF now ((f k).getD zS) := by unfold ndF; rw [if_pos h]
/-- one name alone is announced anew: one note of it -/
theorem ann_again (x y : Nt) (h : x.nd = y.nd) (hr : 1 ≤ x.nd ∧ x.nd ≤ 15) (hn : x.nm = y.nm) (t : Int) : annF (putF (fun _ => none) x.nm (putA zS x)) y t y.nm = some (putA zS y) := by
  rw [ann_at]
  congr 1
  unfold forgetF
  rw [← hn, putF_at]
  dsimp only
  rw [nodesF_one t x hr]
  by_cases hc : cntB t x = true
  · rw [if_pos hc, if_neg (by simp)]
    exact clean_put t x y h
  · rw [if_neg hc, if_pos rfl]
    rfl
/-- the names that count are these -/
theorem cnt_of {f : Names} {now : Int} {ss L : List By} (hs : SKeys f ss) (hL : L.Nodup) (hm : ∀ k, k ∈ L ↔ 0 < (ndF f k now).length) : nmN f now ss = L.length := by
  unfold nmN
  refine List.Perm.length_eq ((List.perm_ext_iff_of_nodup (hs.nd.filter _) hL).2 fun k => ?_)
  rw [List.mem_filter, hm k, hs.mem]
  unfold thB
  rw [decide_eq_true_iff]
  constructor
  · exact fun h => h.2
  · intro h
    refine ⟨?_, h⟩
    unfold ndF at h
    cases hf : f k with
    | some s => rfl
    | none =>
      rw [hf] at h
      split at h
      · exact absurd h (by rw [show (none : Option (List Nt)).getD zS = zS from rfl, nodesF_z]; simp)
      · simp at h
/-- an announcement that is not full -/
theorem ann_ok (b mb : Nat) (f : Names) (N : Nat) (room now : Int) (x : Nt) (w : World) (hT : TbAt w b mb f N room) (hN : N ≤ 10000) (hr : (N : Int) < room) (hx : x.nm.length ≤ maxLen) (hi : isT now = true) (hmy : mayN x now = true) :
    Calls Try.prog 8 #[.pointer (some ⟨b, 0, none⟩), .agg x.cl.toArray, .int .i64 now] w fun e w' => e = .returned (.int .i64 0) ∧ TbAt w' b mb (annF f x now) (N + 1) room ∧ w.grownBy w' (some mb) := by
  obtain ⟨ss, hss, hl⟩ := tb_keys hT
  have h1 : nmN f now ss ≤ ss.length := List.length_filter_le _ _
  refine (ann_good b mb f N room now x ss w hT hN hx hi hmy hss).mono ?_
  rintro e w' (⟨_, h2, _⟩ | ⟨_, h3, h4, h5⟩)
  · omega
  · exact ⟨h3, h4, h5⟩
theorem nodes_len (b mb : Nat) (f : Names) (N : Nat) (room : Int) (k : By) (now : Int) (w : World) (n : Nat) (hT : TbAt w b mb f N room) (hk : k.length ≤ maxLen) (hn : (ndF f k now).length = n) :
    Calls Try.prog 10 #[.pointer (some ⟨b, 0, none⟩), .string (bs k), .int .i64 now] w fun e w' => ∃ a c, e = .returned (.slice a n c) ∧ Below w.heap.size w w' := by
  refine (nodes_any b mb f N room k now w hT hk).mono ?_
  rintro e w' ⟨v, rfl, hR⟩
  obtain ⟨a, c, h, _⟩ := hR.own.nts
  rw [hn] at h
  exact ⟨a, c, by rw [h], hR.be⟩
theorem len_is (b mb : Nat) (f : Names) (N : Nat) (room : Int) (now : Int) (w : World) (L : List By) (hT : TbAt w b mb f N room) (hN : N ≤ 100000) (hL : L.Nodup) (hm : ∀ k, k ∈ L ↔ 0 < (ndF f k now).length) :
    Calls Try.prog 9 #[.pointer (some ⟨b, 0, none⟩), .int .i64 now] w fun e w' => e = .returned (.int .i64 (L.length : Nat)) ∧ Below w.heap.size w w' := by
  refine (tlen_any b mb f N room now w hT hN).mono ?_
  rintro e w' ⟨n, rfl, _, ⟨ss, h1, h2⟩, h3⟩
  exact ⟨by rw [h2, ← cnt_of h1 hL hm]; rfl, h3⟩
/-- the world behind grows by the table alone -/
theorem below_tab {B mb : Nat} {w x y : World} (h : Below B w x) (hg : x.grownBy y (some mb)) (hs : w.heap.size ≤ x.heap.size) (hB : B ≤ x.heap.size) (hm : B ≤ mb) : Below B w y := h.grown hg hB (fun z hz => by cases hz; exact hm)
end Go.Proofs.Ytjdphcjapdklpaa

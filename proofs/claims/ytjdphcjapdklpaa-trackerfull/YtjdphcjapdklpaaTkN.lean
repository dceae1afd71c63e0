/- TrackerFull: mathematics of the names of numbers. -/
import Derived.Test.YtjdphcjapdklpaaTkL
namespace Go.Proofs.Ytjdphcjapdklpaa
open Go.RowKit
set_option linter.unusedVariables false
attribute [local go_sem] Oper.semAt_some

/-- a table of names of numbers -/
structure Tab (f : Names) (T : Nat → Option (List Nt)) : Prop where
  at_ : ∀ n, n < 256 → f (nmL n) = T n
  no : ∀ k, (∀ n, n < 256 → k ≠ nmL n) → f k = none
theorem Tab.congr {f : Names} {T T' : Nat → Option (List Nt)} (h : Tab f T) (e : ∀ n, T n = T' n) : Tab f T' := ⟨fun n hn => (h.at_ n hn).trans (e n), h.no⟩
def fgt (now : Int) (o : Option (List Nt)) : Option (List Nt) := match o with
  | none => none
  | some s => if nodesF now s = [] then none else some (clean now s)
theorem fgt_is (f : Names) (now : Int) (k : By) : forgetF f now k = fgt now (f k) := rfl
theorem fgt_one (now : Int) (x : Nt) (h : 1 ≤ x.nd ∧ x.nd ≤ 15) : fgt now (some (putA zS x)) = if cntB now x = true then some (putA zS x) else none := by
  unfold fgt
  dsimp only
  rw [nodesF_one now x h, clean_one]
  by_cases hc : cntB now x = true
  · rw [if_pos hc, if_pos hc, if_pos hc, if_neg (by simp)]
    rfl
  · rw [if_neg hc, if_neg hc, if_neg hc, if_pos rfl]
theorem Tab.ann {f : Names} {T : Nat → Option (List Nt)} (h : Tab f T) (x : Nt) (now : Int) (m : Nat) (hm : m < 256) (hx : x.nm = nmL m) :
    Tab (annF f x now) (fun n => if n = m then some (putA ((fgt now (T m)).getD zS) x) else fgt now (T n)) := by
  refine ⟨fun n hn => ?_, fun k hk => ?_⟩
  · by_cases e : n = m
    · subst e
      rw [if_pos rfl, ← hx, ann_at, fgt_is, hx, h.at_ n hn]
    · rw [if_neg e, ann_ne _ _ _ _ (by rw [hx]; exact fun e2 => e (nmL_inj hn hm e2)), fgt_is, h.at_ n hn]
  · rw [ann_ne _ _ _ _ (by rw [hx]; exact hk m hm), fgt_is, h.no k hk]
    rfl
theorem Tab.nd {f : Names} {T : Nat → Option (List Nt)} (h : Tab f T) {n : Nat} (hn : n < 256) {now : Int} (ht : isT now = true) : ndF f (nmL n) now = nodesF now ((T n).getD zS) := by rw [ndF_t ht, h.at_ n hn]
theorem Tab.cnt {f : Names} {T : Nat → Option (List Nt)} (h : Tab f T) {now : Int} (ht : isT now = true) (L : List Nat) (hL : L.Nodup) (hb : ∀ n ∈ L, n < 256) (hm : ∀ n, n < 256 → (n ∈ L ↔ 0 < (nodesF now ((T n).getD zS)).length)) :
    (L.map nmL).Nodup ∧ ∀ k, k ∈ L.map nmL ↔ 0 < (ndF f k now).length := by
  constructor
  · rw [List.nodup_iff_pairwise_ne, List.pairwise_map]
    exact (List.nodup_iff_pairwise_ne.1 hL).imp_of_mem fun ha hb2 hne e => hne (nmL_inj (hb _ ha) (hb _ hb2) e)
  · intro k
    by_cases hk : ∃ n, n < 256 ∧ k = nmL n
    · obtain ⟨n, hn, rfl⟩ := hk
      rw [h.nd hn ht, ← hm n hn, List.mem_map]
      constructor
      · rintro ⟨a, ha, e⟩
        rw [← nmL_inj (hb a ha) hn e]
        exact ha
      · exact fun hx => ⟨n, hx, rfl⟩
    · have h0 : f k = none := h.no k (fun n hn e => hk ⟨n, hn, e⟩)
      rw [ndF_t ht, h0]
      constructor
      · intro hx
        obtain ⟨a, ha, e⟩ := List.mem_map.1 hx
        exact absurd ⟨a, hb a ha, e.symm⟩ hk
      · intro hx
        exact absurd hx (by rw [show (none : Option (List Nt)).getD zS = zS from rfl, nodesF_z]; simp)
def fj (j : Nat) : Nt := ⟨nmL j, 1, 0, 0, 10 + (j : Nat)⟩
def T0 (i : Nat) : Nat → Option (List Nt) := fun n => if n < i then some (putA zS (fj n)) else none
theorem fj_nd (j : Nat) : 1 ≤ (fj j).nd ∧ (fj j).nd ≤ 15 := by show (1 : Int) ≤ 1 ∧ (1 : Int) ≤ 15; omega
theorem fj_cnt (j : Nat) (t : Int) (h : t ≤ 10 + (j : Nat)) : cntB t (fj j) = true := by
  unfold cntB fj
  simp
  omega
theorem T0_fgt (r n : Nat) (t : Int) (h : t ≤ 10 + (n : Nat)) : fgt t (T0 r n) = T0 r n := by
  unfold T0
  by_cases e : n < r
  · rw [if_pos e, fgt_one t _ (fj_nd n), if_pos (fj_cnt n t h)]
  · rw [if_neg e]
    rfl
theorem tab_nil : Tab (fun _ => none) (T0 0) := ⟨fun n _ => by unfold T0; rw [if_neg (by omega)], fun k _ => rfl⟩
theorem tab_step {f : Names} {i : Nat} (h : Tab f (T0 i)) (hi : i < 64) : Tab (annF f (fj i) 0) (T0 (i + 1)) := by
  have := h.ann (fj i) 0 i (by omega) rfl
  refine this.congr fun n => ?_
  rw [T0_fgt i n 0 (by omega), T0_fgt i i 0 (by omega)]
  by_cases e : n = i
  · subst e
    rw [if_pos rfl]
    unfold T0
    rw [if_neg (by omega), if_pos (by omega)]
    rfl
  · rw [if_neg e]
    unfold T0
    by_cases e2 : n < i
    · rw [if_pos e2, if_pos (by omega)]
    · rw [if_neg e2, if_neg (by omega)]
theorem T0_len (r n : Nat) (t : Int) (h : t ≤ 10 + (n : Nat)) : (nodesF t ((T0 r n).getD zS)).length = if n < r then 1 else 0 := by
  unfold T0
  by_cases e : n < r
  · rw [if_pos e, if_pos e]
    show (nodesF t (putA zS (fj n))).length = 1
    rw [nodesF_one t _ (fj_nd n), if_pos (fj_cnt n t h)]
    rfl
  · rw [if_neg e, if_neg e]
    rfl
def yb : Nt := ⟨nmL 0, 2, 0, 0, 10⟩
def zc : Nt := ⟨nmL 100, 1, 0, 0, 90⟩
def S0 : List Nt := putA (putA zS (fj 0)) yb
def T3 (r : Nat) : Nat → Option (List Nt) := fun n => if n = 0 then some S0 else T0 r n
def T4 (r : Nat) : Nat → Option (List Nt) := fun n => if n = 100 then some (putA zS zc) else if n = 0 then none else T0 r n
theorem tab_3 {f : Names} {r : Nat} (h : Tab f (T0 r)) (hr : 1 ≤ r) : Tab (annF f yb 5) (T3 r) := by
  have := h.ann yb 5 0 (by omega) rfl
  refine this.congr fun n => ?_
  unfold T3
  by_cases e : n = 0
  · rw [if_pos e, if_pos e, T0_fgt r 0 5 (by omega)]
    unfold T0
    rw [if_pos (by omega)]
    rfl
  · rw [if_neg e, if_neg e, T0_fgt r n 5 (by omega)]
theorem tab_4 {f : Names} {r : Nat} (h : Tab f (T3 r)) (hr : r ≤ 64) : Tab (annF f zc 11) (T4 r) := by
  have := h.ann zc 11 100 (by omega) rfl
  refine this.congr fun n => ?_
  unfold T4
  by_cases e : n = 100
  · rw [if_pos e, if_pos e]
    have : T3 r 100 = none := by unfold T3 T0; rw [if_neg (by omega), if_neg (by omega)]
    rw [this]
    rfl
  · rw [if_neg e, if_neg e]
    unfold T3
    by_cases e0 : n = 0
    · rw [if_pos e0, if_pos e0]
      rfl
    · rw [if_neg e0, if_neg e0, T0_fgt r n 11 (by omega)]
theorem cnt_a {f : Names} {r : Nat} (h : Tab f (T0 r)) (hr : r ≤ 64) : ((List.range r).map nmL).Nodup ∧ ∀ k, k ∈ (List.range r).map nmL ↔ 0 < (ndF f k 5).length :=
  h.cnt rfl _ List.nodup_range (fun n hn => by have := List.mem_range.1 hn; omega) fun n hn => by
    rw [T0_len r n 5 (by omega), List.mem_range]
    split <;> simp_all
theorem cnt_c {f : Names} {r : Nat} (h : Tab f (T3 r)) (hr : r ≤ 64) : ((List.range' 1 (r - 1)).map nmL).Nodup ∧ ∀ k, k ∈ (List.range' 1 (r - 1)).map nmL ↔ 0 < (ndF f k 11).length :=
  h.cnt rfl _ List.nodup_range' (fun n hn => by have := List.mem_range'_1.1 hn; omega) fun n hn => by
    rw [List.mem_range'_1]
    unfold T3
    by_cases e : n = 0
    · rw [if_pos e]
      rw [show (nodesF 11 ((some S0).getD zS)).length = 0 from rfl]
      omega
    · rw [if_neg e, T0_len r n 11 (by omega)]
      split <;> omega
theorem cnt_d {f : Names} {r : Nat} (h : Tab f (T4 r)) (hr : r ≤ 64) : ((100 :: List.range' 1 (r - 1)).map nmL).Nodup ∧ ∀ k, k ∈ (100 :: List.range' 1 (r - 1)).map nmL ↔ 0 < (ndF f k 11).length :=
  h.cnt rfl _ (List.nodup_cons.2 ⟨fun hx => by have := List.mem_range'_1.1 hx; omega, List.nodup_range'⟩) (fun n hn => by
    rcases List.mem_cons.1 hn with rfl | hn
    · omega
    · have := List.mem_range'_1.1 hn; omega) fun n hn => by
    rw [List.mem_cons, List.mem_range'_1]
    unfold T4
    by_cases e : n = 100
    · rw [if_pos e]
      rw [show (nodesF 11 ((some (putA zS zc)).getD zS)).length = 1 from rfl]
      omega
    · rw [if_neg e]
      by_cases e0 : n = 0
      · rw [if_pos e0]
        rw [show (nodesF 11 ((none : Option (List Nt)).getD zS)).length = 0 from rfl]
        omega
      · rw [if_neg e0, T0_len r n 11 (by omega)]
        split <;> omega
end Go.Proofs.Ytjdphcjapdklpaa

/- choke: mathematics: the top of peers, and who is chosen. -/
import Derived.Sort.Statements
import Derived.Shelf.SlSortCmp.Insertion
import Derived.Test.YtjndgglbapghhaaCkM
import Derived.Test.YtjndgglbapghhaaCkG
import Derived.Test.YtjndgglbapghhaaCkH
namespace Go.Proofs.Ytjndgglbapghhaa
open Go.RowKit Go.Sort
set_option linter.unusedVariables false

def lexB (a b c d e f : Int) : Bool := decide (b < a) || (decide (a = b) && (decide (c < d) || (decide (c = d) && decide (e < f))))
def ahP (x y : Int) (a b : Pr) : Bool := lexB a.ra b.ra (distA x y a.x a.y) (distA x y b.x b.y) a.nd b.nd
theorem distA_comm (a b c d : Int) : distA a b c d = distA c d a b := by
  unfold distA
  rw [Bool.and_comm (okP a b)]
  have e1 : (a - c) * (a - c) = (c - a) * (c - a) := by
    have : a - c = -(c - a) := by omega
    rw [this, Int.neg_mul_neg]
  have e2 : (b - d) * (b - d) = (d - b) * (d - b) := by
    have : b - d = -(d - b) := by omega
    rw [this, Int.neg_mul_neg]
  rw [e1, e2]
theorem cmpI_lt {x y : Int} (h : x < y) : Lib.compareInt x y = -1 := by unfold Lib.compareInt; rw [if_pos h]
theorem cmpI_gt {x y : Int} (h : y < x) : Lib.compareInt x y = 1 := by unfold Lib.compareInt; rw [if_neg (by omega), if_pos h]
theorem cmpI_eq (x : Int) : Lib.compareInt x x = 0 := by unfold Lib.compareInt; rw [if_neg (by omega), if_neg (by omega)]
theorem or3_lt (a b c d e f : Int) : decide (orI [Lib.compareInt b a, Lib.compareInt c d, Lib.compareInt e f] < 0) = lexB a b c d e f := by
  have hb : ∀ u v : Bool, (u = true ↔ v = true) → u = v := fun u v h => by cases u <;> cases v <;> simp_all
  apply hb
  rw [decide_eq_true_iff]
  unfold lexB
  simp only [Bool.or_eq_true, Bool.and_eq_true, decide_eq_true_iff]
  rcases Int.lt_trichotomy b a with h | h | h
  · rw [cmpI_lt h]; simp [orI]; omega
  · subst h
    rw [cmpI_eq]
    rcases Int.lt_trichotomy c d with k | k | k
    · rw [cmpI_lt k]; simp [orI]; omega
    · subst k
      rw [cmpI_eq]
      rcases Int.lt_trichotomy e f with m | m | m
      · rw [cmpI_lt m]; simp [orI]; omega
      · subst m
        rw [cmpI_eq]; simp [orI]
      · rw [cmpI_gt m]; simp [orI]; omega
    · rw [cmpI_gt k]; simp [orI]; omega
  · rw [cmpI_gt h]; simp [orI]; omega
theorem lt_ahP (x y : Int) (a b : Pr) : ltOf (stC x y) a b = ahP x y a b := by
  unfold ltOf stC ahP
  rw [or3_lt, distA_comm a.x, distA_comm b.x]
theorem lexB_iff {a b c d e f : Int} : lexB a b c d e f = true ↔ (b < a ∨ (a = b ∧ (c < d ∨ (c = d ∧ e < f)))) := by
  unfold lexB; simp
theorem lexB_not {a b c d e f : Int} : lexB a b c d e f = false ↔ ¬ (b < a ∨ (a = b ∧ (c < d ∨ (c = d ∧ e < f)))) := by
  rw [← lexB_iff]; simp
theorem swo_st (x y : Int) : SWO (ltOf (stC x y)) where
  irrefl p := by rw [lt_ahP]; unfold ahP; rw [lexB_not]; omega
  trans p q r h1 h2 := by
    rw [lt_ahP] at *; unfold ahP at *
    rw [lexB_iff] at *; omega
  ntrans p q r h1 h2 := by
    rw [lt_ahP] at *; unfold ahP at *
    rw [lexB_not] at *; omega
def nmC (p q : Pr) : Int := Lib.compareInt p.nd q.nd
theorem lt_nm (a b : Pr) : ltOf nmC a b = decide (a.nd < b.nd) := by
  unfold ltOf nmC Lib.compareInt
  by_cases h1 : a.nd < b.nd
  · simp [h1]
  · by_cases h2 : b.nd < a.nd <;> simp [h1, h2]
theorem swo_nm : SWO (ltOf nmC) where
  irrefl x := by rw [lt_nm]; simp
  trans x y z h1 h2 := by rw [lt_nm] at *; simp at *; omega
  ntrans x y z h1 h2 := by rw [lt_nm] at *; simp at *; omega

theorem filter_idx {α : Type} (P : α → Bool) : ∀ (L : List α) (s : Nat), (∀ i (h : i < L.length), P L[i] = decide (i < s)) → L.filter P = L.take s
  | [], s, _ => by simp
  | a :: L, 0, h => by
    rw [List.take_zero, List.filter_eq_nil_iff]
    intro x hx
    obtain ⟨i, hi, rfl⟩ := List.getElem_of_mem hx
    rw [h i hi]
    simp
  | a :: L, s + 1, h => by
    have h0 := h 0 (by simp)
    have := filter_idx P L s (fun i hi => by
      have := h (i + 1) (by simp; omega)
      simpa using this)
    rw [List.filter_cons, if_pos (by simpa using h0), this, List.take_succ_cons]
theorem count_idx {α : Type} (lt : α → α → Bool) (irr : ∀ x, lt x x = false) (asy : ∀ x y, lt x y = true → lt y x = false) (L : List α) (hp : L.Pairwise fun a b => lt a b = true) (i : Nat) (h : i < L.length) :
    (L.filter fun q => lt q L[i]).length = i := by
  have hs : L = L.take i ++ (L[i] :: L.drop (i + 1)) := by
    rw [← List.drop_eq_getElem_cons h, List.take_append_drop]
  have h1 : (L.take i).filter (fun q => lt q L[i]) = L.take i := List.filter_eq_self.2 fun q hq => by
    obtain ⟨j, hj, rfl⟩ := List.getElem_of_mem hq
    rw [List.length_take] at hj
    rw [List.getElem_take]
    exact List.pairwise_iff_getElem.1 hp j i (by omega) h (by omega)
  have h2 : (L.drop (i + 1)).filter (fun q => lt q L[i]) = [] := List.filter_eq_nil_iff.2 fun q hq => by
    obtain ⟨j, hj, rfl⟩ := List.getElem_of_mem hq
    rw [List.length_drop] at hj
    rw [List.getElem_drop, asy _ _ (List.pairwise_iff_getElem.1 hp i (i + 1 + j) h (by omega) (by omega))]
    simp
  have hh : L.filter (fun q => lt q L[i]) = (L.take i ++ (L[i] :: L.drop (i + 1))).filter (fun q => lt q L[i]) := by rw [← hs]
  rw [hh, List.filter_append, List.filter_cons, if_neg (by rw [irr]; simp), h1, h2, List.append_nil, List.length_take]
  omega
def Ris (l : List Pr) : Prop := l.Pairwise fun a b => a.nd < b.nd
theorem ris_inj : ∀ {l : List Pr}, Ris l → ∀ a ∈ l, ∀ b ∈ l, a.nd = b.nd → a = b
  | [], _, a, ha, _, _, _ => by simp at ha
  | x :: l, h, a, ha, b, hb, e => by
    unfold Ris at h
    rw [List.pairwise_cons] at h
    rw [List.mem_cons] at ha hb
    rcases ha with rfl | ha <;> rcases hb with rfl | hb
    · rfl
    · have := h.1 _ hb; omega
    · have := h.1 _ ha; omega
    · exact ris_inj h.2 a ha b hb e
theorem arP_ris : ∀ {k : Int} {l : List Pr}, arP k l = true → Ris l ∧ ∀ p ∈ l, k ≤ p.nd ∧ p.nd ≤ 15
  | _, [], _ => ⟨List.Pairwise.nil, by simp⟩
  | k, p :: l, h => by
    unfold arP at h
    simp at h
    obtain ⟨⟨⟨h1, h2⟩, h3⟩, h4⟩ := h
    obtain ⟨i1, i2⟩ := arP_ris h4
    refine ⟨List.Pairwise.cons (fun q hq => by have := (i2 q hq).1; omega) i1, fun q hq => ?_⟩
    rw [List.mem_cons] at hq
    rcases hq with rfl | hq
    · exact ⟨h1, h2⟩
    · have := i2 q hq; omega
def dTop (x y : Int) (s : Nat) (l : List Pr) : List Pr := l.filter fun p => p.wa && decide ((l.filter fun q => q.wa && ahP x y q p).length < s)
theorem top_eq (x y : Int) (s : Nat) (l : List Pr) (hr : Ris l) (L S : List Pr) (hL : L.Perm (l.filter fun p => p.wa)) (hLs : L.Pairwise fun a b => ltOf (stC x y) b a = false) (hS : S.Perm (L.take s)) (hSs : S.Pairwise fun a b => ltOf nmC b a = false) : S = dTop x y s l := by
  have hml : ∀ p ∈ L, p ∈ l := fun p hp => (List.mem_filter.1 (hL.mem_iff.1 hp)).1
  have hnd : L.Nodup := hL.symm.nodup (List.Nodup.sublist List.filter_sublist (hr.imp fun {a b} h e => by rw [e] at h; omega))
  have hst : L.Pairwise fun a b => ahP x y a b = true := by
    refine (List.Pairwise.and hnd hLs).imp_of_mem fun {a b} ha hb hab => ?_
    obtain ⟨h1, h2⟩ := hab
    rw [lt_ahP] at h2
    cases h3 : ahP x y a b with
    | true => rfl
    | false =>
      unfold ahP at h2 h3
      rw [lexB_not] at h2 h3
      exact absurd (ris_inj hr a (hml a ha) b (hml b hb) (by omega)) h1
  have hc := filter_idx (fun p => decide ((L.filter fun q => ahP x y q p).length < s)) L s fun i hi => by
    show decide _ = _
    rw [count_idx (ahP x y) (fun p => by unfold ahP; rw [lexB_not]; omega) (fun p q h => by unfold ahP at *; rw [lexB_iff] at h; rw [lexB_not]; omega) L hst i hi]
  have hcnt : ∀ p, (L.filter fun q => ahP x y q p).length = (l.filter fun q => q.wa && ahP x y q p).length := fun p => by
    rw [(hL.filter _).length_eq, List.filter_filter]
    congr 1
    apply List.filter_congr
    intro q _
    rw [Bool.and_comm]
  simp only [hcnt] at hc
  have hp : S.Perm (dTop x y s l) := by
    refine hS.trans ?_
    rw [← hc]
    refine (hL.filter _).trans ?_
    rw [List.filter_filter]
    unfold dTop
    refine List.Perm.of_eq (List.filter_congr fun q _ => ?_)
    rw [Bool.and_comm]
  have hds : (dTop x y s l).Pairwise fun a b => a.nd ≤ b.nd := List.Pairwise.sublist List.filter_sublist (hr.imp fun h => Int.le_of_lt h)
  refine List.Perm.eq_of_pairwise (le := fun a b : Pr => a.nd ≤ b.nd) (fun a b ha hb h1 h2 => ?_) (hSs.imp fun {a b} h => by rw [lt_nm] at h; simp at h; exact h) hds hp
  exact ris_inj hr a (List.mem_filter.1 (hp.mem_iff.1 ha)).1 b (List.mem_filter.1 hb).1 (by omega)

/-! ### who is chosen -/
theorem hasI_mem (l : List Int) (n : Int) : hasI l n = true ↔ n ∈ l := by
  unfold hasI
  rw [List.any_eq_true]
  constructor
  · rintro ⟨x, hx, e⟩
    rw [← of_decide_eq_true e]; exact hx
  · intro h
    exact ⟨n, h, by simp⟩
theorem asc_ext : ∀ {a b : List Int}, a.Pairwise (· < ·) → b.Pairwise (· < ·) → (∀ x, x ∈ a ↔ x ∈ b) → a = b
  | [], [], _, _, _ => rfl
  | [], y :: b, _, _, h => by have := (h y).2 (by simp); simp at this
  | x :: a, [], _, _, h => by have := (h x).1 (by simp); simp at this
  | x :: a, y :: b, ha, hb, h => by
    rw [List.pairwise_cons] at ha hb
    have e : x = y := by
      have h1 := (h x).1 (by simp)
      have h2 := (h y).2 (by simp)
      rw [List.mem_cons] at h1 h2
      rcases h1 with h1 | h1
      · exact h1
      · rcases h2 with h2 | h2
        · exact h2.symm
        · have := hb.1 _ h1; have := ha.1 _ h2; omega
    subst e
    rw [asc_ext ha.2 hb.2 fun z => ?_]
    constructor
    · intro hz
      have := (h z).1 (List.mem_cons_of_mem _ hz)
      rw [List.mem_cons] at this
      rcases this with rfl | h3
      · have := ha.1 _ hz; omega
      · exact h3
    · intro hz
      have := (h z).2 (List.mem_cons_of_mem _ hz)
      rw [List.mem_cons] at this
      rcases this with rfl | h3
      · have := hb.1 _ hz; omega
      · exact h3
def srtI (xs : List Int) : List Int := xs.mergeSort fun x y => decide (x ≤ y)
theorem srtI_len (xs : List Int) : (srtI xs).length = xs.length := by unfold srtI; exact List.length_mergeSort _
theorem srtI_mem {xs : List Int} {x : Int} : x ∈ srtI xs ↔ x ∈ xs := by unfold srtI; exact List.mem_mergeSort
theorem srtI_asc {xs : List Int} (hn : xs.Nodup) : (srtI xs).Pairwise (· < ·) := by
  have h := List.pairwise_mergeSort (le := fun (x y : Int) => decide (x ≤ y)) (fun a b c h1 h2 => by simp at h1 h2 ⊢; omega) (fun a b => by simp; omega) xs
  have h2 : (srtI xs).Nodup := (List.mergeSort_perm xs _).symm.nodup hn
  refine (List.Pairwise.and h h2).imp fun {a b} ⟨h3, h4⟩ => ?_
  have := of_decide_eq_true h3
  omega
theorem ndL_asc {l : List Pr} (h : Ris l) (P : Pr → Bool) : (ndL (l.filter P)).Pairwise (· < ·) := by
  unfold ndL
  rw [List.pairwise_map]
  exact List.Pairwise.sublist List.filter_sublist h
theorem mem_ndL {l : List Pr} {P : Pr → Bool} {n : Int} : n ∈ ndL (l.filter P) ↔ ∃ p ∈ l, P p = true ∧ p.nd = n := by
  unfold ndL
  simp [List.mem_map, List.mem_filter, and_assoc]
theorem hasTop {l : List Pr} (h : Ris l) (P : Pr → Bool) {p : Pr} (hp : p ∈ l) : hasI (ndL (l.filter P)) p.nd = P p := by
  cases hP : P p with
  | true => exact (hasI_mem _ _).2 (mem_ndL.2 ⟨p, hp, hP, rfl⟩)
  | false =>
    cases hh : hasI (ndL (l.filter P)) p.nd with
    | false => rfl
    | true =>
      obtain ⟨q, hq, h1, h2⟩ := mem_ndL.1 ((hasI_mem _ _).1 hh)
      rw [ris_inj h q hq p hp h2] at h1
      rw [h1] at hP
      cases hP
/-- whom the document chooses, of whom the lot drew one -/
def chP (t : List Int) (n : Int) (p : Pr) : Bool := hasI t p.nd || decide (p.nd = n)
def chL (t : List Int) (n : Int) (l : List Pr) : List Int := ndL (l.filter (chP t n))
theorem ch_some {l : List Pr} (h : Ris l) (P : Pr → Bool) {o : Pr} (ho : o ∈ l.filter (otP (ndL (l.filter P)))) : srtI (ndL (l.filter P) ++ [o.nd]) = chL (ndL (l.filter P)) o.nd l := by
  obtain ⟨ho1, ho2⟩ := List.mem_filter.1 ho
  unfold otP at ho2
  rw [Bool.and_eq_true, hasTop h P ho1] at ho2
  have ha := ndL_asc h P
  have hn : (ndL (l.filter P) ++ [o.nd]).Nodup := by
    rw [List.nodup_append]
    refine ⟨ha.imp fun {a b} h => by omega, by simp, fun a hx b hb e => ?_⟩
    rw [List.mem_singleton] at hb
    subst hb
    have := (hasI_mem _ _).2 (e ▸ hx)
    rw [hasTop h P ho1] at this
    rw [this] at ho2
    simp at ho2
  refine asc_ext (srtI_asc hn) (ndL_asc h _) fun n => ?_
  rw [srtI_mem, List.mem_append, List.mem_singleton]
  unfold chL
  rw [mem_ndL, mem_ndL]
  constructor
  · rintro (⟨p, hp, h1, h2⟩ | rfl)
    · exact ⟨p, hp, by unfold chP; rw [hasTop h P hp, h1]; rfl, h2⟩
    · exact ⟨o, ho1, by unfold chP; simp, rfl⟩
  · rintro ⟨p, hp, h1, rfl⟩
    unfold chP at h1
    rw [hasTop h P hp, Bool.or_eq_true] at h1
    rcases h1 with h1 | h1
    · exact .inl ⟨p, hp, h1, rfl⟩
    · exact .inr (of_decide_eq_true h1)
theorem ch_none {l : List Pr} (h : Ris l) (h1 : ∀ p ∈ l, 1 ≤ p.nd) (P : Pr → Bool) : srtI (ndL (l.filter P)) = chL (ndL (l.filter P)) 0 l := by
  refine asc_ext (srtI_asc ((ndL_asc h P).imp fun {a b} h => by omega)) (ndL_asc h _) fun n => ?_
  rw [srtI_mem]
  unfold chL
  rw [mem_ndL, mem_ndL]
  constructor
  · rintro ⟨p, hp, h2, h3⟩
    exact ⟨p, hp, by unfold chP; rw [hasTop h P hp, h2]; rfl, h3⟩
  · rintro ⟨p, hp, h2, rfl⟩
    unfold chP at h2
    rw [hasTop h P hp, Bool.or_eq_true] at h2
    rcases h2 with h2 | h2
    · exact ⟨p, hp, h2, rfl⟩
    · have := h1 p hp
      have := of_decide_eq_true h2
      omega
end Go.Proofs.Ytjndgglbapghhaa

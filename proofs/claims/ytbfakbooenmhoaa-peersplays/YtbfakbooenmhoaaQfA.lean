/- peers: mathematics: the document's rows and the program's table. -/
import Derived.Test.YtbfakbooenmhoaaQeA
namespace Go.Proofs.Ytbfakbooenmhoaa
open Go.RowKit
set_option linter.unusedVariables false

/-- is a number there? -/
def th (P : Nat → Option Nat) (n : Int) : Bool := isPr n && (P n.toNat).isSome
/-- what is known of numbers -/
structure Nd (P : Nat → Option Nat) (C : Nat → Pr) : Prop where
  nd : ∀ p g, p < 16 → P p = some g → (C p).nd = p
  p0 : P 0 = none
theorem Tb.nds {B : Nat} {w : World} {b : Nat} {room tmo : Int} {P : Nat → Option Nat} {C : Nat → Pr} {Bn : Nat → Bool} (h : Tb B w b room tmo P C Bn) : Nd P C := ⟨h.nd, h.p0⟩
theorem Nd.mem {P : Nat → Option Nat} {C : Nat → Pr} (h : Nd P C) {q : Nat} (hq : q ∈ ns P) : (C q).nd = q ∧ 1 ≤ q ∧ q ≤ 15 ∧ th P q = true := by
  obtain ⟨h1, g, h2⟩ := ns_mem.1 hq
  have hq0 : q ≠ 0 := fun e => by rw [e, h.p0] at h2; cases h2
  refine ⟨h.nd q g h1 h2, by omega, by omega, ?_⟩
  unfold th isPr
  rw [Int.toNat_natCast, h2, decide_eq_true (by omega)]
  rfl
theorem th_yes {P : Nat → Option Nat} {n : Int} (h : th P n = true) : ∃ p : Nat, n = p ∧ 1 ≤ p ∧ p ≤ 15 ∧ ∃ g, P p = some g := by
  unfold th isPr at h
  rw [Bool.and_eq_true, decide_eq_true_iff] at h
  obtain ⟨g, hg⟩ := Option.isSome_iff_exists.1 h.2
  exact ⟨n.toNat, by omega, by omega, by omega, g, hg⟩
theorem th_mem {P : Nat → Option Nat} {p g : Nat} (hp : p ≤ 15) (hg : P p = some g) : p ∈ ns P := ns_mem.2 ⟨by omega, g, hg⟩
theorem th_no {P : Nat → Option Nat} {n : Int} (h : th P n = false) : NoP P n := by
  unfold th at h
  unfold NoP
  cases h1 : isPr n with
  | false => exact .inl rfl
  | true =>
    rw [h1, Bool.true_and] at h
    have h2 : 1 ≤ n ∧ n ≤ 15 := of_decide_eq_true h1
    refine .inr ⟨n.toNat, by omega, by omega, by omega, ?_⟩
    cases hq : P n.toNat with
    | none => rfl
    | some g => rw [hq] at h; cases h
theorem fnd_th {P : Nat → Option Nat} {C : Nat → Pr} (hN : Nd P C) {n : Int} : (th P n = true → ∃ i : Nat, fnd (lst P C 16) n = i ∧ (lst P C 16)[i]? = some (C n.toNat)) ∧ (th P n = false → fnd (lst P C 16) n = -1) := by
  constructor
  · intro h
    obtain ⟨p, rfl, h1, h2, g, hg⟩ := th_yes h
    obtain ⟨i, hi⟩ := List.getElem?_of_mem (th_mem h2 hg)
    have hl : (lst P C 16)[i]? = some (C p) := by rw [lst_ns, List.getElem?_map, hi]; rfl
    refine ⟨i, fnd_at hl (hN.nd p g (by omega) hg) (fun j d hj hd => ?_), by rw [Int.toNat_natCast]; exact hl⟩
    rw [lst_ns, List.getElem?_map] at hd
    obtain ⟨q, hq, rfl⟩ := Option.map_eq_some_iff.1 hd
    obtain ⟨e1, _⟩ := hN.mem (List.mem_of_getElem? hq)
    rw [e1]
    intro e
    have e2 : q = p := by omega
    subst e2
    obtain ⟨l1, l2⟩ := List.getElem?_eq_some_iff.1 hq
    obtain ⟨l3, l4⟩ := List.getElem?_eq_some_iff.1 hi
    exact List.pairwise_iff_getElem.1 (ns_nodup P) j i l1 l3 hj (l2.trans l4.symm)
  · intro h
    refine fnd_no fun j d hd e => ?_
    rw [lst_ns, List.getElem?_map] at hd
    obtain ⟨q, hq, rfl⟩ := Option.map_eq_some_iff.1 hd
    obtain ⟨e1, _, _, e4⟩ := hN.mem (List.mem_of_getElem? hq)
    rw [e1] at e
    rw [← e, e4] at h
    cases h
theorem lst_bd {P : Nat → Option Nat} {C : Nat → Pr} (h : ∀ p, Bd (C p)) : ∀ c ∈ lst P C 16, Bd c := by
  intro c hc
  rw [lst_ns] at hc
  obtain ⟨q, _, rfl⟩ := List.mem_map.1 hc
  exact h q
theorem ns_sorted (P : Nat → Option Nat) : (ns P).Pairwise (· < ·) := List.Pairwise.filter _ List.pairwise_lt_range
theorem lst_pw {P : Nat → Option Nat} {C : Nat → Pr} (hN : Nd P C) : (lst P C 16).Pairwise fun a b => a.nd ≠ b.nd := by
  rw [lst_ns, List.pairwise_map]
  refine List.Pairwise.imp_of_mem ?_ (ns_nodup P)
  intro a b ha hb hab
  rw [(hN.mem ha).1, (hN.mem hb).1]
  omega
theorem wiL_lst {P : Nat → Option Nat} {C : Nat → Pr} (hN : Nd P C) {p : Nat} {X : Pr} (hX : X.nd = p) : wiL (lst P C 16) X = lst P (tup C p X) 16 := by
  rw [lst_ns, lst_ns]
  unfold wiL
  rw [List.map_map]
  refine List.map_congr_left fun q hq => ?_
  show (if (C q).nd = X.nd then X else C q) = tup C p X q
  rw [(hN.mem hq).1, hX]
  unfold tup
  by_cases e : q = p
  · rw [if_pos (by omega), if_pos e]
  · rw [if_neg (by omega), if_neg e]
theorem ns_cut (P : Nat → Option Nat) (p : Nat) : ns (tup P p none) = (ns P).filter fun q => decide (q ≠ p) := by
  unfold ns
  rw [List.filter_filter]
  refine List.filter_congr fun q _ => ?_
  unfold tup
  by_cases e : q = p
  · rw [if_pos e]
    simp [e]
  · rw [if_neg e]
    simp [e]
theorem woL_lst {P : Nat → Option Nat} {C : Nat → Pr} (hN : Nd P C) (p : Nat) : woL (lst P C 16) p = lst (tup P p none) C 16 := by
  rw [lst_ns, lst_ns, ns_cut]
  unfold woL
  rw [List.filter_map]
  refine congrArg (List.map C) (List.filter_congr fun q hq => ?_)
  show decide ((C q).nd ≠ (p : Int)) = decide (q ≠ p)
  rw [(hN.mem hq).1]
  exact decide_eq_decide.2 (by omega)
theorem insS_low (A : List Pr) (x : Pr) (h : ∀ c ∈ A, ¬ x.nd < c.nd) : ∀ st : List Pr, A.foldl (insF x) (st, false) = (st ++ A, false) := by
  induction A with
  | nil => intro st; simp
  | cons e A ih =>
    intro st
    rw [List.foldl_cons]
    have e1 : insF x (st, false) e = (st ++ [e], false) := by
      unfold insF
      rw [if_neg (fun hh => h e (by simp) hh.2)]
    rw [e1, ih (fun c hc => h c (by simp [hc])), List.append_assoc]
    rfl
theorem insS_put (D : List Pr) (x : Pr) : ∀ st : List Pr, D.foldl (insF x) (st, true) = (st ++ D, true) := by
  induction D with
  | nil => intro st; simp
  | cons e D ih =>
    intro st
    rw [List.foldl_cons]
    have e1 : insF x (st, true) e = (st ++ [e], true) := by
      unfold insF
      rw [if_neg (fun hh => by cases hh.1)]
    rw [e1, ih, List.append_assoc]
    rfl
theorem insL_mid (A D : List Pr) (x : Pr) (hA : ∀ c ∈ A, ¬ x.nd < c.nd) (hD : ∀ c ∈ D, x.nd < c.nd) : insL (A ++ D) x = A ++ [x] ++ D := by
  have h1 : insS (A ++ D) x = D.foldl (insF x) (A, false) := by
    unfold insS
    rw [List.foldl_append, insS_low A x hA]
    rfl
  cases D with
  | nil =>
    have h2 : insS (A ++ []) x = (A, false) := h1
    unfold insL
    rw [h2]
    simp
  | cons e D =>
    have e1 : insF x (A, false) e = (A ++ [x] ++ [e], true) := by
      unfold insF
      rw [if_pos ⟨rfl, hD e (by simp)⟩]
    have h2 : insS (A ++ e :: D) x = (A ++ [x] ++ [e] ++ D, true) := by
      rw [h1, List.foldl_cons, e1, insS_put]
    unfold insL
    rw [h2, if_pos rfl]
    simp
theorem ns_split (P : Nat → Option Nat) (p : Nat) (hp : p < 16) : ns P = ((List.range p).filter fun q => (P q).isSome) ++ ([p].filter fun q => (P q).isSome) ++ ((List.range' (p + 1) (15 - p)).filter fun q => (P q).isSome) := by
  unfold ns
  rw [← List.filter_append, ← List.filter_append]
  congr 1
  rw [List.range_eq_range', List.range_eq_range', show [p] = List.range' p 1 from rfl]
  have h1 := List.range'_append_1 (s := 0) (m := p) (n := 1)
  have h2 := List.range'_append_1 (s := 0) (m := p + 1) (n := 15 - p)
  rw [Nat.zero_add] at h1 h2
  rw [h1, h2, show p + 1 + (15 - p) = 16 by omega]
theorem insL_lst {P : Nat → Option Nat} {C : Nat → Pr} (hN : Nd P C) {p : Nat} (hp : p < 16) (hP : P p = none) (g : Nat) {X : Pr} (hX : X.nd = p) : insL (lst P C 16) X = lst (tup P p (some g)) (tup C p X) 16 := by
  rw [lst_ns, lst_ns, ns_split P p hp, ns_split (tup P p (some g)) p hp]
  have e1 : ([p].filter fun q => (P q).isSome) = [] := by simp [hP]
  have e2 : ([p].filter fun q => (tup P p (some g) q).isSome) = [p] := by simp [tup]
  have e3 : ((List.range p).filter fun q => (tup P p (some g) q).isSome) = (List.range p).filter fun q => (P q).isSome := List.filter_congr fun q hq => by
    have := List.mem_range.1 hq
    unfold tup
    rw [if_neg (by omega)]
  have e4 : ((List.range' (p + 1) (15 - p)).filter fun q => (tup P p (some g) q).isSome) = (List.range' (p + 1) (15 - p)).filter fun q => (P q).isSome := List.filter_congr fun q hq => by
    have := List.mem_range'_1.1 hq
    unfold tup
    rw [if_neg (by omega)]
  have hA : ∀ q ∈ (List.range p).filter fun q => (P q).isSome, q < p ∧ q ∈ ns P := fun q hq => by
    obtain ⟨h1, h2⟩ := List.mem_filter.1 hq
    have := List.mem_range.1 h1
    exact ⟨this, ns_mem.2 ⟨by omega, Option.isSome_iff_exists.1 h2⟩⟩
  have hD : ∀ q ∈ (List.range' (p + 1) (15 - p)).filter fun q => (P q).isSome, p < q ∧ q ∈ ns P := fun q hq => by
    obtain ⟨h1, h2⟩ := List.mem_filter.1 hq
    have := List.mem_range'_1.1 h1
    exact ⟨by omega, ns_mem.2 ⟨by omega, Option.isSome_iff_exists.1 h2⟩⟩
  rw [e1, e2, e3, e4, List.append_nil, List.map_append, List.map_append, List.map_append]
  rw [insL_mid _ _ X ?_ ?_]
  · have m1 : List.map (tup C p X) ((List.range p).filter fun q => (P q).isSome) = List.map C ((List.range p).filter fun q => (P q).isSome) := List.map_congr_left fun q hq => by
      have := (hA q hq).1
      unfold tup
      rw [if_neg (by omega)]
    have m2 : List.map (tup C p X) ((List.range' (p + 1) (15 - p)).filter fun q => (P q).isSome) = List.map C ((List.range' (p + 1) (15 - p)).filter fun q => (P q).isSome) := List.map_congr_left fun q hq => by
      have := (hD q hq).1
      unfold tup
      rw [if_neg (by omega)]
    rw [m1, m2]
    simp [tup]
  · intro c hc
    obtain ⟨q, hq, rfl⟩ := List.mem_map.1 hc
    obtain ⟨h1, h2⟩ := hA q hq
    rw [(hN.mem h2).1, hX]
    omega
  · intro c hc
    obtain ⟨q, hq, rfl⟩ := List.mem_map.1 hc
    obtain ⟨h1, h2⟩ := hD q hq
    rw [(hN.mem h2).1, hX]
    omega
theorem rollK_lst (P : Nat → Option Nat) (C : Nat → Pr) : rollK (lst P C 16) (lst P C 16).length = lst P (fun p => rolled (C p)) 16 := by
  unfold rollK
  rw [List.take_length, List.drop_length, List.append_nil, lst_ns, lst_ns, List.map_map]
  rfl
theorem laL_lst {P : Nat → Option Nat} {C : Nat → Pr} (hN : Nd P C) {tmo now : Int} (h : isTm now = true) : laL (lst P C 16) tmo now = exG P C tmo now 16 := by
  unfold laL exG
  rw [if_pos h, lst_ns, List.take_of_length_le (ns_len P), List.filter_map, List.map_map]
  have e : (ns P).filter ((fun c : Pr => decide (tmo < now - c.se)) ∘ C) = (ns P).filter (late C tmo now) := List.filter_congr fun q _ => rfl
  rw [e]
  refine List.map_congr_left fun q hq => ?_
  exact (hN.mem (List.mem_filter.1 hq).1).1
theorem wosL_filter (L : List Pr) (G : List Int) : wosL L G = L.filter fun c => decide (c.nd ∉ G) := by
  induction G generalizing L with
  | nil =>
    unfold wosL
    rw [List.foldl_nil]
    exact (List.filter_eq_self.2 fun c _ => by simp).symm
  | cons n G ih =>
    have e : wosL L (n :: G) = wosL (woL L n) G := rfl
    rw [e, ih]
    unfold woL
    rw [List.filter_filter]
    refine List.filter_congr fun c _ => ?_
    rw [← Bool.decide_and]
    exact decide_eq_decide.2 (by simp [and_comm])
theorem wosL_lst {P : Nat → Option Nat} {C : Nat → Pr} (hN : Nd P C) (tmo now : Int) : wosL (lst P C 16) (exG P C tmo now 16) = lst (exP P C tmo now 16) C 16 := by
  rw [wosL_filter, lst_ns, lst_ns, List.filter_map]
  have ht : (ns P).take 16 = ns P := List.take_of_length_le (ns_len P)
  have e : ns (exP P C tmo now 16) = (ns P).filter fun q => !late C tmo now q := by
    have e0 : ns P = (List.range 16).filter fun q => (P q).isSome := rfl
    have hm : ∀ q, q < 16 → (q ∈ (ns P).take 16 ↔ (P q).isSome = true) := fun q hq => by
      rw [ht, ns_mem]
      exact ⟨fun h => Option.isSome_iff_exists.2 h.2, fun h => ⟨hq, Option.isSome_iff_exists.1 h⟩⟩
    unfold ns
    rw [List.filter_filter]
    refine List.filter_congr fun q hq => ?_
    have hq16 := List.mem_range.1 hq
    unfold exP
    by_cases h : q ∈ (ns P).take 16 ∧ late C tmo now q = true
    · rw [if_pos h, h.2]
      rfl
    · rw [if_neg h]
      cases hP : (P q).isSome with
      | false => simp
      | true =>
        have : late C tmo now q = false := by
          cases hl : late C tmo now q with
          | false => rfl
          | true => exact absurd ⟨(hm q hq16).2 hP, hl⟩ h
        rw [this]
        rfl
  rw [e]
  refine congrArg (List.map C) (List.filter_congr fun q hq => ?_)
  show decide ((C q).nd ∉ exG P C tmo now 16) = !late C tmo now q
  rw [(hN.mem hq).1]
  unfold exG
  rw [ht]
  cases hl : late C tmo now q with
  | false =>
    refine decide_eq_true fun hm => ?_
    obtain ⟨q', h1, h2⟩ := List.mem_map.1 hm
    have : q' = q := by omega
    subst this
    have := (List.mem_filter.1 h1).2
    rw [hl] at this
    cases this
  | true =>
    refine decide_eq_false fun hm => hm (List.mem_map.2 ⟨q, List.mem_filter.2 ⟨hq, hl⟩, rfl⟩)
theorem laL_none {L : List Pr} {tmo now : Int} (h : isTm now = false) : laL L tmo now = [] := by
  unfold laL
  rw [h]
  rfl
theorem hasI_snoc (l : List Int) (n x : Int) : hasI (l ++ [n]) x = (hasI l x || decide (n = x)) := by
  unfold hasI
  rw [List.any_append]
  simp
end Go.Proofs.Ytbfakbooenmhoaa

/- choke: Choose, Top, Turns and the document's, whatever the arguments. -/
import Derived.Test.YtjndgglbapghhaaClC
import Derived.Test.YtjndgglbapghhaaCkY
import Derived.Test.YtjndgglbapghhaaRel
import Derived.Test.YtjndgglbapghhaaCkC
namespace Go.Proofs.Ytjndgglbapghhaa
open Go.RowKit Go.Sort
set_option linter.unusedVariables false
attribute [local go_sem] Oper.semAt_some

/-- who is chosen, and the error -/
def choX (s lot x y : Int) (l : List Pr) : List Int × Int := if (mayB s x y l && decide (0 ≤ lot)) = true then (choL x y s.toNat lot.toNat l, 0) else ([], 1)
def topX (s x y : Int) (l : List Pr) : List Int × Int := if mayB s x y l = true then (ndL (dTop x y s.toNat l), 0) else ([], 1)
theorem choX_no {s lot x y : Int} {l : List Pr} (h : (mayB s x y l && decide (0 ≤ lot)) = false) : choX s lot x y l = ([], 1) := by
  unfold choX
  rw [if_neg (by rw [h]; simp)]
theorem choX_yes {s lot x y : Int} {l : List Pr} (h : (mayB s x y l && decide (0 ≤ lot)) = true) : choX s lot x y l = (choL x y s.toNat lot.toNat l, 0) := by
  unfold choX
  rw [if_pos h]
theorem topX_no {s x y : Int} {l : List Pr} (h : mayB s x y l = false) : topX s x y l = ([], 1) := by
  unfold topX
  rw [if_neg (by rw [h]; simp)]
theorem topX_yes {s x y : Int} {l : List Pr} (h : mayB s x y l = true) : topX s x y l = (ndL (dTop x y s.toNat l), 0) := by
  unfold topX
  rw [if_pos h]
theorem mayB_parts {s x y : Int} {l : List Pr} (h : mayB s x y l = true) : (0 ≤ s ∧ s ≤ 8) ∧ okP x y = true ∧ arP 1 l = true := by
  unfold mayB at h
  simp only [Bool.and_eq_true, decide_eq_true_iff] at h
  exact ⟨h.1.1, h.1.2, h.2⟩
theorem choR_nil {w w' : World} (h : Below w.heap.size w w') : ChoR w (.slice none 0 0) [] w' := ⟨⟨none, 0, rfl, fun i hi => by simp at hi⟩, h⟩
theorem TopR.cho {w w' : World} {v : Value} {t : List Int} (h : TopR w v t w') : ChoR w v t w' := by
  obtain ⟨a, c, h1, h2, _⟩ := OwnI.ints h.own
  exact ⟨⟨a, c, h1, h2⟩, h.be⟩
theorem choose_any (a0 : Option Addr) (l : List Pr) (c : Nat) (s lot x y : Int) (w : World) (hl : PrsAt w a0 l) (hm : l.length ≤ 1000) :
    Calls Try.prog 9 #[.slice a0 l.length c, .int .i64 s, .int .i64 lot, rv x y] w fun e w' => ∃ v, e = .returned (.tuple #[v, .int .i64 (choX s lot x y l).2]) ∧ ChoR w v (choX s lot x y l).1 w' := by
  cases h1 : mayB s x y l with
  | false =>
    rw [choX_no (by rw [h1]; rfl)]
    refine (choose_bad a0 l c s lot x y w hl (by unfold maxLen; omega) h1).mono ?_
    rintro e w' ⟨rfl, hb⟩
    exact ⟨_, rfl, choR_nil hb⟩
  | true =>
    obtain ⟨hs, hp, ha⟩ := mayB_parts h1
    obtain ⟨sn, rfl⟩ : ∃ n : Nat, s = n := ⟨s.toNat, by omega⟩
    by_cases h2 : 0 ≤ lot
    · obtain ⟨ln, rfl⟩ : ∃ n : Nat, lot = n := ⟨lot.toNat, by omega⟩
      rw [choX_yes (by rw [h1, decide_eq_true h2]; rfl)]
      exact choose_good a0 l c sn ln x y w hl hm (by omega) hp ha
    · rw [choX_no (by rw [decide_eq_false h2, Bool.and_false])]
      refine (choose_neg a0 l c sn lot x y w hl hm (by omega) hp ha (by omega)).mono ?_
      rintro e w' ⟨rfl, hb⟩
      exact ⟨_, rfl, choR_nil hb⟩
theorem top_any (a0 : Option Addr) (l : List Pr) (c : Nat) (s x y : Int) (w : World) (hl : PrsAt w a0 l) (hm : l.length ≤ 1000) :
    Calls Try.prog 13 #[.slice a0 l.length c, .int .i64 s, rv x y] w fun e w' => ∃ v, e = .returned (.tuple #[v, .int .i64 (topX s x y l).2]) ∧ ChoR w v (topX s x y l).1 w' := by
  cases h1 : mayB s x y l with
  | false =>
    rw [topX_no h1]
    refine (top_bad a0 l c s x y w hl (by unfold maxLen; omega) h1).mono ?_
    rintro e w' ⟨rfl, hb⟩
    exact ⟨_, rfl, choR_nil hb⟩
  | true =>
    obtain ⟨hs, hp, ha⟩ := mayB_parts h1
    obtain ⟨sn, rfl⟩ : ∃ n : Nat, s = n := ⟨s.toNat, by omega⟩
    rw [topX_yes h1]
    refine (top_good a0 l c sn x y w hl hm (by omega) hp ha).mono ?_
    rintro e w' ⟨v, rfl, h⟩
    exact ⟨v, rfl, h.cho⟩
theorem dchoose_any (a0 : Option Addr) (l : List Pr) (c : Nat) (s lot x y : Int) (w : World) (hl : PrsAt w a0 l) (hm : l.length ≤ 1000) :
    Calls Try.prog 10 #[.slice a0 l.length c, .int .i64 s, .int .i64 lot, rv x y] w fun e w' => ∃ v, e = .returned (.tuple #[v, .int .i64 (choX s lot x y l).2]) ∧ ChoR w v (choX s lot x y l).1 w' := by
  cases h1 : mayB s x y l with
  | false =>
    rw [choX_no (by rw [h1]; rfl)]
    refine (dchoose_bad a0 l c s lot x y w hl (by omega) (.inl h1)).mono ?_
    rintro e w' ⟨rfl, hb⟩
    exact ⟨_, rfl, choR_nil hb⟩
  | true =>
    obtain ⟨hs, hp, ha⟩ := mayB_parts h1
    obtain ⟨sn, rfl⟩ : ∃ n : Nat, s = n := ⟨s.toNat, by omega⟩
    by_cases h2 : 0 ≤ lot
    · obtain ⟨ln, rfl⟩ : ∃ n : Nat, lot = n := ⟨lot.toNat, by omega⟩
      rw [choX_yes (by rw [h1, decide_eq_true h2]; rfl)]
      refine (dchoose_good a0 l c sn ln x y w hl hm (by omega) h1).mono ?_
      rintro e w' ⟨v, rfl, h⟩
      exact ⟨v, rfl, h.cho⟩
    · rw [choX_no (by rw [decide_eq_false h2, Bool.and_false])]
      refine (dchoose_bad a0 l c sn lot x y w hl (by omega) (.inr (by omega))).mono ?_
      rintro e w' ⟨rfl, hb⟩
      exact ⟨_, rfl, choR_nil hb⟩
theorem choX_len (s lot x y : Int) (l : List Pr) : (choX s lot x y l).1.length ≤ l.length := by
  unfold choX
  split
  · show (chL _ _ _).length ≤ _
    unfold chL ndL
    rw [List.length_map]
    exact List.length_filter_le _ _
  · exact Nat.zero_le _
theorem topX_len (s x y : Int) (l : List Pr) : (topX s x y l).1.length ≤ l.length := by
  unfold topX
  split
  · show (ndL (dTop _ _ _ _)).length ≤ _
    unfold ndL dTop
    rw [List.length_map]
    exact List.length_filter_le _ _
  · exact Nat.zero_le _
end Go.Proofs.Ytjndgglbapghhaa

/- meter: Turn. -/
import Derived.Test.YtlmmincpjflkdaaMeD
import Derived.Test.YtlmmincpjflkdaaDo
namespace Go.Proofs.Ytlmmincpjflkdaa
open Go.RowKit
set_option linter.unusedVariables false
attribute [local go_sem] Oper.semAt_some

theorem Try.infoSt : (Try.prog.info? 56).map (fun i => (i.zero, i.size, i.bytes)) = some (some (.agg #[.int .i64 0, .int .i64 0]), 2, 16) := by kernel_rfl
theorem Try.undSt : Try.prog.underlying 39 = some (.slice 56) := by kernel_rfl
/-- steps as cells -/
def stC (l : List (Int × Int)) : List Value := l.flatMap fun x => [.int .i64 x.1, .int .i64 x.2]
theorem stC_length (l : List (Int × Int)) : (stC l).length = l.length * 2 := by
  induction l with
  | nil => rfl
  | cons x l ih =>
    have : stC (x :: l) = .int .i64 x.1 :: .int .i64 x.2 :: stC l := rfl
    rw [this, List.length_cons, List.length_cons, ih, List.length_cons]
    omega
theorem stC_append (l m : List (Int × Int)) : stC (l ++ m) = stC l ++ stC m := by simp [stC]
theorem stC_get (l : List (Int × Int)) : ∀ (i : Nat) (h : i < l.length), (stC l)[i * 2]? = some (.int .i64 l[i].1) ∧ (stC l)[i * 2 + 1]? = some (.int .i64 l[i].2) := by
  induction l with
  | nil => intro i h; simp at h
  | cons x l ih =>
    intro i h
    have e : stC (x :: l) = .int .i64 x.1 :: .int .i64 x.2 :: stC l := rfl
    rw [e]
    cases i with
    | zero => exact ⟨rfl, rfl⟩
    | succ i =>
      have h' : i < l.length := by simpa using h
      have := ih i h'
      rw [show (i + 1) * 2 = i * 2 + 1 + 1 by omega]
      simpa using this
/-- steps of the call's own -/
def OwnSt (w : World) (base : Nat) (v : Value) (l : List (Int × Int)) : Prop := w.ownsRow base 56 2 v l.length (stC l)
theorem ownSt_notB {w : World} {B b : Nat} {v : Value} {l : List (Int × Int)} {cs : Array Value} {T : TypeId} (h : OwnSt w B v l) (hb : w.heap[b]? = some (.cells cs T (0, 0))) (hT : T ≠ 56) : v.ownBlock ≠ some b := by
  intro hv
  rcases (show World.ownsRow _ _ _ _ _ _ _ from h).2 with ⟨rfl, _⟩ | ⟨g, cap, cur, rfl, _, hg, _⟩
  · simp [Value.ownBlock] at hv
  · simp only [Value.ownBlock, Option.some.injEq] at hv
    subst hv
    rw [hb] at hg
    simp only [Option.some.injEq, Obj.cells.injEq] at hg
    exact hT hg.2.1
theorem ownSt_keep {w w' : World} {B : Nat} {v : Value} {l : List (Int × Int)} (h : OwnSt w B v l) (hk : ∀ k, v.ownBlock = some k → w'.heap[k]? = w.heap[k]?) : OwnSt w' B v l := by
  refine ⟨h.1, ?_⟩
  rcases h.2 with h1 | ⟨g, cap, cur, h1, h2, h3, h4⟩
  · exact .inl h1
  · exact .inr ⟨g, cap, cur, h1, h2, (hk g (by rw [h1]; rfl)).trans h3, h4⟩
theorem ownI_keep {w w' : World} {B : Nat} {v : Value} {l : List Int} (h : OwnI w B v l) (hk : ∀ k, v.ownBlock = some k → w'.heap[k]? = w.heap[k]?) : OwnI w' B v l := by
  refine ⟨h.1, ?_⟩
  rcases h.2 with h1 | ⟨g, cap, cur, h1, h2, h3, h4⟩
  · exact .inl h1
  · exact .inr ⟨g, cap, cur, h1, h2, (hk g (by rw [h1]; rfl)).trans h3, h4⟩
theorem own_blk {w : World} {B : Nat} {v : Value} {l : List Int} (h : OwnI w B v l) {k : Nat} (hk : v.ownBlock = some k) : ∃ cs, w.heap[k]? = some (.cells cs 3 (0, 0)) := by
  rcases h.2 with ⟨rfl, _⟩ | ⟨g, cap, cur, rfl, _, hg, _⟩
  · simp [Value.ownBlock] at hk
  · simp only [Value.ownBlock, Option.some.injEq] at hk
    subst hk
    exact ⟨_, hg⟩
theorem ownSt_blk {w : World} {B : Nat} {v : Value} {l : List (Int × Int)} (h : OwnSt w B v l) {k : Nat} (hk : v.ownBlock = some k) : ∃ cs, w.heap[k]? = some (.cells cs 56 (0, 0)) := by
  rcases h.2 with ⟨rfl, _⟩ | ⟨g, cap, cur, rfl, _, hg, _⟩
  · simp [Value.ownBlock] at hk
  · simp only [Value.ownBlock, Option.some.injEq] at hk
    subst hk
    exact ⟨_, hg⟩
theorem two_types {w : World} {k : Nat} {c1 c2 : Array Value} {T1 T2 : TypeId} (h1 : w.heap[k]? = some (.cells c1 T1 (0, 0))) (h2 : w.heap[k]? = some (.cells c2 T2 (0, 0))) (hT : T1 ≠ T2) : False := by
  rw [h1] at h2
  simp only [Option.some.injEq, Obj.cells.injEq] at h2
  exact hT h2.2.1

/-- a queue that may be -/
structure QOk (x : Qu) : Prop where
  w : 0 ≤ x.w ∧ x.w ≤ 16
  c : 0 ≤ x.c ∧ x.c ≤ 16777216
  n : x.l.length ≤ 100
  s : ∀ y ∈ x.l, 1 ≤ y ∧ y ≤ 65536
/-- the queues behind the turns of the first k -/
def turnF (f : Nat → Qu) (q : Int) (k : Nat) : Nat → Qu := fun p => if 1 ≤ p ∧ p < k ∧ (f p).l ≠ [] then turnQ (f p) q else f p
/-- what a peer's turn sends -/
def sentP (f : Nat → Qu) (q : Int) (p : Nat) : List (Int × Int) := if 1 ≤ p then ((f p).l.take (tn (cr0 (f p) q) (f p).l)).map (fun s => ((p : Int), s)) else []
def sentL (f : Nat → Qu) (q : Int) (k : Nat) : List (Int × Int) := (List.range k).flatMap (sentP f q)
def someW (f : Nat → Qu) (k : Nat) : Bool := (List.range k).any fun p => decide (1 ≤ p ∧ (f p).l ≠ [])
def turnE (f : Nat → Qu) (k : Nat) : Int := if someW f k = true then 0 else 4
theorem sentL_succ (f : Nat → Qu) (q : Int) (k : Nat) : sentL f q (k + 1) = sentL f q k ++ sentP f q k := by unfold sentL; rw [List.range_succ, List.flatMap_append]; simp
theorem someW_succ (f : Nat → Qu) (k : Nat) : someW f (k + 1) = (someW f k || decide (1 ≤ k ∧ (f k).l ≠ [])) := by unfold someW; rw [List.range_succ, List.any_append]; simp
theorem turnF_no {f : Nat → Qu} {q : Int} {k : Nat} (h : ¬ (1 ≤ k ∧ (f k).l ≠ [])) : turnF f q (k + 1) = turnF f q k := by
  funext p
  unfold turnF
  by_cases e : p = k
  · subst e
    rw [if_neg (fun h' => h ⟨h'.1, h'.2.2⟩), if_neg (fun h' => h ⟨h'.1, h'.2.2⟩)]
  · by_cases h' : 1 ≤ p ∧ p < k ∧ (f p).l ≠ []
    · rw [if_pos h', if_pos ⟨h'.1, by omega, h'.2.2⟩]
    · rw [if_neg h', if_neg (fun h'' => h' ⟨h''.1, by omega, h''.2.2⟩)]
theorem turnF_yes {f : Nat → Qu} {q : Int} {k : Nat} (h : 1 ≤ k ∧ (f k).l ≠ []) : turnF f q (k + 1) = qup (turnF f q k) k (turnQ (f k) q) := by
  funext p
  unfold turnF qup
  by_cases e : p = k
  · subst e
    rw [if_pos ⟨h.1, by omega, h.2⟩, if_pos rfl]
  · rw [if_neg e]
    show _ = (if 1 ≤ p ∧ p < k ∧ (f p).l ≠ [] then turnQ (f p) q else f p)
    by_cases h' : 1 ≤ p ∧ p < k ∧ (f p).l ≠ []
    · rw [if_pos h', if_pos ⟨h'.1, by omega, h'.2.2⟩]
    · rw [if_neg h', if_neg (fun h'' => h' ⟨h''.1, by omega, h''.2.2⟩)]
theorem turnF_at (f : Nat → Qu) (q : Int) (k : Nat) : turnF f q k k = f k := by unfold turnF; rw [if_neg (by omega)]
theorem sentP_no {f : Nat → Qu} {q : Int} {k : Nat} (h : ¬ (1 ≤ k ∧ (f k).l ≠ [])) : sentP f q k = [] := by
  unfold sentP
  by_cases h1 : 1 ≤ k
  · have : (f k).l = [] := by
      cases hl : (f k).l with
      | nil => rfl
      | cons x l => exact absurd ⟨h1, by rw [hl]; simp⟩ h
    rw [if_pos h1, this]
    simp
  · rw [if_neg h1]
theorem sentP_yes {f : Nat → Qu} {q : Int} {k : Nat} (h : 1 ≤ k) : sentP f q k = ((f k).l.take (tn (cr0 (f k) q) (f k).l)).map (fun s => ((k : Int), s)) := if_pos h

theorem sentL_len {f : Nat → Qu} {q : Int} (h : ∀ p, p < 16 → (f p).l.length ≤ 100) : ∀ k, k ≤ 16 → (sentL f q k).length ≤ k * 100 := by
  intro k
  induction k with
  | zero => intro _; exact Nat.le_refl _
  | succ k ih =>
    intro hk
    rw [sentL_succ, List.length_append]
    have h1 := ih (by omega)
    have h2 : (sentP f q k).length ≤ 100 := by
      unfold sentP
      split
      · rw [List.length_map, List.length_take]
        have := h k (by omega)
        omega
      · simp
    omega
theorem ShStep.right {w x y : World} {b : Nat} {V V2 : Nat → Value} (h : ShStep w x b V V2) (hb : Below x.heap.size x y) : ShStep w y b V V2 :=
  ⟨hb.os.trans h.os, hb.tape.trans h.tape, hb.output.trans h.output, Nat.le_trans h.size hb.size, fun k hk hn hv => (hb.block k (Nat.lt_of_lt_of_le hk h.size)).trans (h.block k hk hn hv), h.new⟩
/-- a share and steps behind k peers' turns -/
structure TurnR (w : World) (B b : Nat) (q : Int) (F : Nat → Qu) (V : Nat → Value) (v : Value) (l : List (Int × Int)) (w' : World) : Prop where
  st : OwnSt w' w.heap.size v l
  sh : ∃ V', ShAt w' B b q F V' ∧ ShStep w w' b V V'
theorem TurnR.drew {w : World} {B b : Nat} {q : Int} {F : Nat → Qu} {V : Nat → Value} {v : Value} {l : List (Int × Int)} {w' : World} (h : TurnR w B b q F V v l w') : TurnR w B b q F V v l w'.drew := by
  obtain ⟨V', h1, h2⟩ := h.sh
  exact ⟨h.st, V', h1.drew, h2.drew⟩
/-- the states of the region that calls a turn -/
structure TSt (w : World) (B b : Nat) (q : Int) (F : Nat → Qu) (V V1 : Nat → Value) (p : Nat) (L : List Int) (v : Value) (l : List (Int × Int)) (j : Nat) (x : World) : Prop where
  ex : ∃ V2, ShAt x B b q (if j = 0 then F else qup F p (turnQ (F p) q)) V2 ∧ ShStep w x b V V2 ∧ (j = 0 → V2 = V1)
  own : OwnI x B (V1 p) L
  st : OwnSt x w.heap.size v l
theorem TSt.up {w : World} {B b : Nat} {q : Int} {F : Nat → Qu} {V V1 : Nat → Value} {p : Nat} {L : List Int} {v : Value} {l : List (Int × Int)} {j : Nat} {x y : World} (h : TSt w B b q F V V1 p L v l j x) (hb : Below x.heap.size x y) : TSt w B b q F V V1 p L v l j y := by
  obtain ⟨V2, h1, h2, h3⟩ := h.ex
  exact ⟨⟨V2, h1.up hb, h2.right hb, h3⟩, ownI_keep h.own (fun k hk => hb.block k (World.ownsRow.lt (show World.ownsRow _ _ _ _ _ _ _ from h.own) k hk).2), ownSt_keep h.st (fun k hk => hb.block k (World.ownsRow.lt (show World.ownsRow _ _ _ _ _ _ _ from h.st) k hk).2)⟩
theorem TSt.c0 {w : World} {B b : Nat} {q : Int} {F : Nat → Qu} {V V1 : Nat → Value} {p : Nat} {L : List Int} {v : Value} {l : List (Int × Int)} {j : Nat} {x : World} (h : TSt w B b q F V V1 p L v l j x) : x.cell? ⟨b, 0, none⟩ = some (.int .i64 q) := by
  obtain ⟨V2, h1, h2, h3⟩ := h.ex
  exact h1.c0
/-- the steps' row stays over a call on the share -/
theorem TSt.next {w : World} {B b : Nat} {q : Int} {F : Nat → Qu} {V V1 : Nat → Value} {p : Nat} {L : List Int} {v : Value} {l : List (Int × Int)} {x y : World} (h : TSt w B b q F V V1 p L v l 0 x)
    (ho : OwnI y B (V1 p) L) (hs : ∃ V', ShAt y B b q (qup F p (turnQ (F p) q)) V' ∧ ShStep x y b V1 V') : TSt w B b q F V V1 p L v l 1 y := by
  obtain ⟨V2, h1, h2, h3⟩ := h.ex
  rw [if_pos rfl] at h1
  have e := h3 rfl
  subst e
  obtain ⟨V', s1, s2⟩ := hs
  refine ⟨⟨V', by rw [if_neg (by decide)]; exact s1, h2.trans s2, fun h => by cases h⟩, ho, ownSt_keep h.st (fun k hk => ?_)⟩
  obtain ⟨cs, hc⟩ := ownSt_blk h.st hk
  refine s2.block k (lt_of_block hc) (fun e => ?_) (fun p' hp' e => ?_)
  · obtain ⟨cs2, hc2⟩ := h1.blk
    rw [e] at hc
    exact two_types hc hc2 (by decide)
  · obtain ⟨cs2, hc2⟩ := own_blk (h1.own p' hp') e
    exact two_types hc hc2 (by decide)
end Go.Proofs.Ytlmmincpjflkdaa

/- peers: an act on both tables: what memory may do, states of the regions. -/
import Derived.Test.YtbfakbooenmhoaaQdI
import Derived.Test.YtbfakbooenmhoaaRst
import Derived.Test.YtbfakbooenmhoaaDo
namespace Go.Proofs.Ytbfakbooenmhoaa
open Go.RowKit
set_option linter.unusedVariables false
attribute [local go_sem] Oper.semAt_some

/-- a block for a table -/
def Zb (x : World) (k : Nat) : Prop := ∃ cs, x.heap[k]? = some (.cells cs 29 (0, 0)) ∧ cs.size = 4
theorem Zb.lt {x : World} {k : Nat} (h : Zb x k) : k < x.heap.size := by
  obtain ⟨cs, h1, _⟩ := h
  exact lt_of_block h1
/-- a block that holds the answer -/
structure Gd (B : Nat) (room tmo : Int) (L : List Pr) (Bs : List Int) (x : World) (k : Nat) : Prop where
  ex : ∃ v vb, x.heap[k]? = some (.cells #[.int .i64 room, .int .i64 tmo, v, vb] 29 (0, 0)) ∧ Dt B x v vb L Bs
/-- new blocks; an empty one of a table, from block m on, may get the answer -/
structure Fz (B : Nat) (room tmo : Int) (L : List Pr) (Bs : List Int) (m : Nat) (x y : World) : Prop where
  os : y.os = x.os
  tape : y.tape = x.tape
  output : y.output = x.output
  size : x.heap.size ≤ y.heap.size
  block : ∀ k, k < x.heap.size → y.heap[k]? = x.heap[k]? ∨ (m ≤ k ∧ Zb x k ∧ Gd B room tmo L Bs y k)
theorem dt_types {B : Nat} {x y : World} {v vb : Value} {L : List Pr} {Bs : List Int} (h : Dt B x v vb L Bs) (hk : ∀ (k : Nat) (cs : Array Value) (T : TypeId), x.heap[k]? = some (.cells cs T (0, 0)) → T = 43 ∨ T = 3 → y.heap[k]? = x.heap[k]?) : Dt B y v vb L Bs := by
  refine ⟨?_, ?_, h.nL, h.nB⟩
  · refine ⟨h.oL.1, ?_⟩
    rcases h.oL.2 with ⟨h1, h2⟩ | ⟨g, cap, cur, h1, h2, h3, h4⟩
    · exact .inl ⟨h1, h2⟩
    · exact .inr ⟨g, cap, cur, h1, h2, (hk g _ _ h3 (.inl rfl)).trans h3, h4⟩
  · refine ⟨h.oB.1, ?_⟩
    rcases h.oB.2 with ⟨h1, h2⟩ | ⟨g, cap, cur, h1, h2, h3, h4⟩
    · exact .inl ⟨h1, h2⟩
    · exact .inr ⟨g, cap, cur, h1, h2, (hk g _ _ h3 (.inr rfl)).trans h3, h4⟩
theorem Fz.dt {B B' : Nat} {room tmo : Int} {L L' : List Pr} {Bs Bs' : List Int} {m : Nat} {x y : World} (f : Fz B room tmo L Bs m x y) {v vb : Value} (h : Dt B' x v vb L' Bs') : Dt B' y v vb L' Bs' :=
  dt_types h fun k cs T hk hT => by
    rcases f.block k (lt_of_block hk) with h1 | ⟨_, h1, _⟩
    · exact h1
    · obtain ⟨cs', h1, _⟩ := h1
      rw [hk] at h1
      simp only [Option.some.injEq, Obj.cells.injEq] at h1
      rcases hT with e | e <;> (rw [e] at h1; exact absurd h1.2.1 (by decide))
theorem Gd.zb {B : Nat} {room tmo : Int} {L : List Pr} {Bs : List Int} {x : World} {k : Nat} (h : Gd B room tmo L Bs x k) : Zb x k := by
  obtain ⟨v, vb, h1, _⟩ := h.ex
  exact ⟨_, h1, rfl⟩
theorem Gd.stay {B : Nat} {room tmo : Int} {L : List Pr} {Bs : List Int} {m : Nat} {x y : World} (f : Fz B room tmo L Bs m x y) {k : Nat} (h : Gd B room tmo L Bs x k) : Gd B room tmo L Bs y k := by
  obtain ⟨v, vb, h1, h2⟩ := h.ex
  rcases f.block k (lt_of_block h1) with h3 | ⟨_, _, h3⟩
  · exact ⟨v, vb, h3.trans h1, f.dt h2⟩
  · exact h3
theorem Fz.trans {B : Nat} {room tmo : Int} {L : List Pr} {Bs : List Int} {m : Nat} {x y z : World} (f : Fz B room tmo L Bs m x y) (g : Fz B room tmo L Bs m y z) : Fz B room tmo L Bs m x z := by
  refine ⟨g.os.trans f.os, g.tape.trans f.tape, g.output.trans f.output, Nat.le_trans f.size g.size, fun k hk => ?_⟩
  rcases f.block k hk with h1 | ⟨h1, h2, h3⟩
  · rcases g.block k (Nat.lt_of_lt_of_le hk f.size) with h4 | ⟨h4, h5, h6⟩
    · exact .inl (h4.trans h1)
    · exact .inr ⟨h4, by unfold Zb at h5 ⊢; rw [← h1]; exact h5, h6⟩
  · exact .inr ⟨h1, h2, h3.stay g⟩
theorem Fz.of_below {B : Nat} {room tmo : Int} {L : List Pr} {Bs : List Int} {m : Nat} {x y : World} (h : Below x.heap.size x y) : Fz B room tmo L Bs m x y := ⟨h.os, h.tape, h.output, h.size, fun k hk => .inl (h.block k hk)⟩
theorem Fz.low {B : Nat} {room tmo : Int} {L : List Pr} {Bs : List Int} {m : Nat} {x y : World} (f : Fz B room tmo L Bs m x y) (hm : m ≤ x.heap.size) : Below m x y := ⟨f.os, f.tape, f.output, f.size, fun k hk => by
  rcases f.block k (by omega) with h1 | ⟨h1, _⟩
  · exact h1
  · omega⟩
/-- what the marked operations of a region answer, by classes -/
def RA (B : Nat) (room tmo eD : Int) (L : List Pr) (Bs : List Int) (m : Nat) (k : Nat) (v : Value) (x : World) : Prop := match k with
  | 0 => ∃ v1 vb, v = .tuple #[tabV room tmo v1 vb, .int .i64 eD] ∧ Dt B x v1 vb L Bs
  | 1 => ∃ v1 vb, v = tabV room tmo v1 vb ∧ Dt B x v1 vb L Bs
  | 2 => v = .int .i64 eD
  | _ => ∃ g, v = .pointer (some ⟨g, 0, none⟩) ∧ m ≤ g ∧ Zb x g
theorem RA.stay {B : Nat} {room tmo eD : Int} {L : List Pr} {Bs : List Int} {m k : Nat} {v : Value} {x y : World} (h : RA B room tmo eD L Bs m k v x) (f : Fz B room tmo L Bs m x y) : RA B room tmo eD L Bs m k v y := by
  match k with
  | 0 =>
    obtain ⟨v1, vb, h1, h2⟩ := h
    exact ⟨v1, vb, h1, f.dt h2⟩
  | 1 =>
    obtain ⟨v1, vb, h1, h2⟩ := h
    exact ⟨v1, vb, h1, f.dt h2⟩
  | 2 => exact h
  | n + 3 =>
    obtain ⟨g, h1, h2, h3⟩ := h
    refine ⟨g, h1, h2, ?_⟩
    rcases f.block g h3.lt with h4 | ⟨_, _, h4⟩
    · unfold Zb at h3 ⊢
      rw [h4]
      exact h3
    · exact h4.zb
theorem mask_in {m : List Bool} {j : Nat} (h : m[j]? = some true) : j ∈ (List.range m.length).filter fun i => m[i]? == some true :=
  List.mem_filter.2 ⟨List.mem_range.2 (List.getElem?_eq_some_iff.1 h).1, by simp [h]⟩
/-- classes of the operations of set's region -/
def clsA (i : Nat) : Nat := if i = 6 ∨ i = 7 then 0 else if i = 8 then 1 else if i = 9 ∨ i = 12 then 2 else 3
/-- a flag as a number -/
def numB (on : Bool) : Int := if on = true then 1 else 0
theorem num_any (on : Bool) (w : World) : Calls Try.prog 57 #[.bool on] w fun e w' => e = .returned (.int .i64 (numB on)) ∧ w = w' := by
  cases on
  all_goals
    rw [show numB _ = _ from rfl]
    go_enter Try.func57, Try.ntmps57
    go_wp2
    go_ret
    exact ⟨rfl, rfl⟩
/-- the store's fact -/
def TA (B : Nat) (room tmo : Int) (L : List Pr) (Bs : List Int) (m p : Nat) (b : Act) (x : World) : Prop := ∃ g, b.eval (.tmp p) = .pointer (some ⟨g, 0, none⟩) ∧ m ≤ g ∧ Gd B room tmo L Bs x g
theorem fz_alloc {B : Nat} {room tmo : Int} {L : List Pr} {Bs : List Int} {m : Nat} {x : World} (o : Obj) : Fz B room tmo L Bs m x (x.alloc o) := Fz.of_below ((Below.refl _ _).alloc (Nat.le_refl _) o)
theorem fz_store {B : Nat} {room tmo : Int} {L : List Pr} {Bs : List Int} {m : Nat} {x : World} {g : Nat} {v vb : Value} (hm : m ≤ g) (hz : Zb x g) (hd : Dt B x v vb L Bs) : Fz B room tmo L Bs m x (x.setRow g #[.int .i64 room, .int .i64 tmo, v, vb]) ∧ Gd B room tmo L Bs (x.setRow g #[.int .i64 room, .int .i64 tmo, v, vb]) g := by
  obtain ⟨cs, hc, hs⟩ := hz
  have hg : Gd B room tmo L Bs (x.setRow g #[.int .i64 room, .int .i64 tmo, v, vb]) g := ⟨v, vb, setRow_heap _ g _ _ _ _ hc, dt_setRow hd hc _⟩
  refine ⟨⟨rfl, rfl, rfl, by simp, fun k hk => ?_⟩, hg⟩
  by_cases e : k = g
  · subst e
    exact .inr ⟨hm, ⟨cs, hc, hs⟩, hg⟩
  · exact .inl (setRow_other _ g k _ e)

/-- behind the program's call: what its table is, what stays -/
structure PRes (B b : Nat) (room tmo : Int) (P : Nat → Option Nat) (R : (Nat → Option Nat) → (Nat → Pr) → (Nat → Bool) → Prop) (w w' : World) : Prop where
  ex : ∃ P' C' Bn', R P' C' Bn' ∧ Tb B w' b room tmo P' C' Bn'
  kt : KT b P w w'
theorem PRes.up {B b : Nat} {room tmo : Int} {P : Nat → Option Nat} {R : (Nat → Option Nat) → (Nat → Pr) → (Nat → Bool) → Prop} {w x y : World} (h : PRes B b room tmo P R w x) (hb : Below x.heap.size x y) : PRes B b room tmo P R w y := by
  obtain ⟨P', C', Bn', h1, h2⟩ := h.ex
  exact ⟨⟨P', C', Bn', h1, h2.up hb⟩, h.kt.trans' (KT.of_below hb)⟩
/-- ahead of the program's call -/
abbrev REq (P : Nat → Option Nat) (C : Nat → Pr) (Bn : Nat → Bool) : (Nat → Option Nat) → (Nat → Pr) → (Nat → Bool) → Prop := fun P' C' Bn' => P' = P ∧ C' = C ∧ Bn' = Bn
theorem kt_keep {B b : Nat} {room tmo : Int} {P : Nat → Option Nat} {C : Nat → Pr} {Bn : Nat → Bool} {x y : World} (h : Tb B x b room tmo P C Bn) (k : KT b P x y) {g : Nat} {cs : Array Value} {T : TypeId} (hg : x.heap[g]? = some (.cells cs T (0, 0))) (h1 : T ≠ 67) (h2 : T ≠ 46) : y.heap[g]? = some (.cells cs T (0, 0)) := by
  refine (k.block g (lt_of_block hg) (fun e => ?_) (fun p hp e => ?_)).trans hg
  · obtain ⟨cs', hc⟩ := h.tb.blk
    rw [← e, hg] at hc
    simp only [Option.some.injEq, Obj.cells.injEq] at hc
    exact h1 hc.2.1
  · have hc := h.tb.pe p g hp e
    rw [hg] at hc
    simp only [Option.some.injEq, Obj.cells.injEq] at hc
    exact h2 hc.2.1
theorem kt_dt {B B' b : Nat} {room tmo : Int} {P : Nat → Option Nat} {C : Nat → Pr} {Bn : Nat → Bool} {x y : World} (h : Tb B x b room tmo P C Bn) (k : KT b P x y) {v vb : Value} {L : List Pr} {Bs : List Int} (hd : Dt B' x v vb L Bs) : Dt B' y v vb L Bs :=
  dt_types hd fun g cs T hg hT => (kt_keep h k hg (by rcases hT with e | e <;> (rw [e]; decide)) (by rcases hT with e | e <;> (rw [e]; decide))).trans hg.symm
/-- the states of the region that calls the program -/
structure SB (B b : Nat) (room tmo : Int) (P : Nat → Option Nat) (C : Nat → Pr) (Bn : Nat → Bool) (R : (Nat → Option Nat) → (Nat → Pr) → (Nat → Bool) → Prop) (w : World) (gA gR g8 : Nat) (cA : Array Value) (v vb : Value) (L : List Pr) (Bs : List Int) (j : Nat) (x : World) : Prop where
  act : x.heap[gA]? = some (.cells cA 33 (0, 0))
  g8b : x.heap[g8]? = some (.cells #[.int .i64 room, .int .i64 tmo, v, vb] 29 (0, 0))
  ans : x.heap[gR]? = some (.cells (if j = 2 then #[.int .i64 room, .int .i64 tmo, v, vb] else zT) 29 (0, 0))
  dt : Dt B x v vb L Bs
  pr : PRes B b room tmo P (if j = 0 then REq P C Bn else R) w x
  lo : w.heap.size ≤ gR
theorem SB.up {B b : Nat} {room tmo : Int} {P : Nat → Option Nat} {C : Nat → Pr} {Bn : Nat → Bool} {R : (Nat → Option Nat) → (Nat → Pr) → (Nat → Bool) → Prop} {w : World} {gA gR g8 : Nat} {cA : Array Value} {v vb : Value} {L : List Pr} {Bs : List Int} {j : Nat} {x y : World} (h : SB B b room tmo P C Bn R w gA gR g8 cA v vb L Bs j x) (hb : Below x.heap.size x y) : SB B b room tmo P C Bn R w gA gR g8 cA v vb L Bs j y :=
  ⟨(hb.block _ (lt_of_block h.act)).trans h.act, (hb.block _ (lt_of_block h.g8b)).trans h.g8b, (hb.block _ (lt_of_block h.ans)).trans h.ans, h.dt.up hb, h.pr.up hb, h.lo⟩
theorem SB.call {B b : Nat} {room tmo : Int} {P : Nat → Option Nat} {C : Nat → Pr} {Bn : Nat → Bool} {R : (Nat → Option Nat) → (Nat → Pr) → (Nat → Bool) → Prop} {w : World} {gA gR g8 : Nat} {cA : Array Value} {v vb : Value} {L : List Pr} {Bs : List Int} {x : World} (h : SB B b room tmo P C Bn R w gA gR g8 cA v vb L Bs 0 x) {F : FuncId} {args : Array Value} {eP : Int}
    (hP : ∀ x, Tb B x b room tmo P C Bn → Calls Try.prog F args x fun e x' => e = .returned (.int .i64 eP) ∧ PRes B b room tmo P R x x') :
    Calls Try.prog F args x fun e x' => e = .returned (.int .i64 eP) ∧ SB B b room tmo P C Bn R w gA gR g8 cA v vb L Bs 1 x' := by
  obtain ⟨P', C', Bn', h1, h2⟩ := h.pr.ex
  rw [if_pos rfl] at h1
  obtain ⟨rfl, rfl, rfl⟩ := h1
  refine (hP x h2).mono ?_
  rintro e x' ⟨he, hr⟩
  have ha := h.ans
  rw [if_neg (by decide)] at ha
  exact ⟨he, kt_keep h2 hr.kt h.act (by decide) (by decide), kt_keep h2 hr.kt h.g8b (by decide) (by decide), by rw [if_neg (by decide)]; exact kt_keep h2 hr.kt ha (by decide) (by decide), kt_dt h2 hr.kt h.dt, ⟨by rw [if_neg (by decide)]; exact hr.ex, h.pr.kt.trans' hr.kt⟩, h.lo⟩
theorem SB.store {B b : Nat} {room tmo : Int} {P : Nat → Option Nat} {C : Nat → Pr} {Bn : Nat → Bool} {R : (Nat → Option Nat) → (Nat → Pr) → (Nat → Bool) → Prop} {w : World} {gA gR g8 : Nat} {cA : Array Value} {v vb : Value} {L : List Pr} {Bs : List Int} {x : World} (h : SB B b room tmo P C Bn R w gA gR g8 cA v vb L Bs 1 x) (hn : g8 ≠ gR) :
    SB B b room tmo P C Bn R w gA gR g8 cA v vb L Bs 2 (x.setRow gR #[.int .i64 room, .int .i64 tmo, v, vb]) := by
  have ha := h.ans
  rw [if_neg (by decide)] at ha
  have ne : ∀ {g : Nat} {cs : Array Value} {T : TypeId}, x.heap[g]? = some (.cells cs T (0, 0)) → T ≠ 29 → g ≠ gR := fun h1 h2 e => by
    subst e
    rw [ha] at h1
    simp only [Option.some.injEq, Obj.cells.injEq] at h1
    exact h2 h1.2.1.symm
  obtain ⟨P', C', Bn', h1, h2⟩ := h.pr.ex
  rw [if_neg (by decide)] at h1
  refine ⟨(setRow_other _ gR gA _ (ne h.act (by decide))).trans h.act, (setRow_other _ gR g8 _ hn).trans h.g8b, by rw [if_pos rfl]; exact setRow_heap _ gR _ _ _ _ ha, dt_setRow h.dt ha _, ⟨⟨P', C', Bn', by rw [if_neg (by decide)]; exact h1, h2.keep ?_ ?_⟩, ?_⟩, h.lo⟩
  · obtain ⟨cs, hc⟩ := h2.tb.blk
    exact setRow_other _ gR b _ (ne hc (by decide))
  · intro p g hp hg
    exact setRow_other _ gR g _ (ne (h2.tb.pe p g hp hg) (by decide))
  · have k := h.pr.kt
    exact ⟨k.os, k.tape, k.output, by simpa [World.setRow] using k.size, fun z hz hb hq => (setRow_other _ gR z _ (by have := h.lo; omega)).trans (k.block z hz hb hq)⟩
/-- behind an act -/
structure ARes (B b : Nat) (room tmo : Int) (P : Nat → Option Nat) (R : (Nat → Option Nat) → (Nat → Pr) → (Nat → Bool) → Prop) (w : World) (eq : Prop) (L : List Pr) (Bs : List Int) (e : Ending) (w' : World) : Prop where
  ex : ∃ v vb r, e = .returned (.tuple #[tabV room tmo v vb, .bool r]) ∧ (r = true ↔ eq) ∧ Dt B w' v vb L Bs
  pr : PRes B b room tmo P R w w'
end Go.Proofs.Ytbfakbooenmhoaa

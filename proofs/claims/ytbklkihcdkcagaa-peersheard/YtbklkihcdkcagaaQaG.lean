/- peers: a table whose peers lie apart; with. -/
import Derived.Test.YtbklkihcdkcagaaQaF
namespace Go.Proofs.Ytbklkihcdkcagaa
open Go.RowKit
set_option linter.unusedVariables false
attribute [local go_sem] Oper.semAt_some

/-- what is known of a peer stays within its bounds -/
structure Bd (c : Pr) : Prop where
  se : 0 ≤ c.se ∧ c.se ≤ 1099511627776
  nw : 0 ≤ c.nw ∧ c.nw ≤ 1099511627776
/-- a table of the caller's own, from block B on, whose peers lie apart -/
structure Tb (B : Nat) (w : World) (b : Nat) (room tmo : Int) (P : Nat → Option Nat) (C : Nat → Pr) (Bn : Nat → Bool) : Prop where
  tb : TbAt w b room tmo P C Bn
  inj : ∀ p q g, p < 16 → q < 16 → P p = some g → P q = some g → p = q
  nd : ∀ p g, p < 16 → P p = some g → (C p).nd = p
  p0 : P 0 = none
  bd : ∀ p, Bd (C p)
  own : B ≤ b
  ownp : ∀ p g, p < 16 → P p = some g → B ≤ g
/-- all blocks but the table's and its peers' stay -/
structure KT (b : Nat) (P : Nat → Option Nat) (w w' : World) : Prop where
  os : w'.os = w.os
  tape : w'.tape = w.tape
  output : w'.output = w.output
  size : w.heap.size ≤ w'.heap.size
  block : ∀ x, x < w.heap.size → x ≠ b → (∀ p, p < 16 → P p ≠ some x) → w'.heap[x]? = w.heap[x]?
theorem KT.of_below {b : Nat} {P : Nat → Option Nat} {w w' : World} (h : Below w.heap.size w w') : KT b P w w' := ⟨h.os, h.tape, h.output, h.size, fun x hx _ _ => h.block x hx⟩
theorem KT.of_kept {b : Nat} {P : Nat → Option Nat} {w w' : World} (h : Kept w.heap.size b w w') : KT b P w w' := ⟨h.os, h.tape, h.output, h.size, fun x hx hb _ => h.block x hx hb⟩
theorem KT.trans {b : Nat} {P P' : Nat → Option Nat} {x y z : World} (h : KT b P x y) (k : KT b P' y z) (hP : ∀ p g, p < 16 → P' p = some g → (∃ q, q < 16 ∧ P q = some g) ∨ x.heap.size ≤ g) : KT b P x z :=
  ⟨k.os.trans h.os, k.tape.trans h.tape, k.output.trans h.output, Nat.le_trans h.size k.size, fun i hi hb hn => (k.block i (Nat.lt_of_lt_of_le hi h.size) hb (fun p hp e => by
    rcases hP p i hp e with ⟨q, hq, e2⟩ | h2
    · exact hn q hq e2
    · omega)).trans (h.block i hi hb hn)⟩
theorem KT.trans' {b : Nat} {P : Nat → Option Nat} {x y z : World} (h : KT b P x y) (k : KT b P y z) : KT b P x z := h.trans k fun p g hp e => .inl ⟨p, hp, e⟩
theorem Tb.below {B : Nat} {w w' : World} {b : Nat} {room tmo : Int} {P : Nat → Option Nat} {C : Nat → Pr} {Bn : Nat → Bool} (h : Tb B w b room tmo P C Bn) (k : KT b P w w') : Below B w w' :=
  ⟨k.os, k.tape, k.output, k.size, fun i hi => by
    have hl := h.tb.lt
    have ho := h.own
    refine k.block i (by omega) (by omega) (fun p hp e => ?_)
    have := h.ownp p i hp e
    omega⟩
theorem Tb.up {B : Nat} {w w' : World} {b : Nat} {room tmo : Int} {P : Nat → Option Nat} {C : Nat → Pr} {Bn : Nat → Bool} (h : Tb B w b room tmo P C Bn) (hb : Below w.heap.size w w') : Tb B w' b room tmo P C Bn := ⟨h.tb.up hb, h.inj, h.nd, h.p0, h.bd, h.own, h.ownp⟩
/-- a peer's block holds another one, all else stays -/
structure CP (g : Nat) (c : Pr) (w w' : World) : Prop where
  blk : w'.heap[g]? = some (.cells c.cl.toArray 46 (0, 0))
  kept : Kept w.heap.size g w w'
theorem Tb.put {B : Nat} {w w1 w2 : World} {b : Nat} {room tmo : Int} {P : Nat → Option Nat} {C : Nat → Pr} {Bn : Nat → Bool} (h : Tb B w b room tmo P C Bn) (h1 : Below w.heap.size w w1) {p g : Nat} (hp : p < 16) (hg : P p = some g) {c : Pr} (hn : c.nd = p) (hb : Bd c) (k : CP g c w1 w2) :
    Tb B w2 b room tmo P (tup C p c) Bn ∧ KT b P w w2 := by
  have t1 := h.up h1
  have hgl : g < w1.heap.size := lt_of_block (t1.tb.pe p g hp hg)
  have hbg : b ≠ g := fun e => t1.tb.notB p g hp hg e.symm
  have kb := k.kept.block b t1.tb.lt hbg
  refine ⟨⟨⟨by rw [kb]; exact t1.tb.blk, (World.cell?_of_block kb).trans t1.tb.c0, (World.cell?_of_block kb).trans t1.tb.c1, fun q hq => (World.cell?_of_block kb).trans (t1.tb.ps q hq), fun q hq => (World.cell?_of_block kb).trans (t1.tb.bs q hq), fun q g2 hq hg2 => ?_⟩, h.inj, ?_, h.p0, ?_, h.own, h.ownp⟩, ?_⟩
  · by_cases e : q = p
    · subst e
      rw [hg] at hg2
      cases hg2
      unfold tup
      rw [if_pos rfl]
      exact k.blk
    · have hne : g2 ≠ g := fun e2 => e (h.inj q p g2 hq hp hg2 (by rw [e2]; exact hg))
      unfold tup
      rw [if_neg e]
      exact (k.kept.block g2 (lt_of_block (t1.tb.pe q g2 hq hg2)) hne).trans (t1.tb.pe q g2 hq hg2)
  · intro q g2 hq hg2
    unfold tup
    by_cases e : q = p
    · rw [if_pos e, e]; exact hn
    · rw [if_neg e]; exact h.nd q g2 hq hg2
  · intro q
    unfold tup
    by_cases e : q = p
    · rw [if_pos e]; exact hb
    · rw [if_neg e]; exact h.bd q
  · exact ⟨k.kept.os.trans h1.os, k.kept.tape.trans h1.tape, k.kept.output.trans h1.output, Nat.le_trans h1.size k.kept.size, fun x hx hxb hxp => (k.kept.block x (Nat.lt_of_lt_of_le hx h1.size) (fun e => hxp p hp (by rw [hg, e]))).trans (h1.block x hx)⟩
/-- nobody of that number is there -/
def NoP (P : Nat → Option Nat) (n : Int) : Prop := isPr n = false ∨ ∃ p : Nat, n = p ∧ 1 ≤ p ∧ p ≤ 15 ∧ P p = none
set_option maxRecDepth 100000 in
set_option maxHeartbeats 1000000 in
theorem with_no (n : Int) (f : Value) (b : Nat) (room tmo : Int) (P : Nat → Option Nat) (C : Nat → Pr) (Bn : Nat → Bool) (w : World) (h : TbAt w b room tmo P C Bn) (hn : NoP P n) :
    Calls Try.prog 40 #[.pointer (some ⟨b, 0, none⟩), .int .i64 n, f] w fun e w' => e = .returned (.int .i64 4) ∧ w = w' := by
  rcases hn with hn | ⟨p, rfl, h1, h15, hP⟩
  · have g1 := hide (isPeer_any n w)
    rw [hn] at g1
    clear h hn
    go_enter Try.func40, Try.ntmps40
    go_wp2_with fail
    refine (unhide g1).mono ?_
    rintro e w1 ⟨rfl, rfl⟩
    go_wp2
    go_ret
    exact ⟨rfl, rfl⟩
  · have g1 := hide (isPeer_any p w)
    rw [show isPr p = true by unfold isPr; simp; omega] at g1
    have cp := h.ps p (by omega)
    rw [hP] at cp
    have cp' : w.cell? ⟨b, 2 + p, none⟩ = some (.pointer none) := cp
    have q1 : (p : Int) < 16 := by omega
    clear h hP cp
    go_enter Try.func40, Try.ntmps40
    go_wp2_with fail
    refine (unhide g1).mono ?_
    rintro e w1 ⟨rfl, rfl⟩
    go_wp2
    go_ret
    exact ⟨rfl, rfl⟩
set_option maxRecDepth 100000 in
set_option maxHeartbeats 1000000 in
theorem with_yes (p g : Nat) (F : FuncId) (hcf : ∀ args w, (callFunc F args).run Try.prog w = .ok (.enter F args) w) (cap : Value) (R : World → Prop) (b : Nat) (room tmo : Int) (P : Nat → Option Nat) (C : Nat → Pr) (Bn : Nat → Bool) (w : World) (h : TbAt w b room tmo P C Bn) (hp : 1 ≤ p ∧ p ≤ 15) (hP : P p = some g)
    (hF : Calls Try.prog F #[.pointer (some ⟨g, 0, none⟩), cap] w fun e w' => e = .returned (.tuple #[]) ∧ R w') :
    Calls Try.prog 40 #[.pointer (some ⟨b, 0, none⟩), .int .i64 p, .func (.func F) #[] #[cap]] w fun e w' => e = .returned (.int .i64 0) ∧ R w' := by
  have g1 := hide (isPeer_any p w)
  rw [show isPr p = true by unfold isPr; simp; omega] at g1
  have cp := h.ps p (by omega)
  rw [hP] at cp
  have cp' : w.cell? ⟨b, 2 + p, none⟩ = some (.pointer (some ⟨g, 0, none⟩)) := cp
  have q1 : (p : Int) < 16 := by omega
  have HF := hide hF
  have HC := hide hcf
  clear h hP cp hF hcf
  go_enter Try.func40, Try.ntmps40
  go_wp2_with fail
  refine (unhide g1).mono ?_
  rintro e w1 ⟨rfl, rfl⟩
  go_wp2_with fail
  rw [unhide HC, Oper.upon_enter]
  refine (unhide HF).mono ?_
  rintro e w1 ⟨rfl, hR⟩
  have HR := hide hR
  clear hR
  go_wp2
  go_ret
  exact ⟨rfl, unhide HR⟩
theorem cf_of {F : FuncId} {fn : Func} (hf : Try.prog.funcs[F]? = some fn) (hn : (fn.name == "runtime.NumGoroutine") = false) (hb : fn.body.isNone = false) : ∀ args w, (callFunc F args).run Try.prog w = .ok (.enter F args) w := fun args w => by
  have h1 : ¬ fn.name = "runtime.NumGoroutine" := by simpa using hn
  have h2 : ¬ fn.body = none := by
    intro e
    rw [e] at hb
    cases hb
  simp [callFunc, hf, h1, h2, go_sem]
theorem hear_cf : ∀ args w, (callFunc 44 args).run Try.prog w = .ok (.enter 44 args) w := cf_of Try.func44 (by kernel_rfl) (by kernel_rfl)
end Go.Proofs.Ytbklkihcdkcagaa

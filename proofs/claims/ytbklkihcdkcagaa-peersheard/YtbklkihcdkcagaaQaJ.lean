/- peers: Leave; New, Meet and Ban of a table of the caller's own. -/
import Derived.Test.YtbklkihcdkcagaaQaI
namespace Go.Proofs.Ytbklkihcdkcagaa
open Go.RowKit
set_option linter.unusedVariables false
attribute [local go_sem] Oper.semAt_some

theorem tup_same {α : Type} (f : Nat → α) (p : Nat) : tup f p (f p) = f := by
  funext k
  unfold tup
  split
  · rename_i h; rw [h]
  · rfl
theorem zP_bd : Bd zP := ⟨by decide, by decide⟩
theorem newTb (B : Nat) (room tmo : Int) (w : World) (hB : B ≤ w.heap.size) : Tb B (w.alloc (.cells (newT room tmo) 67)) w.heap.size room tmo noP (fun _ => zP) noB :=
  ⟨new_at room tmo _ w, (fun p q g hp hq h => by cases h), (fun p g hp h => by cases h), rfl, fun _ => zP_bd, hB, (fun p g hp h => by cases h)⟩
/-- a table without one of its peers -/
theorem Tb.drop {B : Nat} {w w' : World} {b : Nat} {room tmo : Int} {P : Nat → Option Nat} {C : Nat → Pr} {Bn Bn' : Nat → Bool} (h : Tb B w b room tmo P C Bn) (p : Nat) (t : TbAt w' b room tmo (tup P p none) C Bn') : Tb B w' b room tmo (tup P p none) C Bn' := by
  have key : ∀ q g, tup P p none q = some g → P q = some g := by
    intro q g hq
    unfold tup at hq
    split at hq
    · cases hq
    · exact hq
  exact ⟨t, fun q r g hq hr e1 e2 => h.inj q r g hq hr (key q g e1) (key r g e2), fun q g hq e => h.nd q g hq (key q g e), by unfold tup; split; rfl; exact h.p0, h.bd, h.own, fun q g hq e => h.ownp q g hq (key q g e)⟩
theorem banTb (p B b : Nat) (room tmo : Int) (P : Nat → Option Nat) (C : Nat → Pr) (Bn : Nat → Bool) (w : World) (hp : 1 ≤ p ∧ p ≤ 15) (h : Tb B w b room tmo P C Bn) :
    Calls Try.prog 24 #[.pointer (some ⟨b, 0, none⟩), .int .i64 p] w fun e w' => e = .returned (.int .i64 0) ∧ Tb B w' b room tmo (tup P p none) C (tup Bn p true) ∧ KT b P w w' :=
  (ban_any p b room tmo P C Bn w hp h.tb).mono fun e w' ⟨h1, h2, h3⟩ => ⟨h1, h.drop p h2, KT.of_kept h3⟩
theorem meetTb (p B b : Nat) (x y t room tmo : Int) (P : Nat → Option Nat) (C : Nat → Pr) (Bn : Nat → Bool) (w : World) (hm : MeetOk p x y t) (h : Tb B w b room tmo P C Bn) (hb : Bn p = false) (hP : P p = none) (hl : ¬ room ≤ (lst P C 16).length) :
    Calls Try.prog 18 #[.pointer (some ⟨b, 0, none⟩), .int .i64 p, .agg #[.int .i64 x, .int .i64 y], .int .i64 t] w fun e w' => e = .returned (.int .i64 0) ∧ ∃ g, w.heap.size ≤ g ∧ Tb B w' b room tmo (tup P p (some g)) (tup C p ⟨p, x, y, ⟨#[]⟩, false, false, false, t, 0, 0⟩) Bn ∧ KT b P w w' := by
  refine (meet_ok p b x y t room tmo P C Bn w hm h.tb hb hP hl).mono ?_
  rintro e w' ⟨h1, g, h2, h3, h4⟩
  have hlt : ∀ q g2, q < 16 → P q = some g2 → g2 < w.heap.size := fun q g2 hq e => lt_of_block (h.tb.pe q g2 hq e)
  have hp16 : p < 16 := by have := hm.p; omega
  have key : ∀ q g2, tup P p (some g) q = some g2 → (q = p ∧ g2 = g) ∨ (q ≠ p ∧ P q = some g2) := by
    intro q g2 hq
    unfold tup at hq
    split at hq
    · rename_i e; cases hq; exact .inl ⟨e, rfl⟩
    · rename_i e; exact .inr ⟨e, hq⟩
  refine ⟨h1, g, h4, ⟨h2, ?_, ?_, ?_, ?_, h.own, ?_⟩, KT.of_kept h3⟩
  · intro q r g2 hq hr e1 e2
    rcases key q g2 e1 with ⟨a1, a2⟩ | ⟨a1, a2⟩
    · rcases key r g2 e2 with ⟨b1, b2⟩ | ⟨b1, b2⟩
      · rw [a1, b1]
      · have := hlt r g2 hr b2
        omega
    · rcases key r g2 e2 with ⟨b1, b2⟩ | ⟨b1, b2⟩
      · have := hlt q g2 hq a2
        omega
      · exact h.inj q r g2 hq hr a2 b2
  · intro q g2 hq e1
    rcases key q g2 e1 with ⟨a1, a2⟩ | ⟨a1, a2⟩
    · unfold tup
      rw [if_pos a1, a1]
    · unfold tup
      rw [if_neg a1]
      exact h.nd q g2 hq a2
  · unfold tup
    rw [if_neg (by have := hm.p; omega)]
    exact h.p0
  · intro q
    unfold tup
    split
    · exact ⟨hm.t, by show (0 : Int) ≤ 0 ∧ (0 : Int) ≤ 1099511627776; omega⟩
    · exact h.bd q
  · intro q g2 hq e1
    rcases key q g2 e1 with ⟨a1, a2⟩ | ⟨a1, a2⟩
    · have := h.own
      have := h.tb.lt
      omega
    · exact h.ownp q g2 hq a2
theorem TbAt.drew {w : World} {b : Nat} {room tmo : Int} {P : Nat → Option Nat} {C : Nat → Pr} {Bn : Nat → Bool} (h : TbAt w b room tmo P C Bn) : TbAt w.drew b room tmo P C Bn := ⟨h.blk, h.c0, h.c1, h.ps, h.bs, h.pe⟩
theorem TbAt.cut {w : World} {b : Nat} {room tmo : Int} {P : Nat → Option Nat} {C : Nat → Pr} {Bn : Nat → Bool} (h : TbAt w b room tmo P C Bn) (p : Nat) (hp : p < 16) : TbAt (w.setCell ⟨b, 2 + p, none⟩ (.pointer none)) b room tmo (tup P p none) C Bn := by
  have := h.setP p hp none (C p) (fun g hg => by cases hg)
  rw [tup_same] at this
  exact this
set_option maxRecDepth 100000 in
set_option maxHeartbeats 1000000 in
theorem leave_clo (p b x y : Nat) (g : Value) (room tmo : Int) (P : Nat → Option Nat) (C : Nat → Pr) (Bn : Nat → Bool) (w : World) (hp : p < 16) (h : TbAt w b room tmo P C Bn) (hx : w.cell? ⟨x, 0, none⟩ = some (.pointer (some ⟨b, 0, none⟩))) (hy : w.cell? ⟨y, 0, none⟩ = some (.int .i64 p)) :
    Calls Try.prog 47 #[g, .pointer (some ⟨x, 0, none⟩), .pointer (some ⟨y, 0, none⟩)] w fun e w' => e = .returned (.tuple #[]) ∧ TbAt w' b room tmo (tup P p none) C Bn ∧ Kept w.heap.size b w w' := by
  have HT : Hid (TbAt (w.setCell ⟨b, 2 + p, none⟩ (.pointer none)).drew b room tmo (tup P p none) C Bn) := (h.cut p hp).drew
  have k0 := kept_set w.heap.size w b (2 + p) (.pointer none)
  have HK : Hid (Kept w.heap.size b w (w.setCell ⟨b, 2 + p, none⟩ (.pointer none)).drew) := ⟨k0.os, k0.tape, k0.output, k0.size, k0.block⟩
  have c1 := h.ps p hp
  have f1 := h.free (2 + p)
  have q1 : (p : Int) < 16 := by omega
  generalize pp (P p) = old at *
  clear h k0
  go_enter Try.func47, Try.ntmps47
  go_wp2
  go_region
  go_wp2
  go_end0
  exact ⟨rfl, unhide HT, unhide HK⟩
set_option maxRecDepth 100000 in
set_option maxHeartbeats 1000000 in
theorem with_yes2 (p g : Nat) (F : FuncId) (hcf : ∀ args w, (callFunc F args).run Try.prog w = .ok (.enter F args) w) (cap cap2 : Value) (R : World → Prop) (b : Nat) (room tmo : Int) (P : Nat → Option Nat) (C : Nat → Pr) (Bn : Nat → Bool) (w : World) (h : TbAt w b room tmo P C Bn) (hp : 1 ≤ p ∧ p ≤ 15) (hP : P p = some g)
    (hF : Calls Try.prog F #[.pointer (some ⟨g, 0, none⟩), cap, cap2] w fun e w' => e = .returned (.tuple #[]) ∧ R w') :
    Calls Try.prog 40 #[.pointer (some ⟨b, 0, none⟩), .int .i64 p, .func (.func F) #[] #[cap, cap2]] w fun e w' => e = .returned (.int .i64 0) ∧ R w' := by
  have g1 := hide (isPeer_any p w)
  rw [show isPr p = true by unfold isPr; simp; omega] at g1
  have cp := h.ps p (by omega)
  rw [hP] at cp
  have cp' : w.cell? ⟨b, 2 + p, none⟩ = some (.pointer (some ⟨g, 0, none⟩)) := cp
  have q1 : (p : Int) < 16 := by omega
  have HF := hide hF
  have HC := hide hcf
  clear h hP cp hF hcf
  go_enter Try.func40, Try.ntmps40
  go_wp2_with fail
  refine (unhide g1).mono ?_
  rintro e w1 ⟨rfl, rfl⟩
  go_wp2_with fail
  rw [unhide HC, Oper.upon_enter]
  refine (unhide HF).mono ?_
  rintro e w1 ⟨rfl, hR⟩
  have HR := hide hR
  clear hR
  go_wp2
  go_ret
  exact ⟨rfl, unhide HR⟩
set_option maxRecDepth 100000 in
set_option maxHeartbeats 1000000 in
theorem with_yes0 (p g : Nat) (F : FuncId) (hcf : ∀ args w, (callFunc F args).run Try.prog w = .ok (.enter F args) w) (R : World → Prop) (b : Nat) (room tmo : Int) (P : Nat → Option Nat) (C : Nat → Pr) (Bn : Nat → Bool) (w : World) (h : TbAt w b room tmo P C Bn) (hp : 1 ≤ p ∧ p ≤ 15) (hP : P p = some g)
    (hF : Calls Try.prog F #[.pointer (some ⟨g, 0, none⟩)] w fun e w' => e = .returned (.tuple #[]) ∧ R w') :
    Calls Try.prog 40 #[.pointer (some ⟨b, 0, none⟩), .int .i64 p, .func (.func F) #[] #[]] w fun e w' => e = .returned (.int .i64 0) ∧ R w' := by
  have g1 := hide (isPeer_any p w)
  rw [show isPr p = true by unfold isPr; simp; omega] at g1
  have cp := h.ps p (by omega)
  rw [hP] at cp
  have cp' : w.cell? ⟨b, 2 + p, none⟩ = some (.pointer (some ⟨g, 0, none⟩)) := cp
  have q1 : (p : Int) < 16 := by omega
  have HF := hide hF
  have HC := hide hcf
  clear h hP cp hF hcf
  go_enter Try.func40, Try.ntmps40
  go_wp2_with fail
  refine (unhide g1).mono ?_
  rintro e w1 ⟨rfl, rfl⟩
  go_wp2_with fail
  rw [unhide HC, Oper.upon_enter]
  refine (unhide HF).mono ?_
  rintro e w1 ⟨rfl, hR⟩
  have HR := hide hR
  clear hR
  go_wp2
  go_ret
  exact ⟨rfl, unhide HR⟩
set_option maxRecDepth 100000 in
set_option maxHeartbeats 1000000 in
theorem leave_yes (p g B b : Nat) (room tmo : Int) (P : Nat → Option Nat) (C : Nat → Pr) (Bn : Nat → Bool) (w : World) (h : Tb B w b room tmo P C Bn) (hp : 1 ≤ p ∧ p ≤ 15) (hP : P p = some g) :
    Calls Try.prog 23 #[.pointer (some ⟨b, 0, none⟩), .int .i64 p] w fun e w' => e = .returned (.int .i64 0) ∧ Tb B w' b room tmo (tup P p none) C Bn ∧ KT b P w w' := by
  have hp16 : p < 16 := by omega
  obtain ⟨W, hW⟩ : ∃ W, W = (w.alloc (.cells #[.pointer (some ⟨b, 0, none⟩)] 23)).alloc (.cells #[.int .i64 p] 3) := ⟨_, rfl⟩
  have b1 : Below w.heap.size w W := by rw [hW]; exact ((Below.refl _ _).alloc (Nat.le_refl _) _).alloc (by simp) _
  have t1 := h.up b1
  have hx : W.cell? ⟨w.heap.size, 0, none⟩ = some (.pointer (some ⟨b, 0, none⟩)) := by
    rw [hW]
    have : ((w.alloc (.cells #[.pointer (some ⟨b, 0, none⟩)] 23)).alloc (.cells #[.int .i64 p] 3)).heap[w.heap.size]? = some (.cells #[.pointer (some ⟨b, 0, none⟩)] 23 (0, 0)) := by
      rw [Below.heap_alloc _ _ _ (by simp)]
      exact heap_alloc_new w _
    rw [cell_of_row _ _ _ _ _ _ this]
    rfl
  have hy : W.cell? ⟨w.heap.size + 1, 0, none⟩ = some (.int .i64 p) := by
    rw [hW]
    have := heap_alloc_new (w.alloc (.cells #[.pointer (some ⟨b, 0, none⟩)] 23)) (.cells #[.int .i64 p] 3)
    rw [show (w.alloc (.cells #[.pointer (some ⟨b, 0, none⟩)] 23)).heap.size = w.heap.size + 1 by simp] at this
    rw [cell_of_row _ _ _ _ _ _ this]
    rfl
  have hc := leave_clo p b w.heap.size (w.heap.size + 1) (.pointer (some ⟨g, 0, none⟩)) room tmo P C Bn W hp16 t1.tb hx hy
  have hw := hide (with_yes2 p g 47 (cf_of Try.func47 (by kernel_rfl) (by kernel_rfl)) (.pointer (some ⟨w.heap.size, 0, none⟩)) (.pointer (some ⟨w.heap.size + 1, 0, none⟩)) _ b room tmo P C Bn W t1.tb hp hP hc)
  have hfin : Hid (∀ w2, TbAt w2 b room tmo (tup P p none) C Bn → Kept W.heap.size b W w2 → Tb B w2 b room tmo (tup P p none) C Bn ∧ KT b P w w2) := fun w2 t k => ⟨h.drop p t, (KT.of_below b1).trans' (KT.of_kept k)⟩
  rw [hW] at hw hfin
  clear h hP b1 t1 hc hx hy hW
  go_enter Try.func23, Try.ntmps23
  go_wp2_with fail
  refine (unhide hw).mono ?_
  rintro e w2 ⟨rfl, r1, r2⟩
  have HR := hide (unhide hfin w2 r1 r2)
  clear r1 r2
  go_wp2
  go_ret
  exact ⟨rfl, unhide HR⟩
set_option maxRecDepth 100000 in
set_option maxHeartbeats 1000000 in
theorem leave_no (n : Int) (b : Nat) (room tmo : Int) (P : Nat → Option Nat) (C : Nat → Pr) (Bn : Nat → Bool) (w : World) (h : TbAt w b room tmo P C Bn) (hn : NoP P n) :
    Calls Try.prog 23 #[.pointer (some ⟨b, 0, none⟩), .int .i64 n] w fun e w' => e = .returned (.int .i64 4) ∧ Below w.heap.size w w' := by
  have b1 : Below w.heap.size w ((w.alloc (.cells #[.pointer (some ⟨b, 0, none⟩)] 23)).alloc (.cells #[.int .i64 n] 3)) := ((Below.refl _ _).alloc (Nat.le_refl _) _).alloc (by simp) _
  have hw := hide (fun f => with_no n f b room tmo P C Bn _ (h.up b1) hn)
  have HB := hide b1
  clear h hn b1
  go_enter Try.func23, Try.ntmps23
  go_wp2_with fail
  refine (unhide hw _).mono ?_
  rintro e w2 ⟨rfl, rfl⟩
  go_wp2
  go_ret
  exact ⟨rfl, unhide HB⟩
end Go.Proofs.Ytbklkihcdkcagaa

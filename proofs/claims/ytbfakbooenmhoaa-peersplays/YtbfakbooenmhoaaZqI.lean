/- peers: Get, Leave, Banned. peers: Leave; New, Meet and Ban of a table of the caller's own. peers: rows of peers; Roll. -/
import Derived.Test.YtbfakbooenmhoaaQaH
namespace Go.Proofs.Ytbfakbooenmhoaa
open Go.RowKit
set_option linter.unusedVariables false
attribute [local go_sem] Oper.semAt_some

/-- a whole struct is stored: the world goes on as one that G tells of -/
theorem wpList_store_row_to {P : Program} {ops : Array Oper} {rest : List Oper} {o : Oper} {a : Act} {w : World} {Q : Exit → Act → World → Prop} (hgd : o.guard = none) (ty : TypeId) (x y : Operand) (ho : o.op = .store ty x y)
    (g : Nat) (cells : Array Value) (hx : a.eval x = .pointer (some ⟨g, 0, none⟩)) (hy : a.eval y = .agg cells)
    (t : TypeId) (old : Array Value) (hg : w.heap[g]? = some (.cells old t (0, 0))) (hi : (P.info? ty).map (·.size) = some cells.size)
    (hold : old.size = cells.size) (h1 : cells.all (·.oneCell') = true) (G : World → Prop) (hG : G (w.setRow g cells))
    (h : ∀ w', G w' → wpList P ops Q rest (a.put o.dst undef) w') : wpList P ops Q (o :: rest) a w :=
  wpList_store_row hgd ty x y ho g cells hx hy t old hg hi hold h1 (h _ hG)
theorem pr_size (c : Pr) : c.cl.toArray.size = 10 := rfl
theorem pr_info (c : Pr) : (Try.prog.info? 46).map (·.size) = some c.cl.toArray.size := by rw [pr_size]; kernel_rfl
theorem pr_all (c : Pr) : c.cl.toArray.all (·.oneCell') = true := by simp [Pr.cl, Value.oneCell']
theorem cp_row {w : World} {x : Nat} {d : Pr} (h : w.heap[x]? = some (.cells d.cl.toArray 46 (0, 0))) (c : Pr) : CP x c w (w.setRow x c.cl.toArray) :=
  ⟨setRow_heap w x _ _ _ _ h, ⟨rfl, rfl, rfl, by simp, fun k _ hn => setRow_other w x k _ hn⟩⟩
set_option maxRecDepth 100000 in
set_option maxHeartbeats 1000000 in
theorem get_clo (g x : Nat) (c d : Pr) (w : World) (hg : w.heap[g]? = some (.cells c.cl.toArray 46 (0, 0))) (hx : w.heap[x]? = some (.cells d.cl.toArray 46 (0, 0))) :
    Calls Try.prog 41 #[.pointer (some ⟨g, 0, none⟩), .pointer (some ⟨x, 0, none⟩)] w fun e w' => e = .returned (.tuple #[]) ∧ CP x c w w' := by
  have HG := hide hg
  have HX := hide hx
  have HI := hide (pr_info c)
  have HA := hide (pr_all c)
  have HR := hide (cp_row hx c)
  have HS : Hid (d.cl.toArray.size = c.cl.toArray.size) := rfl
  clear hg hx
  generalize hcc : c.cl.toArray = cs at *
  generalize d.cl.toArray = ds at *
  clear hcc
  go_enter Try.func41, Try.ntmps41
  go_wp2_with (first
    | (refine wpList_load_row rfl 46 (.tmp 4) rfl g rfl 46 cs (0, 0) _ (unhide HG) Try.underlying46 rfl (unhide HI) ?_)
    | (refine wpList_store_row_to rfl 46 (.tmp 1) (.tmp 5) rfl x cs rfl rfl 46 ds (unhide HX) (unhide HI) (unhide HS) (unhide HA) (fun w' => CP x c w w') (unhide HR) ?_))
  intro w1 h1
  have H1 := hide h1
  clear h1
  go_wp2
  go_end0
  exact ⟨rfl, unhide H1⟩
def zP : Pr := ⟨0, 0, 0, ⟨#[]⟩, false, false, false, 0, 0, 0⟩
/-- two new blocks for peers -/
theorem two_new (w : World) : Below w.heap.size w ((w.alloc (.cells zP.cl.toArray 46)).alloc (.cells zP.cl.toArray 46)) := ((Below.refl _ _).alloc (Nat.le_refl _) _).alloc (by simp) _
theorem below_of_cp {w w1 w2 : World} {x : Nat} {c : Pr} (h : Below w.heap.size w w1) (k : CP x c w1 w2) (hx : w.heap.size ≤ x) : Below w.heap.size w w2 :=
  h.trans (k.kept.below _ h.size hx)
/-- what Get leaves: its result's block, and all that was -/
structure GetR (w : World) (c : Pr) (w' : World) : Prop where
  blk : w'.heap[w.heap.size]? = some (.cells c.cl.toArray 46 (0, 0))
  be : Below w.heap.size w w'
set_option maxRecDepth 100000 in
set_option maxHeartbeats 2000000 in
theorem get_yes (p g b : Nat) (room tmo : Int) (P : Nat → Option Nat) (C : Nat → Pr) (Bn : Nat → Bool) (w : World) (h : TbAt w b room tmo P C Bn) (hp : 1 ≤ p ∧ p ≤ 15) (hP : P p = some g) :
    Calls Try.prog 16 #[.pointer (some ⟨b, 0, none⟩), .int .i64 p] w fun e w' => e = .returned (.tuple #[.agg (C p).cl.toArray, .bool true]) ∧ Below w.heap.size w w' := by
  have hp16 : p < 16 := by omega
  have b1 := two_new w
  have t1 := h.up b1
  have hz1 : ((w.alloc (.cells zP.cl.toArray 46)).alloc (.cells zP.cl.toArray 46)).heap[w.heap.size]? = some (.cells zP.cl.toArray 46 (0, 0)) := by
    rw [Below.heap_alloc _ _ _ (by simp)]
    exact heap_alloc_new w _
  have hz2 : ((w.alloc (.cells zP.cl.toArray 46)).alloc (.cells zP.cl.toArray 46)).heap[w.heap.size + 1]? = some (.cells zP.cl.toArray 46 (0, 0)) := by
    have := heap_alloc_new (w.alloc (.cells zP.cl.toArray 46)) (.cells zP.cl.toArray 46)
    simpa using this
  have hc := get_clo g (w.heap.size + 1) (C p) zP _ (t1.pe p g hp16 hP) hz2
  have hw := hide (with_yes p g 41 (cf_of Try.func41 (by kernel_rfl) (by kernel_rfl)) (.pointer (some ⟨w.heap.size + 1, 0, none⟩)) _ b room tmo P C Bn _ t1 hp hP hc)
  have hfin : Hid (∀ w2, CP (w.heap.size + 1) (C p) ((w.alloc (.cells zP.cl.toArray 46)).alloc (.cells zP.cl.toArray 46)) w2 → w2.heap[w.heap.size]? = some (.cells zP.cl.toArray 46 (0, 0)) ∧ w2.heap[w.heap.size + 1]? = some (.cells (C p).cl.toArray 46 (0, 0)) ∧ GetR w (C p) (w2.setRow w.heap.size (C p).cl.toArray)) := by
    intro w2 k
    have z1 := (k.kept.block w.heap.size (by simp; omega) (by omega)).trans hz1
    have bb := below_of_cp b1 k (by omega)
    refine ⟨z1, k.blk, setRow_heap w2 _ _ _ _ _ z1, ⟨bb.os, bb.tape, bb.output, by simpa using bb.size, fun i hi => (setRow_other w2 _ i _ (by omega)).trans (bb.block i hi)⟩⟩
  have HI := hide (pr_info (C p))
  have HA := hide (pr_all (C p))
  have HS : Hid (zP.cl.toArray.size = (C p).cl.toArray.size) := rfl
  clear h hP b1 t1 hc hz1 hz2
  generalize hcc : C p = c at *
  clear hcc
  go_enter Try.func16, Try.ntmps16
  go_wp2_with fail
  refine (unhide hw).mono ?_
  rintro e w2 ⟨rfl, hR⟩
  obtain ⟨f1, f2, f3⟩ := unhide hfin w2 hR
  have F1 := hide f1
  have F2 := hide f2
  have F3 := hide f3
  clear f1 f2 f3 hR hfin hw
  go_wp2_with (first
    | (refine wpList_load_row rfl 46 (.tmp 6) rfl (w.heap.size + 1) rfl 46 c.cl.toArray (0, 0) _ (unhide F2) Try.underlying46 rfl (unhide HI) ?_)
    | (refine wpList_store_row_to rfl 46 (.tmp 4) (.tmp 12) rfl w.heap.size c.cl.toArray rfl rfl 46 zP.cl.toArray (unhide F1) (unhide HI) (unhide HS) (unhide HA) (GetR w c) (unhide F3) ?_))
  intro w3 h3
  have H3 := hide h3
  clear h3
  go_wp2
  exact ret_row2 (p := 4) (q := 5) (ty := 46) (by kernel_rfl) w.heap.size 46 c.cl.toArray (0, 0) (.bool true) _ rfl rfl (unhide H3).blk rfl Try.underlying46 (unhide HI) ⟨rfl, (unhide H3).be⟩
set_option maxRecDepth 100000 in
set_option maxHeartbeats 2000000 in
theorem get_no (n : Int) (b : Nat) (room tmo : Int) (P : Nat → Option Nat) (C : Nat → Pr) (Bn : Nat → Bool) (w : World) (h : TbAt w b room tmo P C Bn) (hn : NoP P n) :
    Calls Try.prog 16 #[.pointer (some ⟨b, 0, none⟩), .int .i64 n] w fun e w' => e = .returned (.tuple #[.agg zP.cl.toArray, .bool false]) ∧ Below w.heap.size w w' := by
  have hw := hide (fun f => with_no n f b room tmo P C Bn _ (h.up (two_new w)) hn)
  unfold zP Pr.cl at hw
  dsimp only at hw
  clear h hn
  go_enter Try.func16, Try.ntmps16
  go_wp2_with fail
  refine (unhide hw _).mono ?_
  rintro e w1 ⟨rfl, rfl⟩
  have HZ : Hid (((w.alloc (.cells zP.cl.toArray 46)).alloc (.cells zP.cl.toArray 46)).heap[w.heap.size]? = some (.cells zP.cl.toArray 46 (0, 0))) := by
    show _ = _
    rw [Below.heap_alloc _ _ _ (by simp)]
    exact heap_alloc_new w _
  go_wp2
  exact ret_row2 (p := 4) (q := 5) (ty := 46) (by kernel_rfl) w.heap.size 46 zP.cl.toArray (0, 0) (.bool false) _ rfl rfl (unhide HZ) rfl Try.underlying46 (by kernel_rfl) ⟨rfl, two_new w⟩
set_option maxRecDepth 100000 in
theorem banned_any (n : Int) (b : Nat) (room tmo : Int) (P : Nat → Option Nat) (C : Nat → Pr) (Bn : Nat → Bool) (w : World) (h : TbAt w b room tmo P C Bn) :
    Calls Try.prog 13 #[.pointer (some ⟨b, 0, none⟩), .int .i64 n] w fun e w' => e = .returned (.bool (isPr n && Bn n.toNat)) ∧ w = w' := by
  have g1 := hide (isPeer_any n w)
  cases hb : isPr n with
  | false =>
    rw [hb] at g1
    rw [Bool.false_and]
    clear h hb
    go_enter Try.func13, Try.ntmps13
    go_wp2_with fail
    refine (unhide g1).mono ?_
    rintro e w1 ⟨rfl, rfl⟩
    go_wp2
    go_ret
    exact ⟨rfl, rfl⟩
  | true =>
    rw [hb] at g1
    rw [Bool.true_and]
    have hr : 1 ≤ n ∧ n ≤ 15 := by unfold isPr at hb; simpa using hb
    obtain ⟨p, rfl⟩ : ∃ p : Nat, n = p := ⟨n.toNat, by omega⟩
    rw [Int.toNat_natCast]
    have cb := h.bs p (by omega)
    have q1 : (p : Int) < 16 := by omega
    generalize Bn p = bb at *
    clear h hb hr
    go_enter Try.func13, Try.ntmps13
    go_wp2_with fail
    refine (unhide g1).mono ?_
    rintro e w1 ⟨rfl, rfl⟩
    go_wp2
    go_ret
    exact ⟨rfl, rfl⟩
end Go.Proofs.Ytbfakbooenmhoaa
namespace Go.Proofs.Ytbfakbooenmhoaa
open Go.RowKit
set_option linter.unusedVariables false
attribute [local go_sem] Oper.semAt_some

theorem tup_same {α : Type} (f : Nat → α) (p : Nat) : tup f p (f p) = f := by
  funext k
  unfold tup
  split
  · rename_i h; rw [h]
  · rfl
theorem zP_bd : Bd zP := ⟨by decide, by decide⟩
theorem newTb (B : Nat) (room tmo : Int) (w : World) (hB : B ≤ w.heap.size) : Tb B (w.alloc (.cells (newT room tmo) 67)) w.heap.size room tmo noP (fun _ => zP) noB :=
  ⟨new_at room tmo _ w, (fun p q g hp hq h => by cases h), (fun p g hp h => by cases h), rfl, fun _ => zP_bd, hB, (fun p g hp h => by cases h)⟩
/-- a table without one of its peers -/
theorem Tb.drop {B : Nat} {w w' : World} {b : Nat} {room tmo : Int} {P : Nat → Option Nat} {C : Nat → Pr} {Bn Bn' : Nat → Bool} (h : Tb B w b room tmo P C Bn) (p : Nat) (t : TbAt w' b room tmo (tup P p none) C Bn') : Tb B w' b room tmo (tup P p none) C Bn' := by
  have key : ∀ q g, tup P p none q = some g → P q = some g := by
    intro q g hq
    unfold tup at hq
    split at hq
    · cases hq
    · exact hq
  exact ⟨t, fun q r g hq hr e1 e2 => h.inj q r g hq hr (key q g e1) (key r g e2), fun q g hq e => h.nd q g hq (key q g e), by unfold tup; split; rfl; exact h.p0, h.bd, h.own, fun q g hq e => h.ownp q g hq (key q g e)⟩
theorem banTb (p B b : Nat) (room tmo : Int) (P : Nat → Option Nat) (C : Nat → Pr) (Bn : Nat → Bool) (w : World) (hp : 1 ≤ p ∧ p ≤ 15) (h : Tb B w b room tmo P C Bn) :
    Calls Try.prog 24 #[.pointer (some ⟨b, 0, none⟩), .int .i64 p] w fun e w' => e = .returned (.int .i64 0) ∧ Tb B w' b room tmo (tup P p none) C (tup Bn p true) ∧ KT b P w w' :=
  (ban_any p b room tmo P C Bn w hp h.tb).mono fun e w' ⟨h1, h2, h3⟩ => ⟨h1, h.drop p h2, KT.of_kept h3⟩
theorem meetTb (p B b : Nat) (x y t room tmo : Int) (P : Nat → Option Nat) (C : Nat → Pr) (Bn : Nat → Bool) (w : World) (hm : MeetOk p x y t) (h : Tb B w b room tmo P C Bn) (hb : Bn p = false) (hP : P p = none) (hl : ¬ room ≤ (lst P C 16).length) :
    Calls Try.prog 18 #[.pointer (some ⟨b, 0, none⟩), .int .i64 p, .agg #[.int .i64 x, .int .i64 y], .int .i64 t] w fun e w' => e = .returned (.int .i64 0) ∧ ∃ g, w.heap.size ≤ g ∧ Tb B w' b room tmo (tup P p (some g)) (tup C p ⟨p, x, y, ⟨#[]⟩, false, false, false, t, 0, 0⟩) Bn ∧ KT b P w w' := by
  refine (meet_ok p b x y t room tmo P C Bn w hm h.tb hb hP hl).mono ?_
  rintro e w' ⟨h1, g, h2, h3, h4⟩
  have hlt : ∀ q g2, q < 16 → P q = some g2 → g2 < w.heap.size := fun q g2 hq e => lt_of_block (h.tb.pe q g2 hq e)
  have hp16 : p < 16 := by have := hm.p; omega
  have key : ∀ q g2, tup P p (some g) q = some g2 → (q = p ∧ g2 = g) ∨ (q ≠ p ∧ P q = some g2) := by
    intro q g2 hq
    unfold tup at hq
    split at hq
    · rename_i e; cases hq; exact .inl ⟨e, rfl⟩
    · rename_i e; exact .inr ⟨e, hq⟩
  refine ⟨h1, g, h4, ⟨h2, ?_, ?_, ?_, ?_, h.own, ?_⟩, KT.of_kept h3⟩
  · intro q r g2 hq hr e1 e2
    rcases key q g2 e1 with ⟨a1, a2⟩ | ⟨a1, a2⟩
    · rcases key r g2 e2 with ⟨b1, b2⟩ | ⟨b1, b2⟩
      · rw [a1, b1]
      · have := hlt r g2 hr b2
        omega
    · rcases key r g2 e2 with ⟨b1, b2⟩ | ⟨b1, b2⟩
      · have := hlt q g2 hq a2
        omega
      · exact h.inj q r g2 hq hr a2 b2
  · intro q g2 hq e1
    rcases key q g2 e1 with ⟨a1, a2⟩ | ⟨a1, a2⟩
    · unfold tup
      rw [if_pos a1, a1]
    · unfold tup
      rw [if_neg a1]
      exact h.nd q g2 hq a2
  · unfold tup
    rw [if_neg (by have := hm.p; omega)]
    exact h.p0
  · intro q
    unfold tup
    split
    · exact ⟨hm.t, by show (0 : Int) ≤ 0 ∧ (0 : Int) ≤ 1099511627776; omega⟩
    · exact h.bd q
  · intro q g2 hq e1
    rcases key q g2 e1 with ⟨a1, a2⟩ | ⟨a1, a2⟩
    · have := h.own
      have := h.tb.lt
      omega
    · exact h.ownp q g2 hq a2
theorem TbAt.drew {w : World} {b : Nat} {room tmo : Int} {P : Nat → Option Nat} {C : Nat → Pr} {Bn : Nat → Bool} (h : TbAt w b room tmo P C Bn) : TbAt w.drew b room tmo P C Bn := ⟨h.blk, h.c0, h.c1, h.ps, h.bs, h.pe⟩
theorem TbAt.cut {w : World} {b : Nat} {room tmo : Int} {P : Nat → Option Nat} {C : Nat → Pr} {Bn : Nat → Bool} (h : TbAt w b room tmo P C Bn) (p : Nat) (hp : p < 16) : TbAt (w.setCell ⟨b, 2 + p, none⟩ (.pointer none)) b room tmo (tup P p none) C Bn := by
  have := h.setP p hp none (C p) (fun g hg => by cases hg)
  rw [tup_same] at this
  exact this
set_option maxRecDepth 100000 in
set_option maxHeartbeats 1000000 in
theorem leave_clo (p b x y : Nat) (g : Value) (room tmo : Int) (P : Nat → Option Nat) (C : Nat → Pr) (Bn : Nat → Bool) (w : World) (hp : p < 16) (h : TbAt w b room tmo P C Bn) (hx : w.cell? ⟨x, 0, none⟩ = some (.pointer (some ⟨b, 0, none⟩))) (hy : w.cell? ⟨y, 0, none⟩ = some (.int .i64 p)) :
    Calls Try.prog 47 #[g, .pointer (some ⟨x, 0, none⟩), .pointer (some ⟨y, 0, none⟩)] w fun e w' => e = .returned (.tuple #[]) ∧ TbAt w' b room tmo (tup P p none) C Bn ∧ Kept w.heap.size b w w' := by
  have HT : Hid (TbAt (w.setCell ⟨b, 2 + p, none⟩ (.pointer none)).drew b room tmo (tup P p none) C Bn) := (h.cut p hp).drew
  have k0 := kept_set w.heap.size w b (2 + p) (.pointer none)
  have HK : Hid (Kept w.heap.size b w (w.setCell ⟨b, 2 + p, none⟩ (.pointer none)).drew) := ⟨k0.os, k0.tape, k0.output, k0.size, k0.block⟩
  have c1 := h.ps p hp
  have f1 := h.free (2 + p)
  have q1 : (p : Int) < 16 := by omega
  generalize pp (P p) = old at *
  clear h k0
  go_enter Try.func47, Try.ntmps47
  go_wp2
  go_region
  go_wp2
  go_end0
  exact ⟨rfl, unhide HT, unhide HK⟩
set_option maxRecDepth 100000 in
set_option maxHeartbeats 1000000 in
theorem with_yes2 (p g : Nat) (F : FuncId) (hcf : ∀ args w, (callFunc F args).run Try.prog w = .ok (.enter F args) w) (cap cap2 : Value) (R : World → Prop) (b : Nat) (room tmo : Int) (P : Nat → Option Nat) (C : Nat → Pr) (Bn : Nat → Bool) (w : World) (h : TbAt w b room tmo P C Bn) (hp : 1 ≤ p ∧ p ≤ 15) (hP : P p = some g)
    (hF : Calls Try.prog F #[.pointer (some ⟨g, 0, none⟩), cap, cap2] w fun e w' => e = .returned (.tuple #[]) ∧ R w') :
    Calls Try.prog 40 #[.pointer (some ⟨b, 0, none⟩), .int .i64 p, .func (.func F) #[] #[cap, cap2]] w fun e w' => e = .returned (.int .i64 0) ∧ R w' := by
  have g1 := hide (isPeer_any p w)
  rw [show isPr p = true by unfold isPr; simp; omega] at g1
  have cp := h.ps p (by omega)
  rw [hP] at cp
  have cp' : w.cell? ⟨b, 2 + p, none⟩ = some (.pointer (some ⟨g, 0, none⟩)) := cp
  have q1 : (p : Int) < 16 := by omega
  have HF := hide hF
  have HC := hide hcf
  clear h hP cp hF hcf
  go_enter Try.func40, Try.ntmps40
  go_wp2_with fail
  refine (unhide g1).mono ?_
  rintro e w1 ⟨rfl, rfl⟩
  go_wp2_with fail
  rw [unhide HC, Oper.upon_enter]
  refine (unhide HF).mono ?_
  rintro e w1 ⟨rfl, hR⟩
  have HR := hide hR
  clear hR
  go_wp2
  go_ret
  exact ⟨rfl, unhide HR⟩
set_option maxRecDepth 100000 in
set_option maxHeartbeats 1000000 in
theorem with_yes0 (p g : Nat) (F : FuncId) (hcf : ∀ args w, (callFunc F args).run Try.prog w = .ok (.enter F args) w) (R : World → Prop) (b : Nat) (room tmo : Int) (P : Nat → Option Nat) (C : Nat → Pr) (Bn : Nat → Bool) (w : World) (h : TbAt w b room tmo P C Bn) (hp : 1 ≤ p ∧ p ≤ 15) (hP : P p = some g)
    (hF : Calls Try.prog F #[.pointer (some ⟨g, 0, none⟩)] w fun e w' => e = .returned (.tuple #[]) ∧ R w') :
    Calls Try.prog 40 #[.pointer (some ⟨b, 0, none⟩), .int .i64 p, .func (.func F) #[] #[]] w fun e w' => e = .returned (.int .i64 0) ∧ R w' := by
  have g1 := hide (isPeer_any p w)
  rw [show isPr p = true by unfold isPr; simp; omega] at g1
  have cp := h.ps p (by omega)
  rw [hP] at cp
  have cp' : w.cell? ⟨b, 2 + p, none⟩ = some (.pointer (some ⟨g, 0, none⟩)) := cp
  have q1 : (p : Int) < 16 := by omega
  have HF := hide hF
  have HC := hide hcf
  clear h hP cp hF hcf
  go_enter Try.func40, Try.ntmps40
  go_wp2_with fail
  refine (unhide g1).mono ?_
  rintro e w1 ⟨rfl, rfl⟩
  go_wp2_with fail
  rw [unhide HC, Oper.upon_enter]
  refine (unhide HF).mono ?_
  rintro e w1 ⟨rfl, hR⟩
  have HR := hide hR
  clear hR
  go_wp2
  go_ret
  exact ⟨rfl, unhide HR⟩
set_option maxRecDepth 100000 in
set_option maxHeartbeats 1000000 in
theorem leave_yes (p g B b : Nat) (room tmo : Int) (P : Nat → Option Nat) (C : Nat → Pr) (Bn : Nat → Bool) (w : World) (h : Tb B w b room tmo P C Bn) (hp : 1 ≤ p ∧ p ≤ 15) (hP : P p = some g) :
    Calls Try.prog 23 #[.pointer (some ⟨b, 0, none⟩), .int .i64 p] w fun e w' => e = .returned (.int .i64 0) ∧ Tb B w' b room tmo (tup P p none) C Bn ∧ KT b P w w' := by
  have hp16 : p < 16 := by omega
  obtain ⟨W, hW⟩ : ∃ W, W = (w.alloc (.cells #[.pointer (some ⟨b, 0, none⟩)] 23)).alloc (.cells #[.int .i64 p] 3) := ⟨_, rfl⟩
  have b1 : Below w.heap.size w W := by rw [hW]; exact ((Below.refl _ _).alloc (Nat.le_refl _) _).alloc (by simp) _
  have t1 := h.up b1
  have hx : W.cell? ⟨w.heap.size, 0, none⟩ = some (.pointer (some ⟨b, 0, none⟩)) := by
    rw [hW]
    have : ((w.alloc (.cells #[.pointer (some ⟨b, 0, none⟩)] 23)).alloc (.cells #[.int .i64 p] 3)).heap[w.heap.size]? = some (.cells #[.pointer (some ⟨b, 0, none⟩)] 23 (0, 0)) := by
      rw [Below.heap_alloc _ _ _ (by simp)]
      exact heap_alloc_new w _
    rw [cell_of_row _ _ _ _ _ _ this]
    rfl
  have hy : W.cell? ⟨w.heap.size + 1, 0, none⟩ = some (.int .i64 p) := by
    rw [hW]
    have := heap_alloc_new (w.alloc (.cells #[.pointer (some ⟨b, 0, none⟩)] 23)) (.cells #[.int .i64 p] 3)
    rw [show (w.alloc (.cells #[.pointer (some ⟨b, 0, none⟩)] 23)).heap.size = w.heap.size + 1 by simp] at this
    rw [cell_of_row _ _ _ _ _ _ this]
    rfl
  have hc := leave_clo p b w.heap.size (w.heap.size + 1) (.pointer (some ⟨g, 0, none⟩)) room tmo P C Bn W hp16 t1.tb hx hy
  have hw := hide (with_yes2 p g 47 (cf_of Try.func47 (by kernel_rfl) (by kernel_rfl)) (.pointer (some ⟨w.heap.size, 0, none⟩)) (.pointer (some ⟨w.heap.size + 1, 0, none⟩)) _ b room tmo P C Bn W t1.tb hp hP hc)
  have hfin : Hid (∀ w2, TbAt w2 b room tmo (tup P p none) C Bn → Kept W.heap.size b W w2 → Tb B w2 b room tmo (tup P p none) C Bn ∧ KT b P w w2) := fun w2 t k => ⟨h.drop p t, (KT.of_below b1).trans' (KT.of_kept k)⟩
  rw [hW] at hw hfin
  clear h hP b1 t1 hc hx hy hW
  go_enter Try.func23, Try.ntmps23
  go_wp2_with fail
  refine (unhide hw).mono ?_
  rintro e w2 ⟨rfl, r1, r2⟩
  have HR := hide (unhide hfin w2 r1 r2)
  clear r1 r2
  go_wp2
  go_ret
  exact ⟨rfl, unhide HR⟩
set_option maxRecDepth 100000 in
set_option maxHeartbeats 1000000 in
theorem leave_no (n : Int) (b : Nat) (room tmo : Int) (P : Nat → Option Nat) (C : Nat → Pr) (Bn : Nat → Bool) (w : World) (h : TbAt w b room tmo P C Bn) (hn : NoP P n) :
    Calls Try.prog 23 #[.pointer (some ⟨b, 0, none⟩), .int .i64 n] w fun e w' => e = .returned (.int .i64 4) ∧ Below w.heap.size w w' := by
  have b1 : Below w.heap.size w ((w.alloc (.cells #[.pointer (some ⟨b, 0, none⟩)] 23)).alloc (.cells #[.int .i64 n] 3)) := ((Below.refl _ _).alloc (Nat.le_refl _) _).alloc (by simp) _
  have hw := hide (fun f => with_no n f b room tmo P C Bn _ (h.up b1) hn)
  have HB := hide b1
  clear h hn b1
  go_enter Try.func23, Try.ntmps23
  go_wp2_with fail
  refine (unhide hw _).mono ?_
  rintro e w2 ⟨rfl, rfl⟩
  go_wp2
  go_ret
  exact ⟨rfl, unhide HB⟩
end Go.Proofs.Ytbfakbooenmhoaa
namespace Go.Proofs.Ytbfakbooenmhoaa
open Go.RowKit
set_option linter.unusedVariables false
attribute [local go_sem] Oper.semAt_some

theorem peC_get : ∀ (l : List Pr) (t j : Nat) (c : Pr), l[t]? = some c → j < 10 → (peC l)[t * 10 + j]? = c.cl[j]?
  | [], _, _, _, h, _ => by simp at h
  | x :: l, 0, j, c, h, hj => by
    have e : x.cl.length = 10 := rfl
    simp at h
    unfold peC
    rw [List.flatMap_cons, Nat.zero_mul, Nat.zero_add, List.getElem?_append_left (by omega), h]
  | x :: l, t + 1, j, c, h, hj => by
    have e : x.cl.length = 10 := rfl
    unfold peC
    rw [List.flatMap_cons, List.getElem?_append_right (by omega), e, show (t + 1) * 10 + j - 10 = t * 10 + j by omega]
    exact peC_get l t j c (by simpa using h) hj
/-- peers in a row of their own -/
def PesAt (w : World) (a0 : Option Addr) (l : List Pr) : Prop := ∀ t c, l[t]? = some c → ∃ g, a0 = some ⟨g, 0, none⟩ ∧ w.rangeAt g (t * 10) c.cl
theorem own_pes {w : World} {B : Nat} {v : Value} {l : List Pr} (h : OwnPe w B v l) : ∃ a0 c, v = .slice a0 l.length c ∧ PesAt w a0 l ∧ ∀ a, a0 = some a → B ≤ a.block ∧ a.block < w.heap.size := by
  rcases h.2 with ⟨h1, h2⟩ | ⟨g, cap, cur, h1, h2, h3, h4, h5, h6, h7⟩
  · refine ⟨none, 0, by rw [h1, h2], fun t c ht => ?_, fun a ha => by cases ha⟩
    have := (List.getElem?_eq_some_iff.1 ht).1
    omega
  · refine ⟨_, _, h1, fun t c ht => ⟨g, rfl, fun j v hv => ?_⟩, fun a ha => by cases ha; exact ⟨h2, lt_of_block h3⟩⟩
    have hj : j < 10 := (List.getElem?_eq_some_iff.1 hv).1
    have ht' := (List.getElem?_eq_some_iff.1 ht).1
    rw [cell_of_row _ _ _ _ _ _ h3, ← Array.getElem?_toList, ← hv, ← peC_get l t j c ht hj, ← h7, List.getElem?_take, if_pos (by omega)]
theorem PesAt.kept {w w' : World} {a0 : Option Addr} {l : List Pr} (h : PesAt w a0 l) (hk : ∀ a, a0 = some a → w'.heap[a.block]? = w.heap[a.block]?) : PesAt w' a0 l := fun t c ht => by
  obtain ⟨g, hg, hr⟩ := h t c ht
  exact ⟨g, hg, fun j v hv => (World.cell?_of_block (a := ⟨g, t * 10 + j, none⟩) (hk ⟨g, 0, none⟩ hg)).trans (hr j v hv)⟩
/-- who is there, by numbers -/
def ns (P : Nat → Option Nat) : List Nat := (List.range 16).filter fun p => (P p).isSome
theorem lst_ns (P : Nat → Option Nat) (C : Nat → Pr) : lst P C 16 = (ns P).map C := by
  unfold lst ns
  generalize List.range 16 = l
  induction l with
  | nil => rfl
  | cons x l ih =>
    cases h : P x <;> simp [h, ih]
theorem ns_nodup (P : Nat → Option Nat) : (ns P).Nodup := List.Nodup.sublist List.filter_sublist List.nodup_range
theorem ns_mem {P : Nat → Option Nat} {p : Nat} : p ∈ ns P ↔ p < 16 ∧ ∃ g, P p = some g := by
  unfold ns
  rw [List.mem_filter, List.mem_range, Option.isSome_iff_exists]
theorem ns_len (P : Nat → Option Nat) : (ns P).length ≤ 16 := Nat.le_trans (List.length_filter_le _ _) (by simp)
def rolled (c : Pr) : Pr := { c with ra := c.nw, nw := 0 }
/-- who was rolled already -/
def rollC (P : Nat → Option Nat) (C : Nat → Pr) (k : Nat) : Nat → Pr := fun p => if p ∈ (ns P).take k then rolled (C p) else C p
theorem rolled_bd {c : Pr} (h : Bd c) : Bd (rolled c) := ⟨h.se, by show (0 : Int) ≤ 0 ∧ (0 : Int) ≤ 1099511627776; omega⟩
theorem rollC_zero (P : Nat → Option Nat) (C : Nat → Pr) : rollC P C 0 = C := by
  funext p
  simp [rollC]
theorem rollC_step (P : Nat → Option Nat) (C : Nat → Pr) (k p : Nat) (h : (ns P)[k]? = some p) : rollC P C k p = C p ∧ tup (rollC P C k) p (rolled (C p)) = rollC P C (k + 1) := by
  obtain ⟨hk, he⟩ := List.getElem?_eq_some_iff.1 h
  have hn : p ∉ (ns P).take k := by
    intro hm
    obtain ⟨j, hj, hj2⟩ := List.mem_take_iff_getElem.1 hm
    exact List.pairwise_iff_getElem.1 (ns_nodup P) j k (by omega) hk (by omega) (hj2.trans he.symm)
  refine ⟨by unfold rollC; rw [if_neg hn], ?_⟩
  funext q
  unfold tup rollC
  rw [List.take_succ_eq_append_getElem hk, he]
  by_cases e : q = p
  · subst e
    simp
  · simp [e]
theorem rollC_all (P : Nat → Option Nat) (C : Nat → Pr) (p g : Nat) (hp : p < 16) (hg : P p = some g) : rollC P C (ns P).length p = rolled (C p) := by
  unfold rollC
  rw [List.take_length, if_pos (ns_mem.2 ⟨hp, g, hg⟩)]
theorem Tb.congr {B : Nat} {w : World} {b : Nat} {room tmo : Int} {P : Nat → Option Nat} {C D : Nat → Pr} {Bn : Nat → Bool} (h : Tb B w b room tmo P C Bn) (hd : ∀ p g, p < 16 → P p = some g → C p = D p) (hb : ∀ p, Bd (D p)) : Tb B w b room tmo P D Bn :=
  ⟨⟨h.tb.blk, h.tb.c0, h.tb.c1, h.tb.ps, h.tb.bs, fun p g hp hg => by rw [← hd p g hp hg]; exact h.tb.pe p g hp hg⟩, h.inj, fun p g hp hg => by rw [← hd p g hp hg]; exact h.nd p g hp hg, h.p0, hb, h.own, h.ownp⟩
set_option maxRecDepth 100000 in
set_option maxHeartbeats 1000000 in
theorem roll_clo (g : Nat) (c : Pr) (w : World) (hg : w.heap[g]? = some (.cells c.cl.toArray 46 (0, 0))) :
    Calls Try.prog 46 #[.pointer (some ⟨g, 0, none⟩)] w fun e w' => e = .returned (.tuple #[]) ∧ CP g (rolled c) w w' := by
  have c8 : w.cell? ⟨g, 8, none⟩ = some (.int .i64 c.nw) := by rw [pr_cells hg]; rfl
  have c9 : w.cell? ⟨g, 9, none⟩ = some (.int .i64 c.ra) := by rw [pr_cells hg]; rfl
  have f8 := pr_free hg 8
  have f9 := pr_free hg 9
  have k1 := cp_set hg 9 (.int .i64 c.nw) { c with ra := c.nw } rfl
  have k2 := cp_set k1.blk 8 (.int .i64 0) (rolled c) rfl
  have HC : Hid (CP g (rolled c) w ((w.setCell ⟨g, 9, none⟩ (.int .i64 c.nw)).setCell ⟨g, 8, none⟩ (.int .i64 0))) := ⟨k2.blk, k1.kept.trans (k2.kept.mono (by simp))⟩
  generalize c.nw = nw at *
  generalize c.ra = ra at *
  generalize rolled c = cr at *
  clear hg k1 k2
  go_enter Try.func46, Try.ntmps46
  go_wp2
  go_end0
  exact ⟨rfl, unhide HC⟩
/-- a table in the midst of Roll: the world behind List, and how far it went -/
structure RollI (B : Nat) (w1 : World) (b : Nat) (room tmo : Int) (P : Nat → Option Nat) (C : Nat → Pr) (Bn : Nat → Bool) (k : Nat) (wr : World) : Prop where
  tb : Tb B wr b room tmo P (rollC P C k) Bn
  kt : KT b P w1 wr
set_option maxRecDepth 100000 in
set_option maxHeartbeats 4000000 in
theorem roll_any (B b : Nat) (room tmo : Int) (P : Nat → Option Nat) (C : Nat → Pr) (Bn : Nat → Bool) (w : World) (h : Tb B w b room tmo P C Bn) :
    Calls Try.prog 22 #[.pointer (some ⟨b, 0, none⟩)] w fun e w' => e = .returned (.tuple #[]) ∧ Tb B w' b room tmo P (fun p => rolled (C p)) Bn ∧ KT b P w w' := by
  have HH := hide h
  have hL := hide (list_any w b room tmo P C Bn h.tb)
  rw [lst_ns] at hL
  clear h
  go_enter Try.func22, Try.ntmps22
  go_wp2_with fail
  refine (unhide hL).mono ?_
  rintro e w1 ⟨v, rfl, hR⟩
  obtain ⟨a0, cp, rfl, hpes, hbl⟩ := own_pes hR.own
  rw [List.length_map]
  have HB1 := hide hR.be
  have HP := hide hpes
  have HBL := hide hbl
  have HI : Hid (RollI B w1 b room tmo P C Bn 0 w1) := ⟨by rw [rollC_zero]; exact (unhide HH).up hR.be, KT.of_below (Below.refl _ _)⟩
  obtain ⟨n, hn⟩ : ∃ n, n = (ns P).length := ⟨_, rfl⟩
  rw [← hn]
  have hn16 : n ≤ 16 := by rw [hn]; exact ns_len P
  have HN := hide hn
  clear hR hpes hbl hL hn
  go_wp2_with fail
  go_loopw [7] (fun kv wr => ∃ k : Nat, k ≤ n ∧ kv = .int .i64 k ∧ RollI B w1 b room tmo P C Bn k wr) (fun kv _ => n - (intOf kv).toNat)
  case atStart => exact ⟨0, by omega, rfl, unhide HI⟩
  case round =>
    obtain ⟨k, hk, rfl, hI⟩ := hrel
    have HJ := hide hI
    clear hI HI
    by_cases hlt : k < n
    · obtain ⟨p, hp⟩ : ∃ p, (ns P)[k]? = some p := ⟨_, List.getElem?_eq_getElem (by rw [← unhide HN]; exact hlt)⟩
      have hmem : p ∈ ns P := List.mem_of_getElem? hp
      obtain ⟨hp16, g, hPg⟩ := ns_mem.1 hmem
      have hp0 : p ≠ 0 := by
        intro e
        rw [e, (unhide HH).p0] at hPg
        cases hPg
      have hpes2 : PesAt wr a0 ((ns P).map C) := (unhide HP).kept fun a ha => by
        obtain ⟨l1, l2⟩ := unhide HBL a ha
        refine (unhide HJ).kt.block a.block l2 ?_ ?_
        · have := (unhide HH).tb.lt
          omega
        · intro q hq e
          have := lt_of_block ((unhide HH).tb.pe q _ hq e)
          omega
      obtain ⟨gr, hgr, hra⟩ := hpes2 k (C p) (by rw [List.getElem?_map, hp]; rfl)
      obtain ⟨st1, st2⟩ := rollC_step P C k p hp
      have hnd := (unhide HH).nd p g hp16 hPg
      subst hgr
      obtain ⟨c, hc⟩ : ∃ c, c = C p := ⟨_, rfl⟩
      rw [← hc] at hra hnd
      obtain ⟨nd, px, py, hv, wa, op, os, se, nw, ra⟩ := c
      dsimp only at hnd
      subst hnd
      have HRA : Hid (wr.rangeAt gr (k * 10) [.int .i64 p, .int .i64 px, .int .i64 py, .string hv, .bool wa, .bool op, .bool os, .int .i64 se, .int .i64 nw, .int .i64 ra]) := hra
      obtain ⟨W2, hW2⟩ : ∃ W2, W2 = wr.alloc (.cells #[.int .i64 p, .int .i64 px, .int .i64 py, .string hv, .bool wa, .bool op, .bool os, .int .i64 se, .int .i64 nw, .int .i64 ra] 46) := ⟨_, rfl⟩
      have b2 : Below wr.heap.size wr W2 := by rw [hW2]; exact (Below.refl _ _).alloc (Nat.le_refl _) _
      have t2 := (unhide HJ).tb.up b2
      have hclo := roll_clo g (rollC P C k p) W2 (t2.tb.pe p g hp16 hPg)
      have hw := hide (with_yes0 p g 46 (cf_of Try.func46 (by kernel_rfl) (by kernel_rfl)) _ b room tmo P _ Bn W2 t2.tb (by omega) hPg hclo)
      have hfin : Hid (∀ w3, CP g (rolled (rollC P C k p)) W2 w3 → RollI B w1 b room tmo P C Bn (k + 1) w3) := by
        intro w3 k3
        have := (unhide HJ).tb.put b2 hp16 hPg (c := rolled (rollC P C k p)) (by rw [st1]; exact (unhide HH).nd p g hp16 hPg) (rolled_bd ((unhide HJ).tb.bd p)) k3
        rw [st1, st2] at this
        exact ⟨this.1, (unhide HJ).kt.trans' this.2⟩
      rw [hW2] at hw hfin
      have q1 : (k : Int) < n := by omega
      have HPL : Hid ((Try.prog.info? 46).map (·.size) = some [Value.int .i64 p, .int .i64 px, .int .i64 py, .string hv, .bool wa, .bool op, .bool os, .int .i64 se, .int .i64 nw, .int .i64 ra].length) := by
        show _ = _
        kernel_rfl
      clear hra hp hmem hp16 hPg hp0 hpes2 st1 st2 hc b2 t2 hclo hW2
      go_wp2_with (refine wpList_load_mid rfl 46 (.tmp 9) rfl gr (k * 10) rfl [.int .i64 p, .int .i64 px, .int .i64 py, .string hv, .bool wa, .bool op, .bool os, .int .i64 se, .int .i64 nw, .int .i64 ra] _ (unhide HRA) Try.underlying46 rfl (unhide HPL) ?_)
      refine (unhide hw).mono ?_
      rintro e w3 ⟨rfl, hcp⟩
      have HK := hide (unhide hfin w3 hcp)
      clear hcp hfin hw HRA HPL
      go_wp2
      go_roundw
      case rel => exact ⟨k + 1, by omega, by go_num, unhide HK⟩
      case measure => simp [intOf]; omega
    · have hkn : k = n := by omega
      have q1 : ¬ (k : Int) < n := by omega
      have HF : Hid (Tb B wr b room tmo P (fun p => rolled (C p)) Bn ∧ KT b P w wr) := by
        have hi := unhide HJ
        rw [hkn, unhide HN] at hi
        exact ⟨hi.tb.congr (fun p g hp hg => rollC_all P C p g hp hg) (fun p => rolled_bd ((unhide HH).bd p)), (KT.of_below (unhide HB1)).trans' hi.kt⟩
      clear hkn HJ
      go_wp2
      go_end0
      exact ⟨rfl, unhide HF⟩
end Go.Proofs.Ytbfakbooenmhoaa

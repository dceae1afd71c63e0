/- peers: Expire. -/
import Derived.Test.YtbfakbooenmhoaaZqI
namespace Go.Proofs.Ytbfakbooenmhoaa
open Go.RowKit
set_option linter.unusedVariables false
attribute [local go_sem] Oper.semAt_some

/-- was not heard for long -/
def late (C : Nat → Pr) (tmo now : Int) (p : Nat) : Bool := decide (tmo < now - (C p).se)
/-- who is there still -/
def exP (P : Nat → Option Nat) (C : Nat → Pr) (tmo now : Int) (k : Nat) : Nat → Option Nat := fun p => if p ∈ (ns P).take k ∧ late C tmo now p = true then none else P p
/-- who went -/
def exG (P : Nat → Option Nat) (C : Nat → Pr) (tmo now : Int) (k : Nat) : List Int := (((ns P).take k).filter (late C tmo now)).map fun p : Nat => (p : Int)
theorem exP_zero (P : Nat → Option Nat) (C : Nat → Pr) (tmo now : Int) : exP P C tmo now 0 = P := by
  funext p
  simp [exP]
theorem exP_no (P : Nat → Option Nat) (C : Nat → Pr) (tmo now : Int) (k p : Nat) (h : (ns P)[k]? = some p) (hl : late C tmo now p = false) : exP P C tmo now (k + 1) = exP P C tmo now k ∧ exG P C tmo now (k + 1) = exG P C tmo now k := by
  obtain ⟨hk, he⟩ := List.getElem?_eq_some_iff.1 h
  unfold exP exG
  rw [List.take_succ_eq_append_getElem hk, he]
  constructor
  · funext q
    by_cases e : q = p
    · subst e
      simp [hl]
    · simp [e]
  · simp [List.filter_append, hl]
theorem exP_yes (P : Nat → Option Nat) (C : Nat → Pr) (tmo now : Int) (k p : Nat) (h : (ns P)[k]? = some p) (hl : late C tmo now p = true) : exP P C tmo now (k + 1) = tup (exP P C tmo now k) p none ∧ exG P C tmo now (k + 1) = exG P C tmo now k ++ [(p : Int)] := by
  obtain ⟨hk, he⟩ := List.getElem?_eq_some_iff.1 h
  unfold exP exG
  rw [List.take_succ_eq_append_getElem hk, he]
  constructor
  · funext q
    unfold tup
    by_cases e : q = p
    · subst e
      simp [hl]
    · simp [e]
  · simp [List.filter_append, hl]
theorem exP_sub (P : Nat → Option Nat) (C : Nat → Pr) (tmo now : Int) (k p g : Nat) (h : exP P C tmo now k p = some g) : P p = some g := by
  unfold exP at h
  split at h
  · cases h
  · exact h
theorem exG_len (P : Nat → Option Nat) (C : Nat → Pr) (tmo now : Int) (k : Nat) : (exG P C tmo now k).length ≤ 16 := by
  unfold exG
  rw [List.length_map]
  exact Nat.le_trans (List.length_filter_le _ _) (Nat.le_trans (List.length_take_le' _ _) (ns_len P))
theorem OwnI.le {w : World} {B B' : Nat} {v : Value} {l : List Int} (h : OwnI w B v l) (hb : B' ≤ B) : OwnI w B' v l := ⟨h.1, h.2.imp id fun ⟨g, cap, cur, h1, h2, h3⟩ => ⟨g, cap, cur, h1, Nat.le_trans hb h2, h3⟩⟩
theorem Tb.keep {B : Nat} {w w' : World} {b : Nat} {room tmo : Int} {P : Nat → Option Nat} {C : Nat → Pr} {Bn : Nat → Bool} (h : Tb B w b room tmo P C Bn) (hk : w'.heap[b]? = w.heap[b]?) (hp : ∀ p g, p < 16 → P p = some g → w'.heap[g]? = w.heap[g]?) : Tb B w' b room tmo P C Bn :=
  ⟨⟨by rw [hk]; exact h.tb.blk, (World.cell?_of_block hk).trans h.tb.c0, (World.cell?_of_block hk).trans h.tb.c1, fun p hp => (World.cell?_of_block hk).trans (h.tb.ps p hp), fun p hp => (World.cell?_of_block hk).trans (h.tb.bs p hp), fun p g h1 h2 => (hp p g h1 h2).trans (h.tb.pe p g h1 h2)⟩, h.inj, h.nd, h.p0, h.bd, h.own, h.ownp⟩
/-- a table in the midst of Expire -/
structure ExI (B : Nat) (w1 : World) (b : Nat) (room tmo now : Int) (P : Nat → Option Nat) (C : Nat → Pr) (Bn : Nat → Bool) (k : Nat) (v : Value) (wr : World) : Prop where
  tb : Tb B wr b room tmo (exP P C tmo now k) C Bn
  own : OwnI wr w1.heap.size v (exG P C tmo now k)
  kt : KT b P w1 wr
/-- the same, with what went not told yet -/
structure ExJ (B : Nat) (w1 : World) (b : Nat) (room tmo now : Int) (P : Nat → Option Nat) (C : Nat → Pr) (Bn : Nat → Bool) (k k' : Nat) (v : Value) (wr : World) : Prop where
  tb : Tb B wr b room tmo (exP P C tmo now k') C Bn
  own : OwnI wr w1.heap.size v (exG P C tmo now k)
  kt : KT b P w1 wr
set_option maxRecDepth 100000 in
set_option maxHeartbeats 4000000 in
theorem expire_any (B b : Nat) (room tmo now : Int) (P : Nat → Option Nat) (C : Nat → Pr) (Bn : Nat → Bool) (w : World) (h : Tb B w b room tmo P C Bn) (hnow : 0 ≤ now ∧ now ≤ 1099511627776) :
    Calls Try.prog 19 #[.pointer (some ⟨b, 0, none⟩), .int .i64 now] w fun e w' => ∃ v, e = .returned v ∧ Tb B w' b room tmo (exP P C tmo now 16) C Bn ∧ OwnI w' w.heap.size v (exG P C tmo now 16) ∧ KT b P w w' := by
  have HH := hide h
  have hL := hide (list_any w b room tmo P C Bn h.tb)
  rw [lst_ns] at hL
  have gt := hide (fun w => isTime_any now w)
  rw [show isTm now = true by unfold isTm; simp; exact hnow] at gt
  obtain ⟨n1, n2⟩ := hnow
  obtain ⟨i0, hi0, hz0, hz1, hz2⟩ := info_parts Try.infoI
  clear h
  go_enter Try.func19, Try.ntmps19
  go_wp2_with fail
  refine (unhide gt _).mono ?_
  rintro e w0 ⟨rfl, rfl⟩
  go_wp2_with fail
  refine (unhide hL).mono ?_
  rintro e w1 ⟨v, rfl, hR⟩
  obtain ⟨a0, cp, rfl, hpes, hbl⟩ := own_pes hR.own
  rw [List.length_map]
  have HB1 := hide hR.be
  have HP := hide hpes
  have HBL := hide hbl
  have HI : Hid (ExI B w1 b room tmo now P C Bn 0 (.slice none 0 0) w1) := ⟨by rw [exP_zero]; exact (unhide HH).up hR.be, World.ownsRow_nil _ _ _ _, KT.of_below (Below.refl _ _)⟩
  obtain ⟨n, hn⟩ : ∃ n, n = (ns P).length := ⟨_, rfl⟩
  rw [← hn]
  have hn16 : n ≤ 16 := by rw [hn]; exact ns_len P
  have HN := hide hn
  clear hR hpes hbl hL hn gt
  go_wp2_with fail
  go_loopw [5, 14] (fun gv kv wr => ∃ k : Nat, k ≤ n ∧ kv = .int .i64 k ∧ ∃ (a : Option Addr) (c m : Nat), gv = .slice a m c ∧ m = (exG P C tmo now k).length ∧ ExI B w1 b room tmo now P C Bn k gv wr) (fun _ kv _ => n - (intOf kv).toNat)
  case atStart => exact ⟨0, by omega, rfl, none, 0, 0, rfl, rfl, unhide HI⟩
  case round =>
    obtain ⟨k, hk, rfl, ag, cg, mg, rfl, hmg, hI⟩ := hrel
    have HJ := hide hI
    have HMG := hide hmg
    have hm16 : mg ≤ 16 := by rw [hmg]; exact exG_len P C tmo now k
    clear hI HI hmg
    by_cases hlt : k < n
    · obtain ⟨p, hp⟩ : ∃ p, (ns P)[k]? = some p := ⟨_, List.getElem?_eq_getElem (by rw [← unhide HN]; exact hlt)⟩
      have hmem : p ∈ ns P := List.mem_of_getElem? hp
      obtain ⟨hp16, g, hPg⟩ := ns_mem.1 hmem
      have hpes2 : PesAt wr a0 ((ns P).map C) := (unhide HP).kept fun a ha => by
        obtain ⟨l1, l2⟩ := unhide HBL a ha
        refine (unhide HJ).kt.block a.block l2 ?_ ?_
        · have := (unhide HH).tb.lt
          omega
        · intro q hq e
          have := lt_of_block ((unhide HH).tb.pe q _ hq e)
          omega
      obtain ⟨gr, hgr, hra⟩ := hpes2 k (C p) (by rw [List.getElem?_map, hp]; rfl)
      have hnd := (unhide HH).nd p g hp16 hPg
      have hbd := ((unhide HH).bd p).se
      subst hgr
      obtain ⟨c, hc⟩ : ∃ c, c = C p := ⟨_, rfl⟩
      have hlate : late C tmo now p = decide (tmo < now - c.se) := by rw [hc]; rfl
      rw [← hc] at hra hnd hbd
      obtain ⟨nd, px, py, hv, wa, op, os, se, nw, ra⟩ := c
      dsimp only at hnd hbd hlate
      subst hnd
      obtain ⟨hs1, hs2⟩ := hbd
      have HRA : Hid (wr.rangeAt gr (k * 10) [.int .i64 p, .int .i64 px, .int .i64 py, .string hv, .bool wa, .bool op, .bool os, .int .i64 se, .int .i64 nw, .int .i64 ra]) := hra
      have HPL : Hid ((Try.prog.info? 46).map (·.size) = some [Value.int .i64 p, .int .i64 px, .int .i64 py, .string hv, .bool wa, .bool op, .bool os, .int .i64 se, .int .i64 nw, .int .i64 ra].length) := by
        show _ = _
        kernel_rfl
      have hblt := (unhide HJ).tb.tb.lt
      have ct := (unhide HJ).tb.tb.c1
      have cpp := (unhide HJ).tb.tb.ps p hp16
      have fp := (unhide HJ).tb.tb.free (2 + p)
      have q1 : (k : Int) < n := by omega
      have q2 : (p : Int) < 16 := by omega
      have HPP := hide hp
      clear hra hmem hPg hpes2 hc hp
      generalize pp (exP P C tmo now k p) = old at *
      by_cases hlt2 : tmo < now - se
      · rw [decide_eq_true hlt2] at hlate
        obtain ⟨st1, st2⟩ := exP_yes P C tmo now k p (unhide HPP) hlate
        have HS1 := hide st1
        have HS2 := hide st2
        clear st1 st2 hlate
        go_wp2_with (refine wpList_load_mid rfl 46 (.tmp 16) rfl gr (k * 10) rfl [.int .i64 p, .int .i64 px, .int .i64 py, .string hv, .bool wa, .bool op, .bool os, .int .i64 se, .int .i64 nw, .int .i64 ra] _ (unhide HRA) Try.underlying46 rfl (unhide HPL) ?_)
        go_region
        go_wp2
        go_region
        obtain ⟨cl, hcl⟩ : ∃ cl : Obj, cl = .cells #[.int .i64 p, .int .i64 px, .int .i64 py, .string hv, .bool wa, .bool op, .bool os, .int .i64 se, .int .i64 nw, .int .i64 ra] 46 := ⟨_, rfl⟩
        have HX : Hid (ExJ B w1 b room tmo now P C Bn k (k + 1) (.slice ag mg cg) ((wr.setCell ⟨b, 2 + p, none⟩ (.pointer none)).alloc cl).drew.drew) := by
          have b2 : Below wr.heap.size wr (wr.alloc cl) := (Below.refl _ _).alloc (Nat.le_refl _) _
          have t2 := (unhide HJ).tb.up b2
          have t3 := t2.drop p (t2.tb.cut p hp16)
          have e1 : (wr.alloc cl).setCell ⟨b, 2 + p, none⟩ (.pointer none) = (wr.setCell ⟨b, 2 + p, none⟩ (.pointer none)).alloc cl := World.setCell_alloc_past _ _ _ _ hblt
          rw [e1, ← unhide HS1] at t3
          have o2 : OwnI (wr.setCell ⟨b, 2 + p, none⟩ (.pointer none)) w1.heap.size (.slice ag mg cg) (exG P C tmo now k) := ownsRow_setCell_below (show World.ownsRow _ _ _ _ _ _ _ from (unhide HJ).own) (a := ⟨b, 2 + p, none⟩) (by
            have h1 := (unhide HH).tb.lt
            have h2 := (unhide HB1).size
            show b < w1.heap.size
            omega) _
          have o3 : OwnI ((wr.setCell ⟨b, 2 + p, none⟩ (.pointer none)).alloc cl) w1.heap.size (.slice ag mg cg) (exG P C tmo now k) := (show World.ownsRow _ _ _ _ _ _ _ from o2).alloc _
          have k3 : KT b P w1 ((wr.setCell ⟨b, 2 + p, none⟩ (.pointer none)).alloc cl) := (unhide HJ).kt.trans' ((KT.of_kept (kept_set _ wr b (2 + p) (.pointer none))).trans' (KT.of_below ((Below.refl _ _).alloc (Nat.le_refl _) _)))
          have t4 := t3.tb
          exact ⟨⟨⟨t4.blk, t4.c0, t4.c1, t4.ps, t4.bs, t4.pe⟩, t3.inj, t3.nd, t3.p0, t3.bd, t3.own, t3.ownp⟩, o3, ⟨k3.os, k3.tape, k3.output, k3.size, k3.block⟩⟩
        have HY : Hid (((wr.setCell ⟨b, 2 + p, none⟩ (.pointer none)).alloc cl).drew.drew.cell? ⟨wr.heap.size, 0, none⟩ = some (.int .i64 p)) := by
          have hh := heap_alloc_new (wr.setCell ⟨b, 2 + p, none⟩ (.pointer none)) cl
          rw [show (wr.setCell ⟨b, 2 + p, none⟩ (.pointer none)).heap.size = wr.heap.size by simp] at hh
          rw [hcl] at hh ⊢
          have hx : ((wr.setCell ⟨b, 2 + p, none⟩ (.pointer none)).alloc (.cells #[.int .i64 p, .int .i64 px, .int .i64 py, .string hv, .bool wa, .bool op, .bool os, .int .i64 se, .int .i64 nw, .int .i64 ra] 46)).cell? ⟨wr.heap.size, 0, none⟩ = (#[.int .i64 p, .int .i64 px, .int .i64 py, .string hv, .bool wa, .bool op, .bool os, .int .i64 se, .int .i64 nw, .int .i64 ra] : Array Value)[0]? := cell_of_row _ _ _ _ _ _ hh
          exact hx
        rw [hcl] at HX HY
        clear HJ hcl
        generalize ((wr.setCell ⟨b, 2 + p, none⟩ (.pointer none)).alloc (.cells #[.int .i64 p, .int .i64 px, .int .i64 py, .string hv, .bool wa, .bool op, .bool os, .int .i64 se, .int .i64 nw, .int .i64 ra] 46)).drew.drew = W3 at *
        have cy := unhide HY
        have hsz3 := (unhide HX).kt.size
        have HO : Hid (W3.ownsRow w1.heap.size 3 1 (.slice ag mg cg) mg (ic (exG P C tmo now k))) := by
          have := (unhide HX).own
          unfold OwnI at this
          rw [← unhide HMG] at this
          exact this
        clear ct cpp fp
        go_wp2_with (refine wpList_append_lies _ rfl (.tmp 33) (.tmp 36) 27 rfl w1.heap.size 3 i0 (.int .i64 0) 1 8 Try.undI hi0 hz0 hz1 hz2 rfl (by decide) (.slice ag mg cg) mg _ (by rfl) ((unhide HO).alloc _) ⟨W3.heap.size, 0, none⟩ 1 1 [.int .i64 p] (by rfl) (by rfl) (World.news_of_block (heap_alloc_new W3 _)) (ic_one [(p : Int)]) (by decide) (by unfold maxLen; omega) (by omega) (by simp; omega) _ rfl ?_)
        intro g2 cap2 w4 hown hgrow hat hlt3
        have HF : Hid (ExI B w1 b room tmo now P C Bn (k + 1) (.slice (some ⟨g2, 0, none⟩) (mg + 1) cap2) w4) := by
          have hgr : ∀ x, x < W3.heap.size → Value.ownBlock (.slice ag mg cg) ≠ some x → w4.heap[x]? = W3.heap[x]? := fun x hx hne => (hgrow.block x (by simp; omega) (fun e => hne e.symm)).trans (Below.heap_alloc W3 _ _ hx)
          have bt : ∀ x, x < w1.heap.size → w4.heap[x]? = W3.heap[x]? := fun x hx => hgr x (by omega) (fun e => by have := ((unhide HO).lt x e).1; omega)
          have hb1 := (unhide HB1).size
          have hbw := (unhide HH).tb.lt
          have hpw : ∀ q g3, q < 16 → exP P C tmo now (k + 1) q = some g3 → g3 < w1.heap.size := fun q g3 hq e => by
            have := lt_of_block ((unhide HH).tb.pe q g3 hq (exP_sub P C tmo now _ q g3 e))
            omega
          refine ⟨(unhide HX).tb.keep (bt b (by omega)) (fun q g3 hq e => bt g3 (hpw q g3 hq e)), ?_, ?_⟩
          · unfold OwnI
            rw [unhide HS2, ic_append, List.length_append, ← unhide HMG]
            exact hown
          · have kx := (unhide HX).kt
            have s1 := hgrow.size
            rw [show (W3.alloc (.cells #[.int .i64 p] 3)).heap.size = W3.heap.size + 1 by simp] at s1
            exact ⟨hgrow.os.trans kx.os, hgrow.tape.trans kx.tape, hgrow.output.trans kx.output, by omega, fun x hx h1 h2 => (bt x hx).trans (kx.block x hx h1 h2)⟩
        have HM2 : Hid (mg + 1 = (exG P C tmo now (k + 1)).length) := by
          show _ = _
          rw [unhide HS2, List.length_append, ← unhide HMG]
          rfl
        clear hown hgrow hat hlt3 HO HX HY HRA HPL
        go_wp2
        go_roundw
        case rel => exact ⟨k + 1, by omega, by go_num, _, _, mg + 1, rfl, unhide HM2, unhide HF⟩
        case measure => simp [intOf]; omega
      · rw [decide_eq_false hlt2] at hlate
        obtain ⟨st1, st2⟩ := exP_no P C tmo now k p (unhide HPP) hlate
        have HS1 := hide st1
        have HS2 := hide st2
        clear st1 st2 hlate
        go_wp2_with (refine wpList_load_mid rfl 46 (.tmp 16) rfl gr (k * 10) rfl [.int .i64 p, .int .i64 px, .int .i64 py, .string hv, .bool wa, .bool op, .bool os, .int .i64 se, .int .i64 nw, .int .i64 ra] _ (unhide HRA) Try.underlying46 rfl (unhide HPL) ?_)
        have HF : Hid (ExI B w1 b room tmo now P C Bn (k + 1) (.slice ag mg cg) (wr.alloc (.cells #[.int .i64 p, .int .i64 px, .int .i64 py, .string hv, .bool wa, .bool op, .bool os, .int .i64 se, .int .i64 nw, .int .i64 ra] 46)).drew) := by
          have b2 : Below wr.heap.size wr (wr.alloc (.cells #[.int .i64 p, .int .i64 px, .int .i64 py, .string hv, .bool wa, .bool op, .bool os, .int .i64 se, .int .i64 nw, .int .i64 ra] 46)) := (Below.refl _ _).alloc (Nat.le_refl _) _
          have t2 := (unhide HJ).tb.up b2
          have t4 := t2.tb
          have k3 := (unhide HJ).kt.trans' (KT.of_below (P := P) b2)
          rw [← unhide HS1] at t2 t4
          have o3 : OwnI (wr.alloc (.cells #[.int .i64 p, .int .i64 px, .int .i64 py, .string hv, .bool wa, .bool op, .bool os, .int .i64 se, .int .i64 nw, .int .i64 ra] 46)) w1.heap.size (.slice ag mg cg) (exG P C tmo now (k + 1)) := by
            rw [unhide HS2]
            exact (show World.ownsRow _ _ _ _ _ _ _ from (unhide HJ).own).alloc _
          exact ⟨⟨⟨t4.blk, t4.c0, t4.c1, t4.ps, t4.bs, t4.pe⟩, t2.inj, t2.nd, t2.p0, t2.bd, t2.own, t2.ownp⟩, o3, ⟨k3.os, k3.tape, k3.output, k3.size, k3.block⟩⟩
        have HM2 : Hid (mg = (exG P C tmo now (k + 1)).length) := by
          show _ = _
          rw [unhide HS2, ← unhide HMG]
        go_region
        go_wp2
        go_roundw
        case rel => exact ⟨k + 1, by omega, by go_num, _, _, mg, rfl, unhide HM2, unhide HF⟩
        case measure => simp [intOf]; omega
    · have hkn : k = n := by omega
      have q1 : ¬ (k : Int) < n := by omega
      have HF : Hid (Tb B wr b room tmo (exP P C tmo now 16) C Bn ∧ OwnI wr w.heap.size (.slice ag mg cg) (exG P C tmo now 16) ∧ KT b P w wr) := by
        have hi := unhide HJ
        have e1 : (ns P).take 16 = (ns P).take n := by rw [unhide HN, List.take_length, List.take_of_length_le (ns_len P)]
        have e2 : exP P C tmo now 16 = exP P C tmo now n := by unfold exP; rw [e1]
        have e3 : exG P C tmo now 16 = exG P C tmo now n := by unfold exG; rw [e1]
        rw [hkn] at hi
        rw [e2, e3]
        exact ⟨hi.tb, OwnI.le hi.own (unhide HB1).size, (KT.of_below (unhide HB1)).trans' hi.kt⟩
      clear hkn HJ
      go_wp2
      go_ret
      exact ⟨_, rfl, unhide HF⟩
end Go.Proofs.Ytbfakbooenmhoaa

/- peers: a table, and List. -/
import Derived.Test.YtbfakbooenmhoaaQaA
import Derived.Deep.MidRow
import Derived.Deep.AppendLies
namespace Go.Proofs.Ytbfakbooenmhoaa
open Go.RowKit
set_option linter.unusedVariables false
attribute [local go_sem] Oper.semAt_some

/-- a peer -/
structure Pr where
  nd : Int
  x : Int
  y : Int
  hv : ByteArray
  wa : Bool
  op : Bool
  os : Bool
  se : Int
  nw : Int
  ra : Int
def Pr.cl (p : Pr) : List Value := [.int .i64 p.nd, .int .i64 p.x, .int .i64 p.y, .string p.hv, .bool p.wa, .bool p.op, .bool p.os, .int .i64 p.se, .int .i64 p.nw, .int .i64 p.ra]
theorem Pr.cl_len (p : Pr) : p.cl.length = 10 := rfl
theorem Pr.cl_one (p : Pr) : ∀ u ∈ p.cl, u.oneCell' = true := by
  intro u hu
  simp [Pr.cl] at hu
  rcases hu with rfl | rfl | rfl | rfl | rfl | rfl | rfl | rfl | rfl | rfl <;> rfl
/-- a pointer to a peer -/
def pp (x : Option Nat) : Value := .pointer (x.map fun g => ⟨g, 0, none⟩)
/-- block b is a table: its room, its timeout, the blocks of its peers, what they hold, who was banned -/
structure TbAt (w : World) (b : Nat) (room tmo : Int) (P : Nat → Option Nat) (C : Nat → Pr) (Bn : Nat → Bool) : Prop where
  blk : ∃ cs, w.heap[b]? = some (.cells cs 67 (0, 0))
  c0 : w.cell? ⟨b, 0, none⟩ = some (.int .i64 room)
  c1 : w.cell? ⟨b, 1, none⟩ = some (.int .i64 tmo)
  ps : ∀ p, p < 16 → w.cell? ⟨b, 2 + p, none⟩ = some (pp (P p))
  bs : ∀ p, p < 16 → w.cell? ⟨b, 18 + p, none⟩ = some (.bool (Bn p))
  pe : ∀ p g, p < 16 → P p = some g → w.heap[g]? = some (.cells (C p).cl.toArray 46 (0, 0))
theorem TbAt.free {w : World} {b : Nat} {room tmo : Int} {P : Nat → Option Nat} {C : Nat → Pr} {Bn : Nat → Bool} (h : TbAt w b room tmo P C Bn) (j : Nat) : w.frozen? ⟨b, j, none⟩ = false := by
  obtain ⟨cs, hc⟩ := h.blk
  simp [World.frozen?, hc]
theorem TbAt.lt {w : World} {b : Nat} {room tmo : Int} {P : Nat → Option Nat} {C : Nat → Pr} {Bn : Nat → Bool} (h : TbAt w b room tmo P C Bn) : b < w.heap.size := by
  obtain ⟨cs, hc⟩ := h.blk
  exact lt_of_block hc
theorem TbAt.up {w w' : World} {b : Nat} {room tmo : Int} {P : Nat → Option Nat} {C : Nat → Pr} {Bn : Nat → Bool} (h : TbAt w b room tmo P C Bn) (hb : Below w.heap.size w w') : TbAt w' b room tmo P C Bn := by
  have hk := hb.block b h.lt
  exact ⟨by rw [hk]; exact h.blk, (World.cell?_of_block hk).trans h.c0, (World.cell?_of_block hk).trans h.c1, fun p hp => (World.cell?_of_block hk).trans (h.ps p hp), fun p hp => (World.cell?_of_block hk).trans (h.bs p hp), fun p g hp hg => (hb.block g (lt_of_block (h.pe p g hp hg))).trans (h.pe p g hp hg)⟩
/-- the pointers of a table -/
def plist (P : Nat → Option Nat) : List Value := (List.range 16).map fun p => pp (P p)
theorem plist_len (P : Nat → Option Nat) : (plist P).length = 16 := by simp [plist]
theorem TbAt.range {w : World} {b : Nat} {room tmo : Int} {P : Nat → Option Nat} {C : Nat → Pr} {Bn : Nat → Bool} (h : TbAt w b room tmo P C Bn) : w.rangeAt b 2 (plist P) := fun j v hv => by
  have hj : j < 16 := by
    have := (List.getElem?_eq_some_iff.1 hv).1
    rwa [plist_len] at this
  have : (plist P)[j]? = some (pp (P j)) := by simp [plist, hj]
  rw [this] at hv
  cases hv
  exact h.ps j hj
theorem idx_ptr (P : Nat → Option Nat) (k : Nat) (hk : k < 16) (w : World) : (Instr.index 65 (.agg (plist P).toArray) (.int .i64 (k : Nat))).run Try.prog w = .ok (pp (P k)) w := by
  have h1 := Try.underlying65
  have h2 := Try.underlying64
  have h3 : Try.t64.size = 1 := by kernel_rfl
  have hin : (0 : Int) ≤ (k : Nat) ∧ ((k : Nat) : Int) < 16 := by omega
  have hl : k < (plist P).length := by rw [plist_len]; exact hk
  have hg : (plist P)[k] = pp (P k) := by simp only [plist, List.getElem_map, List.getElem_range]
  simp [Instr.index, run_underlying h1, asIntOf, go_sem, part, isAgg, sizeOf, h3, hk, hg, plist_len]
theorem Try.infoPe : (Try.prog.info? 46).map (fun i => (i.zero, i.size, i.bytes)) = some (some (.agg #[.int .i64 0, .int .i64 0, .int .i64 0, .string ⟨#[]⟩, .bool false, .bool false, .bool false, .int .i64 0, .int .i64 0, .int .i64 0]), 10, 72) := by kernel_rfl
theorem Try.undPe : Try.prog.underlying 36 = some (.slice 46) := by kernel_rfl
/-- peers as cells -/
def peC (l : List Pr) : List Value := l.flatMap Pr.cl
theorem peC_append (l m : List Pr) : peC (l ++ m) = peC l ++ peC m := by simp [peC]
def OwnPe (w : World) (base : Nat) (v : Value) (l : List Pr) : Prop := w.ownsRow base 46 10 v l.length (peC l)
/-- the peers that are there, of the first k numbers -/
def lst (P : Nat → Option Nat) (C : Nat → Pr) (k : Nat) : List Pr := (List.range k).filterMap fun p => (P p).map fun _ => C p
theorem lst_succ (P : Nat → Option Nat) (C : Nat → Pr) (k : Nat) : lst P C (k + 1) = lst P C k ++ (match P k with | some _ => [C k] | none => []) := by
  unfold lst
  rw [List.range_succ, List.filterMap_append]
  cases h : P k <;> simp [h]
theorem lst_len (P : Nat → Option Nat) (C : Nat → Pr) (k : Nat) : (lst P C k).length ≤ k := by
  unfold lst
  exact Nat.le_trans (List.length_filterMap_le _ _) (by simp)
theorem ownPe_shape {w : World} {B : Nat} {v : Value} {l : List Pr} (h : OwnPe w B v l) : ∃ a0 c, v = .slice a0 l.length c := by
  rcases h.2 with ⟨h1, h2⟩ | ⟨g, cap, cur, h1, _⟩
  · exact ⟨none, 0, by rw [h1, h2]⟩
  · exact ⟨_, _, h1⟩
structure ListR (w : World) (v : Value) (l : List Pr) (w' : World) : Prop where
  own : OwnPe w' w.heap.size v l
  be : Below w.heap.size w w'

set_option maxRecDepth 100000 in
set_option maxHeartbeats 4000000 in
theorem list_any (w : World) (b : Nat) (room tmo : Int) (P : Nat → Option Nat) (C : Nat → Pr) (Bn : Nat → Bool) (h : TbAt w b room tmo P C Bn) :
    Calls Try.prog 11 #[.pointer (some ⟨b, 0, none⟩)] w fun e w' => ∃ v, e = .returned v ∧ ListR w v (lst P C 16) w' := by
  have HT := hide h
  have HR := hide h.range
  obtain ⟨i0, hi, hz0, hz1, hz2⟩ := info_parts Try.infoPe
  have hidx := hide (idx_ptr P)
  have hpl : (Try.prog.info? 65).map (·.size) = some (plist P).length := by rw [plist_len]; kernel_rfl
  have HPL := hide hpl
  clear h hpl
  obtain ⟨A, hA⟩ : ∃ A, A = (plist P).toArray := ⟨_, rfl⟩
  rw [← hA] at hidx
  have HA := hide hA
  clear hA
  go_enter Try.func11, Try.ntmps11
  go_wp2_with (refine wpList_load_mid rfl 65 (.tmp 10) rfl b 2 rfl (plist P) _ (unhide HR) Try.underlying65 rfl (unhide HPL) ?_; rw [← unhide HA])
  go_loopw [3, 12] (fun lv kv wr => ∃ (k : Nat) (a : Option Addr) (c n : Nat), k ≤ 16 ∧ kv = .int .i64 k ∧ lv = .slice a n c ∧ n = (lst P C k).length ∧ ListR w lv (lst P C k) wr) (fun _ kv _ => 16 - (intOf kv).toNat)
  case atStart => exact ⟨0, none, 0, 0, by omega, rfl, rfl, rfl, World.ownsRow_nil _ _ _ _, Below.refl _ _⟩
  case round =>
    obtain ⟨k, a, c, n, hk, rfl, rfl, hn, hL⟩ := hrel
    have HL := hide hL
    have HN := hide hn
    have hnk : n ≤ k := by rw [hn]; exact lst_len P C k
    clear hL hn
    by_cases hlt : k < 16
    · have q1 : (k : Int) < 16 := by omega
      have hx := fun w => unhide hidx k hlt w
      cases hP : P k with
      | none =>
        have hx2 : ∀ w, (Instr.index 65 (.agg A) (.int .i64 (k : Nat))).run Try.prog w = .ok (.pointer none) w := by
          intro w
          have := hx w
          rw [hP] at this
          exact this
        have HL2 : Hid (ListR w (.slice a n c) (lst P C (k + 1)) wr) := by
          rw [lst_succ, hP, List.append_nil]
          exact unhide HL
        have HN2 : Hid (n = (lst P C (k + 1)).length) := by
          show _ = _
          rw [lst_succ, hP, List.append_nil]
          exact unhide HN
        clear hx hP
        go_wp2
        go_roundw
        case rel => exact ⟨k + 1, a, c, n, by omega, by go_num, rfl, unhide HN2, unhide HL2⟩
        case measure => simp [intOf]; omega
      | some g =>
        have hx2 : ∀ w, (Instr.index 65 (.agg A) (.int .i64 (k : Nat))).run Try.prog w = .ok (.pointer (some ⟨g, 0, none⟩)) w := by
          intro w
          have := hx w
          rw [hP] at this
          exact this
        have hblk := ((unhide HT).up (unhide HL).be).pe k g hlt hP
        obtain ⟨pr, hpr⟩ : ∃ pr, pr = C k := ⟨_, rfl⟩
        rw [← hpr] at hblk
        obtain ⟨nd, px, py, hv, wa, op, os, se, nw, ra⟩ := pr
        have HBL : Hid (wr.heap[g]? = some (.cells #[.int .i64 nd, .int .i64 px, .int .i64 py, .string hv, .bool wa, .bool op, .bool os, .int .i64 se, .int .i64 nw, .int .i64 ra] 46 (0, 0))) := hblk
        have HO : Hid (wr.ownsRow w.heap.size 46 10 (.slice a n c) n (peC (lst P C k))) := by
          have := (unhide HL).own
          unfold OwnPe at this
          rw [← unhide HN] at this
          exact this
        have hwx := (unhide HL).be.size
        have HL1 : Hid (lst P C (k + 1) = lst P C k ++ [⟨nd, px, py, hv, wa, op, os, se, nw, ra⟩]) := by
          show _ = _
          rw [lst_succ, hP, hpr]
        clear hx hP hblk hpr
        go_wp2_with (first
          | (refine wpList_load_row rfl 46 (.tmp 19) rfl g rfl 46 #[.int .i64 nd, .int .i64 px, .int .i64 py, .string hv, .bool wa, .bool op, .bool os, .int .i64 se, .int .i64 nw, .int .i64 ra] (0, 0) _ (unhide HBL) Try.underlying46 rfl (by kernel_rfl) ?_)
          | (refine wpList_append_lies _ rfl (.tmp 17) (.tmp 21) 36 rfl w.heap.size 46 i0 (.agg #[.int .i64 0, .int .i64 0, .int .i64 0, .string ⟨#[]⟩, .bool false, .bool false, .bool false, .int .i64 0, .int .i64 0, .int .i64 0]) 10 72 Try.undPe hi hz0 hz1 hz2 rfl (by decide) (.slice a n c) n _ (by rfl) ((unhide HO).alloc _) ⟨wr.heap.size, 0, none⟩ 1 1 [.int .i64 nd, .int .i64 px, .int .i64 py, .string hv, .bool wa, .bool op, .bool os, .int .i64 se, .int .i64 nw, .int .i64 ra] (by rfl) (by rfl) (World.news_of_block (heap_alloc_new wr _)) (Pr.cl_one ⟨nd, px, py, hv, wa, op, os, se, nw, ra⟩) (by decide) (by unfold maxLen; omega) (by omega) (by simp; omega) _ rfl ?_))
        intro g2 cap2 w4 hown hgrow hat hlt2
        have hown' : OwnPe w4 w.heap.size (.slice (some ⟨g2, 0, none⟩) (n + 1) cap2) (lst P C k ++ [⟨nd, px, py, hv, wa, op, os, se, nw, ra⟩]) := by
          unfold OwnPe
          rw [peC_append, List.length_append, ← unhide HN]
          exact hown
        have hb4 : Below w.heap.size w w4 := ((unhide HL).be.alloc (unhide HL).be.size (.cells #[.int .i64 nd, .int .i64 px, .int .i64 py, .string hv, .bool wa, .bool op, .bool os, .int .i64 se, .int .i64 nw, .int .i64 ra] 46)).grown hgrow (by simp; omega) (fun z hz => ((unhide HO).lt z hz).1)
        have HL4 : Hid (ListR w (.slice (some ⟨g2, 0, none⟩) (n + 1) cap2) (lst P C (k + 1)) w4) := by
          rw [unhide HL1]
          exact ⟨hown', hb4⟩
        have HN4 : Hid (n + 1 = (lst P C (k + 1)).length) := by
          show _ = _
          rw [unhide HL1, List.length_append, ← unhide HN]
          rfl
        clear hown hgrow hat hlt2 hown' hb4 HO HL HBL HL1
        go_wp2
        go_roundw
        case rel => exact ⟨k + 1, _, _, n + 1, by omega, by go_num, rfl, unhide HN4, unhide HL4⟩
        case measure => simp [intOf]; omega
    · have hk16 : k = 16 := by omega
      have q1 : ¬ (k : Int) < 16 := by omega
      have HL4 : Hid (ListR w (.slice a n c) (lst P C 16) wr) := by
        have := unhide HL
        rw [hk16] at this
        exact this
      clear hk16 HL HN
      go_wp2
      go_ret
      exact ⟨_, rfl, unhide HL4⟩
set_option maxRecDepth 100000 in
theorem len_any (w : World) (b : Nat) (room tmo : Int) (P : Nat → Option Nat) (C : Nat → Pr) (Bn : Nat → Bool) (h : TbAt w b room tmo P C Bn) :
    Calls Try.prog 12 #[.pointer (some ⟨b, 0, none⟩)] w fun e w' => e = .returned (.int .i64 (lst P C 16).length) ∧ Below w.heap.size w w' := by
  have g := hide (list_any w b room tmo P C Bn h)
  generalize hl : lst P C 16 = l at *
  obtain ⟨n, hn⟩ : ∃ n, l.length = n := ⟨_, rfl⟩
  rw [hn]
  have HNN := hide hn
  clear h hl hn
  go_enter Try.func12, Try.ntmps12
  go_wp2_with fail
  refine (unhide g).mono ?_
  rintro e w1 ⟨v, rfl, hR⟩
  obtain ⟨a0, c, rfl⟩ := ownPe_shape hR.own
  have HB := hide hR.be
  rw [unhide HNN]
  clear hR
  go_wp2
  go_ret
  exact ⟨rfl, unhide HB⟩
end Go.Proofs.Ytbfakbooenmhoaa

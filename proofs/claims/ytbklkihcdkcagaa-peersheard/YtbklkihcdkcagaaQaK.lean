/- peers: rows of peers; Roll. -/
import Derived.Test.YtbklkihcdkcagaaQaJ
namespace Go.Proofs.Ytbklkihcdkcagaa
open Go.RowKit
set_option linter.unusedVariables false
attribute [local go_sem] Oper.semAt_some

theorem peC_get : ∀ (l : List Pr) (t j : Nat) (c : Pr), l[t]? = some c → j < 10 → (peC l)[t * 10 + j]? = c.cl[j]?
  | [], _, _, _, h, _ => by simp at h
  | x :: l, 0, j, c, h, hj => by
    have e : x.cl.length = 10 := rfl
    simp at h
    unfold peC
    rw [List.flatMap_cons, Nat.zero_mul, Nat.zero_add, List.getElem?_append_left (by omega), h]
  | x :: l, t + 1, j, c, h, hj => by
    have e : x.cl.length = 10 := rfl
    unfold peC
    rw [List.flatMap_cons, List.getElem?_append_right (by omega), e, show (t + 1) * 10 + j - 10 = t * 10 + j by omega]
    exact peC_get l t j c (by simpa using h) hj
/-- peers in a row of their own -/
def PesAt (w : World) (a0 : Option Addr) (l : List Pr) : Prop := ∀ t c, l[t]? = some c → ∃ g, a0 = some ⟨g, 0, none⟩ ∧ w.rangeAt g (t * 10) c.cl
theorem own_pes {w : World} {B : Nat} {v : Value} {l : List Pr} (h : OwnPe w B v l) : ∃ a0 c, v = .slice a0 l.length c ∧ PesAt w a0 l ∧ ∀ a, a0 = some a → B ≤ a.block ∧ a.block < w.heap.size := by
  rcases h.2 with ⟨h1, h2⟩ | ⟨g, cap, cur, h1, h2, h3, h4, h5, h6, h7⟩
  · refine ⟨none, 0, by rw [h1, h2], fun t c ht => ?_, fun a ha => by cases ha⟩
    have := (List.getElem?_eq_some_iff.1 ht).1
    omega
  · refine ⟨_, _, h1, fun t c ht => ⟨g, rfl, fun j v hv => ?_⟩, fun a ha => by cases ha; exact ⟨h2, lt_of_block h3⟩⟩
    have hj : j < 10 := (List.getElem?_eq_some_iff.1 hv).1
    have ht' := (List.getElem?_eq_some_iff.1 ht).1
    rw [cell_of_row _ _ _ _ _ _ h3, ← Array.getElem?_toList, ← hv, ← peC_get l t j c ht hj, ← h7, List.getElem?_take, if_pos (by omega)]
theorem PesAt.kept {w w' : World} {a0 : Option Addr} {l : List Pr} (h : PesAt w a0 l) (hk : ∀ a, a0 = some a → w'.heap[a.block]? = w.heap[a.block]?) : PesAt w' a0 l := fun t c ht => by
  obtain ⟨g, hg, hr⟩ := h t c ht
  exact ⟨g, hg, fun j v hv => (World.cell?_of_block (a := ⟨g, t * 10 + j, none⟩) (hk ⟨g, 0, none⟩ hg)).trans (hr j v hv)⟩
/-- who is there, by numbers -/
def ns (P : Nat → Option Nat) : List Nat := (List.range 16).filter fun p => (P p).isSome
theorem lst_ns (P : Nat → Option Nat) (C : Nat → Pr) : lst P C 16 = (ns P).map C := by
  unfold lst ns
  generalize List.range 16 = l
  induction l with
  | nil => rfl
  | cons x l ih =>
    cases h : P x <;> simp [h, ih]
theorem ns_nodup (P : Nat → Option Nat) : (ns P).Nodup := List.Nodup.sublist List.filter_sublist List.nodup_range
theorem ns_mem {P : Nat → Option Nat} {p : Nat} : p ∈ ns P ↔ p < 16 ∧ ∃ g, P p = some g := by
  unfold ns
  rw [List.mem_filter, List.mem_range, Option.isSome_iff_exists]
theorem ns_len (P : Nat → Option Nat) : (ns P).length ≤ 16 := Nat.le_trans (List.length_filter_le _ _) (by simp)
def rolled (c : Pr) : Pr := { c with ra := c.nw, nw := 0 }
/-- who was rolled already -/
def rollC (P : Nat → Option Nat) (C : Nat → Pr) (k : Nat) : Nat → Pr := fun p => if p ∈ (ns P).take k then rolled (C p) else C p
theorem rolled_bd {c : Pr} (h : Bd c) : Bd (rolled c) := ⟨h.se, by show (0 : Int) ≤ 0 ∧ (0 : Int) ≤ 1099511627776; omega⟩
theorem rollC_zero (P : Nat → Option Nat) (C : Nat → Pr) : rollC P C 0 = C := by
  funext p
  simp [rollC]
theorem rollC_step (P : Nat → Option Nat) (C : Nat → Pr) (k p : Nat) (h : (ns P)[k]? = some p) : rollC P C k p = C p ∧ tup (rollC P C k) p (rolled (C p)) = rollC P C (k + 1) := by
  obtain ⟨hk, he⟩ := List.getElem?_eq_some_iff.1 h
  have hn : p ∉ (ns P).take k := by
    intro hm
    obtain ⟨j, hj, hj2⟩ := List.mem_take_iff_getElem.1 hm
    exact List.pairwise_iff_getElem.1 (ns_nodup P) j k (by omega) hk (by omega) (hj2.trans he.symm)
  refine ⟨by unfold rollC; rw [if_neg hn], ?_⟩
  funext q
  unfold tup rollC
  rw [List.take_succ_eq_append_getElem hk, he]
  by_cases e : q = p
  · subst e
    simp
  · simp [e]
theorem rollC_all (P : Nat → Option Nat) (C : Nat → Pr) (p g : Nat) (hp : p < 16) (hg : P p = some g) : rollC P C (ns P).length p = rolled (C p) := by
  unfold rollC
  rw [List.take_length, if_pos (ns_mem.2 ⟨hp, g, hg⟩)]
theorem Tb.congr {B : Nat} {w : World} {b : Nat} {room tmo : Int} {P : Nat → Option Nat} {C D : Nat → Pr} {Bn : Nat → Bool} (h : Tb B w b room tmo P C Bn) (hd : ∀ p g, p < 16 → P p = some g → C p = D p) (hb : ∀ p, Bd (D p)) : Tb B w b room tmo P D Bn :=
  ⟨⟨h.tb.blk, h.tb.c0, h.tb.c1, h.tb.ps, h.tb.bs, fun p g hp hg => by rw [← hd p g hp hg]; exact h.tb.pe p g hp hg⟩, h.inj, fun p g hp hg => by rw [← hd p g hp hg]; exact h.nd p g hp hg, h.p0, hb, h.own, h.ownp⟩
set_option maxRecDepth 100000 in
set_option maxHeartbeats 1000000 in
theorem roll_clo (g : Nat) (c : Pr) (w : World) (hg : w.heap[g]? = some (.cells c.cl.toArray 46 (0, 0))) :
    Calls Try.prog 46 #[.pointer (some ⟨g, 0, none⟩)] w fun e w' => e = .returned (.tuple #[]) ∧ CP g (rolled c) w w' := by
  have c8 : w.cell? ⟨g, 8, none⟩ = some (.int .i64 c.nw) := by rw [pr_cells hg]; rfl
  have c9 : w.cell? ⟨g, 9, none⟩ = some (.int .i64 c.ra) := by rw [pr_cells hg]; rfl
  have f8 := pr_free hg 8
  have f9 := pr_free hg 9
  have k1 := cp_set hg 9 (.int .i64 c.nw) { c with ra := c.nw } rfl
  have k2 := cp_set k1.blk 8 (.int .i64 0) (rolled c) rfl
  have HC : Hid (CP g (rolled c) w ((w.setCell ⟨g, 9, none⟩ (.int .i64 c.nw)).setCell ⟨g, 8, none⟩ (.int .i64 0))) := ⟨k2.blk, k1.kept.trans (k2.kept.mono (by simp))⟩
  generalize c.nw = nw at *
  generalize c.ra = ra at *
  generalize rolled c = cr at *
  clear hg k1 k2
  go_enter Try.func46, Try.ntmps46
  go_wp2
  go_end0
  exact ⟨rfl, unhide HC⟩
/-- a table in the midst of Roll: the world behind List, and how far it went -/
structure RollI (B : Nat) (w1 : World) (b : Nat) (room tmo : Int) (P : Nat → Option Nat) (C : Nat → Pr) (Bn : Nat → Bool) (k : Nat) (wr : World) : Prop where
  tb : Tb B wr b room tmo P (rollC P C k) Bn
  kt : KT b P w1 wr
set_option maxRecDepth 100000 in
set_option maxHeartbeats 4000000 in
theorem roll_any (B b : Nat) (room tmo : Int) (P : Nat → Option Nat) (C : Nat → Pr) (Bn : Nat → Bool) (w : World) (h : Tb B w b room tmo P C Bn) :
    Calls Try.prog 22 #[.pointer (some ⟨b, 0, none⟩)] w fun e w' => e = .returned (.tuple #[]) ∧ Tb B w' b room tmo P (fun p => rolled (C p)) Bn ∧ KT b P w w' := by
  have HH := hide h
  have hL := hide (list_any w b room tmo P C Bn h.tb)
  rw [lst_ns] at hL
  clear h
  go_enter Try.func22, Try.ntmps22
  go_wp2_with fail
  refine (unhide hL).mono ?_
  rintro e w1 ⟨v, rfl, hR⟩
  obtain ⟨a0, cp, rfl, hpes, hbl⟩ := own_pes hR.own
  rw [List.length_map]
  have HB1 := hide hR.be
  have HP := hide hpes
  have HBL := hide hbl
  have HI : Hid (RollI B w1 b room tmo P C Bn 0 w1) := ⟨by rw [rollC_zero]; exact (unhide HH).up hR.be, KT.of_below (Below.refl _ _)⟩
  obtain ⟨n, hn⟩ : ∃ n, n = (ns P).length := ⟨_, rfl⟩
  rw [← hn]
  have hn16 : n ≤ 16 := by rw [hn]; exact ns_len P
  have HN := hide hn
  clear hR hpes hbl hL hn
  go_wp2_with fail
  go_loopw [7] (fun kv wr => ∃ k : Nat, k ≤ n ∧ kv = .int .i64 k ∧ RollI B w1 b room tmo P C Bn k wr) (fun kv _ => n - (intOf kv).toNat)
  case atStart => exact ⟨0, by omega, rfl, unhide HI⟩
  case round =>
    obtain ⟨k, hk, rfl, hI⟩ := hrel
    have HJ := hide hI
    clear hI HI
    by_cases hlt : k < n
    · obtain ⟨p, hp⟩ : ∃ p, (ns P)[k]? = some p := ⟨_, List.getElem?_eq_getElem (by rw [← unhide HN]; exact hlt)⟩
      have hmem : p ∈ ns P := List.mem_of_getElem? hp
      obtain ⟨hp16, g, hPg⟩ := ns_mem.1 hmem
      have hp0 : p ≠ 0 := by
        intro e
        rw [e, (unhide HH).p0] at hPg
        cases hPg
      have hpes2 : PesAt wr a0 ((ns P).map C) := (unhide HP).kept fun a ha => by
        obtain ⟨l1, l2⟩ := unhide HBL a ha
        refine (unhide HJ).kt.block a.block l2 ?_ ?_
        · have := (unhide HH).tb.lt
          omega
        · intro q hq e
          have := lt_of_block ((unhide HH).tb.pe q _ hq e)
          omega
      obtain ⟨gr, hgr, hra⟩ := hpes2 k (C p) (by rw [List.getElem?_map, hp]; rfl)
      obtain ⟨st1, st2⟩ := rollC_step P C k p hp
      have hnd := (unhide HH).nd p g hp16 hPg
      subst hgr
      obtain ⟨c, hc⟩ : ∃ c, c = C p := ⟨_, rfl⟩
      rw [← hc] at hra hnd
      obtain ⟨nd, px, py, hv, wa, op, os, se, nw, ra⟩ := c
      dsimp only at hnd
      subst hnd
      have HRA : Hid (wr.rangeAt gr (k * 10) [.int .i64 p, .int .i64 px, .int .i64 py, .string hv, .bool wa, .bool op, .bool os, .int .i64 se, .int .i64 nw, .int .i64 ra]) := hra
      obtain ⟨W2, hW2⟩ : ∃ W2, W2 = wr.alloc (.cells #[.int .i64 p, .int .i64 px, .int .i64 py, .string hv, .bool wa, .bool op, .bool os, .int .i64 se, .int .i64 nw, .int .i64 ra] 46) := ⟨_, rfl⟩
      have b2 : Below wr.heap.size wr W2 := by rw [hW2]; exact (Below.refl _ _).alloc (Nat.le_refl _) _
      have t2 := (unhide HJ).tb.up b2
      have hclo := roll_clo g (rollC P C k p) W2 (t2.tb.pe p g hp16 hPg)
      have hw := hide (with_yes0 p g 46 (cf_of Try.func46 (by kernel_rfl) (by kernel_rfl)) _ b room tmo P _ Bn W2 t2.tb (by omega) hPg hclo)
      have hfin : Hid (∀ w3, CP g (rolled (rollC P C k p)) W2 w3 → RollI B w1 b room tmo P C Bn (k + 1) w3) := by
        intro w3 k3
        have := (unhide HJ).tb.put b2 hp16 hPg (c := rolled (rollC P C k p)) (by rw [st1]; exact (unhide HH).nd p g hp16 hPg) (rolled_bd ((unhide HJ).tb.bd p)) k3
        rw [st1, st2] at this
        exact ⟨this.1, (unhide HJ).kt.trans' this.2⟩
      rw [hW2] at hw hfin
      have q1 : (k : Int) < n := by omega
      have HPL : Hid ((Try.prog.info? 46).map (·.size) = some [Value.int .i64 p, .int .i64 px, .int .i64 py, .string hv, .bool wa, .bool op, .bool os, .int .i64 se, .int .i64 nw, .int .i64 ra].length) := by
        show _ = _
        kernel_rfl
      clear hra hp hmem hp16 hPg hp0 hpes2 st1 st2 hc b2 t2 hclo hW2
      go_wp2_with (refine wpList_load_mid rfl 46 (.tmp 9) rfl gr (k * 10) rfl [.int .i64 p, .int .i64 px, .int .i64 py, .string hv, .bool wa, .bool op, .bool os, .int .i64 se, .int .i64 nw, .int .i64 ra] _ (unhide HRA) Try.underlying46 rfl (unhide HPL) ?_)
      refine (unhide hw).mono ?_
      rintro e w3 ⟨rfl, hcp⟩
      have HK := hide (unhide hfin w3 hcp)
      clear hcp hfin hw HRA HPL
      go_wp2
      go_roundw
      case rel => exact ⟨k + 1, by omega, by go_num, unhide HK⟩
      case measure => simp [intOf]; omega
    · have hkn : k = n := by omega
      have q1 : ¬ (k : Int) < n := by omega
      have HF : Hid (Tb B wr b room tmo P (fun p => rolled (C p)) Bn ∧ KT b P w wr) := by
        have hi := unhide HJ
        rw [hkn, unhide HN] at hi
        exact ⟨hi.tb.congr (fun p g hp hg => rollC_all P C p g hp hg) (fun p => rolled_bd ((unhide HH).bd p)), (KT.of_below (unhide HB1)).trans' hi.kt⟩
      clear hkn HJ
      go_wp2
      go_end0
      exact ⟨rfl, unhide HF⟩
end Go.Proofs.Ytbklkihcdkcagaa

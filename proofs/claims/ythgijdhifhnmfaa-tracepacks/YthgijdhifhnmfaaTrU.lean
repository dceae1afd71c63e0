/- trace: the document's Unpack. -/
import Derived.Test.YthgijdhifhnmfaaTrS
import Derived.Test.YthgijdhifhnmfaaTrN
import Derived.Test.YthgijdhifhnmfaaRefT
namespace Go.Proofs.Ythgijdhifhnmfaa
open Go.RowKit
set_option linter.unusedVariables false
attribute [local go_sem] Oper.semAt_some

theorem wpList_store_row_to {P : Program} {ops : Array Oper} {rest : List Oper} {o : Oper} {a : Act} {w : World} {Q : Exit → Act → World → Prop} (hgd : o.guard = none) (ty : TypeId) (x y : Operand) (ho : o.op = .store ty x y)
    (g : Nat) (cells : Array Value) (hx : a.eval x = .pointer (some ⟨g, 0, none⟩)) (hy : a.eval y = .agg cells)
    (t : TypeId) (old : Array Value) (hg : w.heap[g]? = some (.cells old t (0, 0))) (hi : (P.info? ty).map (·.size) = some cells.size)
    (hold : old.size = cells.size) (h1 : cells.all (·.oneCell') = true) (G : World → Prop) (hG : G (w.setRow g cells))
    (h : ∀ w', G w' → wpList P ops Q rest (a.put o.dst undef) w') : wpList P ops Q (o :: rest) a w :=
  wpList_store_row hgd ty x y ho g cells hx hy t old hg hi hold h1 (h _ hG)
/-- what the document reads of an event -/
def dE (p : Rd) : Ev × Rd :=
  if (num p 1).1 = 1 then (⟨1, (num (num p 1).2 2).1, (textQ (num (num p 1).2 2).2).1⟩, (textQ (num (num p 1).2 2).2).2)
  else (⟨(num p 1).1, (num (num p 1).2 2).1, ⟨#[]⟩⟩, (num (num p 1).2 2).2)
def dS (p0 : Rd) : Nat → List Ev × Rd
  | 0 => ([], p0)
  | k + 1 => ((dS p0 k).1 ++ [(dE (dS p0 k).2).1], (dE (dS p0 k).2).2)
theorem dE_ok (e : Ev) (r : By) (h : mayB e = true) : dE (bs (encE e ++ r), 0) = (e, (bs r, 0)) := by
  have hu := upE_ok e r h
  unfold upE at hu
  unfold dE
  by_cases h1 : (num (bs (encE e ++ r), 0) 1).1 = 1
  · rw [if_pos h1] at hu ⊢
    simp only [Prod.mk.injEq, Option.some.injEq] at hu
    obtain ⟨u1, u2⟩ := hu
    have ht : textQ (num (num (bs (encE e ++ r), 0) 1).2 2).2 = text (num (num (bs (encE e ++ r), 0) 1).2 2).2 := by
      unfold textQ
      rw [if_neg (by rw [u2]; simp)]
    rw [ht, u1, u2]
  · rw [if_neg h1] at hu ⊢
    by_cases h2 : (num (bs (encE e ++ r), 0) 1).1 = 2 ∨ (num (bs (encE e ++ r), 0) 1).1 = 3
    · rw [if_pos h2] at hu
      simp only [Prod.mk.injEq, Option.some.injEq] at hu
      obtain ⟨u1, u2⟩ := hu
      rw [u1, u2]
    · rw [if_neg h2] at hu
      simp at hu
theorem dS_ok (l : List Ev) (hm : ∀ e ∈ l, mayB e = true) : ∀ k, k ≤ l.length → dS (bs (l.flatMap encE), 0) k = (l.take k, (bs ((l.drop k).flatMap encE), 0)) := by
  intro k
  induction k with
  | zero => intro _; simp [dS]
  | succ k ih =>
    intro hk
    have hk' : k < l.length := by omega
    show ((dS (bs (l.flatMap encE), 0) k).1 ++ [(dE (dS (bs (l.flatMap encE), 0) k).2).1], (dE (dS (bs (l.flatMap encE), 0) k).2).2) = _
    rw [ih (by omega)]
    dsimp only
    rw [List.drop_eq_getElem_cons hk', List.flatMap_cons, dE_ok _ _ (hm _ (List.getElem_mem _)), List.take_succ_eq_append_getElem hk']
theorem dS_len (p0 : Rd) : ∀ k, (dS p0 k).1.length = k := by
  intro k
  induction k with
  | zero => rfl
  | succ k ih =>
    show ((dS p0 k).1 ++ [_]).length = k + 1
    rw [List.length_append, ih]
    rfl
theorem textQ_le (p : Rd) : (textQ p).2.1.size ≤ p.1.size := by
  unfold textQ
  split
  · exact Nat.le_refl _
  · unfold text
    exact Nat.le_trans (raw_le _ _).2 (num_le _ _)
/-- how many rounds -/
def dN (s : ByteArray) : Nat := min (num (s.extract 4 s.size, 0) 2).1.toNat 501
/-- what the document's Unpack keeps: its count, its reader, its events -/
structure DI (w : World) (b : Nat) (N : Int) (p : Rd) (v : Value) (l : List Ev) (wr : World) : Prop where
  a5 : ∃ x y z, wr.heap[b]? = some (.cells #[x, y, .int .i64 N, z] 65 (0, 0))
  r6 : wr.heap[b + 1]? = some (.cells #[.string p.1, .int .i64 p.2] 63 (0, 0))
  own : OwnEv 54 wr (b + 2) v l
  be : Below w.heap.size w wr
  wb : w.heap.size ≤ b
  ps : p.1.size ≤ maxLen
theorem DI.up {w : World} {b : Nat} {N : Int} {p : Rd} {v : Value} {l : List Ev} {x y : World} (h : DI w b N p v l x) (hb : Below x.heap.size x y) : DI w b N p v l y := by
  obtain ⟨a, c, d, h5⟩ := h.a5
  exact ⟨⟨a, c, d, (hb.block _ (lt_of_block h5)).trans h5⟩, (hb.block _ (lt_of_block h.r6)).trans h.r6, ownEv_keep h.own (fun k hk => hb.block k (h.own.lt k hk).2), h.be.trans (hb.mono h.be.size), h.wb, h.ps⟩
theorem DI.set {w : World} {b : Nat} {N : Int} {p : Rd} {v : Value} {l : List Ev} {x : World} (h : DI w b N p v l x) (q : Rd) (hq : q.1.size ≤ maxLen) : DI w b N q v l ((x.setCell ⟨b + 1, 0, none⟩ (.string q.1)).setCell ⟨b + 1, 1, none⟩ (.int .i64 q.2)) := by
  obtain ⟨a, c, d, h5⟩ := h.a5
  have oth : ∀ i, i ≠ b + 1 → ((x.setCell ⟨b + 1, 0, none⟩ (.string q.1)).setCell ⟨b + 1, 1, none⟩ (.int .i64 q.2)).heap[i]? = x.heap[i]? := fun i hi => (Below.heap_setCell _ _ _ _ hi).trans (Below.heap_setCell _ _ _ _ hi)
  refine ⟨⟨a, c, d, (oth b (by omega)).trans h5⟩, ?_, ownEv_keep h.own (fun k hk => oth k (by have := (h.own.lt k hk).1; omega)), ⟨h.be.os, h.be.tape, h.be.output, by simpa using h.be.size, fun i hi => (oth i (by have := h.wb; omega)).trans (h.be.block i hi)⟩, h.wb, hq⟩
  have h1 := heap_setCell_same x (b + 1) 0 _ _ (.string q.1) h.r6
  have h2 := heap_setCell_same _ (b + 1) 1 _ _ (.int .i64 q.2) h1
  exact h2
theorem DI.cells {w : World} {b : Nat} {N : Int} {p : Rd} {v : Value} {l : List Ev} {x : World} (h : DI w b N p v l x) : x.cell? ⟨b, 2, none⟩ = some (.int .i64 N) ∧ x.cell? ⟨b + 1, 0, none⟩ = some (.string p.1) ∧ x.cell? ⟨b + 1, 1, none⟩ = some (.int .i64 p.2) ∧ x.frozen? ⟨b + 1, 0, none⟩ = false ∧ x.frozen? ⟨b + 1, 1, none⟩ = false := by
  obtain ⟨a, c, d, h5⟩ := h.a5
  have h6 := h.r6
  refine ⟨?_, ?_, ?_, ?_, ?_⟩
  · simp [World.cell?, h5]
  · simp [World.cell?, h6]
  · simp [World.cell?, h6]
  · simp [World.frozen?, h6]
  · simp [World.frozen?, h6]
theorem DI.row {w : World} {b : Nat} {N : Int} {p : Rd} {v : Value} {l : List Ev} {x : World} (h : DI w b N p v l x) (q0 : ByteArray) (q1 : Int) (hq : q0.size ≤ maxLen) : DI w b N (q0, q1) v l (x.setRow (b + 1) #[.string q0, .int .i64 q1]) := by
  obtain ⟨a, c, d, h5⟩ := h.a5
  have oth : ∀ i, i ≠ b + 1 → (x.setRow (b + 1) #[.string q0, .int .i64 q1]).heap[i]? = x.heap[i]? := fun i hi => setRow_other x _ i _ hi
  exact ⟨⟨a, c, d, (oth b (by omega)).trans h5⟩, setRow_heap x _ _ _ _ _ h.r6, ownEv_keep h.own (fun k hk => oth k (by have := (h.own.lt k hk).1; omega)), ⟨h.be.os, h.be.tape, h.be.output, by simpa using h.be.size, fun i hi => (oth i (by have := h.wb; omega)).trans (h.be.block i hi)⟩, h.wb, hq⟩
theorem DI.cell {w : World} {b : Nat} {N : Int} {p : Rd} {v : Value} {l : List Ev} {x : World} (h : DI w b N p v l x) (Y j : Nat) (u : Value) (hY : b + 2 ≤ Y) (hv : v.ownBlock ≠ some Y) : DI w b N p v l (x.setCell ⟨Y, j, none⟩ u) := by
  obtain ⟨a, c, d, h5⟩ := h.a5
  have oth : ∀ i, i ≠ Y → (x.setCell ⟨Y, j, none⟩ u).heap[i]? = x.heap[i]? := fun i hi => Below.heap_setCell _ _ _ _ hi
  exact ⟨⟨a, c, d, (oth b (by omega)).trans h5⟩, (oth _ (by omega)).trans h.r6, ownEv_keep h.own (fun k hk => oth k (fun e => hv (by rw [hk, e]))), ⟨h.be.os, h.be.tape, h.be.output, by simpa using h.be.size, fun i hi => (oth i (by have := h.wb; omega)).trans (h.be.block i hi)⟩, h.wb, h.ps⟩
theorem DI.app {w : World} {b : Nat} {N : Int} {p : Rd} {v v' : Value} {l l' : List Ev} {x wz : World} (h : DI w b N p v l x) (o : Obj) (hg : (x.alloc o).grownBy wz v.ownBlock) (ho : OwnEv 54 wz (b + 2) v' l') : DI w b N p v' l' wz := by
  have hu := h.up ((Below.refl _ _).alloc (Nat.le_refl _) o)
  obtain ⟨a, c, d, h5⟩ := hu.a5
  have keep : ∀ i, i < (x.alloc o).heap.size → i < b + 2 → wz.heap[i]? = (x.alloc o).heap[i]? := fun i hi hb => hg.block i hi (fun e => by have := (h.own.lt i e.symm).1; omega)
  refine ⟨⟨a, c, d, (keep b (lt_of_block h5) (by omega)).trans h5⟩, (keep _ (lt_of_block hu.r6) (by omega)).trans hu.r6, ho, hu.be.grown hg hu.be.size (fun z hz => by have := (h.own.lt z hz).1; have := h.wb; omega), h.wb, h.ps⟩
/-- a world with an event's block -/
structure DX (w : World) (b : Nat) (N : Int) (p : Rd) (v : Value) (l : List Ev) (Y : Nat) (k n : Int) (s : ByteArray) (wr : World) : Prop where
  di : DI w b N p v l wr
  x : wr.heap[Y]? = some (.cells #[.int .i64 k, .int .i64 n, .string s] 54 (0, 0))
theorem read_all (s : ByteArray) (m : List Ev) (h : unp s = some m) : num (s.extract 4 s.size, 0) 2 = ((m.length : Int), (bs (m.flatMap encE), 0)) ∧ m.length ≤ 500 ∧ ∀ e ∈ m, mayB e = true := by
  obtain ⟨h1, h2⟩ := unp_inv s m h
  unfold chkB at h1
  rw [Bool.and_eq_true] at h1
  have hl := of_decide_eq_true h1.1
  have hs : s = bs (hd m.length ++ m.flatMap encE) := by rw [← h2, bs_of]
  have hsz : s.size = 6 + (m.flatMap encE).length := by rw [hs, bs_size, List.length_append, hd_len]
  have he : s.extract 4 s.size = bs (putB m.length 2 ++ m.flatMap encE) := by
    have := ext_bs (hd m.length ++ m.flatMap encE) 4 s.size (by omega) (by rw [List.length_append, hd_len]; omega)
    rw [← hs] at this
    rw [this]
    congr 1
    unfold hd
    rw [List.append_assoc, hsz]
    show List.take _ (putB m.length 2 ++ m.flatMap encE) = _
    exact List.take_of_length_le (by rw [List.length_append, putB_length]; omega)
  have en := numB m.length 2 (m.flatMap encE) (by omega) (by omega) (fit_of (by omega) (by show (m.length : Int) < 65536; omega))
  rw [show ((2 : Nat) : Int) = 2 from rfl] at en
  rw [he]
  exact ⟨en, hl, List.all_eq_true.1 h1.2⟩
/-- what the document's Unpack answers -/
structure DR (w : World) (s : ByteArray) (v : Value) (w' : World) : Prop where
  own : OwnEv 54 w' w.heap.size v ((unp s).getD [])
  be : Below w.heap.size w w'
theorem dr_none {w w' : World} {s : ByteArray} (h : unp s = none) (hb : Below w.heap.size w w') : 3 = unE s ∧ DR w s (.slice none 0 0) w' := by
  refine ⟨by unfold unE; rw [h], by rw [h]; exact World.ownsRow_nil _ _ _ _, hb⟩
set_option maxRecDepth 100000 in
set_option maxHeartbeats 1000000 in
theorem runpack_short (s : ByteArray) (w : World) (hs : s.size ≤ 10000) (h6 : (s.size : Int) < 6) :
    Calls Try.prog 12 #[.string s] w fun e w' => ∃ v, e = .returned (.tuple #[v, .int .i64 (unE s)]) ∧ DR w s v w' := by
  have hun : unp s = none := by
    cases h : unp s with
    | none => rfl
    | some m =>
      have h2 := congrArg List.length (unp_inv s m h).2
      rw [List.length_append, hd_len] at h2
      have : s.data.toList.length = s.size := by simp
      omega
  obtain ⟨r1, r2⟩ := dr_none hun (Below.refl w.heap.size w)
  have H1 := hide r1
  have H2 := hide r2
  clear hun r1 r2
  go_enter Try.func12, Try.ntmps12
  go_wp2
  go_ret2
  exact ⟨.slice none 0 0, by rw [← unhide H1]; rfl, unhide H2⟩
set_option maxRecDepth 100000 in
set_option maxHeartbeats 1000000 in
theorem runpack_head (s : ByteArray) (w : World) (hs : s.size ≤ 10000) (h6 : ¬ (s.size : Int) < 6) (hh : ((s.extract 0 4).toList == [116, 114, 99, 49]) = false) :
    Calls Try.prog 12 #[.string s] w fun e w' => ∃ v, e = .returned (.tuple #[v, .int .i64 (unE s)]) ∧ DR w s v w' := by
  have hun : unp s = none := by
    cases h : unp s with
    | none => rfl
    | some m =>
      exfalso
      have h2 := (unp_inv s m h).2
      have hsl : 4 ≤ s.data.toList.length := by
        have hq : s.data.toList.length = s.size := by simp
        omega
      have he : (s.extract 0 4).toList = [116, 114, 99, 49] := by
        rw [ByteArray.toList_eq]
        have := ext_bs s.data.toList 0 4 (by omega) hsl
        rw [bs_of] at this
        rw [this, bs_list, h2]
        rfl
      rw [he] at hh
      simp at hh
  obtain ⟨r1, r2⟩ := dr_none hun (Below.refl w.heap.size w)
  have H1 := hide r1
  have H2 := hide r2
  clear hun r1 r2
  go_enter Try.func12, Try.ntmps12
  go_wp2
  go_ret2
  exact ⟨.slice none 0 0, by rw [← unhide H1]; rfl, unhide H2⟩
set_option maxRecDepth 100000 in
set_option maxHeartbeats 8000000 in
theorem runpack_main (s : ByteArray) (w : World) (hs : s.size ≤ 10000) (h6 : ¬ (s.size : Int) < 6) (hh : ((s.extract 0 4).toList == [116, 114, 99, 49]) = true) :
    Calls Try.prog 12 #[.string s] w fun e w' => ∃ v, e = .returned (.tuple #[v, .int .i64 (unE s)]) ∧ DR w s v w' := by
  obtain ⟨i0, hi, hz0, hz1, hz2⟩ := info_parts Try.infoRe
  obtain ⟨s4, hs4⟩ : ∃ s4, s4 = s.extract 4 s.size := ⟨_, rfl⟩
  have hs4s : s4.size ≤ 10000 := by rw [hs4, ByteArray.size_extract]; omega
  have HQ := hide (fun w => qnum_any (s4, 0) 2 w (by unfold maxLen; show s4.size ≤ _; omega))
  have HS4 := hide hs4
  unfold vV gV at HQ
  dsimp only at HQ
  have hnb := num_bounds (s4, 0) 2 (.inr rfl)
  have hnl := num_le (s4, 0) 2
  obtain ⟨N, hN⟩ : ∃ N, N = (num (s4, 0) 2).1 := ⟨_, rfl⟩
  obtain ⟨r0, hr0⟩ : ∃ r0, r0 = (num (s4, 0) 2).2 := ⟨_, rfl⟩
  rw [← hN] at HQ hnb
  rw [← hr0] at HQ hnl
  have hr0s : r0.1.size ≤ maxLen := by unfold maxLen; have : (s4, (0 : Int)).1.size ≤ 10000 := hs4s; omega
  have HNN := hide hN
  have HR0 := hide hr0
  have HSS := hide hs
  have HQ1 := hide (fun p w h => qnum_any p 1 w h)
  have HQ2 := hide (fun p w h => qnum_any p 2 w h)
  have HQT := hide (fun p w h => qtext_any p w h)
  unfold vV gV at HQ1 HQ2 HQT
  clear hN hr0 hnl hs4s
  obtain ⟨r1, r2⟩ := r0
  dsimp only at HQ hr0s
  obtain ⟨M, hM⟩ : ∃ M, M = min N.toNat 501 := ⟨_, rfl⟩
  have hM1 : M ≤ 501 := by omega
  have hM2 : (M : Int) ≤ N := by omega
  have HM := hide hM
  obtain ⟨n0, n1⟩ := hnb
  clear hM hs4
  go_enter Try.func12, Try.ntmps12
  go_wp2_with fail
  rw [← unhide HS4]
  refine (unhide HQ w).mono ?_
  rintro e w1 ⟨rfl, b1⟩
  obtain ⟨b, hb⟩ : ∃ b, b = w1.heap.size := ⟨_, rfl⟩
  have HW1 : Hid (DI w b N (r1, r2) (.slice none 0 0) [] ((w1.alloc (.cells #[.string r1, .int .i64 r2, .int .i64 N, .string ⟨#[]⟩] 65)).alloc (.cells #[.string r1, .int .i64 r2] 63))) := by
    have hbb := ((Below.refl w1.heap.size w1).alloc (Nat.le_refl _) (.cells #[.string r1, .int .i64 r2, .int .i64 N, .string ⟨#[]⟩] 65)).alloc (by simp) (.cells #[.string r1, .int .i64 r2] 63)
    refine ⟨⟨.string r1, .int .i64 r2, .string ⟨#[]⟩, ?_⟩, ?_, World.ownsRow_nil _ _ _ _, b1.trans (hbb.mono b1.size), by rw [hb]; exact b1.size, hr0s⟩
    · rw [hb]
      exact heap2_a w1 _ _
    · rw [hb]
      exact heap2_b w1 _ _
  have HBB := hide hb
  clear b1 hb HQ
  go_wp2_with fail
  rw [← unhide HBB]
  generalize ((w1.alloc (.cells #[.string r1, .int .i64 r2, .int .i64 N, .string ⟨#[]⟩] 65)).alloc (.cells #[.string r1, .int .i64 r2] 63)) = W1 at *
  go_loopw [4, 7] (fun lv kv wr => ∃ (k : Nat) (a : Option Addr) (c : Nat), k ≤ M ∧ kv = .int .i64 k ∧ lv = .slice a k c ∧ DI w b N (dS (r1, r2) k).2 lv (dS (r1, r2) k).1 wr) (fun _ kv _ => M - (intOf kv).toNat)
  case atStart => exact ⟨0, none, 0, by omega, rfl, rfl, unhide HW1⟩
  case round =>
    clear HW1
    obtain ⟨k, a, c2, hk, rfl, rfl, hD⟩ := hrel
    have hlk := dS_len (r1, r2) k
    obtain ⟨l, hl⟩ : ∃ l, l = (dS (r1, r2) k).1 := ⟨_, rfl⟩
    obtain ⟨p, hp⟩ : ∃ p, p = (dS (r1, r2) k).2 := ⟨_, rfl⟩
    rw [← hl] at hD hlk
    rw [← hp] at hD
    have HD := hide hD
    have HLK := hide hlk
    have HLE := hide hl
    have HPE := hide hp
    obtain ⟨cN, cr0, cr1, fr0, fr1⟩ := hD.cells
    have hps := hD.ps
    clear hD hl hp hlk
    by_cases hlt : k < M
    · have q1 : (k : Int) < N := by omega
      have q2 : (k : Int) ≤ 500 := by omega
      obtain ⟨p0, p00⟩ := p
      dsimp only at cr0 cr1 hps
      have hq := hide (unhide HQ1 (p0, p00) wr hps)
      dsimp only at hq
      have hle1 := num_le (p0, p00) 1
      obtain ⟨ek, hek⟩ : ∃ ek, ek = (num (p0, p00) 1).1 := ⟨_, rfl⟩
      obtain ⟨e1, he1⟩ : ∃ e1, e1 = (num (p0, p00) 1).2 := ⟨_, rfl⟩
      rw [← hek, ← he1] at hq
      rw [← he1] at hle1
      have hek2 : Hid (ek = (num (p0, p00) 1).1 ∧ e1 = (num (p0, p00) 1).2) := ⟨hek, he1⟩
      clear hek he1
      obtain ⟨e10, e11⟩ := e1
      dsimp only at hq hle1
      go_wp2_with fail
      refine (unhide hq).mono ?_
      rintro e w2 ⟨rfl, b2⟩
      have HD2 := hide (((unhide HD).up b2).up ((Below.refl _ _).alloc (Nat.le_refl _) (.cells #[.string e10, .int .i64 e11, .int .i64 ek, .string ⟨#[]⟩] 65)))
      have HX2 := hide (heap_alloc_new w2 (.cells #[.string e10, .int .i64 e11, .int .i64 ek, .string ⟨#[]⟩] 65))
      obtain ⟨X, hX⟩ : ∃ X, X = w2.heap.size := ⟨_, rfl⟩
      rw [← hX] at HX2
      clear b2 cN cr0 cr1 fr0 fr1 HD hq
      go_wp2_with fail
      rw [← hX]
      have hXb : b + 2 ≤ X := by
        have := lt_of_block (unhide HD2).r6
        simp at this
        have h3 : X ≠ b + 1 := fun e => by
          have h4 := (unhide HD2).r6
          rw [← e, unhide HX2] at h4
          cases h4
        omega
      generalize w2.alloc (.cells #[.string e10, .int .i64 e11, .int .i64 ek, .string ⟨#[]⟩] 65) = W3 at *
      have hp1s : e10.size ≤ maxLen := Nat.le_trans hle1 hps
      have hq2 := hide (unhide HQ2 (e10, e11) W3 hp1s)
      have hle2 := num_le (e10, e11) 2
      dsimp only at hq2
      obtain ⟨en, hen⟩ : ∃ en, en = (num (e10, e11) 2).1 := ⟨_, rfl⟩
      obtain ⟨e2, he2⟩ : ∃ e2, e2 = (num (e10, e11) 2).2 := ⟨_, rfl⟩
      rw [← hen, ← he2] at hq2
      rw [← he2] at hle2
      have hen2 : Hid (en = (num (e10, e11) 2).1 ∧ e2 = (num (e10, e11) 2).2) := ⟨hen, he2⟩
      clear hen he2 hX
      obtain ⟨e20, e21⟩ := e2
      dsimp only at hq2 hle2
      refine (unhide hq2).mono ?_
      rintro e w4 ⟨rfl, b4⟩
      have HD4 := hide ((unhide HD2).up b4)
      have HX4 := hide ((b4.block X (lt_of_block (unhide HX2))).trans (unhide HX2))
      have x2 : w4.cell? ⟨X, 2, none⟩ = some (.int .i64 ek) := by simp [World.cell?, unhide HX4]
      obtain ⟨cN, cr0, cr1, fr0, fr1⟩ := (unhide HD4).cells
      have hltb := lt_of_block (unhide HD4).r6
      have hltX := lt_of_block (unhide HX4)
      have hp2s : e20.size ≤ maxLen := Nat.le_trans hle2 hp1s
      clear b4 HD2 HX2 hq2
      by_cases h1 : ek = 1
      · subst h1
        obtain ⟨Y, hY⟩ : ∃ Y, Y = w4.heap.size + 1 := ⟨_, rfl⟩
        have HG : Hid (DX w b N (e20, e21) (.slice a k c2) l Y 1 en ⟨#[]⟩ (((w4.alloc (.cells #[.string e20, .int .i64 e21, .int .i64 en, .string ⟨#[]⟩] 65)).alloc (.cells #[.int .i64 1, .int .i64 en, .string ⟨#[]⟩] 54)).setRow (b + 1) #[.string e20, .int .i64 e21])) := by
          refine ⟨(((unhide HD4).up ((Below.refl _ _).alloc (Nat.le_refl _) _)).up ((Below.refl _ _).alloc (Nat.le_refl _) _)).row e20 e21 hp2s, ?_⟩
          rw [setRow_other _ _ _ _ (by omega), hY]
          exact heap2_b w4 _ _
        have HR6 : Hid (((w4.alloc (.cells #[.string e20, .int .i64 e21, .int .i64 en, .string ⟨#[]⟩] 65)).alloc (.cells #[.int .i64 1, .int .i64 en, .string ⟨#[]⟩] 54)).heap[b + 1]? = some (.cells #[.string p0, .int .i64 p00] 63 (0, 0))) :=
          (((unhide HD4).up ((Below.refl _ _).alloc (Nat.le_refl _) (.cells #[.string e20, .int .i64 e21, .int .i64 en, .string ⟨#[]⟩] 65))).up ((Below.refl _ _).alloc (Nat.le_refl _) (.cells #[.int .i64 1, .int .i64 en, .string ⟨#[]⟩] 54))).r6
        have hYb : b + 2 ≤ Y := by omega
        have hYv : Value.ownBlock (.slice a k c2) ≠ some Y := fun e => by have := ((unhide HD4).own.lt Y e).2; omega
        have HYY := hide hY
        clear hY
        go_wp2_with (refine wpList_store_row_to rfl 63 (.tmp 6) (.tmp 49) rfl (b + 1) #[.string e20, .int .i64 e21] rfl rfl 63 #[.string p0, .int .i64 p00] (unhide HR6) (by kernel_rfl) rfl (by simp [Value.oneCell']) (DX w b N (e20, e21) (.slice a k c2) l Y 1 en ⟨#[]⟩) (unhide HG) ?_)
        intro w5 h5
        have H5 := hide h5
        obtain ⟨cN5, cr05, cr15, fr05, fr15⟩ := h5.di.cells
        have y0 : w5.cell? ⟨Y, 0, none⟩ = some (.int .i64 1) := by rw [cell_of_row _ _ _ _ _ _ (h5.x)]; rfl
        have y1 : w5.cell? ⟨Y, 1, none⟩ = some (.int .i64 en) := by rw [cell_of_row _ _ _ _ _ _ (h5.x)]; rfl
        have y2 : w5.cell? ⟨Y, 2, none⟩ = some (.string ⟨#[]⟩) := by rw [cell_of_row _ _ _ _ _ _ (h5.x)]; rfl
        rw [← unhide HYY]
        clear h5 HG HR6 HD4 HX4 cN cr0 cr1 fr0 fr1 x2 hltb hltX
        have hqt := hide (unhide HQT (e20, e21) w5 hp2s)
        dsimp only at hqt
        have hle3 := textQ_le (e20, e21)
        obtain ⟨tx, htx⟩ : ∃ tx, tx = (textQ (e20, e21)).1 := ⟨_, rfl⟩
        obtain ⟨e3, he3⟩ : ∃ e3, e3 = (textQ (e20, e21)).2 := ⟨_, rfl⟩
        rw [← htx, ← he3] at hqt
        rw [← he3] at hle3
        have htx2 : Hid (tx = (textQ (e20, e21)).1 ∧ e3 = (textQ (e20, e21)).2) := ⟨htx, he3⟩
        clear htx he3
        obtain ⟨e30, e31⟩ := e3
        dsimp only at hqt hle3
        have hp3s : e30.size ≤ maxLen := Nat.le_trans hle3 hp2s
        go_wp2_with fail
        refine (unhide hqt).mono ?_
        rintro e w6 ⟨rfl, b6⟩
        have HD6 := hide ((unhide H5).di.up b6)
        have HX6 := hide ((b6.block Y (lt_of_block (unhide H5).x)).trans (unhide H5).x)
        have z0 : w6.cell? ⟨Y, 0, none⟩ = some (.int .i64 1) := by rw [cell_of_row _ _ _ _ _ _ (unhide HX6)]; rfl
        have z1 : w6.cell? ⟨Y, 1, none⟩ = some (.int .i64 en) := by rw [cell_of_row _ _ _ _ _ _ (unhide HX6)]; rfl
        have z2 : w6.cell? ⟨Y, 2, none⟩ = some (.string ⟨#[]⟩) := by rw [cell_of_row _ _ _ _ _ _ (unhide HX6)]; rfl
        have zf : w6.frozen? ⟨Y, 2, none⟩ = false := by simp [World.frozen?, unhide HX6]
        have hYl := lt_of_block (unhide HX6)
        have HD7 : Hid (DI w b N (e20, e21) (.slice a k c2) l ((w6.setCell ⟨Y, 2, none⟩ (.string tx)).alloc (.cells #[.string e30, .int .i64 e31, .int .i64 0, .string tx] 65))) := ((unhide HD6).cell Y 2 (.string tx) hYb hYv).up ((Below.refl _ _).alloc (Nat.le_refl _) _)
        have HX7 : Hid (((w6.setCell ⟨Y, 2, none⟩ (.string tx)).alloc (.cells #[.string e30, .int .i64 e31, .int .i64 0, .string tx] 65)).heap[Y]? = some (.cells #[.int .i64 1, .int .i64 en, .string tx] 54 (0, 0))) := by
          show _ = _
          rw [Below.heap_alloc _ _ _ (by simpa using hYl)]
          exact heap_setCell_same w6 Y 2 _ _ _ (unhide HX6)
        have HG7 : Hid (DX w b N (e30, e31) (.slice a k c2) l Y 1 en tx (((w6.setCell ⟨Y, 2, none⟩ (.string tx)).alloc (.cells #[.string e30, .int .i64 e31, .int .i64 0, .string tx] 65)).setRow (b + 1) #[.string e30, .int .i64 e31])) :=
          ⟨(unhide HD7).row e30 e31 hp3s, (setRow_other _ _ _ _ (by omega)).trans (unhide HX7)⟩
        have HR7 := hide (unhide HD7).r6
        clear b6 H5 cN5 cr05 cr15 fr05 fr15 y0 y1 y2 HX6 HD7 HX7 hqt
        go_wp2_with (refine wpList_store_row_to rfl 63 (.tmp 6) (.tmp 59) rfl (b + 1) #[.string e30, .int .i64 e31] rfl rfl 63 #[.string e20, .int .i64 e21] (unhide HR7) (by kernel_rfl) rfl (by simp [Value.oneCell']) (DX w b N (e30, e31) (.slice a k c2) l Y 1 en tx) (unhide HG7) ?_)
        intro w7 h7
        have H7 := hide h7
        have v0 : w7.cell? ⟨Y, 0, none⟩ = some (.int .i64 1) := by rw [cell_of_row _ _ _ _ _ _ (h7.x)]; rfl
        have v1 : w7.cell? ⟨Y, 1, none⟩ = some (.int .i64 en) := by rw [cell_of_row _ _ _ _ _ _ (h7.x)]; rfl
        have v2 : w7.cell? ⟨Y, 2, none⟩ = some (.string tx) := by rw [cell_of_row _ _ _ _ _ _ (h7.x)]; rfl
        clear h7 HG7 HR7 HD6 z0 z1 z2 zf
        have HO : Hid (w7.ownsRow (b + 2) 54 3 (.slice a k c2) k (evC l)) := by
          have := (unhide H7).di.own
          unfold OwnEv at this
          rw [unhide HLK] at this
          exact this
        have hwb2 : b + 2 ≤ w7.heap.size := by
          have := lt_of_block (unhide H7).di.r6
          omega
        go_wp2_with (refine wpList_append_lies _ rfl (.tmp 60) (.tmp 62) 30 rfl (b + 2) 54 i0 (.agg #[.int .i64 0, .int .i64 0, .string ⟨#[]⟩]) 3 32 Try.undRe hi hz0 hz1 hz2 rfl (by decide) (.slice a k c2) k _ (by rfl) ((unhide HO).alloc _) ⟨w7.heap.size, 0, none⟩ 1 1 [.int .i64 1, .int .i64 en, .string tx] (by rfl) (by rfl) (World.news_of_block (heap_alloc_new w7 _)) (Ev.one ⟨1, en, tx⟩) (by decide) (by unfold maxLen; omega) (by omega) (by simp; omega) _ rfl ?_)
        intro g2 cap2 wz hown hgrow hat hlt2
        have HF : Hid (DI w b N (dS (r1, r2) (k + 1)).2 (.slice (some ⟨g2, 0, none⟩) (k + 1) cap2) (dS (r1, r2) (k + 1)).1 wz) := by
          have hst : dS (r1, r2) (k + 1) = (l ++ [⟨1, en, tx⟩], (e30, e31)) := by
            show ((dS (r1, r2) k).1 ++ [(dE (dS (r1, r2) k).2).1], (dE (dS (r1, r2) k).2).2) = _
            rw [← unhide HLE, ← unhide HPE]
            unfold dE
            rw [← (unhide hek2).1, ← (unhide hek2).2, ← (unhide hen2).1, ← (unhide hen2).2]
            rw [if_pos rfl, ← (unhide htx2).1, ← (unhide htx2).2]
          rw [hst]
          refine (unhide H7).di.app _ hgrow ?_
          unfold OwnEv
          rw [evC_append, List.length_append, unhide HLK]
          exact hown
        clear hown hgrow hat hlt2 HO
        go_wp2
        go_roundw
        case rel => exact ⟨k + 1, _, _, by omega, by go_num, rfl, unhide HF⟩
        case measure => simp [intOf]; omega
      · have h1' : (ek == 1) = false := by simp [h1]
        obtain ⟨Y, hY⟩ : ∃ Y, Y = w4.heap.size + 1 := ⟨_, rfl⟩
        have HG : Hid (DX w b N (e20, e21) (.slice a k c2) l Y ek en ⟨#[]⟩ (((w4.alloc (.cells #[.string e20, .int .i64 e21, .int .i64 en, .string ⟨#[]⟩] 65)).alloc (.cells #[.int .i64 ek, .int .i64 en, .string ⟨#[]⟩] 54)).setRow (b + 1) #[.string e20, .int .i64 e21])) := by
          refine ⟨(((unhide HD4).up ((Below.refl _ _).alloc (Nat.le_refl _) _)).up ((Below.refl _ _).alloc (Nat.le_refl _) _)).row e20 e21 hp2s, ?_⟩
          rw [setRow_other _ _ _ _ (by omega), hY]
          exact heap2_b w4 _ _
        have HR6 : Hid (((w4.alloc (.cells #[.string e20, .int .i64 e21, .int .i64 en, .string ⟨#[]⟩] 65)).alloc (.cells #[.int .i64 ek, .int .i64 en, .string ⟨#[]⟩] 54)).heap[b + 1]? = some (.cells #[.string p0, .int .i64 p00] 63 (0, 0))) :=
          (((unhide HD4).up ((Below.refl _ _).alloc (Nat.le_refl _) (.cells #[.string e20, .int .i64 e21, .int .i64 en, .string ⟨#[]⟩] 65))).up ((Below.refl _ _).alloc (Nat.le_refl _) (.cells #[.int .i64 ek, .int .i64 en, .string ⟨#[]⟩] 54))).r6
        have hYb : b + 2 ≤ Y := by omega
        have hYv : Value.ownBlock (.slice a k c2) ≠ some Y := fun e => by have := ((unhide HD4).own.lt Y e).2; omega
        have HYY := hide hY
        clear hY
        go_wp2_with (refine wpList_store_row_to rfl 63 (.tmp 6) (.tmp 49) rfl (b + 1) #[.string e20, .int .i64 e21] rfl rfl 63 #[.string p0, .int .i64 p00] (unhide HR6) (by kernel_rfl) rfl (by simp [Value.oneCell']) (DX w b N (e20, e21) (.slice a k c2) l Y ek en ⟨#[]⟩) (unhide HG) ?_)
        intro w5 h5
        have H5 := hide h5
        obtain ⟨cN5, cr05, cr15, fr05, fr15⟩ := h5.di.cells
        have y0 : w5.cell? ⟨Y, 0, none⟩ = some (.int .i64 ek) := by rw [cell_of_row _ _ _ _ _ _ (h5.x)]; rfl
        have y1 : w5.cell? ⟨Y, 1, none⟩ = some (.int .i64 en) := by rw [cell_of_row _ _ _ _ _ _ (h5.x)]; rfl
        have y2 : w5.cell? ⟨Y, 2, none⟩ = some (.string ⟨#[]⟩) := by rw [cell_of_row _ _ _ _ _ _ (h5.x)]; rfl
        rw [← unhide HYY]
        clear h5 HG HR6 HD4 HX4 cN cr0 cr1 fr0 fr1 x2 hltb hltX
        have HO : Hid (w5.ownsRow (b + 2) 54 3 (.slice a k c2) k (evC l)) := by
          have := (unhide H5).di.own
          unfold OwnEv at this
          rw [unhide HLK] at this
          exact this
        have hwb2 : b + 2 ≤ w5.heap.size := by
          have := lt_of_block (unhide H5).di.r6
          omega
        go_wp2_with (refine wpList_append_lies _ rfl (.tmp 60) (.tmp 62) 30 rfl (b + 2) 54 i0 (.agg #[.int .i64 0, .int .i64 0, .string ⟨#[]⟩]) 3 32 Try.undRe hi hz0 hz1 hz2 rfl (by decide) (.slice a k c2) k _ (by rfl) ((unhide HO).alloc _) ⟨w5.heap.size, 0, none⟩ 1 1 [.int .i64 ek, .int .i64 en, .string ⟨#[]⟩] (by rfl) (by rfl) (World.news_of_block (heap_alloc_new w5 _)) (Ev.one ⟨ek, en, ⟨#[]⟩⟩) (by decide) (by unfold maxLen; omega) (by omega) (by simp; omega) _ rfl ?_)
        intro g2 cap2 wz hown hgrow hat hlt2
        have HF : Hid (DI w b N (dS (r1, r2) (k + 1)).2 (.slice (some ⟨g2, 0, none⟩) (k + 1) cap2) (dS (r1, r2) (k + 1)).1 wz) := by
          have hst : dS (r1, r2) (k + 1) = (l ++ [⟨ek, en, ⟨#[]⟩⟩], (e20, e21)) := by
            show ((dS (r1, r2) k).1 ++ [(dE (dS (r1, r2) k).2).1], (dE (dS (r1, r2) k).2).2) = _
            rw [← unhide HLE, ← unhide HPE]
            unfold dE
            rw [← (unhide hek2).1, ← (unhide hek2).2, ← (unhide hen2).1, ← (unhide hen2).2]
            rw [if_neg h1]
          rw [hst]
          refine (unhide H5).di.app _ hgrow ?_
          unfold OwnEv
          rw [evC_append, List.length_append, unhide HLK]
          exact hown
        clear hown hgrow hat hlt2 HO
        go_wp2
        go_roundw
        case rel => exact ⟨k + 1, _, _, by omega, by go_num, rfl, unhide HF⟩
        case measure => simp [intOf]; omega
    · have hkM : k = M := by omega
      subst hkM
      have hexit : ¬ (k : Int) < N ∨ ((k : Int) < N ∧ ¬ (k : Int) ≤ 500) := by have := unhide HM; omega
      obtain ⟨a9, c9, hv9, hev, _⟩ := (unhide HD).own.evs
      rw [unhide HLK] at hv9
      simp only [Value.slice.injEq, true_and] at hv9
      obtain ⟨rfl, rfl⟩ := hv9
      have HEV := hide hev
      have HBE := hide (unhide HD).be
      have hkey : Hid (∀ m, unp s = some m → l = m ∧ p = (bs [], 0)) := fun m hm => by
        obtain ⟨h1, h2, h3⟩ := read_all s m hm
        rw [← unhide HS4] at h1
        have hN : N = (m.length : Int) := by rw [unhide HNN, h1]
        have hR : (r1, r2) = (bs (m.flatMap encE), (0 : Int)) := by rw [unhide HR0, h1]
        have hkl : k = m.length := by have := unhide HM; omega
        have h4 := dS_ok m h3 m.length (Nat.le_refl _)
        rw [unhide HLE, unhide HPE, hR, hkl, h4]
        simp
      have HNO : Hid (unp s = none → 3 = unE s ∧ ∀ W, Below w.heap.size w W → DR w s (.slice none 0 0) W) := fun h => ⟨(dr_none h (Below.refl w.heap.size w)).1, fun W hW => (dr_none h hW).2⟩
      clear hev
      cases hun : unp s with
      | some m =>
        obtain ⟨rfl, rfl⟩ := unhide hkey m hun
        obtain ⟨hc, hsb⟩ := unp_inv s l hun
        have hpk := rpack_any a l c2 wr (unhide HEV) hc
        rw [← hsb, bs_of, unhide HLK] at hpk
        have HPK := hide hpk
        have HE0 : Hid (0 = unE s) := by
          show _ = _
          unfold unE
          rw [hun]
        have HRR : Hid (∀ W, Below wr.heap.size wr W → DR w s (.slice a k c2) W) := fun W hW => by
          refine ⟨?_, (unhide HBE).trans (hW.mono (unhide HBE).size)⟩
          rw [hun, Option.getD_some]
          have h1 := ownEv_keep (unhide HD).own (fun j hj => hW.block j ((unhide HD).own.lt j hj).2)
          exact ⟨h1.1, h1.2.imp id fun ⟨g, cap, cur, e1, e2, e3⟩ => ⟨g, cap, cur, e1, by have := (unhide HD).wb; omega, e3⟩⟩
        have hend := hide (fun w => qend_any (bs [], 0) w)
        have hae : atEnd (bs [], 0) = 0 := rfl
        rw [hae] at hend
        unfold vV at hend
        dsimp only at hend
        generalize bs [] = E0 at *
        clear hun hc hsb hpk hkey HNO hae HEV
        rcases hexit with hx | ⟨hx, hx2⟩
        · go_wp2_with fail
          refine (unhide HPK).mono ?_
          rintro e wp ⟨rfl, bp⟩
          have HBp := hide bp
          have hc1 := cell_below cr0 bp
          have hc2 := cell_below cr1 bp
          clear bp HPK
          go_wp2_with fail
          refine (unhide hend wp).mono ?_
          rintro e wq ⟨rfl, bq⟩
          have HR9 := hide (unhide HRR wq ((unhide HBp).trans (bq.mono (unhide HBp).size)))
          clear bq
          go_wp2
          go_ret2
          exact ⟨.slice a k c2, by rw [← unhide HE0]; rfl, unhide HR9⟩
        · go_wp2_with fail
          refine (unhide HPK).mono ?_
          rintro e wp ⟨rfl, bp⟩
          have HBp := hide bp
          have hc1 := cell_below cr0 bp
          have hc2 := cell_below cr1 bp
          clear bp HPK
          go_wp2_with fail
          refine (unhide hend wp).mono ?_
          rintro e wq ⟨rfl, bq⟩
          have HR9 := hide (unhide HRR wq ((unhide HBp).trans (bq.mono (unhide HBp).size)))
          clear bq
          go_wp2
          go_ret2
          exact ⟨.slice a k c2, by rw [← unhide HE0]; rfl, unhide HR9⟩
      | none =>
        obtain ⟨u1, u2⟩ := unhide HNO hun
        have HE3 := hide u1
        have HRR := hide u2
        cases hc : chkB l with
        | false =>
          have hpk := rpack_bad a l c2 wr (unhide HEV) (by rw [unhide HLK]; omega) hc
          rw [unhide HLK] at hpk
          have HPK := hide hpk
          clear hun u1 u2 hc hpk hkey HNO HEV
          rcases hexit with hx | ⟨hx, hx2⟩
          · go_wp2_with fail
            refine (unhide HPK).mono ?_
            rintro e wp ⟨rfl, bp⟩
            have HR9 := hide (unhide HRR wp ((unhide HBE).trans (bp.mono (unhide HBE).size)))
            clear bp HPK
            go_wp2
            go_ret2
            exact ⟨.slice none 0 0, by rw [← unhide HE3]; rfl, unhide HR9⟩
          · go_wp2_with fail
            refine (unhide HPK).mono ?_
            rintro e wp ⟨rfl, bp⟩
            have HR9 := hide (unhide HRR wp ((unhide HBE).trans (bp.mono (unhide HBE).size)))
            clear bp HPK
            go_wp2
            go_ret2
            exact ⟨.slice none 0 0, by rw [← unhide HE3]; rfl, unhide HR9⟩
        | true =>
          have hpk := rpack_any a l c2 wr (unhide HEV) hc
          obtain ⟨T, hT⟩ : ∃ T, T = bs (hd l.length ++ l.flatMap encE) := ⟨_, rfl⟩
          rw [← hT, unhide HLK] at hpk
          have hne : T ≠ s := fun e => by
            have h5 : l.length ≤ 500 := by
              have h := hc
              unfold chkB at h
              rw [Bool.and_eq_true] at h
              exact of_decide_eq_true h.1
            have := unp_pk l hc h5
            rw [← hT, e, hun] at this
            cases this
          have hne2 : (T.toList == s.toList) = false := by
            rw [ByteArray.toList_eq, ByteArray.toList_eq]
            simp only [beq_eq_false_iff_ne, ne_eq]
            intro e
            exact hne (ByteArray.ext (Array.ext' e))
          have HPK := hide hpk
          clear hun u1 u2 hc hpk hkey HNO HEV hT hne
          rcases hexit with hx | ⟨hx, hx2⟩
          · go_wp2_with fail
            refine (unhide HPK).mono ?_
            rintro e wp ⟨rfl, bp⟩
            have HR9 := hide (unhide HRR wp ((unhide HBE).trans (bp.mono (unhide HBE).size)))
            clear bp HPK
            go_wp2
            go_ret2
            exact ⟨.slice none 0 0, by rw [← unhide HE3]; rfl, unhide HR9⟩
          · go_wp2_with fail
            refine (unhide HPK).mono ?_
            rintro e wp ⟨rfl, bp⟩
            have HR9 := hide (unhide HRR wp ((unhide HBE).trans (bp.mono (unhide HBE).size)))
            clear bp HPK
            go_wp2
            go_ret2
            exact ⟨.slice none 0 0, by rw [← unhide HE3]; rfl, unhide HR9⟩
theorem runpack_any (s : ByteArray) (w : World) (hs : s.size ≤ 10000) :
    Calls Try.prog 12 #[.string s] w fun e w' => ∃ v, e = .returned (.tuple #[v, .int .i64 (unE s)]) ∧ DR w s v w' := by
  by_cases h6 : (s.size : Int) < 6
  · exact runpack_short s w hs h6
  · cases hh : ((s.extract 0 4).toList == [116, 114, 99, 49]) with
    | false => exact runpack_head s w hs h6 hh
    | true => exact runpack_main s w hs h6 hh
end Go.Proofs.Ythgijdhifhnmfaa

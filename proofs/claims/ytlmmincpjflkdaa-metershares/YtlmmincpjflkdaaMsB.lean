/- meter: the document's share with another queue. -/
import Derived.Test.YtlmmincpjflkdaaMsA
namespace Go.Proofs.Ytlmmincpjflkdaa
open Go.RowKit
set_option linter.unusedVariables false
attribute [local go_sem] Oper.semAt_some

theorem Try.infoQd : (Try.prog.info? 45).map (fun i => (i.zero, i.size, i.bytes)) = some (some (.agg #[.int .i64 0, .int .i64 0, .int .i64 0, .slice none 0 0]), 4, 48) := by kernel_rfl
theorem Try.undQd : Try.prog.underlying 26 = some (.slice 45) := by kernel_rfl
/-- a round of with -/
def wput (q : Dr) (s : List Dr × Bool) (x : Dr) : List Dr × Bool := if (!s.2 && decide (q.p ≤ x.p)) = true then (s.1 ++ [q], true) else s
def wst (q : Dr) (s : List Dr × Bool) (x : Dr) : List Dr × Bool := if (wput q s x, x.p).2 = q.p then wput q s x else ((wput q s x).1 ++ [x], (wput q s x).2)
def wS (D : List Dr) (q : Dr) (i : Nat) : List Dr × Bool := (D.take i).foldl (wst q) ([], false)
def withD (D : List Dr) (q : Dr) : List Dr := if (wS D q D.length).2 = true then (wS D q D.length).1 else (wS D q D.length).1 ++ [q]
theorem wS_succ {D : List Dr} {q x : Dr} {i : Nat} (h : D[i]? = some x) : wS D q (i + 1) = wst q (wS D q i) x := by
  obtain ⟨h1, rfl⟩ := List.getElem?_eq_some_iff.1 h
  unfold wS
  rw [List.take_succ_eq_append_getElem h1, List.foldl_append]
  rfl
theorem wput_t {q x : Dr} {s : List Dr × Bool} (h : s.2 = true) : wput q s x = s := if_neg (by simp [h])
theorem wput_y {q x : Dr} {s : List Dr × Bool} (h : s.2 = false) (hx : q.p ≤ x.p) : wput q s x = (s.1 ++ [q], true) := if_pos (by simp [h, hx])
theorem wput_n {q x : Dr} {s : List Dr × Bool} (h : s.2 = false) (hx : ¬ q.p ≤ x.p) : wput q s x = s := if_neg (by simp [h, hx])
theorem wst_e {q x : Dr} {s : List Dr × Bool} (h : x.p = q.p) : wst q s x = wput q s x := if_pos h
theorem wst_n {q x : Dr} {s : List Dr × Bool} (h : ¬ x.p = q.p) : wst q s x = ((wput q s x).1 ++ [x], (wput q s x).2) := if_neg h
theorem wput_len (q x : Dr) (s : List Dr × Bool) : (wput q s x).1.length + (if (wput q s x).2 = true then 0 else 1) ≤ s.1.length + (if s.2 = true then 0 else 1) := by
  obtain ⟨l, b⟩ := s
  cases b
  · by_cases h : q.p ≤ x.p
    · rw [wput_y rfl h]; simp
    · rw [wput_n rfl h]; exact Nat.le_refl _
  · rw [wput_t rfl]; exact Nat.le_refl _
theorem wst_len (q x : Dr) (s : List Dr × Bool) : (wst q s x).1.length + (if (wst q s x).2 = true then 0 else 1) ≤ (wput q s x).1.length + (if (wput q s x).2 = true then 0 else 1) + 1 := by
  by_cases h : x.p = q.p
  · rw [wst_e h]; omega
  · rw [wst_n h]; simp; omega
theorem withD_t {D : List Dr} {q : Dr} (h : (wS D q D.length).2 = true) : withD D q = (wS D q D.length).1 := if_pos h
theorem withD_f {D : List Dr} {q : Dr} (h : (wS D q D.length).2 = false) : withD D q = (wS D q D.length).1 ++ [q] := if_neg (by simp [h])
theorem wS_len (D : List Dr) (q : Dr) : ∀ i, i ≤ D.length → (wS D q i).1.length + (if (wS D q i).2 = true then 0 else 1) ≤ i + 1
  | 0, _ => by simp [wS]
  | i + 1, h => by
    have ih := wS_len D q i (by omega)
    obtain ⟨x, hx⟩ : ∃ x, D[i]? = some x := ⟨_, List.getElem?_eq_getElem (by omega)⟩
    rw [wS_succ hx]
    have h1 := wput_len q x (wS D q i)
    have h2 := wst_len q x (wS D q i)
    omega
theorem wst_ok {W : World} {q x : Dr} {s : List Dr × Bool} (hq : VOk W q) (hx : VOk W x) (hs : ∀ y ∈ s.1, VOk W y) : ∀ y ∈ (wst q s x).1, VOk W y := by
  have h1 : ∀ y ∈ (wput q s x).1, VOk W y := by
    unfold wput
    split
    · intro y hy
      rcases List.mem_append.1 hy with h | h
      · exact hs y h
      · obtain rfl := List.mem_singleton.1 h
        exact hq
    · exact hs
  unfold wst
  split
  · exact h1
  · intro y hy
    rcases List.mem_append.1 hy with h | h
    · exact h1 y h
    · obtain rfl := List.mem_singleton.1 h
      exact hx
theorem wS_ok {W : World} {D : List Dr} {q : Dr} (hq : VOk W q) (hD : ∀ x ∈ D, VOk W x) : ∀ i, i ≤ D.length → ∀ y ∈ (wS D q i).1, VOk W y
  | 0, _ => by simp [wS]
  | i + 1, h => by
    obtain ⟨x, hx⟩ : ∃ x, D[i]? = some x := ⟨_, List.getElem?_eq_getElem (by omega)⟩
    rw [wS_succ hx]
    exact wst_ok hq (hD x (List.mem_of_getElem? hx)) (wS_ok hq hD i (by omega))
theorem withD_ok {W : World} {D : List Dr} {q : Dr} (hq : VOk W q) (hD : ∀ x ∈ D, VOk W x) : ∀ y ∈ withD D q, VOk W y := by
  have h := wS_ok hq hD D.length (Nat.le_refl _)
  unfold withD
  split
  · exact h
  · intro y hy
    rcases List.mem_append.1 hy with h1 | h1
    · exact h y h1
    · obtain rfl := List.mem_singleton.1 h1
      exact hq
theorem withD_len (D : List Dr) (q : Dr) : (withD D q).length ≤ D.length + 1 := by
  have h := wS_len D q D.length (Nat.le_refl _)
  unfold withD
  split
  · rename_i h1
    rw [if_pos h1] at h
    omega
  · rename_i h1
    rw [if_neg h1] at h
    rw [List.length_append, List.length_singleton]
    omega
set_option maxRecDepth 100000 in
set_option maxHeartbeats 16000000 in
theorem dwith_any (Q : Int) (q : Dr) (a0 : Option Addr) (D : List Dr) (c : Nat) (w : World) (hA : DrsAt w a0 D) (hq : VOk w q) (hl : D.length ≤ 1000) :
    Calls Try.prog 17 #[shV Q a0 D.length c, .agg q.cl.toArray] w fun e w' => ∃ a c', e = .returned (shV Q a (withD D q).length c') ∧ DrsAt w' a (withD D q) ∧ Below w.heap.size w w' := by
  obtain ⟨i0, hi, hz0, hz1, hz2⟩ := info_parts Try.infoQd
  have HF : Hid (∀ (w' : World) (v : Value), Below w.heap.size w w' → OwnDr w' w.heap.size v (withD D q) → ∃ a c', v = .slice a (withD D q).length c' ∧ DrsAt w' a (withD D q)) := fun w' v hb ho => by
    obtain ⟨a, c', h1, h2, _⟩ := ho.drs (withD_ok (hq.up hb) (fun x hx => (hA.ok x hx).up hb))
    exact ⟨a, c', h1, h2⟩
  have HS : Hid (∀ i x, D[i]? = some x → wS D q (i + 1) = wst q (wS D q i) x) := fun i x h => wS_succ h
  have HL : Hid (∀ i, i ≤ D.length → (wS D q i).1.length + (if (wS D q i).2 = true then 0 else 1) ≤ i + 1) := fun i h => wS_len D q i h
  have H00 : Hid (wS D q 0 = ([], false)) := rfl
  have HWD : Hid (((wS D q D.length).2 = true → withD D q = (wS D q D.length).1) ∧ ((wS D q D.length).2 = false → withD D q = (wS D q D.length).1 ++ [q])) := ⟨withD_t, withD_f⟩
  obtain ⟨RR, hRR⟩ : ∃ R, R = withD D q := ⟨_, rfl⟩
  rw [← hRR] at HF HWD ⊢
  clear hRR
  obtain ⟨sS, hsS⟩ : ∃ s, s = wS D q := ⟨_, rfl⟩
  rw [← hsS] at HS HL H00 HWD
  clear hsS
  obtain ⟨n, hn⟩ : ∃ n, n = D.length := ⟨_, rfl⟩
  rw [← hn] at HL HWD hl ⊢
  have HN := hide hn
  have HWST : Hid (∀ s x, (x.p = q.p → wst q s x = wput q s x) ∧ (¬ x.p = q.p → wst q s x = ((wput q s x).1 ++ [x], (wput q s x).2))) := fun s x => ⟨wst_e, wst_n⟩
  have HWPU : Hid (∀ s x, (s.2 = true → wput q s x = s) ∧ (s.2 = false → q.p ≤ x.p → wput q s x = (s.1 ++ [q], true)) ∧ (s.2 = false → ¬ q.p ≤ x.p → wput q s x = s)) := fun s x => ⟨wput_t, wput_y, wput_n⟩
  have HQC : Hid (drC [q] = q.cl) := by show _ = _; simp [drC]
  obtain ⟨W0, hW0⟩ : ∃ W0, W0 = ((w.alloc (.cells #[.int .i64 Q, .slice a0 n c] 28)).alloc (.cells q.cl.toArray 45)).alloc (.cells #[.int .i64 0, .slice none 0 0] 28) := ⟨_, rfl⟩
  have e1 : (w.alloc (.cells #[.int .i64 Q, .slice a0 n c] 28)).heap.size = w.heap.size + 1 := by simp
  have e2 : ((w.alloc (.cells #[.int .i64 Q, .slice a0 n c] 28)).alloc (.cells q.cl.toArray 45)).heap.size = w.heap.size + 2 := by simp
  have B0 : Hid (Below w.heap.size w W0) := by show Below _ _ _; rw [hW0]; exact (((Below.refl _ _).alloc (Nat.le_refl _) _).alloc (by simp) _).alloc (by simp; omega) _
  have H0 : Hid (∀ W, Below W0.heap.size W0 W → W.heap[w.heap.size]? = some (.cells #[.int .i64 Q, .slice a0 n c] 28 (0, 0))) := fun W hW => by
    have h : W0.heap[w.heap.size]? = some (.cells #[.int .i64 Q, .slice a0 n c] 28 (0, 0)) := by
      rw [hW0, Below.heap_alloc _ _ _ (by simp; omega), Below.heap_alloc _ _ _ (by simp)]
      exact heap_alloc_new _ _
    exact (hW.block _ (lt_of_block h)).trans h
  have H1 : Hid (∀ W, Below W0.heap.size W0 W → W.heap[w.heap.size + 1]? = some (.cells q.cl.toArray 45 (0, 0))) := fun W hW => by
    have h : W0.heap[w.heap.size + 1]? = some (.cells q.cl.toArray 45 (0, 0)) := by
      rw [hW0, Below.heap_alloc _ _ _ (by simp)]
      have := heap_alloc_new (w.alloc (.cells #[.int .i64 Q, .slice a0 n c] 28)) (.cells q.cl.toArray 45)
      rwa [e1] at this
    exact (hW.block _ (lt_of_block h)).trans h
  have H2 : Hid (∀ W, Below W0.heap.size W0 W → W.heap[w.heap.size + 2]? = some (.cells #[.int .i64 0, .slice none 0 0] 28 (0, 0))) := fun W hW => by
    have h : W0.heap[w.heap.size + 2]? = some (.cells #[.int .i64 0, .slice none 0 0] 28 (0, 0)) := by
      rw [hW0]
      have := heap_alloc_new ((w.alloc (.cells #[.int .i64 Q, .slice a0 n c] 28)).alloc (.cells q.cl.toArray 45)) (.cells #[.int .i64 0, .slice none 0 0] 28)
      rwa [e2] at this
    exact (hW.block _ (lt_of_block h)).trans h
  have HS0 : Hid (W0.heap.size = w.heap.size + 3) := by show _ = _; rw [hW0]; simp
  have HA := hide (hA.up (unhide B0))
  have HW := hide hW0
  clear hA hq hn hW0 e1 e2
  obtain ⟨qp, qw, qc, ql, qa, qk⟩ := q
  unfold Dr.cl at HW H1 HQC ⊢
  dsimp only at HW H1 HQC HWST HWPU ⊢
  obtain ⟨qz, hqz⟩ : ∃ z, z = ql.length := ⟨_, rfl⟩
  rw [← hqz] at HW H1 HQC ⊢
  obtain ⟨qd, hqd⟩ : ∃ x : Dr, x = ⟨qp, qw, qc, ql, qa, qk⟩ := ⟨_, rfl⟩
  rw [← hqd] at HWST HWPU HQC HS HWD
  clear hqz hqd
  obtain ⟨⟨u0, u1⟩, -, ul⟩ := row2 (unhide H0 W0 (Below.refl _ _))
  go_enter Try.func17, Try.ntmps17
  go_wp2_with fail
  rw [← unhide HW]
  clear HW u0 u1 ul
  go_loopw [5, 6, 7] (fun lv pv iv wr => ∃ (i m : Nat) (a : Option Addr) (cc : Nat), i ≤ n ∧ iv = .int .i64 i ∧ pv = .bool (sS i).2 ∧ lv = .slice a m cc ∧ (sS i).1.length = m ∧ OwnDr wr W0.heap.size lv (sS i).1 ∧ Below W0.heap.size W0 wr) (fun _ _ iv _ => n - (intOf iv).toNat)
  case atStart => exact ⟨0, 0, none, 0, by omega, rfl, by rw [unhide H00], rfl, by rw [unhide H00]; rfl, by rw [unhide H00]; exact World.ownsRow_nil _ _ _ _, Below.refl _ _⟩
  case round =>
    obtain ⟨i, m, a, cc, hin, rfl, rfl, rfl, hm, hO, hB⟩ := hrel
    have hli := unhide HL i hin
    rw [hm] at hli
    have hmb : m ≤ 1001 := by split at hli <;> omega
    have HM := hide hm
    have HO := hide hO
    have HB := hide hB
    clear hO hB hm hli
    obtain ⟨⟨u0, u1⟩, -, ul⟩ := row2 (unhide H0 wr (unhide HB))
    by_cases hlt : i < n
    · have q1 : (i : Int) < n := by omega
      obtain ⟨x, hx⟩ : ∃ x, D[i]? = some x := ⟨_, List.getElem?_eq_getElem (by have := unhide HN; omega)⟩
      obtain ⟨⟨g, o, rfl, hgl, hra⟩, hvo⟩ := ((unhide HA).up (unhide HB)) i x hx
      have HX := hide (unhide HS i x hx)
      have HWP := hide (unhide HWPU (sS i) x)
      have HWT := hide (unhide HWST (sS i) x)
      have HXC : Hid (drC [x] = x.cl) := by show _ = _; simp [drC]
      obtain ⟨S1, hS1⟩ : ∃ S, S = sS (i + 1) := ⟨_, rfl⟩
      rw [← hS1] at HX
      have HS1 := hide hS1
      generalize wput qd (sS i) x = P1 at *
      generalize wst qd (sS i) x = T1 at *
      generalize sS i = S0 at *
      obtain ⟨l0, b0⟩ := S0
      dsimp only at HO HM HWP
      have hmm := unhide HM
      have hc0 : wr.cell? ⟨g, o + i * 4, none⟩ = some (.int .i64 x.p) := hra 0 _ rfl
      have hwr := (unhide HB).size
      have hrv := hra
      unfold Dr.cl at hrv
      have HRA : Hid (∀ W, Below wr.heap.size wr W → W.rangeAt g (o + i * 4) [.int .i64 x.p, .int .i64 x.w, .int .i64 x.c, .slice x.a x.l.length x.k]) := fun W hW j v hv => cell_below (hrv j v hv) hW
      unfold Dr.cl at HXC
      have HXI := hide hx
      clear hx hra hvo hS1 hrv
      generalize x.p = xp at *
      generalize x.w = xw at *
      generalize x.c = xc at *
      generalize x.a = xa at *
      generalize x.k = xk at *
      generalize x.l.length = xz at *
      have HC0 := hide hc0
      clear hc0
      have HGL : Hid (g < W0.heap.size) := by obtain ⟨⟨g', o', e, h, _⟩, _⟩ := (unhide HA) i x (unhide HXI); cases e; exact h
      have HBwr := HB
      have HCwr := HC0
      have HOwr := HO
      have HRwr := HRA
      have HMl0 := HM
      clear HB HC0 HO HRA HM
      cases b0 with
      | true =>
        have HPE : Hid (P1 = (l0, true)) := (unhide HWP).1 rfl
        clear HWP
        go_wp2_with fail
        refine wp_region_grB (by kernel_rfl) (by kernel_rfl) ?_
        have hneX := gb_ne wr
        have f1 : ∀ y : Gb wr, y.w.cell? ⟨w.heap.size, 1, none⟩ = some (.slice (some ⟨g, o, none⟩) n c) := fun y => gb_cell (row2 (unhide H0 wr (unhide HBwr))).1.2 y
        have f2 : ∀ y : Gb wr, y.w.cell? ⟨w.heap.size + 1, 0, none⟩ = some (.int .i64 qp) := fun y => gb_cell (row4 (unhide H1 wr (unhide HBwr))).1.1 y
        have f3 : ∀ y : Gb wr, y.w.cell? ⟨g, o + i * 4, none⟩ = some (.int .i64 xp) := fun y => gb_cell (unhide HCwr) y
        repeat (go_big_quiet_step (fail))
        refine wpQuiet_nil ?_
        rintro w4 ⟨⟨_, b9⟩, rfl⟩
        have HBw4 := hide ((unhide HBwr).trans (b9.mono (unhide HBwr).size))
        have HCw4 := hide (cell_below (unhide HCwr) b9)
        have HOw4 := hide (ownDr_up (unhide HOwr) b9)
        have HRw4 : Hid (∀ W, Below w4.heap.size w4 W → W.rangeAt g (o + i * 4) [.int .i64 xp, .int .i64 xw, .int .i64 xc, .slice xa xz xk]) := fun W hW => unhide HRwr W (b9.trans (hW.mono b9.size))
        clear b9 hneX f1 f2 f3
        clear u0 u1 ul
        by_cases heq : xp = qp
        · have he3 : (xp == qp) = true := by simpa using heq
          have HTE : Hid (T1 = (l0, true)) := ((unhide HWT).1 heq).trans (unhide HPE)
          have HSE : Hid (S1 = (l0, true)) := (unhide HX).trans (unhide HTE)
          clear HWT HX HTE
          go_wp2_with fail
          refine wp_region_grB (by kernel_rfl) (by kernel_rfl) ?_
          have hneX := gb_ne w4
          have f1 : ∀ y : Gb w4, y.w.cell? ⟨w.heap.size, 1, none⟩ = some (.slice (some ⟨g, o, none⟩) n c) := fun y => gb_cell (row2 (unhide H0 w4 (unhide HBw4))).1.2 y
          have f2 : ∀ y : Gb w4, y.w.cell? ⟨w.heap.size + 1, 0, none⟩ = some (.int .i64 qp) := fun y => gb_cell (row4 (unhide H1 w4 (unhide HBw4))).1.1 y
          have f3 : ∀ y : Gb w4, y.w.cell? ⟨g, o + i * 4, none⟩ = some (.int .i64 xp) := fun y => gb_cell (unhide HCw4) y
          repeat (go_big_quiet_step (fail))
          refine wpQuiet_nil ?_
          rintro w6 ⟨⟨_, b9⟩, rfl⟩
          have HBw6 := hide ((unhide HBw4).trans (b9.mono (unhide HBw4).size))
          have HCw6 := hide (cell_below (unhide HCw4) b9)
          have HOw6 := hide (ownDr_up (unhide HOw4) b9)
          have HRw6 : Hid (∀ W, Below w6.heap.size w6 W → W.rangeAt g (o + i * 4) [.int .i64 xp, .int .i64 xw, .int .i64 xc, .slice xa xz xk]) := fun W hW => unhide HRw4 W (b9.trans (hW.mono b9.size))
          clear b9 hneX f1 f2 f3
          go_wp2
          go_roundw
          case rel => exact ⟨i + 1, _, _, _, by omega, by go_num, by rw [← unhide HS1, unhide HSE], rfl, by rw [← unhide HS1, unhide HSE]; exact unhide HMl0, by rw [← unhide HS1, unhide HSE]; exact unhide HOw6, unhide HBw6⟩
          case measure => simp [intOf]; omega
        · have he2 : (xp == qp) = false := by simpa using heq
          obtain ⟨L9, hL9⟩ : ∃ L, L = l0 ++ [x] := ⟨_, rfl⟩
          have HL9 := hide hL9
          have HTE : Hid (T1 = (L9, true)) := ((unhide HWT).2 heq).trans (by rw [unhide HPE, hL9])
          have HSE : Hid (S1 = (L9, true)) := (unhide HX).trans (unhide HTE)
          clear HWT HX HTE hL9
          go_wp2_with fail
          refine wp_region_grB (by kernel_rfl) (by kernel_rfl) ?_
          have hneX := gb_ne w4
          have f1 : ∀ y : Gb w4, y.w.cell? ⟨w.heap.size, 1, none⟩ = some (.slice (some ⟨g, o, none⟩) n c) := fun y => gb_cell (row2 (unhide H0 w4 (unhide HBw4))).1.2 y
          have f2 : ∀ y : Gb w4, y.w.cell? ⟨w.heap.size + 1, 0, none⟩ = some (.int .i64 qp) := fun y => gb_cell (row4 (unhide H1 w4 (unhide HBw4))).1.1 y
          have f3 : ∀ y : Gb w4, y.w.cell? ⟨g, o + i * 4, none⟩ = some (.int .i64 xp) := fun y => gb_cell (unhide HCw4) y
          repeat (go_big_quiet_step (fail))
          refine wpQuiet_nil ?_
          rintro w6 ⟨⟨_, b9⟩, rfl⟩
          have HBw6 := hide ((unhide HBw4).trans (b9.mono (unhide HBw4).size))
          have HCw6 := hide (cell_below (unhide HCw4) b9)
          have HOw6 := hide (ownDr_up (unhide HOw4) b9)
          have HRw6 : Hid (∀ W, Below w6.heap.size w6 W → W.rangeAt g (o + i * 4) [.int .i64 xp, .int .i64 xw, .int .i64 xc, .slice xa xz xk]) := fun W hW => unhide HRw4 W (b9.trans (hW.mono b9.size))
          clear b9 hneX f1 f2 f3
          have HPw6 : Hid (∀ o1, (w6.alloc o1).ownsRow W0.heap.size 45 4 (.slice a m cc) m (drC l0)) := fun o1 => by
            have h1 := ownDr_up (unhide HOw6) ((Below.refl w6.heap.size w6).alloc (Nat.le_refl _) o1)
            unfold OwnDr at h1
            rw [unhide HMl0] at h1
            exact h1
          have HGw6 := hide (fun z (hz : (Value.slice a m cc).ownBlock = some z) => ownDr_ge (unhide HOw6) hz)
          have HNWw6 := hide (news_lit w6 [.int .i64 xp, .int .i64 xw, .int .i64 xc, .slice xa xz xk] 45)
          have hw0w6 := (unhide HBw6).size
          obtain ⟨⟨u0, u1⟩, -, ul⟩ := row2 (unhide H0 w6 (unhide HBw6))
          go_wp2_with (first | (refine wpList_load_mid rfl 45 (.tmp 45) rfl g (o + i * 4) rfl [.int .i64 xp, .int .i64 xw, .int .i64 xc, .slice xa xz xk] _ (unhide HRw6 w6 (Below.refl _ _)) Try.underlying45 rfl (by kernel_rfl) ?_) | (refine wpList_append_lies _ rfl (.tmp 41) (.tmp 47) 26 rfl W0.heap.size 45 i0 (.agg #[.int .i64 0, .int .i64 0, .int .i64 0, .slice none 0 0]) 4 48 Try.undQd hi hz0 hz1 hz2 rfl (by decide) (.slice a m cc) m _ (by rfl) (unhide HPw6 _) ⟨w6.heap.size, 0, none⟩ 1 1 [.int .i64 xp, .int .i64 xw, .int .i64 xc, .slice xa xz xk] (by rfl) (by rfl) (unhide HNWw6) (by intro u hu; simp at hu; rcases hu with rfl | rfl | rfl | rfl <;> rfl) (by decide) (by unfold maxLen; omega) (by omega) (by simp; omega) (w6.heap.size + 1) (by simp) ?_))
          intro gw7 capw7 w7 hown hgrow hat hlt2
          have HOw7 : Hid (OwnDr w7 W0.heap.size (.slice (some ⟨gw7, 0, none⟩) (m + 1) capw7) L9) := by
            show OwnDr _ _ _ _
            rw [unhide HL9]
            unfold OwnDr
            rw [drC_app, List.length_append, unhide HMl0, unhide HXC]
            exact hown
          have hbx : Below W0.heap.size w6 w7 := ((Below.refl W0.heap.size w6).alloc (by omega) (.cells [.int .i64 xp, .int .i64 xw, .int .i64 xc, .slice xa xz xk].toArray 45)).grown hgrow (by simp; omega) (fun z hz => unhide HGw6 z hz)
          have HBw7 := hide ((unhide HBw6).trans hbx)
          have HML9 : Hid (L9.length = m + 1) := by show _ = _; rw [unhide HL9, List.length_append, unhide HMl0]; rfl
          have HCw7 : Hid (w7.cell? ⟨g, o + i * 4, none⟩ = some (.int .i64 xp)) := (hbx.cell (p := ⟨g, o + i * 4, none⟩) (unhide HGL)).trans (unhide HCw6)
          have HRw7 : Hid (∀ W, Below w7.heap.size w7 W → W.rangeAt g (o + i * 4) [.int .i64 xp, .int .i64 xw, .int .i64 xc, .slice xa xz xk]) := fun W hW j v hv => cell_below ((hbx.cell (p := ⟨g, o + i * 4 + j, none⟩) (unhide HGL)).trans (unhide HRw6 w6 (Below.refl _ _) j v hv)) hW
          clear u0 u1 ul
          clear hown hgrow hat hlt2 hbx HPw6 HGw6 HNWw6 hw0w6
          go_wp2
          go_roundw
          case rel => exact ⟨i + 1, _, _, _, by omega, by go_num, by rw [← unhide HS1, unhide HSE], rfl, by rw [← unhide HS1, unhide HSE]; exact unhide HML9, by rw [← unhide HS1, unhide HSE]; exact unhide HOw7, unhide HBw7⟩
          case measure => simp [intOf]; omega
      | false =>
        by_cases hle : qp ≤ xp
        · have hle2 : decide (qp ≤ xp) = true := decide_eq_true hle
          obtain ⟨L5, hL5⟩ : ∃ L, L = l0 ++ [qd] := ⟨_, rfl⟩
          have HL5 := hide hL5
          have HPE : Hid (P1 = (L5, true)) := ((unhide HWP).2.1 rfl hle).trans (by rw [hL5])
          clear HWP hL5
          go_wp2_with fail
          refine wp_region_grB (by kernel_rfl) (by kernel_rfl) ?_
          have hneX := gb_ne wr
          have f1 : ∀ y : Gb wr, y.w.cell? ⟨w.heap.size, 1, none⟩ = some (.slice (some ⟨g, o, none⟩) n c) := fun y => gb_cell (row2 (unhide H0 wr (unhide HBwr))).1.2 y
          have f2 : ∀ y : Gb wr, y.w.cell? ⟨w.heap.size + 1, 0, none⟩ = some (.int .i64 qp) := fun y => gb_cell (row4 (unhide H1 wr (unhide HBwr))).1.1 y
          have f3 : ∀ y : Gb wr, y.w.cell? ⟨g, o + i * 4, none⟩ = some (.int .i64 xp) := fun y => gb_cell (unhide HCwr) y
          repeat (go_big_quiet_step (fail))
          refine wpQuiet_nil ?_
          rintro w4 ⟨⟨_, b9⟩, rfl⟩
          have HBw4 := hide ((unhide HBwr).trans (b9.mono (unhide HBwr).size))
          have HCw4 := hide (cell_below (unhide HCwr) b9)
          have HOw4 := hide (ownDr_up (unhide HOwr) b9)
          have HRw4 : Hid (∀ W, Below w4.heap.size w4 W → W.rangeAt g (o + i * 4) [.int .i64 xp, .int .i64 xw, .int .i64 xc, .slice xa xz xk]) := fun W hW => unhide HRwr W (b9.trans (hW.mono b9.size))
          clear b9 hneX f1 f2 f3
          clear u0 u1 ul
          have HPw4 : Hid (∀ o1, (w4.alloc o1).ownsRow W0.heap.size 45 4 (.slice a m cc) m (drC l0)) := fun o1 => by
            have h1 := ownDr_up (unhide HOw4) ((Below.refl w4.heap.size w4).alloc (Nat.le_refl _) o1)
            unfold OwnDr at h1
            rw [unhide HMl0] at h1
            exact h1
          have HGw4 := hide (fun z (hz : (Value.slice a m cc).ownBlock = some z) => ownDr_ge (unhide HOw4) hz)
          have HNWw4 := hide (news_lit w4 [.int .i64 qp, .int .i64 qw, .int .i64 qc, .slice qa qz qk] 45)
          have hw0w4 := (unhide HBw4).size
          go_wp2_with (first | (refine wpList_load_row rfl 45 (.tmp 3) rfl (w.heap.size + 1) rfl 45 _ (0, 0) _ (unhide H1 w4 (unhide HBw4)) Try.underlying45 rfl (by kernel_rfl) ?_) | (refine wpList_append_lies _ rfl (.tmp 28) (.tmp 30) 26 rfl W0.heap.size 45 i0 (.agg #[.int .i64 0, .int .i64 0, .int .i64 0, .slice none 0 0]) 4 48 Try.undQd hi hz0 hz1 hz2 rfl (by decide) (.slice a m cc) m _ (by rfl) (unhide HPw4 _) ⟨w4.heap.size, 0, none⟩ 1 1 [.int .i64 qp, .int .i64 qw, .int .i64 qc, .slice qa qz qk] (by rfl) (by rfl) (unhide HNWw4) (by intro u hu; simp at hu; rcases hu with rfl | rfl | rfl | rfl <;> rfl) (by decide) (by unfold maxLen; omega) (by omega) (by simp; omega) (w4.heap.size + 1) (by simp) ?_))
          intro gw5 capw5 w5 hown hgrow hat hlt2
          have HOw5 : Hid (OwnDr w5 W0.heap.size (.slice (some ⟨gw5, 0, none⟩) (m + 1) capw5) L5) := by
            show OwnDr _ _ _ _
            rw [unhide HL5]
            unfold OwnDr
            rw [drC_app, List.length_append, unhide HMl0, unhide HQC]
            exact hown
          have hbx : Below W0.heap.size w4 w5 := ((Below.refl W0.heap.size w4).alloc (by omega) (.cells [.int .i64 qp, .int .i64 qw, .int .i64 qc, .slice qa qz qk].toArray 45)).grown hgrow (by simp; omega) (fun z hz => unhide HGw4 z hz)
          have HBw5 := hide ((unhide HBw4).trans hbx)
          have HML5 : Hid (L5.length = m + 1) := by show _ = _; rw [unhide HL5, List.length_append, unhide HMl0]; rfl
          have HCw5 : Hid (w5.cell? ⟨g, o + i * 4, none⟩ = some (.int .i64 xp)) := (hbx.cell (p := ⟨g, o + i * 4, none⟩) (unhide HGL)).trans (unhide HCw4)
          have HRw5 : Hid (∀ W, Below w5.heap.size w5 W → W.rangeAt g (o + i * 4) [.int .i64 xp, .int .i64 xw, .int .i64 xc, .slice xa xz xk]) := fun W hW j v hv => cell_below ((hbx.cell (p := ⟨g, o + i * 4 + j, none⟩) (unhide HGL)).trans (unhide HRw4 w4 (Below.refl _ _) j v hv)) hW
          clear hown hgrow hat hlt2 hbx HPw4 HGw4 HNWw4 hw0w4
          by_cases heq : xp = qp
          · have he3 : (xp == qp) = true := by simpa using heq
            have HTE : Hid (T1 = (L5, true)) := ((unhide HWT).1 heq).trans (unhide HPE)
            have HSE : Hid (S1 = (L5, true)) := (unhide HX).trans (unhide HTE)
            clear HWT HX HTE
            go_wp2_with fail
            refine wp_region_grB (by kernel_rfl) (by kernel_rfl) ?_
            have hneX := gb_ne w5
            have f1 : ∀ y : Gb w5, y.w.cell? ⟨w.heap.size, 1, none⟩ = some (.slice (some ⟨g, o, none⟩) n c) := fun y => gb_cell (row2 (unhide H0 w5 (unhide HBw5))).1.2 y
            have f2 : ∀ y : Gb w5, y.w.cell? ⟨w.heap.size + 1, 0, none⟩ = some (.int .i64 qp) := fun y => gb_cell (row4 (unhide H1 w5 (unhide HBw5))).1.1 y
            have f3 : ∀ y : Gb w5, y.w.cell? ⟨g, o + i * 4, none⟩ = some (.int .i64 xp) := fun y => gb_cell (unhide HCw5) y
            repeat (go_big_quiet_step (fail))
            refine wpQuiet_nil ?_
            rintro w6 ⟨⟨_, b9⟩, rfl⟩
            have HBw6 := hide ((unhide HBw5).trans (b9.mono (unhide HBw5).size))
            have HCw6 := hide (cell_below (unhide HCw5) b9)
            have HOw6 := hide (ownDr_up (unhide HOw5) b9)
            have HRw6 : Hid (∀ W, Below w6.heap.size w6 W → W.rangeAt g (o + i * 4) [.int .i64 xp, .int .i64 xw, .int .i64 xc, .slice xa xz xk]) := fun W hW => unhide HRw5 W (b9.trans (hW.mono b9.size))
            clear b9 hneX f1 f2 f3
            go_wp2
            go_roundw
            case rel => exact ⟨i + 1, _, _, _, by omega, by go_num, by rw [← unhide HS1, unhide HSE], rfl, by rw [← unhide HS1, unhide HSE]; exact unhide HML5, by rw [← unhide HS1, unhide HSE]; exact unhide HOw6, unhide HBw6⟩
            case measure => simp [intOf]; omega
          · have he2 : (xp == qp) = false := by simpa using heq
            obtain ⟨L9, hL9⟩ : ∃ L, L = L5 ++ [x] := ⟨_, rfl⟩
            have HL9 := hide hL9
            have HTE : Hid (T1 = (L9, true)) := ((unhide HWT).2 heq).trans (by rw [unhide HPE, hL9])
            have HSE : Hid (S1 = (L9, true)) := (unhide HX).trans (unhide HTE)
            clear HWT HX HTE hL9
            go_wp2_with fail
            refine wp_region_grB (by kernel_rfl) (by kernel_rfl) ?_
            have hneX := gb_ne w5
            have f1 : ∀ y : Gb w5, y.w.cell? ⟨w.heap.size, 1, none⟩ = some (.slice (some ⟨g, o, none⟩) n c) := fun y => gb_cell (row2 (unhide H0 w5 (unhide HBw5))).1.2 y
            have f2 : ∀ y : Gb w5, y.w.cell? ⟨w.heap.size + 1, 0, none⟩ = some (.int .i64 qp) := fun y => gb_cell (row4 (unhide H1 w5 (unhide HBw5))).1.1 y
            have f3 : ∀ y : Gb w5, y.w.cell? ⟨g, o + i * 4, none⟩ = some (.int .i64 xp) := fun y => gb_cell (unhide HCw5) y
            repeat (go_big_quiet_step (fail))
            refine wpQuiet_nil ?_
            rintro w6 ⟨⟨_, b9⟩, rfl⟩
            have HBw6 := hide ((unhide HBw5).trans (b9.mono (unhide HBw5).size))
            have HCw6 := hide (cell_below (unhide HCw5) b9)
            have HOw6 := hide (ownDr_up (unhide HOw5) b9)
            have HRw6 : Hid (∀ W, Below w6.heap.size w6 W → W.rangeAt g (o + i * 4) [.int .i64 xp, .int .i64 xw, .int .i64 xc, .slice xa xz xk]) := fun W hW => unhide HRw5 W (b9.trans (hW.mono b9.size))
            clear b9 hneX f1 f2 f3
            have HPw6 : Hid (∀ o1, (w6.alloc o1).ownsRow W0.heap.size 45 4 (.slice (some ⟨gw5, 0, none⟩) (m + 1) capw5) (m + 1) (drC L5)) := fun o1 => by
              have h1 := ownDr_up (unhide HOw6) ((Below.refl w6.heap.size w6).alloc (Nat.le_refl _) o1)
              unfold OwnDr at h1
              rw [unhide HML5] at h1
              exact h1
            have HGw6 := hide (fun z (hz : (Value.slice (some ⟨gw5, 0, none⟩) (m + 1) capw5).ownBlock = some z) => ownDr_ge (unhide HOw6) hz)
            have HNWw6 := hide (news_lit w6 [.int .i64 xp, .int .i64 xw, .int .i64 xc, .slice xa xz xk] 45)
            have hw0w6 := (unhide HBw6).size
            obtain ⟨⟨u0, u1⟩, -, ul⟩ := row2 (unhide H0 w6 (unhide HBw6))
            go_wp2_with (first | (refine wpList_load_mid rfl 45 (.tmp 45) rfl g (o + i * 4) rfl [.int .i64 xp, .int .i64 xw, .int .i64 xc, .slice xa xz xk] _ (unhide HRw6 w6 (Below.refl _ _)) Try.underlying45 rfl (by kernel_rfl) ?_) | (refine wpList_append_lies _ rfl (.tmp 41) (.tmp 47) 26 rfl W0.heap.size 45 i0 (.agg #[.int .i64 0, .int .i64 0, .int .i64 0, .slice none 0 0]) 4 48 Try.undQd hi hz0 hz1 hz2 rfl (by decide) (.slice (some ⟨gw5, 0, none⟩) (m + 1) capw5) (m + 1) _ (by rfl) (unhide HPw6 _) ⟨w6.heap.size, 0, none⟩ 1 1 [.int .i64 xp, .int .i64 xw, .int .i64 xc, .slice xa xz xk] (by rfl) (by rfl) (unhide HNWw6) (by intro u hu; simp at hu; rcases hu with rfl | rfl | rfl | rfl <;> rfl) (by decide) (by unfold maxLen; omega) (by omega) (by simp; omega) (w6.heap.size + 1) (by simp) ?_))
            intro gw7 capw7 w7 hown hgrow hat hlt2
            have HOw7 : Hid (OwnDr w7 W0.heap.size (.slice (some ⟨gw7, 0, none⟩) ((m + 1) + 1) capw7) L9) := by
              show OwnDr _ _ _ _
              rw [unhide HL9]
              unfold OwnDr
              rw [drC_app, List.length_append, unhide HML5, unhide HXC]
              exact hown
            have hbx : Below W0.heap.size w6 w7 := ((Below.refl W0.heap.size w6).alloc (by omega) (.cells [.int .i64 xp, .int .i64 xw, .int .i64 xc, .slice xa xz xk].toArray 45)).grown hgrow (by simp; omega) (fun z hz => unhide HGw6 z hz)
            have HBw7 := hide ((unhide HBw6).trans hbx)
            have HML9 : Hid (L9.length = (m + 1) + 1) := by show _ = _; rw [unhide HL9, List.length_append, unhide HML5]; rfl
            have HCw7 : Hid (w7.cell? ⟨g, o + i * 4, none⟩ = some (.int .i64 xp)) := (hbx.cell (p := ⟨g, o + i * 4, none⟩) (unhide HGL)).trans (unhide HCw6)
            have HRw7 : Hid (∀ W, Below w7.heap.size w7 W → W.rangeAt g (o + i * 4) [.int .i64 xp, .int .i64 xw, .int .i64 xc, .slice xa xz xk]) := fun W hW j v hv => cell_below ((hbx.cell (p := ⟨g, o + i * 4 + j, none⟩) (unhide HGL)).trans (unhide HRw6 w6 (Below.refl _ _) j v hv)) hW
            clear u0 u1 ul
            clear hown hgrow hat hlt2 hbx HPw6 HGw6 HNWw6 hw0w6
            go_wp2
            go_roundw
            case rel => exact ⟨i + 1, _, _, _, by omega, by go_num, by rw [← unhide HS1, unhide HSE], rfl, by rw [← unhide HS1, unhide HSE]; exact unhide HML9, by rw [← unhide HS1, unhide HSE]; exact unhide HOw7, unhide HBw7⟩
            case measure => simp [intOf]; omega
        · have hle2 : decide (qp ≤ xp) = false := decide_eq_false hle
          have HPE : Hid (P1 = (l0, false)) := (unhide HWP).2.2 rfl (by omega)
          clear HWP
          go_wp2_with fail
          refine wp_region_grB (by kernel_rfl) (by kernel_rfl) ?_
          have hneX := gb_ne wr
          have f1 : ∀ y : Gb wr, y.w.cell? ⟨w.heap.size, 1, none⟩ = some (.slice (some ⟨g, o, none⟩) n c) := fun y => gb_cell (row2 (unhide H0 wr (unhide HBwr))).1.2 y
          have f2 : ∀ y : Gb wr, y.w.cell? ⟨w.heap.size + 1, 0, none⟩ = some (.int .i64 qp) := fun y => gb_cell (row4 (unhide H1 wr (unhide HBwr))).1.1 y
          have f3 : ∀ y : Gb wr, y.w.cell? ⟨g, o + i * 4, none⟩ = some (.int .i64 xp) := fun y => gb_cell (unhide HCwr) y
          repeat (go_big_quiet_step (fail))
          refine wpQuiet_nil ?_
          rintro w4 ⟨⟨_, b9⟩, rfl⟩
          have HBw4 := hide ((unhide HBwr).trans (b9.mono (unhide HBwr).size))
          have HCw4 := hide (cell_below (unhide HCwr) b9)
          have HOw4 := hide (ownDr_up (unhide HOwr) b9)
          have HRw4 : Hid (∀ W, Below w4.heap.size w4 W → W.rangeAt g (o + i * 4) [.int .i64 xp, .int .i64 xw, .int .i64 xc, .slice xa xz xk]) := fun W hW => unhide HRwr W (b9.trans (hW.mono b9.size))
          clear b9 hneX f1 f2 f3
          clear u0 u1 ul
          by_cases heq : xp = qp
          · have he3 : (xp == qp) = true := by simpa using heq
            omega
          · have he2 : (xp == qp) = false := by simpa using heq
            obtain ⟨L9, hL9⟩ : ∃ L, L = l0 ++ [x] := ⟨_, rfl⟩
            have HL9 := hide hL9
            have HTE : Hid (T1 = (L9, false)) := ((unhide HWT).2 heq).trans (by rw [unhide HPE, hL9])
            have HSE : Hid (S1 = (L9, false)) := (unhide HX).trans (unhide HTE)
            clear HWT HX HTE hL9
            go_wp2_with fail
            refine wp_region_grB (by kernel_rfl) (by kernel_rfl) ?_
            have hneX := gb_ne w4
            have f1 : ∀ y : Gb w4, y.w.cell? ⟨w.heap.size, 1, none⟩ = some (.slice (some ⟨g, o, none⟩) n c) := fun y => gb_cell (row2 (unhide H0 w4 (unhide HBw4))).1.2 y
            have f2 : ∀ y : Gb w4, y.w.cell? ⟨w.heap.size + 1, 0, none⟩ = some (.int .i64 qp) := fun y => gb_cell (row4 (unhide H1 w4 (unhide HBw4))).1.1 y
            have f3 : ∀ y : Gb w4, y.w.cell? ⟨g, o + i * 4, none⟩ = some (.int .i64 xp) := fun y => gb_cell (unhide HCw4) y
            repeat (go_big_quiet_step (fail))
            refine wpQuiet_nil ?_
            rintro w6 ⟨⟨_, b9⟩, rfl⟩
            have HBw6 := hide ((unhide HBw4).trans (b9.mono (unhide HBw4).size))
            have HCw6 := hide (cell_below (unhide HCw4) b9)
            have HOw6 := hide (ownDr_up (unhide HOw4) b9)
            have HRw6 : Hid (∀ W, Below w6.heap.size w6 W → W.rangeAt g (o + i * 4) [.int .i64 xp, .int .i64 xw, .int .i64 xc, .slice xa xz xk]) := fun W hW => unhide HRw4 W (b9.trans (hW.mono b9.size))
            clear b9 hneX f1 f2 f3
            have HPw6 : Hid (∀ o1, (w6.alloc o1).ownsRow W0.heap.size 45 4 (.slice a m cc) m (drC l0)) := fun o1 => by
              have h1 := ownDr_up (unhide HOw6) ((Below.refl w6.heap.size w6).alloc (Nat.le_refl _) o1)
              unfold OwnDr at h1
              rw [unhide HMl0] at h1
              exact h1
            have HGw6 := hide (fun z (hz : (Value.slice a m cc).ownBlock = some z) => ownDr_ge (unhide HOw6) hz)
            have HNWw6 := hide (news_lit w6 [.int .i64 xp, .int .i64 xw, .int .i64 xc, .slice xa xz xk] 45)
            have hw0w6 := (unhide HBw6).size
            obtain ⟨⟨u0, u1⟩, -, ul⟩ := row2 (unhide H0 w6 (unhide HBw6))
            go_wp2_with (first | (refine wpList_load_mid rfl 45 (.tmp 45) rfl g (o + i * 4) rfl [.int .i64 xp, .int .i64 xw, .int .i64 xc, .slice xa xz xk] _ (unhide HRw6 w6 (Below.refl _ _)) Try.underlying45 rfl (by kernel_rfl) ?_) | (refine wpList_append_lies _ rfl (.tmp 41) (.tmp 47) 26 rfl W0.heap.size 45 i0 (.agg #[.int .i64 0, .int .i64 0, .int .i64 0, .slice none 0 0]) 4 48 Try.undQd hi hz0 hz1 hz2 rfl (by decide) (.slice a m cc) m _ (by rfl) (unhide HPw6 _) ⟨w6.heap.size, 0, none⟩ 1 1 [.int .i64 xp, .int .i64 xw, .int .i64 xc, .slice xa xz xk] (by rfl) (by rfl) (unhide HNWw6) (by intro u hu; simp at hu; rcases hu with rfl | rfl | rfl | rfl <;> rfl) (by decide) (by unfold maxLen; omega) (by omega) (by simp; omega) (w6.heap.size + 1) (by simp) ?_))
            intro gw7 capw7 w7 hown hgrow hat hlt2
            have HOw7 : Hid (OwnDr w7 W0.heap.size (.slice (some ⟨gw7, 0, none⟩) (m + 1) capw7) L9) := by
              show OwnDr _ _ _ _
              rw [unhide HL9]
              unfold OwnDr
              rw [drC_app, List.length_append, unhide HMl0, unhide HXC]
              exact hown
            have hbx : Below W0.heap.size w6 w7 := ((Below.refl W0.heap.size w6).alloc (by omega) (.cells [.int .i64 xp, .int .i64 xw, .int .i64 xc, .slice xa xz xk].toArray 45)).grown hgrow (by simp; omega) (fun z hz => unhide HGw6 z hz)
            have HBw7 := hide ((unhide HBw6).trans hbx)
            have HML9 : Hid (L9.length = m + 1) := by show _ = _; rw [unhide HL9, List.length_append, unhide HMl0]; rfl
            have HCw7 : Hid (w7.cell? ⟨g, o + i * 4, none⟩ = some (.int .i64 xp)) := (hbx.cell (p := ⟨g, o + i * 4, none⟩) (unhide HGL)).trans (unhide HCw6)
            have HRw7 : Hid (∀ W, Below w7.heap.size w7 W → W.rangeAt g (o + i * 4) [.int .i64 xp, .int .i64 xw, .int .i64 xc, .slice xa xz xk]) := fun W hW j v hv => cell_below ((hbx.cell (p := ⟨g, o + i * 4 + j, none⟩) (unhide HGL)).trans (unhide HRw6 w6 (Below.refl _ _) j v hv)) hW
            clear u0 u1 ul
            clear hown hgrow hat hlt2 hbx HPw6 HGw6 HNWw6 hw0w6
            go_wp2
            go_roundw
            case rel => exact ⟨i + 1, _, _, _, by omega, by go_num, by rw [← unhide HS1, unhide HSE], rfl, by rw [← unhide HS1, unhide HSE]; exact unhide HML9, by rw [← unhide HS1, unhide HSE]; exact unhide HOw7, unhide HBw7⟩
            case measure => simp [intOf]; omega
    · have hin2 : i = n := by omega
      have q1 : ¬ (i : Int) < n := by omega
      subst hin2
      obtain ⟨hw1, hw2⟩ := unhide HWD
      obtain ⟨Sn, hSn⟩ : ∃ S, S = sS i := ⟨_, rfl⟩
      rw [← hSn] at HM HO hw1 hw2 ⊢
      obtain ⟨l0, b0⟩ := Sn
      dsimp only at HM HO hw1 hw2 ⊢
      have HBwr := HB
      have HOwr := HO
      have HMl0 := HM
      clear hSn HB HO HM
      have h2 := unhide H2 wr (unhide HBwr)
      cases b0 with
      | true =>
        have HRR := hide (hw1 rfl)
        clear hw1 hw2
        go_wp2_with (refine wpList_store_rowM rfl 28 (.tmp 4) (.tmp 58) rfl (w.heap.size + 2) #[.int .i64 Q, .slice a m cc] rfl rfl 28 _ h2 (by kernel_rfl) rfl (by simp [Value.oneCell']) (StR wr (w.heap.size + 2) 28 #[.int .i64 Q, .slice a m cc]) (stR h2 _) ?_)
        intro w9 h9
        have hs0 := unhide HS0
        have HOF := ownDr_le (ownDr_st (unhide HOwr) h9 (by omega)) (show w.heap.size ≤ W0.heap.size by omega)
        have HBF : Below w.heap.size w w9 := ((unhide B0).trans ((unhide HBwr).mono (by omega))).trans (h9.be.mono (by omega))
        rw [← unhide HRR] at HOF
        obtain ⟨a9, c9, e9, hD9⟩ := unhide HF w9 _ HBF HOF
        rw [Value.slice.injEq] at e9
        obtain ⟨rfl, rfl, rfl⟩ := e9
        clear hs0
        go_wp2_with fail
        exact ret_rowM (p := 4) (ty := 28) (by kernel_rfl) (w.heap.size + 2) 28 _ (0, 0) _ rfl h9.at_ rfl Try.underlying28 (by kernel_rfl) ⟨_, _, rfl, hD9, HBF⟩
      | false =>
        have HRR := hide (hw2 rfl)
        clear hw1 hw2 h2
        have HPwr : Hid (∀ o1, (wr.alloc o1).ownsRow W0.heap.size 45 4 (.slice a m cc) m (drC l0)) := fun o1 => by
          have h1 := ownDr_up (unhide HOwr) ((Below.refl wr.heap.size wr).alloc (Nat.le_refl _) o1)
          unfold OwnDr at h1
          rw [unhide HMl0] at h1
          exact h1
        have HGwr := hide (fun z (hz : (Value.slice a m cc).ownBlock = some z) => ownDr_ge (unhide HOwr) hz)
        have HNWwr := hide (news_lit wr [.int .i64 qp, .int .i64 qw, .int .i64 qc, .slice qa qz qk] 45)
        have hw0wr := (unhide HBwr).size
        go_wp2_with (first | (refine wpList_load_row rfl 45 (.tmp 3) rfl (w.heap.size + 1) rfl 45 _ (0, 0) _ (unhide H1 wr (unhide HBwr)) Try.underlying45 rfl (by kernel_rfl) ?_) | (refine wpList_append_lies _ rfl (.tmp 51) (.tmp 53) 26 rfl W0.heap.size 45 i0 (.agg #[.int .i64 0, .int .i64 0, .int .i64 0, .slice none 0 0]) 4 48 Try.undQd hi hz0 hz1 hz2 rfl (by decide) (.slice a m cc) m _ (by rfl) (unhide HPwr _) ⟨wr.heap.size, 0, none⟩ 1 1 [.int .i64 qp, .int .i64 qw, .int .i64 qc, .slice qa qz qk] (by rfl) (by rfl) (unhide HNWwr) (by intro u hu; simp at hu; rcases hu with rfl | rfl | rfl | rfl <;> rfl) (by decide) (by unfold maxLen; omega) (by omega) (by simp; omega) (wr.heap.size + 1) (by simp) ?_))
        intro gw5 capw5 w5 hown hgrow hat hlt2
        have HOw5 : Hid (OwnDr w5 W0.heap.size (.slice (some ⟨gw5, 0, none⟩) (m + 1) capw5) RR) := by
          show OwnDr _ _ _ _
          rw [unhide HRR]
          unfold OwnDr
          rw [drC_app, List.length_append, unhide HMl0, unhide HQC]
          exact hown
        have hbx : Below W0.heap.size wr w5 := ((Below.refl W0.heap.size wr).alloc (by omega) (.cells [.int .i64 qp, .int .i64 qw, .int .i64 qc, .slice qa qz qk].toArray 45)).grown hgrow (by simp; omega) (fun z hz => unhide HGwr z hz)
        have HBw5 := hide ((unhide HBwr).trans hbx)
        have HMRR : Hid (RR.length = m + 1) := by show _ = _; rw [unhide HRR, List.length_append, unhide HMl0]; rfl
        clear hown hgrow hat hlt2 hbx HPwr HGwr HNWwr hw0wr
        have h2 := unhide H2 w5 (unhide HBw5)
        have u00 := (row2 (unhide H0 w5 (unhide HBw5))).1.1
        go_wp2_with (refine wpList_store_rowM rfl 28 (.tmp 4) (.tmp 58) rfl (w.heap.size + 2) #[.int .i64 Q, .slice (some ⟨gw5, 0, none⟩) (m + 1) capw5] rfl rfl 28 _ h2 (by kernel_rfl) rfl (by simp [Value.oneCell']) (StR w5 (w.heap.size + 2) 28 #[.int .i64 Q, .slice (some ⟨gw5, 0, none⟩) (m + 1) capw5]) (stR h2 _) ?_)
        intro w9 h9
        have hs0 := unhide HS0
        have HOF := ownDr_le (ownDr_st (unhide HOw5) h9 (by omega)) (show w.heap.size ≤ W0.heap.size by omega)
        have HBF : Below w.heap.size w w9 := ((unhide B0).trans ((unhide HBw5).mono (by omega))).trans (h9.be.mono (by omega))
        obtain ⟨a9, c9, e9, hD9⟩ := unhide HF w9 _ HBF HOF
        rw [Value.slice.injEq] at e9
        obtain ⟨rfl, e10, rfl⟩ := e9
        clear hs0
        go_wp2_with fail
        exact ret_rowM (p := 4) (ty := 28) (by kernel_rfl) (w.heap.size + 2) 28 _ (0, 0) _ rfl h9.at_ rfl Try.underlying28 (by kernel_rfl) ⟨_, _, by rw [← e10], hD9, HBF⟩
end Go.Proofs.Ytlmmincpjflkdaa

/- net: Send. -/
import Derived.Test.YtmnjngkdiinnfaaNtC
import Derived.Test.YtmnjngkdiinnfaaLate
import Derived.Test.YtmnjngkdiinnfaaEff
namespace Go.Proofs.Ytmnjngkdiinnfaa
open Go.RowKit
set_option linter.unusedVariables false
attribute [local go_sem] Oper.semAt_some

set_option maxRecDepth 100000 in
theorem send_nil (r : Mg) (w : World) : Calls Try.prog 13 #[.pointer none, gmV r] w fun e w' => e = .returned (.tuple #[.int .i64 0, .int .i64 1]) ∧ Below w.heap.size w w' := by
  obtain ⟨id, fr, to, tx⟩ := r
  go_enter Try.func13, Try.ntmps13
  go_wp2
  go_ret2
  exact ⟨rfl, (Below.refl _ w).alloc (Nat.le_refl _) _⟩
set_option maxRecDepth 100000 in
theorem send_bad (b : Nat) (r : Mg) (w : World) (hd : r.tx.size ≤ maxLen) (hm : mayG r.fr r.to r.tx.size = false) : Calls Try.prog 13 #[.pointer (some ⟨b, 0, none⟩), gmV r] w fun e w' => e = .returned (.tuple #[.int .i64 0, .int .i64 1]) ∧ Below w.heap.size w w' := by
  have g1 := hide (fun w => mayGo_any r w hd)
  rw [hm] at g1
  have B0 : Hid (Below w.heap.size w (w.alloc (.cells (gmC r) 30))) := (Below.refl _ w).alloc (Nat.le_refl _) _
  obtain ⟨id, fr, to, tx⟩ := r
  try dsimp only at g1
  clear hd hm
  go_enter Try.func13, Try.ntmps13
  go_wp2_with fail
  refine (unhide g1 _).mono ?_
  rintro e w1 ⟨rfl, b1⟩
  have B1 := hide ((unhide B0).trans (b1.mono (unhide B0).size))
  clear b1
  go_wp2
  go_ret2
  exact ⟨rfl, unhide B1⟩
set_option maxRecDepth 100000 in
theorem send_full (B b mb : Nat) (iv : Value) (room last : Int) (rs : List Mg) (r : Mg) (w : World) (hS : NtAt w B b mb iv room last rs) (hd : r.tx.size ≤ maxLen) (hm : mayG r.fr r.to r.tx.size = true) (hf : (rs.length : Int) = room) :
    Calls Try.prog 13 #[.pointer (some ⟨b, 0, none⟩), gmV r] w fun e w' => e = .returned (.tuple #[.int .i64 0, .int .i64 6]) ∧ Below w.heap.size w w' := by
  have g1 := hide (fun w => mayGo_any r w hd)
  rw [hm] at g1
  have B0 : Hid (Below w.heap.size w (w.alloc (.cells (gmC r) 30))) := (Below.refl _ w).alloc (Nat.le_refl _) _
  have HS := hide hS
  obtain ⟨a0, c, hiv, hI, _, _⟩ := OwnI.ints hS.idv
  rw [List.length_map] at hiv
  have hiv' := hide hiv
  obtain ⟨id, fr, to, tx⟩ := r
  try dsimp only at g1
  have d1 : decide (room ≤ (rs.length : Int)) = true := decide_eq_true (by omega)
  clear hd hm hS hI hiv hf
  go_enter Try.func13, Try.ntmps13
  go_wp2_with fail
  refine (unhide g1 _).mono ?_
  rintro e w1 ⟨rfl, b1⟩
  have B1 := hide ((unhide B0).trans (b1.mono (unhide B0).size))
  have HS1 := hide ((unhide HS).kept (unhide B1))
  obtain ⟨p0, p1, p2, p3, fp⟩ := cells4 (unhide HS1).blk
  rw [unhide hiv'] at p3
  generalize rs.length = n at *
  have hneX := gb_ne w1
  have y0 : ∀ y : Gb w1, y.w.cell? ⟨b, 0, none⟩ = some (.int .i64 room) := fun y => gb_cell p0 y
  have y3 : ∀ y : Gb w1, y.w.cell? ⟨b, 3, none⟩ = some (.slice a0 n c) := fun y => gb_cell p3 y
  clear b1 p0 p1 p2 p3 fp
  go_wp2_with fail
  refine wp_region_grB (by kernel_rfl) (by kernel_rfl) ?_
  repeat (go_big_quiet_step (fail))
  refine wpQuiet_nil ?_
  rintro wz ⟨xz, rfl⟩
  have B2 := hide ((unhide B1).trans (xz.ok.mono (unhide B1).size))
  clear y0 y3 hneX
  generalize xz.w = wz at *
  go_wp2
  go_ret2
  exact ⟨rfl, unhide B2⟩
theorem OwnI.up {w w' : World} {B : Nat} {v : Value} {l : List Int} (h : OwnI w B v l) (hb : Below w.heap.size w w') : OwnI w' B v l := by
  refine ⟨h.1, ?_⟩
  rcases h.2 with ⟨h1, h2⟩ | ⟨g, cap, cur, h1, h2, h3, h4⟩
  · exact .inl ⟨h1, h2⟩
  · exact .inr ⟨g, cap, cur, h1, h2, (hb.block g (lt_of_block h3)).trans h3, h4⟩
theorem own_alloc {w : World} {B : Nat} {v : Value} {l : List Int} (h : OwnI w B v l) (o : Obj) : World.ownsRow (w.alloc o) B 3 1 v l.length (ic l) := h.up ((Below.refl _ _).alloc (Nat.le_refl _) o)
theorem own_ty {w : World} {B : Nat} {v : Value} {l : List Int} (h : OwnI w B v l) {k : Nat} (hk : v.ownBlock = some k) : B ≤ k ∧ ∃ cur, w.heap[k]? = some (.cells cur 3 (0, 0)) := by
  rcases (show World.ownsRow _ _ _ _ _ _ _ from h).2 with ⟨h1, _⟩ | ⟨g, cap, cur, h1, h2, hg, _⟩
  · rw [h1] at hk
    cases hk
  · rw [h1] at hk
    simp only [Value.ownBlock, Option.some.injEq] at hk
    subst hk
    exact ⟨h2, cur, hg⟩
/-- behind an append to the numbers, and the store of the new row -/
theorem ids_turned {w5 w6 w7 : World} {B b mb : Nat} {room last : Int} {v : Value} {l : List Int} {o : Obj} {D : DataW Value} {N g n cap : Nat} {x : Int}
    (hP : w5.heap[b]? = some (.cells #[.int .i64 room, .int .i64 last, .map (some mb), v] 66 (0, 0))) (hM : StMap w5 mb N D) (hid : OwnI w5 B v l) (hB : B ≤ b)
    (h6 : Below w5.heap.size w5 w6) (h7 : (w6.alloc o).grownBy w7 v.ownBlock) (hn : n = l.length)
    (hown : w7.ownsRow B 3 1 (.slice (some ⟨g, 0, none⟩) (n + 1) cap) (n + 1) (ic l ++ [.int .i64 x])) (hl : v.ownBlock = some g ∨ g = w6.heap.size + 1) :
    w7.heap[b]? = some (.cells #[.int .i64 room, .int .i64 last, .map (some mb), v] 66 (0, 0)) ∧
    (w7.setCell ⟨b, 3, none⟩ (.slice (some ⟨g, 0, none⟩) (n + 1) cap)).heap[b]? = some (.cells #[.int .i64 room, .int .i64 last, .map (some mb), .slice (some ⟨g, 0, none⟩) (n + 1) cap] 66 (0, 0)) ∧
    StMap (w7.setCell ⟨b, 3, none⟩ (.slice (some ⟨g, 0, none⟩) (n + 1) cap)) mb N D ∧
    OwnI (w7.setCell ⟨b, 3, none⟩ (.slice (some ⟨g, 0, none⟩) (n + 1) cap)) B (.slice (some ⟨g, 0, none⟩) (n + 1) cap) (l ++ [x]) ∧
    KN B w5 (w7.setCell ⟨b, 3, none⟩ (.slice (some ⟨g, 0, none⟩) (n + 1) cap)) := by
  obtain ⟨es, cl, hm, hm2⟩ := hM
  have hbl := lt_of_block hP
  have hml : mb < w5.heap.size := (Array.getElem?_eq_some_iff.1 hm).1
  have hmb : mb ≠ b := by
    rintro rfl
    rw [hm] at hP
    cases hP
  have kb : ∀ k, v.ownBlock = some k → k ≠ b ∧ k ≠ mb ∧ B ≤ k := by
    intro k hk
    obtain ⟨h1, cur, h2⟩ := own_ty hid hk
    refine ⟨?_, ?_, h1⟩
    · rintro rfl
      rw [hP] at h2
      simp only [Option.some.injEq, Obj.cells.injEq] at h2
      exact absurd h2.2.1 (by decide)
    · rintro rfl
      rw [hm] at h2
      cases h2
  have hsz : w5.heap.size ≤ w6.heap.size := h6.size
  have old : ∀ k, k < w5.heap.size → v.ownBlock ≠ some k → w7.heap[k]? = w5.heap[k]? := by
    intro k hk hne
    rw [h7.block k (by simp; omega) (fun e => hne e.symm)]
    rw [Below.heap_alloc _ _ _ (by omega)]
    exact h6.block k hk
  have b7 := (old b hbl (fun e => (kb b e).1 rfl)).trans hP
  have hgb : g ≠ b := by
    rcases hl with h | h
    · exact (kb g h).1
    · omega
  refine ⟨b7, ?_, ⟨es, cl, ?_, hm2⟩, ?_, ?_⟩
  · rw [heap_setCell_same w7 b 3 _ _ _ b7]
    rfl
  · rw [Below.heap_setCell _ _ _ _ hmb, old mb hml (fun e => (kb mb e).2.1 rfl)]
    exact hm
  · have h8 := (show World.ownsRow _ _ _ _ _ _ _ from hown)
    show World.ownsRow _ _ _ _ _ _ _
    rw [List.length_append, List.length_singleton, ← hn, ic_append]
    refine ⟨h8.1, ?_⟩
    rcases h8.2 with ⟨h1, h2⟩ | ⟨g', cap', cur, h1, h2, h3, h4⟩
    · cases h1
    · simp only [Value.slice.injEq, Option.some.injEq, Addr.mk.injEq] at h1
      obtain ⟨⟨rfl, _⟩, _, rfl⟩ := h1
      exact .inr ⟨g, cap, cur, rfl, h2, (Below.heap_setCell _ _ _ _ hgb).trans h3, h4⟩
  · refine ⟨h7.os.trans h6.os, h7.tape.trans h6.tape, h7.output.trans h6.output, ?_, ?_, ?_⟩
    · have := h7.size
      simp at this ⊢
      omega
    · intro k hk hkl
      rw [Below.heap_setCell _ _ _ _ (show k ≠ b by omega), old k hkl (fun e => by have := (kb k e).2.2; omega)]
    · intro k cs T fr hk h1 h2
      have hkb : k ≠ b := by
        rintro rfl
        rw [hP] at hk
        simp only [Option.some.injEq, Obj.cells.injEq] at hk
        exact h1 hk.2.1.symm
      rw [Below.heap_setCell _ _ _ _ hkb, old k (lt_of_block hk) (fun e => ?_)]
      obtain ⟨_, cur, h3⟩ := own_ty hid e
      rw [hk] at h3
      simp only [Option.some.injEq, Obj.cells.injEq] at h3
      exact h2 h3.2.1
set_option maxRecDepth 100000 in
set_option maxHeartbeats 1000000 in
theorem send_ok (B b mb : Nat) (iv : Value) (room last : Int) (rs : List Mg) (r : Mg) (w : World) (hS : NtAt w B b mb iv room last rs) (hd : r.tx.size ≤ maxLen) (hm : mayG r.fr r.to r.tx.size = true) (hf : (rs.length : Int) < room) (hl : last < 1000000000) :
    Calls Try.prog 13 #[.pointer (some ⟨b, 0, none⟩), gmV r] w fun e w' => e = .returned (.tuple #[.int .i64 (last + 1), .int .i64 0]) ∧ (∃ iv', NtAt w' B b mb iv' room (last + 1) (rs ++ [{ r with id := last + 1 }])) ∧ KN B w w' := by
  have g1 := hide (fun w => mayGo_any r w hd)
  rw [hm] at g1
  have B0 : Hid (Below w.heap.size w (w.alloc (.cells (gmC r) 30))) := (Below.refl _ w).alloc (Nat.le_refl _) _
  have HX := hide (heap_alloc_new w (.cells (gmC r) 30))
  have HS := hide hS
  obtain ⟨a0, c, hiv, hI, _, _⟩ := OwnI.ints hS.idv
  rw [List.length_map] at hiv
  subst hiv
  have HMG := hide hm
  obtain ⟨id, fr, to, tx⟩ := r
  try dsimp only at g1 HX
  have d1 : decide (room ≤ (rs.length : Int)) = false := decide_eq_false (by omega)
  have hl0 := hS.last0
  clear hd hm hS hI
  go_enter Try.func13, Try.ntmps13
  go_wp2_with fail
  refine (unhide g1 _).mono ?_
  rintro e w1 ⟨rfl, b1⟩
  have B1 := hide ((unhide B0).trans (b1.mono (unhide B0).size))
  have HX1 := hide ((b1.block _ (lt_of_block (unhide HX))).trans (unhide HX))
  have HS1 := hide ((unhide HS).kept (unhide B1))
  obtain ⟨p0, p1, p2, p3, fp⟩ := cells4 (unhide HS1).blk
  obtain ⟨n, hn⟩ : ∃ n, rs.length = n := ⟨_, rfl⟩
  rw [hn] at p3 d1 HS HS1
  have HN := hide hn
  have HNM : Hid ((rs.map Mg.id).length = n) := by show _ = _; rw [List.length_map]; exact hn
  have hf' := hf
  rw [hn] at hf'
  have HF := hide hf'
  clear hf'
  have hneX := gb_ne w1
  have y0 : ∀ y : Gb w1, y.w.cell? ⟨b, 0, none⟩ = some (.int .i64 room) := fun y => gb_cell p0 y
  have y3 : ∀ y : Gb w1, y.w.cell? ⟨b, 3, none⟩ = some (.slice a0 n c) := fun y => gb_cell p3 y
  clear b1 p0 p1 p2 p3 fp hn hf B0 HX HS
  go_wp2_with fail
  refine wp_region_grB (by kernel_rfl) (by kernel_rfl) ?_
  repeat (go_big_quiet_step (fail))
  refine wpQuiet_nil ?_
  rintro wz ⟨xz, rfl⟩
  have B2 := hide ((unhide B1).trans (xz.ok.mono (unhide B1).size))
  have HX2 := hide ((xz.ok.block _ (lt_of_block (unhide HX1))).trans (unhide HX1))
  have HS2 := hide ((unhide HS1).kept xz.ok)
  clear y0 y3 hneX B1 HX1 HS1 d1
  generalize xz.w = w2 at *
  obtain ⟨p0, p1, p2, p3, fp⟩ := cells4 (unhide HS2).blk
  have hne : w.heap.size ≠ b := by
    intro e
    have h1 := unhide HX2
    rw [e, (unhide HS2).blk] at h1
    simp only [Option.some.injEq, Obj.cells.injEq] at h1
    exact absurd h1.2.1 (by decide)
  have HP3 : Hid ((w2.setCell ⟨b, 1, none⟩ (.int .i64 (last + 1))).heap[b]? = some (.cells #[.int .i64 room, .int .i64 (last + 1), .map (some mb), .slice a0 n c] 66 (0, 0))) := by
    show _ = _
    rw [heap_setCell_same w2 b 1 _ _ _ (unhide HS2).blk]
    rfl
  have HX3 : Hid ((w2.setCell ⟨b, 1, none⟩ (.int .i64 (last + 1))).heap[w.heap.size]? = some (.cells #[.int .i64 fr, .int .i64 to, .string tx] 30 (0, 0))) := (Below.heap_setCell _ _ _ _ hne).trans (unhide HX2)
  have HO3 : Hid (∀ k, k ≠ b → (w2.setCell ⟨b, 1, none⟩ (.int .i64 (last + 1))).heap[k]? = w2.heap[k]?) := fun k hk => Below.heap_setCell _ _ _ _ hk
  go_wp2_with fail
  obtain ⟨D, hM2, hD2⟩ := (unhide HS2).map
  have HM3 := hide (hM2.setCell (a := ⟨b, 1, none⟩) (fun e => (unhide HS2).ne e) (.int .i64 (last + 1)))
  have HD2 := hide hD2
  have hb2 := (unhide HS2).blt
  generalize hW3 : w2.setCell ⟨b, 1, none⟩ (.int .i64 (last + 1)) = W3 at *
  have HW3 := hide hW3
  clear hW3 p0 p1 p2 p3 fp hM2 hD2
  refine wp_region_late 9 ?A1 (by kernel_rfl) (by kernel_rfl) (by kernel_rfl) ?lex1 ?_
  case lex1 =>
    intro X
    have hneX := gb_ne X.w
    have g1 : ∀ y : Gb X.w, y.w.cell? ⟨b, 1, none⟩ = some (.int .i64 (last + 1)) := fun y => gb_cell (cell_below (cells4 (unhide HP3)).2.1 X.ok) y
    have g2 : ∀ y : Gb X.w, y.w.cell? ⟨b, 2, none⟩ = some (.map (some mb)) := fun y => gb_cell (cell_below (cells4 (unhide HP3)).2.2.1 X.ok) y
    have e0 : ∀ y : Gb X.w, y.w.cell? ⟨w.heap.size, 0, none⟩ = some (.int .i64 fr) := fun y => gb_cell (cell_below (cells3 (unhide HX3)).1 X.ok) y
    have e1 : ∀ y : Gb X.w, y.w.cell? ⟨w.heap.size, 1, none⟩ = some (.int .i64 to) := fun y => gb_cell (cell_below (cells3 (unhide HX3)).2.1 X.ok) y
    have e2 : ∀ y : Gb X.w, y.w.cell? ⟨w.heap.size, 2, none⟩ = some (.string tx) := fun y => gb_cell (cell_below (cells3 (unhide HX3)).2.2.1 X.ok) y
    dsimp only [List.take_succ_cons, List.take_zero]
    repeat (go_big_quiet_step ((fail)))
    refine wpQuiet_nil ?_
    exact rfl
  intro w4 b4
  try simp only [List.drop_succ_cons, List.drop_zero]
  have HP4 := hide ((b4.block _ (lt_of_block (unhide HP3))).trans (unhide HP3))
  have hM4 := (unhide HM3).kept (row := none) ⟨b4.os, b4.tape, b4.output, b4.size, fun i hi _ => b4.block i hi⟩ (by simp)
  have HM4 := hide hM4
  have hk1 : (Lit.int .i64 (last + 1)).wf = true := WalkArith.wf_i64 (by omega)
  have HK1 := hide hk1
  have HB4 := hide b4
  clear b4 hM4 hk1
  go_wp2_with (at_mapUpdate; refine wpList_mapUpdate_own _ rfl _ _ _ 64 rfl 3 30 keyed Try.underlying64 stR mb last.toNat D rfl (unhide HM4) (by unfold maxLen; omega) _ _ (kI (last + 1)) rfl rfl (keyOf_k (unhide HK1)) _ [] rfl ?_)
  intro w5 hM5 hg5
  have hmne : mb ≠ b := (unhide HS2).ne
  have hP5 := (hg5.block _ (lt_of_block (unhide HP4)) (fun e => hmne (by cases e; rfl))).trans (unhide HP4)
  have hidw : OwnI w5 B (.slice a0 n c) (rs.map Mg.id) := by
    refine ⟨(unhide HS2).idv.1, ?_⟩
    rcases (unhide HS2).idv.2 with ⟨h1, h2⟩ | ⟨g, cap, cur, h1, h2, h3, h4⟩
    · exact .inl ⟨h1, h2⟩
    · have hgb : g ≠ b := by
        rintro rfl
        rw [(unhide HS2).blk] at h3
        simp only [Option.some.injEq, Obj.cells.injEq] at h3
        exact absurd h3.2.1 (by decide)
      have hgm : g ≠ mb := by
        rintro rfl
        obtain ⟨es, cl, hm⟩ := (unhide HS2).isMap
        rw [hm] at h3
        cases h3
      have h5 : W3.heap[g]? = some (.cells cur 3 (0, 0)) := (unhide HO3 g hgb).trans h3
      have h6 := ((unhide HB4).block g (lt_of_block h5)).trans h5
      exact .inr ⟨g, cap, cur, h1, h2, (hg5.block g (lt_of_block h6) (fun e => hgm (by cases e; rfl))).trans h6, h4⟩
  have HID := hide hidw
  have HK5 : Hid (KN B w w5) := by
    have k2 : KN B w w2 := KN.of_below (unhide B2)
    have hmb : b < w2.heap.size := (unhide HS2).blt
    have hob := (unhide HS2).ob
    have hom := (unhide HS2).om
    have hz3 : W3.heap.size = w2.heap.size := by rw [← unhide HW3]; simp
    refine k2.trans ⟨?_, ?_, ?_, ?_, ?_, ?_⟩
    · rw [hg5.os, (unhide HB4).os, ← unhide HW3]; rfl
    · rw [hg5.tape, (unhide HB4).tape, ← unhide HW3]; rfl
    · rw [hg5.output, (unhide HB4).output, ← unhide HW3]; rfl
    · have h1 := hg5.size
      have h2 := (unhide HB4).size
      omega
    · intro k hk hkl
      rw [hg5.block k (by have := (unhide HB4).size; omega) (fun e => by cases e; omega), (unhide HB4).block k (by omega), unhide HO3 k (by omega)]
    · intro k cs T fr hk h1 h2
      have hkl := lt_of_block hk
      have hkb : k ≠ b := by
        rintro rfl
        rw [(unhide HS2).blk] at hk
        simp only [Option.some.injEq, Obj.cells.injEq] at hk
        exact h1 hk.2.1.symm
      have hkm : k ≠ mb := by
        rintro rfl
        obtain ⟨es, cl, hm⟩ := (unhide HS2).isMap
        rw [hm] at hk
        cases hk
      rw [hg5.block k (by have := (unhide HB4).size; omega) (fun e => hkm (by cases e; rfl)), (unhide HB4).block k (by omega), unhide HO3 k hkb]
  refine onlyN ?_
  have hc5 := cells4 hP5
  have HP5 := hide hP5
  have HM5 := hide hM5
  have hob5 := (unhide HS2).ob
  have hbs5 : B ≤ w5.heap.size := by have := lt_of_block (unhide HP5); omega
  obtain ⟨k0, hki, hkz0, hkz1, hkz2⟩ := info_parts Try.infoI
  have hnl : (n : Int) < 600 := by have := (unhide HS2).room2; have := unhide HF; omega
  have HNL := hide hnl
  clear hP5 hM5 hidw hg5 hc5 HX2 HX3 HO3 HP3 HM3 HW3
  go_wp2_with fail
  refine wp_region_eff [false, false, false, false, false, false, false, false, false, true, true, false, false, true] [0, 11, 12] 9 ?A7 _ _ (by kernel_rfl) (by kernel_rfl) rfl ?lex7 ?free7 ?_
  case lex7 =>
    intro X
    have hneX := gb_ne X.w
    have g1 : ∀ y : Gb X.w, y.w.cell? ⟨b, 1, none⟩ = some (.int .i64 (last + 1)) := fun y => gb_cell (cell_below (cells4 (unhide HP5)).2.1 X.ok) y
    have g3 : ∀ y : Gb X.w, y.w.cell? ⟨b, 3, none⟩ = some (.slice a0 n c) := fun y => gb_cell (cell_below (cells4 (unhide HP5)).2.2.2.1 X.ok) y
    dsimp only [restM]
    repeat (go_big_quiet_step (fail))
    refine wpQuiet_nil ?_
    exact rfl
  case free7 =>
    intro j hj o ho W
    simp only [List.mem_cons, List.not_mem_nil, or_false] at hj
    rcases hj with rfl | rfl | rfl
    all_goals
      simp only [List.getElem?_cons_succ, List.getElem?_cons_zero, Option.some.injEq] at ho
      subst ho
      go_big_quiet_step (fail)
      refine wpQuiet_nil ?_
      exact rfl
  intro w6 b6
  have HB6 := hide b6
  have hid6 := (unhide HID).up b6
  have HR6 : Hid (∀ o, (w6.alloc o).ownsRow B 3 1 (.slice a0 n c) n (ic (rs.map Mg.id))) := fun o => by
    have h := own_alloc hid6 o
    rw [unhide HNM] at h
    exact h
  have hsz6 : B ≤ w6.heap.size := by have := b6.size; omega
  clear b6 hid6
  go_wp2_with fail
  refine onlyN ⟨(Below.refl _ _).alloc (Nat.le_refl _) _, ?_⟩
  dsimp only [effM]
  go_wp2_with (at_builtin; refine wpList_append_lies _ rfl _ _ 54 rfl B 3 k0 (.int .i64 0) 1 8 Try.undI hki hkz0 hkz1 hkz2 rfl (by decide) (.slice a0 n c) n (ic (rs.map Mg.id)) rfl (unhide HR6 _) ⟨w6.heap.size, 0, none⟩ 1 1 [.int .i64 (last + 1)] rfl rfl (news_lit w6 [.int .i64 (last + 1)] 3) ?d2 (by decide) ?d3 ?d4 ?d5 (w6.heap.size + 1) ?d6 ?_)
  case d2 => intro u hu; simp at hu; subst hu; rfl
  case d3 => unfold maxLen; omega
  case d4 => omega
  case d5 => simp; omega
  case d6 => simp
  intro g cap w7 hown hgrow hl hgb
  obtain ⟨t1, t2, t3, t4, t5⟩ := ids_turned (unhide HP5) (unhide HM5) (unhide HID) (unhide HS2).ob (unhide HB6) hgrow (unhide HNM).symm hown hl
  obtain ⟨p0, p1, p2, p3, fp⟩ := cells4 t1
  obtain ⟨u0, u1, u2, u3, uf⟩ := cells4 t2
  have hS8 : NtAt (w7.setCell ⟨b, 3, none⟩ (.slice (some ⟨g, 0, none⟩) (n + 1) cap)) B b mb (.slice (some ⟨g, 0, none⟩) (n + 1) cap) room (last + 1) (rs ++ [⟨last + 1, fr, to, tx⟩]) := by
    have hids := (unhide HS2).ids
    refine ⟨t2, ⟨_, ?_, (unhide HD2).put ⟨last + 1, fr, to, tx⟩ (fun r hr => by have := hids r hr; simp only; omega)⟩, ?_, ?_, ?_, ?_, (unhide HS2).room1, (unhide HS2).room2, by have := unhide HF; have := unhide HN; simp; omega, by omega, by omega, (unhide HS2).ob, (unhide HS2).om⟩
    · rw [show (last + 1).toNat = last.toNat + 1 by omega]
      exact t3
    · rw [List.map_append]
      exact t4
    · rw [List.pairwise_append]
      exact ⟨(unhide HS2).up, List.pairwise_singleton _ _, fun r hr y hy => by simp at hy; subst hy; have := hids r hr; simp only; omega⟩
    · intro r hr
      rw [List.mem_append] at hr
      rcases hr with hr | hr
      · have := hids r hr; omega
      · simp at hr; subst hr; simp only; omega
    · intro r hr
      rw [List.mem_append] at hr
      rcases hr with hr | hr
      · exact (unhide HS2).good r hr
      · simp at hr; subst hr; exact unhide HMG
  have HS8 := hide hS8
  have HK8 := hide ((unhide HK5).trans t5)
  clear hown hgrow hl t1 t2 t3 t4 t5 hS8
  go_wp2_with fail
  refine onlyN ?_
  generalize hw8 : w7.setCell ⟨b, 3, none⟩ (.slice (some ⟨g, 0, none⟩) (n + 1) cap) = w8 at *
  clear hw8
  go_wp2
  go_ret2
  exact ⟨rfl, ⟨_, unhide HS8⟩, unhide HK8⟩
end Go.Proofs.Ytmnjngkdiinnfaa

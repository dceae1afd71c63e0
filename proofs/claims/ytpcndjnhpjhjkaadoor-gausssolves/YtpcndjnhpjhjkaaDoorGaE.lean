/- gauss: clearOthers. -/
import Derived.Test.YtpcndjnhpjhjkaaDoorGaD
namespace Go.Proofs.YtpcndjnhpjhjkaaDoor
open Go.RowKit
set_option linter.unusedVariables false
attribute [local go_sem] Oper.semAt_some

/-- lines in a block of the call's own, from its first cell on -/
structure LnB (w : World) (base g : Nat) (L : List Ln) : Prop where
  blk : ∃ cur, w.heap[g]? = some (.cells cur 70 (0, 0))
  ge : base ≤ g
  cel : ∀ t, t < L.length → ∀ j, j < 4 → w.cell? ⟨g, t * 4 + j, none⟩ = (lcell (gt L t))[j]?
theorem LnB.lt {w : World} {base g : Nat} {L : List Ln} (h : LnB w base g L) : g < w.heap.size := by
  obtain ⟨cur, hc⟩ := h.blk
  exact lt_of_block hc
theorem LnB.free {w : World} {base g : Nat} {L : List Ln} (h : LnB w base g L) (j : Nat) : w.frozen? ⟨g, j, none⟩ = false := by
  obtain ⟨cur, hc⟩ := h.blk
  exact frozen_of_row w g j _ _ hc
theorem LnB.below {w w' : World} {base g : Nat} {L : List Ln} (h : LnB w base g L) (hb : Below w.heap.size w w') : LnB w' base g L := by
  obtain ⟨cur, hc⟩ := h.blk
  refine ⟨⟨cur, (hb.block g h.lt).trans hc⟩, h.ge, fun t ht j hj => ?_⟩
  rw [← h.cel t ht j hj]
  exact hb.cell (p := ⟨g, t * 4 + j, none⟩) h.lt
theorem LnB.there {w : World} {base g : Nat} {L : List Ln} (h : LnB w base g L) (t : Nat) (ht : t < L.length) : w.there g (t * 4) 4 := fun j hj => by
  refine ⟨?_, h.free _⟩
  rw [h.cel t ht j hj]
  obtain rfl | rfl | rfl | rfl : j = 0 ∨ j = 1 ∨ j = 2 ∨ j = 3 := by omega
  all_goals rfl
theorem heap_setCells_ne (g : Nat) : ∀ (vs : List Value) (o : Nat) (w : World) (k : Nat), k ≠ g → (w.setCells g o vs).heap[k]? = w.heap[k]?
  | [], _, _, _, _ => rfl
  | v :: vs, o, w, k, hk => by
    show ((w.setCell ⟨g, o, none⟩ v).setCells g (o + 1) vs).heap[k]? = _
    rw [heap_setCells_ne g vs (o + 1) _ k hk, Below.heap_setCell _ _ _ _ hk]
theorem size_setCells (g : Nat) : ∀ (vs : List Value) (o : Nat) (w : World), (w.setCells g o vs).heap.size = w.heap.size
  | [], _, _ => rfl
  | v :: vs, o, w => by
    show ((w.setCell ⟨g, o, none⟩ v).setCells g (o + 1) vs).heap.size = _
    rw [size_setCells g vs (o + 1)]
    simp
theorem kept_setCells {B g : Nat} {w0 : World} : ∀ (vs : List Value) (o : Nat) (w : World), Kept B g w0 w → Kept B g w0 (w.setCells g o vs)
  | [], _, _, h => h
  | v :: vs, o, w, h => kept_setCells vs (o + 1) _ (h.trans (kept_set B w g o v))
theorem blk_setCells {g : Nat} {t : TypeId} : ∀ (vs : List Value) (o : Nat) (w : World), (∃ cur, w.heap[g]? = some (.cells cur t (0, 0))) → ∃ cur, (w.setCells g o vs).heap[g]? = some (.cells cur t (0, 0))
  | [], _, _, h => h
  | v :: vs, o, w, ⟨cur, h⟩ => blk_setCells vs (o + 1) _ ⟨_, heap_setCell_same w g o _ t v h⟩
theorem LnB.stored {w : World} {base g : Nat} {L : List Ln} (h : LnB w base g L) (t : Nat) (ht : t < L.length) (x : Ln) : LnB (w.setCells g (t * 4) (lcell x)) base g (L.set t x) := by
  refine ⟨blk_setCells _ _ _ h.blk, h.ge, fun s hs j hj => ?_⟩
  rw [List.length_set] at hs
  rw [gt_set L t s x ht]
  have hl : (lcell x).length = 4 := rfl
  by_cases e : s = t
  · subst e
    rw [if_pos rfl, World.cell?_setCells_in g (lcell x) (s * 4) w (fun i hi => (h.there s hs i (by omega)).1) j (by omega), List.getElem?_eq_getElem (by omega)]
  · rw [if_neg e, ← h.cel s hs j hj]
    exact World.cell?_setCells_out g (lcell x) (t * 4) w ⟨g, s * 4 + j, none⟩ (fun _ _ => by simp only [hl]; omega)
/-- the first k cleared -/
def clrK (L : List Ln) (b i k : Nat) : List Ln := (List.range L.length).map fun t => if t < k then gt (clr L b i) t else gt L t
theorem clrK_len (L : List Ln) (b i k : Nat) : (clrK L b i k).length = L.length := by simp [clrK]
theorem gt_clrK (L : List Ln) (b i k t : Nat) (h : t < L.length) : gt (clrK L b i k) t = if t < k then gt (clr L b i) t else gt L t := by
  conv => lhs; unfold gt clrK List.getD
  simp [h]
theorem eq_of_gt {L M : List Ln} (hl : L.length = M.length) (h : ∀ t, t < L.length → gt L t = gt M t) : L = M := by
  refine List.ext_getElem hl (fun t h1 h2 => ?_)
  have := h t h1
  unfold gt List.getD at this
  rw [List.getElem?_eq_getElem h1, List.getElem?_eq_getElem h2] at this
  exact this
theorem clrK_zero (L : List Ln) (b i : Nat) : clrK L b i 0 = L := eq_of_gt (clrK_len _ _ _ _) (fun t ht => by rw [clrK_len] at ht; rw [gt_clrK _ _ _ _ _ ht]; simp)
theorem clrK_all (L : List Ln) (b i : Nat) : clrK L b i L.length = clr L b i := eq_of_gt (by rw [clrK_len, clr_len]) (fun t ht => by rw [clrK_len] at ht; rw [gt_clrK _ _ _ _ _ ht, if_pos ht])
theorem clrK_succ (L : List Ln) (b i k : Nat) (hk : k < L.length) : clrK L b i (k + 1) = (clrK L b i k).set k (gt (clr L b i) k) := eq_of_gt (by rw [List.length_set, clrK_len, clrK_len]) (fun t ht => by
  rw [clrK_len] at ht
  rw [gt_clrK _ _ _ _ _ ht, gt_set _ _ _ _ (by rw [clrK_len]; exact hk)]
  by_cases e : t = k
  · subst e; simp
  · rw [if_neg e, gt_clrK _ _ _ _ _ ht]
    by_cases h : t < k
    · rw [if_pos h, if_pos (by omega)]
    · rw [if_neg h, if_neg (by omega)])
theorem clrK_same (L : List Ln) (b i k : Nat) (hk : k < L.length) (h : k = b ∨ (gt L k).1.testBit i = false) : clrK L b i (k + 1) = clrK L b i k := eq_of_gt (by rw [clrK_len, clrK_len]) (fun t ht => by
  rw [clrK_len] at ht
  rw [gt_clrK _ _ _ _ _ ht, gt_clrK _ _ _ _ _ ht]
  by_cases e : t = k
  · subst e
    rw [if_pos (by omega), if_neg (by omega), gt_clr _ _ _ _ ht, if_pos h]
  · by_cases h2 : t < k
    · rw [if_pos h2, if_pos (by omega)]
    · rw [if_neg h2, if_neg (by omega)])
set_option maxRecDepth 100000 in
set_option maxHeartbeats 2000000 in
theorem clear_any (L : List Ln) (m base g cap but i : Nat) (hm : m ≤ 100000) (hs : Szd m L) (hN : L.length ≤ 100000) (hb : but < L.length) (hi : i < 192) (w : World) (hL : LnB w base g L) :
    Calls Tryd.prog 54 #[.slice (some ⟨g, 0, none⟩) L.length cap, .int .i64 but, .int .i64 i] w fun e w' => e = .returned (.tuple #[]) ∧ LnB w' base g (clr L but i) ∧ Kept w.heap.size g w w' := by
  have c0 := hL.cel but hb 0 (by omega)
  have c1 := hL.cel but hb 1 (by omega)
  have c2 := hL.cel but hb 2 (by omega)
  have c3 := hL.cel but hb 3 (by omega)
  simp only [lcell, List.getElem?_cons_zero, List.getElem?_cons_succ, Nat.add_zero] at c0 c1 c2 c3
  have HL := hide hL
  have HS := hide hs
  generalize hn : L.length = n at *
  have HN := hide hn
  have q0 : (but : Int) < n := by omega
  clear hL hs hn
  go_enter Tryd.func54, Tryd.ntmps54
  go_wp2_with fail
  go_loopw [17] (fun v wr => ∃ k : Nat, k ≤ n ∧ v = .int .i64 k ∧ LnB wr base g (clrK L but i k) ∧ wr.heap[w.heap.size]? = some (.cells (lcell (gt L but)).toArray 70 (0, 0)) ∧ Kept w.heap.size g w wr) (fun v _ => n - (intOf v).toNat)
  case atStart => exact ⟨0, by omega, rfl, by rw [clrK_zero]; exact (unhide HL).below ((Below.refl _ _).alloc (Nat.le_refl _) _), heap_alloc_new _ _, Kept.of_below ((Below.refl _ _).alloc (Nat.le_refl _) _)⟩
  case round =>
    clear c0 c1 c2 c3
    obtain ⟨k, hk, rfl, h1, h2, h3⟩ := hrel
    by_cases hlt : k < n
    · have hlt' : k < L.length := by rw [unhide HN]; exact hlt
      have hbl : but < L.length := by rw [unhide HN]; exact hb
      have hck : k < (clrK L but i k).length := by rw [clrK_len]; exact hlt'
      have hgk : gt (clrK L but i k) k = gt L k := by rw [gt_clrK _ _ _ _ _ hlt', if_neg (by omega)]
      have c0 := h1.cel k hck 0 (by omega)
      have c1 := h1.cel k hck 1 (by omega)
      have c2 := h1.cel k hck 2 (by omega)
      have c3 := h1.cel k hck 3 (by omega)
      rw [hgk] at c0 c1 c2 c3
      simp only [lcell, List.getElem?_cons_zero, List.getElem?_cons_succ, Nat.add_zero] at c0 c1 c2 c3
      have b0 := cell_of_row _ _ 0 _ _ _ h2
      have b1 := cell_of_row _ _ 1 _ _ _ h2
      have b2 := cell_of_row _ _ 2 _ _ _ h2
      have b3 := cell_of_row _ _ 3 _ _ _ h2
      simp only [lcell, List.getElem?_toArray, List.getElem?_cons_zero, List.getElem?_cons_succ] at b0 b1 b2 b3
      have q1 : (k : Int) < n := by omega
      have hsz2 := h3.size
      have hgw := (unhide HL).lt
      have H1 := hide h1
      have H2 := hide h2
      have H3 := hide h3
      have lk : (gt L k).2.length = m := unhide HS _ (gt_mem hlt')
      have lb : (gt L but).2.length = m := unhide HS _ (gt_mem hbl)
      have hhas := hide (rhas_i (gt L k).1 i hi)
      unfold rowV at hhas
      have hwlt : w.heap.size < wr.heap.size := lt_of_block h2
      by_cases hkb : k = but
      · have HNx : Hid (clrK L but i (k + 1) = clrK L but i k) := clrK_same L but i k hlt' (.inl hkb)
        have hb4 : Below wr.heap.size wr (wr.alloc (.cells (lcell (gt L k)).toArray 70)) := (Below.refl _ _).alloc (Nat.le_refl _) _
        have HB4 := hide hb4
        have HH : Hid ((lcell (gt L k)).toArray = #[.int .u64 (wd (gt L k).1 0), .int .u64 (wd (gt L k).1 1), .int .u64 (wd (gt L k).1 2), .string (bs (gt L k).2)]) := rfl
        clear h1 h2 h3 hck hgk hlt' hbl lk lb hb4
        subst hkb
        go_wp2
        go_roundw
        case rel => exact ⟨k + 1, by omega, by go_num, by rw [unhide HNx]; exact (unhide H1).below (unhide HB4), ((unhide HB4).block _ (by omega)).trans (unhide H2), (unhide H3).trans (Kept.of_below ((unhide HB4).mono (by omega)))⟩
        case measure => simp [intOf]; omega
      · have d1 : ((k : Int) == (but : Int)) = false := by simp; omega
        have d2 : ¬ (k : Int) = (but : Int) := by omega
        have hb4 : Below wr.heap.size wr (wr.alloc (.cells (lcell (gt L k)).toArray 70)) := (Below.refl _ _).alloc (Nat.le_refl _) _
        cases hbit : (gt L k).1.testBit i with
        | false =>
          have HNx : Hid (clrK L but i (k + 1) = clrK L but i k) := clrK_same L but i k hlt' (.inr hbit)
          have HB4 := hide hb4
          rw [hbit] at hhas
          clear h1 h2 h3 hck hgk hlt' hbl lk lb hb4 hbit hkb
          go_wp2_with fail
          refine (unhide hhas _).mono ?_
          rintro e w1 ⟨rfl, b1'⟩
          have HB5 := hide ((unhide HB4).trans (b1'.mono (by simp)))
          clear b1'
          go_wp2
          go_roundw
          case rel => exact ⟨k + 1, by omega, by go_num, by rw [unhide HNx]; exact (unhide H1).below (unhide HB5), ((unhide HB5).block _ (by omega)).trans (unhide H2), (unhide H3).trans (Kept.of_below ((unhide HB5).mono (by omega)))⟩
          case measure => simp [intOf]; omega
        | true =>
          have HNx : Hid (clrK L but i (k + 1) = (clrK L but i k).set k (addV (gt L k) (gt L but))) := by
            show _ = _
            rw [clrK_succ _ _ _ _ hlt', gt_clr _ _ _ _ hlt', if_neg (by simp [hkb, hbit])]
          have hxor := hide (xor_any (gt L k).2 (gt L but).2 · (by omega) (by omega))
          have hplus := hide (rplus_any (gt L k).1 (gt L but).1)
          have hxe : Hid (xorR (gt L k).2 (gt L but).2 = xorL (gt L k).2 (gt L but).2) := by
            show _ = _
            unfold xorR; rw [if_pos (by rw [lk, lb])]
          have HB4 := hide hb4
          rw [hbit] at hhas
          have hth : ∀ w', Below wr.heap.size wr w' → w'.there g (k * 4) 4 := fun w' h => ((unhide H1).below h).there k hck
          have HTH := hide hth
          have HST : Hid (∀ w', Below wr.heap.size wr w' → LnB (w'.setCells g (k * 4) (lcell (addV (gt L k) (gt L but)))) base g (clrK L but i (k + 1))) := fun w' h => by
            rw [unhide HNx]
            exact ((unhide H1).below h).stored k hck _
          have HLC : Hid (lcell (addV (gt L k) (gt L but)) = [.int .u64 (wd ((gt L k).1 ^^^ (gt L but).1) 0), .int .u64 (wd ((gt L k).1 ^^^ (gt L but).1) 1), .int .u64 (wd ((gt L k).1 ^^^ (gt L but).1) 2), .string (bs (xorL (gt L k).2 (gt L but).2))]) := rfl
          rw [unhide HLC] at HST
          rw [unhide hxe] at hxor
          unfold rowV at hplus
          have hgr : g < wr.heap.size := by omega
          clear HLC hxe HNx hth h1 h2 h3 hck hgk hlt' hbl lk lb hb4 hbit hkb
          generalize ((wd ((gt L k).1 ^^^ (gt L but).1) 0 : Nat) : Int) = z0 at *
          generalize ((wd ((gt L k).1 ^^^ (gt L but).1) 1 : Nat) : Int) = z1 at *
          generalize ((wd ((gt L k).1 ^^^ (gt L but).1) 2 : Nat) : Int) = z2 at *
          generalize bs (xorL (gt L k).2 (gt L but).2) = ZD at *
          generalize xorE (gt L k).2 (gt L but).2 = XE at *
          go_wp2_with fail
          refine (unhide hhas _).mono ?_
          rintro e w1 ⟨rfl, b1'⟩
          have HB5 := hide ((unhide HB4).trans (b1'.mono (by simp)))
          have n0 := cell_below (w := wr.alloc (.cells #[.int .u64 (wd (gt L k).1 0), .int .u64 (wd (gt L k).1 1), .int .u64 (wd (gt L k).1 2), .string (bs (gt L k).2)] 70)) (g := wr.heap.size) (o := 0) (v := .int .u64 (wd (gt L k).1 0)) (by rw [cell_of_row _ _ _ _ _ (0, 0) (heap_alloc_new _ _)]; rfl) b1'
          have n1 := cell_below (w := wr.alloc (.cells #[.int .u64 (wd (gt L k).1 0), .int .u64 (wd (gt L k).1 1), .int .u64 (wd (gt L k).1 2), .string (bs (gt L k).2)] 70)) (g := wr.heap.size) (o := 1) (v := .int .u64 (wd (gt L k).1 1)) (by rw [cell_of_row _ _ _ _ _ (0, 0) (heap_alloc_new _ _)]; rfl) b1'
          have n2 := cell_below (w := wr.alloc (.cells #[.int .u64 (wd (gt L k).1 0), .int .u64 (wd (gt L k).1 1), .int .u64 (wd (gt L k).1 2), .string (bs (gt L k).2)] 70)) (g := wr.heap.size) (o := 2) (v := .int .u64 (wd (gt L k).1 2)) (by rw [cell_of_row _ _ _ _ _ (0, 0) (heap_alloc_new _ _)]; rfl) b1'
          have n3 := cell_below (w := wr.alloc (.cells #[.int .u64 (wd (gt L k).1 0), .int .u64 (wd (gt L k).1 1), .int .u64 (wd (gt L k).1 2), .string (bs (gt L k).2)] 70)) (g := wr.heap.size) (o := 3) (v := .string (bs (gt L k).2)) (by rw [cell_of_row _ _ _ _ _ (0, 0) (heap_alloc_new _ _)]; rfl) b1'
          have m3 := cell_below b3 (unhide HB5)
          clear b1'
          go_wp2_with fail
          refine (unhide hxor _).mono ?_
          rintro e w2 ⟨rfl, b2'⟩
          have HB6 := hide ((unhide HB5).trans (b2'.mono (unhide HB5).size))
          have p0 := cell_below n0 b2'
          have p1 := cell_below n1 b2'
          have p2 := cell_below n2 b2'
          have r0 := cell_below b0 (unhide HB6)
          have r1 := cell_below b1 (unhide HB6)
          have r2 := cell_below b2 (unhide HB6)
          clear b2' n0 n1 n2 n3 m3
          go_wp2_with fail
          refine (unhide hplus _).mono ?_
          rintro e w3 ⟨rfl, b3'⟩
          have HB7 := hide ((unhide HB6).trans (b3'.mono (unhide HB6).size))
          have hT := unhide HTH w3 (unhide HB7)
          have HST2 := hide (unhide HST w3 (unhide HB7))
          clear b3' p0 p1 p2 r0 r1 r2 HST HTH
          have hth4 : Hid (w3.there g (k * 4) (#[.int .u64 z0, .int .u64 z1, .int .u64 z2, .string ZD] : Array Value).size) := hT
          have hone : Hid ((#[.int .u64 z0, .int .u64 z1, .int .u64 z2, .string ZD] : Array Value).all (·.oneCell') = true) := by show _ = _; simp [Value.oneCell']
          have hinf : Hid ((Tryd.prog.info? 70).map (·.size) = some (#[.int .u64 z0, .int .u64 z1, .int .u64 z2, .string ZD] : Array Value).size) := by show _ = _; kernel_rfl
          clear hT
          go_wp2_with (refine wpList_store_mid rfl 70 (.tmp 49) (.tmp 48) rfl g (k * 4) #[.int .u64 z0, .int .u64 z1, .int .u64 z2, .string ZD] rfl rfl (unhide hth4) (unhide hinf) (unhide hone) ?_)
          go_roundw
          case rel => exact ⟨k + 1, by omega, by go_num, unhide HST2, (heap_setCells_ne g _ _ _ _ (by omega)).trans (((unhide HB7).block _ (by omega)).trans (unhide H2)), kept_setCells _ _ _ ((unhide H3).trans (Kept.of_below ((unhide HB7).mono (by omega))))⟩
          case measure => simp [intOf]; omega
    · have hkn : k = n := by omega
      subst hkn
      have q1 : ¬ (k : Int) < k := by omega
      rw [← unhide HN, clrK_all] at h1
      have H1 := hide h1
      have H3 := hide h3
      clear h1 h2 h3
      go_wp2
      go_end0
      exact ⟨rfl, unhide H1, unhide H3⟩
end Go.Proofs.YtpcndjnhpjhjkaaDoor

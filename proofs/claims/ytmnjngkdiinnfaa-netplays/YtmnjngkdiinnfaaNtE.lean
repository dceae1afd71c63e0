/- net: Take, Lose, Twice. -/
import Derived.Test.YtmnjngkdiinnfaaNtD
namespace Go.Proofs.Ytmnjngkdiinnfaa
open Go.RowKit
set_option linter.unusedVariables false
attribute [local go_sem] Oper.semAt_some

/-- the place of a number in rising ones, and what is left without it -/
theorem sorted_cut (x : Int) : ∀ (l : List Int), l.Pairwise (· < ·) → x ∈ l → l.countP (· < x) < l.length ∧ l.take (l.countP (· < x)) ++ l.drop (l.countP (· < x) + 1) = l.filter fun y => decide (y ≠ x)
  | [], _, h => absurd h (by simp)
  | a :: l, hp, hx => by
    rw [List.pairwise_cons] at hp
    by_cases e : a = x
    · subst e
      have h1 : l.countP (· < a) = 0 := by
        rw [List.countP_eq_zero]
        intro y hy
        have := hp.1 y hy
        simp
        omega
      have h2 : l.filter (fun y => decide (y ≠ a)) = l := by
        rw [List.filter_eq_self]
        intro y hy
        have := hp.1 y hy
        simp
        omega
      rw [List.countP_cons, h1]
      refine ⟨by simp, ?_⟩
      have h3 : List.filter (fun y => decide (y ≠ a)) (a :: l) = List.filter (fun y => decide (y ≠ a)) l := by simp
      rw [h3, h2]
      simp
    · have hx' : x ∈ l := by
        rcases List.mem_cons.1 hx with h | h
        · exact absurd h.symm e
        · exact h
      have hlt := hp.1 x hx'
      obtain ⟨h1, h2⟩ := sorted_cut x l hp.2 hx'
      have h3 : decide (a < x) = true := decide_eq_true hlt
      rw [List.countP_cons, if_pos h3]
      refine ⟨by simp; omega, ?_⟩
      rw [List.take_succ_cons, List.drop_succ_cons, List.cons_append, h2]
      simp [e]
theorem setCells_blk (g : Nat) (T : TypeId) : ∀ (vs : List Value) (o : Nat) (w : World) (cur : Array Value), w.heap[g]? = some (.cells cur T (0, 0)) → o + vs.length ≤ cur.size →
    ∃ cur', (w.setCells g o vs).heap[g]? = some (.cells cur' T (0, 0)) ∧ cur'.size = cur.size ∧ (∀ j, j < o → cur'[j]? = cur[j]?) ∧ ∀ j, j < vs.length → cur'[o + j]? = vs[j]?
  | [], o, w, cur, h, _ => ⟨cur, h, rfl, fun _ _ => rfl, fun j hj => absurd hj (by simp)⟩
  | v :: r, o, w, cur, h, hl => by
    have h1 := heap_setCell_same w g o cur T v h
    obtain ⟨cur', k1, k2, k3, k4⟩ := setCells_blk g T r (o + 1) (w.setCell ⟨g, o, none⟩ v) _ h1 (by simp at hl ⊢; omega)
    refine ⟨cur', k1, by rw [k2]; simp, fun j hj => ?_, fun j hj => ?_⟩
    · rw [k3 j (by omega), Array.getElem?_setIfInBounds_ne (by omega)]
    · cases j with
      | zero =>
        rw [Nat.add_zero, k3 o (by omega)]
        simp at hl
        simp [show o < cur.size by omega]
      | succ j =>
        have := k4 j (by simpa using hj)
        rw [show o + (j + 1) = o + 1 + j by omega, this]
        rfl
theorem setCells_kept (B g : Nat) : ∀ (vs : List Value) (o : Nat) (w : World), Kept B g w (w.setCells g o vs)
  | [], o, w => Kept.refl _ _ _
  | v :: r, o, w => (kept_set B w g o v).trans (setCells_kept B g r (o + 1) _)
/-- a row of the net's own, turned in its cells -/
theorem own_cells {w : World} {B g n c : Nat} {l l' z : List Int} (h : OwnI w B (.slice (some ⟨g, 0, none⟩) n c) l) (hl : l'.length + z.length = l.length) (q : Nat) :
    OwnI ((w.drewN q).setCells g 0 ((l' ++ z).map (Value.int .i64))) B (.slice (some ⟨g, 0, none⟩) l'.length c) l' := by
  have h8 := (show World.ownsRow _ _ _ _ _ _ _ from h)
  refine ⟨by simp [ic], ?_⟩
  rcases h8.2 with ⟨h1, h2⟩ | ⟨g', cap', cur, h1, h2, h3, h4, h5, h6, h7⟩
  · cases h1
  · simp only [Value.slice.injEq, Option.some.injEq, Addr.mk.injEq] at h1
    obtain ⟨⟨rfl, _⟩, hnl, rfl⟩ := h1
    obtain ⟨cur', k1, k2, k3, k4⟩ := setCells_blk g 3 ((l' ++ z).map (Value.int .i64)) 0 (w.drewN q) cur h3 (by simp; omega)
    refine .inr ⟨g, c, cur', rfl, h2, k1, by omega, h5, by omega, ?_⟩
    refine List.ext_getElem? fun j => ?_
    rw [List.getElem?_take]
    by_cases hj : j < l'.length * 1
    · rw [if_pos hj]
      have := k4 j (by simp; omega)
      rw [Nat.zero_add] at this
      rw [Array.getElem?_toList, this]
      simp only [ic, List.getElem?_map]
      rw [List.getElem?_append_left (by omega)]
    · rw [if_neg hj, List.getElem?_eq_none (by simp [ic]; omega)]
theorem own_set {w : World} {B b : Nat} {v : Value} {l : List Int} {cs : Array Value} {T : TypeId} (h : OwnI w B v l) (hb : w.heap[b]? = some (.cells cs T (0, 0))) (hT : T ≠ 3) (j : Nat) (x : Value) : OwnI (w.setCell ⟨b, j, none⟩ x) B v l := by
  refine ⟨h.1, ?_⟩
  rcases h.2 with ⟨h1, h2⟩ | ⟨g, cap, cur, h1, h2, h3, h4⟩
  · exact .inl ⟨h1, h2⟩
  · have hne : g ≠ b := by
      rintro rfl
      rw [hb] at h3
      simp only [Option.some.injEq, Obj.cells.injEq] at h3
      exact hT h3.2.1
    exact .inr ⟨g, cap, cur, h1, h2, (Below.heap_setCell _ _ _ _ hne).trans h3, h4⟩
/-- a datagram lies in a block; the net is told -/
structure TkF (w : World) (B b mb g : Nat) (room last : Int) (rs : List Mg) (x : Mg) (w' : World) : Prop where
  blk : w'.heap[g]? = some (.cells (gmC x) 30 (0, 0))
  nt : ∃ iv', NtAt w' B b mb iv' room last rs
  kn : KN B w w'
set_option maxRecDepth 100000 in
theorem take_nil (k : Int) (w : World) : Calls Try.prog 16 #[.pointer none, .int .i64 k] w fun e w' => e = .returned (.tuple #[zGm, .int .i64 1]) ∧ Below w.heap.size w w' := by
  have b0 : Below w.heap.size w (w.alloc (.cells (gmC zM) 30)) := (Below.refl _ _).alloc (Nat.le_refl _) _
  have h0 := heap_alloc_new w (.cells (gmC zM) 30)
  have H0 := hide h0
  have B0 := hide b0
  clear h0 b0
  go_enter Try.func16, Try.ntmps16
  go_wp2_with fail
  refine (find_nil k _).mono ?_
  rintro e w1 ⟨rfl, b1⟩
  have H1 := hide ((b1.block _ (lt_of_block (unhide H0))).trans (unhide H0))
  have B1 := hide ((unhide B0).trans (b1.mono (unhide B0).size))
  have HZ := hide (heap_alloc_new w1 (.cells (gmC zM) 30))
  have HG := hide (newGm w1 zM zM)
  clear b1
  go_wp2_with (refine wpList_store_row_to rfl 30 (.tmp 6) (.tmp 14) rfl w1.heap.size (gmC zM) rfl rfl 30 (gmC zM) (unhide HZ) (gm_info zM) rfl (gm_all zM) (NewGm w1 zM) (unhide HG) ?_)
  intro w2 h2
  have H2 := hide ((h2.be.block _ (lt_of_block (unhide H1))).trans (unhide H1))
  have B2 := hide ((unhide B1).trans (h2.be.mono (unhide B1).size))
  have H3 : Hid (NewGm w zM (w2.setRow w.heap.size (gmC zM))) := ⟨setRow_heap _ _ _ _ _ _ (unhide H2), ⟨(unhide B2).os, (unhide B2).tape, (unhide B2).output, by simpa [World.setRow] using (unhide B2).size, fun i hi => (setRow_other _ _ i _ (by omega)).trans ((unhide B2).block i hi)⟩⟩
  clear h2 HZ HG
  go_wp2_with (refine wpList_store_row_to rfl 30 (.tmp 4) (.tmp 18) rfl w.heap.size (gmC zM) rfl rfl 30 (gmC zM) (unhide H2) (gm_info zM) rfl (gm_all zM) (NewGm w zM) (unhide H3) ?_)
  intro w3 h3
  have H4 := hide h3
  clear h3
  go_wp2
  exact ret_row2 (p := 4) (q := 5) (ty := 30) (by kernel_rfl) w.heap.size 30 (gmC zM) (0, 0) _ _ rfl rfl (unhide H4).blk rfl Try.underlying30 (gm_info zM) ⟨rfl, (unhide H4).be⟩
set_option maxRecDepth 100000 in
theorem take_none (B b mb : Nat) (iv : Value) (room last : Int) (rs : List Mg) (k : Int) (hk : (Lit.int .i64 k).wf = true) (w : World) (hS : NtAt w B b mb iv room last rs) (hn : ∀ r ∈ rs, r.id ≠ k) :
    Calls Try.prog 16 #[.pointer (some ⟨b, 0, none⟩), .int .i64 k] w fun e w' => e = .returned (.tuple #[zGm, .int .i64 4]) ∧ Below w.heap.size w w' := by
  have b0 : Below w.heap.size w (w.alloc (.cells (gmC zM) 30)) := (Below.refl _ _).alloc (Nat.le_refl _) _
  have h0 := heap_alloc_new w (.cells (gmC zM) 30)
  have hf := hide (find_none B b mb iv room last rs k hk _ (hS.kept b0) hn)
  have H0 := hide h0
  have B0 := hide b0
  clear h0 b0 hS hn hk
  go_enter Try.func16, Try.ntmps16
  go_wp2_with fail
  refine (unhide hf).mono ?_
  rintro e w1 ⟨rfl, b1⟩
  have H1 := hide ((b1.block _ (lt_of_block (unhide H0))).trans (unhide H0))
  have B1 := hide ((unhide B0).trans (b1.mono (unhide B0).size))
  have HZ := hide (heap_alloc_new w1 (.cells (gmC zM) 30))
  have HG := hide (newGm w1 zM zM)
  clear b1 hf
  go_wp2_with (refine wpList_store_row_to rfl 30 (.tmp 6) (.tmp 14) rfl w1.heap.size (gmC zM) rfl rfl 30 (gmC zM) (unhide HZ) (gm_info zM) rfl (gm_all zM) (NewGm w1 zM) (unhide HG) ?_)
  intro w2 h2
  have H2 := hide ((h2.be.block _ (lt_of_block (unhide H1))).trans (unhide H1))
  have B2 := hide ((unhide B1).trans (h2.be.mono (unhide B1).size))
  have H3 : Hid (NewGm w zM (w2.setRow w.heap.size (gmC zM))) := ⟨setRow_heap _ _ _ _ _ _ (unhide H2), ⟨(unhide B2).os, (unhide B2).tape, (unhide B2).output, by simpa [World.setRow] using (unhide B2).size, fun i hi => (setRow_other _ _ i _ (by omega)).trans ((unhide B2).block i hi)⟩⟩
  clear h2 HZ HG
  go_wp2_with (refine wpList_store_row_to rfl 30 (.tmp 4) (.tmp 18) rfl w.heap.size (gmC zM) rfl rfl 30 (gmC zM) (unhide H2) (gm_info zM) rfl (gm_all zM) (NewGm w zM) (unhide H3) ?_)
  intro w3 h3
  have H4 := hide h3
  clear h3
  go_wp2
  exact ret_row2 (p := 4) (q := 5) (ty := 30) (by kernel_rfl) w.heap.size 30 (gmC zM) (0, 0) _ _ rfl rfl (unhide H4).blk rfl Try.underlying30 (gm_info zM) ⟨rfl, (unhide H4).be⟩
set_option maxRecDepth 100000 in
set_option maxHeartbeats 2000000 in
theorem take_yes (B b mb : Nat) (iv : Value) (room last : Int) (rs : List Mg) (x : Mg) (hx : x ∈ rs) (w : World) (hS : NtAt w B b mb iv room last rs) :
    Calls Try.prog 16 #[.pointer (some ⟨b, 0, none⟩), .int .i64 x.id] w fun e w' => e = .returned (.tuple #[gmV x, .int .i64 0]) ∧ (∃ iv', NtAt w' B b mb iv' room last (rs.filter fun r => decide (r.id ≠ x.id))) ∧ KN B w w' := by
  have b0 : Below w.heap.size w (w.alloc (.cells (gmC zM) 30)) := (Below.refl _ _).alloc (Nat.le_refl _) _
  have h0 := heap_alloc_new w (.cells (gmC zM) 30)
  have hf := hide (find_yes B b mb iv room last rs x hx _ (hS.kept b0))
  have H0 := hide h0
  have B0 := hide b0
  have hBw : B ≤ w.heap.size := by have := hS.ob; have := hS.blt; omega
  have HS := hide hS
  have HX := hide hx
  obtain ⟨xi, xf, xt, xx⟩ := x
  clear h0 b0 hS hx
  go_enter Try.func16, Try.ntmps16
  go_wp2_with fail
  refine (unhide hf).mono ?_
  rintro e w1 ⟨rfl, b1⟩
  have H1 := hide ((b1.block _ (lt_of_block (unhide H0))).trans (unhide H0))
  have B1 := hide ((unhide B0).trans (b1.mono (unhide B0).size))
  have HZ := hide (heap_alloc_new w1 (.cells (gmC zM) 30))
  have HG := hide (newGm w1 zM ⟨xi, xf, xt, xx⟩)
  clear b1 hf
  go_wp2_with (refine wpList_store_row_to rfl 30 (.tmp 6) (.tmp 14) rfl w1.heap.size (gmC ⟨xi, xf, xt, xx⟩) rfl rfl 30 (gmC zM) (unhide HZ) (gm_info _) rfl (gm_all _) (NewGm w1 ⟨xi, xf, xt, xx⟩) (unhide HG) ?_)
  intro w2 h2
  have H2 := hide ((h2.be.block _ (lt_of_block (unhide H1))).trans (unhide H1))
  have B2 := hide ((unhide B1).trans (h2.be.mono (unhide B1).size))
  have HX2 := hide h2.blk
  have HS2 := hide ((unhide HS).kept (unhide B2))
  clear h2 HZ HG HS B1 H1 H0 B0
  obtain ⟨D, hM, hD⟩ := (unhide HS2).map
  obtain ⟨p0, p1, p2, p3, fp⟩ := cells4 (unhide HS2).blk
  have HM := hide hM
  have HD := hide hD
  have hkw : (Lit.int .i64 xi).wf = true := WalkArith.wf_i64 (by have := (unhide HS2).ids _ (unhide HX); have := (unhide HS2).last1; simp only at *; omega)
  have HK := hide hkw
  clear hM hD hkw
  go_wp2_with (at_delete; refine wpList_delete_own _ rfl _ _ 64 3 rfl 30 keyed Try.underlying64 stR mb last.toNat D rfl (unhide HM) _ (kI xi) rfl (keyOf_k (unhide HK)) ?_)
  intro w3 hM3 ht3
  have hg3 := ht3.grown
  have hmb := (unhide HS2).ne
  have hismap := (unhide HS2).isMap
  have hob := (unhide HS2).ob
  have hom := (unhide HS2).om
  have nomap : ∀ (k : Nat) (cs : Array Value) (T : TypeId) (fr : Nat × Nat), w2.heap[k]? = some (.cells cs T fr) → k ≠ mb := by
    rintro k cs T fr hk rfl
    obtain ⟨es, cl, hm⟩ := hismap
    rw [hm] at hk
    cases hk
  have typ3 : ∀ (k : Nat) (cs : Array Value) (T : TypeId) (fr : Nat × Nat), w2.heap[k]? = some (.cells cs T fr) → w3.heap[k]? = some (.cells cs T fr) := fun k cs T fr hk => (hg3.block k (lt_of_block hk) (fun e => nomap k cs T fr hk (by cases e; rfl))).trans hk
  have P3 := typ3 _ _ _ _ (unhide HS2).blk
  have hid3 : OwnI w3 B iv (rs.map Mg.id) := by
    refine ⟨(unhide HS2).idv.1, ?_⟩
    rcases (unhide HS2).idv.2 with ⟨h1, h2⟩ | ⟨g, cap, cur, h1, h2, h3, h4⟩
    · exact .inl ⟨h1, h2⟩
    · exact .inr ⟨g, cap, cur, h1, h2, typ3 _ _ _ _ h3, h4⟩
  have hmem : xi ∈ rs.map Mg.id := List.mem_map.2 ⟨_, unhide HX, rfl⟩
  have hsort : (rs.map Mg.id).Pairwise (· < ·) := by rw [List.pairwise_map]; exact (unhide HS2).up
  obtain ⟨hcut1, hcut2⟩ := sorted_cut xi _ hsort hmem
  have hl600 : (rs.map Mg.id).length ≤ 600 := by have := (unhide HS2).len; have := (unhide HS2).room2; rw [List.length_map]; omega
  have hfil : (rs.map Mg.id).filter (fun y => decide (y ≠ xi)) = (rs.filter fun r => decide (r.id ≠ xi)).map Mg.id := by
    rw [List.filter_map]
    rfl
  obtain ⟨g, c, hiv, hgB, cur, hcur, hnc, hcm, hsz⟩ : ∃ g c, iv = .slice (some ⟨g, 0, none⟩) (rs.map Mg.id).length c ∧ B ≤ g ∧ ∃ cur, w3.heap[g]? = some (.cells cur 3 (0, 0)) ∧ (rs.map Mg.id).length ≤ c ∧ c ≤ maxLen ∧ True := by
    rcases (show World.ownsRow _ _ _ _ _ _ _ from hid3).2 with ⟨h1, h2⟩ | ⟨g, cap, cur, h1, h2, h3, h4, h5, h6, h7⟩
    · rw [List.length_eq_zero_iff.1 h2] at hmem
      cases hmem
    · exact ⟨g, cap, h1, h2, cur, h3, h4, h5, trivial⟩
  subst hiv
  obtain ⟨ax, cx, hax, hI3, _, _⟩ := OwnI.ints hid3
  simp only [Value.slice.injEq] at hax
  obtain ⟨rfl, _, rfl⟩ := hax
  have hcell : ∀ j, j < (rs.map Mg.id).length → w3.cell? ⟨g, 0 + j, none⟩ = some (.int .i64 ((rs.map Mg.id).getD j 0)) := by
    intro j hj
    obtain ⟨g', o', h1, h2⟩ := hI3 j hj
    simp only [Option.some.injEq, Addr.mk.injEq, and_true] at h1
    obtain ⟨rfl, rfl⟩ := h1
    rw [h2, List.getD_eq_getElem?_getD, List.getElem?_eq_getElem hj]
    rfl
  have hfree : ∀ j, j < (rs.map Mg.id).length → w3.frozen? ⟨g, 0 + j, none⟩ = false := fun j _ => frozen_of_row _ _ _ _ _ hcur
  generalize hL : rs.map Mg.id = L at *
  obtain ⟨k, hk⟩ : ∃ k, k = L.countP (· < xi) := ⟨_, rfl⟩
  obtain ⟨n, hn⟩ : ∃ n, n = L.length := ⟨_, rfl⟩
  have hbs := hide (Try.slices_BinarySearch_int g 0 L.length c L xi w3 (Nat.le_refl _) (by omega) hcell (by rw [List.take_length]; exact hsort.imp (fun h => by omega)))
  have hde := hide (fun q => Try.slices_Delete_int_cells g 0 L.length c k (k + 1) L (w3.drewN q) (Nat.le_refl _) hnc hcm (by omega) (by omega) hcell hfree)
  rw [List.take_length, ← hk] at hbs
  rw [List.take_length, show ((k + 1 : Nat) : Int) = (k : Int) + 1 by omega, show L.length - (k + 1 - k) = L.length - 1 by omega] at hde
  rw [← hn] at hbs hde P3 hid3 hnc
  rw [← hk] at hcut1 hcut2
  rw [← hn] at hcut1
  have HCUT := hide hcut2
  have HID3 := hide hid3
  have HP3 := hide P3
  clear p0 p1 p2 p3 fp
  obtain ⟨p0, p1, p2, p3, fp⟩ := cells4 P3
  have H3 := hide (typ3 _ _ _ _ (unhide H2))
  have HX3 := hide (typ3 _ _ _ _ (unhide HX2))
  have HM3 := hide hM3
  have HFIL := hide hfil
  have HLL : Hid (n = L.length) := hn
  have hsz3 : w2.heap.size ≤ w3.heap.size := hg3.size
  have hk23 : KN B w2 w3 := ⟨hg3.os, hg3.tape, hg3.output, hg3.size, fun q hq hql => hg3.block q hql (fun e => by cases e; omega), fun q cs T fr hq _ _ => (typ3 _ _ _ _ hq).trans hq.symm⟩
  have HK3 := hide ((KN.of_below (B := B) (unhide B2)).trans hk23)
  have hgb : g ≠ b := by
    rintro rfl
    rw [unhide HP3] at hcur
    simp only [Option.some.injEq, Obj.cells.injEq] at hcur
    exact absurd hcur.2.1 (by decide)
  have hgl := lt_of_block hcur
  have hgm : g ≠ mb := by
    rintro rfl
    obtain ⟨es, cl, hm, _⟩ := unhide HM3
    rw [hm] at hcur
    cases hcur
  have hg4 : g ≠ w.heap.size := by
    rintro rfl
    rw [unhide H3] at hcur
    simp only [Option.some.injEq, Obj.cells.injEq] at hcur
    exact absurd hcur.2.1 (by decide)
  have hg6 : g ≠ w1.heap.size := by
    rintro rfl
    rw [unhide HX3] at hcur
    simp only [Option.some.injEq, Obj.cells.injEq] at hcur
    exact absurd hcur.2.1 (by decide)
  have HCU := hide hcur
  have HNE := hide (And.intro hgb (And.intro hgm (And.intro hg4 hg6)))
  have hn600 : n ≤ 600 := by rw [hn]; exact hl600
  clear hcell hfree typ3 nomap hmem hsort hk23 hcut2 hid3 P3 hl600 hfil hI3 hg3 ht3 hismap hcur hgb hgm hg4 hg6 hM3 hn hk
  go_wp2_with fail
  refine (unhide hbs).mono ?_
  rintro e w4 ⟨rfl, q1, hw4⟩
  have hde4 := hide (unhide hde q1)
  have P4 : w4.heap[b]? = some (.cells #[.int .i64 room, .int .i64 last, .map (some mb), .slice (some ⟨g, 0, none⟩) n c] 66 (0, 0)) := by rw [hw4]; exact unhide HP3
  have HW4 := hide hw4
  rw [← hw4] at hde4
  clear hw4 p0 p1 p2 p3 fp hbs hde
  obtain ⟨p0, p1, p2, p3, fp⟩ := cells4 P4
  have HP4 := hide P4
  clear P4
  go_wp2_with fail
  refine (unhide hde4).mono ?_
  rintro e w5 ⟨rfl, q2, hw5⟩
  rw [unhide HW4] at hw5
  have hlen' : (L.take k ++ L.drop (k + 1)).length + ([0] : List Int).length = L.length := by
    rw [List.length_append, List.length_take, List.length_drop]
    have := unhide HLL
    simp
    omega
  have hown5 := own_cells (w := w3.drewN q1) (l' := L.take k ++ L.drop (k + 1)) (z := [0]) (unhide HID3) hlen' q2
  rw [show [(0 : Int)] = List.replicate (k + 1 - k) 0 by rw [Nat.add_sub_cancel_left]; rfl, ← hw5, unhide HCUT] at hown5
  have hlf : (L.filter fun y => decide (y ≠ xi)).length = n - 1 := by
    rw [← unhide HCUT]
    have := unhide HLL
    simp at hlen'
    simp
    omega
  have hkk : Kept w3.heap.size g w3 w5 := by
    have h1 : Kept w3.heap.size g w3 ((w3.drewN q1).drewN q2) := ⟨rfl, rfl, rfl, Nat.le_refl _, fun _ _ _ => rfl⟩
    rw [hw5]
    exact h1.trans (setCells_kept _ g _ 0 _)
  have hk5 : KN B w3 w5 := by
    refine ⟨hkk.os, hkk.tape, hkk.output, hkk.size, fun q hq hql => hkk.block q hql (by omega), fun q cs T fr hq h1 h2 => hkk.block q (lt_of_block hq) ?_⟩
    rintro rfl
    rw [unhide HCU] at hq
    simp only [Option.some.injEq, Obj.cells.injEq] at hq
    exact h2 hq.2.1.symm
  have P5 := (hkk.block b (lt_of_block (unhide HP3)) (fun e => (unhide HNE).1 e.symm)).trans (unhide HP3)
  have h45 := (hkk.block _ (lt_of_block (unhide H3)) (fun e => (unhide HNE).2.2.1 e.symm)).trans (unhide H3)
  have hx5 := (hkk.block _ (lt_of_block (unhide HX3)) (fun e => (unhide HNE).2.2.2 e.symm)).trans (unhide HX3)
  have hM5 : StMap w5 mb last.toNat (D.del (kI xi)) := by
    obtain ⟨es, cl, h1, h2⟩ := unhide HM3
    exact ⟨es, cl, (hkk.block mb (Array.getElem?_eq_some_iff.1 h1).1 (fun e => (unhide HNE).2.1 e.symm)).trans h1, h2⟩
  have hS6 : NtAt (w5.setCell ⟨b, 3, none⟩ (.slice (some ⟨g, 0, none⟩) (n - 1) c)) B b mb (.slice (some ⟨g, 0, none⟩) (n - 1) c) room last (rs.filter fun r => decide (r.id ≠ xi)) := by
    have hS := unhide HS2
    refine ⟨?_, ⟨_, hM5.setCell (fun e => hS.ne e) _, (unhide HD).del hS.up xi⟩, ?_, hS.up.sublist List.filter_sublist, fun r hr => hS.ids r (List.mem_filter.1 hr).1, fun r hr => hS.good r (List.mem_filter.1 hr).1, hS.room1, hS.room2, ?_, hS.last0, hS.last1, hS.ob, hS.om⟩
    · rw [heap_setCell_same w5 b 3 _ _ _ P5]
      rfl
    · rw [← unhide HFIL]
      rw [hlf] at hown5
      exact own_set hown5 P5 (by decide) 3 _
    · have := hS.len
      have := List.length_filter_le (fun r : Mg => decide (r.id ≠ xi)) rs
      omega
  have hK6 : KN B w (w5.setCell ⟨b, 3, none⟩ (.slice (some ⟨g, 0, none⟩) (n - 1) c)) := by
    refine ((unhide HK3).trans hk5).trans ⟨rfl, rfl, rfl, by simp, fun q hq hql => Below.heap_setCell _ _ _ _ (show q ≠ b by omega), fun q cs T fr hq h1 h2 => Below.heap_setCell _ _ _ _ ?_⟩
    rintro rfl
    rw [P5] at hq
    simp only [Option.some.injEq, Obj.cells.injEq] at hq
    exact h1 hq.2.1.symm
  have hwb : w.heap.size ≠ b := by
    intro e
    rw [e, P5] at h45
    simp only [Option.some.injEq, Obj.cells.injEq] at h45
    exact absurd h45.2.1 (by decide)
  have hxb : w1.heap.size ≠ b := by
    intro e
    rw [e, P5] at hx5
    simp only [Option.some.injEq, Obj.cells.injEq] at hx5
    exact absurd hx5.2.1 (by decide)
  have H46 : Hid ((w5.setCell ⟨b, 3, none⟩ (.slice (some ⟨g, 0, none⟩) (n - 1) c)).heap[w.heap.size]? = some (.cells (gmC zM) 30 (0, 0))) := (Below.heap_setCell _ _ _ _ hwb).trans h45
  have HX6 : Hid ((w5.setCell ⟨b, 3, none⟩ (.slice (some ⟨g, 0, none⟩) (n - 1) c)).heap[w1.heap.size]? = some (.cells (gmC ⟨xi, xf, xt, xx⟩) 30 (0, 0))) := (Below.heap_setCell _ _ _ _ hxb).trans hx5
  have HS6 := hide hS6
  have HK6 := hide hK6
  clear p0 p1 p2 p3 fp
  obtain ⟨p0, p1, p2, p3, fp⟩ := cells4 P5
  have hF : TkF w B b mb w.heap.size room last (rs.filter fun r => decide (r.id ≠ xi)) ⟨xi, xf, xt, xx⟩ ((w5.setCell ⟨b, 3, none⟩ (.slice (some ⟨g, 0, none⟩) (n - 1) c)).setRow w.heap.size (gmC ⟨xi, xf, xt, xx⟩)) := by
    refine ⟨setRow_heap _ _ _ _ _ _ (unhide H46), ⟨_, (unhide HS6).typed (setRow_other _ _ _ _ (fun e => hwb e.symm)) (setRow_other _ _ _ _ (fun e => ?_)) (fun k cu fr hk => setRow_other _ _ _ _ (fun e => ?_))⟩, ?_⟩
    · obtain ⟨es, cl, hm⟩ := (unhide HS6).isMap
      rw [e, unhide H46] at hm
      cases hm
    · subst e
      rw [unhide H46] at hk
      simp only [Option.some.injEq, Obj.cells.injEq] at hk
      exact absurd hk.2.1 (by decide)
    · have hh := unhide HK6
      refine ⟨hh.os, hh.tape, hh.output, by simpa [World.setRow] using hh.size, fun k hk hkl => (setRow_other _ _ _ _ (by omega)).trans (hh.low k hk hkl), fun k cs T fr hk h1 h2 => (setRow_other _ _ _ _ (by have := lt_of_block hk; omega)).trans (hh.typ k cs T fr hk h1 h2)⟩
  have HF := hide hF
  obtain ⟨RS, hRS⟩ : ∃ RS, RS = rs.filter fun r => decide (r.id ≠ xi) := ⟨_, rfl⟩
  rw [← hRS] at HF
  have HRS := hide hRS
  clear hRS
  obtain ⟨c0, c1, c2, cf⟩ := cells3 hx5
  have hxb' : b ≠ w1.heap.size := fun e => hxb e.symm
  clear hF hS6 hK6 hown5 hkk hk5 hw5 hlf hlen' hM5 h45 hx5 hde4
  go_wp2_with (refine wpList_store_row_to rfl 30 (.tmp 4) (.tmp 45) rfl w.heap.size (gmC ⟨xi, xf, xt, xx⟩) rfl rfl 30 (gmC zM) (unhide H46) (gm_info _) rfl (gm_all _) (TkF w B b mb w.heap.size room last RS ⟨xi, xf, xt, xx⟩) (unhide HF) ?_)
  intro w7 h7
  have H7 := hide h7
  clear h7
  go_wp2
  exact ret_row2 (p := 4) (q := 5) (ty := 30) (by kernel_rfl) w.heap.size 30 (gmC ⟨xi, xf, xt, xx⟩) (0, 0) _ _ rfl rfl (unhide H7).blk rfl Try.underlying30 (gm_info _) ⟨rfl, by have h8 := (unhide H7).nt; rw [unhide HRS] at h8; exact h8, (unhide H7).kn⟩
end Go.Proofs.Ytmnjngkdiinnfaa

/- plane.Near of a few places. -/
import Derived.Test.YtjdphcjapdklpaaTkZc
namespace Go.Proofs.Ytjdphcjapdklpaa
open Go.RowKit Go.Sort
set_option linter.unusedVariables false
attribute [local go_sem] Oper.semAt_some

theorem made_i64 (n : Nat) : (madeCells #[Value.int .i64 0] n).toList = ic (List.replicate n 0) := by
  rw [toList_madeCells_one]
  simp [ic]
theorem mkN_at (n i j : Nat) (h : j < n) : ∃ u, (ic (mkN n i))[j]? = some u := by
  refine ⟨_, List.getElem?_eq_getElem ?_⟩
  simp [ic, mkN_len, h]
theorem ic_put (l : List Int) (j : Nat) (x : Int) : (ic l).set j (Value.int .i64 x) = ic (l.set j x) := by simp [ic, List.map_set]
set_option maxRecDepth 100000 in
set_option maxHeartbeats 4000000 in
theorem near_any (x y : Int) (l : List (Int × Int)) (a0 : Option Addr) (c : Nat) (w : World) (hpos : 0 < l.length) (hl : l.length < 20) (hP : PlsAt w a0 l) (h0 : okP x y = true) (hok : ∀ p ∈ l, okP p.1 p.2 = true) :
    Calls Try.prog 28 #[rv x y, .slice a0 l.length c] w fun e w' => ∃ v, e = .returned (.tuple #[v, .int .i64 0]) ∧ OwnI w' w.heap.size v (ordN x y l hpos) ∧ Below w.heap.size w w' := by
  obtain ⟨i0, hi, hz0, hz1, hz2⟩ := info_parts Try.infoI
  obtain ⟨g, o, rfl, hg, -⟩ := hP 0 _ (List.getElem?_eq_getElem hpos)
  have HG : Hid (∀ W, Below w.heap.size w W → PlsAt W (some ⟨g, o, none⟩) l) := fun W hW => hP.up hW
  have HS : ∀ (ga gl blk cap B : Nat) (w0 : World), Two w0 ga (.int .i64 x) (.int .i64 y) 23 → w0.cell? ⟨gl, 0, none⟩ = some (.slice (some ⟨g, o, none⟩) l.length c) → gl < w0.heap.size → PlsAt w0 (some ⟨g, o, none⟩) l → ga ≠ blk → gl ≠ blk → g ≠ blk → w0.ownsRow B 3 1 (.slice (some ⟨blk, 0, none⟩) l.length cap) l.length (ic (mkN l.length l.length)) →
      Calls Try.prog 34 #[.slice (some ⟨blk, 0, none⟩) l.length cap, .func (.func 35) #[] #[.pointer (some ⟨ga, 0, none⟩), .pointer (some ⟨gl, 0, none⟩)]] w0 fun e w' => e = .returned (.tuple #[]) ∧ (OwnI w' B (.slice (some ⟨blk, 0, none⟩) l.length cap) (ordN x y l hpos) ∧ NearK w0 blk w') :=
    fun ga gl blk cap B w0 k1 k2 k3 k4 k5 k6 k7 k8 => near_sort ga gl g o c blk cap B x y l hpos hl w0 k1 k2 k3 k4 k5 k6 k7 k8
  obtain ⟨ORD, hO⟩ : ∃ O, O = ordN x y l hpos := ⟨_, rfl⟩
  rw [← hO] at HS ⊢
  clear hO
  have HC : ∀ W, PlsAt W (some ⟨g, o, none⟩) l → Calls Try.prog 33 #[.slice (some ⟨g, o, none⟩) l.length c] W fun e w' => e = .returned (.bool true) ∧ Below W.heap.size W w' :=
    fun W h => checkAll_any (some ⟨g, o, none⟩) l c W h (by omega) hok
  obtain ⟨n, hn⟩ : ∃ n, n = l.length := ⟨_, rfl⟩
  rw [← hn] at HS HC hl hpos ⊢
  have HS := hide HS
  have HC := hide HC
  have HK := hide (fun W => check_gw x y W)
  rw [h0] at HK
  have T0 := hide ((two_alloc w (.int .i64 x) (.int .i64 y) 23).alloc (.cells #[.slice (some ⟨g, o, none⟩) n c] 68))
  have e1 : (w.alloc (.cells #[.int .i64 x, .int .i64 y] 23)).heap.size = w.heap.size + 1 := by simp
  have B0 : Hid (Below w.heap.size w ((w.alloc (.cells #[.int .i64 x, .int .i64 y] 23)).alloc (.cells #[.slice (some ⟨g, o, none⟩) n c] 68))) := ((Below.refl _ _).alloc (Nat.le_refl _) _).alloc (by simp) _
  obtain ⟨W0, hW0⟩ : ∃ W0, W0 = (w.alloc (.cells #[.int .i64 x, .int .i64 y] 23)).alloc (.cells #[.slice (some ⟨g, o, none⟩) n c] 68) := ⟨_, rfl⟩
  have hs0 : Hid (W0.heap.size = w.heap.size + 2) := by show _ = _; rw [hW0]; simp
  have hc0 : Hid (W0.cell? ⟨w.heap.size + 1, 0, none⟩ = some (.slice (some ⟨g, o, none⟩) n c)) := by
    show _ = _
    rw [hW0, ← e1]
    exact cell_of_row _ _ 0 _ _ _ (heap_alloc_new _ _)
  rw [← hW0] at T0 B0
  have HW := hide hW0
  clear hn e1 hP h0 hok hW0
  have f00 := (unhide T0).c0
  have f01 := (unhide T0).c1
  have f02 := unhide hc0
  unfold rv at *
  go_enter Try.func28, Try.ntmps28
  go_wp2_with fail
  rw [← unhide HW]
  go_wp2_with fail
  refine (unhide HK _).mono ?_
  rintro e w1 ⟨rfl, g1⟩
  have b1 := g1.below
  have T1 := hide ((unhide T0).up b1)
  have B1 := hide ((unhide B0).trans (b1.mono (unhide B0).size))
  have C1 := hide ((cell_below f02 b1))
  have S1 : Hid (w.heap.size + 2 ≤ w1.heap.size) := by show _ ≤ _; rw [← unhide hs0]; exact b1.size
  clear f00 f01 f02 b1 g1 T0 B0 hc0 hs0 HW
  have f02 := unhide C1
  have P1 := hide ((unhide HG) w1 (unhide B1))
  go_wp2_with fail
  refine (unhide HC w1 (unhide P1)).mono ?_
  rintro e w2 ⟨rfl, b2⟩
  have T2 := hide ((unhide T1).up b2)
  have B2 := hide ((unhide B1).trans (b2.mono (unhide B1).size))
  have C2 := hide ((cell_below f02 b2))
  have S2 : Hid (w.heap.size + 2 ≤ w2.heap.size) := Nat.le_trans (unhide S1) b2.size
  clear f02 b2 T1 B1 C1 S1 P1 HC HK
  have f02 := unhide C2
  have q1 : ¬ (160 : Int) < n := by omega
  go_wp2_with (at_make; refine wpList_make_full _ rfl _ _ 41 rfl w.heap.size 3 i0 (.int .i64 0) 1 Try.undI hi hz0 hz1 .i64 .i64 _ _ n rfl rfl rfl rfl ?c2 ?c3 ?c4 ?_)
  case c2 => rw [hz2]; omega
  case c3 => unfold maxLen; omega
  case c4 => have := unhide S2; omega
  intro w3 hown hgrow
  rw [made_i64, ← mkN_zero] at hown
  obtain ⟨blk, hblk⟩ : ∃ b, b = w2.heap.size := ⟨_, rfl⟩
  rw [← hblk] at hown ⊢
  have hb3 : Below blk w2 w3 := (Below.refl _ _).grown hgrow (by omega) (by intro k hk; cases hk)
  have HB3 := hide hb3
  have HO := hide hown
  have HBL := hide hblk
  clear hgrow hown hb3 hblk
  go_wp2_with fail
  go_loopw [24] (fun v wr => ∃ j : Nat, j ≤ n ∧ v = .int .i64 j ∧ wr.ownsRow w.heap.size 3 1 (.slice (some ⟨blk, 0, none⟩) n n) n (ic (mkN n j)) ∧ Below blk w2 wr) (fun v _ => n - (intOf v).toNat)
  case atStart => exact ⟨0, Nat.zero_le _, rfl, unhide HO, unhide HB3⟩
  case round =>
    clear HO HB3
    obtain ⟨j, hj, rfl, hown, hbl⟩ := hrel
    by_cases hlt : j < n
    · have hfz := hown.frozenAt j
      obtain ⟨u, hu⟩ := mkN_at n j j hlt
      have hce : wr.cell? ⟨blk, j, none⟩ = some u := (hown.cellAt j (by omega)).trans hu
      have hst := (hown.stored j (.int .i64 j)).1
      rw [ic_put, mkN_set n j hlt] at hst
      have HST := hide hst
      have HB2 := hide (hbl.setCell (p := ⟨blk, j, none⟩) (Nat.le_refl _) (.int .i64 j))
      have hlt' : (j : Int) < n := by omega
      clear hown hbl hst hu
      go_wp2
      go_roundw
      case rel => exact ⟨j + 1, by omega, by go_num, unhide HST, unhide HB2⟩
      case measure => simp [intOf]; omega
    · have hjn : j = n := by omega
      subst hjn
      have hlt' : ¬ (j : Int) < j := by omega
      have hs2 := unhide S2
      have hb2 := unhide HBL
      have bk : ∀ k, k < blk → wr.heap[k]? = w2.heap[k]? := hbl.block
      have hT : Two wr w.heap.size (.int .i64 x) (.int .i64 y) 23 := (bk _ (by omega)).trans (unhide T2)
      have hC : wr.cell? ⟨w.heap.size + 1, 0, none⟩ = some (.slice (some ⟨g, o, none⟩) j c) := (World.cell?_of_block (w := w2) (bk _ (by show w.heap.size + 1 < blk; omega))).trans f02
      have hBr : Below w.heap.size w wr := (unhide B2).trans (hbl.mono (by omega))
      have hPr := unhide HG wr hBr
      have hzr : w2.heap.size ≤ wr.heap.size := hbl.size
      have CC := hide (unhide HS w.heap.size (w.heap.size + 1) blk j w.heap.size wr hT hC (by omega) hPr (by omega) (by omega) (by omega) hown)
      have HBr := hide hBr
      have hblk : w.heap.size ≤ blk := by omega
      clear HS hT hC hPr bk hbl hBr hown hzr hs2 hb2 f02 C2 T2 B2 HG S2
      go_wp2_with fail
      refine (unhide CC).mono ?_
      rintro e w4 ⟨rfl, hO4, hK4⟩
      have HO4 := hide hO4
      have hb4 : Below w.heap.size w w4 := (unhide HBr).grown (row := some blk) ⟨hK4.os, hK4.tape, hK4.output, hK4.size, fun k hk hne => hK4.blk k hk (fun e => hne (by rw [e]))⟩ (unhide HBr).size (fun k hk => by cases hk; exact hblk)
      have HB4 := hide hb4
      clear hO4 hK4 hb4 CC
      go_wp2
      go_ret2
      exact ⟨_, rfl, unhide HO4, unhide HB4⟩
end Go.Proofs.Ytjdphcjapdklpaa

/- net: same; the document's To. -/
import Derived.Test.YtmnjngkdiinnfaaNtO
namespace Go.Proofs.Ytmnjngkdiinnfaa
open Go.RowKit
set_option linter.unusedVariables false
attribute [local go_sem] Oper.semAt_some

set_option maxRecDepth 100000 in
set_option maxHeartbeats 2000000 in
theorem nsame_any (a0 b0 : Option Addr) (rs : List Mg) (c d : Nat) (w : World) (hA : MlsAt w a0 rs) (hB : MlsAt w b0 rs) (hl : rs.length ≤ 600) :
    Calls Try.prog 20 #[.slice a0 rs.length c, .slice b0 rs.length d] w fun e w' => e = .returned (.bool true) ∧ Below w.heap.size w w' := by
  have HA := hide hA
  have HB := hide hB
  obtain ⟨n, hn⟩ : ∃ n, rs.length = n := ⟨_, rfl⟩
  rw [hn] at hl ⊢
  have HN := hide hn
  clear hA hB hn
  go_enter Try.func20, Try.ntmps20
  go_wp2_with fail
  go_loopw [5] (fun iv wr => ∃ i : Nat, i ≤ n ∧ iv = .int .i64 i ∧ Below w.heap.size w wr) (fun iv _ => n - (intOf iv).toNat)
  case atStart => exact ⟨0, by omega, rfl, Below.refl _ _⟩
  case round =>
    obtain ⟨i, hi, rfl, hb⟩ := hrel
    have HB0 := hide hb
    clear hb
    by_cases hlt : i < n
    · have q1 : (i : Int) < n := by omega
      obtain ⟨x, hx⟩ : ∃ x, rs[i]? = some x := ⟨_, List.getElem?_eq_getElem (by rw [unhide HN]; exact hlt)⟩
      obtain ⟨gA, rfl, hra⟩ := ((unhide HA).up (unhide HB0)) i x hx
      obtain ⟨gB, rfl, hrb⟩ := ((unhide HB).up (unhide HB0)) i x hx
      obtain ⟨xi, xf, xt, xx⟩ := x
      have HRA : Hid (∀ y, Below wr.heap.size wr y → y.cell? ⟨gA, i * 4, none⟩ = some (.int .i64 xi)) := fun y hy => cell_below (hra 0 _ rfl) hy
      have HRB : Hid (∀ y, Below wr.heap.size wr y → y.cell? ⟨gB, i * 4, none⟩ = some (.int .i64 xi) ∧ y.cell? ⟨gB, i * 4 + 1, none⟩ = some (.int .i64 xf) ∧ y.cell? ⟨gB, i * 4 + 2, none⟩ = some (.int .i64 xt) ∧ y.cell? ⟨gB, i * 4 + 3, none⟩ = some (.string xx)) := fun y hy => ⟨cell_below (hrb 0 _ rfl) hy, cell_below (hrb 1 _ rfl) hy, cell_below (hrb 2 _ rfl) hy, cell_below (hrb 3 _ rfl) hy⟩
      have y1 : wr.cell? ⟨gA, i * 4 + 1, none⟩ = some (.int .i64 xf) := hra 1 _ rfl
      have y2 : wr.cell? ⟨gA, i * 4 + 2, none⟩ = some (.int .i64 xt) := hra 2 _ rfl
      have y3 : wr.cell? ⟨gA, i * 4 + 3, none⟩ = some (.string xx) := hra 3 _ rfl
      have hrf := hide (nref_any ⟨xi, xf, xt, xx⟩ wr)
      clear hra hrb hx
      go_wp2_with fail
      refine (unhide hrf).mono ?_
      rintro e w1 ⟨rfl, b1⟩
      have B1 := hide b1
      have HZ := hide (heap_alloc_new w1 (.cells (mlL zMl).toArray 37))
      have HG := hide (newMl 37 w1 zMl ⟨0, xf, xt, xx⟩)
      have HI := hide (mr_info ⟨0, xf, xt, xx⟩)
      have HAL := hide (ml_all ⟨0, xf, xt, xx⟩)
      unfold zMl mlL at HZ
      dsimp only at HZ
      clear b1 y1 y2 y3 hrf
      go_wp2_with (refine wpList_store_row_to rfl 37 (.tmp 6) (.tmp 23) rfl w1.heap.size (mlL ⟨0, xf, xt, xx⟩).toArray rfl rfl 37 _ (unhide HZ) (unhide HI) rfl (unhide HAL) (NewMl 37 w1 ⟨0, xf, xt, xx⟩) (unhide HG) ?_)
      intro w2 h2
      have B2 := hide ((unhide B1).trans (h2.be.mono (unhide B1).size))
      have hbk : w2.heap[w1.heap.size]? = some (.cells #[.int .i64 0, .int .i64 xf, .int .i64 xt, .string xx] 37 (0, 0)) := h2.blk
      have hy0 := unhide HRA w2 (unhide B2)
      obtain ⟨c0, c1, c2, c3, cf⟩ := cells4 hbk
      have hb3 : Below wr.heap.size wr (w2.setCell ⟨w1.heap.size, 0, none⟩ (.int .i64 xi)) := (unhide B2).setCell (p := ⟨w1.heap.size, 0, none⟩) (unhide B1).size _
      have hk3 : (w2.setCell ⟨w1.heap.size, 0, none⟩ (.int .i64 xi)).heap[w1.heap.size]? = some (.cells #[.int .i64 xi, .int .i64 xf, .int .i64 xt, .string xx] 37 (0, 0)) := by
        rw [heap_setCell_same w2 w1.heap.size 0 _ _ _ hbk]
        rfl
      have B3 := hide hb3
      have K3 := hide hk3
      clear h2 hbk hb3 hk3 HZ HG HI HAL B1 B2
      go_wp2_with fail
      generalize hW3 : w2.setCell ⟨w1.heap.size, 0, none⟩ (.int .i64 xi) = w3 at *
      clear hW3 hy0 c0 c1 c2 c3 cf
      obtain ⟨c0, c1, c2, c3, cf⟩ := cells4 (unhide K3)
      obtain ⟨z0, z1, z2, z3⟩ := unhide HRB w3 (unhide B3)
      have hneX := gb_ne w3
      have u0 : ∀ y : Gb w3, y.w.cell? ⟨w1.heap.size, 0, none⟩ = some (.int .i64 xi) := fun y => gb_cell c0 y
      have u1 : ∀ y : Gb w3, y.w.cell? ⟨w1.heap.size, 1, none⟩ = some (.int .i64 xf) := fun y => gb_cell c1 y
      have u2 : ∀ y : Gb w3, y.w.cell? ⟨w1.heap.size, 2, none⟩ = some (.int .i64 xt) := fun y => gb_cell c2 y
      have u3 : ∀ y : Gb w3, y.w.cell? ⟨w1.heap.size, 3, none⟩ = some (.string xx) := fun y => gb_cell c3 y
      have v0 : ∀ y : Gb w3, y.w.cell? ⟨gB, i * 4, none⟩ = some (.int .i64 xi) := fun y => gb_cell z0 y
      have v1 : ∀ y : Gb w3, y.w.cell? ⟨gB, i * 4 + 1, none⟩ = some (.int .i64 xf) := fun y => gb_cell z1 y
      have v2 : ∀ y : Gb w3, y.w.cell? ⟨gB, i * 4 + 2, none⟩ = some (.int .i64 xt) := fun y => gb_cell z2 y
      have v3 : ∀ y : Gb w3, y.w.cell? ⟨gB, i * 4 + 3, none⟩ = some (.string xx) := fun y => gb_cell z3 y
      clear c0 c1 c2 c3 cf z0 z1 z2 z3
      refine wp_region_grB (by kernel_rfl) (by kernel_rfl) ?_
      repeat (go_big_quiet_step (fail))
      refine wpQuiet_nil ?_
      rintro wz ⟨xz, rfl⟩
      have HBZ := hide ((unhide HB0).trans (((unhide B3).trans (xz.ok.mono (unhide B3).size)).mono (unhide HB0).size))
      clear u0 u1 u2 u3 v0 v1 v2 v3 hneX
      generalize xz.w = wz at *
      go_wp2
      go_roundw
      case rel => exact ⟨i + 1, by omega, by go_num, unhide HBZ⟩
      case measure => simp [intOf]; omega
    · have q1 : ¬ (i : Int) < n := by omega
      go_wp2
      go_ret
      exact ⟨rfl, unhide HB0⟩
set_option maxRecDepth 100000 in
set_option maxHeartbeats 2000000 in
theorem dto_any (B : Nat) (room last node : Int) (v : Value) (rs : List Mg) (w : World) (hO : OwnR w B v rs) (hl : rs.length ≤ 600) :
    Calls Try.prog 25 #[dnV room last v, .int .i64 node] w fun e w' => ∃ v, e = .returned v ∧ OwnI w' w.heap.size v (toI rs node) ∧ Below w.heap.size w w' := by
  obtain ⟨aM, cM, rfl, hml⟩ := hO.mls
  obtain ⟨n, hn⟩ : ∃ n, rs.length = n := ⟨_, rfl⟩
  rw [hn] at hl ⊢
  have HN := hide hn
  have HX := hide (heap_alloc_new w (.cells #[.int .i64 room, .int .i64 last, .slice aM n cM] 28))
  have B0 : Hid (Below w.heap.size w (w.alloc (.cells #[.int .i64 room, .int .i64 last, .slice aM n cM] 28))) := (Below.refl _ w).alloc (Nat.le_refl _) _
  have HML := hide (hml.up (unhide B0))
  obtain ⟨k0, hki, hkz0, hkz1, hkz2⟩ := info_parts Try.infoI
  clear hO hml hn
  go_enter Try.func25, Try.ntmps25
  go_wp2_with fail
  generalize hW0 : w.alloc (.cells #[.int .i64 room, .int .i64 last, .slice aM n cM] 28) = W0 at *
  clear hW0
  go_loopw [5, 6] (fun lv kv wr => ∃ k : Nat, k ≤ n ∧ kv = .int .i64 k ∧ OwnI wr W0.heap.size lv (toI (rs.take k) node) ∧ Below W0.heap.size W0 wr) (fun _ kv _ => n - (intOf kv).toNat)
  case atStart => exact ⟨0, by omega, rfl, by rw [List.take_zero]; exact World.ownsRow_nil _ _ _ _, Below.refl _ _⟩
  case round =>
    obtain ⟨k, hk, rfl, ho, hb⟩ := hrel
    obtain ⟨aL, cL, rfl, _, _, _⟩ := OwnI.ints ho
    have hjl : (toI (rs.take k) node).length ≤ 600 := by have := toI_len (rs.take k) node; rw [List.length_take] at this; omega
    obtain ⟨j, hj⟩ : ∃ j, (toI (rs.take k) node).length = j := ⟨_, rfl⟩
    rw [hj] at ho hjl ⊢
    have HO := hide ho
    have HB := hide hb
    have HJ := hide hj
    have hX := (hb.block _ (lt_of_block (unhide HX))).trans (unhide HX)
    obtain ⟨c0, c1, c2, cf⟩ := cells3 hX
    clear ho hb hj hX
    by_cases hlt : k < n
    · have q1 : (k : Int) < n := by omega
      have hkl : k < rs.length := by rw [unhide HN]; exact hlt
      obtain ⟨x, hx⟩ : ∃ x, x = rs[k] := ⟨_, rfl⟩
      have hxk : rs[k]? = some x := by rw [hx]; exact List.getElem?_eq_getElem hkl
      have HTK : Hid (rs.take (k + 1) = rs.take k ++ [x]) := by rw [hx]; exact List.take_succ_eq_append_getElem hkl
      obtain ⟨gM, rfl, hr⟩ := ((unhide HML).up (unhide HB)) k x hxk
      obtain ⟨xi, xf, xt, xx⟩ := x
      have y0 : wr.cell? ⟨gM, k * 4, none⟩ = some (.int .i64 xi) := hr 0 _ rfl
      have y2 : wr.cell? ⟨gM, k * 4 + 2, none⟩ = some (.int .i64 xt) := hr 2 _ rfl
      clear hkl hx hxk hr
      by_cases hto : xt = node
      · have q3 : (xt == node) = true := by simp [hto]
        have HT : Hid (toI (rs.take (k + 1)) node = toI (rs.take k) node ++ [xi]) := by
          show _ = _
          rw [unhide HTK, toI_snoc, if_pos hto]
        have hwx : W0.heap.size ≤ wr.heap.size := (unhide HB).size
        have HR : Hid (∀ o, (wr.alloc o).ownsRow W0.heap.size 3 1 (.slice aL j cL) j (ic (toI (rs.take k) node))) := fun o => by
          have h := own_alloc (unhide HO) o
          rw [unhide HJ] at h
          exact h
        clear hto
        go_wp2_with (refine wpList_append_lies _ rfl (.tmp 22) (.tmp 29) 54 rfl W0.heap.size 3 k0 (.int .i64 0) 1 8 Try.undI hki hkz0 hkz1 hkz2 rfl (by decide) (.slice aL j cL) j _ (by rfl) (unhide HR _) ⟨wr.heap.size, 0, none⟩ 1 1 [.int .i64 xi] (by rfl) (by rfl) (news_lit wr [.int .i64 xi] 3) (by intro u hu; simp at hu; subst hu; rfl) (by decide) (by unfold maxLen; omega) (by omega) (by simp; omega) _ rfl ?_)
        intro g2 cap2 w5 hown hgrow hat hlt2
        have hO5 : OwnI w5 W0.heap.size (.slice (some ⟨g2, 0, none⟩) (j + 1) cap2) (toI (rs.take (k + 1)) node) := by
          unfold OwnI
          rw [unhide HT, ic_append, List.length_append, unhide HJ]
          exact hown
        have hB5 : Below W0.heap.size W0 w5 := ((unhide HB).alloc hwx _).grown hgrow (by simp; omega) (fun z hz => own_i_ge (unhide HO) hz)
        have HO5 := hide hO5
        have HB5 := hide hB5
        clear hown hgrow hat hlt2 hO5 hB5 HO HB HR y0 y2 c0 c1 c2 cf
        go_wp2
        go_roundw
        case rel => exact ⟨k + 1, by omega, by go_num, unhide HO5, unhide HB5⟩
        case measure => simp [intOf]; omega
      · have q3 : (xt == node) = false := by simp [hto]
        have HT : Hid (OwnI wr W0.heap.size (.slice aL j cL) (toI (rs.take (k + 1)) node)) := by
          show OwnI _ _ _ _
          rw [unhide HTK, toI_snoc, if_neg hto, List.append_nil]
          exact unhide HO
        clear hto
        go_wp2
        go_roundw
        case rel => exact ⟨k + 1, by omega, by go_num, unhide HT, unhide HB⟩
        case measure => simp [intOf]; omega
    · obtain rfl : k = n := by omega
      have q1 : ¬ (k : Int) < k := by omega
      have hfull : rs.take k = rs := List.take_of_length_le (by rw [unhide HN]; exact Nat.le_refl _)
      have HO2 : Hid (OwnI wr w.heap.size (.slice aL j cL) (toI rs node)) := by
        have := unhide HO
        rw [hfull] at this
        exact own_i_le this (unhide B0).size
      have HBZ := hide ((unhide B0).trans ((unhide HB).mono (unhide B0).size))
      clear hfull HO HJ
      go_wp2
      go_ret
      exact ⟨_, rfl, unhide HO2, unhide HBZ⟩
end Go.Proofs.Ytmnjngkdiinnfaa

/- choke: those, at each closure that it is handed. -/
import Derived.Test.YtjndgglbapghhaaCkD
namespace Go.Proofs.Ytjndgglbapghhaa
open Go.RowKit
set_option linter.unusedVariables false
attribute [local go_sem] Oper.semAt_some

theorem Try.infoPe : (Try.prog.info? 48).map (fun i => (i.zero, i.size, i.bytes)) = some (some (.agg #[.int .i64 0, .int .i64 0, .int .i64 0, .string ⟨#[]⟩, .bool false, .bool false, .bool false, .int .i64 0, .int .i64 0, .int .i64 0]), 10, 72) := by kernel_rfl
theorem Try.undGp : Try.prog.underlying 52 = some (.slice 48) := by kernel_rfl
theorem ownPt_ge {T : TypeId} {w : World} {B : Nat} {v : Value} {l : List Pr} (h : OwnPt T w B v l) {k : Nat} (hk : v.ownBlock = some k) : B ≤ k := by
  rcases h.2 with ⟨h1, h2⟩ | ⟨g, cap, cur, h1, h2, h3⟩
  · rw [h1] at hk; cases hk
  · rw [h1] at hk; cases hk; exact h2

set_option maxRecDepth 100000 in
set_option maxHeartbeats 4000000 in
theorem those_top (a0 : Option Addr) (l : List Pr) (c : Nat) (P : Pr → Bool) (w : World) (hl : PrsAt w a0 l) (hm : l.length ≤ 100000)
    (hcl : ∀ p ∈ l, ∀ W, Below w.heap.size w W → Calls Try.prog 28 #[.agg p.cl.toArray] W fun e W' => e = .returned (.bool (P p)) ∧ Below W.heap.size W W') :
    Calls Try.prog 21 #[.slice a0 l.length c, .func (.func 28) #[] #[]] w fun e w' => ∃ v, e = .returned v ∧ OwnPt 48 w' w.heap.size v (l.filter P) ∧ Below w.heap.size w w' := by
  have HL := hide hl
  have HCL := hide hcl
  obtain ⟨i0, hi, hz0, hz1, hz2⟩ := info_parts Try.infoPe
  obtain ⟨n, hn⟩ : ∃ n, n = l.length := ⟨_, rfl⟩
  rw [← hn]
  have HN := hide hn
  rw [← hn] at hm
  clear hl hn hcl
  go_enter Try.func21, Try.ntmps21
  go_wp2_with fail
  go_loopw [5, 10] (fun lv kv wr => ∃ (k m : Nat) (a : Option Addr) (c : Nat), k ≤ n ∧ m ≤ k ∧ kv = .int .i64 k ∧ lv = .slice a m c ∧ ((l.take k).filter P).length = m ∧ OwnPt 48 wr w.heap.size lv ((l.take k).filter P) ∧ Below w.heap.size w wr) (fun _ kv _ => n - (intOf kv).toNat)
  case atStart => exact ⟨0, 0, none, 0, by omega, by omega, rfl, rfl, rfl, World.ownsRow_nil _ _ _ _, Below.refl _ _⟩
  case round =>
    obtain ⟨k, m, a, c2, hk, hmk, rfl, rfl, hlen, hO, hB⟩ := hrel
    have HTL := hide hlen
    have HR := hide hO
    have HB := hide hB
    clear hO hB hlen
    by_cases hlt : k < n
    · have hlt' : k < l.length := by rw [← unhide HN]; exact hlt
      obtain ⟨e, he⟩ : ∃ e, e = l[k] := ⟨_, rfl⟩
      obtain ⟨g, o, rfl, hgl, hra⟩ := prs_range (unhide HL) (unhide HB) (i := k) (p := e) (by rw [he]; exact List.getElem?_eq_getElem hlt')
      have HE : Hid ((l.take (k + 1)).filter P = (l.take k).filter P ++ (if P e then [e] else [])) := by
        show _ = _
        rw [List.take_succ_eq_append_getElem hlt', he, List.filter_append, List.filter_cons, List.filter_nil]
      have hcle := hide (unhide HCL e (by rw [he]; exact List.getElem_mem _))
      have q1 : (k : Int) < n := by omega
      clear he hlt'
      obtain ⟨b1, hb1⟩ : ∃ b, b = P e := ⟨_, rfl⟩
      rw [← hb1] at HE hcle
      clear hb1
      obtain ⟨nd, px, py, hv, wa, op, os, se, nw, ra⟩ := e
      unfold Pr.cl at hcle
      dsimp only at hcle
      have u0 : wr.cell? ⟨g, o + k * 10, none⟩ = some (.int .i64 nd) := hra 0 _ rfl
      have u1 : wr.cell? ⟨g, o + k * 10 + 1, none⟩ = some (.int .i64 px) := hra 1 _ rfl
      have u2 : wr.cell? ⟨g, o + k * 10 + 2, none⟩ = some (.int .i64 py) := hra 2 _ rfl
      have u3 : wr.cell? ⟨g, o + k * 10 + 3, none⟩ = some (.string hv) := hra 3 _ rfl
      have u4 : wr.cell? ⟨g, o + k * 10 + 4, none⟩ = some (.bool wa) := hra 4 _ rfl
      have u5 : wr.cell? ⟨g, o + k * 10 + 5, none⟩ = some (.bool op) := hra 5 _ rfl
      have u6 : wr.cell? ⟨g, o + k * 10 + 6, none⟩ = some (.bool os) := hra 6 _ rfl
      have u7 : wr.cell? ⟨g, o + k * 10 + 7, none⟩ = some (.int .i64 se) := hra 7 _ rfl
      have u8 : wr.cell? ⟨g, o + k * 10 + 8, none⟩ = some (.int .i64 nw) := hra 8 _ rfl
      have u9 : wr.cell? ⟨g, o + k * 10 + 9, none⟩ = some (.int .i64 ra) := hra 9 _ rfl
      have HZ := hide (heap_alloc_new wr (.cells zP.cl.toArray 48))
      have HG := hide (newPr wr zP ⟨nd, px, py, hv, wa, op, os, se, nw, ra⟩)
      have HI := hide (pr_info ⟨nd, px, py, hv, wa, op, os, se, nw, ra⟩)
      have HA := hide (pr_all ⟨nd, px, py, hv, wa, op, os, se, nw, ra⟩)
      unfold zP Pr.cl at HZ
      unfold Pr.cl at HI HA
      dsimp only at HZ HI HA
      clear hra
      go_wp2_with (refine wpList_store_row_to rfl 48 (.tmp 7) (.tmp 13) rfl wr.heap.size #[.int .i64 nd, .int .i64 px, .int .i64 py, .string hv, .bool wa, .bool op, .bool os, .int .i64 se, .int .i64 nw, .int .i64 ra] rfl rfl 48 _ (unhide HZ) (unhide HI) rfl (unhide HA) (NewPr wr ⟨nd, px, py, hv, wa, op, os, se, nw, ra⟩) (unhide HG) ?_)
      intro w2 h2
      have HO2 := hide (ownPt_up (unhide HR) h2.be)
      have HB2 := hide ((unhide HB).trans (h2.be.mono (unhide HB).size))
      have HBL := hide h2.blk
      clear h2 u0 u1 u2 u3 u4 u5 u6 u7 u8 u9 HZ HG HI HA HR HB
      have x0 : w2.cell? ⟨wr.heap.size, 0, none⟩ = some (.int .i64 nd) := cell_pr (unhide HBL) 0
      have x1 : w2.cell? ⟨wr.heap.size, 1, none⟩ = some (.int .i64 px) := cell_pr (unhide HBL) 1
      have x2 : w2.cell? ⟨wr.heap.size, 2, none⟩ = some (.int .i64 py) := cell_pr (unhide HBL) 2
      have x3 : w2.cell? ⟨wr.heap.size, 3, none⟩ = some (.string hv) := cell_pr (unhide HBL) 3
      have x4 : w2.cell? ⟨wr.heap.size, 4, none⟩ = some (.bool wa) := cell_pr (unhide HBL) 4
      have x5 : w2.cell? ⟨wr.heap.size, 5, none⟩ = some (.bool op) := cell_pr (unhide HBL) 5
      have x6 : w2.cell? ⟨wr.heap.size, 6, none⟩ = some (.bool os) := cell_pr (unhide HBL) 6
      have x7 : w2.cell? ⟨wr.heap.size, 7, none⟩ = some (.int .i64 se) := cell_pr (unhide HBL) 7
      have x8 : w2.cell? ⟨wr.heap.size, 8, none⟩ = some (.int .i64 nw) := cell_pr (unhide HBL) 8
      have x9 : w2.cell? ⟨wr.heap.size, 9, none⟩ = some (.int .i64 ra) := cell_pr (unhide HBL) 9
      have hxl : wr.heap.size < w2.heap.size := lt_of_block (unhide HBL)
      go_wp2_with fail
      refine (unhide hcle w2 (unhide HB2)).mono ?_
      rintro e w3 ⟨rfl, b3⟩
      have HO3 := hide (ownPt_up (unhide HO2) b3)
      have HB3 := hide ((unhide HB2).trans (b3.mono (unhide HB2).size))
      have HBL3 := hide ((b3.block _ (lt_of_block (unhide HBL))).trans (unhide HBL))
      clear b3 HO2 HB2 HBL hcle x0 x1 x2 x3 x4 x5 x6 x7 x8 x9 hxl
      cases b1 with
      | true =>
        have HE2 : Hid ((l.take (k + 1)).filter P = (l.take k).filter P ++ [⟨nd, px, py, hv, wa, op, os, se, nw, ra⟩]) := unhide HE
        have x0 : w3.cell? ⟨wr.heap.size, 0, none⟩ = some (.int .i64 nd) := cell_pr (unhide HBL3) 0
        have x1 : w3.cell? ⟨wr.heap.size, 1, none⟩ = some (.int .i64 px) := cell_pr (unhide HBL3) 1
        have x2 : w3.cell? ⟨wr.heap.size, 2, none⟩ = some (.int .i64 py) := cell_pr (unhide HBL3) 2
        have x3 : w3.cell? ⟨wr.heap.size, 3, none⟩ = some (.string hv) := cell_pr (unhide HBL3) 3
        have x4 : w3.cell? ⟨wr.heap.size, 4, none⟩ = some (.bool wa) := cell_pr (unhide HBL3) 4
        have x5 : w3.cell? ⟨wr.heap.size, 5, none⟩ = some (.bool op) := cell_pr (unhide HBL3) 5
        have x6 : w3.cell? ⟨wr.heap.size, 6, none⟩ = some (.bool os) := cell_pr (unhide HBL3) 6
        have x7 : w3.cell? ⟨wr.heap.size, 7, none⟩ = some (.int .i64 se) := cell_pr (unhide HBL3) 7
        have x8 : w3.cell? ⟨wr.heap.size, 8, none⟩ = some (.int .i64 nw) := cell_pr (unhide HBL3) 8
        have x9 : w3.cell? ⟨wr.heap.size, 9, none⟩ = some (.int .i64 ra) := cell_pr (unhide HBL3) 9
        have hxl : wr.heap.size < w3.heap.size := lt_of_block (unhide HBL3)
        have hww : w.heap.size ≤ w3.heap.size := (unhide HB3).size
        have HO4 : Hid (∀ o, (w3.alloc o).ownsRow w.heap.size 48 10 (.slice a m c2) m (peC ((l.take k).filter P))) := fun o => by
          have := ownPt_up (unhide HO3) ((Below.refl w3.heap.size w3).alloc (Nat.le_refl _) o)
          unfold OwnPt at this
          rw [unhide HTL] at this
          exact this
        have HG2 := hide (fun z (hz : (Value.slice a m c2).ownBlock = some z) => ownPt_ge (unhide HO3) hz)
        clear HO3 HBL3 HE
        go_wp2_with (refine wpList_append_lies _ rfl (.tmp 17) (.tmp 19) 52 rfl w.heap.size 48 i0 (.agg #[.int .i64 0, .int .i64 0, .int .i64 0, .string ⟨#[]⟩, .bool false, .bool false, .bool false, .int .i64 0, .int .i64 0, .int .i64 0]) 10 72 Try.undGp hi hz0 hz1 hz2 rfl (by decide) (.slice a m c2) m _ (by rfl) (unhide HO4 _) ⟨w3.heap.size, 0, none⟩ 1 1 [.int .i64 nd, .int .i64 px, .int .i64 py, .string hv, .bool wa, .bool op, .bool os, .int .i64 se, .int .i64 nw, .int .i64 ra] (by rfl) (by rfl) (World.news_of_block (heap_alloc_new w3 _)) (Pr.cl_one ⟨nd, px, py, hv, wa, op, os, se, nw, ra⟩) (by decide) (by unfold maxLen; omega) (by omega) (by simp; omega) _ rfl ?_)
        intro g2 cap2 w4 hown hgrow hat hlt2
        have HF : Hid (OwnPt 48 w4 w.heap.size (.slice (some ⟨g2, 0, none⟩) (m + 1) cap2) ((l.take (k + 1)).filter P)) := by
          show OwnPt _ _ _ _ _
          rw [unhide HE2]
          unfold OwnPt
          rw [peC_append, List.length_append, unhide HTL]
          exact hown
        have HB4 := hide (((unhide HB3).alloc hww (.cells (Array.mk [.int .i64 nd, .int .i64 px, .int .i64 py, .string hv, .bool wa, .bool op, .bool os, .int .i64 se, .int .i64 nw, .int .i64 ra]) 48)).grown hgrow (by simp; omega) (fun z hz => unhide HG2 z hz))
        have HL4 : Hid (((l.take (k + 1)).filter P).length = m + 1) := by
          show _ = _
          rw [unhide HE2, List.length_append, unhide HTL]
          rfl
        clear hown hgrow hat hlt2 HO4 HB3 HG2 x0 x1 x2 x3 x4 x5 x6 x7 x8 x9 hxl
        go_wp2
        go_roundw
        case rel => exact ⟨k + 1, m + 1, _, _, by omega, by omega, by go_num, rfl, unhide HL4, unhide HF, unhide HB4⟩
        case measure => simp [intOf]; omega
      | false =>
        have HE2 : Hid ((l.take (k + 1)).filter P = (l.take k).filter P) := (unhide HE).trans (List.append_nil _)
        have HF : Hid (OwnPt 48 w3 w.heap.size (.slice a m c2) ((l.take (k + 1)).filter P)) := by
          show OwnPt _ _ _ _ _
          rw [unhide HE2]
          exact unhide HO3
        have HL4 : Hid (((l.take (k + 1)).filter P).length = m) := by
          show _ = _
          rw [unhide HE2, unhide HTL]
        clear HO3 HBL3 HE
        go_wp2
        go_roundw
        case rel => exact ⟨k + 1, m, _, _, by omega, by omega, by go_num, rfl, unhide HL4, unhide HF, unhide HB3⟩
        case measure => simp [intOf]; omega
    · have hkn : k = n := by omega
      have q1 : ¬ (k : Int) < n := by omega
      have HF : Hid (OwnPt 48 wr w.heap.size (.slice a m c2) (l.filter P)) := by
        have h1 := unhide HR
        rw [show l.take k = l by rw [hkn, unhide HN, List.take_length]] at h1
        exact h1
      clear hkn HR
      go_wp2
      go_ret
      exact ⟨_, rfl, unhide HF, unhide HB⟩

set_option maxRecDepth 100000 in
set_option maxHeartbeats 4000000 in
theorem those_ch (g1 : Nat) (a0 : Option Addr) (l : List Pr) (c : Nat) (P : Pr → Bool) (w : World) (hl : PrsAt w a0 l) (hm : l.length ≤ 100000)
    (hcl : ∀ p ∈ l, ∀ W, Below w.heap.size w W → Calls Try.prog 22 #[.agg p.cl.toArray, .pointer (some ⟨g1, 0, none⟩)] W fun e W' => e = .returned (.bool (P p)) ∧ Below W.heap.size W W') :
    Calls Try.prog 21 #[.slice a0 l.length c, .func (.func 22) #[] #[.pointer (some ⟨g1, 0, none⟩)]] w fun e w' => ∃ v, e = .returned v ∧ OwnPt 48 w' w.heap.size v (l.filter P) ∧ Below w.heap.size w w' := by
  have HL := hide hl
  have HCL := hide hcl
  obtain ⟨i0, hi, hz0, hz1, hz2⟩ := info_parts Try.infoPe
  obtain ⟨n, hn⟩ : ∃ n, n = l.length := ⟨_, rfl⟩
  rw [← hn]
  have HN := hide hn
  rw [← hn] at hm
  clear hl hn hcl
  go_enter Try.func21, Try.ntmps21
  go_wp2_with fail
  go_loopw [5, 10] (fun lv kv wr => ∃ (k m : Nat) (a : Option Addr) (c : Nat), k ≤ n ∧ m ≤ k ∧ kv = .int .i64 k ∧ lv = .slice a m c ∧ ((l.take k).filter P).length = m ∧ OwnPt 48 wr w.heap.size lv ((l.take k).filter P) ∧ Below w.heap.size w wr) (fun _ kv _ => n - (intOf kv).toNat)
  case atStart => exact ⟨0, 0, none, 0, by omega, by omega, rfl, rfl, rfl, World.ownsRow_nil _ _ _ _, Below.refl _ _⟩
  case round =>
    obtain ⟨k, m, a, c2, hk, hmk, rfl, rfl, hlen, hO, hB⟩ := hrel
    have HTL := hide hlen
    have HR := hide hO
    have HB := hide hB
    clear hO hB hlen
    by_cases hlt : k < n
    · have hlt' : k < l.length := by rw [← unhide HN]; exact hlt
      obtain ⟨e, he⟩ : ∃ e, e = l[k] := ⟨_, rfl⟩
      obtain ⟨g, o, rfl, hgl, hra⟩ := prs_range (unhide HL) (unhide HB) (i := k) (p := e) (by rw [he]; exact List.getElem?_eq_getElem hlt')
      have HE : Hid ((l.take (k + 1)).filter P = (l.take k).filter P ++ (if P e then [e] else [])) := by
        show _ = _
        rw [List.take_succ_eq_append_getElem hlt', he, List.filter_append, List.filter_cons, List.filter_nil]
      have hcle := hide (unhide HCL e (by rw [he]; exact List.getElem_mem _))
      have q1 : (k : Int) < n := by omega
      clear he hlt'
      obtain ⟨b1, hb1⟩ : ∃ b, b = P e := ⟨_, rfl⟩
      rw [← hb1] at HE hcle
      clear hb1
      obtain ⟨nd, px, py, hv, wa, op, os, se, nw, ra⟩ := e
      unfold Pr.cl at hcle
      dsimp only at hcle
      have u0 : wr.cell? ⟨g, o + k * 10, none⟩ = some (.int .i64 nd) := hra 0 _ rfl
      have u1 : wr.cell? ⟨g, o + k * 10 + 1, none⟩ = some (.int .i64 px) := hra 1 _ rfl
      have u2 : wr.cell? ⟨g, o + k * 10 + 2, none⟩ = some (.int .i64 py) := hra 2 _ rfl
      have u3 : wr.cell? ⟨g, o + k * 10 + 3, none⟩ = some (.string hv) := hra 3 _ rfl
      have u4 : wr.cell? ⟨g, o + k * 10 + 4, none⟩ = some (.bool wa) := hra 4 _ rfl
      have u5 : wr.cell? ⟨g, o + k * 10 + 5, none⟩ = some (.bool op) := hra 5 _ rfl
      have u6 : wr.cell? ⟨g, o + k * 10 + 6, none⟩ = some (.bool os) := hra 6 _ rfl
      have u7 : wr.cell? ⟨g, o + k * 10 + 7, none⟩ = some (.int .i64 se) := hra 7 _ rfl
      have u8 : wr.cell? ⟨g, o + k * 10 + 8, none⟩ = some (.int .i64 nw) := hra 8 _ rfl
      have u9 : wr.cell? ⟨g, o + k * 10 + 9, none⟩ = some (.int .i64 ra) := hra 9 _ rfl
      have HZ := hide (heap_alloc_new wr (.cells zP.cl.toArray 48))
      have HG := hide (newPr wr zP ⟨nd, px, py, hv, wa, op, os, se, nw, ra⟩)
      have HI := hide (pr_info ⟨nd, px, py, hv, wa, op, os, se, nw, ra⟩)
      have HA := hide (pr_all ⟨nd, px, py, hv, wa, op, os, se, nw, ra⟩)
      unfold zP Pr.cl at HZ
      unfold Pr.cl at HI HA
      dsimp only at HZ HI HA
      clear hra
      go_wp2_with (refine wpList_store_row_to rfl 48 (.tmp 7) (.tmp 13) rfl wr.heap.size #[.int .i64 nd, .int .i64 px, .int .i64 py, .string hv, .bool wa, .bool op, .bool os, .int .i64 se, .int .i64 nw, .int .i64 ra] rfl rfl 48 _ (unhide HZ) (unhide HI) rfl (unhide HA) (NewPr wr ⟨nd, px, py, hv, wa, op, os, se, nw, ra⟩) (unhide HG) ?_)
      intro w2 h2
      have HO2 := hide (ownPt_up (unhide HR) h2.be)
      have HB2 := hide ((unhide HB).trans (h2.be.mono (unhide HB).size))
      have HBL := hide h2.blk
      clear h2 u0 u1 u2 u3 u4 u5 u6 u7 u8 u9 HZ HG HI HA HR HB
      have x0 : w2.cell? ⟨wr.heap.size, 0, none⟩ = some (.int .i64 nd) := cell_pr (unhide HBL) 0
      have x1 : w2.cell? ⟨wr.heap.size, 1, none⟩ = some (.int .i64 px) := cell_pr (unhide HBL) 1
      have x2 : w2.cell? ⟨wr.heap.size, 2, none⟩ = some (.int .i64 py) := cell_pr (unhide HBL) 2
      have x3 : w2.cell? ⟨wr.heap.size, 3, none⟩ = some (.string hv) := cell_pr (unhide HBL) 3
      have x4 : w2.cell? ⟨wr.heap.size, 4, none⟩ = some (.bool wa) := cell_pr (unhide HBL) 4
      have x5 : w2.cell? ⟨wr.heap.size, 5, none⟩ = some (.bool op) := cell_pr (unhide HBL) 5
      have x6 : w2.cell? ⟨wr.heap.size, 6, none⟩ = some (.bool os) := cell_pr (unhide HBL) 6
      have x7 : w2.cell? ⟨wr.heap.size, 7, none⟩ = some (.int .i64 se) := cell_pr (unhide HBL) 7
      have x8 : w2.cell? ⟨wr.heap.size, 8, none⟩ = some (.int .i64 nw) := cell_pr (unhide HBL) 8
      have x9 : w2.cell? ⟨wr.heap.size, 9, none⟩ = some (.int .i64 ra) := cell_pr (unhide HBL) 9
      have hxl : wr.heap.size < w2.heap.size := lt_of_block (unhide HBL)
      go_wp2_with fail
      refine (unhide hcle w2 (unhide HB2)).mono ?_
      rintro e w3 ⟨rfl, b3⟩
      have HO3 := hide (ownPt_up (unhide HO2) b3)
      have HB3 := hide ((unhide HB2).trans (b3.mono (unhide HB2).size))
      have HBL3 := hide ((b3.block _ (lt_of_block (unhide HBL))).trans (unhide HBL))
      clear b3 HO2 HB2 HBL hcle x0 x1 x2 x3 x4 x5 x6 x7 x8 x9 hxl
      cases b1 with
      | true =>
        have HE2 : Hid ((l.take (k + 1)).filter P = (l.take k).filter P ++ [⟨nd, px, py, hv, wa, op, os, se, nw, ra⟩]) := unhide HE
        have x0 : w3.cell? ⟨wr.heap.size, 0, none⟩ = some (.int .i64 nd) := cell_pr (unhide HBL3) 0
        have x1 : w3.cell? ⟨wr.heap.size, 1, none⟩ = some (.int .i64 px) := cell_pr (unhide HBL3) 1
        have x2 : w3.cell? ⟨wr.heap.size, 2, none⟩ = some (.int .i64 py) := cell_pr (unhide HBL3) 2
        have x3 : w3.cell? ⟨wr.heap.size, 3, none⟩ = some (.string hv) := cell_pr (unhide HBL3) 3
        have x4 : w3.cell? ⟨wr.heap.size, 4, none⟩ = some (.bool wa) := cell_pr (unhide HBL3) 4
        have x5 : w3.cell? ⟨wr.heap.size, 5, none⟩ = some (.bool op) := cell_pr (unhide HBL3) 5
        have x6 : w3.cell? ⟨wr.heap.size, 6, none⟩ = some (.bool os) := cell_pr (unhide HBL3) 6
        have x7 : w3.cell? ⟨wr.heap.size, 7, none⟩ = some (.int .i64 se) := cell_pr (unhide HBL3) 7
        have x8 : w3.cell? ⟨wr.heap.size, 8, none⟩ = some (.int .i64 nw) := cell_pr (unhide HBL3) 8
        have x9 : w3.cell? ⟨wr.heap.size, 9, none⟩ = some (.int .i64 ra) := cell_pr (unhide HBL3) 9
        have hxl : wr.heap.size < w3.heap.size := lt_of_block (unhide HBL3)
        have hww : w.heap.size ≤ w3.heap.size := (unhide HB3).size
        have HO4 : Hid (∀ o, (w3.alloc o).ownsRow w.heap.size 48 10 (.slice a m c2) m (peC ((l.take k).filter P))) := fun o => by
          have := ownPt_up (unhide HO3) ((Below.refl w3.heap.size w3).alloc (Nat.le_refl _) o)
          unfold OwnPt at this
          rw [unhide HTL] at this
          exact this
        have HG2 := hide (fun z (hz : (Value.slice a m c2).ownBlock = some z) => ownPt_ge (unhide HO3) hz)
        clear HO3 HBL3 HE
        go_wp2_with (refine wpList_append_lies _ rfl (.tmp 17) (.tmp 19) 52 rfl w.heap.size 48 i0 (.agg #[.int .i64 0, .int .i64 0, .int .i64 0, .string ⟨#[]⟩, .bool false, .bool false, .bool false, .int .i64 0, .int .i64 0, .int .i64 0]) 10 72 Try.undGp hi hz0 hz1 hz2 rfl (by decide) (.slice a m c2) m _ (by rfl) (unhide HO4 _) ⟨w3.heap.size, 0, none⟩ 1 1 [.int .i64 nd, .int .i64 px, .int .i64 py, .string hv, .bool wa, .bool op, .bool os, .int .i64 se, .int .i64 nw, .int .i64 ra] (by rfl) (by rfl) (World.news_of_block (heap_alloc_new w3 _)) (Pr.cl_one ⟨nd, px, py, hv, wa, op, os, se, nw, ra⟩) (by decide) (by unfold maxLen; omega) (by omega) (by simp; omega) _ rfl ?_)
        intro g2 cap2 w4 hown hgrow hat hlt2
        have HF : Hid (OwnPt 48 w4 w.heap.size (.slice (some ⟨g2, 0, none⟩) (m + 1) cap2) ((l.take (k + 1)).filter P)) := by
          show OwnPt _ _ _ _ _
          rw [unhide HE2]
          unfold OwnPt
          rw [peC_append, List.length_append, unhide HTL]
          exact hown
        have HB4 := hide (((unhide HB3).alloc hww (.cells (Array.mk [.int .i64 nd, .int .i64 px, .int .i64 py, .string hv, .bool wa, .bool op, .bool os, .int .i64 se, .int .i64 nw, .int .i64 ra]) 48)).grown hgrow (by simp; omega) (fun z hz => unhide HG2 z hz))
        have HL4 : Hid (((l.take (k + 1)).filter P).length = m + 1) := by
          show _ = _
          rw [unhide HE2, List.length_append, unhide HTL]
          rfl
        clear hown hgrow hat hlt2 HO4 HB3 HG2 x0 x1 x2 x3 x4 x5 x6 x7 x8 x9 hxl
        go_wp2
        go_roundw
        case rel => exact ⟨k + 1, m + 1, _, _, by omega, by omega, by go_num, rfl, unhide HL4, unhide HF, unhide HB4⟩
        case measure => simp [intOf]; omega
      | false =>
        have HE2 : Hid ((l.take (k + 1)).filter P = (l.take k).filter P) := (unhide HE).trans (List.append_nil _)
        have HF : Hid (OwnPt 48 w3 w.heap.size (.slice a m c2) ((l.take (k + 1)).filter P)) := by
          show OwnPt _ _ _ _ _
          rw [unhide HE2]
          exact unhide HO3
        have HL4 : Hid (((l.take (k + 1)).filter P).length = m) := by
          show _ = _
          rw [unhide HE2, unhide HTL]
        clear HO3 HBL3 HE
        go_wp2
        go_roundw
        case rel => exact ⟨k + 1, m, _, _, by omega, by omega, by go_num, rfl, unhide HL4, unhide HF, unhide HB3⟩
        case measure => simp [intOf]; omega
    · have hkn : k = n := by omega
      have q1 : ¬ (k : Int) < n := by omega
      have HF : Hid (OwnPt 48 wr w.heap.size (.slice a m c2) (l.filter P)) := by
        have h1 := unhide HR
        rw [show l.take k = l by rw [hkn, unhide HN, List.take_length]] at h1
        exact h1
      clear hkn HR
      go_wp2
      go_ret
      exact ⟨_, rfl, unhide HF, unhide HB⟩

set_option maxRecDepth 100000 in
set_option maxHeartbeats 4000000 in
theorem those_on (g1 : Nat) (a0 : Option Addr) (l : List Pr) (c : Nat) (P : Pr → Bool) (w : World) (hl : PrsAt w a0 l) (hm : l.length ≤ 100000)
    (hcl : ∀ p ∈ l, ∀ W, Below w.heap.size w W → Calls Try.prog 37 #[.agg p.cl.toArray, .pointer (some ⟨g1, 0, none⟩)] W fun e W' => e = .returned (.bool (P p)) ∧ Below W.heap.size W W') :
    Calls Try.prog 21 #[.slice a0 l.length c, .func (.func 37) #[] #[.pointer (some ⟨g1, 0, none⟩)]] w fun e w' => ∃ v, e = .returned v ∧ OwnPt 48 w' w.heap.size v (l.filter P) ∧ Below w.heap.size w w' := by
  have HL := hide hl
  have HCL := hide hcl
  obtain ⟨i0, hi, hz0, hz1, hz2⟩ := info_parts Try.infoPe
  obtain ⟨n, hn⟩ : ∃ n, n = l.length := ⟨_, rfl⟩
  rw [← hn]
  have HN := hide hn
  rw [← hn] at hm
  clear hl hn hcl
  go_enter Try.func21, Try.ntmps21
  go_wp2_with fail
  go_loopw [5, 10] (fun lv kv wr => ∃ (k m : Nat) (a : Option Addr) (c : Nat), k ≤ n ∧ m ≤ k ∧ kv = .int .i64 k ∧ lv = .slice a m c ∧ ((l.take k).filter P).length = m ∧ OwnPt 48 wr w.heap.size lv ((l.take k).filter P) ∧ Below w.heap.size w wr) (fun _ kv _ => n - (intOf kv).toNat)
  case atStart => exact ⟨0, 0, none, 0, by omega, by omega, rfl, rfl, rfl, World.ownsRow_nil _ _ _ _, Below.refl _ _⟩
  case round =>
    obtain ⟨k, m, a, c2, hk, hmk, rfl, rfl, hlen, hO, hB⟩ := hrel
    have HTL := hide hlen
    have HR := hide hO
    have HB := hide hB
    clear hO hB hlen
    by_cases hlt : k < n
    · have hlt' : k < l.length := by rw [← unhide HN]; exact hlt
      obtain ⟨e, he⟩ : ∃ e, e = l[k] := ⟨_, rfl⟩
      obtain ⟨g, o, rfl, hgl, hra⟩ := prs_range (unhide HL) (unhide HB) (i := k) (p := e) (by rw [he]; exact List.getElem?_eq_getElem hlt')
      have HE : Hid ((l.take (k + 1)).filter P = (l.take k).filter P ++ (if P e then [e] else [])) := by
        show _ = _
        rw [List.take_succ_eq_append_getElem hlt', he, List.filter_append, List.filter_cons, List.filter_nil]
      have hcle := hide (unhide HCL e (by rw [he]; exact List.getElem_mem _))
      have q1 : (k : Int) < n := by omega
      clear he hlt'
      obtain ⟨b1, hb1⟩ : ∃ b, b = P e := ⟨_, rfl⟩
      rw [← hb1] at HE hcle
      clear hb1
      obtain ⟨nd, px, py, hv, wa, op, os, se, nw, ra⟩ := e
      unfold Pr.cl at hcle
      dsimp only at hcle
      have u0 : wr.cell? ⟨g, o + k * 10, none⟩ = some (.int .i64 nd) := hra 0 _ rfl
      have u1 : wr.cell? ⟨g, o + k * 10 + 1, none⟩ = some (.int .i64 px) := hra 1 _ rfl
      have u2 : wr.cell? ⟨g, o + k * 10 + 2, none⟩ = some (.int .i64 py) := hra 2 _ rfl
      have u3 : wr.cell? ⟨g, o + k * 10 + 3, none⟩ = some (.string hv) := hra 3 _ rfl
      have u4 : wr.cell? ⟨g, o + k * 10 + 4, none⟩ = some (.bool wa) := hra 4 _ rfl
      have u5 : wr.cell? ⟨g, o + k * 10 + 5, none⟩ = some (.bool op) := hra 5 _ rfl
      have u6 : wr.cell? ⟨g, o + k * 10 + 6, none⟩ = some (.bool os) := hra 6 _ rfl
      have u7 : wr.cell? ⟨g, o + k * 10 + 7, none⟩ = some (.int .i64 se) := hra 7 _ rfl
      have u8 : wr.cell? ⟨g, o + k * 10 + 8, none⟩ = some (.int .i64 nw) := hra 8 _ rfl
      have u9 : wr.cell? ⟨g, o + k * 10 + 9, none⟩ = some (.int .i64 ra) := hra 9 _ rfl
      have HZ := hide (heap_alloc_new wr (.cells zP.cl.toArray 48))
      have HG := hide (newPr wr zP ⟨nd, px, py, hv, wa, op, os, se, nw, ra⟩)
      have HI := hide (pr_info ⟨nd, px, py, hv, wa, op, os, se, nw, ra⟩)
      have HA := hide (pr_all ⟨nd, px, py, hv, wa, op, os, se, nw, ra⟩)
      unfold zP Pr.cl at HZ
      unfold Pr.cl at HI HA
      dsimp only at HZ HI HA
      clear hra
      go_wp2_with (refine wpList_store_row_to rfl 48 (.tmp 7) (.tmp 13) rfl wr.heap.size #[.int .i64 nd, .int .i64 px, .int .i64 py, .string hv, .bool wa, .bool op, .bool os, .int .i64 se, .int .i64 nw, .int .i64 ra] rfl rfl 48 _ (unhide HZ) (unhide HI) rfl (unhide HA) (NewPr wr ⟨nd, px, py, hv, wa, op, os, se, nw, ra⟩) (unhide HG) ?_)
      intro w2 h2
      have HO2 := hide (ownPt_up (unhide HR) h2.be)
      have HB2 := hide ((unhide HB).trans (h2.be.mono (unhide HB).size))
      have HBL := hide h2.blk
      clear h2 u0 u1 u2 u3 u4 u5 u6 u7 u8 u9 HZ HG HI HA HR HB
      have x0 : w2.cell? ⟨wr.heap.size, 0, none⟩ = some (.int .i64 nd) := cell_pr (unhide HBL) 0
      have x1 : w2.cell? ⟨wr.heap.size, 1, none⟩ = some (.int .i64 px) := cell_pr (unhide HBL) 1
      have x2 : w2.cell? ⟨wr.heap.size, 2, none⟩ = some (.int .i64 py) := cell_pr (unhide HBL) 2
      have x3 : w2.cell? ⟨wr.heap.size, 3, none⟩ = some (.string hv) := cell_pr (unhide HBL) 3
      have x4 : w2.cell? ⟨wr.heap.size, 4, none⟩ = some (.bool wa) := cell_pr (unhide HBL) 4
      have x5 : w2.cell? ⟨wr.heap.size, 5, none⟩ = some (.bool op) := cell_pr (unhide HBL) 5
      have x6 : w2.cell? ⟨wr.heap.size, 6, none⟩ = some (.bool os) := cell_pr (unhide HBL) 6
      have x7 : w2.cell? ⟨wr.heap.size, 7, none⟩ = some (.int .i64 se) := cell_pr (unhide HBL) 7
      have x8 : w2.cell? ⟨wr.heap.size, 8, none⟩ = some (.int .i64 nw) := cell_pr (unhide HBL) 8
      have x9 : w2.cell? ⟨wr.heap.size, 9, none⟩ = some (.int .i64 ra) := cell_pr (unhide HBL) 9
      have hxl : wr.heap.size < w2.heap.size := lt_of_block (unhide HBL)
      go_wp2_with fail
      refine (unhide hcle w2 (unhide HB2)).mono ?_
      rintro e w3 ⟨rfl, b3⟩
      have HO3 := hide (ownPt_up (unhide HO2) b3)
      have HB3 := hide ((unhide HB2).trans (b3.mono (unhide HB2).size))
      have HBL3 := hide ((b3.block _ (lt_of_block (unhide HBL))).trans (unhide HBL))
      clear b3 HO2 HB2 HBL hcle x0 x1 x2 x3 x4 x5 x6 x7 x8 x9 hxl
      cases b1 with
      | true =>
        have HE2 : Hid ((l.take (k + 1)).filter P = (l.take k).filter P ++ [⟨nd, px, py, hv, wa, op, os, se, nw, ra⟩]) := unhide HE
        have x0 : w3.cell? ⟨wr.heap.size, 0, none⟩ = some (.int .i64 nd) := cell_pr (unhide HBL3) 0
        have x1 : w3.cell? ⟨wr.heap.size, 1, none⟩ = some (.int .i64 px) := cell_pr (unhide HBL3) 1
        have x2 : w3.cell? ⟨wr.heap.size, 2, none⟩ = some (.int .i64 py) := cell_pr (unhide HBL3) 2
        have x3 : w3.cell? ⟨wr.heap.size, 3, none⟩ = some (.string hv) := cell_pr (unhide HBL3) 3
        have x4 : w3.cell? ⟨wr.heap.size, 4, none⟩ = some (.bool wa) := cell_pr (unhide HBL3) 4
        have x5 : w3.cell? ⟨wr.heap.size, 5, none⟩ = some (.bool op) := cell_pr (unhide HBL3) 5
        have x6 : w3.cell? ⟨wr.heap.size, 6, none⟩ = some (.bool os) := cell_pr (unhide HBL3) 6
        have x7 : w3.cell? ⟨wr.heap.size, 7, none⟩ = some (.int .i64 se) := cell_pr (unhide HBL3) 7
        have x8 : w3.cell? ⟨wr.heap.size, 8, none⟩ = some (.int .i64 nw) := cell_pr (unhide HBL3) 8
        have x9 : w3.cell? ⟨wr.heap.size, 9, none⟩ = some (.int .i64 ra) := cell_pr (unhide HBL3) 9
        have hxl : wr.heap.size < w3.heap.size := lt_of_block (unhide HBL3)
        have hww : w.heap.size ≤ w3.heap.size := (unhide HB3).size
        have HO4 : Hid (∀ o, (w3.alloc o).ownsRow w.heap.size 48 10 (.slice a m c2) m (peC ((l.take k).filter P))) := fun o => by
          have := ownPt_up (unhide HO3) ((Below.refl w3.heap.size w3).alloc (Nat.le_refl _) o)
          unfold OwnPt at this
          rw [unhide HTL] at this
          exact this
        have HG2 := hide (fun z (hz : (Value.slice a m c2).ownBlock = some z) => ownPt_ge (unhide HO3) hz)
        clear HO3 HBL3 HE
        go_wp2_with (refine wpList_append_lies _ rfl (.tmp 17) (.tmp 19) 52 rfl w.heap.size 48 i0 (.agg #[.int .i64 0, .int .i64 0, .int .i64 0, .string ⟨#[]⟩, .bool false, .bool false, .bool false, .int .i64 0, .int .i64 0, .int .i64 0]) 10 72 Try.undGp hi hz0 hz1 hz2 rfl (by decide) (.slice a m c2) m _ (by rfl) (unhide HO4 _) ⟨w3.heap.size, 0, none⟩ 1 1 [.int .i64 nd, .int .i64 px, .int .i64 py, .string hv, .bool wa, .bool op, .bool os, .int .i64 se, .int .i64 nw, .int .i64 ra] (by rfl) (by rfl) (World.news_of_block (heap_alloc_new w3 _)) (Pr.cl_one ⟨nd, px, py, hv, wa, op, os, se, nw, ra⟩) (by decide) (by unfold maxLen; omega) (by omega) (by simp; omega) _ rfl ?_)
        intro g2 cap2 w4 hown hgrow hat hlt2
        have HF : Hid (OwnPt 48 w4 w.heap.size (.slice (some ⟨g2, 0, none⟩) (m + 1) cap2) ((l.take (k + 1)).filter P)) := by
          show OwnPt _ _ _ _ _
          rw [unhide HE2]
          unfold OwnPt
          rw [peC_append, List.length_append, unhide HTL]
          exact hown
        have HB4 := hide (((unhide HB3).alloc hww (.cells (Array.mk [.int .i64 nd, .int .i64 px, .int .i64 py, .string hv, .bool wa, .bool op, .bool os, .int .i64 se, .int .i64 nw, .int .i64 ra]) 48)).grown hgrow (by simp; omega) (fun z hz => unhide HG2 z hz))
        have HL4 : Hid (((l.take (k + 1)).filter P).length = m + 1) := by
          show _ = _
          rw [unhide HE2, List.length_append, unhide HTL]
          rfl
        clear hown hgrow hat hlt2 HO4 HB3 HG2 x0 x1 x2 x3 x4 x5 x6 x7 x8 x9 hxl
        go_wp2
        go_roundw
        case rel => exact ⟨k + 1, m + 1, _, _, by omega, by omega, by go_num, rfl, unhide HL4, unhide HF, unhide HB4⟩
        case measure => simp [intOf]; omega
      | false =>
        have HE2 : Hid ((l.take (k + 1)).filter P = (l.take k).filter P) := (unhide HE).trans (List.append_nil _)
        have HF : Hid (OwnPt 48 w3 w.heap.size (.slice a m c2) ((l.take (k + 1)).filter P)) := by
          show OwnPt _ _ _ _ _
          rw [unhide HE2]
          exact unhide HO3
        have HL4 : Hid (((l.take (k + 1)).filter P).length = m) := by
          show _ = _
          rw [unhide HE2, unhide HTL]
        clear HO3 HBL3 HE
        go_wp2
        go_roundw
        case rel => exact ⟨k + 1, m, _, _, by omega, by omega, by go_num, rfl, unhide HL4, unhide HF, unhide HB3⟩
        case measure => simp [intOf]; omega
    · have hkn : k = n := by omega
      have q1 : ¬ (k : Int) < n := by omega
      have HF : Hid (OwnPt 48 wr w.heap.size (.slice a m c2) (l.filter P)) := by
        have h1 := unhide HR
        rw [show l.take k = l by rw [hkn, unhide HN, List.take_length]] at h1
        exact h1
      clear hkn HR
      go_wp2
      go_ret
      exact ⟨_, rfl, unhide HF, unhide HB⟩

set_option maxRecDepth 100000 in
set_option maxHeartbeats 4000000 in
theorem those_off (g1 : Nat) (a0 : Option Addr) (l : List Pr) (c : Nat) (P : Pr → Bool) (w : World) (hl : PrsAt w a0 l) (hm : l.length ≤ 100000)
    (hcl : ∀ p ∈ l, ∀ W, Below w.heap.size w W → Calls Try.prog 38 #[.agg p.cl.toArray, .pointer (some ⟨g1, 0, none⟩)] W fun e W' => e = .returned (.bool (P p)) ∧ Below W.heap.size W W') :
    Calls Try.prog 21 #[.slice a0 l.length c, .func (.func 38) #[] #[.pointer (some ⟨g1, 0, none⟩)]] w fun e w' => ∃ v, e = .returned v ∧ OwnPt 48 w' w.heap.size v (l.filter P) ∧ Below w.heap.size w w' := by
  have HL := hide hl
  have HCL := hide hcl
  obtain ⟨i0, hi, hz0, hz1, hz2⟩ := info_parts Try.infoPe
  obtain ⟨n, hn⟩ : ∃ n, n = l.length := ⟨_, rfl⟩
  rw [← hn]
  have HN := hide hn
  rw [← hn] at hm
  clear hl hn hcl
  go_enter Try.func21, Try.ntmps21
  go_wp2_with fail
  go_loopw [5, 10] (fun lv kv wr => ∃ (k m : Nat) (a : Option Addr) (c : Nat), k ≤ n ∧ m ≤ k ∧ kv = .int .i64 k ∧ lv = .slice a m c ∧ ((l.take k).filter P).length = m ∧ OwnPt 48 wr w.heap.size lv ((l.take k).filter P) ∧ Below w.heap.size w wr) (fun _ kv _ => n - (intOf kv).toNat)
  case atStart => exact ⟨0, 0, none, 0, by omega, by omega, rfl, rfl, rfl, World.ownsRow_nil _ _ _ _, Below.refl _ _⟩
  case round =>
    obtain ⟨k, m, a, c2, hk, hmk, rfl, rfl, hlen, hO, hB⟩ := hrel
    have HTL := hide hlen
    have HR := hide hO
    have HB := hide hB
    clear hO hB hlen
    by_cases hlt : k < n
    · have hlt' : k < l.length := by rw [← unhide HN]; exact hlt
      obtain ⟨e, he⟩ : ∃ e, e = l[k] := ⟨_, rfl⟩
      obtain ⟨g, o, rfl, hgl, hra⟩ := prs_range (unhide HL) (unhide HB) (i := k) (p := e) (by rw [he]; exact List.getElem?_eq_getElem hlt')
      have HE : Hid ((l.take (k + 1)).filter P = (l.take k).filter P ++ (if P e then [e] else [])) := by
        show _ = _
        rw [List.take_succ_eq_append_getElem hlt', he, List.filter_append, List.filter_cons, List.filter_nil]
      have hcle := hide (unhide HCL e (by rw [he]; exact List.getElem_mem _))
      have q1 : (k : Int) < n := by omega
      clear he hlt'
      obtain ⟨b1, hb1⟩ : ∃ b, b = P e := ⟨_, rfl⟩
      rw [← hb1] at HE hcle
      clear hb1
      obtain ⟨nd, px, py, hv, wa, op, os, se, nw, ra⟩ := e
      unfold Pr.cl at hcle
      dsimp only at hcle
      have u0 : wr.cell? ⟨g, o + k * 10, none⟩ = some (.int .i64 nd) := hra 0 _ rfl
      have u1 : wr.cell? ⟨g, o + k * 10 + 1, none⟩ = some (.int .i64 px) := hra 1 _ rfl
      have u2 : wr.cell? ⟨g, o + k * 10 + 2, none⟩ = some (.int .i64 py) := hra 2 _ rfl
      have u3 : wr.cell? ⟨g, o + k * 10 + 3, none⟩ = some (.string hv) := hra 3 _ rfl
      have u4 : wr.cell? ⟨g, o + k * 10 + 4, none⟩ = some (.bool wa) := hra 4 _ rfl
      have u5 : wr.cell? ⟨g, o + k * 10 + 5, none⟩ = some (.bool op) := hra 5 _ rfl
      have u6 : wr.cell? ⟨g, o + k * 10 + 6, none⟩ = some (.bool os) := hra 6 _ rfl
      have u7 : wr.cell? ⟨g, o + k * 10 + 7, none⟩ = some (.int .i64 se) := hra 7 _ rfl
      have u8 : wr.cell? ⟨g, o + k * 10 + 8, none⟩ = some (.int .i64 nw) := hra 8 _ rfl
      have u9 : wr.cell? ⟨g, o + k * 10 + 9, none⟩ = some (.int .i64 ra) := hra 9 _ rfl
      have HZ := hide (heap_alloc_new wr (.cells zP.cl.toArray 48))
      have HG := hide (newPr wr zP ⟨nd, px, py, hv, wa, op, os, se, nw, ra⟩)
      have HI := hide (pr_info ⟨nd, px, py, hv, wa, op, os, se, nw, ra⟩)
      have HA := hide (pr_all ⟨nd, px, py, hv, wa, op, os, se, nw, ra⟩)
      unfold zP Pr.cl at HZ
      unfold Pr.cl at HI HA
      dsimp only at HZ HI HA
      clear hra
      go_wp2_with (refine wpList_store_row_to rfl 48 (.tmp 7) (.tmp 13) rfl wr.heap.size #[.int .i64 nd, .int .i64 px, .int .i64 py, .string hv, .bool wa, .bool op, .bool os, .int .i64 se, .int .i64 nw, .int .i64 ra] rfl rfl 48 _ (unhide HZ) (unhide HI) rfl (unhide HA) (NewPr wr ⟨nd, px, py, hv, wa, op, os, se, nw, ra⟩) (unhide HG) ?_)
      intro w2 h2
      have HO2 := hide (ownPt_up (unhide HR) h2.be)
      have HB2 := hide ((unhide HB).trans (h2.be.mono (unhide HB).size))
      have HBL := hide h2.blk
      clear h2 u0 u1 u2 u3 u4 u5 u6 u7 u8 u9 HZ HG HI HA HR HB
      have x0 : w2.cell? ⟨wr.heap.size, 0, none⟩ = some (.int .i64 nd) := cell_pr (unhide HBL) 0
      have x1 : w2.cell? ⟨wr.heap.size, 1, none⟩ = some (.int .i64 px) := cell_pr (unhide HBL) 1
      have x2 : w2.cell? ⟨wr.heap.size, 2, none⟩ = some (.int .i64 py) := cell_pr (unhide HBL) 2
      have x3 : w2.cell? ⟨wr.heap.size, 3, none⟩ = some (.string hv) := cell_pr (unhide HBL) 3
      have x4 : w2.cell? ⟨wr.heap.size, 4, none⟩ = some (.bool wa) := cell_pr (unhide HBL) 4
      have x5 : w2.cell? ⟨wr.heap.size, 5, none⟩ = some (.bool op) := cell_pr (unhide HBL) 5
      have x6 : w2.cell? ⟨wr.heap.size, 6, none⟩ = some (.bool os) := cell_pr (unhide HBL) 6
      have x7 : w2.cell? ⟨wr.heap.size, 7, none⟩ = some (.int .i64 se) := cell_pr (unhide HBL) 7
      have x8 : w2.cell? ⟨wr.heap.size, 8, none⟩ = some (.int .i64 nw) := cell_pr (unhide HBL) 8
      have x9 : w2.cell? ⟨wr.heap.size, 9, none⟩ = some (.int .i64 ra) := cell_pr (unhide HBL) 9
      have hxl : wr.heap.size < w2.heap.size := lt_of_block (unhide HBL)
      go_wp2_with fail
      refine (unhide hcle w2 (unhide HB2)).mono ?_
      rintro e w3 ⟨rfl, b3⟩
      have HO3 := hide (ownPt_up (unhide HO2) b3)
      have HB3 := hide ((unhide HB2).trans (b3.mono (unhide HB2).size))
      have HBL3 := hide ((b3.block _ (lt_of_block (unhide HBL))).trans (unhide HBL))
      clear b3 HO2 HB2 HBL hcle x0 x1 x2 x3 x4 x5 x6 x7 x8 x9 hxl
      cases b1 with
      | true =>
        have HE2 : Hid ((l.take (k + 1)).filter P = (l.take k).filter P ++ [⟨nd, px, py, hv, wa, op, os, se, nw, ra⟩]) := unhide HE
        have x0 : w3.cell? ⟨wr.heap.size, 0, none⟩ = some (.int .i64 nd) := cell_pr (unhide HBL3) 0
        have x1 : w3.cell? ⟨wr.heap.size, 1, none⟩ = some (.int .i64 px) := cell_pr (unhide HBL3) 1
        have x2 : w3.cell? ⟨wr.heap.size, 2, none⟩ = some (.int .i64 py) := cell_pr (unhide HBL3) 2
        have x3 : w3.cell? ⟨wr.heap.size, 3, none⟩ = some (.string hv) := cell_pr (unhide HBL3) 3
        have x4 : w3.cell? ⟨wr.heap.size, 4, none⟩ = some (.bool wa) := cell_pr (unhide HBL3) 4
        have x5 : w3.cell? ⟨wr.heap.size, 5, none⟩ = some (.bool op) := cell_pr (unhide HBL3) 5
        have x6 : w3.cell? ⟨wr.heap.size, 6, none⟩ = some (.bool os) := cell_pr (unhide HBL3) 6
        have x7 : w3.cell? ⟨wr.heap.size, 7, none⟩ = some (.int .i64 se) := cell_pr (unhide HBL3) 7
        have x8 : w3.cell? ⟨wr.heap.size, 8, none⟩ = some (.int .i64 nw) := cell_pr (unhide HBL3) 8
        have x9 : w3.cell? ⟨wr.heap.size, 9, none⟩ = some (.int .i64 ra) := cell_pr (unhide HBL3) 9
        have hxl : wr.heap.size < w3.heap.size := lt_of_block (unhide HBL3)
        have hww : w.heap.size ≤ w3.heap.size := (unhide HB3).size
        have HO4 : Hid (∀ o, (w3.alloc o).ownsRow w.heap.size 48 10 (.slice a m c2) m (peC ((l.take k).filter P))) := fun o => by
          have := ownPt_up (unhide HO3) ((Below.refl w3.heap.size w3).alloc (Nat.le_refl _) o)
          unfold OwnPt at this
          rw [unhide HTL] at this
          exact this
        have HG2 := hide (fun z (hz : (Value.slice a m c2).ownBlock = some z) => ownPt_ge (unhide HO3) hz)
        clear HO3 HBL3 HE
        go_wp2_with (refine wpList_append_lies _ rfl (.tmp 17) (.tmp 19) 52 rfl w.heap.size 48 i0 (.agg #[.int .i64 0, .int .i64 0, .int .i64 0, .string ⟨#[]⟩, .bool false, .bool false, .bool false, .int .i64 0, .int .i64 0, .int .i64 0]) 10 72 Try.undGp hi hz0 hz1 hz2 rfl (by decide) (.slice a m c2) m _ (by rfl) (unhide HO4 _) ⟨w3.heap.size, 0, none⟩ 1 1 [.int .i64 nd, .int .i64 px, .int .i64 py, .string hv, .bool wa, .bool op, .bool os, .int .i64 se, .int .i64 nw, .int .i64 ra] (by rfl) (by rfl) (World.news_of_block (heap_alloc_new w3 _)) (Pr.cl_one ⟨nd, px, py, hv, wa, op, os, se, nw, ra⟩) (by decide) (by unfold maxLen; omega) (by omega) (by simp; omega) _ rfl ?_)
        intro g2 cap2 w4 hown hgrow hat hlt2
        have HF : Hid (OwnPt 48 w4 w.heap.size (.slice (some ⟨g2, 0, none⟩) (m + 1) cap2) ((l.take (k + 1)).filter P)) := by
          show OwnPt _ _ _ _ _
          rw [unhide HE2]
          unfold OwnPt
          rw [peC_append, List.length_append, unhide HTL]
          exact hown
        have HB4 := hide (((unhide HB3).alloc hww (.cells (Array.mk [.int .i64 nd, .int .i64 px, .int .i64 py, .string hv, .bool wa, .bool op, .bool os, .int .i64 se, .int .i64 nw, .int .i64 ra]) 48)).grown hgrow (by simp; omega) (fun z hz => unhide HG2 z hz))
        have HL4 : Hid (((l.take (k + 1)).filter P).length = m + 1) := by
          show _ = _
          rw [unhide HE2, List.length_append, unhide HTL]
          rfl
        clear hown hgrow hat hlt2 HO4 HB3 HG2 x0 x1 x2 x3 x4 x5 x6 x7 x8 x9 hxl
        go_wp2
        go_roundw
        case rel => exact ⟨k + 1, m + 1, _, _, by omega, by omega, by go_num, rfl, unhide HL4, unhide HF, unhide HB4⟩
        case measure => simp [intOf]; omega
      | false =>
        have HE2 : Hid ((l.take (k + 1)).filter P = (l.take k).filter P) := (unhide HE).trans (List.append_nil _)
        have HF : Hid (OwnPt 48 w3 w.heap.size (.slice a m c2) ((l.take (k + 1)).filter P)) := by
          show OwnPt _ _ _ _ _
          rw [unhide HE2]
          exact unhide HO3
        have HL4 : Hid (((l.take (k + 1)).filter P).length = m) := by
          show _ = _
          rw [unhide HE2, unhide HTL]
        clear HO3 HBL3 HE
        go_wp2
        go_roundw
        case rel => exact ⟨k + 1, m, _, _, by omega, by omega, by go_num, rfl, unhide HL4, unhide HF, unhide HB3⟩
        case measure => simp [intOf]; omega
    · have hkn : k = n := by omega
      have q1 : ¬ (k : Int) < n := by omega
      have HF : Hid (OwnPt 48 wr w.heap.size (.slice a m c2) (l.filter P)) := by
        have h1 := unhide HR
        rw [show l.take k = l by rw [hkn, unhide HN, List.take_length]] at h1
        exact h1
      clear hkn HR
      go_wp2
      go_ret
      exact ⟨_, rfl, unhide HF, unhide HB⟩
end Go.Proofs.Ytjndgglbapghhaa

/- choke: nodes. -/
import Derived.Test.YtjndgglbapghhaaCkC
namespace Go.Proofs.Ytjndgglbapghhaa
open Go.RowKit
set_option linter.unusedVariables false
attribute [local go_sem] Oper.semAt_some

/-- a peer lies in a new block -/
structure NewPr (w : World) (c : Pr) (x : World) : Prop where
  blk : x.heap[w.heap.size]? = some (.cells c.cl.toArray 48 (0, 0))
  be : Below w.heap.size w x
theorem newPr (w : World) (c0 c : Pr) : NewPr w c ((w.alloc (.cells c0.cl.toArray 48)).setRow w.heap.size c.cl.toArray) := by
  have h1 := heap_alloc_new w (.cells c0.cl.toArray 48)
  have h2 : Below w.heap.size w (w.alloc (.cells c0.cl.toArray 48)) := (Below.refl _ _).alloc (Nat.le_refl _) _
  exact ⟨setRow_heap _ _ _ _ _ _ h1, ⟨h2.os, h2.tape, h2.output, by simp [World.setRow], fun i hi => (setRow_other _ _ i _ (by omega)).trans (h2.block i hi)⟩⟩
theorem own_i_le {w : World} {B B' : Nat} {v : Value} {l : List Int} (h : OwnI w B v l) (hb : B' ≤ B) : OwnI w B' v l := ⟨h.1, h.2.imp id fun ⟨g, cap, cur, h1, h2, h3⟩ => ⟨g, cap, cur, h1, Nat.le_trans hb h2, h3⟩⟩
theorem own_i_ge {w : World} {B : Nat} {v : Value} {l : List Int} (h : OwnI w B v l) {k : Nat} (hk : v.ownBlock = some k) : B ≤ k := by
  rcases h.2 with ⟨h1, h2⟩ | ⟨g, cap, cur, h1, h2, h3⟩
  · rw [h1] at hk; cases hk
  · rw [h1] at hk; cases hk; exact h2
theorem own_i_up {w w' : World} {B : Nat} {v : Value} {l : List Int} (h : OwnI w B v l) (hb : Below w.heap.size w w') : OwnI w' B v l := by
  refine ⟨h.1, ?_⟩
  rcases h.2 with ⟨h1, h2⟩ | ⟨g, cap, cur, h1, h2, h3, h4⟩
  · exact .inl ⟨h1, h2⟩
  · exact .inr ⟨g, cap, cur, h1, h2, (hb.block g (lt_of_block h3)).trans h3, h4⟩
theorem cell_pr {w : World} {g : Nat} {c : Pr} (h : w.heap[g]? = some (.cells c.cl.toArray 48 (0, 0))) (j : Nat) : w.cell? ⟨g, j, none⟩ = c.cl[j]? := by
  simp [World.cell?, h]
/-- the numbers of peers -/
def ndL (l : List Pr) : List Int := l.map Pr.nd
set_option maxRecDepth 100000 in
set_option maxHeartbeats 2000000 in
theorem nodes_any (a0 : Option Addr) (l : List Pr) (c : Nat) (w : World) (hl : PrsAt w a0 l) (hm : l.length ≤ 100000) :
    Calls Try.prog 32 #[.slice a0 l.length c] w fun e w' => ∃ v, e = .returned v ∧ OwnI w' w.heap.size v (ndL l) ∧ Below w.heap.size w w' := by
  have HL := hide hl
  obtain ⟨k0, hki, hkz0, hkz1, hkz2⟩ := info_parts Try.infoI
  obtain ⟨n, hn⟩ : ∃ n, n = l.length := ⟨_, rfl⟩
  rw [← hn]
  have HN := hide hn
  rw [← hn] at hm
  clear hl hn
  go_enter Try.func32, Try.ntmps32
  go_wp2_with fail
  go_loopw [3, 8] (fun lv kv wr => ∃ (k : Nat) (a : Option Addr) (c : Nat), k ≤ n ∧ kv = .int .i64 k ∧ lv = .slice a k c ∧ OwnI wr w.heap.size lv (ndL (l.take k)) ∧ Below w.heap.size w wr) (fun _ kv _ => n - (intOf kv).toNat)
  case atStart => exact ⟨0, none, 0, by omega, rfl, rfl, World.ownsRow_nil _ _ _ _, Below.refl _ _⟩
  case round =>
    obtain ⟨k, a, c2, hk, rfl, rfl, hO, hB⟩ := hrel
    have HR := hide hO
    have HB := hide hB
    clear hO hB
    by_cases hlt : k < n
    · have hlt' : k < l.length := by rw [← unhide HN]; exact hlt
      obtain ⟨e, he⟩ : ∃ e, e = l[k] := ⟨_, rfl⟩
      obtain ⟨g, o, rfl, hgl, hra⟩ := prs_range (unhide HL) (unhide HB) (i := k) (p := e) (by rw [he]; exact List.getElem?_eq_getElem hlt')
      have HE : Hid (ndL (l.take (k + 1)) = ndL (l.take k) ++ [e.nd]) := by
        show _ = _
        unfold ndL
        rw [List.take_succ_eq_append_getElem hlt', he, List.map_append]
        rfl
      have HTL : Hid ((ndL (l.take k)).length = k) := by
        show _ = _
        unfold ndL
        rw [List.length_map, List.length_take]
        omega
      have q1 : (k : Int) < n := by omega
      clear he hlt'
      obtain ⟨nd, px, py, hv, wa, op, os, se, nw, ra⟩ := e
      dsimp only at HE
      have u0 : wr.cell? ⟨g, o + k * 10, none⟩ = some (.int .i64 nd) := hra 0 _ rfl
      have u1 : wr.cell? ⟨g, o + k * 10 + 1, none⟩ = some (.int .i64 px) := hra 1 _ rfl
      have u2 : wr.cell? ⟨g, o + k * 10 + 2, none⟩ = some (.int .i64 py) := hra 2 _ rfl
      have u3 : wr.cell? ⟨g, o + k * 10 + 3, none⟩ = some (.string hv) := hra 3 _ rfl
      have u4 : wr.cell? ⟨g, o + k * 10 + 4, none⟩ = some (.bool wa) := hra 4 _ rfl
      have u5 : wr.cell? ⟨g, o + k * 10 + 5, none⟩ = some (.bool op) := hra 5 _ rfl
      have u6 : wr.cell? ⟨g, o + k * 10 + 6, none⟩ = some (.bool os) := hra 6 _ rfl
      have u7 : wr.cell? ⟨g, o + k * 10 + 7, none⟩ = some (.int .i64 se) := hra 7 _ rfl
      have u8 : wr.cell? ⟨g, o + k * 10 + 8, none⟩ = some (.int .i64 nw) := hra 8 _ rfl
      have u9 : wr.cell? ⟨g, o + k * 10 + 9, none⟩ = some (.int .i64 ra) := hra 9 _ rfl
      have HZ := hide (heap_alloc_new wr (.cells zP.cl.toArray 48))
      have HG := hide (newPr wr zP ⟨nd, px, py, hv, wa, op, os, se, nw, ra⟩)
      have HI := hide (pr_info ⟨nd, px, py, hv, wa, op, os, se, nw, ra⟩)
      have HA := hide (pr_all ⟨nd, px, py, hv, wa, op, os, se, nw, ra⟩)
      unfold zP Pr.cl at HZ
      unfold Pr.cl at HI HA
      dsimp only at HZ HI HA
      clear hra
      go_wp2_with (refine wpList_store_row_to rfl 48 (.tmp 5) (.tmp 11) rfl wr.heap.size #[.int .i64 nd, .int .i64 px, .int .i64 py, .string hv, .bool wa, .bool op, .bool os, .int .i64 se, .int .i64 nw, .int .i64 ra] rfl rfl 48 _ (unhide HZ) (unhide HI) rfl (unhide HA) (NewPr wr ⟨nd, px, py, hv, wa, op, os, se, nw, ra⟩) (unhide HG) ?_)
      intro w2 h2
      have hO2 := own_i_up (unhide HR) h2.be
      have HO2 : Hid (∀ o, (w2.alloc o).ownsRow w.heap.size 3 1 (.slice a k c2) k (ic (ndL (l.take k)))) := fun o => by
        have := own_i_up hO2 ((Below.refl w2.heap.size w2).alloc (Nat.le_refl _) o)
        unfold OwnI at this
        rw [unhide HTL] at this
        exact this
      have HG2 := hide (fun z (hz : (Value.slice a k c2).ownBlock = some z) => own_i_ge hO2 hz)
      have HB2 := hide ((unhide HB).trans (h2.be.mono (unhide HB).size))
      have hbl := h2.blk
      have x0 : w2.cell? ⟨wr.heap.size, 0, none⟩ = some (.int .i64 nd) := cell_pr hbl 0
      have hxl : wr.heap.size < w2.heap.size := lt_of_block hbl
      have hww : w.heap.size ≤ w2.heap.size := (unhide HB2).size
      clear h2 hO2 hbl u0 u1 u2 u3 u4 u5 u6 u7 u8 u9 HZ HG HI HA HR HB
      go_wp2_with (refine wpList_append_lies _ rfl (.tmp 12) (.tmp 15) 29 rfl w.heap.size 3 k0 (.int .i64 0) 1 8 Try.undI hki hkz0 hkz1 hkz2 rfl (by decide) (.slice a k c2) k _ (by rfl) (unhide HO2 _) ⟨w2.heap.size, 0, none⟩ 1 1 [.int .i64 nd] (by rfl) (by rfl) (news_lit w2 [.int .i64 nd] 3) (by intro u hu; simp at hu; subst hu; rfl) (by decide) (by unfold maxLen; omega) (by omega) (by simp; omega) _ rfl ?_)
      intro g2 cap2 w4 hown hgrow hat hlt2
      have HF : Hid (OwnI w4 w.heap.size (.slice (some ⟨g2, 0, none⟩) (k + 1) cap2) (ndL (l.take (k + 1)))) := by
        show OwnI _ _ _ _
        rw [unhide HE]
        unfold OwnI
        rw [ic_append, List.length_append, unhide HTL]
        exact hown
      have HB4 := hide (((unhide HB2).alloc hww (.cells #[.int .i64 nd] 3)).grown hgrow (by simp; omega) (fun z hz => unhide HG2 z hz))
      clear hown hgrow hat hlt2 HO2 HB2 HG2
      go_wp2
      go_roundw
      case rel => exact ⟨k + 1, _, _, by omega, by go_num, rfl, unhide HF, unhide HB4⟩
      case measure => simp [intOf]; omega
    · have hkn : k = n := by omega
      have q1 : ¬ (k : Int) < n := by omega
      have HF : Hid (OwnI wr w.heap.size (.slice a k c2) (ndL l)) := by
        have h1 := unhide HR
        rw [show l.take k = l by rw [hkn, unhide HN, List.take_length]] at h1
        exact h1
      clear hkn HR
      go_wp2
      go_ret
      exact ⟨_, rfl, unhide HF, unhide HB⟩
end Go.Proofs.Ytjndgglbapghhaa

/- net: To; the document's Find, To, Nth, ref. -/
import Derived.Test.YtmnjngkdiinnfaaNtM
import Derived.Test.YtmnjngkdiinnfaaNtI
namespace Go.Proofs.Ytmnjngkdiinnfaa
open Go.RowKit
set_option linter.unusedVariables false
attribute [local go_sem] Oper.semAt_some

/-- the numbers of those to a node -/
def toI (rs : List Mg) (node : Int) : List Int := (rs.filter fun r => decide (r.to = node)).map Mg.id
theorem toI_snoc (rs : List Mg) (x : Mg) (node : Int) : toI (rs ++ [x]) node = toI rs node ++ (if x.to = node then [x.id] else []) := by
  unfold toI
  rw [List.filter_append, List.map_append]
  by_cases h : x.to = node <;> simp [h]
theorem toI_len (rs : List Mg) (node : Int) : (toI rs node).length ≤ rs.length := by
  unfold toI
  rw [List.length_map]
  exact List.length_filter_le _ _
def zMl : Mg := ⟨0, 0, 0, ⟨#[]⟩⟩
/-- a mail lies in a new block -/
structure NewMl (T : TypeId) (w : World) (c : Mg) (x : World) : Prop where
  blk : x.heap[w.heap.size]? = some (.cells (mlL c).toArray T (0, 0))
  be : Below w.heap.size w x
theorem newMl (T : TypeId) (w : World) (c0 c : Mg) : NewMl T w c ((w.alloc (.cells (mlL c0).toArray T)).setRow w.heap.size (mlL c).toArray) := by
  have h1 := heap_alloc_new w (.cells (mlL c0).toArray T)
  have h2 : Below w.heap.size w (w.alloc (.cells (mlL c0).toArray T)) := (Below.refl _ _).alloc (Nat.le_refl _) _
  exact ⟨setRow_heap _ _ _ _ _ _ h1, ⟨h2.os, h2.tape, h2.output, by simp [World.setRow], fun i hi => (setRow_other _ _ i _ (by omega)).trans (h2.block i hi)⟩⟩
theorem own_i_le {w : World} {B B' : Nat} {v : Value} {l : List Int} (h : OwnI w B v l) (hb : B' ≤ B) : OwnI w B' v l := ⟨h.1, h.2.imp id fun ⟨g, cap, cur, h1, h2, h3⟩ => ⟨g, cap, cur, h1, Nat.le_trans hb h2, h3⟩⟩
theorem own_i_ge {w : World} {B : Nat} {v : Value} {l : List Int} (h : OwnI w B v l) {k : Nat} (hk : v.ownBlock = some k) : B ≤ k := (own_ty h hk).1
theorem ml_all (c : Mg) : (mlL c).toArray.all (·.oneCell') = true := by simp [mlL, Value.oneCell']
theorem ml_info (c : Mg) : (Try.prog.info? 72).map (·.size) = some (mlL c).toArray.size := by
  show _ = some 4
  kernel_rfl
theorem mr_info (c : Mg) : (Try.prog.info? 37).map (·.size) = some (mlL c).toArray.size := by
  show _ = some 4
  kernel_rfl
set_option maxRecDepth 100000 in
set_option maxHeartbeats 2000000 in
theorem nto_any (B b : Nat) (room last : Int) (rs : List Mg) (node : Int) (w : World) (hS : Nt w B b room last rs) :
    Calls Try.prog 24 #[.pointer (some ⟨b, 0, none⟩), .int .i64 node] w fun e w' => ∃ v, e = .returned v ∧ OwnI w' w.heap.size v (toI rs node) ∧ Below w.heap.size w w' := by
  have hli := hide (nlist_any B b room last rs w hS)
  have hlen : (rs.length : Int) ≤ 600 := by obtain ⟨mb, iv, h⟩ := hS; have := h.len; have := h.room2; omega
  obtain ⟨k0, hki, hkz0, hkz1, hkz2⟩ := info_parts Try.infoI
  obtain ⟨n, hn⟩ : ∃ n, rs.length = n := ⟨_, rfl⟩
  rw [hn] at hlen
  have HN := hide hn
  clear hS hn
  go_enter Try.func24, Try.ntmps24
  go_wp2_with fail
  refine (unhide hli).mono ?_
  rintro e w1 ⟨v1, rfl, ho1, hb1⟩
  obtain ⟨aM, cM, rfl, hml⟩ := ho1.mls
  rw [unhide HN]
  have HML := hide hml
  have HB1 := hide hb1
  clear hml ho1 hb1 hli
  go_wp2_with fail
  go_loopw [5, 11] (fun lv kv wr => ∃ k : Nat, k ≤ n ∧ kv = .int .i64 k ∧ OwnI wr w1.heap.size lv (toI (rs.take k) node) ∧ Below w1.heap.size w1 wr) (fun _ kv _ => n - (intOf kv).toNat)
  case atStart => exact ⟨0, by omega, rfl, by rw [List.take_zero]; exact World.ownsRow_nil _ _ _ _, Below.refl _ _⟩
  case round =>
    obtain ⟨k, hk, rfl, ho, hb⟩ := hrel
    obtain ⟨aL, cL, rfl, _, _, _⟩ := OwnI.ints ho
    have hjl : (toI (rs.take k) node).length ≤ 600 := by have := toI_len (rs.take k) node; rw [List.length_take] at this; omega
    obtain ⟨j, hj⟩ : ∃ j, (toI (rs.take k) node).length = j := ⟨_, rfl⟩
    rw [hj] at ho hjl ⊢
    have HO := hide ho
    have HB := hide hb
    have HJ := hide hj
    clear ho hb hj
    by_cases hlt : k < n
    · have q1 : (k : Int) < n := by omega
      have hkl : k < rs.length := by rw [unhide HN]; exact hlt
      obtain ⟨x, hx⟩ : ∃ x, x = rs[k] := ⟨_, rfl⟩
      have hxk : rs[k]? = some x := by rw [hx]; exact List.getElem?_eq_getElem hkl
      have HTK : Hid (rs.take (k + 1) = rs.take k ++ [x]) := by rw [hx]; exact List.take_succ_eq_append_getElem hkl
      obtain ⟨gM, rfl, hr⟩ := ((unhide HML).up (unhide HB)) k x hxk
      obtain ⟨xi, xf, xt, xx⟩ := x
      have y0 : wr.cell? ⟨gM, k * 4, none⟩ = some (.int .i64 xi) := hr 0 _ rfl
      have y1 : wr.cell? ⟨gM, k * 4 + 1, none⟩ = some (.int .i64 xf) := hr 1 _ rfl
      have y2 : wr.cell? ⟨gM, k * 4 + 2, none⟩ = some (.int .i64 xt) := hr 2 _ rfl
      have y3 : wr.cell? ⟨gM, k * 4 + 3, none⟩ = some (.string xx) := hr 3 _ rfl
      have HZ := hide (heap_alloc_new wr (.cells (mlL zMl).toArray 72))
      have HG := hide (newMl 72 wr zMl ⟨xi, xf, xt, xx⟩)
      have HI := hide (ml_info ⟨xi, xf, xt, xx⟩)
      have HA := hide (ml_all ⟨xi, xf, xt, xx⟩)
      unfold zMl mlL at HZ
      dsimp only at HZ
      clear hkl hx hxk hr
      go_wp2_with (refine wpList_store_row_to rfl 72 (.tmp 7) (.tmp 14) rfl wr.heap.size (mlL ⟨xi, xf, xt, xx⟩).toArray rfl rfl 72 _ (unhide HZ) (unhide HI) rfl (unhide HA) (NewMl 72 wr ⟨xi, xf, xt, xx⟩) (unhide HG) ?_)
      intro w2 h2
      have hO2 : OwnI w2 w1.heap.size (.slice aL j cL) (toI (rs.take k) node) := (unhide HO).up h2.be
      have HO2 := hide hO2
      have HB2 := hide ((unhide HB).trans (h2.be.mono (unhide HB).size))
      have hbl : w2.heap[wr.heap.size]? = some (.cells #[.int .i64 xi, .int .i64 xf, .int .i64 xt, .string xx] 72 (0, 0)) := h2.blk
      obtain ⟨c0, c1, c2, c3, cf⟩ := cells4 hbl
      clear h2 hO2 hbl y0 y1 y2 y3 HZ HG HI HA HO HB
      by_cases hto : xt = node
      · have q3 : (xt == node) = true := by simp [hto]
        have HT : Hid (toI (rs.take (k + 1)) node = toI (rs.take k) node ++ [xi]) := by
          show _ = _
          rw [unhide HTK, toI_snoc, if_pos hto]
        have hwx : w1.heap.size ≤ w2.heap.size := (unhide HB2).size
        have HR : Hid (∀ o, (w2.alloc o).ownsRow w1.heap.size 3 1 (.slice aL j cL) j (ic (toI (rs.take k) node))) := fun o => by
          have h := own_alloc (unhide HO2) o
          rw [unhide HJ] at h
          exact h
        clear hto
        go_wp2_with (refine wpList_append_lies _ rfl (.tmp 20) (.tmp 23) 54 rfl w1.heap.size 3 k0 (.int .i64 0) 1 8 Try.undI hki hkz0 hkz1 hkz2 rfl (by decide) (.slice aL j cL) j _ (by rfl) (unhide HR _) ⟨w2.heap.size, 0, none⟩ 1 1 [.int .i64 xi] (by rfl) (by rfl) (news_lit w2 [.int .i64 xi] 3) (by intro u hu; simp at hu; subst hu; rfl) (by decide) (by unfold maxLen; omega) (by omega) (by simp; omega) _ rfl ?_)
        intro g2 cap2 w5 hown hgrow hat hlt2
        have hO5 : OwnI w5 w1.heap.size (.slice (some ⟨g2, 0, none⟩) (j + 1) cap2) (toI (rs.take (k + 1)) node) := by
          unfold OwnI
          rw [unhide HT, ic_append, List.length_append, unhide HJ]
          exact hown
        have hB5 : Below w1.heap.size w1 w5 := ((unhide HB2).alloc hwx _).grown hgrow (by simp; omega) (fun z hz => own_i_ge (unhide HO2) hz)
        have HO5 := hide hO5
        have HB5 := hide hB5
        clear hown hgrow hat hlt2 hO5 hB5 HO2 HB2 HR
        go_wp2
        go_roundw
        case rel => exact ⟨k + 1, by omega, by go_num, unhide HO5, unhide HB5⟩
        case measure => simp [intOf]; omega
      · have q3 : (xt == node) = false := by simp [hto]
        have HT : Hid (OwnI w2 w1.heap.size (.slice aL j cL) (toI (rs.take (k + 1)) node)) := by
          show OwnI _ _ _ _
          rw [unhide HTK, toI_snoc, if_neg hto, List.append_nil]
          exact unhide HO2
        clear hto
        go_wp2
        go_roundw
        case rel => exact ⟨k + 1, by omega, by go_num, unhide HT, unhide HB2⟩
        case measure => simp [intOf]; omega
    · obtain rfl : k = n := by omega
      have q1 : ¬ (k : Int) < k := by omega
      have hfull : rs.take k = rs := List.take_of_length_le (by rw [unhide HN]; exact Nat.le_refl _)
      have HO2 : Hid (OwnI wr w.heap.size (.slice aL j cL) (toI rs node)) := by
        have := unhide HO
        rw [hfull] at this
        exact own_i_le this (unhide HB1).size
      have HBZ := hide ((unhide HB1).trans ((unhide HB).mono (unhide HB1).size))
      clear hfull HO HJ
      go_wp2
      go_ret
      exact ⟨_, rfl, unhide HO2, unhide HBZ⟩
end Go.Proofs.Ytmnjngkdiinnfaa

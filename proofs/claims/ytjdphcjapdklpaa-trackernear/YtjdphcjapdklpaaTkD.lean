/- tracker: Nodes. -/
import Derived.Test.YtjdphcjapdklpaaTkC
namespace Go.Proofs.Ytjdphcjapdklpaa
open Go.RowKit
set_option linter.unusedVariables false
attribute [local go_sem] Oper.semAt_some

theorem wpList_store_row_to {P : Program} {ops : Array Oper} {rest : List Oper} {o : Oper} {a : Act} {w : World} {Q : Exit → Act → World → Prop} (hgd : o.guard = none) (ty : TypeId) (x y : Operand) (ho : o.op = .store ty x y)
    (g : Nat) (cells : Array Value) (hx : a.eval x = .pointer (some ⟨g, 0, none⟩)) (hy : a.eval y = .agg cells)
    (t : TypeId) (old : Array Value) (hg : w.heap[g]? = some (.cells old t (0, 0))) (hi : (P.info? ty).map (·.size) = some cells.size)
    (hold : old.size = cells.size) (h1 : cells.all (·.oneCell') = true) (G : World → Prop) (hG : G (w.setRow g cells))
    (h : ∀ w', G w' → wpList P ops Q rest (a.put o.dst undef) w') : wpList P ops Q (o :: rest) a w :=
  wpList_store_row hgd ty x y ho g cells hx hy t old hg hi hold h1 (h _ hG)
theorem nt_info (c : Nt) : (Try.prog.info? 25).map (·.size) = some c.cl.toArray.size := by rw [show c.cl.toArray.size = 5 from rfl]; kernel_rfl
theorem nt_all (c : Nt) : c.cl.toArray.all (·.oneCell') = true := by simp [Nt.cl, Value.oneCell']
theorem Try.infoNt : (Try.prog.info? 25).map (fun i => (i.zero, i.size, i.bytes)) = some (some (.agg #[.string ⟨#[]⟩, .int .i64 0, .int .i64 0, .int .i64 0, .int .i64 0]), 5, 48) := by kernel_rfl
theorem Try.undNt : Try.prog.underlying 32 = some (.slice 25) := by kernel_rfl
/-- rows of notes of the call's own -/
def OwnNt (w : World) (base : Nat) (v : Value) (l : List Nt) : Prop := w.ownsRow base 25 5 v l.length (slC l)
def NtsAt (w : World) (a0 : Option Addr) (l : List Nt) : Prop := ∀ (t : Nat) (c : Nt), l[t]? = some c → ∃ g o, a0 = some ⟨g, o, none⟩ ∧ g < w.heap.size ∧ w.rangeAt g (o + t * 5) c.cl
theorem NtsAt.up {w w' : World} {a0 : Option Addr} {l : List Nt} (h : NtsAt w a0 l) (hb : Below w.heap.size w w') : NtsAt w' a0 l := fun t c ht => by
  obtain ⟨g, o, h1, h2, h3⟩ := h t c ht
  exact ⟨g, o, h1, Nat.lt_of_lt_of_le h2 hb.size, fun j v hv => cell_below (h3 j v hv) hb⟩
theorem OwnNt.nts {w : World} {B : Nat} {v : Value} {l : List Nt} (h : OwnNt w B v l) : ∃ a0 c, v = .slice a0 l.length c ∧ NtsAt w a0 l ∧ l.length ≤ c := by
  rcases h.2 with ⟨h1, h2⟩ | ⟨g, cap, cur, h1, h2, h3, h4, h5, h6, h7⟩
  · refine ⟨none, 0, by rw [h1, h2], fun t c ht => ?_, by omega⟩
    rw [List.length_eq_zero_iff.1 h2] at ht
    cases ht
  · rw [h1] at h
    refine ⟨_, cap, h1, fun t c ht => ⟨g, 0, rfl, lt_of_block h3, fun j v hv => ?_⟩, h4⟩
    have hl := (List.getElem?_eq_some_iff.1 ht).1
    have hj : j < 5 := by have := (List.getElem?_eq_some_iff.1 hv).1; rwa [Nt.cl_len] at this
    rw [Nat.zero_add, World.ownsRow.cellAt h (t * 5 + j) (by omega)]
    have e := slC_get l t j c ht hj
    rw [hv] at e
    exact e
theorem ownNt_up {w w' : World} {B : Nat} {v : Value} {l : List Nt} (h : OwnNt w B v l) (hb : Below w.heap.size w w') : OwnNt w' B v l := World.ownsRow.kept h (grown_of hb none) (Classical.em _)
theorem ownNt_ge {w : World} {B : Nat} {v : Value} {l : List Nt} (h : OwnNt w B v l) {k : Nat} (hk : v.ownBlock = some k) : B ≤ k := by
  rcases h.2 with ⟨h1, h2⟩ | ⟨g, cap, cur, h1, h2, h3⟩
  · rw [h1] at hk; cases hk
  · rw [h1] at hk; cases hk; exact h2
theorem ownNt_le {w : World} {B B' : Nat} {v : Value} {l : List Nt} (h : OwnNt w B v l) (hb : B' ≤ B) : OwnNt w B' v l := by
  refine ⟨h.1, ?_⟩
  rcases h.2 with h1 | ⟨g, cap, cur, h1, h2, h3⟩
  · exact .inl h1
  · exact .inr ⟨g, cap, cur, h1, by omega, h3⟩
/-- a new block with a note -/
structure NewNt (w : World) (c : Nt) (x : World) : Prop where
  blk : x.heap[w.heap.size]? = some (.cells c.cl.toArray 25 (0, 0))
  be : Below w.heap.size w x
theorem newNt (w : World) (c0 c : Nt) : NewNt w c ((w.alloc (.cells c0.cl.toArray 25)).setRow w.heap.size c.cl.toArray) := by
  have h0 := heap_alloc_new w (.cells c0.cl.toArray 25)
  refine ⟨setRow_heap _ _ _ _ _ _ h0, ⟨rfl, rfl, rfl, by simp [World.setRow], fun i hi => ?_⟩⟩
  rw [setRow_other _ _ _ _ (by omega)]
  exact Below.heap_alloc _ _ _ hi
/-- what is announced of a name, and counts -/
def ndF (f : Names) (k : By) (now : Int) : List Nt := if isT now = true then nodesF now ((f k).getD zS) else []
structure NodR (w : World) (v : Value) (l : List Nt) (w' : World) : Prop where
  own : OwnNt w' w.heap.size v l
  be : Below w.heap.size w w'
theorem nodes_snoc (now : Int) (s : List Nt) (k : Nat) (p : Nt) (hk : s[k]? = some p) : nodesF now (s.take (k + 1)) = nodesF now (s.take k) ++ (if cntB now p = true then [p] else []) := by
  obtain ⟨h, rfl⟩ := List.getElem?_eq_some_iff.1 hk
  unfold nodesF
  rw [List.take_succ_eq_append_getElem h, List.filter_append, List.filter_cons, List.filter_nil]
theorem ok_get {f : Names} (h : ∀ k s, f k = some s → SlOk k s) (k : By) : SlOk k ((f k).getD zS) := by
  cases hf : f k with
  | none => exact slOk_z k
  | some s => exact h k s hf
set_option maxRecDepth 100000 in
set_option maxHeartbeats 4000000 in
theorem nodes_any (b mb : Nat) (f : Names) (N : Nat) (room : Int) (k : By) (now : Int) (w : World) (hT : TbAt w b mb f N room) (hk : k.length ≤ maxLen) :
    Calls Try.prog 10 #[.pointer (some ⟨b, 0, none⟩), .string (bs k), .int .i64 now] w fun e w' => ∃ v, e = .returned v ∧ NodR w v (ndF f k now) w' := by
  have HTm := hide (fun W => ttime_any now W)
  have HND := hide (show ndF f k now = if isT now = true then nodesF now ((f k).getD zS) else [] from rfl)
  generalize ndF f k now = R at *
  obtain ⟨c0, c1, cl⟩ := hT.cells
  cases ht : isT now with
  | false =>
    have HR : Hid (R = []) := (unhide HND).trans (by rw [ht]; rfl)
    rw [ht] at HTm
    clear c0 c1 cl ht HND hT
    go_enter Try.func10, Try.ntmps10
    go_wp2_with fail
    refine (unhide HTm _).mono ?_
    rintro e w1 ⟨rfl, rfl⟩
    go_wp2
    go_ret
    exact ⟨_, rfl, by rw [unhide HR]; exact World.ownsRow_nil _ _ _ _, Below.refl _ _⟩
  | true =>
  have HR : Hid (R = nodesF now ((f k).getD zS)) := (unhide HND).trans (by rw [ht]; rfl)
  rw [ht] at HTm
  obtain ⟨D, hM, hD, _⟩ := hT.map
  have HM := hide hM
  have HD := hide hD
  have hso := ok_get hT.ok k
  have HK := hide hk
  clear ht HND hM hD hT hk
  obtain ⟨s, hs⟩ : ∃ s, s = (f k).getD zS := ⟨_, rfl⟩
  rw [← hs] at HR hso
  have HS := hide hs
  have hlen := hso.len
  have HLEN := hide hlen
  have HSO := hide hso
  clear hs hso hlen
  obtain ⟨i0, hi, hz0, hz1, hz2⟩ := info_parts Try.infoNt
  go_enter Try.func10, Try.ntmps10
  go_wp2_with fail
  refine (unhide HTm _).mono ?_
  rintro e w1 ⟨rfl, rfl⟩
  go_wp2_with (refine wpList_get_tk _ rfl _ _ rfl mb (Maps.size D) D f (unhide HD) rfl (unhide HM) k rfl (unhide HK) ?_)
  rw [← unhide HS]
  clear HM HD c0 c1 cl HTm
  go_loopw [7, 23] (fun lv kv wr => ∃ (i m : Nat) (a : Option Addr) (c : Nat), i ≤ 16 ∧ m ≤ i ∧ kv = .int .i64 i ∧ lv = .slice a m c ∧ (nodesF now (s.take i)).length = m ∧ OwnNt wr w.heap.size lv (nodesF now (s.take i)) ∧ Below w.heap.size w wr) (fun _ kv _ => 16 - (intOf kv).toNat)
  case atStart => exact ⟨0, 0, none, 0, by omega, by omega, rfl, rfl, rfl, World.ownsRow_nil _ _ _ _, Below.refl _ _⟩
  case round =>
    obtain ⟨i, m, a, c2, hi16, hmi, rfl, rfl, hlen, hO, hB⟩ := hrel
    have HTL := hide hlen
    have HOW := hide hO
    have HB := hide hB
    clear hO hB hlen
    by_cases hlt : i < 16
    · obtain ⟨p, hp⟩ : ∃ p, s[i]? = some p := ⟨_, List.getElem?_eq_getElem (by have := unhide HLEN; omega)⟩
      have HIX := hide (fun W => idx_note s i p (unhide HLEN) hp W)
      have HE := hide (nodes_snoc now s i p hp)
      have q1 : (i : Int) < 16 := by omega
      have HNd := hide (fun W => tnode_any p.nd W)
      have HZ := hide (heap_alloc_new wr (.cells zN.cl.toArray 25))
      have HG := hide (newNt wr zN p)
      have HI := hide (nt_info p)
      have HA := hide (nt_all p)
      have hcn : cntB now p = (isN p.nd && decide (now ≤ p.un)) := rfl
      have HCN := hide hcn
      clear hp hcn
      obtain ⟨T1, hT1⟩ : ∃ T, T = nodesF now (s.take (i + 1)) := ⟨_, rfl⟩
      rw [← hT1] at HE
      have HT1 := hide hT1
      generalize nodesF now (s.take i) = T0 at *
      clear hT1
      have hzc : zN.cl.toArray = #[.string ⟨#[]⟩, .int .i64 0, .int .i64 0, .int .i64 0, .int .i64 0] := rfl
      rw [hzc] at HZ HG
      clear hzc
      obtain ⟨nm, nd, px, py, un⟩ := p
      unfold Nt.cl at HIX HG HI HA
      dsimp only at HIX HNd HG HI HA HCN
      have hix := unhide HIX
      have hbn : Hid (∀ W, NewNt wr ⟨nm, nd, px, py, un⟩ W → (W.cell? ⟨wr.heap.size, 0, none⟩ = some (.string (bs nm)) ∧ W.cell? ⟨wr.heap.size, 1, none⟩ = some (.int .i64 nd) ∧ W.cell? ⟨wr.heap.size, 2, none⟩ = some (.int .i64 px) ∧ W.cell? ⟨wr.heap.size, 3, none⟩ = some (.int .i64 py) ∧ W.cell? ⟨wr.heap.size, 4, none⟩ = some (.int .i64 un)) ∧ wr.heap.size < W.heap.size) := fun W h => note_cells h.blk
      generalize isN nd = I at *
      go_wp2_with (refine wpList_store_row_to rfl 25 (.tmp 9) (.tmp 25) rfl wr.heap.size #[.string (bs nm), .int .i64 nd, .int .i64 px, .int .i64 py, .int .i64 un] rfl rfl 25 _ (unhide HZ) (unhide HI) rfl (unhide HA) (NewNt wr ⟨nm, nd, px, py, un⟩) (unhide HG) ?_)
      intro w2 h2
      obtain ⟨⟨x0, x1, x2, x3, x4⟩, xl⟩ := unhide hbn w2 h2
      have HO2 := hide (ownNt_up (unhide HOW) h2.be)
      have HB2 := hide ((unhide HB).trans (h2.be.mono (unhide HB).size))
      have hbl : w2.heap[wr.heap.size]? = some (.cells #[.string (bs nm), .int .i64 nd, .int .i64 px, .int .i64 py, .int .i64 un] 25 (0, 0)) := h2.blk
      have HBL := hide hbl
      clear hbl h2 HZ HG HI HA hix HIX hbn HOW HB
      go_wp2_with fail
      refine (unhide HNd _).mono ?_
      rintro e w3 ⟨rfl, rfl⟩
      have KEEP : ∀ (hf : cntB now ⟨nm, nd, px, py, un⟩ = false), T1 = T0 := fun hf => (unhide HE).trans (by rw [hf]; simp)
      have HKEEP := hide KEEP
      clear KEEP
      cases I with
      | false =>
        have HE2 := hide (unhide HKEEP ((unhide HCN).trans rfl))
        clear HE HKEEP
        go_wp2
        go_roundw
        case rel => exact ⟨i + 1, m, _, _, by omega, by omega, by go_num, rfl, by rw [← unhide HT1, unhide HE2]; exact unhide HTL, by rw [← unhide HT1, unhide HE2]; exact unhide HO2, unhide HB2⟩
        case measure => simp [intOf]; omega
      | true =>
        by_cases hun : now ≤ un
        · have HE2 : Hid (T1 = T0 ++ [⟨nm, nd, px, py, un⟩]) := (unhide HE).trans (by rw [unhide HCN, decide_eq_true hun]; rfl)
          have hww : w.heap.size ≤ w2.heap.size := (unhide HB2).size
          have HO4 : Hid (∀ o, (w2.alloc o).ownsRow w.heap.size 25 5 (.slice a m c2) m (slC T0)) := fun o => by
            have := ownNt_up (unhide HO2) ((Below.refl w2.heap.size w2).alloc (Nat.le_refl _) o)
            unfold OwnNt at this
            rw [unhide HTL] at this
            exact this
          have HG2 := hide (fun z (hz : (Value.slice a m c2).ownBlock = some z) => ownNt_ge (unhide HO2) hz)
          clear HE HKEEP HO2
          go_wp2_with (first | (refine wpList_load_row rfl 25 (.tmp 9) rfl wr.heap.size rfl 25 _ (0, 0) _ (unhide HBL) Try.underlying25 rfl (by kernel_rfl) ?_) | (refine wpList_append_lies _ rfl (.tmp 35) (.tmp 37) 32 rfl w.heap.size 25 i0 (.agg #[.string ⟨#[]⟩, .int .i64 0, .int .i64 0, .int .i64 0, .int .i64 0]) 5 48 Try.undNt hi hz0 hz1 hz2 rfl (by decide) (.slice a m c2) m _ (by rfl) (unhide HO4 _) ⟨w2.heap.size, 0, none⟩ 1 1 [.string (bs nm), .int .i64 nd, .int .i64 px, .int .i64 py, .int .i64 un] (by rfl) (by rfl) (news_lit w2 [.string (bs nm), .int .i64 nd, .int .i64 px, .int .i64 py, .int .i64 un] 25) (by intro u hu; simp at hu; rcases hu with rfl | rfl | rfl | rfl | rfl <;> rfl) (by decide) (by unfold maxLen; omega) (by omega) (by simp; omega) (w2.heap.size + 1) (by simp) ?_))
          intro g2 cap2 w4 hown hgrow hat hlt2
          have HF : Hid (OwnNt w4 w.heap.size (.slice (some ⟨g2, 0, none⟩) (m + 1) cap2) T1) := by
            show OwnNt _ _ _ _
            rw [unhide HE2]
            unfold OwnNt
            rw [slC_append, List.length_append, unhide HTL]
            exact hown
          have HB4 := hide (((unhide HB2).alloc hww (.cells #[.string (bs nm), .int .i64 nd, .int .i64 px, .int .i64 py, .int .i64 un] 25)).grown hgrow (by simp; omega) (fun z hz => unhide HG2 z hz))
          have HL4 : Hid (T1.length = m + 1) := by
            show _ = _
            rw [unhide HE2, List.length_append, unhide HTL]
            rfl
          clear hown hgrow hat hlt2 HO4 HB2 HG2 x0 x1 x2 x3 x4 xl
          go_wp2
          go_roundw
          case rel => exact ⟨i + 1, m + 1, _, _, by omega, by omega, by go_num, rfl, by rw [← unhide HT1]; exact unhide HL4, by rw [← unhide HT1]; exact unhide HF, unhide HB4⟩
          case measure => simp [intOf]; omega
        · have HE2 := hide (unhide HKEEP ((unhide HCN).trans (by rw [decide_eq_false hun]; rfl)))
          clear HE HKEEP
          go_wp2
          go_roundw
          case rel => exact ⟨i + 1, m, _, _, by omega, by omega, by go_num, rfl, by rw [← unhide HT1, unhide HE2]; exact unhide HTL, by rw [← unhide HT1, unhide HE2]; exact unhide HO2, unhide HB2⟩
          case measure => simp [intOf]; omega
    · have hkn : i = 16 := by omega
      have q1 : ¬ (i : Int) < 16 := by omega
      have HF : Hid (NodR w (.slice a m c2) R wr) := by
        have h1 := unhide HOW
        rw [show s.take i = s by rw [hkn, List.take_of_length_le (by rw [unhide HLEN]; exact Nat.le_refl _)], ← unhide HR] at h1
        exact ⟨h1, unhide HB⟩
      clear hkn HOW
      go_wp2
      go_ret
      exact ⟨_, rfl, unhide HF⟩
end Go.Proofs.Ytjdphcjapdklpaa

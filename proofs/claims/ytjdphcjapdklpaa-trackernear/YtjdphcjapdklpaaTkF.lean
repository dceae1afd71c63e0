/- tracker: keep. -/
import Derived.Test.YtjdphcjapdklpaaTkD
import Derived.Test.YtjdphcjapdklpaaLate
import Derived.Deep.MidRow
import Derived.Maps.OwnSet
namespace Go.Proofs.Ytjdphcjapdklpaa
open Go.RowKit
set_option linter.unusedVariables false
attribute [local go_sem] Oper.semAt_some

theorem wpList_store_mid_to {P : Program} {ops : Array Oper} {rest : List Oper} {o : Oper} {a : Act} {w : World} {Q : Exit → Act → World → Prop} (hgd : o.guard = none) (ty : TypeId) (x y : Operand) (ho : o.op = .store ty x y)
    (b p : Nat) (cells : Array Value) (hx : a.eval x = .pointer (some ⟨b, p, none⟩)) (hy : a.eval y = .agg cells)
    (ht : w.there b p cells.size) (hi : (P.info? ty).map (·.size) = some cells.size) (h1 : cells.all (·.oneCell') = true) (G : World → Prop) (hG : G (w.setCells b p cells.toList))
    (h : ∀ w', G w' → wpList P ops Q rest (a.put o.dst undef) w') : wpList P ops Q (o :: rest) a w :=
  wpList_store_mid hgd ty x y ho b p cells hx hy ht hi h1 (h _ hG)
theorem below_cells {B b : Nat} (hB : B ≤ b) : ∀ (vs : List Value) (o : Nat) {w w' : World}, Below B w w' → Below B w (w'.setCells b o vs)
  | [], _, _, _, h => h
  | v :: vs, o, _, _, h => below_cells hB vs (o + 1) (below_set0 h hB v)
theorem slC_at (s : List Nt) (j : Nat) (h : j < s.length * 5) : (slC s)[j]? = (s[j / 5]?.bind fun p => p.cl[j % 5]?) := by
  have h1 : j / 5 < s.length := by omega
  have e := slC_get s (j / 5) (j % 5) s[j / 5] (List.getElem?_eq_getElem h1) (by omega)
  rw [show j / 5 * 5 + j % 5 = j by omega] at e
  rw [e, List.getElem?_eq_getElem h1]
  rfl
/-- a block with all the slots of a name -/
structure AlAt (W : World) (ab : Nat) (s : List Nt) : Prop where
  len : s.length = 16
  ra : W.rangeAt ab 0 (slC s)
  th : W.there ab 0 80
  lt : ab < W.heap.size
theorem AlAt.up {W W' : World} {ab : Nat} {s : List Nt} (h : AlAt W ab s) (hb : Below W.heap.size W W') : AlAt W' ab s := by
  have e := hb.block ab h.lt
  refine ⟨h.len, fun j v hv => ?_, fun j hj => ?_, Nat.lt_of_lt_of_le h.lt hb.size⟩
  · rw [World.cell?_of_block (a := ⟨ab, 0 + j, none⟩) e]
    exact h.ra j v hv
  · rw [World.cell?_of_block (a := ⟨ab, 0 + j, none⟩) e, World.frozen?_of_block (a := ⟨ab, 0 + j, none⟩) e]
    exact h.th j hj
theorem alAt_new (w : World) (s : List Nt) (h : s.length = 16) (T : TypeId) : AlAt (w.alloc (.cells (slC s).toArray T)) w.heap.size s := by
  have hl : (slC s).length = 80 := by rw [slC_len, h]
  refine ⟨h, fun j v hv => ?_, fun j hj => ?_, by simp⟩
  · rw [cell_of_row _ _ _ _ _ _ (heap_alloc_new w _), Nat.zero_add, List.getElem?_toArray]
    exact hv
  · rw [cell_of_row _ _ _ _ _ _ (heap_alloc_new w _), Nat.zero_add, List.getElem?_toArray, List.getElem?_eq_getElem (by omega)]
    refine ⟨rfl, ?_⟩
    unfold World.frozen?
    rw [show (w.alloc (.cells (slC s).toArray T)).heap[(⟨w.heap.size, j, none⟩ : Addr).block]? = some (.cells (slC s).toArray T (0, 0)) from heap_alloc_new w _]
    simp
set_option maxHeartbeats 1000000 in
theorem AlAt.put {W : World} {ab : Nat} {s : List Nt} (h : AlAt W ab s) (p : Nt) (hp : 1 ≤ p.nd ∧ p.nd ≤ 15) : AlAt (W.setCells ab (p.nd.toNat * 5) p.cl) ab (putA s p) := by
  have hlen : (putA s p).length = 16 := by unfold putA; rw [List.length_set]; exact h.len
  have ht : W.there ab (p.nd.toNat * 5) p.cl.length := fun j hj => by
    rw [Nt.cl_len] at hj
    have := h.th (p.nd.toNat * 5 + j) (by omega)
    rwa [Nat.zero_add] at this
  have hsame := World.rangeAt_setCells_same W ab (p.nd.toNat * 5) p.cl ht
  refine ⟨hlen, fun j v hv => ?_, fun j hj => ?_, ?_⟩
  · have hj : j < 80 := by
      have := (List.getElem?_eq_some_iff.1 hv).1
      rw [slC_len, hlen] at this
      omega
    rw [slC_at _ _ (by rw [hlen]; omega)] at hv
    unfold putA at hv
    rw [List.getElem?_set] at hv
    by_cases e : p.nd.toNat = j / 5
    · rw [if_pos e, if_pos (by rw [h.len]; omega)] at hv
      have h7 := hsame (j % 5) v hv
      have e2 : p.nd.toNat * 5 + j % 5 = 0 + j := by omega
      rw [e2] at h7
      exact h7
    · rw [if_neg e, ← slC_at s j (by rw [h.len]; omega)] at hv
      have hoff : (0 + j < p.nd.toNat * 5) ∨ (p.nd.toNat * 5 + p.cl.length ≤ 0 + j) := by
        rw [Nt.cl_len]
        omega
      have hout := World.cell?_setCells_out ab p.cl (p.nd.toNat * 5) W ⟨ab, 0 + j, none⟩ (fun _ _ => hoff)
      exact hout.trans (h.ra j v hv)
  · exact World.there_setCells h.th ab _ _ j hj
  · exact Nat.lt_of_lt_of_le h.lt (below_cells (B := 0) (Nat.zero_le _) p.cl (p.nd.toNat * 5) (Below.refl 0 W)).size
theorem wpQuiet_load_mid {P : Program} {ops : Array Oper} {C : World → Prop} {Q : Act → Prop} {a : Act} {o : Oper} {rest : List Oper} (hg : o.guard = none) (ty : TypeId) (x : Operand) (ho : o.op = .load ty x)
    (b p : Nat) (hx : a.eval x = .pointer (some ⟨b, p, none⟩)) (cs : List Value) (d : TypeDesc) (hc : ∀ w, C w → w.rangeAt b p cs)
    (hu : P.underlying ty = some d) (hd : d.isRow = true) (hi : (P.info? ty).map (·.size) = some cs.length) (h : wpQuiet P ops C Q rest (a.put o.dst (.agg cs.toArray))) : wpQuiet P ops C Q (o :: rest) a := by
  unfold wpQuiet
  have hw : Region.wanted o (yielded ops a.tmps) = true := by simp [Region.wanted, hg]
  rw [if_pos hw]
  refine ⟨_, fun w hC => ?_, h⟩
  unfold Oper.quietAt Oper.quietUpon execOp
  simp only [ho, hx, Instr.loadAt, Instr.sureAddr, Sem.run_bind, Sem.run_pure, Result.andThen_ok, run_loadVar_mid w b p ty cs d (hc w hC) hu hd hi]
  exact ⟨trivial, trivial⟩
def keepF (f : Names) (k : By) (l : List Nt) : Names := if l = [] then delF f k else putF f k (l.foldl putA zS)
theorem fold_ok {k : By} : ∀ (l : List Nt) (s : List Nt), SlOk k s → (∀ p ∈ l, NtOk k p) → SlOk k (l.foldl putA s)
  | [], s, h, _ => h
  | p :: l, s, h, hp => fold_ok l (putA s p) (h.put (hp p (by simp))) (fun q hq => hp q (List.mem_cons_of_mem _ hq))
theorem Try.infoAl : (Try.prog.info? 56).map (·.size) = some 80 := by kernel_rfl
set_option maxRecDepth 100000 in
set_option maxHeartbeats 4000000 in
theorem keep_any (b mb : Nat) (f : Names) (N : Nat) (room : Int) (k : By) (a0 : Option Addr) (l : List Nt) (c : Nat) (w : World) (hT : TbAt w b mb f N room) (hN : N ≤ 100000) (hk : k.length ≤ maxLen) (hf : (f k).isSome = true) (hl : NtsAt w a0 l) (hm : l.length ≤ 1000) (hok : ∀ p ∈ l, NtOk k p) :
    Calls Try.prog 27 #[.pointer (some ⟨b, 0, none⟩), .string (bs k), .slice a0 l.length c] w fun e w' => e = .returned (.tuple #[]) ∧ TbAt w' b mb (keepF f k l) N room ∧ w.grownBy w' (some mb) := by
  obtain ⟨D, hM, hD, hDN⟩ := hT.map
  have hbm := hT.mlt
  cases l with
  | nil =>
    obtain ⟨c0, c1, cl⟩ := hT.cells
    have HM := hide hM
    have HD := hide hD
    have HT := hide hT
    have HDN := hide hDN
    have HK := hide hk
    clear hM hD hDN hk hl hok hf hT
    go_enter Try.func27, Try.ntmps27
    go_wp2_with (at_delete; refine wpList_delete_own _ rfl _ _ 50 9 rfl 56 keyed Try.underlying50 stE mb (Maps.size D) D rfl (unhide HM) _ (kS k) rfl (keyOf_s (unhide HK)) ?_)
    intro w2 hM2 ht2
    have hg := ht2.grown
    have HR : Hid (TbAt w2 b mb (keepF f k []) N room ∧ w.grownBy w2 (some mb)) := by
      refine ⟨⟨(hg.block b (unhide HT).lt (fun e => (unhide HT).ne (Option.some.inj e))).trans (unhide HT).blk, ⟨_, own_tight hM2, (unhide HD).del k, ?_⟩, fun j s hj => ?_, fun j s hj => ?_, (unhide HT).ne, (unhide HT).rm⟩, hg⟩
      · have := Maps.size_del (k := kS k) (unhide HD).tidy
        have := unhide HDN
        omega
      · unfold keepF at hj
        rw [if_pos rfl] at hj
        unfold delF at hj
        split at hj
        · cases hj
        · exact (unhide HT).ok j s hj
      · unfold keepF at hj
        rw [if_pos rfl] at hj
        unfold delF at hj
        split at hj
        · cases hj
        · exact (unhide HT).kl j s hj
    clear hM2 ht2 hg c0 c1 cl
    go_wp2_with fail
    refine bodyPost_ret (results_none rfl _ _ _) rfl ?_
    exact ⟨rfl, unhide HR⟩
  | cons p0 l0 =>
    obtain ⟨l, hll⟩ : ∃ l, l = p0 :: l0 := ⟨_, rfl⟩
    rw [← hll] at hl hm hok ⊢
    have hne : l ≠ [] := by rw [hll]; simp
    have hpos : 0 < l.length := by rw [hll]; simp
    clear hll p0 l0
    have HL := hide hl
    have HOK := hide hok
    have HNE := hide hne
    have HT := hide hT
    have HF := hide hf
    have HK := hide hk
    clear hl hok hne hT hM hD hDN hf hk
    obtain ⟨n, hn⟩ : ∃ n, n = l.length := ⟨_, rfl⟩
    rw [← hn] at hm hpos ⊢
    have HN := hide hn
    clear hn
    have hz : Try.zeroCells56 = (slC zS).toArray := by kernel_rfl
    have q0 : ¬ (n : Int) = 0 := by omega
    have q9 : ((n : Int) == 0) = false := by simpa using q0
    have hA0 := alAt_new w zS (by rfl) 56
    rw [← hz] at hA0
    have HA0 := hide hA0
    have hsz0 : (w.alloc (.cells Try.zeroCells56 56)).heap.size = w.heap.size + 1 := by simp
    have HSZ0 := hide hsz0
    have HB0 : Hid (Below w.heap.size w (w.alloc (.cells Try.zeroCells56 56))) := (Below.refl _ w).alloc (Nat.le_refl _) _
    clear hA0 hsz0 hz
    go_enter Try.func27, Try.ntmps27
    go_wp2_with fail
    generalize w.alloc (.cells Try.zeroCells56 56) = W0 at *
    go_loopw [19] (fun kv wr => ∃ i : Nat, i ≤ n ∧ kv = .int .i64 i ∧ AlAt wr w.heap.size ((l.take i).foldl putA zS) ∧ Below w.heap.size w wr ∧ w.heap.size < wr.heap.size) (fun kv _ => n - (intOf kv).toNat)
    case atStart => exact ⟨0, by omega, rfl, by rw [List.take_zero]; exact unhide HA0, unhide HB0, by rw [unhide HSZ0]; omega⟩
    case round =>
      clear HA0 HB0 HSZ0
      obtain ⟨i, hi, rfl, hA, hB, hlt0⟩ := hrel
      have HA := hide hA
      have HB := hide hB
      have HLT0 := hide hlt0
      clear hA hB hlt0
      by_cases hlt : i < n
      · have hlt' : i < l.length := by rw [← unhide HN]; exact hlt
        obtain ⟨p, hp⟩ : ∃ p, l[i]? = some p := ⟨_, List.getElem?_eq_getElem hlt'⟩
        obtain ⟨g, o, rfl, hgl, hra⟩ := (unhide HL).up (unhide HB) i p hp
        have hpo := unhide HOK p (List.mem_of_getElem? hp)
        have hfo : (l.take (i + 1)).foldl putA zS = putA ((l.take i).foldl putA zS) p := by
          obtain ⟨h1, rfl⟩ := List.getElem?_eq_some_iff.1 hp
          rw [List.take_succ_eq_append_getElem h1, List.foldl_append]
          rfl
        have HFO := hide hfo
        have HPO := hide hpo.1
        have HRA := hide hra
        obtain ⟨nn, hnn⟩ : ∃ nn : Nat, p.nd = nn := ⟨p.nd.toNat, by have := hpo.1; omega⟩
        have hn1 : 1 ≤ nn ∧ nn ≤ 15 := by have := hpo.1; omega
        have q1 : (i : Int) < n := by omega
        clear hp hlt' hra hpo hfo
        obtain ⟨nm, nd, px, py, un⟩ := p
        dsimp only at hnn
        subst hnn
        unfold Nt.cl at HRA
        dsimp only at HRA
        obtain ⟨s0, hs0⟩ : ∃ s, s = (l.take i).foldl putA zS := ⟨_, rfl⟩
        rw [← hs0] at HA HFO
        clear hs0
        have b2 : Below wr.heap.size wr (wr.alloc (.cells #[.string (bs nm), .int .i64 nn, .int .i64 px, .int .i64 py, .int .i64 un] 25)) := (Below.refl _ wr).alloc (Nat.le_refl _) _
        have HA2 := hide ((unhide HA).up b2)
        have HB2 := hide ((unhide HB).trans (b2.mono (unhide HB).size))
        have hpt := (unhide HA2).put ⟨nm, nn, px, py, un⟩ (by dsimp only; omega)
        have hB3 : Below w.heap.size w ((wr.alloc (.cells #[.string (bs nm), .int .i64 nn, .int .i64 px, .int .i64 py, .int .i64 un] 25)).setCells w.heap.size (nn * 5) [.string (bs nm), .int .i64 nn, .int .i64 px, .int .i64 py, .int .i64 un]) := below_cells (Nat.le_refl _) _ _ (unhide HB2)
        dsimp only [Int.toNat_natCast] at hpt
        have HPT := hide (And.intro hpt hB3)
        have hth : (wr.alloc (.cells #[.string (bs nm), .int .i64 nn, .int .i64 px, .int .i64 py, .int .i64 un] 25)).there w.heap.size (nn * 5) 5 := fun j hj => by
          have := (unhide HA2).th (nn * 5 + j) (by omega)
          rwa [Nat.zero_add] at this
        have HTH := hide hth
        clear hpt hth hB3 b2 HA HB
        go_wp2_with (first | (refine wpList_load_mid rfl 25 (.tmp 21) rfl g (o + i * 5) rfl [.string (bs nm), .int .i64 nn, .int .i64 px, .int .i64 py, .int .i64 un] _ (unhide HRA) Try.underlying25 rfl (by kernel_rfl) ?_) | (refine wpList_store_mid_to rfl 25 (.tmp 26) (.tmp 25) rfl w.heap.size (nn * 5) #[.string (bs nm), .int .i64 nn, .int .i64 px, .int .i64 py, .int .i64 un] rfl rfl (unhide HTH) (by kernel_rfl) (nt_all ⟨nm, nn, px, py, un⟩) (fun w' => AlAt w' w.heap.size (putA s0 ⟨nm, nn, px, py, un⟩) ∧ Below w.heap.size w w') (unhide HPT) ?_))
        intro w3 h3 h4
        have H3 := hide (And.intro h3 h4)
        clear h3 h4 HPT HTH HA2 HB2 HRA
        go_wp2
        go_roundw
        case rel => exact ⟨i + 1, by omega, by go_num, by rw [unhide HFO]; exact (unhide H3).1, (unhide H3).2, (unhide H3).1.lt⟩
        case measure => simp [intOf]; omega
      · have hin : i = n := by omega
        have q1 : ¬ (i : Int) < n := by omega
        have HAL : Hid (AlAt wr w.heap.size (l.foldl putA zS)) := by
          have h := unhide HA
          rw [show l.take i = l by rw [hin, unhide HN, List.take_length]] at h
          exact h
        have hT2 := (unhide HT).up (unhide HB)
        have HT2 := hide hT2
        obtain ⟨D, hM, hD, hDN⟩ := hT2.map
        have HM := hide hM
        have HD := hide hD
        have HDN := hide hDN
        obtain ⟨c0, c1, cl⟩ := hT2.cells
        clear hin HA hT2 hM hD hDN
        have hps : Hid (keepF f k l = putF f k (l.foldl putA zS)) := by
          show _ = _
          unfold keepF
          rw [if_neg (unhide HNE)]
        have hso : Hid (SlOk k (l.foldl putA zS)) := fold_ok l zS (slOk_z k) (unhide HOK)
        generalize l.foldl putA zS = s at *
        have C1 := hide c1
        clear c0 c1 cl
        go_wp2_with fail
        refine wp_region_late 6 ?A0 (by kernel_rfl) (by kernel_rfl) (by kernel_rfl) ?lex ?_
        case lex =>
          intro X
          have hne := gb_ne X.w
          have d1 : ∀ y : Gb X.w, y.w.cell? ⟨b, 1, none⟩ = some (.map (some mb)) := fun y => gb_cell (cell_below (unhide C1) X.ok) y
          dsimp only [List.take_succ_cons, List.take_zero]
          iterate 5 (go_big_quiet_step (fail))
          refine wpQuiet_load_mid rfl 56 (.tmp 6) rfl w.heap.size 0 rfl (slC s) _ (fun z hz => ?_) Try.underlying56 rfl (by rw [slC_len, (unhide HAL).len]; exact Try.infoAl) ?_
          · obtain ⟨y, rfl⟩ := hz
            exact (((unhide HAL).up X.ok).up y.ok).ra
          simp only [Act.put, List.setIfInBounds_toArray, List.set_cons_succ, List.set_cons_zero]
          refine wpQuiet_nil ?_
          exact rfl
        intro w5 b5
        have HT5 := hide ((unhide HT2).up b5)
        have hM5 := World.ownsMap.kept (unhide HM) (grown_of b5 none) (by simp)
        have HM5 := hide hM5
        have HB5 := hide ((unhide HB).trans (b5.mono (unhide HB).size))
        clear b5 hM5
        try dsimp only [List.drop_succ_cons, List.drop_zero]
        have hNl : Maps.size D < maxLen := by have := unhide HDN; unfold maxLen; omega
        refine wpList_mapUpdate_own _ rfl _ _ _ 50 rfl 9 56 keyed Try.underlying50 stE mb (Maps.size D) D rfl (unhide HM5) hNl (.string (bs k)) (.agg (slC s).toArray) (kS k) rfl rfl (keyOf_s (unhide HK)) (.held (.agg (slC s).toArray)) [] rfl ?_
        intro w6 hM6 hg6
        have HR : Hid (TbAt w6 b mb (keepF f k l) N room ∧ w.grownBy w6 (some mb)) := by
          have hT5 := unhide HT5
          have hhas : Maps.has D (kS k) = true := by rw [(unhide HD).hs]; exact unhide HF
          have hsz := Maps.size_put (k := kS k) (unhide HD).tidy (.held (.agg (slC s).toArray))
          rw [if_pos hhas] at hsz
          rw [unhide hps]
          refine ⟨⟨(hg6.block b hT5.lt (fun e => hT5.ne (Option.some.inj e))).trans hT5.blk, ⟨_, own_tight hM6, (unhide HD).put k s, by rw [hsz]; exact unhide HDN⟩, fun j t hj => ?_, fun j t hj => ?_, hT5.ne, hT5.rm⟩, grown_trans (grown_of (unhide HB5) _) hg6⟩
          unfold putF at hj
          split at hj
          · cases hj
            rename_i e
            rw [e]
            exact unhide hso
          · exact hT5.ok j t hj
          · unfold putF at hj
            split at hj
            · rename_i e
              rw [e]
              obtain ⟨s0, hs0⟩ := Option.isSome_iff_exists.1 (unhide HF)
              exact hT5.kl k s0 hs0
            · exact hT5.kl j t hj
        clear hM6 hg6
        go_wp2_with fail
        refine onlyN ?_
        first | go_end0 | (go_wp2; go_end0) | (refine bodyPost_ret (results_none rfl _ _ _) rfl ?_)
        exact ⟨rfl, unhide HR⟩
end Go.Proofs.Ytjdphcjapdklpaa

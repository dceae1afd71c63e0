import Derived.Test.YtcdnpdmcijiffaaShaT
import Derived.ScopeJumps
import Derived.WalkMore
import Derived.Deep.RegionLaw
import Derived.Test.YtcdnpdmcijiffaaReg
namespace Go.Proofs.Ytcdnpdmcijiffaa
open Go.RowKit
set_option linter.unusedVariables false

/-- block b is a sum: its state, its bytes behind the last whole block, how many bytes were written -/
structure HashAt (w : World) (b : Nat) (st : S8) (P : List UInt8) (n : Nat) : Prop where
  heap : w.heap[b]? = some (.cells (uc st.list ++ bc P ++ [Value.int .i64 n]).toArray 118 (0, 0))
  len : P.length = 64
theorem HashAt.long {w : World} {b : Nat} {st : S8} {P : List UInt8} {n : Nat} (h : HashAt w b st P n) : w.cell? ⟨b, 72, none⟩ = some (.int .i64 n) := by
  rw [cell_of_row w b 72 _ _ (0, 0) h.heap]
  have hl : (uc st.list ++ bc P).length = 72 := by rw [List.length_append, uc_length, S8.len, bc_length, h.len]
  simp only [List.getElem?_toArray]
  rw [List.getElem?_append_right (by omega), hl]
  rfl

theorem HashAt.lt {w : World} {b : Nat} {st : S8} {P : List UInt8} {n : Nat} (h : HashAt w b st P n) : b < w.heap.size := lt_of_block h.heap
theorem HashAt.free {w : World} {b : Nat} {st : S8} {P : List UInt8} {n : Nat} (h : HashAt w b st P n) (j : Nat) : w.frozen? ⟨b, j, none⟩ = false := frozen_of_row w b j _ _ h.heap
theorem hash_cells_length (st : S8) (P : List UInt8) (n : Nat) (hP : P.length = 64) : (uc st.list ++ bc P ++ [Value.int .i64 n]).length = 73 := by
  simp only [List.length_append, uc_length, S8.len, bc_length, hP, List.length_singleton]
theorem hash_over (st : S8) (P c : List UInt8) (n r : Nat) (hP : P.length = 64) (h : r + c.length ≤ 64) :
    (uc st.list ++ bc P ++ [Value.int .i64 n]).take (8 + r) ++ bc c ++ (uc st.list ++ bc P ++ [Value.int .i64 n]).drop (8 + r + c.length) = uc st.list ++ bc (over P c r) ++ [Value.int .i64 n] := by
  have h8 : (uc st.list).length = 8 := by rw [uc_length, S8.len]
  have hp : (bc P).length = 64 := by rw [bc_length, hP]
  have e1 : (uc st.list ++ bc P ++ [Value.int .i64 n]).take (8 + r) = uc st.list ++ (bc P).take r := by
    rw [List.take_append_of_le_length (by rw [List.length_append]; omega), List.take_append, h8, List.take_of_length_le (by omega), show 8 + r - 8 = r by omega]
  have e2 : (uc st.list ++ bc P ++ [Value.int .i64 n]).drop (8 + r + c.length) = (bc P).drop (r + c.length) ++ [Value.int .i64 n] := by
    rw [List.drop_append_of_le_length (by rw [List.length_append]; omega), List.drop_append, h8, List.drop_eq_nil_of_le (by omega), show 8 + r + c.length - 8 = r + c.length by omega, List.nil_append]
  rw [e1, e2]
  unfold over
  simp [bc, List.map_take, List.map_drop]
theorem hash_setLong (st : S8) (P : List UInt8) (n m : Nat) (hP : P.length = 64) : (uc st.list ++ bc P ++ [Value.int .i64 n]).set 72 (.int .i64 m) = uc st.list ++ bc P ++ [Value.int .i64 m] := by
  have hl : (uc st.list ++ bc P).length = 72 := by rw [List.length_append, uc_length, S8.len, bc_length, hP]
  rw [List.set_append_right _ _ (by omega), hl]
  rfl
theorem HashAt.setLong {w : World} {b : Nat} {st : S8} {P : List UInt8} {n : Nat} (h : HashAt w b st P n) (m : Nat) : HashAt (w.setCell ⟨b, 72, none⟩ (.int .i64 m)) b st P m := by
  refine ⟨?_, h.len⟩
  rw [heap_setCell_same w b 72 _ _ _ h.heap]
  rw [← hash_setLong st P n m h.len]
  simp
theorem HashAt.over {w : World} {b : Nat} {st : S8} {P : List UInt8} {n : Nat} (h : HashAt w b st P n) (c : List UInt8) (r : Nat) (hr : r + c.length ≤ 64) (cur : List Value) (hcur : uc st.list ++ bc P ++ [Value.int .i64 n] = cur) :
    HashAt (w.setRow b (cur.take (8 + r) ++ bc c ++ cur.drop (8 + r + c.length)).toArray) b st (over P c r) n := by
  refine ⟨?_, by rw [over_length _ _ _ (by rw [h.len]; exact hr), h.len]⟩
  rw [setRow_heap w b _ _ _ _ h.heap, ← hcur, hash_over st P c n r h.len hr]
theorem kept_setRow (B : Nat) (w : World) (b : Nat) (cs : Array Value) : Kept B b w (w.setRow b cs) :=
  ⟨rfl, rfl, rfl, by simp [World.setRow], fun k _ hn => setRow_other w b k cs hn⟩
theorem kept_setCells (B b : Nat) : ∀ (vs : List Value) (o : Nat) (w : World), Kept B b w (w.setCells b o vs)
  | [], _, w => Kept.refl _ _ _
  | v :: vs, o, w => (kept_set B w b o v).trans (kept_setCells B b vs (o + 1) _)
theorem kept_drewN {B b : Nat} {x y : World} (h : Kept B b x y) (n : Nat) : Kept B b x (y.drewN n) := ⟨h.os, h.tape, h.output, h.size, h.block⟩
theorem kept_drew {B b : Nat} {x y : World} (h : Kept B b x y) : Kept B b x y.drew := ⟨h.os, h.tape, h.output, h.size, h.block⟩

theorem bdrop (s : ByteArray) (n : Nat) : (s.extract n s.size).data.toList = s.data.toList.drop n := by
  rw [ByteArray.data_extract, Array.toList_extract, List.extract_eq_take_drop, List.take_of_length_le (by rw [List.length_drop, blen]; exact Nat.le_refl _)]
theorem mixed_uc (s : S8) (B : List UInt8) (hB : B.length = 64) (w : World) :
    Calls Try.prog 84 #[.agg (uc s.list).toArray, .agg (bc B).toArray] w fun e w' => e = .returned (.agg (uc (mix s B).list).toArray) ∧ Below w.heap.size w w' := mixed_any s B hB w
theorem HashAt.range8 {w : World} {b : Nat} {st : S8} {P : List UInt8} {n : Nat} (h : HashAt w b st P n) : w.rangeAt b 0 (uc st.list) := fun j v hv => by
  have hj := (List.getElem?_eq_some_iff.1 hv).1
  rw [Nat.zero_add, cell_of_row w b j _ _ (0, 0) h.heap]
  simp only [List.getElem?_toArray]
  rw [List.append_assoc, List.getElem?_append_left hj]
  exact hv
theorem HashAt.range64 {w : World} {b : Nat} {st : S8} {P : List UInt8} {n : Nat} (h : HashAt w b st P n) : w.rangeAt b 8 (bc P) := fun j v hv => by
  have hj := (List.getElem?_eq_some_iff.1 hv).1
  have h8 : (uc st.list).length = 8 := by rw [uc_length, S8.len]
  rw [cell_of_row w b (8 + j) _ _ (0, 0) h.heap]
  simp only [List.getElem?_toArray]
  rw [List.getElem?_append_left (by rw [List.length_append]; omega), List.getElem?_append_right (by omega), h8, Nat.add_sub_cancel_left]
  exact hv
theorem HashAt.there8 {w : World} {b : Nat} {st : S8} {P : List UInt8} {n : Nat} (h : HashAt w b st P n) : w.there b 0 8 := fun j hj => by
  have := h.range8.isSome j (by rw [uc_length, S8.len]; exact hj)
  exact ⟨this, by rw [Nat.zero_add]; exact h.free j⟩
theorem HashAt.below {w w' : World} {b : Nat} {st : S8} {P : List UInt8} {n : Nat} (h : HashAt w b st P n) (hb : Below w.heap.size w w') : HashAt w' b st P n := ⟨(hb.block b h.lt).trans h.heap, h.len⟩
theorem setCells_pre (b : Nat) (t : TypeId) : ∀ (vs : List Value) (o : Nat) (w : World) (cs : List Value), w.heap[b]? = some (.cells cs.toArray t (0, 0)) → o + vs.length ≤ cs.length →
    (w.setCells b o vs).heap[b]? = some (.cells (cs.take o ++ vs ++ cs.drop (o + vs.length)).toArray t (0, 0))
  | [], o, w, cs, h, hl => by
    simp only [List.length_nil, Nat.add_zero, List.append_nil, List.take_append_drop]
    exact h
  | v :: vs, o, w, cs, h, hl => by
    simp only [List.length_cons] at hl
    have h1 : (w.setCell ⟨b, o, none⟩ v).heap[b]? = some (.cells (cs.set o v).toArray t (0, 0)) := by
      rw [heap_setCell_same w b o _ t v h]
      simp
    have := setCells_pre b t vs (o + 1) _ (cs.set o v) h1 (by simp; omega)
    show ((w.setCell ⟨b, o, none⟩ v).setCells b (o + 1) vs).heap[b]? = _
    rw [this]
    congr 3
    have ho : o < (cs.set o v).length := by simp; omega
    rw [List.take_succ_eq_append_getElem ho, List.getElem_set_self, List.take_set_of_le (Nat.le_refl o), List.drop_set_of_lt (by omega), List.length_cons, show o + 1 + vs.length = o + (vs.length + 1) by omega]
    simp
theorem HashAt.setState {w : World} {b : Nat} {st st2 : S8} {P : List UInt8} {n : Nat} (h : HashAt w b st P n) : HashAt (w.setCells b 0 (uc st2.list)) b st2 P n := by
  refine ⟨?_, h.len⟩
  have h8 : (uc st2.list).length = 8 := by rw [uc_length, S8.len]
  have h8' : (uc st.list).length = 8 := by rw [uc_length, S8.len]
  rw [setCells_pre b _ (uc st2.list) 0 w _ h.heap (by rw [hash_cells_length st P n h.len, h8]; omega)]
  rw [List.take_zero, List.nil_append, Nat.zero_add, h8, List.append_assoc (uc st.list), ← h8', List.drop_left]
  simp

set_option maxRecDepth 100000 in
set_option maxHeartbeats 1000000 in
theorem take_any (w : World) (b : Nat) (l : List UInt8) (st : S8) (P : List UInt8) (s : ByteArray) (hs : l.length + s.size ≤ 1000000) (hW : HashAt w b st P l.length) (hH : HashOf l st P) :
    Calls Try.prog 81 #[.pointer (some ⟨b, 0, none⟩), .string s] w fun e w' => e = .returned (.tuple #[]) ∧ ∃ st' P', HashAt w' b st' P' (l ++ s.data.toList).length ∧ HashOf (l ++ s.data.toList) st' P' ∧ Kept w.heap.size b w w' := by
  go_enter Try.func81, Try.ntmps81
  go_wp2
  refine wp_scope_jumps 0 (fun a' w' => ∃ (s' : ByteArray) (c : List UInt8) (st' : S8) (P' : List UInt8) (u4 u5 u6 u7 u8 u9 u10 u11 u12 u13 u14 u15 u16 u17 u18 u19 u20 u21 u22 u23 u24 u25 u26 u27 u28 u29 u30 u31 u32 u33 u34 u35 u36 u37 u38 u39 u40 u41 u42 u43 u44 u45 u46 : Value), a' = { tmps := #[.pointer (some ⟨b, 0, none⟩), .string s', undef, undef, u4, u5, u6, u7, u8, u9, u10, u11, u12, u13, u14, u15, u16, u17, u18, u19, u20, u21, u22, u23, u24, u25, u26, u27, u28, u29, u30, u31, u32, u33, u34, u35, u36, u37, u38, u39, u40, u41, u42, u43, u44, u45, u46], defers := [] } ∧ s.data.toList = c ++ s'.data.toList ∧ HashAt w' b st' P' (l ++ c).length ∧ HashOf (l ++ c) st' P' ∧ Kept w.heap.size b w w') (fun a' _ => match a'.tmps.getD 1 undef with | .string x => x.size | _ => 0) rfl ?_ ?_
  · obtain ⟨c, hc⟩ : ∃ c : List UInt8, c = [] := ⟨_, rfl⟩
    have HS : Hid (s.data.toList = c ++ s.data.toList) := by show _ = _; rw [hc]; rfl
    have hA : HashAt w b st P (l ++ c).length := by rw [hc, List.append_nil]; exact hW
    have hO : HashOf (l ++ c) st P := by rw [hc, List.append_nil]; exact hH
    have hK : Kept w.heap.size b w w := Kept.refl _ _ _
    clear hc hW hH
    by_cases h0 : s.size = 0
    · have hz : s.data.toList = [] := List.eq_nil_of_length_eq_zero (by rw [blen]; exact h0)
      have hem : s.toList.isEmpty = true := by rw [ByteArray.toList_eq, hz]; rfl
      have hfin : Hid (∃ st' P', HashAt w b st' P' (l ++ s.data.toList).length ∧ HashOf (l ++ s.data.toList) st' P' ∧ Kept w.heap.size b w w) := by
        show ∃ st' P', _
        rw [unhide HS, hz, List.append_nil]
        exact ⟨st, P, hA, hO, hK⟩
      clear hz hA hO hK
      go_wp2
      go_step3
      go_wp2
      simp only [Exit.jump]
      refine bodyPost_ret (results_none rfl _ _ _) rfl ⟨rfl, unhide hfin⟩
    · have hne : (s.toList.isEmpty) = false := by
        rw [ByteArray.toList_eq]
        cases hz : s.data.toList with
        | nil => exact absurd (by rw [← blen, hz]; rfl) h0
        | cons x y => rfl
      have c72 := hA.long
      have hlen : (l ++ c).length ≤ 1000000 := by
        have hh := congrArg List.length (unhide HS)
        simp only [List.length_append, blen] at hh
        rw [List.length_append]
        omega
      generalize hN : (l ++ c).length = N at *
      obtain ⟨r, hr⟩ : ∃ r, r = N % 64 := ⟨_, rfl⟩
      have hr64 : r < 64 := by omega
      have hrI : (N : Int).tmod 64 = (r : Int) := by rw [Int.tmod_eq_emod_of_nonneg (by omega)]; omega
      have hrA : (0 : Int) ≤ r := by omega
      have hrB : (r : Int) < 64 := by omega
      have hrC : (r : Int) ≤ 64 := by omega
      have hr6 : ¬ 64 = r := by omega
      obtain ⟨n, hn⟩ : ∃ n, n = Nat.min s.size (64 - r) := ⟨_, rfl⟩
      have hn1 : n ≤ 64 - r := by rw [hn]; exact Nat.min_le_right _ _
      have hh := hA.heap
      have hcl : (uc st.list ++ bc P ++ [Value.int .i64 N]).length = 73 := by simp only [List.length_append, uc_length, S8.len, bc_length, hA.len, List.length_singleton]
      generalize hcur : uc st.list ++ bc P ++ [Value.int .i64 N] = cur at *
      have HR := hide hr
      have HN := hide hn
      have HCU := hide hcur
      have HNN := hide hN
      clear hr hn hcur hN
      go_wp2
      go_step3
      go_wp2
      go_region_law ((refine step_copy_string rfl (.tmp 15) (.tmp 16) 39 9 rfl 5 (by kernel_rfl) (by kernel_rfl) b (8 + r) (64 - r) (64 - r) s (by rfl) (by rfl) cur 118 (by exact hh) n (unhide HN) (by omega) ?_; intro W1 hW1))
      have hchl : (s.data.toList.take n).length = n := by
        rw [List.length_take, blen, unhide HN]
        exact Nat.min_eq_left (Nat.min_le_left _ _)
      have hnp : 0 < n := by rw [unhide HN]; exact Nat.lt_min.2 ⟨by omega, by omega⟩
      have hns : n ≤ s.size := by rw [unhide HN]; exact Nat.min_le_left _ _
      have hA1 : HashAt W1 b st (over P (s.data.toList.take n) r) N := by
        have hA0 : HashAt w.drew b st P N := ⟨hA.heap, hA.len⟩
        have := hA0.over (s.data.toList.take n) r (by omega) cur (unhide HCU)
        rw [hchl] at this
        rw [unhide hW1]
        exact this
      have hK1 : Kept w.heap.size b w W1 := by rw [unhide hW1]; exact (kept_drew hK).trans (kept_setRow _ _ _ _)
      have hA2 := hA1.setLong (N + n)
      have hK2 := hK1.trans (kept_set _ W1 b 72 (.int .i64 (N + n : Nat)))
      have c72' := hA1.long
      have f72' := hA1.free 72
      have c72'' := hA2.long
      have HA2 := hide hA2
      have HK2 := hide hK2
      have HA1 := hide hA1
      clear hA1 hA2 hK1 hK2 hA hK c72 hh
      have en : ((N + n : Nat) : Int) = (N : Int) + n := by omega
      rw [en] at HA2 HK2
      clear c72''
      have hNr : Hid ((l ++ c).length % 64 = r) := by show _ = _; rw [unhide HNN, unhide HR]
      have hsc' : Hid (s.data.toList = (c ++ s.data.toList.take n) ++ (s.extract n s.size).data.toList) := by
        show _ = _
        rw [bdrop, List.append_assoc, List.take_append_drop]; exact unhide HS
      have hlen' : Hid (N + n = (l ++ (c ++ s.data.toList.take n)).length) := by
        show _ = _
        rw [← List.append_assoc, List.length_append, unhide HNN, hchl]
      have hsz' : Hid ((s.extract n s.size).size < s.size) := by show _ < _; rw [ByteArray.size_extract]; omega
      by_cases hw : r + n = 64
      · have hT : (((N : Int) + n) % 64 == 0) = true := by have := unhide HR; simp; omega
        go_wp2
        generalize W1.setCell { block := b, off := 72 } (Value.int IntKind.i64 (↑N + ↑n)) = W2 at *
        have hP1 : (over P (s.data.toList.take n) r).length = 64 := (unhide HA2).len
        have hO2 : Hid (HashOf (l ++ (c ++ s.data.toList.take n)) (mix st (over P (s.data.toList.take n) r)) (over P (s.data.toList.take n) r)) := by
          have := hO.whole (s.data.toList.take n) (by rw [unhide hNr, hchl]; exact hw) (by rw [hchl]; exact hnp)
          rw [unhide hNr, List.append_assoc] at this
          exact this
        generalize over P (s.data.toList.take n) r = P1 at *
        clear c72' f72' HA1 hW1
        obtain ⟨stM, hstM⟩ : ∃ x, x = mix st P1 := ⟨_, rfl⟩
        have hmx := hide (mixed_uc st P1 hP1)
        rw [← hstM] at hmx hO2
        clear hstM
        generalize hA : Act.mk _ _ = A
        have hA0 : A.eval (.tmp 0) = .pointer (some ⟨b, 0, none⟩) := by rw [← hA]; rfl
        have hAs : A.tmps.size = 47 := by rw [← hA]; rfl
        obtain ⟨V, hVe⟩ : ∃ V : List (Nat × Nat × Value), V = [(0, 35, .pointer (some ⟨b, 0, none⟩)), (1, 36, .pointer (some ⟨b, 0, none⟩)), (2, 37, .pointer (some ⟨b, 0, none⟩)), (3, 38, .pointer (some ⟨b, 0, none⟩)), (4, 39, .agg (uc st.list).toArray), (5, 40, .pointer (some ⟨b, 0, none⟩)), (6, 41, .pointer (some ⟨b, 0, none⟩)), (7, 42, .pointer (some ⟨b, 8, none⟩)), (8, 43, .agg (bc P1).toArray), (9, 44, .agg (uc stM.list).toArray), (10, 45, .pointer (some ⟨b, 0, none⟩)), (11, 46, .pointer (some ⟨b, 0, none⟩))] := ⟨_, rfl⟩
        have hf0 : ∀ w, (Instr.fieldAt 118 (.pointer (some ⟨b, 0, none⟩)) 0).run Try.prog w = .ok (.pointer (some ⟨b, 0, none⟩)) w := fun w => by kernel_rfl
        have hf1 : ∀ w, (Instr.fieldAt 118 (.pointer (some ⟨b, 0, none⟩)) 1).run Try.prog w = .ok (.pointer (some ⟨b, 8, none⟩)) w := fun w => by kernel_rfl
        refine wp_region_inv0 (by kernel_rfl) (by kernel_rfl) (by kernel_rfl) (fun f a wr => Off [35, 36, 37, 38, 39, 40, 41, 42, 43, 44, 45, 46] A a ∧ ValsOk V f a ∧ (f 12 = true → f 4 = true ∧ f 8 = true ∧ f 9 = true) ∧ (f 12 = false → HashAt wr b st P1 (N + n)) ∧ (f 12 = true → HashAt wr b stM P1 (N + n)) ∧ Kept w.heap.size b w wr) ?start ?step ?fin
        case start => exact ⟨Off.refl _ _, vals_start _ _, by simp, fun _ => ⟨(unhide HA2).heap, (unhide HA2).len⟩, by simp, kept_drew (unhide HK2)⟩
        case step =>
          rintro f a wr i o ⟨hoff, hV, hs, hq, hp, hk⟩ ho hfi hdep
          have has : a.tmps.size = 47 := hoff.size.trans hAs
          have hv := fun (i d : Nat) (v : Value) (hm : (i, d, v) ∈ V) (hf : f i = true) => hV (i, d, v) hm hf
          rcases i with _ | _ | _ | _ | _ | _ | _ | _ | _ | _ | _ | _ | _ | i
          · obtain rfl := Option.some.inj ho
            refine wp_move (.tmp 0) rfl ?_
            rw [hoff.eval 0 (by simp), hA0]
            exact ⟨hoff.put 35 _ (by simp), vals_put hV 0 35 _ (by omega) (by rw [hVe]; simp) (by rw [hVe]; simp), hs, hq, hp, hk⟩
          · obtain rfl := Option.some.inj ho
            refine wp_move (.tmp 0) rfl ?_
            rw [hoff.eval 0 (by simp), hA0]
            exact ⟨hoff.put 36 _ (by simp), vals_put hV 1 36 _ (by omega) (by rw [hVe]; simp) (by rw [hVe]; simp), hs, hq, hp, hk⟩
          · obtain rfl := Option.some.inj ho
            have d1 : f 1 = true := hdep ⟨1, .data⟩ (by simp) rfl
            exact wp_nilCheck (.tmp 36) rfl _ (hv 1 36 (.pointer (some ⟨b, 0, none⟩)) (by rw [hVe]; simp) d1) ⟨hoff.put 37 _ (by simp), vals_put hV 2 37 _ (by omega) (by rw [hVe]; simp) (by rw [hVe]; simp), hs, hq, hp, hk⟩
          · obtain rfl := Option.some.inj ho
            have d2 : f 2 = true := hdep ⟨2, .data⟩ (by simp) rfl
            exact wp_field 118 (.tmp 37) 0 rfl _ _ (hv 2 37 (.pointer (some ⟨b, 0, none⟩)) (by rw [hVe]; simp) d2) hf0 ⟨hoff.put 38 _ (by simp), vals_put hV 3 38 _ (by omega) (by rw [hVe]; simp) (by rw [hVe]; simp), hs, hq, hp, hk⟩
          · obtain rfl := Option.some.inj ho
            have d3 : f 3 = true := hdep ⟨3, .data⟩ (by simp) rfl
            have q12 : f 12 = false := by
              cases hc : f 12 with
              | false => rfl
              | true => exact absurd (hs hc).1 (by rw [hfi]; simp)
            exact wp_load_mid 114 (.tmp 38) rfl b 0 (hv 3 38 (.pointer (some ⟨b, 0, none⟩)) (by rw [hVe]; simp) d3) (uc st.list) _ (hq q12).range8 Try.underlying114 rfl (by rw [uc_length, S8.len]; kernel_rfl) ⟨hoff.put 39 _ (by simp), vals_put hV 4 39 _ (by omega) (by rw [hVe]; simp) (by rw [hVe]; simp), fun h => absurd h (by show ¬ f 12 = true; rw [q12]; simp), hq, hp, hk⟩
          · obtain rfl := Option.some.inj ho
            refine wp_move (.tmp 0) rfl ?_
            rw [hoff.eval 0 (by simp), hA0]
            exact ⟨hoff.put 40 _ (by simp), vals_put hV 5 40 _ (by omega) (by rw [hVe]; simp) (by rw [hVe]; simp), hs, hq, hp, hk⟩
          · obtain rfl := Option.some.inj ho
            have d5 : f 5 = true := hdep ⟨5, .data⟩ (by simp) rfl
            exact wp_nilCheck (.tmp 40) rfl _ (hv 5 40 (.pointer (some ⟨b, 0, none⟩)) (by rw [hVe]; simp) d5) ⟨hoff.put 41 _ (by simp), vals_put hV 6 41 _ (by omega) (by rw [hVe]; simp) (by rw [hVe]; simp), hs, hq, hp, hk⟩
          · obtain rfl := Option.some.inj ho
            have d6 : f 6 = true := hdep ⟨6, .data⟩ (by simp) rfl
            exact wp_field 118 (.tmp 41) 1 rfl _ _ (hv 6 41 (.pointer (some ⟨b, 0, none⟩)) (by rw [hVe]; simp) d6) hf1 ⟨hoff.put 42 _ (by simp), vals_put hV 7 42 _ (by omega) (by rw [hVe]; simp) (by rw [hVe]; simp), hs, hq, hp, hk⟩
          · obtain rfl := Option.some.inj ho
            have d7 : f 7 = true := hdep ⟨7, .data⟩ (by simp) rfl
            have q12 : f 12 = false := by
              cases hc : f 12 with
              | false => rfl
              | true => exact absurd (hs hc).2.1 (by rw [hfi]; simp)
            exact wp_load_mid 116 (.tmp 42) rfl b 8 (hv 7 42 (.pointer (some ⟨b, 8, none⟩)) (by rw [hVe]; simp) d7) (bc P1) _ (hq q12).range64 Try.underlying116 rfl (by rw [bc_length, hP1]; kernel_rfl) ⟨hoff.put 43 _ (by simp), vals_put hV 8 43 _ (by omega) (by rw [hVe]; simp) (by rw [hVe]; simp), fun h => absurd h (by show ¬ f 12 = true; rw [q12]; simp), hq, hp, hk⟩
          · obtain rfl := Option.some.inj ho
            have d4 : f 4 = true := hdep ⟨4, .data⟩ (by simp) rfl
            have d8 : f 8 = true := hdep ⟨8, .data⟩ (by simp) rfl
            have q12 : f 12 = false := by
              cases hc : f 12 with
              | false => rfl
              | true => exact absurd (hs hc).2.2 (by rw [hfi]; simp)
            refine wp_call 84 #[.tmp 39, .tmp 43] #[114, 116] rfl Try.call84 #[.agg (uc st.list).toArray, .agg (bc P1).toArray] (by simp [hv 4 39 (.agg (uc st.list).toArray) (by rw [hVe]; simp) d4, hv 8 43 (.agg (bc P1).toArray) (by rw [hVe]; simp) d8]) (unhide hmx wr) ?_
            rintro e w3 ⟨rfl, hb3⟩
            exact ⟨_, rfl, hoff.put 44 _ (by simp), vals_put hV 9 44 _ (by omega) (by rw [hVe]; simp) (by rw [hVe]; simp), fun h => absurd h (by show ¬ f 12 = true; rw [q12]; simp), fun h => (hq h).below hb3, fun h => absurd h (by show ¬ f 12 = true; rw [q12]; simp), hk.trans (Kept.of_below (hb3.mono hk.size))⟩
          · obtain rfl := Option.some.inj ho
            have d0 : f 0 = true := hdep ⟨0, .data⟩ (by simp) rfl
            exact wp_nilCheck (.tmp 35) rfl _ (hv 0 35 (.pointer (some ⟨b, 0, none⟩)) (by rw [hVe]; simp) d0) ⟨hoff.put 45 _ (by simp), vals_put hV 10 45 _ (by omega) (by rw [hVe]; simp) (by rw [hVe]; simp), hs, hq, hp, hk⟩
          · obtain rfl := Option.some.inj ho
            have d10 : f 10 = true := hdep ⟨10, .data⟩ (by simp) rfl
            exact wp_field 118 (.tmp 45) 0 rfl _ _ (hv 10 45 (.pointer (some ⟨b, 0, none⟩)) (by rw [hVe]; simp) d10) hf0 ⟨hoff.put 46 _ (by simp), vals_put hV 11 46 _ (by omega) (by rw [hVe]; simp) (by rw [hVe]; simp), hs, hq, hp, hk⟩
          · obtain rfl := Option.some.inj ho
            have d11 : f 11 = true := hdep ⟨11, .data⟩ (by simp) rfl
            have d9 : f 9 = true := hdep ⟨9, .data⟩ (by simp) rfl
            have d4 : f 4 = true := hdep ⟨4, .phase⟩ (by simp) rfl
            have d8 : f 8 = true := hdep ⟨8, .phase⟩ (by simp) rfl
            have hqq := hq hfi
            refine wp_store_mid 114 (.tmp 46) (.tmp 44) rfl b 0 (uc stM.list).toArray (hv 11 46 (.pointer (some ⟨b, 0, none⟩)) (by rw [hVe]; simp) d11) (hv 9 44 (.agg (uc stM.list).toArray) (by rw [hVe]; simp) d9) (by rw [List.size_toArray, uc_length, S8.len]; exact hqq.there8) (by rw [List.size_toArray, uc_length, S8.len]; kernel_rfl) (all_oneCell_toArray (uc_oneCell _)) ?_
            exact ⟨hoff, vals_none hV 12 _ (by rw [hVe]; simp), fun _ => ⟨d4, d8, d9⟩, fun h => (by cases h), fun _ => hqq.setState, hk.trans (kept_setCells _ _ _ _ _)⟩
          · simp at ho
        case fin =>
          rintro f a wr ⟨hoff, hV, hs, hq, hp, hk⟩ hall
          have e := Off.all _ _ hoff
          have i12 := hall 12 (by decide)
          simp only [List.foldl_cons, List.foldl_nil] at e
          rw [← hA] at e
          generalize a.eval (.tmp 35) = x35, a.eval (.tmp 36) = x36, a.eval (.tmp 37) = x37, a.eval (.tmp 38) = x38, a.eval (.tmp 39) = x39, a.eval (.tmp 40) = x40, a.eval (.tmp 41) = x41, a.eval (.tmp 42) = x42, a.eval (.tmp 43) = x43, a.eval (.tmp 44) = x44, a.eval (.tmp 45) = x45, a.eval (.tmp 46) = x46 at e
          simp only [Act.put, List.setIfInBounds_toArray, List.set_cons_succ, List.set_cons_zero] at e
          subst e
          clear hoff hV
          go_wp2_with fail
          go_step3
          refine ⟨rfl, s.extract n s.size, c ++ s.data.toList.take n, stM, P1, _, _, _, _, _, _, _, _, _, _, _, _, _, _, _, _, _, _, _, _, _, _, _, _, _, _, _, _, _, _, _, _, _, _, _, _, _, _, _, _, _, _, _, rfl, unhide hsc', by rw [← unhide hlen']; exact hp i12, unhide hO2, hk⟩
      · have hT : (((N : Int) + n) % 64 == 0) = false := by have := unhide HR; simp; omega
        go_wp2
        go_step3
        refine ⟨rfl, s.extract n s.size, c ++ s.data.toList.take n, st, over P (s.data.toList.take n) r, _, _, _, _, _, _, _, _, _, _, _, _, _, _, _, _, _, _, _, _, _, _, _, _, _, _, _, _, _, _, _, _, _, _, _, _, _, _, _, _, _, _, _, rfl, unhide hsc', by rw [← unhide hlen']; exact unhide HA2, ?_, unhide HK2⟩
        · have := hO.more (s.data.toList.take n) (by rw [unhide hNr, hchl]; omega)
          rw [unhide hNr, List.append_assoc] at this
          exact this
  · rintro a' w' ⟨s', c, st', P', u4, u5, u6, u7, u8, u9, u10, u11, u12, u13, u14, u15, u16, u17, u18, u19, u20, u21, u22, u23, u24, u25, u26, u27, u28, u29, u30, u31, u32, u33, u34, u35, u36, u37, u38, u39, u40, u41, u42, u43, u44, u45, u46, rfl, hsc, hA, hO, hK⟩
    have HS := hide hsc
    clear hsc
    by_cases h0 : s'.size = 0
    · have hz : s'.data.toList = [] := List.eq_nil_of_length_eq_zero (by rw [blen]; exact h0)
      have hem : s'.toList.isEmpty = true := by rw [ByteArray.toList_eq, hz]; rfl
      have hfin : Hid (∃ st'' P'', HashAt w' b st'' P'' (l ++ s.data.toList).length ∧ HashOf (l ++ s.data.toList) st'' P'' ∧ Kept w.heap.size b w w') := by
        show ∃ st'' P'', _
        rw [unhide HS, hz, List.append_nil]
        exact ⟨st', P', hA, hO, hK⟩
      clear hz hA hO hK
      go_wp2
      simp only [Exit.jump]
      refine bodyPost_ret (results_none rfl _ _ _) rfl ⟨rfl, unhide hfin⟩
    · have hne : (s'.toList.isEmpty) = false := by
        rw [ByteArray.toList_eq]
        cases hz : s'.data.toList with
        | nil => exact absurd (by rw [← blen, hz]; rfl) h0
        | cons x y => rfl
      have c72 := hA.long
      have hlen : (l ++ c).length ≤ 1000000 := by
        have hh := congrArg List.length (unhide HS)
        simp only [List.length_append, blen] at hh
        rw [List.length_append]
        omega
      generalize hN : (l ++ c).length = N at *
      obtain ⟨r, hr⟩ : ∃ r, r = N % 64 := ⟨_, rfl⟩
      have hr64 : r < 64 := by omega
      have hrI : (N : Int).tmod 64 = (r : Int) := by rw [Int.tmod_eq_emod_of_nonneg (by omega)]; omega
      have hrA : (0 : Int) ≤ r := by omega
      have hrB : (r : Int) < 64 := by omega
      have hrC : (r : Int) ≤ 64 := by omega
      have hr6 : ¬ 64 = r := by omega
      obtain ⟨n, hn⟩ : ∃ n, n = Nat.min s'.size (64 - r) := ⟨_, rfl⟩
      have hn1 : n ≤ 64 - r := by rw [hn]; exact Nat.min_le_right _ _
      have hh := hA.heap
      have hcl : (uc st'.list ++ bc P' ++ [Value.int .i64 N]).length = 73 := by simp only [List.length_append, uc_length, S8.len, bc_length, hA.len, List.length_singleton]
      generalize hcur : uc st'.list ++ bc P' ++ [Value.int .i64 N] = cur at *
      have HR := hide hr
      have HN := hide hn
      have HCU := hide hcur
      have HNN := hide hN
      clear hr hn hcur hN
      go_wp2
      go_region_law ((refine step_copy_string rfl (.tmp 15) (.tmp 16) 39 9 rfl 5 (by kernel_rfl) (by kernel_rfl) b (8 + r) (64 - r) (64 - r) s' (by rfl) (by rfl) cur 118 (by exact hh) n (unhide HN) (by omega) ?_; intro W1 hW1))
      have hchl : (s'.data.toList.take n).length = n := by
        rw [List.length_take, blen, unhide HN]
        exact Nat.min_eq_left (Nat.min_le_left _ _)
      have hnp : 0 < n := by rw [unhide HN]; exact Nat.lt_min.2 ⟨by omega, by omega⟩
      have hns : n ≤ s'.size := by rw [unhide HN]; exact Nat.min_le_left _ _
      have hA1 : HashAt W1 b st' (over P' (s'.data.toList.take n) r) N := by
        have hA0 : HashAt w'.drew b st' P' N := ⟨hA.heap, hA.len⟩
        have := hA0.over (s'.data.toList.take n) r (by omega) cur (unhide HCU)
        rw [hchl] at this
        rw [unhide hW1]
        exact this
      have hK1 : Kept w.heap.size b w W1 := by rw [unhide hW1]; exact (kept_drew hK).trans (kept_setRow _ _ _ _)
      have hA2 := hA1.setLong (N + n)
      have hK2 := hK1.trans (kept_set _ W1 b 72 (.int .i64 (N + n : Nat)))
      have c72' := hA1.long
      have f72' := hA1.free 72
      have c72'' := hA2.long
      have HA2 := hide hA2
      have HK2 := hide hK2
      have HA1 := hide hA1
      clear hA1 hA2 hK1 hK2 hA hK c72 hh
      have en : ((N + n : Nat) : Int) = (N : Int) + n := by omega
      rw [en] at HA2 HK2
      clear c72''
      have hNr : Hid ((l ++ c).length % 64 = r) := by show _ = _; rw [unhide HNN, unhide HR]
      have hsc' : Hid (s.data.toList = (c ++ s'.data.toList.take n) ++ (s'.extract n s'.size).data.toList) := by
        show _ = _
        rw [bdrop, List.append_assoc, List.take_append_drop]; exact unhide HS
      have hlen' : Hid (N + n = (l ++ (c ++ s'.data.toList.take n)).length) := by
        show _ = _
        rw [← List.append_assoc, List.length_append, unhide HNN, hchl]
      have hsz' : Hid ((s'.extract n s'.size).size < s'.size) := by show _ < _; rw [ByteArray.size_extract]; omega
      by_cases hw : r + n = 64
      · have hT : (((N : Int) + n) % 64 == 0) = true := by have := unhide HR; simp; omega
        go_wp2
        generalize W1.setCell { block := b, off := 72 } (Value.int IntKind.i64 (↑N + ↑n)) = W2 at *
        have hP1 : (over P' (s'.data.toList.take n) r).length = 64 := (unhide HA2).len
        have hO2 : Hid (HashOf (l ++ (c ++ s'.data.toList.take n)) (mix st' (over P' (s'.data.toList.take n) r)) (over P' (s'.data.toList.take n) r)) := by
          have := hO.whole (s'.data.toList.take n) (by rw [unhide hNr, hchl]; exact hw) (by rw [hchl]; exact hnp)
          rw [unhide hNr, List.append_assoc] at this
          exact this
        generalize over P' (s'.data.toList.take n) r = P1 at *
        clear c72' f72' HA1 hW1
        obtain ⟨stM, hstM⟩ : ∃ x, x = mix st' P1 := ⟨_, rfl⟩
        have hmx := hide (mixed_uc st' P1 hP1)
        rw [← hstM] at hmx hO2
        clear hstM
        generalize hA : Act.mk _ _ = A
        have hA0 : A.eval (.tmp 0) = .pointer (some ⟨b, 0, none⟩) := by rw [← hA]; rfl
        have hAs : A.tmps.size = 47 := by rw [← hA]; rfl
        obtain ⟨V, hVe⟩ : ∃ V : List (Nat × Nat × Value), V = [(0, 35, .pointer (some ⟨b, 0, none⟩)), (1, 36, .pointer (some ⟨b, 0, none⟩)), (2, 37, .pointer (some ⟨b, 0, none⟩)), (3, 38, .pointer (some ⟨b, 0, none⟩)), (4, 39, .agg (uc st'.list).toArray), (5, 40, .pointer (some ⟨b, 0, none⟩)), (6, 41, .pointer (some ⟨b, 0, none⟩)), (7, 42, .pointer (some ⟨b, 8, none⟩)), (8, 43, .agg (bc P1).toArray), (9, 44, .agg (uc stM.list).toArray), (10, 45, .pointer (some ⟨b, 0, none⟩)), (11, 46, .pointer (some ⟨b, 0, none⟩))] := ⟨_, rfl⟩
        have hf0 : ∀ w, (Instr.fieldAt 118 (.pointer (some ⟨b, 0, none⟩)) 0).run Try.prog w = .ok (.pointer (some ⟨b, 0, none⟩)) w := fun w => by kernel_rfl
        have hf1 : ∀ w, (Instr.fieldAt 118 (.pointer (some ⟨b, 0, none⟩)) 1).run Try.prog w = .ok (.pointer (some ⟨b, 8, none⟩)) w := fun w => by kernel_rfl
        refine wp_region_inv0 (by kernel_rfl) (by kernel_rfl) (by kernel_rfl) (fun f a wr => Off [35, 36, 37, 38, 39, 40, 41, 42, 43, 44, 45, 46] A a ∧ ValsOk V f a ∧ (f 12 = true → f 4 = true ∧ f 8 = true ∧ f 9 = true) ∧ (f 12 = false → HashAt wr b st' P1 (N + n)) ∧ (f 12 = true → HashAt wr b stM P1 (N + n)) ∧ Kept w.heap.size b w wr) ?start ?step ?fin
        case start => exact ⟨Off.refl _ _, vals_start _ _, by simp, fun _ => ⟨(unhide HA2).heap, (unhide HA2).len⟩, by simp, kept_drew (unhide HK2)⟩
        case step =>
          rintro f a wr i o ⟨hoff, hV, hs, hq, hp, hk⟩ ho hfi hdep
          have has : a.tmps.size = 47 := hoff.size.trans hAs
          have hv := fun (i d : Nat) (v : Value) (hm : (i, d, v) ∈ V) (hf : f i = true) => hV (i, d, v) hm hf
          rcases i with _ | _ | _ | _ | _ | _ | _ | _ | _ | _ | _ | _ | _ | i
          · obtain rfl := Option.some.inj ho
            refine wp_move (.tmp 0) rfl ?_
            rw [hoff.eval 0 (by simp), hA0]
            exact ⟨hoff.put 35 _ (by simp), vals_put hV 0 35 _ (by omega) (by rw [hVe]; simp) (by rw [hVe]; simp), hs, hq, hp, hk⟩
          · obtain rfl := Option.some.inj ho
            refine wp_move (.tmp 0) rfl ?_
            rw [hoff.eval 0 (by simp), hA0]
            exact ⟨hoff.put 36 _ (by simp), vals_put hV 1 36 _ (by omega) (by rw [hVe]; simp) (by rw [hVe]; simp), hs, hq, hp, hk⟩
          · obtain rfl := Option.some.inj ho
            have d1 : f 1 = true := hdep ⟨1, .data⟩ (by simp) rfl
            exact wp_nilCheck (.tmp 36) rfl _ (hv 1 36 (.pointer (some ⟨b, 0, none⟩)) (by rw [hVe]; simp) d1) ⟨hoff.put 37 _ (by simp), vals_put hV 2 37 _ (by omega) (by rw [hVe]; simp) (by rw [hVe]; simp), hs, hq, hp, hk⟩
          · obtain rfl := Option.some.inj ho
            have d2 : f 2 = true := hdep ⟨2, .data⟩ (by simp) rfl
            exact wp_field 118 (.tmp 37) 0 rfl _ _ (hv 2 37 (.pointer (some ⟨b, 0, none⟩)) (by rw [hVe]; simp) d2) hf0 ⟨hoff.put 38 _ (by simp), vals_put hV 3 38 _ (by omega) (by rw [hVe]; simp) (by rw [hVe]; simp), hs, hq, hp, hk⟩
          · obtain rfl := Option.some.inj ho
            have d3 : f 3 = true := hdep ⟨3, .data⟩ (by simp) rfl
            have q12 : f 12 = false := by
              cases hc : f 12 with
              | false => rfl
              | true => exact absurd (hs hc).1 (by rw [hfi]; simp)
            exact wp_load_mid 114 (.tmp 38) rfl b 0 (hv 3 38 (.pointer (some ⟨b, 0, none⟩)) (by rw [hVe]; simp) d3) (uc st'.list) _ (hq q12).range8 Try.underlying114 rfl (by rw [uc_length, S8.len]; kernel_rfl) ⟨hoff.put 39 _ (by simp), vals_put hV 4 39 _ (by omega) (by rw [hVe]; simp) (by rw [hVe]; simp), fun h => absurd h (by show ¬ f 12 = true; rw [q12]; simp), hq, hp, hk⟩
          · obtain rfl := Option.some.inj ho
            refine wp_move (.tmp 0) rfl ?_
            rw [hoff.eval 0 (by simp), hA0]
            exact ⟨hoff.put 40 _ (by simp), vals_put hV 5 40 _ (by omega) (by rw [hVe]; simp) (by rw [hVe]; simp), hs, hq, hp, hk⟩
          · obtain rfl := Option.some.inj ho
            have d5 : f 5 = true := hdep ⟨5, .data⟩ (by simp) rfl
            exact wp_nilCheck (.tmp 40) rfl _ (hv 5 40 (.pointer (some ⟨b, 0, none⟩)) (by rw [hVe]; simp) d5) ⟨hoff.put 41 _ (by simp), vals_put hV 6 41 _ (by omega) (by rw [hVe]; simp) (by rw [hVe]; simp), hs, hq, hp, hk⟩
          · obtain rfl := Option.some.inj ho
            have d6 : f 6 = true := hdep ⟨6, .data⟩ (by simp) rfl
            exact wp_field 118 (.tmp 41) 1 rfl _ _ (hv 6 41 (.pointer (some ⟨b, 0, none⟩)) (by rw [hVe]; simp) d6) hf1 ⟨hoff.put 42 _ (by simp), vals_put hV 7 42 _ (by omega) (by rw [hVe]; simp) (by rw [hVe]; simp), hs, hq, hp, hk⟩
          · obtain rfl := Option.some.inj ho
            have d7 : f 7 = true := hdep ⟨7, .data⟩ (by simp) rfl
            have q12 : f 12 = false := by
              cases hc : f 12 with
              | false => rfl
              | true => exact absurd (hs hc).2.1 (by rw [hfi]; simp)
            exact wp_load_mid 116 (.tmp 42) rfl b 8 (hv 7 42 (.pointer (some ⟨b, 8, none⟩)) (by rw [hVe]; simp) d7) (bc P1) _ (hq q12).range64 Try.underlying116 rfl (by rw [bc_length, hP1]; kernel_rfl) ⟨hoff.put 43 _ (by simp), vals_put hV 8 43 _ (by omega) (by rw [hVe]; simp) (by rw [hVe]; simp), fun h => absurd h (by show ¬ f 12 = true; rw [q12]; simp), hq, hp, hk⟩
          · obtain rfl := Option.some.inj ho
            have d4 : f 4 = true := hdep ⟨4, .data⟩ (by simp) rfl
            have d8 : f 8 = true := hdep ⟨8, .data⟩ (by simp) rfl
            have q12 : f 12 = false := by
              cases hc : f 12 with
              | false => rfl
              | true => exact absurd (hs hc).2.2 (by rw [hfi]; simp)
            refine wp_call 84 #[.tmp 39, .tmp 43] #[114, 116] rfl Try.call84 #[.agg (uc st'.list).toArray, .agg (bc P1).toArray] (by simp [hv 4 39 (.agg (uc st'.list).toArray) (by rw [hVe]; simp) d4, hv 8 43 (.agg (bc P1).toArray) (by rw [hVe]; simp) d8]) (unhide hmx wr) ?_
            rintro e w3 ⟨rfl, hb3⟩
            exact ⟨_, rfl, hoff.put 44 _ (by simp), vals_put hV 9 44 _ (by omega) (by rw [hVe]; simp) (by rw [hVe]; simp), fun h => absurd h (by show ¬ f 12 = true; rw [q12]; simp), fun h => (hq h).below hb3, fun h => absurd h (by show ¬ f 12 = true; rw [q12]; simp), hk.trans (Kept.of_below (hb3.mono hk.size))⟩
          · obtain rfl := Option.some.inj ho
            have d0 : f 0 = true := hdep ⟨0, .data⟩ (by simp) rfl
            exact wp_nilCheck (.tmp 35) rfl _ (hv 0 35 (.pointer (some ⟨b, 0, none⟩)) (by rw [hVe]; simp) d0) ⟨hoff.put 45 _ (by simp), vals_put hV 10 45 _ (by omega) (by rw [hVe]; simp) (by rw [hVe]; simp), hs, hq, hp, hk⟩
          · obtain rfl := Option.some.inj ho
            have d10 : f 10 = true := hdep ⟨10, .data⟩ (by simp) rfl
            exact wp_field 118 (.tmp 45) 0 rfl _ _ (hv 10 45 (.pointer (some ⟨b, 0, none⟩)) (by rw [hVe]; simp) d10) hf0 ⟨hoff.put 46 _ (by simp), vals_put hV 11 46 _ (by omega) (by rw [hVe]; simp) (by rw [hVe]; simp), hs, hq, hp, hk⟩
          · obtain rfl := Option.some.inj ho
            have d11 : f 11 = true := hdep ⟨11, .data⟩ (by simp) rfl
            have d9 : f 9 = true := hdep ⟨9, .data⟩ (by simp) rfl
            have d4 : f 4 = true := hdep ⟨4, .phase⟩ (by simp) rfl
            have d8 : f 8 = true := hdep ⟨8, .phase⟩ (by simp) rfl
            have hqq := hq hfi
            refine wp_store_mid 114 (.tmp 46) (.tmp 44) rfl b 0 (uc stM.list).toArray (hv 11 46 (.pointer (some ⟨b, 0, none⟩)) (by rw [hVe]; simp) d11) (hv 9 44 (.agg (uc stM.list).toArray) (by rw [hVe]; simp) d9) (by rw [List.size_toArray, uc_length, S8.len]; exact hqq.there8) (by rw [List.size_toArray, uc_length, S8.len]; kernel_rfl) (all_oneCell_toArray (uc_oneCell _)) ?_
            exact ⟨hoff, vals_none hV 12 _ (by rw [hVe]; simp), fun _ => ⟨d4, d8, d9⟩, fun h => (by cases h), fun _ => hqq.setState, hk.trans (kept_setCells _ _ _ _ _)⟩
          · simp at ho
        case fin =>
          rintro f a wr ⟨hoff, hV, hs, hq, hp, hk⟩ hall
          have e := Off.all _ _ hoff
          have i12 := hall 12 (by decide)
          simp only [List.foldl_cons, List.foldl_nil] at e
          rw [← hA] at e
          generalize a.eval (.tmp 35) = x35, a.eval (.tmp 36) = x36, a.eval (.tmp 37) = x37, a.eval (.tmp 38) = x38, a.eval (.tmp 39) = x39, a.eval (.tmp 40) = x40, a.eval (.tmp 41) = x41, a.eval (.tmp 42) = x42, a.eval (.tmp 43) = x43, a.eval (.tmp 44) = x44, a.eval (.tmp 45) = x45, a.eval (.tmp 46) = x46 at e
          simp only [Act.put, List.setIfInBounds_toArray, List.set_cons_succ, List.set_cons_zero] at e
          subst e
          clear hoff hV
          go_wp2_with fail
          go_step3
          refine ⟨rfl, ⟨s'.extract n s'.size, c ++ s'.data.toList.take n, stM, P1, _, _, _, _, _, _, _, _, _, _, _, _, _, _, _, _, _, _, _, _, _, _, _, _, _, _, _, _, _, _, _, _, _, _, _, _, _, _, _, _, _, _, _, rfl, unhide hsc', by rw [← unhide hlen']; exact hp i12, unhide hO2, hk⟩, unhide hsz'⟩
      · have hT : (((N : Int) + n) % 64 == 0) = false := by have := unhide HR; simp; omega
        go_wp2
        go_step3
        refine ⟨rfl, ⟨s'.extract n s'.size, c ++ s'.data.toList.take n, st', over P' (s'.data.toList.take n) r, _, _, _, _, _, _, _, _, _, _, _, _, _, _, _, _, _, _, _, _, _, _, _, _, _, _, _, _, _, _, _, _, _, _, _, _, _, _, _, _, _, _, _, rfl, unhide hsc', by rw [← unhide hlen']; exact unhide HA2, ?_, unhide HK2⟩, ?_⟩
        · have := hO.more (s'.data.toList.take n) (by rw [unhide hNr, hchl]; omega)
          rw [unhide hNr, List.append_assoc] at this
          exact this
        · exact unhide hsz'

end Go.Proofs.Ytcdnpdmcijiffaa

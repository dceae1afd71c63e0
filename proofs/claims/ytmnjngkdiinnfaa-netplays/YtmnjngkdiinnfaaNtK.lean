/- net: rows of datagrams; among. -/
import Derived.Test.YtmnjngkdiinnfaaNtG
namespace Go.Proofs.Ytmnjngkdiinnfaa
open Go.RowKit
set_option linter.unusedVariables false
attribute [local go_sem] Oper.semAt_some

theorem Try.infoGm : (Try.prog.info? 30).map (fun i => (i.zero, i.size, i.bytes)) = some (some (.agg #[.int .i64 0, .int .i64 0, .string ⟨#[]⟩]), 3, 32) := by kernel_rfl
theorem Try.undGm : Try.prog.underlying 57 = some (.slice 30) := by kernel_rfl
/-- the cells of a datagram, of a row of such -/
def gmL (r : Mg) : List Value := [.int .i64 r.fr, .int .i64 r.to, .string r.tx]
def gmF (l : List Mg) : List Value := l.flatMap gmL
theorem gmF_append (l m : List Mg) : gmF (l ++ m) = gmF l ++ gmF m := by simp [gmF]
theorem gmF_get : ∀ (l : List Mg) (t j : Nat) (c : Mg), l[t]? = some c → j < 3 → (gmF l)[t * 3 + j]? = (gmL c)[j]?
  | [], t, j, c, h, _ => by simp at h
  | a :: l, 0, j, c, h, hj => by
    simp at h
    subst h
    show (gmL a ++ gmF l)[0 * 3 + j]? = _
    rw [List.getElem?_append_left (by simp [gmL]; omega)]
    simp
  | a :: l, t + 1, j, c, h, hj => by
    show (gmL a ++ gmF l)[(t + 1) * 3 + j]? = _
    rw [List.getElem?_append_right (by simp [gmL]; omega), show (t + 1) * 3 + j - (gmL a).length = t * 3 + j by simp [gmL]; omega]
    exact gmF_get l t j c (by simpa using h) hj
/-- a row of datagrams of the caller's own -/
def OwnG (w : World) (B : Nat) (v : Value) (l : List Mg) : Prop := w.ownsRow B 30 3 v l.length (gmF l)
def GmsAt (w : World) (a0 : Option Addr) (l : List Mg) : Prop := ∀ t c, l[t]? = some c → ∃ g, a0 = some ⟨g, 0, none⟩ ∧ w.rangeAt g (t * 3) (gmL c)
theorem OwnG.gms {w : World} {B : Nat} {v : Value} {l : List Mg} (h : OwnG w B v l) : ∃ a0 c, v = .slice a0 l.length c ∧ GmsAt w a0 l := by
  rcases h.2 with ⟨h1, h2⟩ | ⟨g, cap, cur, h1, h2, h3, h4, h5, h6, h7⟩
  · refine ⟨none, 0, by rw [h1, h2], fun t c ht => ?_⟩
    have := (List.getElem?_eq_some_iff.1 ht).1
    omega
  · refine ⟨_, _, h1, fun t c ht => ⟨g, rfl, fun j v hv => ?_⟩⟩
    have hj : j < 3 := (List.getElem?_eq_some_iff.1 hv).1
    have ht' := (List.getElem?_eq_some_iff.1 ht).1
    rw [cell_of_row _ _ _ _ _ _ h3, ← Array.getElem?_toList, ← hv, ← gmF_get l t j c ht hj, ← h7, List.getElem?_take, if_pos (by omega)]
theorem OwnG.up {w w' : World} {B : Nat} {v : Value} {l : List Mg} (h : OwnG w B v l) (hb : ∀ (k : Nat) (cs : Array Value), w.heap[k]? = some (.cells cs 30 (0, 0)) → w'.heap[k]? = w.heap[k]?) : OwnG w' B v l := by
  refine ⟨h.1, ?_⟩
  rcases h.2 with ⟨h1, h2⟩ | ⟨g, cap, cur, h1, h2, h3, h4⟩
  · exact .inl ⟨h1, h2⟩
  · exact .inr ⟨g, cap, cur, h1, h2, (hb _ _ h3).trans h3, h4⟩
theorem OwnG.below {w w' : World} {B : Nat} {v : Value} {l : List Mg} (h : OwnG w B v l) (hb : Below w.heap.size w w') : OwnG w' B v l := h.up fun k cs hk => hb.block k (lt_of_block hk)
theorem OwnG.kn {w w' : World} {B : Nat} {v : Value} {l : List Mg} (h : OwnG w B v l) (hb : KN B w w') : OwnG w' B v l := h.up fun k cs hk => hb.typ k cs _ _ hk (by decide) (by decide)
theorem GmsAt.up {w w' : World} {a0 : Option Addr} {l : List Mg} (h : GmsAt w a0 l) (hb : Below w.heap.size w w') : GmsAt w' a0 l := fun t c ht => by
  obtain ⟨g, h1, h2⟩ := h t c ht
  exact ⟨g, h1, fun j v hv => cell_below (h2 j v hv) hb⟩
/-- are two datagrams the same? -/
def gmSame (r x : Mg) : Prop := r.fr = x.fr ∧ r.to = x.to ∧ r.tx = x.tx
theorem tx_ne {a b : ByteArray} (h : a ≠ b) : (a.toList == b.toList) = false := by
  rw [beq_eq_false_iff_ne]
  intro e
  rw [ByteArray.toList_eq, ByteArray.toList_eq] at e
  apply h
  cases a with
  | mk a => cases b with
    | mk b => exact congrArg ByteArray.mk (Array.ext' e)
set_option maxRecDepth 100000 in
set_option maxHeartbeats 1000000 in
theorem among_any (a0 : Option Addr) (l : List Mg) (c : Nat) (x : Mg) (w : World) (hA : GmsAt w a0 l) (hl : l.length ≤ 1000) (he : ∃ s ∈ l, gmSame s x) :
    Calls Try.prog 26 #[.slice a0 l.length c, gmV x] w fun e w' => e = .returned (.bool true) ∧ Below w.heap.size w w' := by
  obtain ⟨xi, fr, to, tx⟩ := x
  have HA := hide hA
  have HE := hide he
  have hX := hide (heap_alloc_new w (.cells #[.int .i64 fr, .int .i64 to, .string tx] 30))
  have B0 : Hid (Below w.heap.size w (w.alloc (.cells #[.int .i64 fr, .int .i64 to, .string tx] 30))) := (Below.refl _ w).alloc (Nat.le_refl _) _
  generalize hn : l.length = n at *
  have HN := hide hn
  clear hA he hn
  go_enter Try.func26, Try.ntmps26
  go_wp2_with fail
  generalize hW0 : w.alloc (.cells #[.int .i64 fr, .int .i64 to, .string tx] 30) = W0 at *
  clear hW0
  go_loopw [5] (fun iv wr => ∃ (i : Nat), i ≤ n ∧ iv = .int .i64 i ∧ Below W0.heap.size W0 wr ∧ ∀ (j : Nat) (s : Mg), j < i → l[j]? = some s → ¬ gmSame s ⟨xi, fr, to, tx⟩) (fun iv _ => n - (intOf iv).toNat)
  case atStart => exact ⟨0, by omega, rfl, Below.refl _ _, fun j s hj => by omega⟩
  case round =>
    obtain ⟨i, hi, rfl, hb, hno⟩ := hrel
    have HB := hide hb
    have HNO := hide hno
    clear hb hno
    by_cases hlt : i < n
    · have q1 : (i : Int) < n := by omega
      obtain ⟨s, hs⟩ : ∃ s, l[i]? = some s := ⟨_, List.getElem?_eq_getElem (by rw [unhide HN]; exact hlt)⟩
      have hA2 := ((unhide HA).up (unhide B0)).up (unhide HB)
      obtain ⟨g, rfl, hr⟩ := hA2 i s hs
      have hx := ((unhide HB).block _ (lt_of_block (unhide hX))).trans (unhide hX)
      obtain ⟨si, sf, st, sx⟩ := s
      have HS := hide hs
      have hneX := gb_ne wr
      have x0 : ∀ y : Gb wr, y.w.cell? ⟨w.heap.size, 0, none⟩ = some (.int .i64 fr) := fun y => gb_cell (cells3 hx).1 y
      have x1 : ∀ y : Gb wr, y.w.cell? ⟨w.heap.size, 1, none⟩ = some (.int .i64 to) := fun y => gb_cell (cells3 hx).2.1 y
      have x2 : ∀ y : Gb wr, y.w.cell? ⟨w.heap.size, 2, none⟩ = some (.string tx) := fun y => gb_cell (cells3 hx).2.2.1 y
      have y0 : ∀ y : Gb wr, y.w.cell? ⟨g, i * 3, none⟩ = some (.int .i64 sf) := fun y => gb_cell (hr 0 _ rfl) y
      have y1 : ∀ y : Gb wr, y.w.cell? ⟨g, i * 3 + 1, none⟩ = some (.int .i64 st) := fun y => gb_cell (hr 1 _ rfl) y
      have y2 : ∀ y : Gb wr, y.w.cell? ⟨g, i * 3 + 2, none⟩ = some (.string sx) := fun y => gb_cell (hr 2 _ rfl) y
      clear hr hx hA2 hs
      by_cases hsm : gmSame ⟨si, sf, st, sx⟩ ⟨xi, fr, to, tx⟩
      · obtain ⟨e1, e2, e3⟩ := hsm
        simp only at e1 e2 e3
        subst e1 e2 e3
        go_wp2_with fail
        refine wp_region_grB (by kernel_rfl) (by kernel_rfl) ?_
        repeat (go_big_quiet_step (fail))
        refine wpQuiet_nil ?_
        rintro wz ⟨xz, rfl⟩
        have HB2 := hide ((unhide B0).trans ((unhide HB).trans (xz.ok.mono (unhide HB).size) |>.mono (unhide B0).size))
        clear x0 x1 x2 y0 y1 y2 hneX
        generalize xz.w = wz at *
        go_wp2
        go_ret
        exact ⟨rfl, unhide HB2⟩
      · have HSM := hide hsm
        have hdf : sf ≠ fr ∨ (sf = fr ∧ st ≠ to) ∨ (sf = fr ∧ st = to ∧ sx ≠ tx) := by
          unfold gmSame at hsm
          simp only at hsm
          by_cases e1 : sf = fr
          · by_cases e2 : st = to
            · exact .inr (.inr ⟨e1, e2, fun e3 => hsm ⟨e1, e2, e3⟩⟩)
            · exact .inr (.inl ⟨e1, e2⟩)
          · exact .inl e1
        have HNX : Hid (∀ (j : Nat) (s : Mg), j < i + 1 → l[j]? = some s → ¬ gmSame s ⟨xi, fr, to, tx⟩) := by
          intro j s hj hs
          rcases Nat.lt_or_ge j i with h1 | h1
          · exact unhide HNO j s h1 hs
          · obtain rfl : j = i := by omega
            rw [unhide HS] at hs
            cases hs
            exact unhide HSM
        clear hsm HSM HS HNO
        rcases hdf with e1 | ⟨rfl, e1⟩ | ⟨rfl, rfl, e1⟩
        · have z1 : (sf == fr) = false := by simpa using e1
          clear e1
          go_wp2_with fail
          refine wp_region_grB (by kernel_rfl) (by kernel_rfl) ?_
          repeat (go_big_quiet_step (fail))
          refine wpQuiet_nil ?_
          rintro wz ⟨xz, rfl⟩
          have HB2 := hide ((unhide HB).trans (xz.ok.mono (unhide HB).size))
          clear x0 x1 x2 y0 y1 y2 hneX HB
          generalize xz.w = wz at *
          go_wp2
          go_roundw
          case rel => exact ⟨i + 1, by omega, by go_num, unhide HB2, unhide HNX⟩
          case measure => simp [intOf]; omega
        · have z1 : (st == to) = false := by simpa using e1
          clear e1
          go_wp2_with fail
          refine wp_region_grB (by kernel_rfl) (by kernel_rfl) ?_
          repeat (go_big_quiet_step (fail))
          refine wpQuiet_nil ?_
          rintro wz ⟨xz, rfl⟩
          have HB2 := hide ((unhide HB).trans (xz.ok.mono (unhide HB).size))
          clear x0 x1 x2 y0 y1 y2 hneX HB
          generalize xz.w = wz at *
          go_wp2
          go_roundw
          case rel => exact ⟨i + 1, by omega, by go_num, unhide HB2, unhide HNX⟩
          case measure => simp [intOf]; omega
        · have z1 := tx_ne e1
          clear e1
          go_wp2_with fail
          refine wp_region_grB (by kernel_rfl) (by kernel_rfl) ?_
          repeat (go_big_quiet_step (fail))
          refine wpQuiet_nil ?_
          rintro wz ⟨xz, rfl⟩
          have HB2 := hide ((unhide HB).trans (xz.ok.mono (unhide HB).size))
          clear x0 x1 x2 y0 y1 y2 hneX HB
          generalize xz.w = wz at *
          go_wp2
          go_roundw
          case rel => exact ⟨i + 1, by omega, by go_num, unhide HB2, unhide HNX⟩
          case measure => simp [intOf]; omega
    · exfalso
      obtain ⟨s, hs, hsm⟩ := unhide HE
      obtain ⟨j, hj⟩ := List.getElem?_of_mem hs
      have := (List.getElem?_eq_some_iff.1 hj).1
      rw [unhide HN] at this
      exact unhide HNO j s (by omega) hj hsm
end Go.Proofs.Ytmnjngkdiinnfaa

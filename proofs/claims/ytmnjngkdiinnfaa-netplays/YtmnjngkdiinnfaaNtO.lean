/- net: the document's Find, Nth, To; ref, same. -/
import Derived.Test.YtmnjngkdiinnfaaNtN
namespace Go.Proofs.Ytmnjngkdiinnfaa
open Go.RowKit
set_option linter.unusedVariables false
attribute [local go_sem] Oper.semAt_some

/-- a net of the document's by value -/
abbrev dnV (room last : Int) (v : Value) : Value := .agg #[.int .i64 room, .int .i64 last, v]
abbrev OwnR (w : World) (B : Nat) (v : Value) (l : List Mg) : Prop := OwnM 37 w B v l
/-- a mail of the document's lies in a block -/
structure TkM (w : World) (g : Nat) (x : Mg) (w' : World) : Prop where
  blk : w'.heap[g]? = some (.cells (mlL x).toArray 37 (0, 0))
  be : Below w.heap.size w w'
/-- the place of a number, or -1 -/
def fI (rs : List Mg) (k : Int) : Int := if rs.findIdx (fun r => decide (r.id = k)) < rs.length then rs.findIdx (fun r => decide (r.id = k)) else -1
theorem fI_at {rs : List Mg} {k : Int} {i : Nat} {c : Mg} (hi : rs[i]? = some c) (hc : c.id = k) (hlt : ∀ (j : Nat) (d : Mg), j < i → rs[j]? = some d → d.id ≠ k) : fI rs k = i := by
  obtain ⟨h1, h2⟩ := List.getElem?_eq_some_iff.1 hi
  have : rs.findIdx (fun r => decide (r.id = k)) = i := (List.findIdx_eq h1).2 ⟨by simp [h2, hc], fun j hj => by simpa using hlt j _ hj (List.getElem?_eq_getElem (by omega))⟩
  unfold fI
  rw [this, if_pos h1]
theorem fI_no {rs : List Mg} {k : Int} (h : ∀ (j : Nat) (d : Mg), rs[j]? = some d → d.id ≠ k) : fI rs k = -1 := by
  unfold fI
  rw [if_neg]
  intro hlt
  have := List.findIdx_getElem (w := hlt)
  exact h _ _ (List.getElem?_eq_getElem hlt) (by simpa using this)
/-- the place, and the mail -/
theorem fI_ways (rs : List Mg) (k : Int) : (∃ (i : Nat) (x : Mg), fI rs k = i ∧ rs[i]? = some x ∧ fM rs k = some x) ∨ (fI rs k = -1 ∧ fM rs k = none) := by
  cases hf : fM rs k with
  | none =>
    right
    exact ⟨fI_no fun j d hj => fM_none hf d (List.mem_of_getElem? hj), rfl⟩
  | some x =>
    left
    unfold fM at hf
    rw [List.find?_eq_some_iff_getElem] at hf
    obtain ⟨h1, i, hi, h2, h3⟩ := hf
    refine ⟨i, x, fI_at (c := x) (by rw [List.getElem?_eq_getElem hi, h2]) (by simpa using h1) (fun j d hj hd => ?_), by rw [List.getElem?_eq_getElem hi, h2], rfl⟩
    obtain ⟨l1, l2⟩ := List.getElem?_eq_some_iff.1 hd
    have := h3 j hj
    rw [l2] at this
    simpa using this
set_option maxRecDepth 100000 in
set_option maxHeartbeats 1000000 in
theorem dfind_any (B : Nat) (room last k : Int) (v : Value) (rs : List Mg) (w : World) (hO : OwnR w B v rs) (hl : rs.length ≤ 600) :
    Calls Try.prog 14 #[dnV room last v, .int .i64 k] w fun e w' => e = .returned (.int .i64 (fI rs k)) ∧ Below w.heap.size w w' := by
  obtain ⟨aM, cM, rfl, hml⟩ := hO.mls
  obtain ⟨r, hr⟩ : ∃ r, r = fI rs k := ⟨_, rfl⟩
  rw [← hr]
  have HR := hide hr
  obtain ⟨n, hn⟩ : ∃ n, rs.length = n := ⟨_, rfl⟩
  rw [hn] at hl ⊢
  have HN := hide hn
  have hX := heap_alloc_new w (.cells #[.int .i64 room, .int .i64 last, .slice aM n cM] 28)
  have B0 : Hid (Below w.heap.size w (w.alloc (.cells #[.int .i64 room, .int .i64 last, .slice aM n cM] 28))) := (Below.refl _ w).alloc (Nat.le_refl _) _
  have HML := hide (hml.up (unhide B0))
  have HX := hide hX
  clear hO hml hr hn hX
  go_enter Try.func14, Try.ntmps14
  go_wp2_with fail
  generalize hW0 : w.alloc (.cells #[.int .i64 room, .int .i64 last, .slice aM n cM] 28) = W0 at *
  clear hW0
  go_loopw [5] (fun iv wr => ∃ i : Nat, i ≤ n ∧ iv = .int .i64 i ∧ wr = W0 ∧ ∀ (j : Nat) (d : Mg), j < i → rs[j]? = some d → d.id ≠ k) (fun iv _ => n - (intOf iv).toNat)
  case atStart => exact ⟨0, by omega, rfl, rfl, fun j d hj => by omega⟩
  case round =>
    obtain ⟨i, hi, rfl, rfl, hno⟩ := hrel
    have HNO := hide hno
    obtain ⟨c0, c1, c2, cf⟩ := cells3 (unhide HX)
    clear hno
    by_cases hlt : i < n
    · have q1 : (i : Int) < n := by omega
      obtain ⟨x, hx⟩ : ∃ x, rs[i]? = some x := ⟨_, List.getElem?_eq_getElem (by rw [unhide HN]; exact hlt)⟩
      obtain ⟨gM, rfl, hrg⟩ := (unhide HML) i x hx
      have HX2 := hide hx
      obtain ⟨xi, xf, xt, xx⟩ := x
      have y0 : wr.cell? ⟨gM, i * 4, none⟩ = some (.int .i64 xi) := hrg 0 _ rfl
      clear hrg hx
      by_cases he : xi = k
      · have q3 : (xi == k) = true := by simp [he]
        have he2 : r = i := by rw [unhide HR]; exact fI_at (unhide HX2) he (unhide HNO)
        subst he2
        clear he
        go_wp2
        go_ret
        exact ⟨rfl, unhide B0⟩
      · have q3 : (xi == k) = false := by simp [he]
        have HNX : Hid (∀ (j : Nat) (d : Mg), j < i + 1 → rs[j]? = some d → d.id ≠ k) := by
          intro j d hj hd
          rcases Nat.lt_or_ge j i with h1 | h1
          · exact unhide HNO j d h1 hd
          · obtain rfl : j = i := by omega
            rw [unhide HX2] at hd
            cases hd
            exact he
        clear he
        go_wp2
        go_roundw
        case rel => exact ⟨i + 1, by omega, by go_num, by first | rfl | trivial, unhide HNX⟩
        case measure => simp [intOf]; omega
    · have q1 : ¬ (i : Int) < n := by omega
      have he2 : r = -1 := by
        rw [unhide HR]
        refine fI_no fun j d hj => unhide HNO j d ?_ hj
        have := (List.getElem?_eq_some_iff.1 hj).1
        rw [unhide HN] at this
        omega
      subst he2
      go_wp2
      go_ret
      exact ⟨rfl, unhide B0⟩
set_option maxRecDepth 100000 in
set_option maxHeartbeats 1000000 in
theorem dnth_any (B : Nat) (room last i : Int) (v : Value) (rs : List Mg) (w : World) (hO : OwnR w B v rs) (hl : rs.length ≤ 600) (hi : -9223372036854775808 ≤ i ∧ i ≤ 9223372036854775807) :
    Calls Try.prog 10 #[dnV room last v, .int .i64 i] w fun e w' => e = .returned (.int .i64 (nthI rs i)) ∧ Below w.heap.size w w' := by
  obtain ⟨aM, cM, rfl, hml⟩ := hO.mls
  have hX := heap_alloc_new w (.cells #[.int .i64 room, .int .i64 last, .slice aM rs.length cM] 28)
  have B0 : Hid (Below w.heap.size w (w.alloc (.cells #[.int .i64 room, .int .i64 last, .slice aM rs.length cM] 28))) := (Below.refl _ w).alloc (Nat.le_refl _) _
  have hml2 := hml.up (unhide B0)
  by_cases h : i < 0
  · have d1 : decide (i < 0) = true := decide_eq_true h
    have e1 : nthI rs i = 0 := by unfold nthI; rw [if_pos (.inl h)]
    rw [e1]
    clear e1 hml hX hml2 hO
    go_enter Try.func10, Try.ntmps10
    go_wp2
    go_ret
    exact ⟨rfl, unhide B0⟩
  · have d1 : decide (i < 0) = false := decide_eq_false h
    by_cases h0 : rs = []
    · subst h0
      have e1 : nthI [] i = 0 := by unfold nthI; rw [if_pos (.inr rfl)]
      rw [e1]
      simp only [List.length_nil] at hX B0 ⊢
      obtain ⟨c0, c1, c2, cf⟩ := cells3 hX
      clear e1 hml hml2 hO
      go_enter Try.func10, Try.ntmps10
      go_wp2
      go_ret
      exact ⟨rfl, unhide B0⟩
    · obtain ⟨n, hn⟩ : ∃ n, rs.length = n := ⟨_, rfl⟩
      have hn0 : 0 < n := by rw [← hn]; exact List.length_pos_iff.2 h0
      obtain ⟨j, hj⟩ : ∃ j : Nat, i.tmod n = j := ⟨(i.tmod n).toNat, by have := Int.tmod_nonneg (n : Int) (a := i) (by omega); omega⟩
      have hjn : j < n := by have := Int.tmod_lt_of_pos i (b := (n : Int)) (by omega); omega
      obtain ⟨x, hx⟩ : ∃ x, rs[j]? = some x := ⟨_, List.getElem?_eq_getElem (by rw [hn]; exact hjn)⟩
      obtain ⟨gM, rfl, hrg⟩ := hml2 j x hx
      have e1 : nthI rs i = x.id := by
        unfold nthI
        rw [if_neg (by rintro (h1 | h1) <;> contradiction), hn, hj, Int.toNat_natCast, List.getD_eq_getElem?_getD, List.getElem?_map, hx]
        rfl
      rw [e1]
      rw [hn] at hX B0 hrg ⊢
      obtain ⟨xi, xf, xt, xx⟩ := x
      have y0 : (w.alloc (.cells #[.int .i64 room, .int .i64 last, .slice (some ⟨gM, 0, none⟩) n cM] 28)).cell? ⟨gM, j * 4, none⟩ = some (.int .i64 xi) := hrg 0 _ rfl
      have q1 : (j : Int) < n := by omega
      have q2 : ((n : Int) == 0) = false := by simp; omega
      have q3 : (n == 0) = false := by simp; omega
      have q5 : ¬ (n : Int) = 0 := by omega
      have HJ := hide hj
      have hn6 : (n : Int) ≤ 600 := by omega
      have HX := hide hX
      have HY := hide y0
      clear hml hml2 hO hrg hx e1 h0 hn hl hj hX y0
      go_enter Try.func10, Try.ntmps10
      obtain ⟨c0, c1, c2, cf⟩ := cells3 (unhide HX)
      go_wp2_with fail
      generalize hW0 : w.alloc (.cells #[.int .i64 room, .int .i64 last, .slice (some ⟨gM, 0, none⟩) n cM] 28) = W0 at *
      clear hW0
      have hj := unhide HJ
      have hneX := gb_ne W0
      have g2 : ∀ y : Gb W0, y.w.cell? ⟨w.heap.size, 2, none⟩ = some (.slice (some ⟨gM, 0, none⟩) n cM) := fun y => gb_cell c2 y
      have gj : ∀ y : Gb W0, y.w.cell? ⟨gM, j * 4, none⟩ = some (.int .i64 xi) := fun y => gb_cell (unhide HY) y
      clear c0 c1 c2 cf
      refine wp_region_grB (by kernel_rfl) (by kernel_rfl) ?_
      repeat (go_big_quiet_step (fail))
      refine wpQuiet_nil ?_
      rintro wz ⟨xz, rfl⟩
      have HB := hide ((unhide B0).trans (xz.ok.mono (unhide B0).size))
      generalize xz.w = wz at *
      go_wp2
      go_ret
      exact ⟨rfl, unhide HB⟩
set_option maxRecDepth 100000 in
theorem nref_any (r : Mg) (w : World) : Calls Try.prog 12 #[gmV r] w fun e w' => e = .returned (mlV { r with id := 0 }) ∧ Below w.heap.size w w' := by
  obtain ⟨id, fr, to, tx⟩ := r
  have h2 : ((w.alloc (.cells #[.int .i64 fr, .int .i64 to, .string tx] 30)).alloc (.cells (mlL zMl).toArray 37)).heap[w.heap.size + 1]? = some (.cells (mlL zMl).toArray 37 (0, 0)) := heap2_b _ _ _
  have H2 := hide h2
  have b2 : Below w.heap.size w ((w.alloc (.cells #[.int .i64 fr, .int .i64 to, .string tx] 30)).alloc (.cells (mlL zMl).toArray 37)) := ((Below.refl _ _).alloc (Nat.le_refl _) _).alloc (by simp) _
  have HG : Hid (TkM w (w.heap.size + 1) ⟨0, fr, to, tx⟩ (((w.alloc (.cells #[.int .i64 fr, .int .i64 to, .string tx] 30)).alloc (.cells (mlL zMl).toArray 37)).setRow (w.heap.size + 1) (mlL ⟨0, fr, to, tx⟩).toArray)) := ⟨setRow_heap _ _ _ _ _ _ h2, ⟨b2.os, b2.tape, b2.output, by simpa [World.setRow] using b2.size, fun i hi => (setRow_other _ _ i _ (by omega)).trans (b2.block i hi)⟩⟩
  have HI := hide (mr_info ⟨0, fr, to, tx⟩)
  have HA := hide (ml_all ⟨0, fr, to, tx⟩)
  unfold zMl mlL at H2
  dsimp only at H2
  clear h2 b2
  go_enter Try.func12, Try.ntmps12
  go_wp2_with (refine wpList_store_row_to rfl 37 (.tmp 2) (.tmp 9) rfl (w.heap.size + 1) (mlL ⟨0, fr, to, tx⟩).toArray rfl rfl 37 _ (unhide H2) (unhide HI) rfl (unhide HA) (TkM w (w.heap.size + 1) ⟨0, fr, to, tx⟩) (unhide HG) ?_)
  intro w1 hh
  have H1 := hide hh
  clear hh
  go_wp2
  exact ret_cell (p := 2) (ty := 37) (by kernel_rfl) (w.heap.size + 1) 37 (mlL ⟨0, fr, to, tx⟩).toArray (0, 0) _ rfl (unhide H1).blk rfl Try.underlying37 (unhide HI) ⟨rfl, (unhide H1).be⟩
end Go.Proofs.Ytmnjngkdiinnfaa

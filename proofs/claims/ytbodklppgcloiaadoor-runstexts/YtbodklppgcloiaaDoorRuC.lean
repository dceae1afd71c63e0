/- Contract of runs.Pack. -/
import Derived.Test.YtbodklppgcloiaaDoorRuB
import Derived.Test.YtbodklppgcloiaaDoorOctWn
namespace Go.Proofs.YtbodklppgcloiaaDoor
open Go.RowKit Go.Shelf
set_option linter.unusedVariables false
attribute [local go_sem] Oper.semAt_some

/-- what is written for one run more -/
def pkStep (q : (By × Int) × Nat) (x : Nat × Nat) : (By × Int) × Nat := (wNum (wNum q.1 (wrap64 ((x.1 : Int) - q.2)) 1) (wrap64 ((x.2 : Int) - x.1)) 1, x.2)
def packS (l : List (Nat × Nat)) : (By × Int) × Nat := l.foldl pkStep (([], 0), 0)
theorem packS_snoc (l : List (Nat × Nat)) (x : Nat × Nat) : packS (l ++ [x]) = pkStep (packS l) x := by simp [packS]
theorem packS_le (l : List (Nat × Nat)) : (packS l).1.1.length ≤ 65536 := by
  unfold packS
  have key : ∀ (l : List (Nat × Nat)) q, q.1.1.length ≤ 65536 → (l.foldl pkStep q).1.1.length ≤ 65536 := by
    intro l
    induction l with
    | nil => intro q h; exact h
    | cons x l ih => intro q h; exact ih _ (wNum_le (wNum_le h _ _) _ _)
  exact key l _ (by simp)
theorem writer_own {β : Type} (b base : Nat) (f : β → By × Int) : Own (fun s W => WriterAt W b base (f s).1 (f s).2) := fun s X Y row hs hg hrow => by
  obtain ⟨ao, cap, hh, hown⟩ := hs.ex
  refine ⟨⟨ao, cap, (hg.block b (lt_of_block hh) (fun e => ?_)).trans hh, hown.kept hg ?_⟩⟩
  · obtain ⟨o, ho, hc⟩ := hrow b e.symm
    rw [hh] at ho; cases ho; cases hc
  · rcases hown.2 with ⟨h', _⟩ | ⟨g, cap', cur, h', _, hgb, _⟩
    · rw [h']; exact .inl rfl
    · rw [h']
      refine .inr fun e' => ?_
      obtain ⟨o, ho, hc⟩ := hrow g (by simpa [Value.ownBlock] using e'.symm)
      rw [hgb] at ho; cases ho; cases hc
theorem keeps_of_spares {b base : Nat} {w w' : World} {l : By} {err : Int} (h : Spares b w w') (hW : WriterAt w b base l err) (hz : w.heap.size ≤ w'.heap.size) : KeepsOthers w w' := ⟨hz, fun k o hk hc => h k o (by
    rintro rfl
    obtain ⟨ao, cap, hh, _⟩ := hW.ex
    rw [hh] at hk; cases hk; cases hc) (by rintro cs fr rfl; cases hc) hk⟩
theorem boxed_kept {W W' : World} {B b base : Nat} {t : TypeId} {v : Value} (h : Boxed W B t v) (k : Kept base b W W') (h1 : B < base) (h2 : B ≠ b) : Boxed W' B t v := (k.block B h1 h2).trans h
theorem span_spared {W W' : World} {B b : Nat} {x : Nat × Nat} (h : SpanAt W B x) (k : Spares b W W') (h2 : B ≠ b) : SpanAt W' B x := k B _ h2 (by intro cs fr e; cases e) h

theorem writer_set {W : World} {b base B : Nat} {l : By} {err : Int} {u : Value} (h : WriterAt W b base l err) (hB : Boxed W B 3 u) (hne : B ≠ b) (v : Value) : WriterAt (W.setCell ⟨B, 0, none⟩ v) b base l err := by
  obtain ⟨ao, cap, hh, hown⟩ := h.ex
  refine ⟨⟨ao, cap, (Below.heap_setCell _ _ _ _ (fun e => hne e.symm)).trans hh, hown.kept (grownBy_setCell' W B v) (.inr (hB.not_row (by decide) hown).symm)⟩⟩
def packE (n : Int) (s : By) : Int := if chkI n s = true then (packS (runsL s n.toNat)).1.2 else 3
def packR (n : Int) (s : By) : By := if chkI n s = true then (if (packS (runsL s n.toNat)).1.2 = 0 then (packS (runsL s n.toNat)).1.1 else []) else []
set_option maxRecDepth 100000 in
set_option maxHeartbeats 8000000 in
theorem pack_any (n : Int) (s : By) (w : World) (hs : s.length ≤ maxLen) : Calls Tryd.prog 17 #[.int .i64 n, .string (bs s)] w fun e w' => e = .returned (.tuple #[.string (bs (packR n s)), .int .i64 (packE n s)]) ∧ Below w.heap.size w w' := by
  have hc := hide (fun w => check_any n s w hs)
  unfold packE packR
  cases hC : chkI n s with
  | false =>
    rw [hC] at hc
    rw [if_neg (by simp), if_neg (by simp)]
    generalize bs s = S at *
    clear hC
    go_enter Tryd.func17, Tryd.ntmps17
    go_wp2_with fail
    refine (unhide hc _).mono ?_
    rintro e w1 ⟨rfl, b1⟩
    have B1 := hide b1
    clear b1
    go_wp2
    go_ret2
    exact ⟨rfl, unhide B1⟩
  | true =>
    rw [hC] at hc
    rw [if_pos rfl, if_pos rfl]
    obtain ⟨m, rfl, hch, hm, hl, hl20⟩ := chkI_facts hC
    rw [Int.toNat_natCast]
    have he := hide (each_any m s)
    have hst := hide (fun bn b2 w hW => each_stops 4 (by omega) bn b2 m s (by omega) hm w hW)
    have hto := hide to_any
    generalize bs s = S at *
    clear hC hch hl
    refine (callsIn_wide (n := 5)).1 ?_
    refine callsIn_of_wp_marks Tryd.func17 rfl trivial ?_ rfl
    simp only [Tryd.ntmps17, List.size_toArray, List.length_cons, List.length_nil, Nat.reduceAdd, Nat.reduceSub, Array.replicate_succ, Array.replicate_zero, List.push_toArray, List.append_toArray, List.nil_append, List.cons_append]
    gi_wp2_with (fail)
    refine ⟨trivial, ?_⟩
    refine (callsIn_wide.2 (unhide hc _)).mono ?_
    rintro e w1 ⟨rfl, b1⟩
    have B1 := hide b1
    clear b1
    gi_wp2_with (fail)
    refine ⟨trivial, ?_⟩
    refine (callsIn_wide.2 (unhide hto _)).mono ?_
    rintro e w2 ⟨rfl, hwr, rfl⟩
    gi_wp2_with (fail)
    refine ⟨trivial, ?_⟩
    generalize hN : w1.heap.size = N1 at *
    have hbV : Below N1 w1 (((w1.alloc (.cells #[.slice none 0 0, .int .i64 0] 83)).alloc (.cells #[.pointer (some ⟨N1, 0, none⟩)] 62)).alloc (.cells #[.int .i64 0] 3)) := (((Below.refl _ w1).alloc (by omega) _).alloc (by simp; omega) _).alloc (by simp; omega) _
    have bW : Boxed (((w1.alloc (.cells #[.slice none 0 0, .int .i64 0] 83)).alloc (.cells #[.pointer (some ⟨N1, 0, none⟩)] 62)).alloc (.cells #[.int .i64 0] 3)) (N1 + 1) 62 (.pointer (some ⟨N1, 0, none⟩)) := by
      have := Boxed.new (w1.alloc (.cells #[.slice none 0 0, .int .i64 0] 83)) 62 (.pointer (some ⟨N1, 0, none⟩))
      rw [World.size_alloc, hN] at this
      exact this.alloc _
    have bE : Boxed (((w1.alloc (.cells #[.slice none 0 0, .int .i64 0] 83)).alloc (.cells #[.pointer (some ⟨N1, 0, none⟩)] 62)).alloc (.cells #[.int .i64 0] 3)) (N1 + 1 + 1) 3 (.int .i64 0) := by
      have := Boxed.new ((w1.alloc (.cells #[.slice none 0 0, .int .i64 0] 83)).alloc (.cells #[.pointer (some ⟨N1, 0, none⟩)] 62)) 3 (.int .i64 0)
      rw [World.size_alloc, World.size_alloc, hN] at this
      exact this
    have hWr : ∀ base, N1 < base → WriterAt (((w1.alloc (.cells #[.slice none 0 0, .int .i64 0] 83)).alloc (.cells #[.pointer (some ⟨N1, 0, none⟩)] 62)).alloc (.cells #[.int .i64 0] 3)) N1 base [] 0 := fun base hb =>
      ((hwr base hb).below ((Below.refl _ _).alloc (Nat.le_refl _) _)).below ((Below.refl _ _).alloc (Nat.le_refl _) _)
    have hVs : (((w1.alloc (.cells #[.slice none 0 0, .int .i64 0] 83)).alloc (.cells #[.pointer (some ⟨N1, 0, none⟩)] 62)).alloc (.cells #[.int .i64 0] 3)).heap.size = N1 + 3 := by simp; omega
    generalize hV : ((w1.alloc (.cells #[.slice none 0 0, .int .i64 0] 83)).alloc (.cells #[.pointer (some ⟨N1, 0, none⟩)] 62)).alloc (.cells #[.int .i64 0] 3) = V at *
    clear hV hwr
    have HN := hide hN
    have HVS := hide hVs
    clear hN hVs
    refine (callsIn_wide.2 (unhide he V)).mono ?_
    rintro e w3 ⟨rfl, hbx, hw3⟩
    have hb3 : Below V.heap.size V w3 := by
      rw [hw3]
      exact ((Below.refl _ V).alloc (Nat.le_refl _) _).alloc (by simp) _
    have hs3 : Hid (w3.heap.size = V.heap.size + 2) := by
      show _ = _
      rw [hw3]; simp
    have bW3 : Boxed w3 (N1 + 1) 62 (.pointer (some ⟨N1, 0, none⟩)) := (hb3.block _ bW.lt).trans bW
    have bE3 : Boxed w3 (N1 + 1 + 1) 3 (.int .i64 0) := (hb3.block _ bE.lt).trans bE
    have hW3 : WriterAt w3 N1 w3.heap.size [] 0 := (hWr w3.heap.size (by have := unhide hs3; have := unhide HVS; omega)).below hb3
    have B3 : Below w.heap.size w w3 := (unhide B1).trans ((hbV.trans (hb3.mono (by have := unhide HVS; omega))).mono (by have := (unhide B1).size; have := unhide HN; omega))
    have hwN : w.heap.size ≤ N1 := by have := (unhide B1).size; have := unhide HN; omega
    have hbn : V.heap.size = N1 + 3 := unhide HVS
    have hsz3 : w3.heap.size = V.heap.size + 2 := unhide hs3
    clear hw3 hb3 bW bE hWr hbV B1 HVS hs3 HN
    generalize V.heap.size = bn at *
    obtain ⟨base, hbase⟩ : ∃ base, base = w3.heap.size := ⟨_, rfl⟩
    rw [← hbase] at hW3 hsz3
    have FV : Value := .func (.func 59) #[] #[.pointer (some ⟨bn, 0, none⟩), .pointer (some ⟨bn + 1, 0, none⟩)]
    have HZ := hide hsz3
    have HBN := hide hbn
    have HBS := hide hbase
    clear hsz3 hbn hbase
    gi_wp2
    refine wpIn_rangeFunc_ownH rfl (by omega) (gf := 59) (lb := #[.pointer (some ⟨bn, 0, none⟩), .pointer (some ⟨bn + 1, 0, none⟩)]) rfl trivial (enters_of Tryd.func59 (by kernel_rfl) rfl)
      (unhide hst bn (bn + 1) w3 hbx) kpE_t (kpE_b (by have := unhide HZ; have := unhide HBS; omega) (by have := unhide HZ; have := unhide HBS; omega)) (Below.refl _ _) (fun _ => rfl)
      (fun pre W => ((Boxed W (N1 + 1) 62 (.pointer (some ⟨N1, 0, none⟩)) ∧ Boxed W (N1 + 1 + 1) 3 (.int .i64 ((packS pre).2 : Nat))) ∧ WriterAt W N1 base (packS pre).1.1 (packS pre).1.2 ∧ base ≤ W.heap.size) ∧ Below w.heap.size w W)
      (fun _ _ _ => False)
      (OwnFrom.and (OwnFrom.and (OwnFrom.and (Own.from (boxed_own _ _ _) _) (Own.from (boxed_own _ _ (fun pre : List (Nat × Nat) => Value.int .i64 ((packS pre).2 : Nat))) _)) (OwnFrom.and (Own.from (writer_own N1 base (fun pre : List (Nat × Nat) => (packS pre).1)) _) (fun _ _ _ _ hs hg _ => Nat.le_trans hs hg.size))) (ownFrom_below (Nat.le_refl _) (by have := unhide HZ; have := unhide HBS; have := unhide HBN; omega)))
      (fun _ _ _ _ _ hs _ _ => hs)
      ⟨⟨⟨bW3, bE3⟩, hW3, by have := unhide HBS; omega⟩, B3⟩
      (fun x a' W => ∃ Bx, base ≤ Bx ∧ SpanAt W Bx x ∧ a' = { tmps := #[.int .i64 m, .string S, undef, undef, .string ⟨#[]⟩, .int .i64 0, .pointer (some ⟨N1 + 1, 0, none⟩), .pointer (some ⟨N1 + 1 + 1, 0, none⟩), .pointer (some ⟨Bx, 0, none⟩), .int .i64 m, .string S, .bool true, .bool false, .pointer (some ⟨N1, 0, none⟩), .int .i64 m, .string S, .func (.func 59) #[] #[.pointer (some ⟨bn, 0, none⟩), .pointer (some ⟨bn + 1, 0, none⟩)], spV x, undef, undef, undef, undef, undef, undef, undef, undef, undef, undef, undef, undef, undef, undef, undef, undef, undef, undef, undef], defers := [] })
      (fun x a' _ X Y row hs hg hr => by obtain ⟨Bx, h1, h2, h3⟩ := hs; exact ⟨Bx, h1, span_own Bx (fun (_ : Unit) => x) () X Y row h2 hg (fun r e => (hr r e).2), h3⟩)
      ?assign ?body ?done ?stop
    case assign =>
      rintro l pre x W K ⟨⟨⟨b1, b2⟩, hw1, hsz1⟩, hB1⟩ hK
      have e1 := unhide HZ
      have e2 := unhide HBS
      clear HZ HBS
      unfold spV
      have HE := hide e1
      have HE2 := hide e2
      clear e1 e2
      gi_wp2
      refine hK _ _ ((KeepsOthers.alloc _ _).from _) (kpE_below ((Below.refl W.heap.size W).alloc (Nat.le_refl _) _) (by have := unhide HE; omega) (by have := unhide HE; omega)) ⟨⟨⟨b1.alloc _, b2.alloc _⟩, hw1.below ((Below.refl _ _).alloc (Nat.le_refl _) _), by simp; omega⟩, hB1.alloc hB1.size _⟩ ⟨W.heap.size, hsz1, heap_alloc_new _ _, rfl⟩
    case body =>
      rintro l pre x a' W hl hr ⟨⟨⟨b1, b2⟩, hw1, hsz1⟩, hB1⟩ ⟨Bx, hBx, bX, rfl⟩ hlt
      have cW := b1.cell
      have cE := b2.cell
      have c0 : W.cell? ⟨Bx, 0, none⟩ = some (.int .i64 (x.1 : Int)) := by rw [cell_of_row _ _ 0 _ _ (0, 0) bX]; rfl
      have c1 : W.cell? ⟨Bx, 1, none⟩ = some (.int .i64 (x.2 : Int)) := by rw [cell_of_row _ _ 1 _ _ (0, 0) bX]; rfl
      have hpl := packS_le pre
      have HSN := hide (packS_snoc pre x)
      have hNb : N1 < base ∧ N1 + 1 < base ∧ N1 + 1 + 1 < base ∧ bn < base ∧ bn + 1 < base ∧ bn = N1 + 3 := by
        have := unhide HZ; have := unhide HBN; omega
      have HNb := hide hNb
      have k1 := hide (wnum_s W N1 base (packS pre).1.1 (packS pre).1.2 (wrap64 ((x.1 : Int) - ((packS pre).2 : Nat))) 1 hpl hsz1 hNb.1 hw1)
      have hNbx : Bx ≠ N1 := by omega
      have HBx := hide hBx
      clear hNb
      gi_wp2_with (fail)
      refine ⟨trivial, ?_⟩
      refine (CallsIn.inRound l (callsIn_wide.2 (unhide k1))).mono ?_
      rintro e w4 ⟨rfl, hwA, kA, sA⟩
      obtain ⟨n0, n1, n2, n3, n4, n5⟩ := unhide HNb
      have b1A := boxed_kept b1 kA n1 (by omega)
      have b2A := boxed_kept b2 kA n2 (by omega)
      have bXA := span_spared bX sA hNbx
      have hsA : base ≤ w4.heap.size := Nat.le_trans hsz1 kA.size
      have k2 := hide (wnum_s w4 N1 base _ _ (wrap64 ((x.2 : Int) - x.1)) 1 (wNum_le hpl _ _) hsA n0 hwA)
      have cW := b1A.cell
      have c0 : w4.cell? ⟨Bx, 0, none⟩ = some (.int .i64 (x.1 : Int)) := by rw [cell_of_row _ _ 0 _ _ (0, 0) bXA]; rfl
      have c1 : w4.cell? ⟨Bx, 1, none⟩ = some (.int .i64 (x.2 : Int)) := by rw [cell_of_row _ _ 1 _ _ (0, 0) bXA]; rfl
      have hkoA := keeps_of_spares sA hw1 kA.size
      clear k1 n0 n1 n2 n3 n4 n5
      gi_wp2_with (fail)
      refine ⟨trivial, ?_⟩
      refine (CallsIn.inRound l (callsIn_wide.2 (unhide k2))).mono ?_
      rintro e w5 ⟨rfl, hwB, kB, sB⟩
      obtain ⟨n0, n1, n2, n3, n4, n5⟩ := unhide HNb
      have b1B := boxed_kept b1A kB n1 (by omega)
      have b2B := boxed_kept b2A kB n2 (by omega)
      have bXB := span_spared bXA sB hNbx
      have hsB : base ≤ w5.heap.size := Nat.le_trans hsA kB.size
      have hkoB := keeps_of_spares sB hwA kB.size
      have cE := b2B.cell
      have fE := b2B.frozen
      have c1 : w5.cell? ⟨Bx, 1, none⟩ = some (.int .i64 (x.2 : Int)) := by rw [cell_of_row _ _ 1 _ _ (0, 0) bXB]; rfl
      clear k2
      have HNN := hide n5
      clear n0 n1 n2 n3 n4 n5
      gi_wp2
      obtain ⟨n0, n1, n2, n3, n4, n5⟩ := unhide HNb
      have kAB : Kept base N1 W w5 := kA.trans kB
      have hsn := unhide HSN
      unfold pkStep at hsn
      refine ⟨((hkoA.trans hkoB).trans (KeepsOthers.setCell _ _ _)).from _, ⟨?_, ?_⟩, ⟨⟨⟨?_, ?_⟩, ?_, ?_⟩, ?_⟩⟩
      · exact (Below.heap_setCell _ _ _ _ (fun e => by have e' : bn = N1 + 1 + 1 := e; omega)).trans (kAB.block bn n3 (by omega))
      · exact (Below.heap_setCell _ _ _ _ (fun e => by have e' : bn + 1 = N1 + 1 + 1 := e; omega)).trans (kAB.block (bn + 1) n4 (by omega))
      · exact b1B.kept (grownBy_setCell' _ _ _) (by simp)
      · rw [hsn]; exact b2B.set _
      · rw [hsn]; exact writer_set hwB b2B (by omega) _
      · simp; exact hsB
      · exact (hB1.trans (kAB.below w.heap.size (by omega) (by omega))).setCell (p := ⟨N1 + 1 + 1, 0, none⟩) (by simp; omega) _
    case done =>
      rintro D ys W hD rfl ⟨⟨⟨b1, b2⟩, hw1, hsz1⟩, hB1⟩ hK
      have cW := b1.cell
      have k1 := hide (bytes_any W N1 base _ _ hw1)
      gi_wp2_with (fail)
      refine ⟨trivial, ?_⟩
      refine (callsIn_wide.2 (unhide k1)).mono ?_
      rintro e w6 ⟨rfl, q, rfl⟩
      have hK6 : (W.drewN q).heap[D]? = some (.deferred (some [])) := hK
      have hD' : w.heap.size ≤ D := by have := unhide HZ; have := unhide HBS; have := unhide HBN; omega
      have hfin : Hid (Below w.heap.size w ((W.drewN q).putObj D (.deferred none))) := (below_drawn hB1 q).trans (belowK_b (w := w) (Nat.le_refl _) (W.drewN q) D _ _ hD' hK6 rfl rfl)
      by_cases h0 : (packS (runsL s m)).1.2 = 0
      · rw [h0]
        gi_wp2
        all_goals
          refine ⟨by simp, .inl ⟨_, _, rfl, run_takeDeferred hK6, ?_⟩⟩
          exact ⟨_, results_tmp2 rfl _ _ _, rfl, unhide hfin⟩
      · gi_wp2
        all_goals
          refine ⟨by simp, .inl ⟨_, _, rfl, run_takeDeferred hK6, ?_⟩⟩
          exact ⟨_, results_tmp2 rfl _ _ _, rfl, unhide hfin⟩
    case stop =>
      rintro D c pre W _ _ h _
      exact h.elim
end Go.Proofs.YtbodklppgcloiaaDoor

/- Runs collected: slices.AppendSeq and slices.Collect over each; runs.Of and Gaps. -/
import Derived.Test.YtbodklppgcloiaaDoorRuA
import Derived.RangeFuncBox
import Derived.Maps.AppendAt
namespace Go.Proofs.YtbodklppgcloiaaDoor
open Go.RowKit Go.Shelf
set_option linter.unusedVariables false
attribute [local go_sem] Oper.semAt_some

theorem Tryd.infoP : (Tryd.prog.info? 50).map (fun i => (i.zero, i.size, i.bytes)) = some (some (.agg #[.int .i64 0, .int .i64 0]), 2, 16) := by kernel_rfl
theorem Tryd.undP : Tryd.prog.underlying 22 = some (.slice 50) := by kernel_rfl
/-- spans as cells -/
def pcs (l : List (Nat × Nat)) : List Value := l.flatMap fun x => [.int .i64 (x.1 : Int), .int .i64 (x.2 : Int)]
theorem pcs_append (a b : List (Nat × Nat)) : pcs (a ++ b) = pcs a ++ pcs b := by simp [pcs]
theorem pcs_length (l : List (Nat × Nat)) : (pcs l).length = l.length * 2 := by
  induction l with
  | nil => rfl
  | cons x l ih => rw [show x :: l = [x] ++ l from rfl, pcs_append, List.length_append, ih]; simp [pcs]; omega
/-- a span in a block of its own -/
def SpanAt (W : World) (B : Nat) (x : Nat × Nat) : Prop := W.heap[B]? = some (.cells #[.int .i64 (x.1 : Int), .int .i64 (x.2 : Int)] 50 (0, 0))
theorem span_own {β : Type} (B : Nat) (f : β → Nat × Nat) : Own (fun s W => SpanAt W B (f s)) := fun s X Y row hs hg hrow => by
  refine (hg.block B (lt_of_block hs) (fun e => ?_)).trans hs
  obtain ⟨o, ho, hc⟩ := hrow B e.symm
  rw [show X.heap[B]? = _ from hs] at ho
  cases ho
  cases hc
theorem own_form2 {w : World} {base n : Nat} {e : TypeId} {v : Value} {xs : List Value} (hown : w.ownsRow base e 2 v n xs) : ∃ ao cap, v = .slice ao n cap := by
  rcases hown.2 with ⟨h', h0⟩ | ⟨g, cap', cur, h', _⟩
  · exact ⟨none, 0, by rw [h', h0]⟩
  · exact ⟨_, _, h'⟩
theorem kpE_below {bn b2 n0 : Nat} {W W' : World} (h : Below n0 W W') (h1 : bn < n0) (h2 : b2 < n0) : KpE bn b2 W W' := ⟨h.block bn h1, h.block b2 h2⟩

set_option maxRecDepth 100000 in
set_option maxHeartbeats 4000000 in
theorem appendSeq_any (bn b2 n : Nat) (s : By) (hs : s.length ≤ 100000) (hn : n ≤ 160) (w : World) (hW : BoxesAt bn b2 n s w) :
    Calls Tryd.prog 58 #[.slice none 0 0, .func (.func 59) #[] #[.pointer (some ⟨bn, 0, none⟩), .pointer (some ⟨b2, 0, none⟩)]] w fun e w' => ∃ v, e = .returned v ∧ w'.ownsRow w.heap.size 50 2 v (runsL s n).length (pcs (runsL s n)) ∧ Below w.heap.size w w' := by
  obtain ⟨i0, hi, hz0, hz1, hz2⟩ := info_parts Tryd.infoP
  have l1 := lt_of_block hW.1
  have l2 := lt_of_block hW.2
  refine (callsIn_wide (n := 5)).1 ?_
  refine callsIn_of_wp_marks Tryd.func58 rfl trivial ?_ rfl
  simp only [Tryd.ntmps58, List.size_toArray, List.length_cons, List.length_nil, Nat.reduceAdd, Nat.reduceSub, Array.replicate_succ, Array.replicate_zero, List.push_toArray, List.append_toArray, List.nil_append, List.cons_append]
  gi_wp2
  have hB0 : Below w.heap.size w (w.alloc (.cells #[.slice none 0 0] 22)) := (Below.refl _ w).alloc (Nat.le_refl _) _
  have bS := Boxed.new w 22 (.slice none 0 0)
  have hsz : (w.alloc (.cells #[.slice none 0 0] 22)).heap.size = w.heap.size + 1 := by simp
  obtain ⟨W0, hW0⟩ : ∃ W0, w.alloc (.cells #[.slice none 0 0] 22) = W0 := ⟨_, rfl⟩
  rw [hW0] at bS hB0 hsz ⊢
  clear hW0
  have hWb : BoxesAt bn b2 n s W0 := hW.below hB0
  refine wpIn_rangeFunc_ownH rfl (by omega) (gf := 59) (lb := #[.pointer (some ⟨bn, 0, none⟩), .pointer (some ⟨b2, 0, none⟩)]) rfl trivial (enters_of Tryd.func59 (by kernel_rfl) rfl)
    (each_stops 4 (by omega) bn b2 n s hs hn W0 hWb) kpE_t (kpE_b (by omega) (by omega)) (Below.refl _ _) (fun _ => rfl)
    (fun pre W => (∃ v, Boxed W w.heap.size 22 v ∧ W.ownsRow w.heap.size 50 2 v pre.length (pcs pre) ∧ True) ∧ Below w.heap.size w W)
    (fun _ _ _ => False)
    (OwnFrom.and (Own.from (holdsRow_own w.heap.size w.heap.size 22 50 2 (fun pre : List (Nat × Nat) => pre.length) (fun pre => pcs pre) (fun _ _ => True)) _) (ownFrom_below (Nat.le_refl _) (by omega)))
    (fun _ _ _ _ _ hs _ _ => hs)
    ⟨⟨_, bS, World.ownsRow_nil _ _ _ _, trivial⟩, hB0⟩
    (fun x a' W => ∃ Bx, w.heap.size < Bx ∧ SpanAt W Bx x ∧ a' = { tmps := #[.slice none 0 0, .func (.func 59) #[] #[.pointer (some ⟨bn, 0, none⟩), .pointer (some ⟨b2, 0, none⟩)], .pointer (some ⟨w.heap.size, 0, none⟩), undef, .slice none 0 0, .pointer (some ⟨Bx, 0, none⟩), .func (.func 59) #[] #[.pointer (some ⟨bn, 0, none⟩), .pointer (some ⟨b2, 0, none⟩)], spV x, undef, undef, undef, undef, undef], defers := [] })
    (fun x a' _ X Y row hs hg hr => by obtain ⟨Bx, h1, h2, h3⟩ := hs; exact ⟨Bx, h1, span_own Bx (fun (_ : Unit) => x) () X Y row h2 hg (fun r e => (hr r e).2), h3⟩)
    ?assign ?body ?done ?stop
  case assign =>
    rintro l pre x W K ⟨⟨v, bS1, hr1, _⟩, hB1⟩ hK
    unfold spV
    gi_wp2
    refine hK _ _ ((KeepsOthers.alloc _ _).from _) (kpE_below ((Below.refl w.heap.size W).alloc hB1.size _) l1 l2) ⟨⟨v, bS1.alloc _, hr1.alloc _, trivial⟩, hB1.alloc hB1.size _⟩ ⟨W.heap.size, bS1.lt, heap_alloc_new _ _, rfl⟩
  case body =>
    rintro l pre x a' W hl hr ⟨⟨v, bS1, hr1, _⟩, hB1⟩ ⟨Bx, hBx, bX, rfl⟩ hlt
    have cS := bS1.cell
    have c0 : W.cell? ⟨Bx, 0, none⟩ = some (.int .i64 (x.1 : Int)) := by rw [cell_of_row _ _ 0 _ _ (0, 0) bX]; rfl
    have c1 : W.cell? ⟨Bx, 1, none⟩ = some (.int .i64 (x.2 : Int)) := by rw [cell_of_row _ _ 1 _ _ (0, 0) bX]; rfl
    obtain ⟨ao, cap, rfl⟩ := own_form2 hr1
    have hpl : pre.length ≤ 161 := by omega
    have HN : Hid (∀ j u, [Value.int .i64 (x.1 : Int), Value.int .i64 (x.2 : Int)][j]? = some u → (W.alloc (.cells #[.int .i64 (x.1 : Int), .int .i64 (x.2 : Int)] 50)).cell? ((⟨W.heap.size, 0, none⟩ : Addr).add j) = some u) := news_lit W [_, _] _
    gi_wp2_with (gi_at_builtin; refine wpListIn_append_own _ rfl _ _ 22 rfl w.heap.size 50 i0 (.agg #[.int .i64 0, .int .i64 0]) 2 16 Tryd.undP hi hz0 hz1 hz2 rfl (by decide) _ _ _ rfl (hr1.alloc _) ⟨W.heap.size, 0, none⟩ 1 1 [.int .i64 (x.1 : Int), .int .i64 (x.2 : Int)] rfl rfl (unhide HN) (by intro u hu; simp at hu; rcases hu with rfl | rfl <;> rfl) (by unfold maxLen; omega) (by omega) (by have := hB1.size; simp; omega) ?_; intro v' w1 hown' hgrow _; obtain ⟨g', cap', rfl⟩ := ownsRow_succ hown'; obtain ⟨hv1, hv2, hr2, hk2, hb2⟩ := bS1.appended (by decide) hr1 hB1.size (Nat.le_refl _) hown' hgrow; have hc1 := hv1.cell; have hf1 := hv1.frozen)
    refine ⟨hk2.from _, kpE_below hb2 l1 l2, ⟨⟨_, hv2, ?_, trivial⟩, hB1.trans hb2⟩⟩
    rw [pcs_append, List.length_append]
    exact hr2
  case done =>
    rintro D ys W hD rfl ⟨⟨v, bS1, hr1, _⟩, hB1⟩ hK
    have cS := bS1.cell
    obtain ⟨ao, cap, rfl⟩ := own_form2 hr1
    gi_wp2
    refine ⟨by simp, .inl ⟨_, _, rfl, run_takeDeferred hK, ?_⟩⟩
    exact ⟨_, results_tmp rfl _ _ _, _, rfl, ownsRow_putObj hr1 _ hK rfl, hB1.trans (belowK_b (w := w) (Nat.le_refl _) W D _ _ (by omega) hK rfl rfl)⟩
  case stop =>
    rintro D c pre W _ _ h _
    exact h.elim

theorem collect_any (bn b2 n : Nat) (s : By) (hs : s.length ≤ 100000) (hn : n ≤ 160) (w : World) (hW : BoxesAt bn b2 n s w) :
    Calls Tryd.prog 31 #[.func (.func 59) #[] #[.pointer (some ⟨bn, 0, none⟩), .pointer (some ⟨b2, 0, none⟩)]] w fun e w' => ∃ v, e = .returned v ∧ w'.ownsRow w.heap.size 50 2 v (runsL s n).length (pcs (runsL s n)) ∧ Below w.heap.size w w' := by
  have h := hide (appendSeq_any bn b2 n s hs hn w hW)
  go_enter Tryd.func31, Tryd.ntmps31
  go_wp2_with fail
  refine (unhide h).mono ?_
  rintro e w1 ⟨v, rfl, ho, b1⟩
  have HO := hide ho
  have B1 := hide b1
  clear ho b1
  go_wp2
  go_ret
  exact ⟨_, rfl, unhide HO, unhide B1⟩

/-- spans of the call's own -/
def OwnP (w : World) (base : Nat) (v : Value) (l : List (Nat × Nat)) : Prop := w.ownsRow base 50 2 v l.length (pcs l)
def ofsE (n : Int) (s : By) : Int := if chkI n s = true then 0 else 3
def ofsR (n : Int) (s : By) : List (Nat × Nat) := if chkI n s = true then runsL s n.toNat else []
theorem own_mono' {w : World} {base base' n size : Nat} {e : TypeId} {v : Value} {xs : List Value} (h : w.ownsRow base e size v n xs) (hb : base' ≤ base) : w.ownsRow base' e size v n xs := own_mono h hb
theorem chkI_facts {n : Int} {s : By} (h : chkI n s = true) : ∃ m : Nat, n = m ∧ chk m s = true ∧ m ≤ 160 ∧ s.length = wid m ∧ s.length ≤ 20 := by
  have h0 : 0 ≤ n := by
    unfold chkI at h
    rw [Bool.and_eq_true, decide_eq_true_iff] at h
    exact h.1
  obtain ⟨m, rfl⟩ : ∃ m : Nat, n = m := ⟨n.toNat, by omega⟩
  rw [chkI_nat] at h
  obtain ⟨c1, c2, _⟩ := chk_iff.1 h
  have := wid_le20 m c1
  exact ⟨m, rfl, h, c1, c2, by omega⟩
theorem rof_any (n : Int) (s : By) (w : World) (hs : s.length ≤ maxLen) : Calls Tryd.prog 10 #[.int .i64 n, .string (bs s)] w fun e w' => ∃ v, e = .returned (.tuple #[v, .int .i64 (ofsE n s)]) ∧ OwnP w' w.heap.size v (ofsR n s) ∧ Below w.heap.size w w' := by
  have hc := hide (fun w => check_any n s w hs)
  unfold ofsE ofsR
  cases hC : chkI n s with
  | false =>
    rw [hC] at hc
    rw [if_neg (by simp), if_neg (by simp)]
    generalize bs s = S at *
    clear hC
    go_enter Tryd.func10, Tryd.ntmps10
    go_wp2_with fail
    refine (unhide hc _).mono ?_
    rintro e w1 ⟨rfl, b1⟩
    have B1 := hide b1
    clear b1
    go_wp2
    go_ret2
    exact ⟨_, rfl, World.ownsRow_nil _ _ _ _, unhide B1⟩
  | true =>
    rw [hC] at hc
    rw [if_pos rfl, if_pos rfl]
    obtain ⟨m, rfl, hch, hm, hl, hl20⟩ := chkI_facts hC
    rw [Int.toNat_natCast]
    have he := hide (each_any m s)
    have hco := hide (fun bn b2 w hW => collect_any bn b2 m s (by omega) hm w hW)
    generalize bs s = S at *
    clear hC hch hl
    go_enter Tryd.func10, Tryd.ntmps10
    go_wp2_with fail
    refine (unhide hc _).mono ?_
    rintro e w1 ⟨rfl, b1⟩
    have B1 := hide b1
    clear b1
    go_wp2_with fail
    refine (unhide he _).mono ?_
    rintro e w2 ⟨rfl, hbx, hw2⟩
    have b2 : Below w1.heap.size w1 w2 := by
      rw [hw2]
      exact ((Below.refl _ w1).alloc (Nat.le_refl _) _).alloc (by simp) _
    have B2 := hide ((unhide B1).trans (b2.mono (unhide B1).size))
    have hcc := hide (unhide hco _ _ w2 hbx)
    clear b2 B1 hw2 hbx
    go_wp2_with fail
    refine (unhide hcc).mono ?_
    rintro e w3 ⟨v, rfl, ho, b3⟩
    have B3 := hide ((unhide B2).trans (b3.mono (unhide B2).size))
    have HO : Hid (OwnP w3 w.heap.size v (runsL s m)) := own_mono' ho (unhide B2).size
    clear ho b3 B2 hcc
    go_wp2
    go_ret2
    exact ⟨_, rfl, unhide HO, unhide B3⟩
end Go.Proofs.YtbodklppgcloiaaDoor

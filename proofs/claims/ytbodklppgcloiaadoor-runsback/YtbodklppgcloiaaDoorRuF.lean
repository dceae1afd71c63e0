/- slices.Values over spans, and runs.Set. -/
import Derived.Test.YtbodklppgcloiaaDoorRuE
namespace Go.Proofs.YtbodklppgcloiaaDoor
open Go.RowKit Go.Shelf
set_option linter.unusedVariables false
attribute [local go_sem] Oper.semAt_some

/-- spans in a row of cells that lies below N0 -/
def SpansAt (N0 : Nat) (w : World) (a0 : Option Addr) (l : List (Int × Int)) : Prop := ∀ i (h : i < l.length), ∃ g o, a0 = some ⟨g, o, none⟩ ∧ (g < N0 ∧ ∃ cs t fr, w.heap[g]? = some (.cells cs t fr)) ∧ w.cell? ⟨g, o + i * 2, none⟩ = some (.int .i64 l[i].1) ∧ w.cell? ⟨g, o + i * 2 + 1, none⟩ = some (.int .i64 l[i].2)
theorem SpansAt.kept {N0 : Nat} {w w' : World} {a0 : Option Addr} {l : List (Int × Int)} {n0 : Nat} (h : SpansAt N0 w a0 l) (hk : KpG n0 w w') (hN : N0 ≤ n0) : SpansAt N0 w' a0 l := fun i hi => by
  obtain ⟨g, o, h1, ⟨hg, cs, t, fr, h2⟩, h3, h4⟩ := h i hi
  have h5 := hk g cs _ fr h2 (.inl (by omega))
  refine ⟨g, o, h1, ⟨hg, cs, t, fr, h5⟩, ?_, ?_⟩
  · rw [← h3]; simp only [World.cell?, h5, h2]
  · rw [← h4]; simp only [World.cell?, h5, h2]
theorem SpansAt.below {N0 : Nat} {w w' : World} {a0 : Option Addr} {l : List (Int × Int)} (h : SpansAt N0 w a0 l) (hb : Below w.heap.size w w') : SpansAt N0 w' a0 l := h.kept (kpG_below (n0 := N0) hb) (Nat.le_refl _)
theorem SpansAt.mono {N0 N1 : Nat} {w : World} {a0 : Option Addr} {l : List (Int × Int)} (h : SpansAt N0 w a0 l) (hN : N0 ≤ N1) : SpansAt N1 w a0 l := fun i hi => by
  obtain ⟨g, o, h1, ⟨hg, h2⟩, h3⟩ := h i hi
  exact ⟨g, o, h1, ⟨by omega, h2⟩, h3⟩

set_option maxRecDepth 100000 in
set_option maxHeartbeats 4000000 in
theorem values1_in (m : Nat) (hm : 1 ≤ m) (r n0 B c : Nat) (a0 : Option Addr) (xs : List (Int × Int)) (hx : xs.length ≤ 100000) (hB0 : B < n0) (N0 : Nat) (hN0 : N0 ≤ n0) (J Jx : List (Int × Int) → World → Prop)
    (hA : ∀ pre W W', J pre W → Below W.heap.size W W' → J pre W')
    (hY : ∀ pre (x : Int × Int) W, J pre W → pre.length < xs.length → YieldAt Fence.wide (m - 1) Tryd.prog r #[spI x] W fun e W' =>
      (e = .returned (.bool true) ∧ J (pre ++ [x]) W' ∧ KpG n0 W W') ∨ (e = .returned (.bool false) ∧ Jx (pre ++ [x]) W'))
    (W : World) (hW : Boxed W B 22 (.slice a0 xs.length c)) (hS : SpansAt N0 W a0 xs) (h0 : J [] W) :
    CallsIn Fence.wide m Tryd.prog 63 #[.func (.yield r) #[] #[], .pointer (some ⟨B, 0, none⟩)] W fun e W' => (∃ v, e = .returned v) ∧
      ((∃ ys, ys = xs ∧ J ys W') ∨ (∃ pre, (∃ k, k ≤ xs.length ∧ pre = xs.take k) ∧ Jx pre W')) := by
  have hc0 := hW.cell
  refine callsIn_of_wp Tryd.func63 rfl trivial ?_ rfl
  simp only [Tryd.ntmps63, List.size_toArray, List.length_cons, List.length_nil, Nat.reduceAdd, Nat.reduceSub, Array.replicate_succ, Array.replicate_zero, List.push_toArray, List.append_toArray, List.nil_append, List.cons_append]
  gi_wp2
  gi_loopw [7] (fun i wr => ∃ k : Nat, k ≤ xs.length ∧ i = .int .i64 k ∧ J (xs.take k) wr ∧ SpansAt N0 wr a0 xs) (fun i _ => xs.length - (intOf i).toNat)
  case atStart => exact ⟨0, Nat.zero_le _, rfl, h0, hS⟩
  case round =>
    obtain ⟨k, hk, rfl, hJ, hS'⟩ := hrel
    by_cases hlt : k < xs.length
    · have q1 : (k : Int) < (xs.length : Int) := by omega
      have HTK := hide (List.take_succ_eq_append_getElem hlt)
      obtain ⟨g, o, rfl, _, c1, c2⟩ := hS' k hlt
      obtain ⟨⟨x1, x2⟩, hx12⟩ : ∃ x, x = xs[k] := ⟨_, rfl⟩
      rw [← hx12] at c1 c2 HTK
      simp only at c1 c2
      have hJ2 := hA _ _ _ hJ ((Below.refl wr.heap.size wr).alloc (Nat.le_refl _) (.cells #[.int .i64 x1, .int .i64 x2] 50))
      have hS2 := hide (hS'.below ((Below.refl wr.heap.size wr).alloc (Nat.le_refl _) (.cells #[.int .i64 x1, .int .i64 x2] 50)))
      obtain ⟨fn, tmps, assign, body, hy, hR⟩ := hY (xs.take k) (x1, x2) _ hJ2 (by rw [List.length_take]; omega)
      unfold spI at hy
      dsimp only at hy
      have HHC := hide hc0
      have HX12 := hide hx12
      have HSS := hide hS'
      have HJJ := hide hJ
      clear hJ2 hc0 hx12 hS' hJ hS hW hA hY h0
      gi_wp2
      refine hR.mono ?_
      rintro e W3 (⟨rfl, hJ3, hk3⟩ | ⟨rfl, hJx3⟩)
      · have hS3 := hide ((unhide hS2).kept hk3 hN0)
        have HJ3 := hide hJ3
        clear hk3 hJ3 hR hy hS2
        gi_wp2
        go_roundw
        case rel => exact ⟨k + 1, by omega, by go_num, by rw [unhide HTK]; exact unhide HJ3, unhide hS3⟩
        case measure => simp [intOf]; omega
      · have HJ3 := hide hJx3
        clear hJx3 hR hy hS2
        gi_wp2
        refine bodyPost_ret (results_none rfl _ _ _) rfl ?_
        exact ⟨⟨_, rfl⟩, .inr ⟨_, ⟨k + 1, by omega, by rw [unhide HTK]⟩, unhide HJ3⟩⟩
    · have q1 : ¬ (k : Int) < (xs.length : Int) := by omega
      have hke : k = xs.length := by omega
      have HJ : Hid (J xs wr) := by
        show J xs wr
        rw [hke, List.take_length] at hJ
        exact hJ
      clear hke hJ
      gi_wp2
      go_end0
      exact ⟨⟨_, rfl⟩, .inl (unhide HJ)⟩
theorem values_stops (m : Nat) (hm : 1 ≤ m) (n0 B c : Nat) (a0 : Option Addr) (xs : List (Int × Int)) (hx : xs.length ≤ 100000) (hB0 : B < n0) (N0 : Nat) (hN0 : N0 ≤ n0) (w : World) (hW : Boxed w B 22 (.slice a0 xs.length c)) (hS : SpansAt N0 w a0 xs) :
    SeqStopsK Fence.wide m Tryd.prog 63 #[.pointer (some ⟨B, 0, none⟩)] (fun x : Int × Int => #[spI x]) (KpG n0) (fun ys => ys = xs) (fun pre => pre <+: xs) xs.length w := fun l J Jx W hb hJ hJx hY h0 => by
  refine (values1_in m hm l n0 B c a0 xs hx hB0 N0 hN0 J Jx (fun pre A B hA hB => hJ pre A B none hA (grown_of_below hB) (fun r e => by cases e)) hY W ((hb.block _ (lt_of_block hW)).trans hW) (hS.below hb) h0).mono ?_
  rintro e W' ⟨he, ⟨ys, rfl, hj⟩ | ⟨pre, ⟨k, hk, rfl⟩, hj⟩⟩
  · exact ⟨he, .inl ⟨_, rfl, hj⟩⟩
  · exact ⟨he, .inr ⟨_, List.take_prefix _ _, hj⟩⟩
theorem values_any (a0 : Option Addr) (n c : Nat) (w : World) : Calls Tryd.prog 38 #[.slice a0 n c] w fun e w' => e = .returned (.func (.func 63) #[] #[.pointer (some ⟨w.heap.size, 0, none⟩)]) ∧ w' = w.alloc (.cells #[.slice a0 n c] 22) := by
  go_enter Tryd.func38, Tryd.ntmps38
  go_wp2
  go_ret
  exact ⟨rfl, rfl⟩
theorem set_any (n : Int) (xs : List (Int × Int)) (hx : xs.length ≤ 100000) (a0 : Option Addr) (c : Nat) (w : World) (hS : SpansAt w.heap.size w a0 xs) : Calls Tryd.prog 13 #[.int .i64 n, .slice a0 xs.length c] w fun e w' => e = .returned (.tuple #[.string (bs (gatR n xs)), .int .i64 (gatE n 1 xs)]) ∧ Below w.heap.size w w' := by
  have hv := hide (values_any a0 xs.length c w)
  have b1 : Below w.heap.size w (w.alloc (.cells #[.slice a0 xs.length c] 22)) := (Below.refl _ w).alloc (Nat.le_refl _) _
  have hbx := Boxed.new w 22 (.slice a0 xs.length c)
  have hg := hide (gather_any 9 (by decide) 63 #[.pointer (some ⟨w.heap.size, 0, none⟩)] (enters_of Tryd.func63 (by kernel_rfl) rfl) xs xs.length n 1 (w.alloc (.cells #[.slice a0 xs.length c] 22))
    (fun W0 hb => seqTurns_of_stops (values_stops 4 (by omega) _ w.heap.size c a0 xs hx (by simp) w.heap.size (by simp) W0 ((hb.block _ hbx.lt).trans hbx) ((hS.below b1).below hb))))
  have B1 := hide b1
  generalize bs (gatR n xs) = GR at *
  generalize gatE n 1 xs = GE at *
  clear b1 hbx hS
  generalize w.alloc (.cells #[.slice a0 xs.length c] 22) = W1 at *
  go_enter Tryd.func13, Tryd.ntmps13
  go_wp2_with fail
  refine (unhide hv).mono ?_
  rintro e w1 ⟨rfl, rfl⟩
  go_wp2_with fail
  refine (unhide hg).mono ?_
  rintro e w2 ⟨rfl, b2⟩
  have B2 := hide ((unhide B1).trans (b2.mono (unhide B1).size))
  clear b2
  go_wp2
  go_ret2
  exact ⟨rfl, unhide B2⟩
end Go.Proofs.YtbodklppgcloiaaDoor

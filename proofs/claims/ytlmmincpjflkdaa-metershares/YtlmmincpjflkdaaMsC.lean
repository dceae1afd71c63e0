/- meter: the document's Weigh. -/
import Derived.Test.YtlmmincpjflkdaaMsB
namespace Go.Proofs.Ytlmmincpjflkdaa
open Go.RowKit
set_option linter.unusedVariables false
attribute [local go_sem] Oper.semAt_some

theorem alloc2_newM (w : World) (o1 o2 : Obj) : ((w.alloc o1).alloc o2).heap[w.heap.size + 1]? = some o2 := by
  have := heap_alloc_new (w.alloc o1) o2
  simpa using this
theorem bel2M (w : World) (o1 o2 : Obj) : Below w.heap.size w ((w.alloc o1).alloc o2) := ((Below.refl _ _).alloc (Nat.le_refl _) _).alloc (by simp) _
/-- the queue that Weigh puts -/
def weighD (D : List Dr) (p n : Int) : Dr := if n = 0 then ⟨p, 0, 0, [], none, 0⟩ else ⟨(findD D p).p, n, (findD D p).c, (findD D p).l, (findD D p).a, (findD D p).k⟩
theorem share2 (w : World) (Q : Int) (a0 : Option Addr) (n c : Nat) (W0 : World) (hW0 : W0 = (w.alloc (.cells #[.int .i64 Q, .slice a0 n c] 28)).alloc (.cells #[.int .i64 0, .slice none 0 0] 28)) :
    Below w.heap.size w W0 ∧ W0.heap[w.heap.size]? = some (.cells #[.int .i64 Q, .slice a0 n c] 28 (0, 0)) ∧ W0.heap[w.heap.size + 1]? = some (.cells #[.int .i64 0, .slice none 0 0] 28 (0, 0)) ∧ W0.heap.size = w.heap.size + 2 := by
  have e1 : (w.alloc (.cells #[.int .i64 Q, .slice a0 n c] 28)).heap.size = w.heap.size + 1 := by simp
  rw [hW0]
  refine ⟨((Below.refl _ _).alloc (Nat.le_refl _) _).alloc (by simp) _, ?_, ?_, by simp⟩
  · rw [Below.heap_alloc _ _ _ (by simp)]
    exact heap_alloc_new _ _
  · have := heap_alloc_new (w.alloc (.cells #[.int .i64 Q, .slice a0 n c] 28)) (.cells #[.int .i64 0, .slice none 0 0] 28)
    rwa [e1] at this
set_option maxRecDepth 100000 in
set_option maxHeartbeats 4000000 in
theorem dweigh_bad (Q p n : Int) (a0 : Option Addr) (m c : Nat) (w : World) (h : ¬ (1 ≤ p ∧ p ≤ 15 ∧ 0 ≤ n ∧ n ≤ 16)) :
    Calls Try.prog 6 #[shV Q a0 m c, .int .i64 p, .int .i64 n] w fun e w' => e = .returned (.tuple #[shV Q a0 m c, .int .i64 1]) ∧ Below w.heap.size w w' := by
  have FIN : Hid (∀ a : Act, a.tmps.getD 6 undef = .pointer (some ⟨w.heap.size + 1, 0, none⟩) → a.tmps.getD 7 undef = .int .i64 1 → a.defers = [] → bodyPost Try.prog Try.f6 (fun e w' => e = .returned (.tuple #[shV Q a0 m c, .int .i64 1]) ∧ Below w.heap.size w w') .ret a ((w.alloc (.cells #[.int .i64 Q, .slice a0 m c] 28)).alloc (.cells #[.int .i64 Q, .slice a0 m c] 28))) := fun a h1 h2 h3 =>
    ret_rowM2 (p := 6) (q := 7) (ty := 28) (by kernel_rfl) (w.heap.size + 1) 28 _ (0, 0) _ _ h1 h2 (alloc2_newM _ _ _) h3 Try.underlying28 (by kernel_rfl) ⟨rfl, bel2M _ _ _⟩
  have go : ∀ (b1 b2 b3 b4 : Bool), decide (p < 1) = b1 → decide (15 < p) = b2 → decide (n < 0) = b3 → decide (16 < n) = b4 → (b1 || b2 || b3 || b4) = true →
      Calls Try.prog 6 #[shV Q a0 m c, .int .i64 p, .int .i64 n] w fun e w' => e = .returned (.tuple #[shV Q a0 m c, .int .i64 1]) ∧ Below w.heap.size w w' := by
    intro b1 b2 b3 b4 e1 e2 e3 e4 hb
    clear h
    cases b1
    · cases b2
      · cases b3
        · cases b4
          · cases hb
          · clear hb
            go_enter Try.func6, Try.ntmps6
            go_wp2
            exact unhide FIN _ rfl rfl rfl
        · clear hb e4
          go_enter Try.func6, Try.ntmps6
          go_wp2
          exact unhide FIN _ rfl rfl rfl
      · clear hb e4 e3
        go_enter Try.func6, Try.ntmps6
        go_wp2
        exact unhide FIN _ rfl rfl rfl
    · clear hb e4 e3 e2
      go_enter Try.func6, Try.ntmps6
      go_wp2
      exact unhide FIN _ rfl rfl rfl
  exact go _ _ _ _ rfl rfl rfl rfl (by
    by_cases h1 : p < 1 <;> by_cases h2 : 15 < p <;> by_cases h3 : n < 0 <;> by_cases h4 : 16 < n <;> simp [h1, h2, h3, h4] <;> omega)
set_option maxRecDepth 100000 in
set_option maxHeartbeats 8000000 in
theorem dweigh_ok (Q p n : Int) (a0 : Option Addr) (D : List Dr) (c : Nat) (w : World) (hA : DrsAt w a0 D) (hl : D.length ≤ 1000) (h : 1 ≤ p ∧ p ≤ 15 ∧ 0 ≤ n ∧ n ≤ 16) :
    Calls Try.prog 6 #[shV Q a0 D.length c, .int .i64 p, .int .i64 n] w fun e w' => ∃ a c', e = .returned (.tuple #[shV Q a (withD D (weighD D p n)).length c', .int .i64 0]) ∧ DrsAt w' a (withD D (weighD D p n)) ∧ Below w.heap.size w w' := by
  obtain ⟨h1, h2, h3, h4⟩ := h
  have e1 : ¬ p < 1 := by omega
  have e2 : ¬ 15 < p := by omega
  have e3 : ¬ n < 0 := by omega
  have e4 : ¬ 16 < n := by omega
  have hvr := findD_ok p hA.ok
  have HWD : Hid (weighD D p n = if n = 0 then ⟨p, 0, 0, [], none, 0⟩ else ⟨(findD D p).p, n, (findD D p).c, (findD D p).l, (findD D p).a, (findD D p).k⟩) := rfl
  have HFI := hide (fun W (h : DrsAt W a0 D) => dfind_any Q p a0 D c W h (by omega))
  generalize weighD D p n = X at *
  have HWI : Hid (∀ (W : World) (v : Array Value), v = X.cl.toArray → DrsAt W a0 D → VOk W X → Calls Try.prog 17 #[shV Q a0 D.length c, .agg v] W fun e w' => ∃ a c', e = .returned (shV Q a (withD D X).length c') ∧ DrsAt w' a (withD D X) ∧ Below W.heap.size W w') := fun W v hv h hq => by
    rw [hv]
    exact dwith_any Q X a0 D c W h hq hl
  generalize withD D X = RR at *
  generalize findD D p = R at *
  obtain ⟨m, hm⟩ : ∃ m, m = D.length := ⟨_, rfl⟩
  rw [← hm] at HFI HWI ⊢
  obtain ⟨W0, hW0⟩ : ∃ W0, W0 = (w.alloc (.cells #[.int .i64 Q, .slice a0 m c] 28)).alloc (.cells #[.int .i64 0, .slice none 0 0] 28) := ⟨_, rfl⟩
  obtain ⟨b0, k0, k1, k2⟩ := share2 w Q a0 m c W0 hW0
  have HW := hide hW0
  have B0 := hide b0
  have K0 := hide k0
  have K1 := hide k1
  have HA := hide hA
  have HVR := hide hvr
  have HSZ := hide k2
  obtain ⟨⟨u0, u1⟩, -, ul⟩ := row2 k0
  obtain ⟨rp, rw, rc, rl, ra, rk⟩ := R
  unfold Dr.cl at HFI
  dsimp only at HFI HWD
  obtain ⟨z, hz⟩ : ∃ z, z = rl.length := ⟨_, rfl⟩
  rw [← hz] at HFI
  have HZ := hide hz
  clear hA hvr hm hW0 b0 k0 k1 k2 h1 h2 h3 h4 hz
  go_enter Try.func6, Try.ntmps6
  go_wp2_with fail
  rw [← unhide HW]
  clear HW
  refine (unhide HFI _ ((unhide HA).up (unhide B0))).mono ?_
  rintro e w1 ⟨rfl, b1⟩
  have K10 := hide ((b1.block _ (lt_of_block (unhide K0))).trans (unhide K0))
  have K11 := hide ((b1.block _ (lt_of_block (unhide K1))).trans (unhide K1))
  have B1 := hide ((unhide B0).trans (b1.mono (unhide B0).size))
  clear b1 u0 u1 ul K0 K1 B0 HSZ
  obtain ⟨⟨u0, u1⟩, -, ul⟩ := row2 (unhide K10)
  by_cases hn : n = 0
  · have HXE := hide ((unhide HWD).trans (if_pos hn))
    clear HWD
    subst hn
    go_wp2_with fail
    have bA : Below w1.heap.size w1 (w1.alloc (.cells #[.int .i64 p, .int .i64 0, .int .i64 0, .slice none 0 0] 45)) := (Below.refl _ _).alloc (Nat.le_refl _) _
    have K12 := hide ((bA.block _ (lt_of_block (unhide K11))).trans (unhide K11))
    have hB2 := (unhide B1).trans (bA.mono (unhide B1).size)
    have hDA := (unhide HA).up hB2
    refine (unhide HWI _ _ (by rw [unhide HXE]; rfl) hDA (by rw [unhide HXE]; exact ⟨fun i hi => by simp at hi, by simp, by simp, fun p hp => by simp at hp⟩)).mono ?_
    rintro e w3 ⟨a3, c3, rfl, hD3, b3⟩
    have K13 := hide ((b3.block _ (lt_of_block (unhide K12))).trans (unhide K12))
    have B3 := hide (hB2.trans (b3.mono hB2.size))
    have HD3 := hide hD3
    clear b3 hD3 hDA hB2 bA K12 K11 B1 HWI u0 u1 ul
    go_wp2_with (refine wpList_store_rowM rfl 28 (.tmp 6) (.tmp 35) rfl (w.heap.size + 1) #[.int .i64 Q, .slice a3 RR.length c3] rfl rfl 28 _ (unhide K13) (by kernel_rfl) rfl (by simp [Value.oneCell']) (StR w3 (w.heap.size + 1) 28 #[.int .i64 Q, .slice a3 RR.length c3]) (stR (unhide K13) _) ?_)
    intro w9 h9
    have hD9 := drs_st (unhide HD3) h9 (unhide K13) (by decide) (by decide)
    have B9 := (unhide B3).trans (h9.be.mono (by omega))
    go_wp2_with fail
    exact ret_rowM2 (p := 6) (q := 7) (ty := 28) (by kernel_rfl) (w.heap.size + 1) 28 _ (0, 0) _ _ rfl rfl h9.at_ rfl Try.underlying28 (by kernel_rfl) ⟨_, _, rfl, hD9, B9⟩
  · have HXE := hide ((unhide HWD).trans (if_neg hn))
    clear HWD
    have hn2 : (n == 0) = false := by simpa using hn
    go_wp2_with fail
    have bA : Below w1.heap.size w1 (w1.alloc (.cells #[.int .i64 rp, .int .i64 n, .int .i64 rc, .slice ra z rk] 45)) := (Below.refl _ _).alloc (Nat.le_refl _) _
    have K12 := hide ((bA.block _ (lt_of_block (unhide K11))).trans (unhide K11))
    have hB2 := (unhide B1).trans (bA.mono (unhide B1).size)
    have hDA := (unhide HA).up hB2
    refine (unhide HWI _ _ (by rw [unhide HXE, unhide HZ]; rfl) hDA (by rw [unhide HXE]; exact ⟨((unhide HVR).up hB2).ints, (unhide HVR).le, (unhide HVR).ml, ((unhide HVR).up hB2).ty⟩)).mono ?_
    rintro e w3 ⟨a3, c3, rfl, hD3, b3⟩
    have K13 := hide ((b3.block _ (lt_of_block (unhide K12))).trans (unhide K12))
    have B3 := hide (hB2.trans (b3.mono hB2.size))
    have HD3 := hide hD3
    clear b3 hD3 hDA hB2 bA K12 K11 B1 HWI u0 u1 ul
    go_wp2_with (refine wpList_store_rowM rfl 28 (.tmp 6) (.tmp 35) rfl (w.heap.size + 1) #[.int .i64 Q, .slice a3 RR.length c3] rfl rfl 28 _ (unhide K13) (by kernel_rfl) rfl (by simp [Value.oneCell']) (StR w3 (w.heap.size + 1) 28 #[.int .i64 Q, .slice a3 RR.length c3]) (stR (unhide K13) _) ?_)
    intro w9 h9
    have hD9 := drs_st (unhide HD3) h9 (unhide K13) (by decide) (by decide)
    have B9 := (unhide B3).trans (h9.be.mono (by omega))
    go_wp2_with fail
    exact ret_rowM2 (p := 6) (q := 7) (ty := 28) (by kernel_rfl) (w.heap.size + 1) 28 _ (0, 0) _ _ rfl rfl h9.at_ rfl Try.underlying28 (by kernel_rfl) ⟨_, _, rfl, hD9, B9⟩
end Go.Proofs.Ytlmmincpjflkdaa

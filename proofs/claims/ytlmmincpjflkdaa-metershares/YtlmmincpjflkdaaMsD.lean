/- meter: the document's Add. -/
import Derived.Test.YtlmmincpjflkdaaMsC
namespace Go.Proofs.Ytlmmincpjflkdaa
open Go.RowKit
set_option linter.unusedVariables false
attribute [local go_sem] Oper.semAt_some

theorem Try.infoIm : (Try.prog.info? 3).map (fun i => (i.zero, i.size, i.bytes)) = some (some (.int .i64 0), 1, 8) := by kernel_rfl
theorem Try.undIm : Try.prog.underlying 43 = some (.slice 3) := by kernel_rfl
theorem ic_appM (l m : List Int) : ic (l ++ m) = ic l ++ ic m := by simp [ic]
theorem ints_geM {w : World} {base : Nat} {v : Value} {l : List Int} (h : OwnI w base v l) {z : Nat} (hz : v.ownBlock = some z) : base ≤ z := by
  rcases (show World.ownsRow _ _ _ _ _ _ _ from h).2 with ⟨rfl, h0⟩ | ⟨g, cap, cur, rfl, hb, _⟩
  · simp [Value.ownBlock] at hz
  · simp [Value.ownBlock] at hz
    omega
theorem ownI_upM {w w' : World} {B : Nat} {v : Value} {l : List Int} (h : OwnI w B v l) (hb : Below w.heap.size w w') : OwnI w' B v l := World.ownsRow.kept (show World.ownsRow _ _ _ _ _ _ _ from h) ⟨hb.os, hb.tape, hb.output, hb.size, fun i hi _ => hb.block i hi⟩ (row := none) (Classical.em _)
/-- a row of the call's own as a queue's sizes -/
theorem OwnI.vok {w : World} {B m cap : Nat} {a : Option Addr} {l : List Int} (h : OwnI w B (.slice a m cap) l) (hm : l.length = m) (p wt c : Int) : VOk w ⟨p, wt, c, l, a, cap⟩ := by
  obtain ⟨a0, c0, e, hi, h1, h2⟩ := h.ints
  rw [Value.slice.injEq] at e
  obtain ⟨rfl, _, rfl⟩ := e
  refine ⟨hi, h1, h2, fun p hp => ?_⟩
  rcases (show World.ownsRow _ _ _ _ _ _ _ from h).2 with ⟨h3, _⟩ | ⟨g, cap, cur, h3, hb, hg, _⟩
  · simp at h3
    dsimp only at hp
    rw [h3.1] at hp
    cases hp
  · simp at h3
    dsimp only at hp
    rw [h3.1] at hp
    cases hp
    exact ⟨_, _, hg⟩
set_option maxRecDepth 100000 in
set_option maxHeartbeats 4000000 in
theorem dadd_bad (Q p n : Int) (a0 : Option Addr) (m c : Nat) (w : World) (h : ¬ (1 ≤ p ∧ p ≤ 15 ∧ 1 ≤ n ∧ n ≤ 65536)) :
    Calls Try.prog 8 #[shV Q a0 m c, .int .i64 p, .int .i64 n] w fun e w' => e = .returned (.tuple #[shV Q a0 m c, .int .i64 1]) ∧ Below w.heap.size w w' := by
  have FIN : Hid (∀ a : Act, a.tmps.getD 6 undef = .pointer (some ⟨w.heap.size + 1, 0, none⟩) → a.tmps.getD 7 undef = .int .i64 1 → a.defers = [] → bodyPost Try.prog Try.f8 (fun e w' => e = .returned (.tuple #[shV Q a0 m c, .int .i64 1]) ∧ Below w.heap.size w w') .ret a ((w.alloc (.cells #[.int .i64 Q, .slice a0 m c] 28)).alloc (.cells #[.int .i64 Q, .slice a0 m c] 28))) := fun a h1 h2 h3 =>
    ret_rowM2 (p := 6) (q := 7) (ty := 28) (by kernel_rfl) (w.heap.size + 1) 28 _ (0, 0) _ _ h1 h2 (alloc2_newM _ _ _) h3 Try.underlying28 (by kernel_rfl) ⟨rfl, bel2M _ _ _⟩
  have go : ∀ (b1 b2 b3 b4 : Bool), decide (p < 1) = b1 → decide (15 < p) = b2 → decide (n < 1) = b3 → decide (65536 < n) = b4 → (b1 || b2 || b3 || b4) = true →
      Calls Try.prog 8 #[shV Q a0 m c, .int .i64 p, .int .i64 n] w fun e w' => e = .returned (.tuple #[shV Q a0 m c, .int .i64 1]) ∧ Below w.heap.size w w' := by
    intro b1 b2 b3 b4 e1 e2 e3 e4 hb
    clear h
    cases b1
    · cases b2
      · cases b3
        · cases b4
          · cases hb
          · clear hb
            go_enter Try.func8, Try.ntmps8
            go_wp2
            exact unhide FIN _ rfl rfl rfl
        · clear hb e4
          go_enter Try.func8, Try.ntmps8
          go_wp2
          exact unhide FIN _ rfl rfl rfl
      · clear hb e4 e3
        go_enter Try.func8, Try.ntmps8
        go_wp2
        exact unhide FIN _ rfl rfl rfl
    · clear hb e4 e3 e2
      go_enter Try.func8, Try.ntmps8
      go_wp2
      exact unhide FIN _ rfl rfl rfl
  exact go _ _ _ _ rfl rfl rfl rfl (by
    by_cases h1 : p < 1 <;> by_cases h2 : 15 < p <;> by_cases h3 : n < 1 <;> by_cases h4 : 65536 < n <;> simp [h1, h2, h3, h4] <;> omega)
set_option maxRecDepth 100000 in
set_option maxHeartbeats 8000000 in
theorem dadd_no (Q p n : Int) (a0 : Option Addr) (D : List Dr) (c : Nat) (w : World) (hA : DrsAt w a0 D) (hl : D.length ≤ 1000) (h : 1 ≤ p ∧ p ≤ 15 ∧ 1 ≤ n ∧ n ≤ 65536) (hn : (findD D p).w = 0 ∨ 100 ≤ (findD D p).l.length) :
    Calls Try.prog 8 #[shV Q a0 D.length c, .int .i64 p, .int .i64 n] w fun e w' => e = .returned (.tuple #[shV Q a0 D.length c, .int .i64 (if (findD D p).w = 0 then 4 else 6)]) ∧ Below w.heap.size w w' := by
  obtain ⟨h1, h2, h3, h4⟩ := h
  have e1 : ¬ p < 1 := by omega
  have e2 : ¬ 15 < p := by omega
  have e3 : ¬ n < 1 := by omega
  have e4 : ¬ 65536 < n := by omega
  have hvr := findD_ok p hA.ok
  have HFI := hide (fun W (h : DrsAt W a0 D) => dfind_any Q p a0 D c W h (by omega))
  generalize findD D p = R at *
  obtain ⟨m, hm⟩ : ∃ m, m = D.length := ⟨_, rfl⟩
  rw [← hm] at HFI ⊢
  obtain ⟨W0, hW0⟩ : ∃ W0, W0 = (w.alloc (.cells #[.int .i64 Q, .slice a0 m c] 28)).alloc (.cells #[.int .i64 0, .slice none 0 0] 28) := ⟨_, rfl⟩
  obtain ⟨b0, k0, k1, k2⟩ := share2 w Q a0 m c W0 hW0
  have HW := hide hW0
  have B0 := hide b0
  have K0 := hide k0
  have K1 := hide k1
  have HA := hide hA
  have hml := hvr.ml
  have hle := hvr.le
  unfold maxLen at hml
  obtain ⟨⟨u0, u1⟩, -, ul⟩ := row2 k0
  obtain ⟨rp, rw, rc, rl, ra, rk⟩ := R
  unfold Dr.cl at HFI
  dsimp only at HFI hn hml hle ⊢
  generalize rl.length = z at *
  clear hA hvr hm hW0 b0 k0 k1 k2 h1 h2 h3 h4
  obtain ⟨E, hE⟩ : ∃ E : Int, E = if rw = 0 then 4 else 6 := ⟨_, rfl⟩
  rw [← hE]
  have HE := hide hE
  clear hE
  go_enter Try.func8, Try.ntmps8
  go_wp2_with fail
  rw [← unhide HW]
  clear HW
  refine (unhide HFI _ ((unhide HA).up (unhide B0))).mono ?_
  rintro e w1 ⟨rfl, b1⟩
  have K10 := hide ((b1.block _ (lt_of_block (unhide K0))).trans (unhide K0))
  have K11 := hide ((b1.block _ (lt_of_block (unhide K1))).trans (unhide K1))
  have B1 := hide ((unhide B0).trans (b1.mono (unhide B0).size))
  clear b1 u0 u1 ul K0 K1 B0
  have bA : Below w1.heap.size w1 (w1.alloc (.cells #[.int .i64 rp, .int .i64 rw, .int .i64 rc, .slice ra z rk] 45)) := (Below.refl _ _).alloc (Nat.le_refl _) _
  have K12 := hide ((bA.block _ (lt_of_block (unhide K11))).trans (unhide K11))
  have B2 := hide ((unhide B1).trans (bA.mono (unhide B1).size))
  obtain ⟨⟨u0, u1⟩, -, ul⟩ := row2 (unhide K10)
  clear bA K11 B1
  by_cases hw0 : rw = 0
  · have HE2 : Hid (E = 4) := (unhide HE).trans (if_pos hw0)
    clear HE hn
    subst hw0
    go_wp2_with (refine wpList_store_rowM rfl 28 (.tmp 6) (.tmp 32) rfl (w.heap.size + 1) #[.int .i64 Q, .slice a0 m c] rfl rfl 28 _ (unhide K12) (by kernel_rfl) rfl (by simp [Value.oneCell']) (StR (w1.alloc (.cells #[.int .i64 rp, .int .i64 0, .int .i64 rc, .slice ra z rk] 45)) (w.heap.size + 1) 28 #[.int .i64 Q, .slice a0 m c]) (stR (unhide K12) _) ?_)
    intro w9 h9
    have B9 := (unhide B2).trans (h9.be.mono (by omega))
    go_wp2_with fail
    exact ret_rowM2 (p := 6) (q := 7) (ty := 28) (by kernel_rfl) (w.heap.size + 1) 28 _ (0, 0) _ _ rfl rfl h9.at_ rfl Try.underlying28 (by kernel_rfl) ⟨by rw [unhide HE2]; rfl, B9⟩
  · have hz : 100 ≤ z := by omega
    have HE2 : Hid (E = 6) := (unhide HE).trans (if_neg hw0)
    have hw2 : (rw == 0) = false := by simpa using hw0
    clear HE hn
    go_wp2_with (refine wpList_store_rowM rfl 28 (.tmp 6) (.tmp 37) rfl (w.heap.size + 1) #[.int .i64 Q, .slice a0 m c] rfl rfl 28 _ (unhide K12) (by kernel_rfl) rfl (by simp [Value.oneCell']) (StR (w1.alloc (.cells #[.int .i64 rp, .int .i64 rw, .int .i64 rc, .slice ra z rk] 45)) (w.heap.size + 1) 28 #[.int .i64 Q, .slice a0 m c]) (stR (unhide K12) _) ?_)
    intro w9 h9
    have B9 := (unhide B2).trans (h9.be.mono (by omega))
    go_wp2_with fail
    exact ret_rowM2 (p := 6) (q := 7) (ty := 28) (by kernel_rfl) (w.heap.size + 1) 28 _ (0, 0) _ _ rfl rfl h9.at_ rfl Try.underlying28 (by kernel_rfl) ⟨by rw [unhide HE2]; rfl, B9⟩
end Go.Proofs.Ytlmmincpjflkdaa

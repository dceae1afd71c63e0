/- Rows of texts of a call's own. -/
import Derived.Test.YtkcnihngkmaecaaGreatTxt
namespace Go.Proofs.YtkcnihngkmaecaaGreat
open Go.RowKit
set_option linter.unusedVariables false

theorem Tryz.infoS : (Tryz.prog.info? 9).map (fun i => (i.zero, i.size, i.bytes)) = some (some (.string ⟨#[]⟩), 1, 16) := by kernel_rfl
theorem Tryz.undS : Tryz.prog.underlying 41 = some (.slice 9) := by kernel_rfl
/-- texts of the call's own -/
def OwnS (w : World) (base : Nat) (v : Value) (T : List By) : Prop := w.ownsRow base 9 1 v T.length (sc T)
theorem OwnS.txts {w : World} {base : Nat} {v : Value} {T : List By} (h : OwnS w base v T) : ∃ a0 c, v = .slice a0 T.length c ∧ Txts w a0 T ∧ T.length ≤ c ∧ c ≤ maxLen := by
  rcases (show World.ownsRow _ _ _ _ _ _ _ from h).2 with ⟨rfl, h0⟩ | ⟨g, cap, cur, rfl, _, hg, hnc, hcm, hcs, htake⟩
  · exact ⟨none, 0, by rw [h0], fun i hi => absurd hi (by omega), by omega, by unfold maxLen; omega⟩
  · refine ⟨some ⟨g, 0, none⟩, cap, rfl, fun i hi => ⟨g, 0, rfl, ?_⟩, hnc, hcm⟩
    rw [Nat.zero_add]
    exact (World.ownsRow.cellAt (h : World.ownsRow _ _ _ _ _ _ _) i (by omega)).trans (sc_get T i hi)
theorem OwnS.more {w' : World} {base : Nat} {v' : Value} {T : List By} {t : By} (h : w'.ownsRow base 9 1 v' (T.length + 1) (sc T ++ [.string (bs t)])) : OwnS w' base v' (T ++ [t]) := by
  show World.ownsRow _ _ _ _ _ _ _
  rw [sc_append, List.length_append]
  exact h
theorem OwnS.mono {w : World} {base base' : Nat} {v : Value} {T : List By} (h : OwnS w base v T) (hb : base' ≤ base) : OwnS w base' v T := own_mono h hb

set_option maxRecDepth 100000 in
set_option maxHeartbeats 1000000 in
theorem msame_any (w : World) (T : List By) (a0 b0 : Option Addr) (c d : Nat) (hk : T.length ≤ 100000) (hA : Txts w a0 T) (hB : Txts w b0 T) :
    Calls Tryz.prog 21 #[.slice a0 T.length c, .slice b0 T.length d] w fun e w' => e = .returned (.bool true) ∧ Below w.heap.size w w' := by
  have HA := hide hA
  have HB := hide hB
  clear hA hB
  generalize hk' : T.length = k at *
  have HK := hide hk'
  clear hk'
  go_enter Tryz.func21, Tryz.ntmps21
  go_wp2_with fail
  go_loopw [5] (fun v wr => ∃ i q : Nat, i ≤ k ∧ v = .int .i64 i ∧ w.drewN q = wr) (fun v _ => k - (intOf v).toNat)
  case atStart => exact ⟨0, 0, Nat.zero_le _, rfl, rfl⟩
  case round =>
    obtain ⟨i, q, hi, rfl, rfl⟩ := hrel
    by_cases hlt : i < k
    · have hlt' : i < T.length := by rw [unhide HK]; exact hlt
      obtain ⟨g, o, rfl, c1⟩ := unhide HA i hlt'
      obtain ⟨g', o', rfl, c2⟩ := unhide HB i hlt'
      generalize bs T[i] = B at *
      clear hlt'
      have q1 : (i : Int) < k := by omega
      go_wp2
      go_quiet (fail)
      go_wp2
      go_roundw
      case rel => exact ⟨i + 1, q + nq, by omega, by go_num, rfl⟩
      case measure => simp [intOf]; omega
    · have q1 : ¬ (i : Int) < k := by omega
      go_wp2
      go_ret
      exact ⟨rfl, below_drawnB (Below.refl _ _) _⟩

end Go.Proofs.YtkcnihngkmaecaaGreat

/- store: the document's Same of entries. -/
import Derived.Test.YtgomnmhjkjahlaaStM
namespace Go.Proofs.Ytgomnmhjkjahlaa
open Go.RowKit
set_option linter.unusedVariables false
attribute [local go_sem] Oper.semAt_some

theorem core_id' {a b : List Raw} (h : a.map Raw.core = b.map Raw.core) (i : Nat) (ha : i < a.length) (hb : i < b.length) : a[i].core = b[i].core := by
  have h1 : (a.map Raw.core)[i]? = (b.map Raw.core)[i]? := by rw [h]
  simpa [ha, hb] using h1
theorem core_eq {x y : Raw} (h : y.core = x.core) : y.id = x.id ∧ y.peer = x.peer ∧ y.mode = x.mode ∧ y.seed = x.seed ∧ y.hv = x.hv ∧ y.idx = x.idx ∧ y.dt = x.dt :=
  ⟨(show y.core.id = x.core.id from congrArg _ h), (show y.core.peer = x.core.peer from congrArg _ h), (show y.core.mode = x.core.mode from congrArg _ h), (show y.core.seed = x.core.seed from congrArg _ h), (show y.core.hv = x.core.hv from congrArg _ h), (show y.core.idx = x.core.idx from congrArg _ h), (show y.core.dt = x.core.dt from congrArg _ h)⟩
set_option maxRecDepth 100000 in
set_option maxHeartbeats 4000000 in
theorem same14_any (rs rs' : List Raw) (hc : rs'.map Raw.core = rs.map Raw.core) (A B : Option Addr) (c d L : Nat) (hL : rs.length = L) (hl : L ≤ 1000) (w : World) (hA : EntsA w A rs) (hB : EntsA w B rs') (hIA : ∀ r ∈ rs, Ints w r.a0 r.idx ∧ r.idx.length ≤ 100000) (hIB : ∀ r ∈ rs', Ints w r.a0 r.idx) :
    Calls Try.prog 21 #[.slice A L c, .slice B L d] w fun e w' => e = .returned (.bool true) ∧ Below w.heap.size w w' := by
  have hL' : rs'.length = L := (core_len hc).trans hL
  have HA := hide hA
  have HBB := hide hB
  have HC := hide hc
  have HL := hide hL
  have HL' := hide hL'
  have HIA := hide hIA
  have HIB := hide hIB
  clear hA hB hc hL hL' hIA hIB
  go_enter Try.func21, Try.ntmps21
  go_wp2_with fail
  go_loopw [5] (fun v wr => ∃ k : Nat, k ≤ L ∧ v = .int .i64 k ∧ Below w.heap.size w wr) (fun v _ => L - (intOf v).toNat)
  case atStart => exact ⟨0, Nat.zero_le _, rfl, Below.refl _ _⟩
  case round =>
    obtain ⟨k, hk, rfl, hB⟩ := hrel
    have HB := hide hB
    clear hB
    by_cases hlt : k < L
    · have h1 : k < rs.length := by rw [unhide HL]; exact hlt
      have h2 : k < rs'.length := by rw [unhide HL']; exact hlt
      obtain ⟨g, o, rfl, hE⟩ := (unhide HA).below (unhide HB) k h1
      obtain ⟨g', o', rfl, hE'⟩ := (unhide HBB).below (unhide HB) k h2
      have hco := core_eq (core_id' (unhide HC) k h2 h1)
      have hi1 := unhide HIA _ (List.getElem_mem h1)
      have hi2 := unhide HIB _ (List.getElem_mem h2)
      generalize rs[k] = x at *
      generalize rs'[k] = y at *
      obtain ⟨e0, e1, e2, e3, e4, e5, e6⟩ := hco
      have hsm : Hid (∀ X, Below wr.heap.size wr X → Calls Try.prog 17 #[.slice x.a0 x.idx.length x.cap, .slice y.a0 x.idx.length y.cap] X fun e w' => e = .returned (.bool true) ∧ Below X.heap.size X w') := fun X hX => isame_any X x.idx x.a0 y.a0 x.cap y.cap hi1.2 ((hi1.1.below (unhide HB)).below hX) (by rw [← e5]; exact (hi2.below (unhide HB)).below hX)
      unfold EntAt at hE'
      rw [e0, e1, e2, e3, e4, e5, e6] at hE'
      have HE := hide hE
      have HE' := hide hE'
      clear hE hE' e0 e1 e2 e3 e4 e5 e6 hi1 hi2 h1 h2
      have q1 : (k : Int) < L := by omega
      go_wp2_with fail
      have hne := gb_ne wr
      have a0 : ∀ z : Gb wr, z.w.cell? ⟨g, o + k * 7, none⟩ = some (.int .i64 x.id) := fun z => gb_cell (unhide HE).1 z
      have a1 : ∀ z : Gb wr, z.w.cell? ⟨g, o + k * 7 + 1, none⟩ = some (.int .i64 x.peer) := fun z => gb_cell (unhide HE).2.1 z
      have a2 : ∀ z : Gb wr, z.w.cell? ⟨g, o + k * 7 + 2, none⟩ = some (.int .i64 x.mode) := fun z => gb_cell (unhide HE).2.2.1 z
      have a3 : ∀ z : Gb wr, z.w.cell? ⟨g, o + k * 7 + 3, none⟩ = some (.int .i64 x.seed) := fun z => gb_cell (unhide HE).2.2.2.1 z
      have a4 : ∀ z : Gb wr, z.w.cell? ⟨g, o + k * 7 + 4, none⟩ = some (.string x.hv) := fun z => gb_cell (unhide HE).2.2.2.2.1 z
      have a5 : ∀ z : Gb wr, z.w.cell? ⟨g, o + k * 7 + 5, none⟩ = some (.slice x.a0 x.idx.length x.cap) := fun z => gb_cell (unhide HE).2.2.2.2.2.1 z
      have a6 : ∀ z : Gb wr, z.w.cell? ⟨g, o + k * 7 + 6, none⟩ = some (.string x.dt) := fun z => gb_cell (unhide HE).2.2.2.2.2.2 z
      have b0 : ∀ z : Gb wr, z.w.cell? ⟨g', o' + k * 7, none⟩ = some (.int .i64 x.id) := fun z => gb_cell (unhide HE').1 z
      have b1 : ∀ z : Gb wr, z.w.cell? ⟨g', o' + k * 7 + 1, none⟩ = some (.int .i64 x.peer) := fun z => gb_cell (unhide HE').2.1 z
      have b2 : ∀ z : Gb wr, z.w.cell? ⟨g', o' + k * 7 + 2, none⟩ = some (.int .i64 x.mode) := fun z => gb_cell (unhide HE').2.2.1 z
      have b3 : ∀ z : Gb wr, z.w.cell? ⟨g', o' + k * 7 + 3, none⟩ = some (.int .i64 x.seed) := fun z => gb_cell (unhide HE').2.2.2.1 z
      have b4 : ∀ z : Gb wr, z.w.cell? ⟨g', o' + k * 7 + 4, none⟩ = some (.string x.hv) := fun z => gb_cell (unhide HE').2.2.2.2.1 z
      have b5 : ∀ z : Gb wr, z.w.cell? ⟨g', o' + k * 7 + 5, none⟩ = some (.slice y.a0 x.idx.length y.cap) := fun z => gb_cell (unhide HE').2.2.2.2.2.1 z
      have b6 : ∀ z : Gb wr, z.w.cell? ⟨g', o' + k * 7 + 6, none⟩ = some (.string x.dt) := fun z => gb_cell (unhide HE').2.2.2.2.2.2 z
      refine wp_region_gr (fun x => Below wr.heap.size wr x) (by kernel_rfl) (by kernel_rfl) (gb_start wr) ?_
      repeat (go_big_quiet_step ((go_at_call 17; exact gb_call (unhide hsm _ (Gr.ok _)))))
      refine wpQuiet_nil ?_
      rintro w7 ⟨⟨_, b7⟩, rfl⟩
      have HB7 := hide ((unhide HB).trans (b7.mono (unhide HB).size))
      clear b7 hne a0 a1 a2 a3 a4 a5 a6 b0 b1 b2 b3 b4 b5 b6
      go_wp2
      go_roundw
      case rel => exact ⟨k + 1, by omega, by go_num, unhide HB7⟩
      case measure => simp [intOf]; omega
    · have q1 : ¬ (k : Int) < L := by omega
      go_wp2
      go_ret
      exact ⟨rfl, unhide HB⟩
end Go.Proofs.Ytgomnmhjkjahlaa

/- peel's marks: marked, last. -/
import Derived.Test.YtfihpmhobjjaaaaPeH
import Derived.Test.YtfihpmhobjjaaaaPeM
namespace Go.Proofs.Ytfihpmhobjjaaaa
open Go.RowKit
set_option linter.unusedVariables false
attribute [local go_sem] Oper.semAt_some

/-- marks as cells -/
def mc (S : Nat → Bool) : List Value := (List.range 160).map fun i => Value.bool (S i)
theorem mc_length (S : Nat → Bool) : (mc S).length = 160 := by simp [mc]
theorem mc_get (S : Nat → Bool) (i : Nat) (h : i < 160) : (mc S)[i]? = some (Value.bool (S i)) := by simp [mc, h]
theorem mc_one (S : Nat → Bool) : ∀ u ∈ mc S, u.oneCell' = true := by
  intro u hu
  simp only [mc, List.mem_map] at hu
  obtain ⟨i, _, rfl⟩ := hu
  rfl
theorem mc_set (S : Nat → Bool) (i : Nat) : (mc S).set i (.bool true) = mc (mkS S i) := by
  apply List.ext_getElem?
  intro j
  by_cases hj : j < 160
  · rw [mc_get _ _ hj]
    by_cases e : i = j
    · subst e; simp [mc_length, hj, mkS]
    · rw [List.getElem?_set_ne e, mc_get _ _ hj]
      simp [mkS, show ¬ j = i from fun h => e h.symm]
  · rw [List.getElem?_eq_none (by rw [List.length_set, mc_length]; omega), List.getElem?_eq_none (by rw [mc_length]; omega)]
/-- marks in a block -/
def MkAt (w : World) (g : Nat) (S : Nat → Bool) : Prop := w.heap[g]? = some (.cells (mc S).toArray 47 (0, 0))
theorem MkAt.lt {w : World} {g : Nat} {S : Nat → Bool} (h : MkAt w g S) : g < w.heap.size := lt_of_block h
theorem MkAt.cell {w : World} {g : Nat} {S : Nat → Bool} (h : MkAt w g S) (i : Nat) (hi : i < 160) : w.cell? ⟨g, i, none⟩ = some (.bool (S i)) := by
  rw [cell_of_row _ _ i _ _ _ h]
  simp only [List.getElem?_toArray]
  exact mc_get S i hi
theorem MkAt.free {w : World} {g : Nat} {S : Nat → Bool} (h : MkAt w g S) (i : Nat) : w.frozen? ⟨g, i, none⟩ = false := frozen_of_row w g i _ _ h
theorem MkAt.set {w : World} {g : Nat} {S : Nat → Bool} (h : MkAt w g S) (i : Nat) : MkAt (w.setCell ⟨g, i, none⟩ (.bool true)) g (mkS S i) := by
  unfold MkAt at *
  rw [heap_setCell_same _ _ _ _ _ _ h, ← mc_set]
  simp
theorem MkAt.below {w w' : World} {g : Nat} {S : Nat → Bool} {B : Nat} (h : MkAt w g S) (hb : Below B w w') (hg : g < B) : MkAt w' g S := (hb.block g hg).trans h
theorem MkAt.kept {w w' : World} {g : Nat} {S : Nat → Bool} (h : MkAt w g S) (hb : Below w.heap.size w w') : MkAt w' g S := h.below hb h.lt
theorem MkAt.ext {w : World} {g : Nat} {S S' : Nat → Bool} (h : MkAt w g S) (e : ∀ i, S i = S' i) : MkAt w g S' := by
  have : S = S' := funext e
  rwa [← this]
theorem inS_snoc (l : List Nat) (i : Nat) : mkS (inS l) i = inS (l ++ [i]) := by
  funext j
  simp [mkS, inS]
  by_cases e : j = i <;> simp [e]
set_option maxRecDepth 100000 in
set_option maxHeartbeats 1000000 in
theorem marked_any (ns : List Nat) (a0 : Option Addr) (c : Nat) (hn : ∀ x ∈ ns, x < 160) (hk : ns.length ≤ maxLen) (w : World) (hI : Ints w a0 (zs ns)) :
    Calls Try.prog 26 #[.slice a0 ns.length c] w fun e w' => e = .returned (.agg (mc (inS ns)).toArray) ∧ Below w.heap.size w w' := by
  unfold maxLen at hk
  have HI := hide hI
  have HN := hide hn
  generalize hL : ns.length = n at *
  have HL := hide hL
  clear hI hn hL
  go_enter Try.func26, Try.ntmps26
  go_wp2_with fail
  go_loopw [8] (fun v wr => ∃ k : Nat, k ≤ n ∧ v = .int .i64 k ∧ MkAt wr (w.heap.size + 1) (inS (ns.take k)) ∧ MkAt wr w.heap.size (inS []) ∧ Below w.heap.size w wr) (fun v _ => n - (intOf v).toNat)
  case atStart =>
    exact ⟨0, by omega, rfl, heap_alloc2_new _ _ _, heap_alloc2_old _ _ _, ((Below.refl _ _).alloc (Nat.le_refl _) _).alloc (by simp) _⟩
  case round =>
    obtain ⟨k, hk, rfl, h1, h3, hb⟩ := hrel
    by_cases hlt : k < n
    · have hlt' : k < ns.length := by rw [unhide HL]; exact hlt
      obtain ⟨g, o, rfl, c0⟩ := unhide HI k (by rw [zs_length]; exact hlt')
      rw [zs_get ns k hlt'] at c0
      have ci := cell_below c0 hb
      have hi := unhide HN ns[k] (List.getElem_mem hlt')
      have HT : Hid (inS (ns.take (k + 1)) = mkS (inS (ns.take k)) ns[k]) := by
        show _ = _
        rw [List.take_succ_eq_append_getElem hlt', inS_snoc]
      have d1 := h1.cell ns[k] hi
      have f1 := h1.free ns[k]
      have H1 := hide (h1.set ns[k])
      have H3 : Hid (MkAt (wr.setCell ⟨w.heap.size + 1, ns[k], none⟩ (.bool true)) w.heap.size (inS [])) := by
        show _ = _
        rw [Below.heap_setCell _ _ _ _ (by simp)]
        exact h3
      rw [← unhide HT] at H1
      have HB2 := hide (hb.setCell (p := ⟨w.heap.size + 1, ns[k], none⟩) (Nat.le_succ _) (.bool true))
      generalize ns[k] = i at *
      have q1 : (k : Int) < n := by omega
      have q2 : (i : Int) < 160 := by omega
      clear c0 HI HN HL hb h1 h3 HT
      go_wp2
      go_roundw
      case rel => exact ⟨k + 1, by omega, by go_num, unhide H1, unhide H3, unhide HB2⟩
      case measure => simp [intOf]; omega
    · have hkn : k = n := by omega
      subst hkn
      rw [← unhide HL, List.take_length] at h1
      have q1 : ¬ (k : Int) < k := by omega
      have HB := hide hb
      have hth : wr.there w.heap.size 0 160 := fun j hj => by
        rw [Nat.zero_add, h3.cell j hj]
        exact ⟨rfl, h3.free j⟩
      clear h3 hb HI HN
      unfold MkAt at h1
      have hS1 : (mc (inS ns)).toArray.size = 160 := by rw [List.size_toArray, mc_length]
      have hS2 : (mc (inS ns)).toArray.all (·.oneCell') = true := all_oneCell_toArray (mc_one _)
      generalize hSe : (mc (inS ns)).toArray = S at *
      have HSE := hide hSe
      clear hSe
      have hi2 : Hid ((Try.prog.info? 47).map (·.size) = some S.size) := by show _ = _; rw [hS1]; kernel_rfl
      have ht3 : Hid (wr.there w.heap.size 0 S.size) := by show World.there _ _ _ _; rw [hS1]; exact hth
      have HS1 := hide hS1
      clear hS1
      go_wp2_with (first | (refine wpList_load_row rfl 47 (.tmp 3) rfl (w.heap.size + 1) rfl 47 S (0, 0) _ h1 Try.underlying47 rfl (unhide hi2) ?_) | (refine wpList_store_mid rfl 47 (.tmp 2) (.tmp 15) rfl w.heap.size 0 S rfl rfl (unhide ht3) (unhide hi2) hS2 ?_))
      refine bodyPost_ret (v := .agg S) ?_ rfl ⟨by rw [unhide HSE], below_setCells2 (by omega) _ _ _ (unhide HB)⟩
      refine results_cell_mid (P := Try.prog) (fn := Try.f26) (p := 2) (ty := 47) (by kernel_rfl) _ (wr.setCells w.heap.size 0 S.toList) w.heap.size 0 S.toList _ (by rfl) (World.rangeAt_setCells_same _ _ _ _ (by rw [Array.length_toList]; exact unhide ht3)) Try.underlying47 rfl (by rw [Array.length_toList]; exact unhide hi2)
end Go.Proofs.Ytfihpmhobjjaaaa

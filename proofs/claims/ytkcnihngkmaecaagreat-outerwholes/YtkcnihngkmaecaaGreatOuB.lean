/- Contract of outer's members. -/
import Derived.Test.YtkcnihngkmaecaaGreatOuJ
namespace Go.Proofs.YtkcnihngkmaecaaGreat
open Go.RowKit
set_option linter.unusedVariables false
attribute [local go_sem] Oper.semAt_some

/-! what is picked -/
theorem base_nodup (sd a q i : Nat) : ((pkS (jseed sd i) a 0 (min q a)).2.take (min q a)).Nodup ∧ ∀ x ∈ (pkS (jseed sd i) a 0 (min q a)).2.take (min q a), x < a := by
  obtain ⟨h1, h2⟩ := pkS_inj (jseed sd i) a 0 (min q a) (by omega)
  have hl := pkS_length (jseed sd i) a 0 (min q a)
  generalize (pkS (jseed sd i) a 0 (min q a)).2 = L at *
  have hg : ∀ k (h : k < L.length), L.getD k 0 = L[k] := fun k h => by simp [List.getD, h]
  have hN : L.Nodup := by
    unfold List.Nodup
    rw [List.pairwise_iff_getElem]
    intro x y hx hy hxy e
    have := h1 x y (by omega) (by omega) (by rw [hg x hx, hg y hy]; exact e)
    omega
  refine ⟨hN.sublist (List.take_sublist _ _), fun x hx => ?_⟩
  obtain ⟨k, hk, rfl⟩ := List.getElem_of_mem (List.mem_of_mem_take hx)
  have := h2 k (by omega)
  rwa [hg k hk] at this
theorem joI_perm (sd a q i : Nat) : (joI sd a q i).Perm (((pkS (jseed sd i) a 0 (min q a)).2.take (min q a)).map fun (z : Nat) => (z : Int)) := List.mergeSort_perm _ _
theorem joI_nodup (sd a q i : Nat) : (joI sd a q i).Nodup := by
  rw [(joI_perm sd a q i).nodup_iff]
  exact List.Pairwise.map _ (fun x y h e => h (by omega)) (base_nodup sd a q i).1
theorem joI_lt (sd a q i : Nat) (x : Int) (hx : x ∈ joI sd a q i) : ∃ j : Nat, x = j ∧ j < a := by
  have h := (joI_perm sd a q i).mem_iff.1 hx
  obtain ⟨z, hz, rfl⟩ := List.mem_map.1 h
  exact ⟨z, rfl, (base_nodup sd a q i).2 z hz⟩
/-- who joins the auxiliary block j, of the first k -/
def memL (sd a q j k : Nat) : List Nat := (List.range k).filter fun i => decide ((j : Int) ∈ joI sd a q i)
theorem memL_succ (sd a q j k : Nat) : memL sd a q j (k + 1) = memL sd a q j k ++ (if (j : Int) ∈ joI sd a q k then [k] else []) := by
  unfold memL
  rw [List.range_succ, List.filter_append]
  congr 1
  by_cases h : (j : Int) ∈ joI sd a q k
  · rw [if_pos h]; simp [h]
  · rw [if_neg h]; simp [h]
theorem memL_len (sd a q j k : Nat) : (memL sd a q j k).length ≤ k := by
  unfold memL
  have := List.length_filter_le (fun i => decide ((j : Int) ∈ joI sd a q i)) (List.range k)
  simpa using this
/-- the rows while the numbers of one block are gone through -/
def memT (sd a q i t : Nat) : Nat → List Nat := fun j => memL sd a q j i ++ (if (j : Int) ∈ (joI sd a q i).take t then [i] else [])
theorem memT_zero (sd a q i : Nat) : memT sd a q i 0 = fun j => memL sd a q j i := by funext j; simp [memT]
theorem memT_end (sd a q i t : Nat) (h : (joI sd a q i).length ≤ t) : memT sd a q i t = fun j => memL sd a q j (i + 1) := by
  funext j
  unfold memT
  rw [List.take_of_length_le h, memL_succ]
theorem memT_succ (sd a q i t j : Nat) (ht : t < (joI sd a q i).length) (hj : (joI sd a q i)[t] = (j : Int)) : memT sd a q i (t + 1) = updN (memT sd a q i t) j (memT sd a q i t j ++ [i]) := by
  have hnd := joI_nodup sd a q i
  funext k
  by_cases e : k = j
  · subst e
    rw [updN_same]
    unfold memT
    rw [List.take_succ_eq_append_getElem ht, if_pos (by rw [hj]; simp), if_neg, List.append_nil]
    intro hm
    obtain ⟨s, hs, hse⟩ := List.getElem_of_mem hm
    rw [List.getElem_take] at hse
    rw [List.length_take] at hs
    unfold List.Nodup at hnd
    exact (List.pairwise_iff_getElem.1 hnd) s t (by omega) ht (by omega) (by rw [hse, hj])
  · rw [updN_other _ _ e]
    unfold memT
    congr 1
    rw [List.take_succ_eq_append_getElem ht]
    have : ((k : Int) ∈ (joI sd a q i).take t ++ [(joI sd a q i)[t]]) ↔ ((k : Int) ∈ (joI sd a q i).take t) := by
      rw [List.mem_append, hj]
      simp
      omega
    simp only [this]
theorem rows2_of_made {w : World} {base g n : Nat} (h : w.ownsRow base 26 1 (.slice (some ⟨g, 0, none⟩) n n) n (madeCells #[(.slice none 0 0 : Value)] n).toList) : Rows2 w base g n (fun _ => .slice none 0 0) (fun _ => []) := by
  rcases h.2 with ⟨h1, _⟩ | ⟨g', cap, cur, h1, h2, h3, h4, h5, h6, h7⟩
  · cases h1
  · simp only [Value.slice.injEq, Option.some.injEq, Addr.mk.injEq, and_true, true_and] at h1
    obtain ⟨rfl, rfl⟩ := h1
    refine ⟨?_, h2, fun j hj => World.ownsRow_nil _ _ _ _, fun i j b _ _ hb => by simp [Value.ownBlock] at hb⟩
    rw [h3]
    congr 2
    apply Array.toList_inj.1
    rw [Nat.mul_one] at h6 h7
    rw [List.take_of_length_le (by rw [Array.length_toList, h6]; exact Nat.le_refl _)] at h7
    rw [h7]
    apply List.ext_getElem
    · simp [madeCells]
    · intro k h8 h9
      simp [madeCells, Nat.mod_one] at h8 ⊢
theorem Tryz.infoIs : (Tryz.prog.info? 26).map (fun i => (i.zero, i.size, i.bytes)) = some (some (.slice none 0 0), 1, 24) := by kernel_rfl
theorem Tryz.undIs2 : Tryz.prog.underlying 30 = some (.slice 26) := by kernel_rfl
/-- what is appended to a row of a block of rows, and stored there -/
theorem grown_blk {w w1 : World} {base g n j : Nat} {V : Nat → Value} {L : Nat → List Nat} (h : Rows2 w base g n V L) (hj : j < n) (hg : w.grownBy w1 (V j).ownBlock) : w1.heap[g]? = some (.cells ((List.range n).map V).toArray 26 (0, 0)) :=
  (hg.block g (lt_of_block h.blk) (fun e => own_not (h.row j hj) h.blk e.symm)).trans h.blk
theorem Rows2.mono {w : World} {base base' g n : Nat} {V : Nat → Value} {L : Nat → List Nat} (h : Rows2 w base g n V L) (hb : base' ≤ base) : Rows2 w base' g n V L :=
  ⟨h.blk, Nat.le_trans hb h.ge, fun j hj => by
    rcases (h.row j hj).2 with h1 | ⟨b, cap, cur, h1, h2, h3⟩
    · exact ⟨(h.row j hj).1, .inl h1⟩
    · exact ⟨(h.row j hj).1, .inr ⟨b, cap, cur, h1, Nat.le_trans hb h2, h3⟩⟩, h.dis⟩
set_option maxRecDepth 100000 in
set_option maxHeartbeats 4000000 in
theorem members_any (sd n a q : Nat) (hsd : sd ≤ 72057594037927935) (hn : n ≤ 96) (ha1 : 1 ≤ a) (ha : a ≤ 64) (hq1 : 1 ≤ q) (hq : q ≤ 8) (w : World) :
    Calls Tryz.prog 28 #[plV sd n a q] w fun e w' => ∃ g, e = .returned (.slice (some ⟨g, 0, none⟩) a a) ∧ (∃ V, Rows2 w' w.heap.size g a V (fun j => memL sd a q j n)) ∧ Below w.heap.size w w' := by
  obtain ⟨i0, hi, hz0, hz1, hz2⟩ := info_parts Tryz.infoIs
  obtain ⟨k0, hki, hkz0, hkz1, hkz2⟩ := info_parts Tryz.infoI
  have hjo := hide (fun (i : Nat) (h : i < 65536) w => joins_any sd n a q i hsd ha1 ha hq1 hq h w)
  have hb0 : Below w.heap.size w (w.alloc (.cells #[.int .i64 (sd : Int), .int .i64 (n : Int), .int .i64 (a : Int), .int .i64 (q : Int)] 23)) := (Below.refl _ w).alloc (Nat.le_refl _) _
  have hpc := hide (plan_cells w sd n a q)
  have hz9 : w.heap.size < (w.alloc (.cells #[.int .i64 (sd : Int), .int .i64 (n : Int), .int .i64 (a : Int), .int .i64 (q : Int)] 23)).heap.size := by simp
  have B0 := hide hb0
  unfold plV at *
  clear hb0
  obtain ⟨c0, c1, c2, c3⟩ := unhide hpc _ (Below.refl _ _)
  go_enter Tryz.func28, Tryz.ntmps28
  generalize hW0 : w.alloc (.cells #[.int .i64 (sd : Int), .int .i64 (n : Int), .int .i64 (a : Int), .int .i64 (q : Int)] 23) = W0 at *
  go_wp2_with (at_make; refine wpList_make_full _ rfl _ _ 30 rfl W0.heap.size 26 i0 (.slice none 0 0) 1 Tryz.undIs2 hi hz0 hz1 .i64 .i64 _ _ a rfl rfl rfl rfl ?d2 ?d3 ?d4 ?_)
  case d2 => first | omega | (rw [hz2]; omega)
  case d3 => unfold maxLen; omega
  case d4 => exact Nat.le_refl _
  intro w1 hown hgrow
  have HW0 := hide hW0
  clear hW0
  have hR1 := rows2_of_made hown
  have hb1 : Below W0.heap.size W0 w1 := (Below.refl _ _).grown hgrow (Nat.le_refl _) (by intro k hk; cases hk)
  clear hown hgrow
  obtain ⟨c0, c1, c2, c3⟩ := unhide hpc w1 hb1
  have HR1 := hide hR1
  have HB1 := hide hb1
  clear hR1 hb1
  go_wp2_with fail
  go_loopw [12] (fun v wr => ∃ (i : Nat) (V : Nat → Value), i ≤ n ∧ v = .int .i64 i ∧ Rows2 wr W0.heap.size W0.heap.size a V (fun j => memL sd a q j i) ∧ Below W0.heap.size W0 wr) (fun v _ => n - (intOf v).toNat)
  case atStart => exact ⟨0, _, Nat.zero_le _, rfl, unhide HR1, unhide HB1⟩
  case round =>
    clear HR1 HB1 c0 c1 c2 c3
    obtain ⟨i, V, hin, rfl, hR, hB⟩ := hrel
    obtain ⟨c0, c1, c2, c3⟩ := unhide hpc wr hB
    by_cases hlt : i < n
    · have q1 : (i : Int) < (n : Int) := by omega
      have HR := hide hR
      have HB := hide hB
      have hj := hide (unhide hjo i (by omega) wr)
      have hzB := hB.size
      clear hR hB
      go_wp2_with fail
      refine (unhide hj).mono ?_
      rintro e w2 ⟨gj, rfl, hg1, hg2, hcl, b2⟩
      have HR2 := hide ((unhide HR).below b2)
      have HB2 := hide ((unhide HB).trans (b2.mono (unhide HB).size))
      have hjl := joI_len sd a q i
      have HCL := hide hcl
      have hGne : W0.heap.size ≠ gj := by
        have := lt_of_block (unhide HR).blk
        omega
      have HJB : Hid (∀ j b, j < a → (V j).ownBlock = some b → b ≠ gj) := fun j b hj hb e => by
        subst e
        obtain ⟨c, hc⟩ := own_type ((unhide HR).row j hj) hb
        have := lt_of_block hc
        omega
      have hz2B : W0.heap.size ≤ w2.heap.size := (unhide HB2).size
      clear hcl b2 hj HR HB c0 c1 c2 c3
      generalize hmq : min q a = mq at *
      have hmq8 : mq ≤ 8 := by omega
      have HMQ := hide hmq
      clear hmq
      have HJL := hide hjl
      clear hjl
      go_wp2_with fail
      go_loopw [19] (fun v wr => ∃ (t : Nat) (V : Nat → Value), t ≤ mq ∧ v = .int .i64 t ∧ Rows2 wr W0.heap.size W0.heap.size a V (memT sd a q i t) ∧ (∀ k (h : k < (joI sd a q i).length), wr.cell? ⟨gj, k, none⟩ = some (.int .i64 (joI sd a q i)[k])) ∧ (∀ j b, j < a → (V j).ownBlock = some b → b ≠ gj) ∧ gj < wr.heap.size ∧ Below W0.heap.size W0 wr) (fun v _ => mq - (intOf v).toNat)
      case atStart => exact ⟨0, V, Nat.zero_le _, rfl, by rw [memT_zero]; exact unhide HR2, unhide HCL, unhide HJB, hg2, unhide HB2⟩
      case round =>
        clear HR2 HCL HJB HB2
        obtain ⟨t, V, htq, rfl, hR, hcl, hJB, hgj, hB⟩ := hrel
        by_cases hlt2 : t < mq
        · have q2 : (t : Int) < (mq : Int) := by omega
          have hlt3 : t < (joI sd a q i).length := by rw [unhide HJL]; exact hlt2
          have d0 := hcl t hlt3
          obtain ⟨j, hje, hja⟩ := joI_lt sd a q i _ (List.getElem_mem hlt3)
          rw [hje] at d0
          have q3 : (j : Int) < (a : Int) := by omega
          have d1 := hR.cell j hja
          have hrowj := hR.row j hja
          have hll : (memT sd a q i t j).length ≤ 200 := by
            unfold memT
            have := memL_len sd a q j i
            rw [List.length_append]
            split <;> simp <;> omega
          have hzw := hB.size
          have HR := hide hR
          have HB := hide hB
          have HCL := hide hcl
          have HJB := hide hJB
          have HRA := hide (hR.below ((Below.refl _ wr).alloc (Nat.le_refl _) (.cells #[.int .i64 (i : Int)] 3)))
          have HROW := hide hrowj
          have HSUC := hide (memT_succ sd a q i t j hlt3 hje)
          clear hR hcl hJB hrowj hB
          generalize hVj : V j = vj at *
          have HVJ := hide hVj
          clear hVj
          generalize hLj : (memT sd a q i t j).length = lj at *
          have HLJ := hide hLj
          clear hLj
          go_wp2_with (at_builtin; refine wpList_append_lies _ rfl _ _ 26 rfl W0.heap.size 3 k0 (.int .i64 0) 1 8 Tryz.undI hki hkz0 hkz1 hkz2 rfl (by decide) _ _ _ rfl ((unhide HROW).alloc _) ⟨wr.heap.size, 0, none⟩ 1 1 [.int .i64 (i : Int)] rfl rfl (cell_one_new _ _ _) ?d2 (by decide) ?d3 ?d4 ?d5 (wr.heap.size + 1) ?d6 ?_)
          case d2 => intro u hu; simp at hu; subst hu; rfl
          case d3 => unfold maxLen; omega
          case d4 => omega
          case d5 => simp; omega
          case d6 => simp
          intro gb cap w3 hown hgrow hl hgb
          have hrow' : w3.ownsRow W0.heap.size 3 1 (.slice (some ⟨gb, 0, none⟩) ((memT sd a q i t j).length + 1) cap) ((memT sd a q i t j).length + 1) (ic (memT sd a q i t j) ++ [.int .i64 (i : Int)]) := by rw [unhide HLJ]; exact hown
          have hvj := unhide HVJ
          rw [← hvj] at hgrow hl
          have hblk := grown_blk (unhide HRA) hja hgrow
          have hRn := (unhide HRA).appended (x := i) hja hrow' hgrow (by rcases hl with h | h; exact .inl h; exact .inr (by rw [h]; simp))
          rw [← unhide HSUC, unhide HLJ] at hRn
          have HRN := hide hRn
          have d2 : w3.cell? ⟨W0.heap.size, j, none⟩ = some (V j) := by rw [cell_of_row _ _ _ _ _ (0, 0) hblk]; simp [hja]
          have d3 : w3.frozen? ⟨W0.heap.size, j, none⟩ = false := by simp [World.frozen?, hblk]
          have hbA : Below W0.heap.size W0 (wr.alloc (.cells #[.int .i64 (i : Int)] 3)) := (unhide HB).alloc hzw _
          have hB3 : Below W0.heap.size W0 w3 := hbA.grown hgrow (by simp; omega) (fun k hk => ((unhide HRA).row j hja).lt k hk |>.1)
          have hcl3 : ∀ k (h : k < (joI sd a q i).length), (w3.setCell ⟨W0.heap.size, j, none⟩ (.slice (some ⟨gb, 0, none⟩) (lj + 1) cap)).cell? ⟨gj, k, none⟩ = some (.int .i64 (joI sd a q i)[k]) := fun k h => by
            have e1 : (w3.setCell ⟨W0.heap.size, j, none⟩ (.slice (some ⟨gb, 0, none⟩) (lj + 1) cap)).heap[gj]? = wr.heap[gj]? := by
              rw [Below.heap_setCell _ _ _ _ (fun e => hGne e.symm), hgrow.block gj (by simp; omega) (fun e => unhide HJB j gj hja e.symm rfl), Below.heap_alloc _ _ _ hgj]
            rw [World.cell?_of_block (w := wr) (a := ⟨gj, k, none⟩) e1]
            exact unhide HCL k h
          have hjb3 : ∀ k b, k < a → (updN V j (.slice (some ⟨gb, 0, none⟩) (lj + 1) cap) k).ownBlock = some b → b ≠ gj := fun k b hk hb => by
            by_cases e : k = j
            · subst e
              rw [updN_same] at hb
              simp [Value.ownBlock] at hb
              subst hb
              rcases hl with h | h
              · exact unhide HJB k gb hk h
              · omega
            · rw [updN_other _ _ e] at hb
              exact unhide HJB k b hk hb
          have HCL3 := hide hcl3
          have HJB3 := hide hjb3
          have HB4 := hide (hB3.setCell (p := ⟨W0.heap.size, j, none⟩) (Nat.le_refl _) (.slice (some ⟨gb, 0, none⟩) (lj + 1) cap))
          have hgj3 : gj < w3.heap.size := by have := hgrow.size; simp at this; omega
          clear hrow' hvj hgrow hl hblk hRn hbA hB3 hcl3 hjb3 hown HRA HROW HR HB HCL HJB d0 d1
          go_wp2
          go_roundw
          case rel => exact ⟨t + 1, _, by omega, by go_num, unhide HRN, unhide HCL3, unhide HJB3, by simpa using hgj3, unhide HB4⟩
          case measure => simp [intOf]; omega
        · have hte : t = mq := by omega
          have q2 : ¬ (t : Int) < (mq : Int) := by omega
          have HE : Hid (memT sd a q i t = fun j => memL sd a q j (i + 1)) := memT_end sd a q i t (by rw [unhide HJL, hte]; exact Nat.le_refl _)
          rw [unhide HE] at hR
          have HR := hide hR
          have HB := hide hB
          clear hR hB hcl hJB
          go_wp2
          go_roundw
          case rel => exact ⟨i + 1, V, by omega, by go_num, unhide HR, unhide HB⟩
          case measure => simp [intOf]; omega
    · have hie : i = n := by omega
      subst hie
      have q1 : ¬ (i : Int) < (i : Int) := by omega
      have HR := hide hR
      have HB := hide hB
      clear hR hB c0 c1 c2 c3
      go_wp2
      go_ret
      exact ⟨_, rfl, ⟨V, (unhide HR).mono (by omega)⟩, (unhide B0).trans ((unhide HB).mono (by omega))⟩
end Go.Proofs.YtkcnihngkmaecaaGreat

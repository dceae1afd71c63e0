/- outer: the document's Check and Joins; the law's Ref; the program's Joins and Members where they refuse. outer: the document's Joins. outer: the document's Table, members, Members, Rules, SameRows. outer: the document's members, Members, Rules, SameRows; the program's Members, and where Joins and Members refuse. outer: the document's Rules, SameRows; the program's Members. -/
import Derived.Test.YtkcnihngkmaecaaGreatOuI
import Derived.Test.YtkcnihngkmaecaaGreatOuK
import Derived.Test.YtkcnihngkmaecaaGreatPrRp
namespace Go.Proofs.YtkcnihngkmaecaaGreat
open Go.RowKit
set_option linter.unusedVariables false
attribute [local go_sem] Oper.semAt_some

theorem ret_bool {a b : Bool} (h : a = b) : Ending.returned (.bool a) = .returned (.bool b) := by rw [h]
set_option maxRecDepth 100000 in
theorem dref_any (sd n a q : Int) (w : World) : Calls Tryz.prog 6 #[plV sd n a q] w fun e w' => e = .returned (plV sd n a q) ∧ Below w.heap.size w w' := by
  unfold plV
  go_enter Tryz.func6, Tryz.ntmps6
  go_wp2
  exact ret_cell rfl (w.heap.size + 1) 24 #[.int .i64 sd, .int .i64 n, .int .i64 a, .int .i64 q] (0, 0) _ rfl (heap2_b _ _ _) rfl Tryz.underlying24 (by kernel_rfl) ⟨rfl, below2 _ _ _⟩
set_option maxRecDepth 100000 in
theorem dcheck_any (sd n a q : Int) (w : World) : Calls Tryz.prog 10 #[plV sd n a q] w fun e w' => e = .returned (.bool (plOk sd n a q)) ∧ Below w.heap.size w w' := by
  have hb : Below w.heap.size w (w.alloc (.cells #[.int .i64 sd, .int .i64 n, .int .i64 a, .int .i64 q] 24)) := (Below.refl _ w).alloc (Nat.le_refl _) _
  have HB := hide hb
  clear hb
  have HP : Hid (∀ b : Bool, b = plOk sd n a q → Ending.returned (.bool b) = .returned (.bool (plOk sd n a q))) := fun b h => by rw [h]
  have hno : ∀ x : Prop, (plOk sd n a q = true → x) → ¬ x → false = plOk sd n a q := fun x h1 h2 => by
    cases h : plOk sd n a q
    · rfl
    · exact absurd (h1 h) h2
  have hall : plOk sd n a q = true → (0 ≤ sd ∧ sd ≤ 72057594037927935) ∧ (1 ≤ n ∧ n ≤ 96) ∧ (1 ≤ a ∧ a ≤ 64) ∧ 1 ≤ q ∧ q ≤ 8 := fun h => by unfold plOk at h; simp at h; omega
  have HN := hide hno
  have HA := hide hall
  clear hno hall
  unfold plV
  by_cases h1 : 0 ≤ sd
  · by_cases h2 : sd ≤ 72057594037927935
    · by_cases h3 : 1 ≤ n
      · by_cases h4 : n ≤ 96
        · by_cases h5 : 1 ≤ a
          · by_cases h6 : a ≤ 64
            · by_cases h7 : 1 ≤ q
              · by_cases h8 : q ≤ 8
                · have ht : Hid (true = plOk sd n a q) := by show _ = _; unfold plOk; simp; omega
                  go_enter Tryz.func10, Tryz.ntmps10
                  go_wp2
                  go_ret
                  exact ⟨unhide HP _ (unhide ht), unhide HB⟩
                · have hf := hide (unhide HN _ (fun h => (unhide HA h).2.2.2.2) h8)
                  go_enter Tryz.func10, Tryz.ntmps10
                  go_wp2
                  go_ret
                  exact ⟨unhide HP _ (unhide hf), unhide HB⟩
              · have hf := hide (unhide HN _ (fun h => (unhide HA h).2.2.2.1) h7)
                go_enter Tryz.func10, Tryz.ntmps10
                go_wp2
                go_ret
                exact ⟨unhide HP _ (unhide hf), unhide HB⟩
            · have hf := hide (unhide HN _ (fun h => (unhide HA h).2.2.1.2) h6)
              go_enter Tryz.func10, Tryz.ntmps10
              go_wp2
              go_ret
              exact ⟨unhide HP _ (unhide hf), unhide HB⟩
          · have hf := hide (unhide HN _ (fun h => (unhide HA h).2.2.1.1) h5)
            go_enter Tryz.func10, Tryz.ntmps10
            go_wp2
            go_ret
            exact ⟨unhide HP _ (unhide hf), unhide HB⟩
        · have hf := hide (unhide HN _ (fun h => (unhide HA h).2.1.2) h4)
          go_enter Tryz.func10, Tryz.ntmps10
          go_wp2
          go_ret
          exact ⟨unhide HP _ (unhide hf), unhide HB⟩
      · have hf := hide (unhide HN _ (fun h => (unhide HA h).2.1.1) h3)
        go_enter Tryz.func10, Tryz.ntmps10
        go_wp2
        go_ret
        exact ⟨unhide HP _ (unhide hf), unhide HB⟩
    · have hf := hide (unhide HN _ (fun h => (unhide HA h).1.2) h2)
      go_enter Tryz.func10, Tryz.ntmps10
      go_wp2
      go_ret
      exact ⟨unhide HP _ (unhide hf), unhide HB⟩
  · have hf := hide (unhide HN _ (fun h => (unhide HA h).1.1) h1)
    go_enter Tryz.func10, Tryz.ntmps10
    go_wp2
    go_ret
    exact ⟨unhide HP _ (unhide hf), unhide HB⟩
/-- what a message block joins, rising -/
def joN (sd a q i : Nat) : List Nat := (List.range a).filter fun (j : Nat) => decide ((j : Int) ∈ joI sd a q i)
theorem joN_zs (sd a q i : Nat) : (joN sd a q i).map (fun (z : Nat) => (z : Int)) = joI sd a q i := by
  have h1 : ((joN sd a q i).map fun (z : Nat) => (z : Int)).Pairwise (· < ·) := by
    rw [List.pairwise_map]
    unfold joN
    have : (List.range a).Pairwise (· < ·) := List.pairwise_lt_range
    exact (this.sublist List.filter_sublist).imp (fun h => by omega)
  have h2 := joI_up sd a q i
  have key : ∀ (x y : List Int), x.Pairwise (· < ·) → y.Pairwise (· < ·) → (∀ k, k ∈ x ↔ k ∈ y) → x = y := by
    intro x
    induction x with
    | nil =>
      intro y _ _ h
      cases y with
      | nil => rfl
      | cons b y => exact absurd ((h b).2 (by simp)) (by simp)
    | cons a x ih =>
      intro y hx hy h
      cases y with
      | nil => exact absurd ((h a).1 (by simp)) (by simp)
      | cons b y =>
        rw [List.pairwise_cons] at hx hy
        have e : a = b := by
          have g1 := (h a).1 (by simp)
          have g2 := (h b).2 (by simp)
          rw [List.mem_cons] at g1 g2
          rcases g1 with g1 | g1
          · exact g1
          · rcases g2 with g2 | g2
            · exact g2.symm
            · have := hx.1 b g2
              have := hy.1 a g1
              omega
        subst e
        rw [ih y hx.2 hy.2 (fun k => ⟨fun hk => by
          have := (h k).1 (List.mem_cons_of_mem _ hk)
          rw [List.mem_cons] at this
          rcases this with e | e
          · have := hx.1 k hk; omega
          · exact e, fun hk => by
          have := (h k).2 (List.mem_cons_of_mem _ hk)
          rw [List.mem_cons] at this
          rcases this with e | e
          · have := hy.1 k hk; omega
          · exact e⟩)]
  refine key _ _ h1 h2 (fun k => ?_)
  rw [List.mem_map]
  constructor
  · rintro ⟨z, hz, rfl⟩
    unfold joN at hz
    simpa using (List.mem_filter.1 hz).2
  · intro hk
    obtain ⟨j, rfl, hj⟩ := joI_lt sd a q i k hk
    exact ⟨j, List.mem_filter.2 ⟨List.mem_range.2 hj, by simpa using hk⟩, rfl⟩
/-- what the document's picking tells -/
def pkL (sd a q i : Nat) : List Nat := (List.range (min q a)).map fun j => (pkS (jseed sd i) a 0 a).2.getD j 0
theorem pkL_mem (sd a q i j : Nat) : j ∈ pkL sd a q i ↔ (j : Int) ∈ joI sd a q i := by
  rw [(joI_perm sd a q i).mem_iff, List.mem_map]
  unfold pkL
  rw [List.mem_map]
  have hl := pkS_length (jseed sd i) a 0 (min q a)
  have hf : ∀ k, k < min q a → (pkS (jseed sd i) a 0 a).2.getD k 0 = (pkS (jseed sd i) a 0 (min q a)).2.getD k 0 := fun k hk => pkS_fix (jseed sd i) a 0 (min q a) k hk a (by omega) (Nat.le_refl _)
  constructor
  · rintro ⟨k, hk, rfl⟩
    have hk := List.mem_range.1 hk
    refine ⟨_, ?_, rfl⟩
    rw [hf k hk]
    have hk2 : k < (pkS (jseed sd i) a 0 (min q a)).2.length := by omega
    rw [show (pkS (jseed sd i) a 0 (min q a)).2.getD k 0 = (pkS (jseed sd i) a 0 (min q a)).2[k] by simp [List.getD, hk2]]
    rw [List.mem_take_iff_getElem]
    exact ⟨k, by omega, rfl⟩
  · rintro ⟨z, hz, e⟩
    have e : z = j := by omega
    subst e
    rw [List.mem_take_iff_getElem] at hz
    obtain ⟨k, hk, e⟩ := hz
    refine ⟨k, List.mem_range.2 (by omega), ?_⟩
    rw [hf k (by omega), ← e]
    have hk2 : k < (pkS (jseed sd i) a 0 (min q a)).2.length := by omega
    simp [List.getD, hk2]
end Go.Proofs.YtkcnihngkmaecaaGreat
namespace Go.Proofs.YtkcnihngkmaecaaGreat
open Go.RowKit
set_option linter.unusedVariables false
attribute [local go_sem] Oper.semAt_some

theorem putS_two (k : Int) (h0 : 0 ≤ k) (h1 : k < 65536) : putS k 2 = (putB k 2, 0) := by
  unfold putS
  rw [if_neg (by omega : ¬ ((2 : Int) < 1 ∨ (7 : Int) < 2)), if_neg ?_]
  · rfl
  · rintro (h | h)
    · omega
    · exact h (Int.ediv_eq_zero_of_lt h0 (by show k < 65536; exact h1))
theorem joN_len (sd a q i : Nat) : (joN sd a q i).length = min q a := by
  have h := congrArg List.length (joN_zs sd a q i)
  rw [List.length_map, joI_len] at h
  exact h
theorem field_L (x y z : Value) (w : World) : Sem.run Tryz.prog (Instr.field 58 (.agg #[x, y, z]) 1) w = .ok z w := by kernel_rfl
theorem pkL_len (sd a q i : Nat) : (pkL sd a q i).length = min q a := by simp [pkL]
/-- of the first k numbers those that are joined -/
def joK (sd a q i k : Nat) : List Nat := (List.range k).filter fun (j : Nat) => decide ((j : Int) ∈ joI sd a q i)
theorem joK_succ (sd a q i k : Nat) : joK sd a q i (k + 1) = joK sd a q i k ++ (if (k : Int) ∈ joI sd a q i then [k] else []) := by
  unfold joK
  rw [List.range_succ, List.filter_append]
  congr 1
  by_cases h : (k : Int) ∈ joI sd a q i
  · rw [if_pos h]; simp [h]
  · rw [if_neg h]; simp [h]
theorem joK_le (sd a q i k : Nat) : (joK sd a q i k).length ≤ k := by
  unfold joK
  have := List.length_filter_le (fun (j : Nat) => decide ((j : Int) ∈ joI sd a q i)) (List.range k)
  simpa using this
set_option maxRecDepth 100000 in
set_option maxHeartbeats 4000000 in
theorem djoins_any (sd n a q i : Nat) (hsd : sd ≤ 72057594037927935) (ha1 : 1 ≤ a) (ha : a ≤ 64) (hq1 : 1 ≤ q) (hq : q ≤ 8) (hi : i < 65536) (w : World) :
    Calls Tryz.prog 14 #[plV sd n a q, .int .i64 i] w fun e w' => (∃ v, e = .returned v ∧ w'.ownsRow w.heap.size 3 1 v (joN sd a q i).length (ic (joN sd a q i))) ∧ Below w.heap.size w w' := by
  obtain ⟨i0, hi0, hz0, hz1, hz2⟩ := info_parts Tryz.infoI
  have hn1 := hide (fun w => rnum_any (sd : Int) 7 w)
  have hn2 := hide (fun w => rnum_any (i : Int) 2 w)
  rw [putS_seven, if_neg (by
    rintro (h | h)
    · omega
    · exact h (Int.ediv_eq_zero_of_lt (by omega) (by show (sd : Int) < 72057594037927936; omega)))] at hn1
  rw [putS_two (i : Int) (by omega) (by omega)] at hn2
  obtain ⟨S7, hS7⟩ : ∃ S : ByteArray, S = ⟨(putB (sd : Int) 7).toArray⟩ := ⟨_, rfl⟩
  obtain ⟨S2, hS2⟩ : ∃ S : ByteArray, S = ⟨(putB (i : Int) 2).toArray⟩ := ⟨_, rfl⟩
  have z7 : S7.size = 7 := by rw [hS7]; show (putB (sd : Int) 7).toArray.size = 7; simp [putB_length]
  have z2 : S2.size = 2 := by rw [hS2]; show (putB (i : Int) 2).toArray.size = 2; simp [putB_length]
  have hSS : Hid ((⟨#[111, 117, 116, 101, 114]⟩ ++ S7 ++ S2 : ByteArray).data.toList = jseed sd i) := by
    show _ = _
    rw [hS7, hS2]
    simp [jseed]
  change Hid (∀ w, Calls _ _ _ w fun e w' => e = .returned (.string ⟨(putB (sd : Int) 7).toArray⟩) ∧ _) at hn1
  change Hid (∀ w, Calls _ _ _ w fun e w' => e = .returned (.string ⟨(putB (i : Int) 2).toArray⟩) ∧ _) at hn2
  rw [← hS7] at hn1
  rw [← hS2] at hn2
  clear hS7 hS2
  have hb0 : Below w.heap.size w (w.alloc (.cells #[.int .i64 (sd : Int), .int .i64 (n : Int), .int .i64 (a : Int), .int .i64 (q : Int)] 24)) := (Below.refl _ w).alloc (Nat.le_refl _) _
  have hP0 := heap_alloc_new w (.cells #[.int .i64 (sd : Int), .int .i64 (n : Int), .int .i64 (a : Int), .int .i64 (q : Int)] 24)
  unfold plV
  have hcell : ∀ X, Below (w.alloc (.cells #[.int .i64 (sd : Int), .int .i64 (n : Int), .int .i64 (a : Int), .int .i64 (q : Int)] 24)).heap.size (w.alloc (.cells #[.int .i64 (sd : Int), .int .i64 (n : Int), .int .i64 (a : Int), .int .i64 (q : Int)] 24)) X → X.cell? ⟨w.heap.size, 0, none⟩ = some (.int .i64 (sd : Int)) ∧ X.cell? ⟨w.heap.size, 1, none⟩ = some (.int .i64 (n : Int)) ∧ X.cell? ⟨w.heap.size, 2, none⟩ = some (.int .i64 (a : Int)) ∧ X.cell? ⟨w.heap.size, 3, none⟩ = some (.int .i64 (q : Int)) := fun X hX => by
    have h := (hX.block _ (lt_of_block hP0)).trans hP0
    exact ⟨by rw [cell_of_row _ _ 0 _ _ (0, 0) h]; rfl, by rw [cell_of_row _ _ 1 _ _ (0, 0) h]; rfl, by rw [cell_of_row _ _ 2 _ _ (0, 0) h]; rfl, by rw [cell_of_row _ _ 3 _ _ (0, 0) h]; rfl⟩
  have HC := hide hcell
  have HB0 := hide hb0
  obtain ⟨c0, c1, c2, c3⟩ := hcell _ (Below.refl _ _)
  have hwz : w.heap.size < (w.alloc (.cells #[.int .i64 (sd : Int), .int .i64 (n : Int), .int .i64 (a : Int), .int .i64 (q : Int)] 24)).heap.size := lt_of_block hP0
  clear hcell hb0 hP0
  obtain ⟨mq, hmq⟩ : ∃ m, min q a = m := ⟨_, rfl⟩
  have hmqb : mq ≤ a ∧ mq ≤ 8 := by omega
  have HMQ := hide hmq
  go_enter Tryz.func14, Tryz.ntmps14
  by_cases hqa : a < q
  · have d1 : (a : Int) < q := by omega
    obtain rfl : a = mq := by omega
    clear hmq
    go_wp2_with fail
    generalize hW0 : w.alloc (.cells #[.int .i64 (sd : Int), .int .i64 (n : Int), .int .i64 (a : Int), .int .i64 (q : Int)] 24) = W0 at *
    clear hW0
    refine (unhide hn1 W0).mono ?_
    rintro e w1 ⟨rfl, b1⟩
    have B1 := hide b1
    clear b1 c0 c1 c2 c3
    obtain ⟨c0, c1, c2, c3⟩ := unhide HC w1 (unhide B1)
    go_wp2_with fail
    refine (unhide hn2 w1).mono ?_
    rintro e w2 ⟨rfl, b2⟩
    have B2 := hide ((unhide B1).trans (b2.mono (unhide B1).size))
    clear b2 c0 c1 c2 c3
    obtain ⟨c0, c1, c2, c3⟩ := unhide HC w2 (unhide B2)
    have z5 : (⟨#[111, 117, 116, 101, 114]⟩ : ByteArray).size = 5 := rfl
    have hzw2 : w.heap.size < w2.heap.size := by have := (unhide B2).size; omega
    have hzS : (⟨#[111, 117, 116, 101, 114]⟩ ++ S7 ++ S2 : ByteArray).size ≤ 64 := by simp [z7, z2, z5]
    have hpk := hide (fun w => rpick_any (⟨#[111, 117, 116, 101, 114]⟩ ++ S7 ++ S2) 0 a a w hzS (by omega) (by omega) (by omega))
    rw [unhide hSS] at hpk
    have B3 := hide ((unhide B2).alloc (unhide B2).size (.cells #[.string (⟨#[111, 117, 116, 101, 114]⟩ ++ S7 ++ S2), .int .i64 0] 56))
    unfold gV at hpk
    go_wp2_with fail
    refine (unhide hpk _).mono ?_
    rintro e w4 ⟨a4, c4, rfl, hcl4, b4⟩
    have B4 := hide ((unhide B3).trans (b4.mono (unhide B3).size))
    have HCL4 := hide hcl4
    clear b4 hcl4 c0 c1 c2 c3 hpk
    obtain ⟨c0, c1, c2, c3⟩ := unhide HC w4 (unhide B4)
    generalize ((pkS (jseed sd i) a 0 a).1 : Int) = us at *
    go_wp2_with fail
    rw [field_L]
    have hNA : NumsAt w4 a4 (pkL sd a q i) := fun k hk => by
      have hk' : k < a := by rw [pkL_len, unhide HMQ] at hk; exact hk
      obtain ⟨g, e1, e2⟩ := unhide HCL4 k hk'
      exact ⟨g, 0, e1, by rw [Nat.zero_add, e2]; simp [pkL]⟩
    have hhs := hide (fun (j : Nat) (X : World) (hX : Below w4.heap.size w4 X) => has_any X (pkL sd a q i) a4 c4 j (by rw [pkL_len]; omega) (hNA.below hX))
    rw [pkL_len, unhide HMQ] at hhs
    have hz4 : w.heap.size < w4.heap.size := by have := (unhide B4).size; omega
    clear hNA HCL4
    go_wp2_with fail
    go_loopw [8, 9] (fun v u wr => ∃ k : Nat, k ≤ a ∧ u = .int .i64 k ∧ wr.ownsRow w4.heap.size 3 1 v (joK sd a q i k).length (ic (joK sd a q i k)) ∧ Below w4.heap.size w4 wr) (fun _ u _ => a - (intOf u).toNat)
    case atStart => exact ⟨0, Nat.zero_le _, rfl, World.ownsRow_nil _ _ _ _, Below.refl _ _⟩
    case round =>
      obtain ⟨k, hk, rfl, hO, hB⟩ := hrel
      obtain ⟨ao, cp, rfl⟩ := own_shape' hO
      have hle := joK_le sd a q i k
      have HSC := hide (joK_succ sd a q i k)
      have hc := unhide HC wr ((unhide B4).trans (hB.mono (unhide B4).size))
      clear c0 c1 c2 c3
      obtain ⟨c0, c1, c2, c3⟩ := hc
      have hh := hide (unhide hhs k wr hB)
      have HPM := hide (pkL_mem sd a q i k)
      generalize hjl : (joK sd a q i k).length = jl at *
      have HJL := hide hjl
      have HO := hide hO
      have HB := hide hB
      clear hO hB hjl
      by_cases hlt : k < a
      · have q1 : (k : Int) < a := by omega
        by_cases hin : (k : Int) ∈ joI sd a q i
        · rw [decide_eq_true ((unhide HPM).2 hin)] at hh
          rw [if_pos hin] at HSC
          clear hin
          go_wp2_with fail
          refine (unhide hh).mono ?_
          rintro e w5 ⟨rfl, rfl⟩
          have hzr := (unhide HB).size
          go_wp2_with (at_builtin; refine wpList_append_own _ rfl _ _ 26 rfl w4.heap.size 3 i0 (.int .i64 0) 1 8 Tryz.undI hi0 hz0 hz1 hz2 rfl (by decide) _ _ _ rfl ((unhide HO).alloc _) ⟨w5.heap.size, 0, none⟩ 1 1 [.int .i64 (k : Int)] rfl rfl (cell_one_new _ _ _) ?e11 ?e21 ?e31 ?e41 ?_)
          case e11 => intro u hu; simp at hu; subst hu; rfl
          case e21 => unfold maxLen; omega
          case e31 => omega
          case e41 => simp; omega
          intro v6 w6 hown6 hgrow _
          have HO6 : Hid (w6.ownsRow w4.heap.size 3 1 v6 (joK sd a q i (k + 1)).length (ic (joK sd a q i (k + 1)))) := by
            show World.ownsRow _ _ _ _ _ _ _
            rw [unhide HSC, ic_append, List.length_append, unhide HJL]
            exact hown6
          have HB6 := hide (((unhide HB).alloc hzr (.cells #[.int .i64 (k : Int)] 3)).grown hgrow (by simp; omega) (fun j hj => ((unhide HO).lt j hj).1))
          obtain ⟨a6, q6, rfl⟩ := own_shape' hown6
          clear hown6 hgrow
          go_wp2
          go_roundw
          case rel => exact ⟨k + 1, by omega, by go_num, unhide HO6, unhide HB6⟩
          case measure => simp [intOf]; omega
        · rw [decide_eq_false (fun h => hin ((unhide HPM).1 h))] at hh
          rw [if_neg hin, List.append_nil] at HSC
          clear hin
          go_wp2_with fail
          refine (unhide hh).mono ?_
          rintro e w5 ⟨rfl, rfl⟩
          go_wp2
          go_roundw
          case rel => exact ⟨k + 1, by omega, by go_num, by rw [unhide HSC, unhide HJL]; exact unhide HO, unhide HB⟩
          case measure => simp [intOf]; omega
      · have hke : k = a := by omega
        have q1 : ¬ (k : Int) < a := by omega
        have HF : Hid (wr.ownsRow w.heap.size 3 1 (.slice ao jl cp) (joN sd a q i).length (ic (joN sd a q i))) := by
          have h : joN sd a q i = joK sd a q i k := by rw [hke]; rfl
          show World.ownsRow _ _ _ _ _ _ _
          rw [h, unhide HJL]
          have h1 := unhide HO
          refine ⟨h1.1, ?_⟩
          rcases h1.2 with h2 | ⟨g, cap', cur, h2, h3, h4⟩
          · exact .inl h2
          · exact .inr ⟨g, cap', cur, h2, by omega, h4⟩
        have HBF := hide ((unhide HB0).trans (((unhide B4).trans ((unhide HB).mono (unhide B4).size)).mono (unhide HB0).size))
        go_wp2
        go_ret
        exact ⟨⟨_, rfl, unhide HF⟩, unhide HBF⟩
  · have d1 : ¬ (a : Int) < q := by omega
    obtain rfl : q = mq := by omega
    clear hmq
    go_wp2_with fail
    generalize hW0 : w.alloc (.cells #[.int .i64 (sd : Int), .int .i64 (n : Int), .int .i64 (a : Int), .int .i64 (q : Int)] 24) = W0 at *
    clear hW0
    refine (unhide hn1 W0).mono ?_
    rintro e w1 ⟨rfl, b1⟩
    have B1 := hide b1
    clear b1 c0 c1 c2 c3
    obtain ⟨c0, c1, c2, c3⟩ := unhide HC w1 (unhide B1)
    go_wp2_with fail
    refine (unhide hn2 w1).mono ?_
    rintro e w2 ⟨rfl, b2⟩
    have B2 := hide ((unhide B1).trans (b2.mono (unhide B1).size))
    clear b2 c0 c1 c2 c3
    obtain ⟨c0, c1, c2, c3⟩ := unhide HC w2 (unhide B2)
    have z5 : (⟨#[111, 117, 116, 101, 114]⟩ : ByteArray).size = 5 := rfl
    have hzw2 : w.heap.size < w2.heap.size := by have := (unhide B2).size; omega
    have hzS : (⟨#[111, 117, 116, 101, 114]⟩ ++ S7 ++ S2 : ByteArray).size ≤ 64 := by simp [z7, z2, z5]
    have hpk := hide (fun w => rpick_any (⟨#[111, 117, 116, 101, 114]⟩ ++ S7 ++ S2) 0 a q w hzS (by omega) (by omega) (by omega))
    rw [unhide hSS] at hpk
    have B3 := hide ((unhide B2).alloc (unhide B2).size (.cells #[.string (⟨#[111, 117, 116, 101, 114]⟩ ++ S7 ++ S2), .int .i64 0] 56))
    unfold gV at hpk
    go_wp2_with fail
    refine (unhide hpk _).mono ?_
    rintro e w4 ⟨a4, c4, rfl, hcl4, b4⟩
    have B4 := hide ((unhide B3).trans (b4.mono (unhide B3).size))
    have HCL4 := hide hcl4
    clear b4 hcl4 c0 c1 c2 c3 hpk
    obtain ⟨c0, c1, c2, c3⟩ := unhide HC w4 (unhide B4)
    generalize ((pkS (jseed sd i) a 0 q).1 : Int) = us at *
    go_wp2_with fail
    rw [field_L]
    have hNA : NumsAt w4 a4 (pkL sd a q i) := fun k hk => by
      have hk' : k < q := by rw [pkL_len, unhide HMQ] at hk; exact hk
      obtain ⟨g, e1, e2⟩ := unhide HCL4 k hk'
      exact ⟨g, 0, e1, by rw [Nat.zero_add, e2]; simp [pkL]⟩
    have hhs := hide (fun (j : Nat) (X : World) (hX : Below w4.heap.size w4 X) => has_any X (pkL sd a q i) a4 c4 j (by rw [pkL_len]; omega) (hNA.below hX))
    rw [pkL_len, unhide HMQ] at hhs
    have hz4 : w.heap.size < w4.heap.size := by have := (unhide B4).size; omega
    clear hNA HCL4
    go_wp2_with fail
    go_loopw [8, 9] (fun v u wr => ∃ k : Nat, k ≤ a ∧ u = .int .i64 k ∧ wr.ownsRow w4.heap.size 3 1 v (joK sd a q i k).length (ic (joK sd a q i k)) ∧ Below w4.heap.size w4 wr) (fun _ u _ => a - (intOf u).toNat)
    case atStart => exact ⟨0, Nat.zero_le _, rfl, World.ownsRow_nil _ _ _ _, Below.refl _ _⟩
    case round =>
      obtain ⟨k, hk, rfl, hO, hB⟩ := hrel
      obtain ⟨ao, cp, rfl⟩ := own_shape' hO
      have hle := joK_le sd a q i k
      have HSC := hide (joK_succ sd a q i k)
      have hc := unhide HC wr ((unhide B4).trans (hB.mono (unhide B4).size))
      clear c0 c1 c2 c3
      obtain ⟨c0, c1, c2, c3⟩ := hc
      have hh := hide (unhide hhs k wr hB)
      have HPM := hide (pkL_mem sd a q i k)
      generalize hjl : (joK sd a q i k).length = jl at *
      have HJL := hide hjl
      have HO := hide hO
      have HB := hide hB
      clear hO hB hjl
      by_cases hlt : k < a
      · have q1 : (k : Int) < a := by omega
        by_cases hin : (k : Int) ∈ joI sd a q i
        · rw [decide_eq_true ((unhide HPM).2 hin)] at hh
          rw [if_pos hin] at HSC
          clear hin
          go_wp2_with fail
          refine (unhide hh).mono ?_
          rintro e w5 ⟨rfl, rfl⟩
          have hzr := (unhide HB).size
          go_wp2_with (at_builtin; refine wpList_append_own _ rfl _ _ 26 rfl w4.heap.size 3 i0 (.int .i64 0) 1 8 Tryz.undI hi0 hz0 hz1 hz2 rfl (by decide) _ _ _ rfl ((unhide HO).alloc _) ⟨w5.heap.size, 0, none⟩ 1 1 [.int .i64 (k : Int)] rfl rfl (cell_one_new _ _ _) ?e12 ?e22 ?e32 ?e42 ?_)
          case e12 => intro u hu; simp at hu; subst hu; rfl
          case e22 => unfold maxLen; omega
          case e32 => omega
          case e42 => simp; omega
          intro v6 w6 hown6 hgrow _
          have HO6 : Hid (w6.ownsRow w4.heap.size 3 1 v6 (joK sd a q i (k + 1)).length (ic (joK sd a q i (k + 1)))) := by
            show World.ownsRow _ _ _ _ _ _ _
            rw [unhide HSC, ic_append, List.length_append, unhide HJL]
            exact hown6
          have HB6 := hide (((unhide HB).alloc hzr (.cells #[.int .i64 (k : Int)] 3)).grown hgrow (by simp; omega) (fun j hj => ((unhide HO).lt j hj).1))
          obtain ⟨a6, q6, rfl⟩ := own_shape' hown6
          clear hown6 hgrow
          go_wp2
          go_roundw
          case rel => exact ⟨k + 1, by omega, by go_num, unhide HO6, unhide HB6⟩
          case measure => simp [intOf]; omega
        · rw [decide_eq_false (fun h => hin ((unhide HPM).1 h))] at hh
          rw [if_neg hin, List.append_nil] at HSC
          clear hin
          go_wp2_with fail
          refine (unhide hh).mono ?_
          rintro e w5 ⟨rfl, rfl⟩
          go_wp2
          go_roundw
          case rel => exact ⟨k + 1, by omega, by go_num, by rw [unhide HSC, unhide HJL]; exact unhide HO, unhide HB⟩
          case measure => simp [intOf]; omega
      · have hke : k = a := by omega
        have q1 : ¬ (k : Int) < a := by omega
        have HF : Hid (wr.ownsRow w.heap.size 3 1 (.slice ao jl cp) (joN sd a q i).length (ic (joN sd a q i))) := by
          have h : joN sd a q i = joK sd a q i k := by rw [hke]; rfl
          show World.ownsRow _ _ _ _ _ _ _
          rw [h, unhide HJL]
          have h1 := unhide HO
          refine ⟨h1.1, ?_⟩
          rcases h1.2 with h2 | ⟨g, cap', cur, h2, h3, h4⟩
          · exact .inl h2
          · exact .inr ⟨g, cap', cur, h2, by omega, h4⟩
        have HBF := hide ((unhide HB0).trans (((unhide B4).trans ((unhide HB).mono (unhide B4).size)).mono (unhide HB0).size))
        go_wp2
        go_ret
        exact ⟨⟨_, rfl, unhide HF⟩, unhide HBF⟩
end Go.Proofs.YtkcnihngkmaecaaGreat
namespace Go.Proofs.YtkcnihngkmaecaaGreat
open Go.RowKit
set_option linter.unusedVariables false
attribute [local go_sem] Oper.semAt_some

/-- a row of integers, by its block's type -/
def NumT (w : World) (a0 : Option Addr) : Prop := ∀ a, a0 = some a → ∃ cur fr, w.heap[a.block]? = some (.cells cur 3 fr)
theorem cell_same {w w' : World} {g o : Nat} {v : Value} (e : w'.heap[g]? = w.heap[g]?) (h : w.cell? ⟨g, o, none⟩ = some v) : w'.cell? ⟨g, o, none⟩ = some v := by
  rw [World.cell?_of_block (w := w) (a := ⟨g, o, none⟩) e]
  exact h
/-- rows of integers stand -/
def KT (w w' : World) : Prop := ∀ (k : Nat) (cur : Array Value) (fr : Nat × Nat), w.heap[k]? = some (.cells cur 3 fr) → w'.heap[k]? = w.heap[k]?
theorem KT.below {w w' : World} (h : Below w.heap.size w w') : KT w w' := fun k cur fr hk => h.block k (lt_of_block hk)
theorem NumT.kt {w w' : World} {a0 : Option Addr} (h : NumT w a0) (hk : KT w w') : NumT w' a0 := fun a ha => by
  obtain ⟨cur, fr, hc⟩ := h a ha
  exact ⟨cur, fr, (hk _ _ _ hc).trans hc⟩
theorem NumsAt.kt {w w' : World} {a0 : Option Addr} {l : List Nat} (h : NumsAt w a0 l) (ht : NumT w a0) (hk : KT w w') : NumsAt w' a0 l := fun i hi => by
  obtain ⟨g, o, e, hc⟩ := h i hi
  obtain ⟨cur, fr, hg⟩ := ht _ e
  exact ⟨g, o, e, cell_same (hk _ _ _ hg) hc⟩
theorem numT_own {w : World} {base n c : Nat} {a0 : Option Addr} {xs : List Value} (h : w.ownsRow base 3 1 (.slice a0 n c) n xs) : NumT w a0 := fun a ha => by
  obtain ⟨cur, hc⟩ := own_type h (b := a.block) (by rw [ha]; rfl)
  exact ⟨cur, _, hc⟩
/-- the slices of rows -/
structure RowsN (w : World) (J : Nat → List Nat) (k : Nat) (Vs : List Value) : Prop where
  len : Vs.length = k
  row : ∀ j, j < k → ∃ b d, Vs[j]? = some (.slice b (J j).length d) ∧ NumsAt w b (J j) ∧ NumT w b
theorem RowsN.kt {w w' : World} {J : Nat → List Nat} {k : Nat} {Vs : List Value} (h : RowsN w J k Vs) (hk : KT w w') : RowsN w' J k Vs := ⟨h.len, fun j hj => by
  obtain ⟨b, d, h1, h2, h3⟩ := h.row j hj
  exact ⟨b, d, h1, h2.kt h3 hk, h3.kt hk⟩⟩
theorem RowsN.snoc {w : World} {J : Nat → List Nat} {k : Nat} {Vs : List Value} (h : RowsN w J k Vs) {b : Option Addr} {d : Nat} (h1 : NumsAt w b (J k)) (h2 : NumT w b) : RowsN w J (k + 1) (Vs ++ [.slice b (J k).length d]) := by
  refine ⟨by simp [h.len], fun j hj => ?_⟩
  by_cases e : j = k
  · subst e
    exact ⟨b, d, by rw [List.getElem?_append_right (by rw [h.len]; exact Nat.le_refl _), h.len]; simp, h1, h2⟩
  · obtain ⟨b', d', g1, g2, g3⟩ := h.row j (by omega)
    exact ⟨b', d', by rw [List.getElem?_append_left (by rw [h.len]; omega)]; exact g1, g2, g3⟩
/-- rows of numbers in a row of slices -/
def TabV (w : World) (a0 : Option Addr) (n : Nat) (J : Nat → List Nat) : Prop := ∀ j, j < n → ∃ g o, a0 = some ⟨g, o, none⟩ ∧ ∃ b d, w.cell? ⟨g, o + j, none⟩ = some (.slice b (J j).length d) ∧ NumsAt w b (J j)
theorem TabV.below {w w' : World} {a0 : Option Addr} {n : Nat} {J : Nat → List Nat} (h : TabV w a0 n J) (hb : Below w.heap.size w w') : TabV w' a0 n J := fun j hj => by
  obtain ⟨g, o, e, b, d, h1, h2⟩ := h j hj
  exact ⟨g, o, e, b, d, cell_below h1 hb, h2.below hb⟩
theorem tab_own {w : World} {base n : Nat} {v : Value} {Vs : List Value} {J : Nat → List Nat} (h : w.ownsRow base 26 1 v n Vs) (hR : RowsN w J n Vs) : ∃ a0 c, v = .slice a0 n c ∧ TabV w a0 n J := by
  have hh := h
  rcases h.2 with ⟨rfl, h0⟩ | ⟨g, cap, cur, rfl, _⟩
  · exact ⟨none, 0, by rw [h0], fun i hi => absurd hi (by omega)⟩
  · refine ⟨some ⟨g, 0, none⟩, cap, rfl, fun j hj => ⟨g, 0, rfl, ?_⟩⟩
    obtain ⟨b, d, h1, h2, _⟩ := hR.row j hj
    exact ⟨b, d, by rw [Nat.zero_add, hh.cellAt j (by omega)]; exact h1, h2⟩
theorem tab_rows2 {w : World} {base g n : Nat} {V : Nat → Value} {J : Nat → List Nat} (h : Rows2 w base g n V J) : TabV w (some ⟨g, 0, none⟩) n J := fun j hj => by
  obtain ⟨b0, c, e, hN⟩ := nums_of_own (h.row j hj)
  exact ⟨g, 0, rfl, b0, c, by rw [Nat.zero_add, h.cell j hj, e], hN⟩
theorem own_rows {w : World} {base n b : Nat} {v : Value} {xs : List Value} (h : w.ownsRow base 26 1 v n xs) (hb : v.ownBlock = some b) : ∃ cur, w.heap[b]? = some (.cells cur 26 (0, 0)) := by
  rcases h.2 with ⟨rfl, _⟩ | ⟨g, cap, cur, rfl, _, hg, _⟩
  · simp [Value.ownBlock] at hb
  · simp [Value.ownBlock] at hb
    subst hb
    exact ⟨cur, hg⟩
theorem KT.grown {w w' : World} {base n : Nat} {v : Value} {xs : List Value} (ho : w.ownsRow base 26 1 v n xs) (hg : w.grownBy w' v.ownBlock) : KT w w' := fun k cur fr hk => hg.block k (lt_of_block hk) (fun e => by
  obtain ⟨cu, hc⟩ := own_rows ho e.symm
  rw [hk] at hc
  simp at hc)
theorem KT.trans {a b c : World} (h : KT a b) (k : KT b c) : KT a c := fun j cur fr hj => (k j cur fr ((h j cur fr hj).trans hj)).trans (h j cur fr hj)
theorem KT.alloc (w : World) (o : Obj) : KT w (w.alloc o) := fun k cur fr hk => Below.heap_alloc _ _ _ (lt_of_block hk)
theorem plan_cellsD (w : World) (sd n a q : Int) (W : World) (hb : Below (w.alloc (.cells #[.int .i64 sd, .int .i64 n, .int .i64 a, .int .i64 q] 24)).heap.size (w.alloc (.cells #[.int .i64 sd, .int .i64 n, .int .i64 a, .int .i64 q] 24)) W) :
    W.cell? ⟨w.heap.size, 0, none⟩ = some (.int .i64 sd) ∧ W.cell? ⟨w.heap.size, 1, none⟩ = some (.int .i64 n) ∧ W.cell? ⟨w.heap.size, 2, none⟩ = some (.int .i64 a) ∧ W.cell? ⟨w.heap.size, 3, none⟩ = some (.int .i64 q) := by
  have h : W.heap[w.heap.size]? = some (.cells #[.int .i64 sd, .int .i64 n, .int .i64 a, .int .i64 q] 24 (0, 0)) := (hb.block _ (by simp)).trans (heap_alloc_new w _)
  exact ⟨by rw [cell_of_row _ _ 0 _ _ (0, 0) h]; rfl, by rw [cell_of_row _ _ 1 _ _ (0, 0) h]; rfl, by rw [cell_of_row _ _ 2 _ _ (0, 0) h]; rfl, by rw [cell_of_row _ _ 3 _ _ (0, 0) h]; rfl⟩
set_option maxRecDepth 100000 in
set_option maxHeartbeats 2000000 in
theorem dtable_any (sd n a q : Nat) (hsd : sd ≤ 72057594037927935) (hn : n ≤ 96) (ha1 : 1 ≤ a) (ha : a ≤ 64) (hq1 : 1 ≤ q) (hq : q ≤ 8) (w : World) :
    Calls Tryz.prog 34 #[plV sd n a q] w fun e w' => (∃ v, e = .returned v ∧ ∃ Vs, w'.ownsRow w.heap.size 26 1 v n Vs ∧ RowsN w' (joN sd a q) n Vs) ∧ Below w.heap.size w w' := by
  obtain ⟨i0, hi0, hz0, hz1, hz2⟩ := info_parts Tryz.infoIs
  have hjo := hide (fun (i : Nat) (h : i < 65536) w => djoins_any sd n a q i hsd ha1 ha hq1 hq h w)
  have hb0 : Below w.heap.size w (w.alloc (.cells #[.int .i64 (sd : Int), .int .i64 (n : Int), .int .i64 (a : Int), .int .i64 (q : Int)] 24)) := (Below.refl _ w).alloc (Nat.le_refl _) _
  have HC := hide (plan_cellsD w sd n a q)
  have HB0 := hide hb0
  obtain ⟨c0, c1, c2, c3⟩ := unhide HC _ (Below.refl _ _)
  have hwz : w.heap.size < (w.alloc (.cells #[.int .i64 (sd : Int), .int .i64 (n : Int), .int .i64 (a : Int), .int .i64 (q : Int)] 24)).heap.size := by simp
  clear hb0
  unfold plV at *
  go_enter Tryz.func34, Tryz.ntmps34
  go_wp2_with fail
  generalize hW0 : w.alloc (.cells #[.int .i64 (sd : Int), .int .i64 (n : Int), .int .i64 (a : Int), .int .i64 (q : Int)] 24) = W0 at *
  clear hW0
  go_loopw [3, 4] (fun v u wr => ∃ (k : Nat) (Vs : List Value), k ≤ n ∧ u = .int .i64 k ∧ wr.ownsRow W0.heap.size 26 1 v k Vs ∧ RowsN wr (joN sd a q) k Vs ∧ Below W0.heap.size W0 wr) (fun _ u _ => n - (intOf u).toNat)
  case atStart => exact ⟨0, [], Nat.zero_le _, rfl, World.ownsRow_nil _ _ _ _, ⟨rfl, fun j hj => absurd hj (by omega)⟩, Below.refl _ _⟩
  case round =>
    clear c0 c1 c2 c3
    obtain ⟨k, Vs, hk, rfl, hO, hR, hB⟩ := hrel
    obtain ⟨ao, cp, rfl⟩ := own_shape' hO
    obtain ⟨c0, c1, c2, c3⟩ := unhide HC wr hB
    have hzr := hB.size
    have HO := hide hO
    have HR := hide hR
    have HB := hide hB
    clear hO hR hB
    by_cases hlt : k < n
    · have q1 : (k : Int) < n := by omega
      go_wp2_with fail
      refine (unhide hjo k (by omega) wr).mono ?_
      rintro e w2 ⟨⟨v2, rfl, hO2⟩, b2⟩
      obtain ⟨a2, d2, rfl⟩ := own_shape' hO2
      obtain ⟨a2', d2', he2, hN2⟩ := nums_of_own hO2
      simp only [Value.slice.injEq, true_and] at he2
      obtain ⟨rfl, rfl⟩ := he2
      have hT2 := numT_own hO2
      have hRk := ((unhide HR).kt (KT.below b2)).snoc (b := a2) (d := d2) hN2 hT2
      have HO2 : Hid (w2.ownsRow W0.heap.size 26 1 (.slice ao k cp) k Vs) := own_same (unhide HO) (fun b hb => by
        obtain ⟨cu, hc⟩ := own_rows (unhide HO) hb
        exact b2.block b (lt_of_block hc))
      have HRK := hide hRk
      have HB2 := hide ((unhide HB).trans (b2.mono hzr))
      have hz2' := b2.size
      clear hO2 hN2 hT2 hRk b2 HO HR HB c0 c1 c2 c3
      generalize hjl : (joN sd a q k).length = jl at *
      clear hjl
      go_wp2_with (at_builtin; refine wpList_append_own _ rfl _ _ 30 rfl W0.heap.size 26 i0 (.slice none 0 0) 1 24 Tryz.undIs2 hi0 hz0 hz1 hz2 rfl (by decide) _ _ _ rfl ((unhide HO2).alloc _) ⟨w2.heap.size, 0, none⟩ 1 1 [.slice a2 jl d2] rfl rfl (cell_one_new _ _ _) ?e1 ?e2 ?e3 ?e4 ?_)
      case e1 => intro u hu; simp at hu; subst hu; rfl
      case e2 => unfold maxLen; omega
      case e3 => omega
      case e4 => simp; omega
      intro v6 w6 hown6 hgrow _
      have HR6 := hide ((unhide HRK).kt ((KT.alloc w2 (.cells #[.slice a2 jl d2] 26)).trans (KT.grown ((unhide HO2).alloc _) hgrow)))
      have HO6 := hide hown6
      have HB6 := hide (((unhide HB2).alloc (by omega) (.cells #[.slice a2 jl d2] 26)).grown hgrow (by simp; omega) (fun j hj => ((unhide HO2).lt j hj).1))
      obtain ⟨a6, q6, rfl⟩ := own_shape' hown6
      clear hown6 hgrow
      go_wp2
      go_roundw
      case rel => exact ⟨k + 1, _, by omega, by go_num, unhide HO6, unhide HR6, unhide HB6⟩
      case measure => simp [intOf]; omega
    · have hke : k = n := by omega
      subst hke
      have q1 : ¬ (k : Int) < k := by omega
      have HF : Hid (wr.ownsRow w.heap.size 26 1 (.slice ao k cp) k Vs) := by
        have h1 := unhide HO
        refine ⟨h1.1, ?_⟩
        rcases h1.2 with h2 | ⟨g, cap', cur, h2, h3, h4⟩
        · exact .inl h2
        · exact .inr ⟨g, cap', cur, h2, by omega, h4⟩
      have HBF := hide ((unhide HB0).trans ((unhide HB).mono (unhide HB0).size))
      go_wp2
      go_ret
      exact ⟨⟨_, rfl, Vs, unhide HF, unhide HR⟩, unhide HBF⟩
end Go.Proofs.YtkcnihngkmaecaaGreat
namespace Go.Proofs.YtkcnihngkmaecaaGreat
open Go.RowKit
set_option linter.unusedVariables false
attribute [local go_sem] Oper.semAt_some

theorem joN_mem (sd a q i j : Nat) : j ∈ joN sd a q i ↔ (j : Int) ∈ joI sd a q i := by
  unfold joN
  rw [List.mem_filter, List.mem_range]
  constructor
  · rintro ⟨_, h⟩
    simpa using h
  · intro h
    obtain ⟨z, e, hz⟩ := joI_lt sd a q i _ h
    exact ⟨by omega, by simpa using h⟩
theorem own_ge {w : World} {base base' n size : Nat} {t : TypeId} {v : Value} {xs : List Value} (h : w.ownsRow base t size v n xs) (hb : base' ≤ base) : w.ownsRow base' t size v n xs := by
  refine ⟨h.1, ?_⟩
  rcases h.2 with h2 | ⟨g, cap', cur, h2, h3, h4⟩
  · exact .inl h2
  · exact .inr ⟨g, cap', cur, h2, Nat.le_trans hb h3, h4⟩
set_option maxRecDepth 100000 in
set_option maxHeartbeats 2000000 in
theorem dmem_any (sd n a q j : Nat) (hn : n ≤ 96) (ha : a ≤ 64) (hj : j ≤ 1000) (a0 : Option Addr) (c : Nat) (w : World) (hT : TabV w a0 n (joN sd a q)) :
    Calls Tryz.prog 33 #[.slice a0 n c, .int .i64 j] w fun e w' => (∃ v, e = .returned v ∧ w'.ownsRow w.heap.size 3 1 v (memL sd a q j n).length (ic (memL sd a q j n))) ∧ Below w.heap.size w w' := by
  obtain ⟨i0, hi0, hz0, hz1, hz2⟩ := info_parts Tryz.infoI
  have HT := hide hT
  clear hT
  go_enter Tryz.func33, Tryz.ntmps33
  go_wp2_with fail
  go_loopw [5, 6] (fun v u wr => ∃ k : Nat, k ≤ n ∧ u = .int .i64 k ∧ wr.ownsRow w.heap.size 3 1 v (memL sd a q j k).length (ic (memL sd a q j k)) ∧ Below w.heap.size w wr) (fun _ u _ => n - (intOf u).toNat)
  case atStart => exact ⟨0, Nat.zero_le _, rfl, World.ownsRow_nil _ _ _ _, Below.refl _ _⟩
  case round =>
    obtain ⟨k, hk, rfl, hO, hB⟩ := hrel
    obtain ⟨ao, cp, rfl⟩ := own_shape' hO
    have hle := memL_len sd a q j k
    have HSC := hide (memL_succ sd a q j k)
    have HJM := hide (joN_mem sd a q k j)
    have hzr := hB.size
    generalize hjl : (memL sd a q j k).length = jl at *
    have HJL := hide hjl
    have HO := hide hO
    have HB := hide hB
    clear hO hB hjl
    by_cases hlt : k < n
    · have q1 : (k : Int) < n := by omega
      obtain ⟨g, o, rfl, b, d, c0, hN⟩ := (unhide HT).below (unhide HB) k hlt
      have hh := hide (has_any wr (joN sd a q k) b d j (by rw [joN_len]; omega) hN)
      generalize hml : (joN sd a q k).length = ml at *
      clear hml hN
      by_cases hin : (j : Int) ∈ joI sd a q k
      · rw [decide_eq_true ((unhide HJM).2 hin)] at hh
        rw [if_pos hin] at HSC
        clear hin
        go_wp2_with fail
        refine (unhide hh).mono ?_
        rintro e w5 ⟨rfl, hw5⟩
        subst hw5
        go_wp2_with (at_builtin; refine wpList_append_own _ rfl _ _ 26 rfl w.heap.size 3 i0 (.int .i64 0) 1 8 Tryz.undI hi0 hz0 hz1 hz2 rfl (by decide) _ _ _ rfl ((unhide HO).alloc _) ⟨_, 0, none⟩ 1 1 [.int .i64 (k : Int)] rfl rfl (cell_one_new _ _ _) ?e1 ?e2 ?e3 ?e4 ?_)
        case e1 => intro u hu; simp at hu; subst hu; rfl
        case e2 => unfold maxLen; omega
        case e3 => omega
        case e4 => simp; omega
        intro v6 w6 hown6 hgrow _
        have HO6 : Hid (w6.ownsRow w.heap.size 3 1 v6 (memL sd a q j (k + 1)).length (ic (memL sd a q j (k + 1)))) := by
          show World.ownsRow _ _ _ _ _ _ _
          rw [unhide HSC, ic_append, List.length_append, unhide HJL]
          exact hown6
        have HB6 := hide (((unhide HB).alloc hzr (.cells #[.int .i64 (k : Int)] 3)).grown hgrow (by simp; omega) (fun j hj => ((unhide HO).lt j hj).1))
        obtain ⟨a6, q6, rfl⟩ := own_shape' hown6
        clear hown6 hgrow
        go_wp2
        go_roundw
        case rel => exact ⟨k + 1, by omega, by go_num, unhide HO6, unhide HB6⟩
        case measure => simp [intOf]; omega
      · rw [decide_eq_false (fun h => hin ((unhide HJM).1 h))] at hh
        rw [if_neg hin, List.append_nil] at HSC
        clear hin
        go_wp2_with fail
        refine (unhide hh).mono ?_
        rintro e w5 ⟨rfl, hw5⟩
        subst hw5
        go_wp2
        go_roundw
        case rel => exact ⟨k + 1, by omega, by go_num, by rw [unhide HSC, unhide HJL]; exact unhide HO, unhide HB⟩
        case measure => simp [intOf]; omega
    · have hke : k = n := by omega
      subst hke
      have q1 : ¬ (k : Int) < k := by omega
      have HF : Hid (wr.ownsRow w.heap.size 3 1 (.slice ao jl cp) (memL sd a q j k).length (ic (memL sd a q j k))) := by
        show World.ownsRow _ _ _ _ _ _ _
        rw [unhide HJL]
        exact unhide HO
      go_wp2
      go_ret
      exact ⟨⟨_, rfl, unhide HF⟩, unhide HB⟩
set_option maxRecDepth 100000 in
set_option maxHeartbeats 2000000 in
theorem dMembers_any (sd n a q j : Nat) (hsd : sd ≤ 72057594037927935) (hn : n ≤ 96) (ha1 : 1 ≤ a) (ha : a ≤ 64) (hq1 : 1 ≤ q) (hq : q ≤ 8) (hj : j < a) (w : World) :
    Calls Tryz.prog 15 #[plV sd n a q, .int .i64 j] w fun e w' => (∃ v, e = .returned v ∧ w'.ownsRow w.heap.size 3 1 v (memL sd a q j n).length (ic (memL sd a q j n))) ∧ Below w.heap.size w w' := by
  have htb := hide (fun w => dtable_any sd n a q hsd hn ha1 ha hq1 hq w)
  have hb0 : Below w.heap.size w (w.alloc (.cells #[.int .i64 (sd : Int), .int .i64 (n : Int), .int .i64 (a : Int), .int .i64 (q : Int)] 24)) := (Below.refl _ w).alloc (Nat.le_refl _) _
  have HB0 := hide hb0
  obtain ⟨c0, c1, c2, c3⟩ := plan_cellsD w sd n a q _ (Below.refl _ _)
  clear hb0
  unfold plV at *
  go_enter Tryz.func15, Tryz.ntmps15
  go_wp2_with fail
  generalize hW0 : w.alloc (.cells #[.int .i64 (sd : Int), .int .i64 (n : Int), .int .i64 (a : Int), .int .i64 (q : Int)] 24) = W0 at *
  clear hW0
  refine (unhide htb W0).mono ?_
  rintro e w1 ⟨⟨v, rfl, Vs, hO, hR⟩, b1⟩
  obtain ⟨a0, c, rfl, hT⟩ := tab_own hO hR
  have hme := hide (dmem_any sd n a q j hn ha (by omega) a0 c w1 hT)
  have HB1 := hide ((unhide HB0).trans (b1.mono (unhide HB0).size))
  clear hO hR hT b1 c0 c1 c2 c3
  go_wp2_with fail
  refine (unhide hme).mono ?_
  rintro e w2 ⟨⟨v2, rfl, hO2⟩, b2⟩
  have HO2 := hide (own_ge hO2 (unhide HB1).size)
  have HB2 := hide ((unhide HB1).trans (b2.mono (unhide HB1).size))
  obtain ⟨a2, d2, rfl⟩ := own_shape' hO2
  clear hO2 b2
  go_wp2
  go_ret
  exact ⟨⟨_, rfl, unhide HO2⟩, unhide HB2⟩
end Go.Proofs.YtkcnihngkmaecaaGreat
namespace Go.Proofs.YtkcnihngkmaecaaGreat
open Go.RowKit
set_option linter.unusedVariables false
attribute [local go_sem] Oper.semAt_some

set_option maxRecDepth 100000 in
set_option maxHeartbeats 4000000 in
theorem drules_any (sd n a q : Nat) (hsd : sd ≤ 72057594037927935) (hn : n ≤ 96) (ha1 : 1 ≤ a) (ha : a ≤ 64) (hq1 : 1 ≤ q) (hq : q ≤ 8) (w : World) :
    Calls Tryz.prog 17 #[plV sd n a q] w fun e w' => (∃ v, e = .returned v ∧ ∃ Vs, w'.ownsRow w.heap.size 26 1 v a Vs ∧ RowsN w' (ruL sd n a q) a Vs) ∧ Below w.heap.size w w' := by
  obtain ⟨i0, hi0, hz0, hz1, hz2⟩ := info_parts Tryz.infoIs
  obtain ⟨k0, hki, hkz0, hkz1, hkz2⟩ := info_parts Tryz.infoI
  have htb := hide (fun w => dtable_any sd n a q hsd hn ha1 ha hq1 hq w)
  have hb0 : Below w.heap.size w (w.alloc (.cells #[.int .i64 (sd : Int), .int .i64 (n : Int), .int .i64 (a : Int), .int .i64 (q : Int)] 24)) := (Below.refl _ w).alloc (Nat.le_refl _) _
  have HC := hide (plan_cellsD w sd n a q)
  have HB0 := hide hb0
  obtain ⟨c0, c1, c2, c3⟩ := unhide HC _ (Below.refl _ _)
  have hwz : w.heap.size < (w.alloc (.cells #[.int .i64 (sd : Int), .int .i64 (n : Int), .int .i64 (a : Int), .int .i64 (q : Int)] 24)).heap.size := by simp
  clear hb0
  unfold plV at *
  go_enter Tryz.func17, Tryz.ntmps17
  go_wp2_with fail
  generalize hW0 : w.alloc (.cells #[.int .i64 (sd : Int), .int .i64 (n : Int), .int .i64 (a : Int), .int .i64 (q : Int)] 24) = W0 at *
  clear hW0
  refine (unhide htb W0).mono ?_
  rintro e w1 ⟨⟨v1, rfl, Ts, hO1, hR1⟩, b1⟩
  obtain ⟨a1, d1, rfl, hT1⟩ := tab_own hO1 hR1
  have HT := hide hT1
  have HB1 := hide b1
  have hz10 := b1.size
  clear hO1 hR1 hT1 b1 c0 c1 c2 c3
  go_wp2_with fail
  go_loopw [4, 5, 6] (fun v u _ wr => ∃ (k : Nat) (Vs : List Value), k ≤ a ∧ u = .int .i64 k ∧ wr.ownsRow w1.heap.size 26 1 v k Vs ∧ RowsN wr (ruL sd n a q) k Vs ∧ Below w1.heap.size w1 wr) (fun _ u _ _ => a - (intOf u).toNat)
  case atStart => exact ⟨0, [], Nat.zero_le _, rfl, World.ownsRow_nil _ _ _ _, ⟨rfl, fun j hj => absurd hj (by omega)⟩, Below.refl _ _⟩
  case round =>
    obtain ⟨k, Vs, hk, rfl, hO, hR, hB⟩ := hrel
    obtain ⟨ao, cp, rfl⟩ := own_shape' hO
    obtain ⟨c0, c1, c2, c3⟩ := unhide HC wr ((unhide HB1).trans (hB.mono hz10))
    have hzr := hB.size
    have HO := hide hO
    have HR := hide hR
    have HB := hide hB
    clear hO hR hB
    by_cases hlt : k < a
    · have q1 : (k : Int) < a := by omega
      have hme := hide (dmem_any sd n a q k hn ha (by omega) a1 d1 wr ((unhide HT).below (unhide HB)))
      go_wp2_with fail
      refine (unhide hme).mono ?_
      rintro e w2 ⟨⟨v2, rfl, hO2⟩, b2⟩
      clear c0 c1 c2 c3
      obtain ⟨c0, c1, c2, c3⟩ := unhide HC w2 ((unhide HB1).trans (((unhide HB).trans (b2.mono hzr)).mono hz10))
      obtain ⟨a2, d2, rfl⟩ := own_shape' hO2
      have hle := memL_len sd a q k n
      have HRU : Hid (ruL sd n a q k = memL sd a q k n ++ [n + k]) := rfl
      generalize hjl : (memL sd a q k n).length = jl at *
      have HJL := hide hjl
      have HM := hide hO2
      have B2 := hide b2
      have hz2' := b2.size
      clear hO2 b2 hjl
      go_wp2_with (at_builtin; refine wpList_append_own _ rfl _ _ 26 rfl wr.heap.size 3 k0 (.int .i64 0) 1 8 Tryz.undI hki hkz0 hkz1 hkz2 rfl (by decide) _ _ _ rfl ((unhide HM).alloc _) ⟨_, 0, none⟩ 1 1 [.int .i64 ((n : Int) + (k : Int))] rfl rfl (cell_one_new _ _ _) ?e1 ?e2 ?e3 ?e4 ?_)
      case e1 => intro u hu; simp at hu; subst hu; rfl
      case e2 => unfold maxLen; omega
      case e3 => omega
      case e4 => simp; omega
      intro v3 w3 hown3 hgrow3 _
      have b3 := ((unhide B2).alloc hz2' (.cells #[.int .i64 ((n : Int) + (k : Int))] 3)).grown hgrow3 (by simp; omega) (fun j hj => ((unhide HM).lt j hj).1)
      have hown3' : w3.ownsRow wr.heap.size 3 1 v3 (ruL sd n a q k).length (ic (ruL sd n a q k)) := by
        rw [unhide HRU, ic_append, List.length_append, unhide HJL]
        exact hown3
      obtain ⟨a3, d3, rfl, hN3⟩ := nums_of_own hown3'
      have hT3 := numT_own hown3'
      have hRk := ((unhide HR).kt (KT.below b3)).snoc (b := a3) (d := d3) hN3 hT3
      have HO3 : Hid (w3.ownsRow w1.heap.size 26 1 (.slice ao k cp) k Vs) := own_same (unhide HO) (fun b hb => by
        obtain ⟨cu, hc⟩ := own_rows (unhide HO) hb
        exact b3.block b (lt_of_block hc))
      have HRK := hide hRk
      have HB3 := hide ((unhide HB).trans (b3.mono hzr))
      have hz3' := b3.size
      clear hown3 hown3' hgrow3 hN3 hT3 hRk b3 HO HR HM B2 c0 c1 c2 c3
      generalize hrl : (ruL sd n a q k).length = rl at *
      clear hrl
      go_wp2_with (at_builtin; refine wpList_append_own _ rfl _ _ 30 rfl w1.heap.size 26 i0 (.slice none 0 0) 1 24 Tryz.undIs2 hi0 hz0 hz1 hz2 rfl (by decide) _ _ _ rfl ((unhide HO3).alloc _) ⟨w3.heap.size, 0, none⟩ 1 1 [.slice a3 rl d3] rfl rfl (cell_one_new _ _ _) ?e5 ?e6 ?e7 ?e8 ?_)
      case e5 => intro u hu; simp at hu; subst hu; rfl
      case e6 => unfold maxLen; omega
      case e7 => omega
      case e8 => simp; omega
      intro v6 w6 hown6 hgrow _
      have HR6 := hide ((unhide HRK).kt ((KT.alloc w3 (.cells #[.slice a3 rl d3] 26)).trans (KT.grown ((unhide HO3).alloc _) hgrow)))
      have HO6 := hide hown6
      have HB6 := hide (((unhide HB3).alloc (by omega) (.cells #[.slice a3 rl d3] 26)).grown hgrow (by simp; omega) (fun j hj => ((unhide HO3).lt j hj).1))
      obtain ⟨a6, q6, rfl⟩ := own_shape' hown6
      clear hown6 hgrow
      go_wp2
      go_roundw
      case rel => exact ⟨k + 1, _, by omega, by go_num, unhide HO6, unhide HR6, unhide HB6⟩
      case measure => simp [intOf]; omega
    · have hke : k = a := by omega
      subst hke
      have q1 : ¬ (k : Int) < k := by omega
      have HF : Hid (wr.ownsRow w.heap.size 26 1 (.slice ao k cp) k Vs) := own_ge (unhide HO) (by omega)
      have HBF := hide ((unhide HB0).trans (((unhide HB1).trans ((unhide HB).mono hz10)).mono (unhide HB0).size))
      go_wp2
      go_ret
      exact ⟨⟨_, rfl, Vs, unhide HF, unhide HR⟩, unhide HBF⟩
set_option maxRecDepth 100000 in
set_option maxHeartbeats 2000000 in
theorem srows_any (w : World) (n : Nat) (J : Nat → List Nat) (hn : n ≤ 1000) (hJ : ∀ j, j < n → (J j).length ≤ 100000) (a0 b0 : Option Addr) (c d : Nat) (hA : TabV w a0 n J) (hB : TabV w b0 n J) :
    Calls Tryz.prog 16 #[.slice a0 n c, .slice b0 n d] w fun e w' => e = .returned (.bool true) ∧ Below w.heap.size w w' := by
  have HA := hide hA
  have HBB := hide hB
  have HJ := hide hJ
  clear hA hB hJ
  go_enter Tryz.func16, Tryz.ntmps16
  go_wp2_with fail
  go_loopw [5] (fun v wr => ∃ k : Nat, k ≤ n ∧ v = .int .i64 k ∧ Below w.heap.size w wr) (fun v _ => n - (intOf v).toNat)
  case atStart => exact ⟨0, Nat.zero_le _, rfl, Below.refl _ _⟩
  case round =>
    obtain ⟨k, hk, rfl, hB⟩ := hrel
    have HB := hide hB
    clear hB
    by_cases hlt : k < n
    · obtain ⟨g, o, rfl, b, cc, c1, hN1⟩ := (unhide HA).below (unhide HB) k hlt
      obtain ⟨g', o', rfl, b', cc', c2, hN2⟩ := (unhide HBB).below (unhide HB) k hlt
      have hj := unhide HJ k hlt
      have hs : Hid (∀ X : Gb wr, Calls Tryz.prog 13 #[.slice b (J k).length cc, .slice b' (J k).length cc'] X.w fun e w' => e = .returned (.bool true) ∧ Below X.w.heap.size X.w w') := fun X => nsame_any X.w (J k) b b' cc cc' hj (hN1.below X.ok) (hN2.below X.ok)
      generalize (J k).length = jl at *
      clear hN1 hN2
      have hne := gb_ne wr
      have d1 : ∀ x : Gb wr, x.w.cell? ⟨g, o + k, none⟩ = some (.slice b jl cc) := fun x => gb_cell c1 x
      have d2 : ∀ x : Gb wr, x.w.cell? ⟨g', o' + k, none⟩ = some (.slice b' jl cc') := fun x => gb_cell c2 x
      have q1 : (k : Int) < n := by omega
      go_wp2_with fail
      refine wp_region_gr (fun x => Below wr.heap.size wr x) (by kernel_rfl) (by kernel_rfl) (gb_start wr) ?_
      repeat (go_big_quiet_step ((go_at_call 13; exact gb_call (unhide hs _))))
      refine wpQuiet_nil ?_
      rintro w3 ⟨⟨_, hB3⟩, rfl⟩
      have B2 := hide ((unhide HB).trans (hB3.mono (unhide HB).size))
      clear hB3 c1 c2 d1 d2 hne
      go_wp2
      go_roundw
      case rel => exact ⟨k + 1, by omega, by go_num, unhide B2⟩
      case measure => simp [intOf]; omega
    · have q1 : ¬ (k : Int) < n := by omega
      go_wp2
      go_ret
      exact ⟨rfl, unhide HB⟩
set_option maxRecDepth 100000 in
set_option maxHeartbeats 1000000 in
theorem Members_any (sd n a q j : Nat) (hsd : sd ≤ 72057594037927935) (hn1 : 1 ≤ n) (hn : n ≤ 96) (ha1 : 1 ≤ a) (ha : a ≤ 64) (hq1 : 1 ≤ q) (hq : q ≤ 8) (hj : j < a) (w : World) :
    Calls Tryz.prog 8 #[plV sd n a q, .int .i64 j] w fun e w' => ∃ b c, e = .returned (.tuple #[.slice b (memL sd a q j n).length c, .int .i64 0]) ∧ NumsAt w' b (memL sd a q j n) ∧ Below w.heap.size w w' := by
  have hck := hide (fun w => check_any sd n a q w)
  have hme := hide (fun w => members_any sd n a q hsd hn ha1 ha hq1 hq w)
  have hif := hide (fun w => isFrom_any 0 j ((a : Int) - 1) w)
  rw [decide_eq_true (show (0 : Int) ≤ j ∧ (j : Int) ≤ (a : Int) - 1 by omega)] at hif
  have hP : plOk sd n a q = true := by unfold plOk; simp; omega
  rw [hP] at hck
  have hb0 : Below w.heap.size w (w.alloc (.cells #[.int .i64 (sd : Int), .int .i64 (n : Int), .int .i64 (a : Int), .int .i64 (q : Int)] 23)) := (Below.refl _ w).alloc (Nat.le_refl _) _
  have hpc := hide (plan_cells w sd n a q)
  have B0 := hide hb0
  unfold plV at *
  clear hb0 hP
  obtain ⟨c0, c1, c2, c3⟩ := unhide hpc _ (Below.refl _ _)
  go_enter Tryz.func8, Tryz.ntmps8
  go_wp2_with fail
  generalize hW0 : w.alloc (.cells #[.int .i64 (sd : Int), .int .i64 (n : Int), .int .i64 (a : Int), .int .i64 (q : Int)] 23) = W0 at *
  have HW0 := hide hW0
  clear hW0
  refine (unhide hck W0).mono ?_
  rintro e w1 ⟨rfl, b1⟩
  obtain ⟨c0, c1, c2, c3⟩ := unhide hpc w1 b1
  have B1 := hide ((unhide B0).trans (b1.mono (unhide B0).size))
  clear b1
  go_wp2_with fail
  refine (unhide hif w1).mono ?_
  rintro e w2 ⟨rfl, rfl⟩
  go_wp2_with fail
  refine (unhide hme w1).mono ?_
  rintro e w3 ⟨g, rfl, ⟨V, hR⟩, b3⟩
  have B3 := hide ((unhide B1).trans (b3.mono (unhide B1).size))
  have d0 := hR.cell j hj
  obtain ⟨b, cc, hV, hN⟩ := nums_of_own (hR.row j hj)
  rw [hV] at d0
  have HN := hide hN
  have q1 : (j : Int) < a := by omega
  generalize hml : (memL sd a q j n).length = ml at *
  clear hR b3 c0 c1 c2 c3 hV hN
  go_wp2
  go_ret2
  exact ⟨b, cc, by rw [hml]; rfl, unhide HN, unhide B3⟩
set_option maxRecDepth 100000 in
set_option maxHeartbeats 1000000 in
theorem Joins_no (sd n a q i : Int) (hP : plOk sd n a q = false) (w : World) :
    Calls Tryz.prog 7 #[plV sd n a q, .int .i64 i] w fun e w' => e = .returned (.tuple #[.slice none 0 0, .int .i64 1]) ∧ Below w.heap.size w w' := by
  have hck := hide (fun w => check_any sd n a q w)
  rw [hP] at hck
  have hb0 : Below w.heap.size w (w.alloc (.cells #[.int .i64 sd, .int .i64 n, .int .i64 a, .int .i64 q] 23)) := (Below.refl _ w).alloc (Nat.le_refl _) _
  have hpc := hide (plan_cells w sd n a q)
  have B0 := hide hb0
  unfold plV at *
  clear hb0 hP
  obtain ⟨c0, c1, c2, c3⟩ := unhide hpc _ (Below.refl _ _)
  go_enter Tryz.func7, Tryz.ntmps7
  go_wp2_with fail
  refine (unhide hck _).mono ?_
  rintro e w1 ⟨rfl, b1⟩
  have B1 := hide ((unhide B0).trans (b1.mono (unhide B0).size))
  clear b1
  go_wp2
  go_ret2
  exact ⟨rfl, unhide B1⟩
set_option maxRecDepth 100000 in
set_option maxHeartbeats 1000000 in
theorem Joins_out (sd n a q : Nat) (i : Int) (hP : plOk sd n a q = true) (ho : ¬ (0 ≤ i ∧ i < n)) (w : World) :
    Calls Tryz.prog 7 #[plV sd n a q, .int .i64 i] w fun e w' => e = .returned (.tuple #[.slice none 0 0, .int .i64 1]) ∧ Below w.heap.size w w' := by
  have hck := hide (fun w => check_any sd n a q w)
  have hb : 1 ≤ n ∧ n ≤ 96 := by unfold plOk at hP; simp at hP; omega
  rw [hP] at hck
  have hif := hide (fun w => isFrom_any 0 i ((n : Int) - 1) w)
  rw [decide_eq_false (show ¬ ((0 : Int) ≤ i ∧ i ≤ (n : Int) - 1) by omega)] at hif
  have hb0 : Below w.heap.size w (w.alloc (.cells #[.int .i64 (sd : Int), .int .i64 (n : Int), .int .i64 (a : Int), .int .i64 (q : Int)] 23)) := (Below.refl _ w).alloc (Nat.le_refl _) _
  have hpc := hide (plan_cells w sd n a q)
  have B0 := hide hb0
  unfold plV at *
  clear hb0 hP ho
  obtain ⟨c0, c1, c2, c3⟩ := unhide hpc _ (Below.refl _ _)
  go_enter Tryz.func7, Tryz.ntmps7
  go_wp2_with fail
  generalize hW0 : w.alloc (.cells #[.int .i64 (sd : Int), .int .i64 (n : Int), .int .i64 (a : Int), .int .i64 (q : Int)] 23) = W0 at *
  have HW0 := hide hW0
  clear hW0
  refine (unhide hck W0).mono ?_
  rintro e w1 ⟨rfl, b1⟩
  obtain ⟨c0, c1, c2, c3⟩ := unhide hpc w1 b1
  have B1 := hide ((unhide B0).trans (b1.mono (unhide B0).size))
  clear b1
  go_wp2_with fail
  refine (unhide hif w1).mono ?_
  rintro e w2 ⟨rfl, rfl⟩
  go_wp2
  go_ret2
  exact ⟨rfl, unhide B1⟩
set_option maxRecDepth 100000 in
set_option maxHeartbeats 1000000 in
theorem Members_no (sd n a q i : Int) (hP : plOk sd n a q = false) (w : World) :
    Calls Tryz.prog 8 #[plV sd n a q, .int .i64 i] w fun e w' => e = .returned (.tuple #[.slice none 0 0, .int .i64 1]) ∧ Below w.heap.size w w' := by
  have hck := hide (fun w => check_any sd n a q w)
  rw [hP] at hck
  have hb0 : Below w.heap.size w (w.alloc (.cells #[.int .i64 sd, .int .i64 n, .int .i64 a, .int .i64 q] 23)) := (Below.refl _ w).alloc (Nat.le_refl _) _
  have hpc := hide (plan_cells w sd n a q)
  have B0 := hide hb0
  unfold plV at *
  clear hb0 hP
  obtain ⟨c0, c1, c2, c3⟩ := unhide hpc _ (Below.refl _ _)
  go_enter Tryz.func8, Tryz.ntmps8
  go_wp2_with fail
  refine (unhide hck _).mono ?_
  rintro e w1 ⟨rfl, b1⟩
  have B1 := hide ((unhide B0).trans (b1.mono (unhide B0).size))
  clear b1
  go_wp2
  go_ret2
  exact ⟨rfl, unhide B1⟩
set_option maxRecDepth 100000 in
set_option maxHeartbeats 1000000 in
theorem Members_out (sd n a q : Nat) (i : Int) (hP : plOk sd n a q = true) (ho : ¬ (0 ≤ i ∧ i < a)) (w : World) :
    Calls Tryz.prog 8 #[plV sd n a q, .int .i64 i] w fun e w' => e = .returned (.tuple #[.slice none 0 0, .int .i64 1]) ∧ Below w.heap.size w w' := by
  have hck := hide (fun w => check_any sd n a q w)
  have hb : 1 ≤ a ∧ a ≤ 96 := by unfold plOk at hP; simp at hP; omega
  rw [hP] at hck
  have hif := hide (fun w => isFrom_any 0 i ((a : Int) - 1) w)
  rw [decide_eq_false (show ¬ ((0 : Int) ≤ i ∧ i ≤ (a : Int) - 1) by omega)] at hif
  have hb0 : Below w.heap.size w (w.alloc (.cells #[.int .i64 (sd : Int), .int .i64 (n : Int), .int .i64 (a : Int), .int .i64 (q : Int)] 23)) := (Below.refl _ w).alloc (Nat.le_refl _) _
  have hpc := hide (plan_cells w sd n a q)
  have B0 := hide hb0
  unfold plV at *
  clear hb0 hP ho
  obtain ⟨c0, c1, c2, c3⟩ := unhide hpc _ (Below.refl _ _)
  go_enter Tryz.func8, Tryz.ntmps8
  go_wp2_with fail
  generalize hW0 : w.alloc (.cells #[.int .i64 (sd : Int), .int .i64 (n : Int), .int .i64 (a : Int), .int .i64 (q : Int)] 23) = W0 at *
  have HW0 := hide hW0
  clear hW0
  refine (unhide hck W0).mono ?_
  rintro e w1 ⟨rfl, b1⟩
  obtain ⟨c0, c1, c2, c3⟩ := unhide hpc w1 b1
  have B1 := hide ((unhide B0).trans (b1.mono (unhide B0).size))
  clear b1
  go_wp2_with fail
  refine (unhide hif w1).mono ?_
  rintro e w2 ⟨rfl, rfl⟩
  go_wp2
  go_ret2
  exact ⟨rfl, unhide B1⟩
end Go.Proofs.YtkcnihngkmaecaaGreat

/- slices.Grow of nothing, slices.Concat, peel's loose. -/
import Derived.Test.YtfihpmhobjjaaaaPnA
import Derived.Test.YtfihpmhobjjaaaaPnM
import Derived.Test.YtfihpmhobjjaaaaPeN
import Derived.Lib.AppendZerosOnto
namespace Go.Proofs.Ytfihpmhobjjaaaa
open Go.RowKit
set_option linter.unusedVariables false
attribute [local go_sem] Oper.semAt_some

set_option maxRecDepth 100000 in
set_option maxHeartbeats 1000000 in
theorem growI_some (n : Nat) (w : World) (h1 : 1 ≤ n) (h2 : n ≤ 100000) :
    Calls Try.prog 59 #[.slice none 0 0, .int .i64 n] w fun e w' => ∃ v, e = .returned v ∧ w'.ownsRow w.heap.size 3 1 v 0 [] ∧ Below w.heap.size w w' := by
  obtain ⟨i0, hi0, hz0, hz1, hz2⟩ := info_parts Try.infoI
  have hold : (Builtin.firstCells i0.size 0 (.slice none 0 0)).run Try.prog w.drew = .ok ([] : List Value).toArray w.drew := run_firstCells_none w.drew i0.size 0 0 0
  have hrz : ∀ ty, (Builtin.append_ #[23, 3] ty #[.slice none 0 0, .int .i64 n]).run Try.prog w =
      .ok (.slice (some ⟨w.heap.size, 0, none⟩) n (grownCap w n 0 3)) (w.drew.alloc (.cells (([] : List Value).toArray ++ Builtin.zeroCells (Value.int .i64 0).cells n ++ Builtin.zeroCells (Value.int .i64 0).cells (grownCap w n 0 3 - n)) 3)) := fun ty => by
    have h := Lib.run_append_grow_zeros w 23 3 ty 3 i0 (.int .i64 0) .i64 .i64 Try.undI Try.underlying3 hi0 hz0 none 0 0 [] hold n (by omega) (by omega) (by omega) (by omega) (by rw [hz2]; omega)
      (by rw [hz2, Nat.zero_add]; exact growslice_fits (by omega) (by omega))
    rw [Nat.zero_add] at h
    exact h
  have hGn : n ≤ grownCap w n 0 3 := grownCap_ge w _ _ _
  have hGm := grownCap_le_maxLen w n 0 3 (by unfold maxLen; omega)
  obtain ⟨G, hG⟩ : ∃ G, G = grownCap w n 0 3 := ⟨_, rfl⟩
  rw [← hG] at hrz hGn hGm
  obtain ⟨C, hC⟩ : ∃ C : Array Value, C = ([] : List Value).toArray ++ Builtin.zeroCells (Value.int .i64 0).cells n ++ Builtin.zeroCells (Value.int .i64 0).cells (G - n) := ⟨_, rfl⟩
  rw [← hC] at hrz
  have hCs : C.size = G := by
    rw [hC]
    simp [Builtin.zeroCells, Value.cells]
    omega
  have HM := hide hGm
  unfold maxLen at hGm
  clear hold hG hC hi0 hz0 hz1 hz2
  have n0 : (0 : Int) < n := by omega
  go_enter Try.func59, Try.ntmps59
  go_wp2_with (at_builtin; refine Lib.wpList_append_run _ rfl _ _ _ _ rfl _ _ rfl rfl _ _ (hrz _) ?_)
  go_ret
  refine ⟨_, rfl, ⟨rfl, .inr ⟨w.heap.size, G, C, rfl, Nat.le_refl _, ?_, Nat.zero_le _, unhide HM, by rw [hCs]; simp, by simp⟩⟩, ((Below.refl _ _).alloc (Nat.le_refl _) _).drew⟩
  exact heap_alloc_new _ _
set_option maxRecDepth 100000 in
set_option maxHeartbeats 1000000 in
theorem growI_zero (w : World) :
    Calls Try.prog 59 #[.slice none 0 0, .int .i64 0] w fun e w' => ∃ v, e = .returned v ∧ w'.ownsRow w.heap.size 3 1 v 0 [] ∧ Below w.heap.size w w' := by
  go_enter Try.func59, Try.ntmps59
  go_wp2
  go_ret
  exact ⟨_, rfl, World.ownsRow_nil _ _ _ _, Below.refl _ _⟩
theorem growI (n : Nat) (w : World) (h2 : n ≤ 100000) :
    Calls Try.prog 59 #[.slice none 0 0, .int .i64 n] w fun e w' => ∃ v, e = .returned v ∧ w'.ownsRow w.heap.size 3 1 v 0 [] ∧ Below w.heap.size w w' := by
  rcases Nat.eq_zero_or_pos n with rfl | h
  · exact growI_zero w
  · exact growI_some n w h h2
theorem news_ints {w : World} {g o : Nat} {l : List Int} (hI : Ints w (some ⟨g, o, none⟩) l) : ∀ j u, (ic l)[j]? = some u → w.cell? ((⟨g, o, none⟩ : Addr).add j) = some u := fun j u hu => by
  have hj : j < l.length := by
    rcases Nat.lt_or_ge j l.length with h | h
    · exact h
    · rw [List.getElem?_eq_none (by simpa [ic] using h)] at hu; cases hu
  obtain ⟨g', o', he, hc⟩ := hI j hj
  simp only [Option.some.injEq, Addr.mk.injEq] at he
  obtain ⟨rfl, rfl, _⟩ := he
  rw [Addr.add_mid, hc]
  simp [ic, hj] at hu
  rw [← hu]
/-- a row of integers, empty or not, put to a row of the call's own -/
theorem append_ints (w : World) (base : Nat) (v : Value) (xs l : List Int) (a0 : Option Addr) (c : Nat) (hown : w.ownsRow base 3 1 v xs.length (ic xs)) (hI : Ints w a0 l) (hl : xs.length + l.length ≤ 100000) (hbase : base ≤ w.heap.size) (ty : TypeId) :
    ∃ ao cap w', (Builtin.append_ #[23, 23] ty #[v, .slice a0 l.length c]).run Try.prog w = .ok (.slice ao (xs.length + l.length) cap) w' ∧ w'.ownsRow base 3 1 (.slice ao (xs.length + l.length) cap) (xs ++ l).length (ic (xs ++ l)) ∧ w.grownBy w' v.ownBlock := by
  obtain ⟨i0, hi0, hz0, hz1, hz2⟩ := info_parts Try.infoI
  rcases Nat.eq_zero_or_pos l.length with h0 | h0
  · obtain ⟨ao, cap, rfl⟩ := own_shape2 hown
    have hl0 : l = [] := List.length_eq_zero_iff.1 h0
    subst hl0
    refine ⟨ao, cap, w, run_append_emptyN base _ _ _ i0 1 Try.undI hi0 _ _ _ hown a0 c, ?_, World.grownBy.refl _ _⟩
    rw [List.append_nil]
    exact hown
  · obtain ⟨g, o, rfl, _⟩ := hI 0 h0
    obtain ⟨v', w', hr, h1, h2, _⟩ := run_append_own (P := Try.prog) w base 23 ty 3 i0 (.int .i64 0) 1 8 Try.undI hi0 hz0 hz1 hz2 rfl (by decide) v xs.length (ic xs) hown ⟨g, o, none⟩ l.length c (ic l) (by simp [ic]) (news_ints hI) (fun u hu => by simp only [ic, List.mem_map] at hu; obtain ⟨x, _, rfl⟩ := hu; rfl) (by unfold maxLen; omega) (by omega) hbase
    obtain ⟨ao, cap, rfl⟩ := own_shape2 h1
    refine ⟨ao, cap, w', hr, ?_, h2⟩
    rw [List.length_append, ic_append]
    exact h1
def catI (Rs : List (List Int)) (k : Nat) : List Int := (Rs.take k).flatten
theorem catI_succ {Rs : List (List Int)} {k : Nat} (h : k < Rs.length) : catI Rs (k + 1) = catI Rs k ++ Rs[k] := by
  unfold catI
  rw [List.take_succ_eq_append_getElem h, List.flatten_append]
  simp
theorem catI_all (Rs : List (List Int)) : catI Rs Rs.length = Rs.flatten := by unfold catI; rw [List.take_length]
theorem catI_le (Rs : List (List Int)) (k : Nat) : (catI Rs k).length ≤ Rs.flatten.length := by
  unfold catI
  conv => rhs; rw [← List.take_append_drop k Rs, List.flatten_append, List.length_append]
  omega
set_option maxRecDepth 100000 in
set_option maxHeartbeats 1000000 in
theorem concatI (Rs : List (List Int)) (a0 : Option Addr) (c : Nat) (hl : Rs.flatten.length ≤ 100000) (hm : Rs.length ≤ 1000) (w : World) (hI : RowsA w a0 Rs) :
    Calls Try.prog 50 #[.slice a0 Rs.length c] w fun e w' => ∃ v, e = .returned v ∧ w'.ownsRow w.heap.size 3 1 v Rs.flatten.length (ic Rs.flatten) ∧ Below w.heap.size w w' := by
  have HI := hide hI
  have HG := hide (fun w => growI Rs.flatten.length w hl)
  have HA := hide (catI_all Rs)
  have HC := hide (catI_le Rs)
  have HL := hide hl
  generalize hF : Rs.flatten = F at *
  generalize hM : Rs.length = m at *
  have HM := hide hM
  clear hI hF hM hl
  go_enter Try.func50, Try.ntmps50
  go_wp2_with fail
  go_loop [3, 11] (fun z v => ∃ i : Nat, i ≤ m ∧ v = .int .i64 i ∧ z = .int .i64 (catI Rs i).length) (fun _ v => m - (intOf v).toNat)
  case atStart => exact ⟨0, Nat.zero_le _, rfl, rfl⟩
  case round =>
    obtain ⟨i, hi, rfl, rfl⟩ := hrel
    by_cases hlt : i < m
    · have hlt' : i < Rs.length := by rw [unhide HM]; exact hlt
      obtain ⟨g, o, rfl, b, cc, c1, _⟩ := unhide HI i hlt'
      have e1 : Hid ((catI Rs (i + 1)).length = (catI Rs i).length + Rs[i].length) := by show _ = _; rw [catI_succ hlt', List.length_append]
      have e2 := unhide HC (i + 1)
      have e3 := unhide HC i
      have e4 := unhide HL
      rw [unhide e1] at e2
      generalize (catI Rs i).length = x at *
      generalize Rs[i].length = y at *
      have q1 : (i : Int) < m := by omega
      go_wp2
      go_round
      case rel => exact ⟨i + 1, by omega, by go_num, by rw [unhide e1]; go_num⟩
      case measure => simp [intOf]; omega
    · have him : i = m := by omega
      subst him
      have q1 : ¬ (i : Int) < i := by omega
      rw [unhide HA]
      have hgn2 := hide (unhide HG w)
      have hll := unhide HL
      generalize hx : F.length = x at *
      have HX := hide hx
      clear hx
      go_wp2_with fail
      refine (unhide hgn2).mono ?_
      rintro e w1 ⟨v1, rfl, hown, b1⟩
      have HO := hide hown
      have HB := hide b1
      obtain ⟨ao1, cp1, rfl⟩ := own_shape' hown
      clear hown b1 hgn2
      go_wp2_with fail
      go_loopw [6, 27] (fun v k wr => ∃ j : Nat, j ≤ i ∧ k = .int .i64 j ∧ wr.ownsRow w.heap.size 3 1 v (catI Rs j).length (ic (catI Rs j)) ∧ Below w.heap.size w wr) (fun _ k _ => i - (intOf k).toNat)
      case atStart => exact ⟨0, Nat.zero_le _, rfl, unhide HO, unhide HB⟩
      case round =>
        clear HO HB
        obtain ⟨j, hj, rfl, hown, hb⟩ := hrel
        obtain ⟨ao, cp, rfl⟩ := own_shape' hown
        by_cases hlt : j < i
        · have hlt' : j < Rs.length := by rw [unhide HM]; exact hlt
          obtain ⟨g, o, rfl, b, cc, c1, hS⟩ := unhide HI j hlt'
          have c1' := cell_below c1 hb
          have e2 := unhide HC (j + 1)
          rw [catI_succ hlt', List.length_append] at e2
          have e4 := unhide HL
          have hap := fun ty => append_ints wr w.heap.size _ (catI Rs j) Rs[j] b cc hown (hS.below hb) (by omega) hb.size ty
          have hbz := hb.size
          obtain ⟨ao', cp', w6, hr, ho6, hg6⟩ := hap 23
          have HB6 := hide (hb.grown hg6 (by omega) (fun q hq => ((hown.lt q hq).1)))
          have HO6 : Hid (w6.ownsRow w.heap.size 3 1 (.slice ao' ((catI Rs j).length + Rs[j].length) cp') (catI Rs (j + 1)).length (ic (catI Rs (j + 1)))) := by
            show World.ownsRow _ _ _ _ _ _ _
            rw [catI_succ hlt']
            exact ho6
          have q1 : (j : Int) < i := by omega
          generalize hxx : (catI Rs j).length = xx at *
          generalize hyy : Rs[j].length = yy at *
          have hr' : Hid _ := hr
          clear ho6 hg6 hown hb hap hS c1 hxx hyy hr
          go_wp2_with (at_builtin; refine Lib.wpList_append_run _ rfl _ _ _ _ rfl _ _ rfl rfl _ _ (unhide hr') ?_)
          go_wp2
          go_roundw
          case rel => exact ⟨j + 1, by omega, by go_num, unhide HO6, unhide HB6⟩
          case measure => simp [intOf]; omega
        · have hjm : j = i := by omega
          subst hjm
          have q2 : ¬ (j : Int) < j := by omega
          have HZ : Hid (wr.ownsRow w.heap.size 3 1 (.slice ao (catI Rs j).length cp) x (ic F) ∧ Below w.heap.size w wr) := by
            have h0 := hown
            refine ⟨?_, hb⟩
            rw [unhide HA, unhide HX] at h0 ⊢
            exact h0
          generalize (catI Rs j).length = dl at *
          clear hown hb
          go_wp2
          go_ret
          exact ⟨_, rfl, by rw [unhide HX]; exact (unhide HZ).1, (unhide HZ).2⟩
theorem zs_flat : ∀ R : List (List Nat), (R.map zs).flatten = zs R.flatten
  | [] => rfl
  | r :: R => by
    rw [List.map_cons, List.flatten_cons, List.flatten_cons, zs_flat R]
    simp [zs]
theorem inS_flat (R : List (List Nat)) (i : Nat) : inS R.flatten i = inR R i := by
  unfold inS inR
  rw [Bool.eq_iff_iff]
  simp [List.mem_flatten]
theorem flat_len {n : Nat} : ∀ {R : List (List Nat)}, (∀ r ∈ R, r.length ≤ n) → R.flatten.length ≤ R.length * n
  | [], _ => by simp
  | r :: R, h => by
    have h1 := h r (by simp)
    have h2 := flat_len (R := R) (fun x hx => h x (by simp [hx]))
    rw [List.flatten_cons, List.length_append, List.length_cons, Nat.succ_mul]
    omega
set_option maxRecDepth 100000 in
set_option maxHeartbeats 1000000 in
theorem loose_any (n : Nat) (R : List (List Nat)) (K : List Nat) (h : Pl n R K) (a0 : Option Addr) (c g : Nat) (S : Nat → Bool) (w : World) (hI : RowsC w a0 R) (hM : MkAt w g S) :
    Calls Try.prog 35 #[.int .i64 n, .slice a0 R.length c, .pointer (some ⟨g, 0, none⟩)] w fun e w' => ∃ v, e = .returned v ∧ w'.ownsRow w.heap.size 3 1 v (loN n R S).length (ic (zs (loN n R S))) ∧ Below w.heap.size w w' := by
  obtain ⟨i0, hi0, hz0, hz1, hz2⟩ := info_parts Try.infoI
  have h160 := h.n160
  have h400 := h.m400
  have hfl : R.flatten.length ≤ 64000 := by
    have h1 := flat_len h.rlen
    have h2 : R.length * n ≤ 400 * 160 := Nat.mul_le_mul h400 h160
    omega
  have hcc := concatI (R.map zs) a0 c (by rw [zs_flat, zs_length]; omega) (by rw [List.length_map]; omega) w hI.rowsA
  rw [zs_flat, zs_length, List.length_map] at hcc
  have HC := hide hcc
  have HMK := hide (fun W k0 kc (hi : Ints W k0 (zs R.flatten)) => marked_any R.flatten k0 kc (fun x hx => by
    obtain ⟨r, h1, h2⟩ := List.mem_flatten.1 hx
    have := h.lt r h1 x h2
    omega) (by unfold maxLen; omega) W hi)
  have HIF := hide (inS_flat R)
  have HE : Hid (loN n R S = (List.range n).filter fun i => !inR R i && !S i) := rfl
  generalize hL : loN n R S = L at *
  have HM := hide hM
  generalize R.length = m at *
  generalize hfe : R.flatten = F at *
  generalize hfl2 : F.length = fl at *
  have HFL := hide hfl2
  have hgw := hM.lt
  clear hI hM h hcc hL hfe hfl2
  go_enter Try.func35, Try.ntmps35
  go_wp2_with fail
  refine (unhide HC).mono ?_
  rintro e w1 ⟨v1, rfl, ho1, b1⟩
  obtain ⟨f0, fc, e0, hiF, _, _⟩ := OwnI.ints (l := zs F) (by show World.ownsRow _ _ _ _ _ _ _; rw [zs_length, unhide HFL]; exact ho1)
  rw [zs_length, unhide HFL] at e0
  subst e0
  have B1 := hide b1
  have hmk := unhide HMK w1 f0 fc hiF
  have hmk := hide hmk
  clear b1 ho1 hiF
  go_wp2_with fail
  refine (unhide hmk).mono ?_
  rintro e w2 ⟨rfl, b2⟩
  have B2 := hide ((unhide B1).trans (b2.mono (unhide B1).size))
  clear b2
  have hmn := mk_new w2 (inS F)
  have hmb := mk_below w2 (inS F)
  have hmt := mk_there w2
  have hS1 : (mc (inS F)).toArray.size = 160 := by rw [List.size_toArray, mc_length]
  have hS2 : (mc (inS F)).toArray.all (·.oneCell') = true := all_oneCell_toArray (mc_one _)
  have hSL : (mc (inS F)).toArray.toList = mc (inS F) := rfl
  rw [← hSL] at hmn hmb
  clear hSL
  generalize hSe : (mc (inS F)).toArray = SA at *
  have hi2 : Hid ((Try.prog.info? 47).map (·.size) = some SA.size) := by show _ = _; rw [hS1]; kernel_rfl
  have ht3 : Hid ((w2.alloc (.cells Try.zeroCells47 47)).there w2.heap.size 0 SA.size) := by show World.there _ _ _ _; rw [hS1]; exact hmt
  have HMN := hide hmn
  have HMB := hide hmb
  clear hS1 hmt hmn hmb hSe
  go_wp2_with (refine wpList_store_mid rfl 47 (.tmp 7) (.tmp 12) rfl w2.heap.size 0 SA rfl rfl (unhide ht3) (unhide hi2) hS2 ?_)
  have B3 := hide ((unhide B2).trans ((unhide HMB).mono (unhide B2).size))
  have hsz3 : w2.heap.size < ((w2.alloc (.cells Try.zeroCells47 47)).setCells w2.heap.size 0 SA.toList).heap.size := (unhide HMN).lt
  have hsz2 := (unhide B2).size
  generalize hw3 : ((w2.alloc (.cells Try.zeroCells47 47)).setCells w2.heap.size 0 SA.toList) = w3 at *
  have HMG := hide ((unhide HM).kept (unhide B3))
  have hB3s := (unhide B3).size
  clear hw3 ht3 HMB HMK hmk HM HC
  generalize w2.heap.size = g2 at *
  go_wp2_with fail
  go_loopw [8, 14] (fun v u wr => ∃ k : Nat, k ≤ n ∧ u = .int .i64 k ∧ wr.ownsRow w3.heap.size 3 1 v ((List.range k).filter fun i => !inR R i && !S i).length (ic (zs ((List.range k).filter fun i => !inR R i && !S i))) ∧ MkAt wr g2 (inS F) ∧ MkAt wr g S ∧ Below w3.heap.size w3 wr) (fun _ u _ => n - (intOf u).toNat)
  case atStart => exact ⟨0, by omega, rfl, World.ownsRow_nil _ _ _ _, unhide HMN, unhide HMG, Below.refl _ _⟩
  case round =>
    obtain ⟨k, hk, rfl, hO, hM2, hM, hB⟩ := hrel
    obtain ⟨ao, cp, rfl⟩ := own_shape2 hO
    have hbs := hB.size
    by_cases hlt : k < n
    · have c1 := hM.cell k (by omega)
      have c2 := hM2.cell k (by omega)
      rw [unhide HIF] at c2
      have q1 : (k : Int) < n := by omega
      have q2 : (k : Int) < 160 := by omega
      have hln : ((List.range k).filter fun i => !inR R i && !S i).length ≤ 160 := by
        have := List.length_filter_le (fun i => !inR R i && !S i) (List.range k)
        simp at this
        omega
      have HRS : Hid ((List.range (k + 1)).filter (fun i => !inR R i && !S i) = (List.range k).filter (fun i => !inR R i && !S i) ++ if (!inR R k && !S k) = true then [k] else []) := by
        show _ = _
        rw [List.range_succ, List.filter_append]
        congr 1
        cases hq : inR R k <;> cases hq2 : S k <;> simp [hq, hq2]
      have HX : (!inR R k && !S k) = false → Hid (wr.ownsRow w3.heap.size 3 1 (.slice ao ((List.range k).filter fun i => !inR R i && !S i).length cp) ((List.range (k + 1)).filter fun i => !inR R i && !S i).length (ic (zs ((List.range (k + 1)).filter fun i => !inR R i && !S i))) ∧ MkAt wr g2 (inS F) ∧ MkAt wr g S ∧ Below w3.heap.size w3 wr) := by
        intro hf
        have := unhide HRS
        rw [hf] at this
        simp only [Bool.false_eq_true, if_false, List.append_nil] at this
        show _ ∧ _
        rw [this]
        exact ⟨hO, hM2, hM, hB⟩
      cases hfk : inR R k with
      | true =>
        have HX2 := HX (by rw [hfk]; rfl)
        rw [hfk] at c2
        generalize ((List.range k).filter fun i => !inR R i && !S i).length = dl at *
        clear hO hM2 hM hB hfk HRS HX c1
        go_wp2
        go_roundw
        case rel => exact ⟨k + 1, by omega, by go_num, unhide HX2⟩
        case measure => simp [intOf]; omega
      | false =>
        rw [hfk] at c2
        cases hsk : S k with
        | true =>
          have HX2 := HX (by rw [hfk, hsk]; rfl)
          rw [hsk] at c1
          generalize ((List.range k).filter fun i => !inR R i && !S i).length = dl at *
          clear hO hM2 hM hB hfk HRS HX hsk
          go_wp2
          go_roundw
          case rel => exact ⟨k + 1, by omega, by go_num, unhide HX2⟩
          case measure => simp [intOf]; omega
        | false =>
          rw [hsk] at c1
          rw [hfk, hsk] at HRS
          simp only [Bool.not_false, Bool.and_self, if_true] at HRS
          have HO := hide hO
          have HMM := hide hM
          have HMM2 := hide hM2
          have HB := hide hB
          generalize hDe : (List.range k).filter (fun i => !inR R i && !S i) = D at *
          generalize hdl : D.length = dl at *
          have HDL := hide hdl
          clear hO hM hM2 hB hfk hsk hDe hdl HX
          go_wp2_with (at_builtin; refine wpList_append_own _ rfl _ _ 23 rfl w3.heap.size 3 i0 (.int .i64 0) 1 8 Try.undI hi0 hz0 hz1 hz2 rfl (by decide) _ _ _ rfl ((unhide HO).alloc _) ⟨wr.heap.size, 0, none⟩ 1 1 [.int .i64 (k : Int)] ?cx rfl ?cn ?c2 ?c3 ?c4 ?c5 ?_)
          case cn => exact news_lit wr [.int .i64 (k : Int)] 3
          case c2 => intro u hu; simp at hu; rw [hu]; rfl
          case c3 => unfold maxLen; omega
          case c4 => omega
          case c5 => simp; omega
          all_goals try rfl
          intro v' w7 hown7 hgrow7 _
          obtain ⟨ao', cp', rfl⟩ := own_shape2 hown7
          have hb7 : Below w3.heap.size wr w7 := ((Below.refl w3.heap.size _).alloc (by omega) _).grown hgrow7 (by simp; omega) (fun q hq => ((unhide HO).lt q hq).1)
          have HM7 := hide ((unhide HMM).below hb7 (by omega))
          have HM8 := hide ((unhide HMM2).below hb7 hsz3)
          have HB7 := hide ((unhide HB).trans hb7)
          have HO7 : Hid (w7.ownsRow w3.heap.size 3 1 (.slice ao' (dl + 1) cp') ((List.range (k + 1)).filter fun i => !inR R i && !S i).length (ic (zs ((List.range (k + 1)).filter fun i => !inR R i && !S i)))) := by
            show World.ownsRow _ _ _ _ _ _ _
            rw [unhide HRS, List.length_append, unhide HDL]
            unfold zs
            rw [List.map_append, ic_append]
            exact hown7
          clear hb7 hown7 hgrow7 c1
          go_wp2
          go_roundw
          case rel => exact ⟨k + 1, by omega, by go_num, unhide HO7, unhide HM8, unhide HM7, unhide HB7⟩
          case measure => simp [intOf]; omega
    · have hkn : k = n := by omega
      subst hkn
      have q1 : ¬ (k : Int) < k := by omega
      have HX : Hid (wr.ownsRow w.heap.size 3 1 (.slice ao ((List.range k).filter fun i => !inR R i && !S i).length cp) L.length (ic (zs L)) ∧ Below w.heap.size w wr) := by
        rw [unhide HE]
        exact ⟨own_mono hO hB3s, (unhide B3).trans (hB.mono hB3s)⟩
      generalize ((List.range k).filter fun i => !inR R i && !S i).length = dl at *
      clear hO hM hM2 hB
      go_wp2
      go_ret
      exact ⟨_, rfl, unhide HX⟩
end Go.Proofs.Ytfihpmhobjjaaaa

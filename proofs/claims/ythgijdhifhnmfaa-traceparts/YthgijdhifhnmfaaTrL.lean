/- TraceParts. -/
import Derived.Test.YthgijdhifhnmfaaTrH
import Derived.Test.YthgijdhifhnmfaaOpenEv
import Derived.Test.YthgijdhifhnmfaaRel
namespace Go.Proofs.Ythgijdhifhnmfaa
open Go.RowKit
set_option linter.unusedVariables false
attribute [local go_sem] Oper.semAt_some

/-- what the calls of a round answer -/
def RelT (l : List Ev) (i : Int) : Nat → Value → World → Prop
  | 4, v, z => ∃ a c, v = .slice a l.length c ∧ EvsAt z a l
  | _, v, _ => v = .int .i64 i
theorem RelT.stay (l : List Ev) (i : Int) (j : Nat) (v : Value) (z z' : World) (h : RelT l i j v z) (hb : Below z.heap.size z z') : RelT l i j v z' := by
  unfold RelT at h ⊢
  split at h
  · obtain ⟨a, c, h1, h2⟩ := h; exact ⟨a, c, h1, h2.below hb⟩
  · exact h
theorem mask_in {m : List Bool} {j : Nat} (h : m[j]? = some true) : j ∈ (List.range m.length).filter fun i => m[i]? == some true :=
  List.mem_filter.2 ⟨List.mem_range.2 (List.getElem?_eq_some_iff.1 h).1, by simp [h]⟩
theorem EvsAt.bel2 {w w' : World} {a0 : Option Addr} {l : List Ev} (h : EvsAt w a0 l) (hb : Below w.heap.size w w') : EvsAt w' a0 l := h.below hb
theorem four_get (l : List Ev) (i : Nat) (hi : i < 4) : (four l)[i]? = some (.int .i64 (kn l (i : Int))) := by
  rcases (show i = 0 ∨ i = 1 ∨ i = 2 ∨ i = 3 by omega) with rfl | rfl | rfl | rfl <;> rfl
set_option maxRecDepth 100000 in
set_option maxHeartbeats 4000000 in
theorem traceParts_few (a0 : Option Addr) (l : List Ev) (c : Nat) (f t : Int) (w : World) (hl : EvsAt w a0 l) (hk : EvsOk l c) (hf : fewB l 100 = false) :
    Calls Try.prog 5 #[.slice a0 l.length c, .int .i64 f, .int .i64 t] w fun e w' => e = .returned (.bool true) ∧ Below w.heap.size w w' := by
  have h1 := hide (few_any a0 l c 100 w hl (by have := hk.1; have := hk.2.1; omega))
  rw [hf] at h1
  generalize l.length = n at *
  clear hl hk hf
  go_enter Try.func5, Try.ntmps5
  go_wp2_with fail
  refine (unhide h1).mono ?_
  rintro e w1 ⟨rfl, rfl⟩
  go_wp2_with fail
  refine (tawake_any w).mono ?_
  rintro e w1 ⟨rfl, b1⟩
  have HB := hide b1
  clear b1
  go_wp2
  go_ret
  exact ⟨rfl, unhide HB⟩
set_option maxRecDepth 100000 in
set_option maxHeartbeats 8000000 in
theorem traceParts_main (a0 : Option Addr) (l : List Ev) (c : Nat) (f t : Int) (w : World) (hl : EvsAt w a0 l) (hk : EvsOk l c) (hf : fewB l 100 = true) :
    Calls Try.prog 5 #[.slice a0 l.length c, .int .i64 f, .int .i64 t] w fun e w' => e = .returned (.bool true) ∧ Below w.heap.size w w' := by
  have hn100 : l.length ≤ 100 := by
    unfold fewB at hf
    simp at hf
    omega
  have h1 := hide (few_any a0 l c 100 w hl (by have := hk.1; have := hk.2.1; omega))
  rw [hf] at h1
  have hKD := hide (kinds_any a0 l c w hl (by omega))
  have HL := hide hl
  have HK := hide hk
  have HG := hide (four_get l)
  obtain ⟨n, hn⟩ : ∃ n, n = l.length := ⟨_, rfl⟩
  rw [← hn] at h1 hKD hn100 ⊢
  have HN := hide hn
  have hfour : ∃ f0 f1 f2 f3 : Value, four l = #[f0, f1, f2, f3] := ⟨_, _, _, _, rfl⟩
  clear hl hk hf hn
  go_enter Try.func5, Try.ntmps5
  go_wp2_with fail
  refine (unhide h1).mono ?_
  rintro e wz ⟨rfl, rfl⟩
  go_wp2_with fail
  refine (unhide hKD).mono ?_
  rintro e w1 ⟨rfl, b1⟩
  have HFO : Hid (four l = #[.int .i64 (kn l 0), .int .i64 (kn l 1), .int .i64 (kn l 2), .int .i64 (kn l 3)]) := rfl
  rw [unhide HFO]
  obtain ⟨W, hW⟩ : ∃ W, W = w1.alloc (.cells #[.int .i64 (kn l 0), .int .i64 (kn l 1), .int .i64 (kn l 2), .int .i64 (kn l 3)] 40) := ⟨_, rfl⟩
  have HBW : Hid (Below w.heap.size w W) := by rw [hW]; exact b1.alloc b1.size _
  have HXW : Hid (W.heap[w1.heap.size]? = some (.cells (four l) 40 (0, 0))) := by rw [hW]; exact heap_alloc_new w1 _
  clear b1 h1 hKD hfour
  generalize (kn l 0 : Int) = k0 at hW ⊢
  generalize (kn l 1 : Int) = k1 at hW ⊢
  generalize (kn l 2 : Int) = k2 at hW ⊢
  generalize (kn l 3 : Int) = k3 at hW ⊢
  go_wp2_with fail
  rw [← hW]
  generalize hX : w1.heap.size = X at *
  clear hW hX
  go_loopw [8] (fun v wr => ∃ i : Nat, i ≤ 4 ∧ v = .int .i64 i ∧ Below W.heap.size W wr) (fun v _ => 4 - (intOf v).toNat)
  case atStart => exact ⟨0, by omega, rfl, Below.refl _ _⟩
  case round =>
    obtain ⟨i, hi, rfl, hB⟩ := hrel
    have HB := hide hB
    by_cases hlt : i < 4
    · have q1 : (i : Int) < 4 := by omega
      have hcell : wr.cell? ⟨X, i, none⟩ = some (.int .i64 (kn l (i : Int))) := by
        refine cell_below ?_ hB
        rw [cell_of_row _ _ _ _ _ _ (unhide HXW)]
        exact unhide HG i hlt
      obtain ⟨m, hm⟩ : ∃ m : Int, m = (kn l (i : Int) : Nat) := ⟨_, rfl⟩
      rw [← hm] at hcell
      have HCE := hide hcell
      have hBB := (unhide HBW).trans (hB.mono (unhide HBW).size)
      have HLr := hide ((unhide HL).bel2 hBB)
      have HM := hide hm
      clear hB hcell hm hBB
      go_wp2_with fail
      refine wp_region_rel [false, false, false, false, true, false, true, false] [] [6] [23, 25] (Act.put _ (some 25) (.int .i64 m)) ?A91 (fun x y => Below x.heap.size x y) (RelT l m) (by kernel_rfl) (by kernel_rfl) (fun x y z h1 h2 => h1.trans (h2.mono h1.size)) (fun x y h => h) (fun j v x y h hb => RelT.stay _ _ j v x y h hb) ((Off.refl _ _).put 25 _ (by simp)) ?det1 ?lex1 ?gA1 ?st1 ?fin1
      case lex1 =>
        intro z hz
        have hneX := gb_ne z
        have e0 : ∀ y : Gb z, y.w.cell? ⟨X, i, none⟩ = some (.int .i64 m) := fun y => gb_cell (cell_below (unhide HCE) hz) y
        dsimp only [restM]
        simp only [Act.put, List.setIfInBounds_toArray, List.set_cons_succ, List.set_cons_zero]
        repeat (go_big_quiet_step ((fail)))
        refine wpQuiet_nil ?_
        exact rfl
      case det1 =>
        intro j hj o s ho hs v z hR
        simp only [List.mem_singleton] at hj
        subst hj
        simp only [List.getElem?_cons_succ, List.getElem?_cons_zero, Option.some.injEq] at ho
        subst ho
        simp only [Option.some.injEq] at hs
        subst hs
        exact hR.trans rfl
      case gA1 =>
        intro g hg
        simp at hg
      case st1 =>
        intro j o ho hmj z bb hz hop
        have hj : j ∈ [4, 6] := mask_in hmj
        simp only [List.mem_cons, List.not_mem_nil, or_false] at hj
        rcases hj with rfl | rfl
        · simp only [List.getElem?_cons_succ, List.getElem?_cons_zero, Option.some.injEq] at ho
          subst ho
          have y0 : bb.eval (.tmp 22) = .slice a0 n c := hop 22 (by simp [Op.operands, Call.operands])
          have hrr := refs_any a0 l c z ((unhide HLr).below hz) (by rw [← unhide HN]; omega)
          rw [← unhide HN] at hrr
          refine wp_call 10 #[.tmp 22] _ rfl Try.call10 #[.slice a0 n c] (by simp [y0]) hrr ?_
          rintro e w7 ⟨v, rfl, hR⟩
          obtain ⟨a7, c7, hv7, he7, _⟩ := hR.own.evs
          exact ⟨_, rfl, _, rfl, ⟨a7, c7, hv7, he7⟩, hR.be⟩
        · simp only [List.getElem?_cons_succ, List.getElem?_cons_zero, Option.some.injEq] at ho
          subst ho
          obtain ⟨aa, ca, y0, hEa⟩ : ∃ a c, bb.eval (.tmp 23) = .slice a l.length c ∧ EvsAt z a l := hop 23 (by simp [Op.operands, Call.operands])
          have y1 : bb.eval (.tmp 24) = .int .i64 i := hop 24 (by simp [Op.operands, Call.operands])
          have hkk := kind_any aa l ca i z hEa (by rw [← unhide HN]; omega)
          rw [← unhide HM] at hkk
          refine wp_call 17 #[.tmp 23, .tmp 24] _ rfl Try.call17 #[.slice aa l.length ca, .int .i64 i] (by simp [y0, y1]) hkk ?_
          rintro e w7 ⟨rfl, rfl⟩
          exact ⟨_, rfl, _, rfl, rfl, Below.refl _ _⟩
      case fin1 =>
        intro bb z hz hoff hrel
        have hall := Off.all _ _ hoff
        simp only [List.foldl_cons, List.foldl_nil] at hall
        generalize bb.eval (.tmp 23) = v23 at hall
        generalize bb.eval (.tmp 25) = v25 at hall
        rw [hall]
        clear hall hrel hoff bb
        have HBr := hide ((unhide HB).trans (hz.mono (unhide HB).size))
        clear hz
        simp only [Act.put, List.setIfInBounds_toArray, List.set_cons_succ, List.set_cons_zero]
        go_wp2
        go_roundw
        case rel => exact ⟨i + 1, by omega, by go_num, unhide HBr⟩
        case measure => simp [intOf]; omega
    · have q1 : ¬ (i : Int) < 4 := by omega
      have hBB := (unhide HBW).trans (hB.mono (unhide HBW).size)
      have HBB := hide hBB
      clear hB HB
      go_wp2_with fail
      refine (tawake_any wr).mono ?_
      rintro e w2 ⟨rfl, b2⟩
      have hb2 := hBB.trans (b2.mono hBB.size)
      have HB2 := hide hb2
      have hL2 := (unhide HL).bel2 hb2
      have HL2 := hide hL2
      have hpa := part_any a0 l c f t w2 hL2 (by rw [← unhide HN]; omega) ⟨(unhide HK).1, (unhide HK).2.1⟩
      rw [← unhide HN] at hpa
      have HPA := hide hpa
      obtain ⟨pl, hpl⟩ : ∃ pl, pl = pt l f t n := ⟨_, rfl⟩
      rw [← hpl] at HPA
      have hpln : pl.length ≤ 100000 := by
        have := pt_len l f t n
        rw [← hpl] at this
        omega
      have HPL := hide hpl
      clear b2 hb2 hL2 hpa hpl hBB
      go_wp2_with fail
      refine (unhide HPA).mono ?_
      rintro e w3 ⟨v3, rfl, hR3⟩
      obtain ⟨a3, c3, hv3, he3, _⟩ := hR3.own.evs
      obtain ⟨m3, hm3⟩ : ∃ m3, m3 = pl.length := ⟨_, rfl⟩
      rw [← hm3] at hv3 hpln
      subst hv3
      have HM3 := hide hm3
      have hb3 := (unhide HB2).trans (hR3.be.mono (unhide HB2).size)
      have HB3 := hide hb3
      have hr3 := refs_any a3 pl c3 w3 he3 (by rw [← hm3]; exact hpln)
      rw [← hm3] at hr3
      have HR3 := hide hr3
      clear hR3 he3 hm3 hb3 hr3 HPA
      go_wp2_with fail
      refine (unhide HR3).mono ?_
      rintro e w4 ⟨v4, rfl, hR4⟩
      obtain ⟨a4, c4, hv4, he4, _⟩ := hR4.own.evs
      rw [← unhide HM3] at hv4
      subst hv4
      have hb4 := (unhide HB3).trans (hR4.be.mono (unhide HB3).size)
      have HB4 := hide hb4
      have HE4 := hide he4
      have hr4 := refs_any a0 l c w4 ((unhide HL).bel2 hb4) (by rw [← unhide HN]; omega)
      rw [← unhide HN] at hr4
      have HR4 := hide hr4
      clear hR4 he4 hb4 hr4 HR3
      go_wp2_with fail
      refine (unhide HR4).mono ?_
      rintro e w5 ⟨v5, rfl, hR5⟩
      obtain ⟨a5, c5, hv5, he5, _⟩ := hR5.own.evs
      rw [← unhide HN] at hv5
      subst hv5
      have HB5 := hide ((unhide HB4).trans (hR5.be.mono (unhide HB4).size))
      have HE5 := hide ((unhide HE4).below hR5.be)
      have hr5 := rpart_any a5 l c5 f t w5 he5 (by rw [← unhide HN]; omega)
      rw [← unhide HN, ← unhide HPL] at hr5
      have HR5 := hide hr5
      clear hR5 he5 hr5 HR4 HE4
      go_wp2_with fail
      refine (unhide HR5).mono ?_
      rintro e w6 ⟨v6, rfl, hR6⟩
      obtain ⟨a6, c6, hv6, he6, _⟩ := hR6.own.evs
      rw [← unhide HM3] at hv6
      subst hv6
      have HB6 := hide ((unhide HB5).trans (hR6.be.mono (unhide HB5).size))
      have hs6 := same_eq a4 a6 pl c4 c6 w6 ((unhide HE5).below hR6.be) he6 (by rw [← unhide HM3]; exact hpln)
      rw [← unhide HM3] at hs6
      have HS6 := hide hs6
      clear hR6 he6 hs6 HR5 HE5
      go_wp2_with fail
      refine (unhide HS6).mono ?_
      rintro e w7 ⟨rfl, b7⟩
      have HB7 := hide ((unhide HB6).trans (b7.mono (unhide HB6).size))
      clear b7
      go_wp2
      go_ret
      exact ⟨rfl, unhide HB7⟩
theorem traceParts_any (a0 : Option Addr) (l : List Ev) (c : Nat) (f t : Int) (w : World) (hl : EvsAt w a0 l) (hk : EvsOk l c) :
    Calls Try.prog 5 #[.slice a0 l.length c, .int .i64 f, .int .i64 t] w fun e w' => e = .returned (.bool true) ∧ Below w.heap.size w w' := by
  cases hf : fewB l 100 with
  | false => exact traceParts_few a0 l c f t w hl hk hf
  | true => exact traceParts_main a0 l c f t w hl hk hf
end Go.Proofs.Ythgijdhifhnmfaa

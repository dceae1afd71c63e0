/- gauss: eliminate. -/
import Derived.Test.YtpcndjnhpjhjkaaDoorGaE
import Derived.Test.YtpcndjnhpjhjkaaDoorEff
namespace Go.Proofs.YtpcndjnhpjhjkaaDoor
open Go.RowKit
set_option linter.unusedVariables false
attribute [local go_sem] Oper.semAt_some

theorem elS_none {i : Nat} {s : List Ln × Nat} (h : idxV (s.1.drop s.2) i < 0) : elS i s = s := by
  unfold idxV at h
  unfold elS
  cases hf : (s.1.drop s.2).findIdx? (fun x => x.1.testBit i) with
  | none => rfl
  | some a => rw [hf] at h; simp at h; omega
theorem elS_some {i a : Nat} {s : List Ln × Nat} (h : idxV (s.1.drop s.2) i = (a : Int)) : elS i s = (clr (swp s.1 s.2 (s.2 + a)) s.2 i, s.2 + 1) ∧ s.2 + a < s.1.length := by
  unfold idxV at h
  unfold elS
  cases hf : (s.1.drop s.2).findIdx? (fun x => x.1.testBit i) with
  | none => rw [hf] at h; simp at h
  | some b =>
    rw [hf] at h
    simp at h
    obtain rfl : b = a := by omega
    obtain ⟨hb, _⟩ := List.findIdx?_eq_some_iff_getElem.1 hf
    rw [List.length_drop] at hb
    exact ⟨rfl, by omega⟩
theorem idxV_cases (M : List Ln) (i : Nat) : idxV M i = -1 ∨ ∃ a : Nat, idxV M i = (a : Int) := by
  unfold idxV
  cases M.findIdx? (fun x => x.1.testBit i) with
  | none => exact .inl rfl
  | some b => exact .inr ⟨b, rfl⟩
theorem LnB.lines {w : World} {base g : Nat} {L : List Ln} (h : LnB w base g L) (k : Nat) : LinesA w (some ⟨g, k * 4, none⟩) (L.drop k) := fun t ht => by
  rw [List.length_drop] at ht
  have hc := h.cel (k + t) (by omega)
  have c0 := hc 0 (by omega)
  have c1 := hc 1 (by omega)
  have c2 := hc 2 (by omega)
  have c3 := hc 3 (by omega)
  rw [gt_drop]
  simp only [lcell, List.getElem?_cons_zero, List.getElem?_cons_succ, Nat.add_zero] at c0 c1 c2 c3
  rw [show (k + t) * 4 = k * 4 + t * 4 by omega] at c0 c1 c2 c3
  exact ⟨g, k * 4, rfl, c0, c1, c2, c3⟩
theorem wpList_store_abs {P : Program} {ops : Array Oper} {rest : List Oper} {op : Oper} {a : Act} {w : World} {Q : Exit → Act → World → Prop} (hgd : op.guard = none) (ty : TypeId) (x y : Operand) (ho : op.op = .store ty x y)
    (b o : Nat) (cells : Array Value) (hx : a.eval x = .pointer (some ⟨b, o, none⟩)) (hy : a.eval y = .agg cells)
    (ht : w.there b o cells.size) (hi : (P.info? ty).map (·.size) = some cells.size) (h1 : cells.all (·.oneCell') = true)
    (h : ∀ W, W = w.setCells b o cells.toList → wpList P ops Q rest (a.put op.dst undef) W) : wpList P ops Q (op :: rest) a w :=
  wpList_store_mid hgd ty x y ho b o cells hx hy ht hi h1 (h _ rfl)
set_option maxRecDepth 100000 in
set_option maxHeartbeats 1000000 in
theorem elim_any (L : List Ln) (m base g cap n : Nat) (hm : m ≤ 100000) (hs : Szd m L) (hN : L.length ≤ 100000) (hcap : L.length ≤ cap) (hcm : cap ≤ maxLen) (hn : n ≤ 160) (hbd : ∀ x ∈ L, x.1 < 2 ^ n) (hb : base ≤ g) (w : World) (hL : LnB w base g L) :
    Calls Tryd.prog 39 #[.int .i64 n, .slice (some ⟨g, 0, none⟩) L.length cap] w fun e w' => ∃ a1 a2 : Option Addr, ∃ c1 c2 : Nat, e = .returned (.tuple #[.slice a1 (kep L n).length c1, .slice a2 (res L n).length c2]) ∧ LinesA w' a1 (kep L n) ∧ LinesA w' a2 (res L n) ∧ Kept w.heap.size g w w' := by
  unfold maxLen at hcm
  have HE : Hid (∀ i, ∃ P, EI m n i L (elN L i).1 (elN L i).2 P) := EI.at hs hbd
  have HL := hide hL
  generalize hNN : L.length = N at *
  have HN := hide hNN
  clear hL hs hbd hNN
  go_enter Tryd.func39, Tryd.ntmps39
  go_wp2_with fail
  go_loopw [6, 10] (fun v u wr => ∃ i : Nat, i ≤ n ∧ v = .int .i64 (elN L i).2 ∧ u = .int .i64 i ∧ LnB wr base g (elN L i).1 ∧ Kept w.heap.size g w wr) (fun _ u _ => n - (intOf u).toNat)
  case atStart => exact ⟨0, by omega, rfl, rfl, unhide HL, Kept.refl _ _ _⟩
  case round =>
    obtain ⟨i, hi, rfl, rfl, h1, h3⟩ := hrel
    by_cases hlt : i < n
    · obtain ⟨P, hE⟩ := unhide HE i
      have hnx : elN L (i + 1) = elS i (elN L i) := rfl
      have hlen : (elN L i).1.length = N := hE.len.trans (unhide HN)
      have hkle : (elN L i).2 ≤ N := by have := hE.kle; omega
      have hsz := hE.szd
      have q1 : (i : Int) < n := by omega
      generalize hsE : elN L i = s at *
      obtain ⟨M, k⟩ := s
      simp only at *
      have HSE := hide hsE
      have H1 := hide h1
      have H3 := hide h3
      have HNX := hide hnx
      have HSZ := hide hsz
      have hgw := (unhide HL).lt
      have hgr := h1.lt
      have hws := h3.size
      have hmf : ∀ (fn : Fn) (first cap : Array Value) (w : World), (Instr.makeFunc fn first cap).run Tryd.prog w = .ok (.func fn first cap) w := fun _ _ _ _ => rfl
      have hb4 : Below wr.heap.size wr (wr.alloc (.cells #[.int .i64 (i : Int)] 3)) := (Below.refl _ _).alloc (Nat.le_refl _) _
      have hcell : (wr.alloc (.cells #[.int .i64 (i : Int)] 3)).cell? ⟨wr.heap.size, 0, none⟩ = some (.int .i64 (i : Int)) := by rw [cell_of_row _ _ _ _ _ (0, 0) (heap_alloc_new _ _)]; rfl
      have HB4 := hide hb4
      have q2 : (k : Int) ≤ N := by omega
      have q3 : (k : Int) ≤ cap := by omega
      have q4 : (N : Int) ≤ cap := by omega
      have q5 : (0 : Int) ≤ k := by omega
      clear hE hsE h1 h3 hnx hsz hb4
      by_cases hkc : k < cap
      · have q6 : ¬ (cap - k = 0) := by omega
        have hix := hide (gindex_any (M.drop k) (some ⟨g, k * 4, none⟩) (cap - k) i (by omega) wr.heap.size _ (by rw [List.length_drop]; omega) hcell (((unhide H1).below (unhide HB4)).lines k))
        rw [List.length_drop, hlen] at hix
        rcases idxV_cases (M.drop k) i with hv | ⟨a, hv⟩
        · have HS : Hid (elN L (i + 1) = (M, k)) := by
            show _ = _
            rw [unhide HNX]
            exact elS_none (by show idxV (M.drop k) i < 0; rw [hv]; omega)
          rw [hv] at hix
          clear hcell hv
          go_wp2_with fail
          refine (unhide hix).mono ?_
          rintro e w1 ⟨rfl, b1⟩
          have HB5 := hide ((unhide HB4).trans (b1.mono (unhide HB4).size))
          clear b1
          go_wp2
          go_roundw
          case rel => exact ⟨i + 1, by omega, by rw [unhide HS], by go_num, by rw [unhide HS]; exact (unhide H1).below (unhide HB5), (unhide H3).trans (Kept.of_below ((unhide HB5).mono (by omega)))⟩
          case measure => simp [intOf]; omega
        · obtain ⟨hS, hka⟩ := elS_some (s := (M, k)) hv
          simp only at hS hka
          rw [hlen] at hka
          have HS : Hid (elN L (i + 1) = (clr (swp M k (k + a)) k i, k + 1)) := by
            show _ = _
            rw [unhide HNX]
            exact hS
          rw [hv] at hix
          obtain ⟨p, hp⟩ : ∃ p, p = k + a := ⟨_, rfl⟩
          have HP : Hid (p = k + a) := hp
          have hpi : (k : Int) + (a : Int) = (p : Int) := by omega
          have hpn : p < N := by omega
          have hkn : k < N := by omega
          rw [← hp] at HS
          have r1 : (k : Int) < N := by omega
          have r2 : (p : Int) < N := by omega
          clear hv hS hka hp
          go_wp2_with fail
          refine (unhide hix).mono ?_
          rintro e w1 ⟨rfl, b1⟩
          have HB5 := hide ((unhide HB4).trans (b1.mono (unhide HB4).size))
          have HC1 := hide (cell_below hcell b1)
          clear b1 hcell
          have hM1 := (unhide H1).below (unhide HB5)
          have x0 := hM1.cel k (by omega) 0 (by omega)
          have x1 := hM1.cel k (by omega) 1 (by omega)
          have x2 := hM1.cel k (by omega) 2 (by omega)
          have x3 := hM1.cel k (by omega) 3 (by omega)
          have y0 := hM1.cel p (by omega) 0 (by omega)
          have y1 := hM1.cel p (by omega) 1 (by omega)
          have y2 := hM1.cel p (by omega) 2 (by omega)
          have y3 := hM1.cel p (by omega) 3 (by omega)
          simp only [lcell, List.getElem?_cons_zero, List.getElem?_cons_succ, Nat.add_zero] at x0 x1 x2 x3 y0 y1 y2 y3
          have HM1 := hide hM1
          clear hM1
          have ha0 : ¬ (a : Int) < 0 := by omega
          go_wp2_with fail
          refine wp_region_eff [false, false, false, false, false, false, false, false, false, false, false, false, false, false, false, false, true, true, false, true] [2, 3, 4, 5, 18] 16 ?A0 _ _ (by kernel_rfl) (by kernel_rfl) rfl ?lex ?free ?_
          case lex =>
            intro X
            have hneX := gb_ne X.w
            have X0 : ∀ y : Gb X.w, y.w.cell? ⟨g, k * 4, none⟩ = _ := fun y => gb_cell (cell_below x0 X.ok) y
            have X1 : ∀ y : Gb X.w, y.w.cell? ⟨g, k * 4 + 1, none⟩ = _ := fun y => gb_cell (cell_below x1 X.ok) y
            have X2 : ∀ y : Gb X.w, y.w.cell? ⟨g, k * 4 + 2, none⟩ = _ := fun y => gb_cell (cell_below x2 X.ok) y
            have X3 : ∀ y : Gb X.w, y.w.cell? ⟨g, k * 4 + 3, none⟩ = _ := fun y => gb_cell (cell_below x3 X.ok) y
            have Y0 : ∀ y : Gb X.w, y.w.cell? ⟨g, p * 4, none⟩ = _ := fun y => gb_cell (cell_below y0 X.ok) y
            have Y1 : ∀ y : Gb X.w, y.w.cell? ⟨g, p * 4 + 1, none⟩ = _ := fun y => gb_cell (cell_below y1 X.ok) y
            have Y2 : ∀ y : Gb X.w, y.w.cell? ⟨g, p * 4 + 2, none⟩ = _ := fun y => gb_cell (cell_below y2 X.ok) y
            have Y3 : ∀ y : Gb X.w, y.w.cell? ⟨g, p * 4 + 3, none⟩ = _ := fun y => gb_cell (cell_below y3 X.ok) y
            dsimp only [restM]
            repeat (go_big_quiet_step (fail))
            refine wpQuiet_nil ?_
            exact rfl
          case free =>
            intro j hj o ho W
            simp only [List.mem_cons, List.not_mem_nil, or_false] at hj
            rcases hj with rfl | rfl | rfl | rfl | rfl
            all_goals
              simp only [List.getElem?_cons_succ, List.getElem?_cons_zero, Option.some.injEq] at ho
              subst ho
              go_big_quiet_step (fail)
              refine wpQuiet_nil ?_
              exact rfl
          intro w8 b8
          clear x0 x1 x2 x3 y0 y1 y2 y3
          have hM8 := (unhide HM1).below b8
          have hst1 := hM8.stored k (by omega) (gt M p)
          have hgkp : gt M p = gt M p := rfl
          have hl1 : (M.set k (gt M p)).length = N := by rw [List.length_set]; exact hlen
          have HT1 : Hid (w8.there g (k * 4) (#[.int .u64 (wd (gt M p).1 0), .int .u64 (wd (gt M p).1 1), .int .u64 (wd (gt M p).1 2), .string (bs (gt M p).2)] : Array Value).size) := hM8.there k (by omega)
          have HT2 : Hid ((w8.setCells g (k * 4) (lcell (gt M p))).there g (p * 4) (#[.int .u64 (wd (gt M k).1 0), .int .u64 (wd (gt M k).1 1), .int .u64 (wd (gt M k).1 2), .string (bs (gt M k).2)] : Array Value).size) := hst1.there p (by omega)
          have HST : Hid (LnB ((w8.setCells g (k * 4) (lcell (gt M p))).setCells g (p * 4) (lcell (gt M k))) base g (swp M k p)) := hst1.stored p (by omega) (gt M k)
          have HB8 := hide ((unhide HB5).trans (b8.mono (unhide HB5).size))
          have HC8 : Hid (((w8.setCells g (k * 4) (lcell (gt M p))).setCells g (p * 4) (lcell (gt M k))).cell? ⟨wr.heap.size, 0, none⟩ = some (.int .i64 (i : Int))) := by
            show _ = _
            rw [World.cell?_setCells_out g _ _ _ _ (fun h => absurd h (by simp only; omega)), World.cell?_setCells_out g _ _ _ _ (fun h => absurd h (by simp only; omega))]
            exact cell_below (unhide HC1) b8
          have HK8 : Hid (Kept w.heap.size g w ((w8.setCells g (k * 4) (lcell (gt M p))).setCells g (p * 4) (lcell (gt M k)))) := kept_setCells _ _ _ (kept_setCells _ _ _ ((unhide H3).trans (Kept.of_below ((unhide HB8).mono (by omega)))))
          have HCL := hide (clear_any (swp M k p) m base g cap k i hm (fun x hx => unhide HSZ x ((swp_mem M k p (by omega) (by omega) x).2 hx)) (by rw [swp_len]; omega) (by rw [swp_len]; omega) (by omega) _ (unhide HST))
          rw [swp_len, hlen] at HCL
          have HONE : Hid (∀ x : Ln, (#[.int .u64 (wd x.1 0), .int .u64 (wd x.1 1), .int .u64 (wd x.1 2), .string (bs x.2)] : Array Value).all (·.oneCell') = true) := fun x => by simp [Value.oneCell']
          have HINF : Hid (∀ x : Ln, (Tryd.prog.info? 70).map (·.size) = some (#[.int .u64 (wd x.1 0), .int .u64 (wd x.1 1), .int .u64 (wd x.1 2), .string (bs x.2)] : Array Value).size) := fun x => by kernel_rfl
          clear hM8 hst1 hl1 HM1 b8 hgkp
          go_wp2_with fail
          refine onlyN ⟨Below.refl _ _, ?_⟩
          dsimp only [effM]
          refine wpList_store_abs rfl 70 (.tmp 36) (.tmp 31) rfl g (k * 4) #[.int .u64 (wd (gt M p).1 0), .int .u64 (wd (gt M p).1 1), .int .u64 (wd (gt M p).1 2), .string (bs (gt M p).2)] rfl rfl (unhide HT1) (unhide HINF _) (unhide HONE _) (fun W8 hW8 => ?_)
          have e8 : W8 = w8.setCells g (k * 4) (lcell (gt M p)) := hW8
          rw [← e8] at HT2 HC8 HK8 HCL
          refine wpList_store_abs rfl 70 (.tmp 37) (.tmp 35) rfl g (p * 4) #[.int .u64 (wd (gt M k).1 0), .int .u64 (wd (gt M k).1 1), .int .u64 (wd (gt M k).1 2), .string (bs (gt M k).2)] rfl rfl (unhide HT2) (unhide HINF _) (unhide HONE _) (fun W9 hW9 => ?_)
          have e9 : W9 = W8.setCells g (p * 4) (lcell (gt M k)) := hW9
          rw [← e9] at HC8 HK8 HCL
          clear e8 e9 hW8 hW9 HST HT1 HT2
          dsimp only
          go_wp2_with fail
          refine onlyN ?_
          have hc9 := unhide HC8
          go_wp2_with fail
          refine (unhide HCL).mono ?_
          rintro e w10 ⟨rfl, h10, k10⟩
          have H10 := hide h10
          have K10 := hide ((unhide HK8).trans (k10.mono (by have := (unhide HK8).size; omega)))
          clear h10 k10 hc9
          go_wp2
          go_roundw
          case rel => exact ⟨i + 1, by omega, by rw [unhide HS]; go_num, by go_num, by rw [unhide HS]; exact unhide H10, unhide K10⟩
          case measure => simp [intOf]; omega
      · have hcn : cap = k := by omega
        subst hcn
        have hNk : N = cap := by omega
        subst hNk
        have hd : M.drop N = [] := List.drop_of_length_le (by omega)
        have hix : Hid (∀ a0 c, Calls Tryd.prog 52 #[.slice a0 0 c, .func (.func 53) #[] #[.pointer (some ⟨wr.heap.size, 0, none⟩)]] (wr.alloc (.cells #[.int .i64 (i : Int)] 3)) fun e w' => e = .returned (.int .i64 (-1)) ∧ Below (wr.alloc (.cells #[.int .i64 (i : Int)] 3)).heap.size (wr.alloc (.cells #[.int .i64 (i : Int)] 3)) w') := fun a0 c => gindex_any [] a0 c i (by omega) wr.heap.size _ (by simp) hcell (fun t ht => absurd ht (by simp))
        have HS : Hid (elN L (i + 1) = (M, N)) := by
          show _ = _
          rw [unhide HNX]
          exact elS_none (by show idxV (M.drop N) i < 0; rw [hd]; show (-1 : Int) < 0; omega)
        clear hcell hd hkc
        go_wp2_with fail
        refine (unhide hix _ _).mono ?_
        rintro e w1 ⟨rfl, b1⟩
        have HB5 := hide ((unhide HB4).trans (b1.mono (unhide HB4).size))
        clear b1
        go_wp2
        go_roundw
        case rel => exact ⟨i + 1, by omega, by rw [unhide HS], by go_num, by rw [unhide HS]; exact (unhide H1).below (unhide HB5), (unhide H3).trans (Kept.of_below ((unhide HB5).mono (by omega)))⟩
        case measure => simp [intOf]; omega
    · have hin : i = n := by omega
      subst hin
      obtain ⟨P, hE⟩ := unhide HE i
      have q1 : ¬ (i : Int) < i := by omega
      have hlen : (elN L i).1.length = N := hE.len.trans (unhide HN)
      have hkle : (elN L i).2 ≤ N := by have := hE.kle; omega
      have HK : Hid (kep L i = (elN L i).1.take (elN L i).2) := rfl
      have HR : Hid (res L i = (elN L i).1.drop (elN L i).2) := rfl
      generalize elN L i = s at *
      obtain ⟨M, k⟩ := s
      simp only at *
      have HKL : Hid ((kep L i).length = k) := by show _ = _; rw [unhide HK, List.length_take]; omega
      have HRL : Hid ((res L i).length = N - k) := by show _ = _; rw [unhide HR, List.length_drop]; omega
      have HL1 : Hid (LinesA wr (some ⟨g, 0, none⟩) (kep L i)) := by
        rw [unhide HK]
        have := h1.lines 0
        intro t ht
        have ht' := ht
        rw [List.length_take] at ht
        obtain ⟨g', o', e1, c0, c1, c2, c3⟩ := this t (by simp; omega)
        simp only [List.drop_zero, Nat.zero_mul] at e1 c0 c1 c2 c3
        rw [gt_take M k t (by omega)]
        exact ⟨g', o', e1, c0, c1, c2, c3⟩
      have HL2 : Hid (LinesA wr (some ⟨g, k * 4, none⟩) (res L i)) := by
        rw [unhide HR]
        exact h1.lines k
      have H3 := hide h3
      have q2 : (k : Int) ≤ N := by omega
      have q3 : (k : Int) ≤ cap := by omega
      have q4 : (N : Int) ≤ cap := by omega
      have q5 : (0 : Int) ≤ k := by omega
      clear hE h1 h3 HE HL
      by_cases hkc : k < cap
      · have q6 : ¬ (cap - k = 0) := by omega
        go_wp2
        go_quiet (fail)
        go_wp2
        go_ret2
        exact ⟨some ⟨g, 0, none⟩, some ⟨g, k * 4, none⟩, cap, cap - k, by rw [unhide HKL, unhide HRL]; rfl, unhide HL1, unhide HL2, (unhide H3).trans (Kept.of_below (below_drawn (Below.refl _ _) _))⟩
      · have hcn : cap = k := by omega
        subst hcn
        have hNk : N = cap := by omega
        subst hNk
        have HR0 : Hid (res L i = []) := List.eq_nil_of_length_eq_zero (by rw [unhide HRL]; omega)
        clear hkc
        go_wp2
        go_quiet (fail)
        go_wp2
        go_ret2
        exact ⟨_, _, _, _, by rw [unhide HKL, unhide HR0]; rfl, unhide HL1, by rw [unhide HR0]; exact fun t ht => absurd ht (by simp), (unhide H3).trans (Kept.of_below (below_drawn (Below.refl _ _) _))⟩
end Go.Proofs.YtpcndjnhpjhjkaaDoor

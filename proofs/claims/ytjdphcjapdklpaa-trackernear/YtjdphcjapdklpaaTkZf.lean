/- tracker: byDistance. -/
import Derived.Test.YtjdphcjapdklpaaTkZe
import Derived.Test.YtjdphcjapdklpaaTkT
namespace Go.Proofs.Ytjdphcjapdklpaa
open Go.RowKit Go.Sort
set_option linter.unusedVariables false
attribute [local go_sem] Oper.semAt_some

theorem ownI_up {w w' : World} {B : Nat} {v : Value} {l : List Int} (h : OwnI w B v l) (hb : Below w.heap.size w w') : OwnI w' B v l := World.ownsRow.kept (show World.ownsRow _ _ _ _ _ _ _ from h) (grown_of hb none) (Classical.em _)
theorem ownPl_up {w w' : World} {B : Nat} {v : Value} {l : List (Int × Int)} (h : OwnPl w B v l) (hb : Below w.heap.size w w') : OwnPl w' B v l := World.ownsRow.kept (show World.ownsRow _ _ _ _ _ _ _ from h) (grown_of hb none) (Classical.em _)
theorem ownI_le {w : World} {B B' : Nat} {v : Value} {l : List Int} (h : OwnI w B v l) (hb : B' ≤ B) : OwnI w B' v l := by
  have h := show World.ownsRow _ _ _ _ _ _ _ from h
  refine ⟨h.1, ?_⟩
  rcases h.2 with h2 | ⟨g, cap, cur, h1, h2, h3⟩
  · exact .inl h2
  · exact .inr ⟨g, cap, cur, h1, Nat.le_trans hb h2, h3⟩
theorem ownPl_le {w : World} {B B' : Nat} {v : Value} {l : List (Int × Int)} (h : OwnPl w B v l) (hb : B' ≤ B) : OwnPl w B' v l := by
  have h := show World.ownsRow _ _ _ _ _ _ _ from h
  refine ⟨h.1, ?_⟩
  rcases h.2 with h2 | ⟨g, cap, cur, h1, h2, h3⟩
  · exact .inl h2
  · exact .inr ⟨g, cap, cur, h1, Nat.le_trans hb h2, h3⟩
/-- a row of numbers of the call's own, not empty, as it is read -/
theorem ownI_at {w : World} {B : Nat} {v : Value} {l : List Int} (h : OwnI w B v l) (hpos : 0 < l.length) : ∃ g cap, v = .slice (some ⟨g, 0, none⟩) l.length cap ∧ g < w.heap.size ∧ l.length ≤ cap ∧ ∀ (i : Nat) (u : Int), l[i]? = some u → w.cell? ⟨g, i, none⟩ = some (.int .i64 u) := by
  have h := show World.ownsRow _ _ _ _ _ _ _ from h
  rcases h.2 with ⟨h1, h2⟩ | ⟨g, cap, cur, h1, h2, h3, h4, _⟩
  · omega
  · subst h1
    refine ⟨g, cap, rfl, lt_of_block h3, h4, fun i u hu => ?_⟩
    have hi := (List.getElem?_eq_some_iff.1 hu).1
    rw [h.cellAt i (by omega)]
    simp [ic, hu]
/-- what the order of the places answers -/
def RBd (B : Nat) (P : List (Int × Int)) (O : List Int) : Nat → Value → World → Prop
  | 2, v, z => OwnPl z B v P
  | 3, v, z => ∃ u, v = .tuple #[u, .int .i64 0] ∧ OwnI z B u O
  | 4, v, z => ∃ u, v = .tuple #[u, .int .i64 0] ∧ OwnI z B u O
  | 5, v, z => OwnI z B v O
  | 6, v, _ => v = .int .i64 0
  | 7, v, z => OwnI z B v O
  | 8, v, _ => v = .int .i64 0
  | _, v, _ => v = undef
theorem RBd.stay {B : Nat} {P : List (Int × Int)} {O : List Int} {j : Nat} {v : Value} {x y : World} (h : RBd B P O j v x) (hb : Below x.heap.size x y) : RBd B P O j v y := by
  unfold RBd at h ⊢
  split at h
  · exact ownPl_up h hb
  · obtain ⟨u, h1, h2⟩ := h; exact ⟨u, h1, ownI_up h2 hb⟩
  · obtain ⟨u, h1, h2⟩ := h; exact ⟨u, h1, ownI_up h2 hb⟩
  · exact ownI_up h hb
  · exact h
  · exact ownI_up h hb
  · exact h
  · exact h
theorem nd_len {f : Names} (hf : ∀ k s, f k = some s → SlOk k s) (k : By) (now : Int) : (ndF f k now).length ≤ 16 := by
  unfold ndF
  split
  · refine Nat.le_trans (List.length_filter_le _ _) ?_
    rw [(ok_get hf k).len]
    exact Nat.le_refl _
  · simp
theorem nd_okP {f : Names} (hf : ∀ k s, f k = some s → SlOk k s) (k : By) (now : Int) {p : Nt} (hp : p ∈ ndF f k now) : NtOk k p := by
  unfold ndF at hp
  split at hp
  · exact nodes_ok (ok_get hf k) hp
  · cases hp
theorem okP_of {k : By} {p : Nt} (h : NtOk k p) : okP p.x p.y = true := by
  obtain ⟨_, _, _, ⟨h1, h2, h3, h4⟩, _⟩ := h
  unfold okP okN
  rw [decide_eq_true ⟨h1, h2⟩, decide_eq_true ⟨h3, h4⟩]
  rfl
/-- what byDistance answers -/
def bdL (f : Names) (k : By) (x y now : Int) : List Nt := if (isT now && okP x y) = true then nearF x y (ndF f k now) else []
def bdE (f : Names) (k : By) (x y now : Int) : Int := if (isT now && okP x y) = true then (if (ndF f k now).length = 0 then 4 else 0) else 1
theorem bd_len {f : Names} (hf : ∀ k s, f k = some s → SlOk k s) (k : By) (x y now : Int) : (bdL f k x y now).length ≤ 16 := by
  unfold bdL
  split
  · rw [near_len]; exact nd_len hf k now
  · simp
set_option maxRecDepth 100000 in
set_option maxHeartbeats 4000000 in
theorem bd_no (b mb : Nat) (f : Names) (N : Nat) (room : Int) (k : By) (x y now : Int) (w : World) (hT : TbAt w b mb f N room) (hk : k.length ≤ maxLen) (hb : (isT now && okP x y) = false) :
    Calls Try.prog 22 #[.pointer (some ⟨b, 0, none⟩), .string (bs k), rv x y, .int .i64 now] w fun e w' => e = .returned (.tuple #[.slice none 0 0, .int .i64 1]) ∧ Below w.heap.size w w' := by
  have HTm := hide (fun W => ttime_any now W)
  have HK := hide (fun W => check_gw x y W)
  have T0 := hide (two_alloc w (.int .i64 x) (.int .i64 y) 23)
  obtain ⟨W0, hW0⟩ : ∃ W0, W0 = w.alloc (.cells #[.int .i64 x, .int .i64 y] 23) := ⟨_, rfl⟩
  have B0 : Hid (Below w.heap.size w W0) := by show Below _ _ _; rw [hW0]; exact (Below.refl _ _).alloc (Nat.le_refl _) _
  rw [← hW0] at T0
  have HW := hide hW0
  have f00 := (unhide T0).c0
  have f01 := (unhide T0).c1
  clear hT hW0
  generalize isT now = I at *
  generalize okP x y = K at *
  unfold rv at *
  cases I with
  | false =>
    go_enter Try.func22, Try.ntmps22
    go_wp2_with fail
    rw [← unhide HW]
    refine (unhide HTm _).mono ?_
    rintro e w1 ⟨rfl, rfl⟩
    go_wp2
    go_ret2
    exact ⟨rfl, unhide B0⟩
  | true =>
    rw [Bool.true_and] at hb
    subst hb
    go_enter Try.func22, Try.ntmps22
    go_wp2_with fail
    rw [← unhide HW]
    refine (unhide HTm _).mono ?_
    rintro e w1 ⟨rfl, rfl⟩
    go_wp2_with fail
    refine (unhide HK _).mono ?_
    rintro e w2 ⟨rfl, g2⟩
    have B2 := hide ((unhide B0).trans (g2.below.mono (unhide B0).size))
    clear g2
    go_wp2
    go_ret2
    exact ⟨rfl, unhide B2⟩
set_option maxRecDepth 100000 in
set_option maxHeartbeats 16000000 in
theorem bd_yes (b mb : Nat) (f : Names) (N : Nat) (room : Int) (k : By) (x y now : Int) (w : World) (hT : TbAt w b mb f N room) (hk : k.length ≤ maxLen) (hb : (isT now && okP x y) = true) :
    Calls Try.prog 22 #[.pointer (some ⟨b, 0, none⟩), .string (bs k), rv x y, .int .i64 now] w fun e w' => ∃ v, e = .returned (.tuple #[v, .int .i64 (if (ndF f k now).length = 0 then 4 else 0)]) ∧ OwnNt w' w.heap.size v (nearF x y (ndF f k now)) ∧ Below w.heap.size w w' := by
  obtain ⟨hb1, hb2⟩ := Bool.and_eq_true_iff.1 hb
  have HTm := hide (fun W => ttime_any now W)
  have HK := hide (fun W => check_gw x y W)
  rw [hb1] at HTm
  rw [hb2] at HK
  obtain ⟨i0, hi, hz0, hz1, hz2⟩ := info_parts Try.infoNt
  have T0 := hide (two_alloc w (.int .i64 x) (.int .i64 y) 23)
  obtain ⟨W0, hW0⟩ : ∃ W0, W0 = w.alloc (.cells #[.int .i64 x, .int .i64 y] 23) := ⟨_, rfl⟩
  have B0 : Hid (Below w.heap.size w W0) := by show Below _ _ _; rw [hW0]; exact (Below.refl _ _).alloc (Nat.le_refl _) _
  rw [← hW0] at T0
  have HW := hide hW0
  have hTb := hT.up (show Below w.heap.size w W0 from unhide B0)
  have HLEN := hide (nd_len hT.ok k now)
  have HOK := hide (fun p (hp : p ∈ ndF f k now) => okP_of (nd_okP hT.ok k now hp))
  have HND := hide (fun W (h : TbAt W b mb f N room) => nodes_any b mb f N room k now W h hk)
  have HTB := hide hTb
  have f00 := (unhide T0).c0
  have f01 := (unhide T0).c1
  clear hT hW0 hTb hb hb1
  obtain ⟨L, hL⟩ : ∃ L, L = ndF f k now := ⟨_, rfl⟩
  rw [← hL] at HLEN HOK HND ⊢
  clear hL
  have HNR : Hid (∀ (v : Value) (W : World), 0 < L.length → OwnPl W w.heap.size v (L.map Nt.pl) → Calls Try.prog 28 #[rv x y, v] W fun e w' => ∃ u, e = .returned (.tuple #[u, .int .i64 0]) ∧ OwnI w' W.heap.size u (if h : 0 < L.length then ordN x y (L.map Nt.pl) (by rw [List.length_map]; exact h) else []) ∧ Below W.heap.size W w') := fun v W h ho => by
    obtain ⟨a0, c, rfl, hP, _⟩ := ho.pls
    rw [dif_pos h]
    exact near_any x y (L.map Nt.pl) a0 c W (by rw [List.length_map]; exact h) (by rw [List.length_map]; have := unhide HLEN; omega) hP hb2 (fun p hp => by
      obtain ⟨q, hq, rfl⟩ := List.mem_map.1 hp
      exact unhide HOK q hq)
  have HOL : Hid (∀ i, i < L.length → ∃ j : Nat, j < L.length ∧ (if h : 0 < L.length then ordN x y (L.map Nt.pl) (by rw [List.length_map]; exact h) else [])[i]? = some ((j : Nat) : Int)) := fun i hi => by
    rw [dif_pos (show 0 < L.length by omega)]
    obtain ⟨j, h1, h2⟩ := ord_at x y (L.map Nt.pl) (by rw [List.length_map]; omega) i (by rw [List.length_map]; exact hi)
    exact ⟨j, by rw [List.length_map] at h1; exact h1, h2⟩
  have HOE : Hid ((if h : 0 < L.length then ordN x y (L.map Nt.pl) (by rw [List.length_map]; exact h) else []).length = L.length ∧ nearF x y L = (if h : 0 < L.length then ordN x y (L.map Nt.pl) (by rw [List.length_map]; exact h) else []).map fun k => L.getD k.toNat zN) := by
    show _ ∧ _
    by_cases h : 0 < L.length
    · rw [dif_pos h]
      refine ⟨by rw [ord_len, List.length_map], ?_⟩
      unfold nearF
      rw [dif_pos h]
    · rw [dif_neg h]
      unfold nearF
      rw [dif_neg h]
      exact ⟨by simp; omega, rfl⟩
  obtain ⟨NE, hNE⟩ : ∃ M, M = nearF x y L := ⟨_, rfl⟩
  rw [← hNE] at HOE ⊢
  generalize (if h : 0 < L.length then ordN x y (L.map Nt.pl) (by rw [List.length_map]; exact h) else []) = ORD at *
  clear hNE hb2 HOK
  have HPL := hide (fun a0 c W (h : NtsAt W a0 L) => placesOf_any a0 L c W h (by have := unhide HLEN; omega))
  obtain ⟨PL, hPL⟩ : ∃ M, M = L.map Nt.pl := ⟨_, rfl⟩
  rw [← hPL] at HPL HNR
  clear hPL
  obtain ⟨n, hn⟩ : ∃ n, n = L.length := ⟨_, rfl⟩
  rw [← hn] at HLEN HOL HNR HOE HPL ⊢
  obtain ⟨E, hE⟩ : ∃ E, E = (if n = 0 then (4 : Int) else 0) := ⟨_, rfl⟩
  rw [← hE]
  have HE := hide hE
  have HN := hide hn
  clear hn hE
  unfold rv at *
  go_enter Try.func22, Try.ntmps22
  go_wp2_with fail
  rw [← unhide HW]
  clear HW
  refine (unhide HTm _).mono ?_
  rintro e w1 ⟨rfl, rfl⟩
  go_wp2_with fail
  refine (unhide HK _).mono ?_
  rintro e w2 ⟨rfl, g2⟩
  have B2 := hide ((unhide B0).trans (g2.below.mono (unhide B0).size))
  have T2 := hide ((unhide T0).up g2.below)
  have HT2 := hide ((unhide HTB).up g2.below)
  clear g2 B0 T0 HTB f00 f01 HTm HK
  go_wp2_with fail
  refine (unhide HND _ (unhide HT2)).mono ?_
  rintro e w3 ⟨v3, rfl, h3⟩
  obtain ⟨a3, c3, rfl, hN3, -⟩ := h3.own.nts
  have B3 := hide ((unhide B2).trans (h3.be.mono (unhide B2).size))
  have T3 := hide ((unhide T2).up h3.be)
  have HN3 := hide hN3
  clear h3 hN3 B2 T2 HT2 HND
  rw [← unhide HN]
  by_cases h0 : n = 0
  · subst h0
    have q : NE = [] := by
      obtain ⟨h1, h2⟩ := unhide HOE
      rw [h2, List.length_eq_zero_iff.1 h1]
      rfl
    have Q := hide q
    have HE2 : Hid (E = 4) := unhide HE
    clear q
    go_wp2
    go_ret2
    exact ⟨_, by rw [unhide HE2]; rfl, by rw [unhide Q]; exact World.ownsRow_nil _ _ _ _, unhide B3⟩
  have hpos : 0 < n := by omega
  have q1 : ¬ ((n : Int) = 0) := by omega
  have HE2 : Hid (E = 0) := (unhide HE).trans (if_neg h0)
  clear HE
  go_wp2_with fail
  refine wp_region_rel [false, false, true, true, true, true, true, true, true] [] [] [11, 12, 35, 38, 39, 40, 41] _ ?A6 (fun x y => Below x.heap.size x y) ((RBd w.heap.size PL ORD)) (by kernel_rfl) (by kernel_rfl) (fun x y z h1 h2 => h1.trans (h2.mono h1.size)) (fun x y h => h) (fun j v x y h hb => h.stay hb) (Off.refl _ _) ?det6 ?lex6 ?gA6 ?st6 ?fin6
  case lex6 =>
    intro z hz
    have hneX := gb_ne z
    have f0 := fun y : Gb z => gb_cell ((unhide T3).up hz).c0 y
    have f1 := fun y : Gb z => gb_cell ((unhide T3).up hz).c1 y
    dsimp only [restM]
    repeat (go_big_quiet_step (fail))
    refine wpQuiet_nil ?_
    exact rfl
  case det6 =>
    intro j hj o s ho hs v z hR
    exact absurd hj (List.not_mem_nil)
  case gA6 =>
    intro g hg
    exact absurd hg (List.not_mem_nil)
  case st6 =>
    intro j o ho hmj z bb hz hop
    have hj : j ∈ [2, 3, 4, 5, 6, 7, 8] := mask_in hmj
    simp only [List.mem_cons, List.not_mem_nil, or_false] at hj
    rcases hj with rfl | rfl | rfl | rfl | rfl | rfl | rfl
    · simp only [List.getElem?_cons_succ, List.getElem?_cons_zero, Option.some.injEq] at ho
      subst ho
      have y0 : bb.eval (.tmp 37) = .slice a3 n c3 := hop 37 (by simp [Op.operands, Call.operands])
      refine wp_call 29 #[.tmp 37] _ rfl Try.call29 #[.slice a3 n c3] (by simp [y0]) (unhide HPL a3 c3 z ((unhide HN3).up hz)) ?_
      rintro e w7 ⟨v7, rfl, hO, hb7⟩
      exact ⟨_, rfl, _, rfl, ownPl_le hO (Nat.le_trans (unhide B3).size hz.size), hb7⟩
    · simp only [List.getElem?_cons_succ, List.getElem?_cons_zero, Option.some.injEq] at ho
      subst ho
      have y0 : bb.eval (.tmp 36) = .agg #[.int .i64 x, .int .i64 y] := hop 36 (by simp [Op.operands, Call.operands])
      have hO8 : OwnPl z w.heap.size (bb.eval (.tmp 38)) PL := hop 38 (by simp [Op.operands, Call.operands])
      obtain ⟨v8, y1⟩ : ∃ v, bb.eval (.tmp 38) = v := ⟨_, rfl⟩
      rw [y1] at hO8
      refine wp_call 28 #[.tmp 36, .tmp 38] _ rfl Try.call28 #[.agg #[.int .i64 x, .int .i64 y], v8] (by simp [y0, y1]) (unhide HNR v8 z hpos hO8) ?_
      rintro e w7 ⟨v7, rfl, hO, hb7⟩
      exact ⟨_, rfl, _, rfl, ⟨_, rfl, ownI_le hO (Nat.le_trans (unhide B3).size hz.size)⟩, hb7⟩
    · simp only [List.getElem?_cons_succ, List.getElem?_cons_zero, Option.some.injEq] at ho
      subst ho
      obtain ⟨u, y0, hO⟩ : ∃ u, bb.eval (.tmp 39) = .tuple #[u, .int .i64 0] ∧ OwnI z w.heap.size u ORD := hop 39 (by simp [Op.operands])
      have y1 : bb.tmps[39]?.getD undef = .tuple #[u, .int .i64 0] := by simpa [Act.eval] using y0
      unfold Oper.wp
      simp [y1, go_sem]
      exact ⟨_, rfl, ⟨_, rfl, hO⟩, Below.refl _ _⟩
    · simp only [List.getElem?_cons_succ, List.getElem?_cons_zero, Option.some.injEq] at ho
      subst ho
      obtain ⟨u, y0, hO⟩ : ∃ u, bb.eval (.tmp 35) = .tuple #[u, .int .i64 0] ∧ OwnI z w.heap.size u ORD := hop 35 (by simp [Op.operands])
      have y1 : bb.tmps[35]?.getD undef = .tuple #[u, .int .i64 0] := by simpa [Act.eval] using y0
      unfold Oper.wp
      simp [y1, go_sem]
      exact ⟨_, rfl, hO, Below.refl _ _⟩
    · simp only [List.getElem?_cons_succ, List.getElem?_cons_zero, Option.some.injEq] at ho
      subst ho
      obtain ⟨u, y0, hO⟩ : ∃ u, bb.eval (.tmp 35) = .tuple #[u, .int .i64 0] ∧ OwnI z w.heap.size u ORD := hop 35 (by simp [Op.operands])
      have y1 : bb.tmps[35]?.getD undef = .tuple #[u, .int .i64 0] := by simpa [Act.eval] using y0
      unfold Oper.wp
      simp [y1, go_sem]
      exact ⟨_, rfl, rfl, Below.refl _ _⟩
    · simp only [List.getElem?_cons_succ, List.getElem?_cons_zero, Option.some.injEq] at ho
      subst ho
      have hO : OwnI z w.heap.size (bb.eval (.tmp 40)) ORD := hop 40 (by simp [Op.operands])
      obtain ⟨u, y0⟩ : ∃ v, bb.eval (.tmp 40) = v := ⟨_, rfl⟩
      rw [y0] at hO
      have y1 : bb.tmps[40]?.getD undef = u := by simpa [Act.eval] using y0
      unfold Oper.wp
      simp [y1, go_sem]
      exact ⟨_, rfl, hO, Below.refl _ _⟩
    · simp only [List.getElem?_cons_succ, List.getElem?_cons_zero, Option.some.injEq] at ho
      subst ho
      have y0 : bb.eval (.tmp 41) = .int .i64 0 := hop 41 (by simp [Op.operands])
      have y1 : bb.tmps[41]?.getD undef = .int .i64 0 := by simpa [Act.eval] using y0
      unfold Oper.wp
      simp [y1, go_sem]
      exact ⟨_, rfl, rfl, Below.refl _ _⟩
  case fin6 =>
    intro bb z hz hoff hrel
    have hall := Off.all _ _ hoff
    simp only [List.foldl_cons, List.foldl_nil] at hall
    obtain ⟨u11, e11, HO⟩ : ∃ u, bb.eval (.tmp 11) = u ∧ OwnI z w.heap.size u ORD := ⟨_, rfl, hrel 7 _ 11 rfl rfl rfl⟩
    rw [e11] at hall
    generalize bb.eval (.tmp 12) = v12 at hall
    generalize bb.eval (.tmp 35) = v35 at hall
    generalize bb.eval (.tmp 38) = v38 at hall
    generalize bb.eval (.tmp 39) = v39 at hall
    generalize bb.eval (.tmp 40) = v40 at hall
    generalize bb.eval (.tmp 41) = v41 at hall
    rw [hall]
    clear hall hrel hoff e11
    simp only [Act.put, List.setIfInBounds_toArray, List.set_cons_succ, List.set_cons_zero]
    have B4 := hide ((unhide B3).trans (hz.mono (unhide B3).size))
    have HN4 := hide ((unhide HN3).up hz)
    clear hz HN3 B3 T3 HPL HNR
    obtain ⟨hl1, hNE⟩ := unhide HOE
    have HNE := hide hNE
    obtain ⟨g, cap, rfl, hg, hcap, hcl⟩ := ownI_at HO (by omega)
    rw [hl1] at hcap ⊢
    have HCL := hide hcl
    have HL1 := hide hl1
    clear hcl hNE HO hl1 HOE
    generalize z = W4 at *
    rw [show ((n : Int) == 0) = false by simpa using q1]
    go_wp2_with fail
    go_loopw [13, 44] (fun lv kv wr => ∃ (i : Nat) (a : Option Addr) (cc : Nat), i ≤ n ∧ kv = .int .i64 i ∧ lv = .slice a i cc ∧ OwnNt wr W4.heap.size lv ((ORD.take i).map fun k => L.getD k.toNat zN) ∧ Below W4.heap.size W4 wr) (fun _ kv _ => n - (intOf kv).toNat)
    case atStart => exact ⟨0, none, 0, by omega, rfl, rfl, World.ownsRow_nil _ _ _ _, Below.refl _ _⟩
    case round =>
      obtain ⟨i, a, cc, hi2, rfl, rfl, hO, hB⟩ := hrel
      have HOr := hide hO
      have HB := hide hB
      clear hO hB
      by_cases hlt : i < n
      · obtain ⟨j, hj, hoj⟩ := unhide HOL i hlt
        have hcg : wr.cell? ⟨g, i, none⟩ = some (.int .i64 ((j : Nat) : Int)) := cell_below (unhide HCL i _ hoj) (unhide HB)
        obtain ⟨p, hp⟩ : ∃ p, L[j]? = some p := ⟨_, List.getElem?_eq_getElem (by have := unhide HN; omega)⟩
        obtain ⟨g3, o3, rfl, hgl, hra⟩ := ((unhide HN4).up (unhide HB)) j p hp
        have hto : (ORD.take (i + 1)).map (fun k => L.getD k.toNat zN) = (ORD.take i).map (fun k => L.getD k.toNat zN) ++ [p] := by
          obtain ⟨h1, h2⟩ := List.getElem?_eq_some_iff.1 hoj
          rw [List.take_succ_eq_append_getElem h1, List.map_append, h2]
          simp [List.getD, hp]
        have hlen : ((ORD.take i).map fun k => L.getD k.toNat zN).length = i := by rw [List.length_map, List.length_take, unhide HL1]; omega
        have HLE := hide hlen
        have HTO := hide hto
        obtain ⟨T1, hT1⟩ : ∃ T, T = (ORD.take (i + 1)).map (fun k => L.getD k.toNat zN) := ⟨_, rfl⟩
        rw [← hT1] at HTO
        have HT1 := hide hT1
        generalize (ORD.take i).map (fun k => L.getD k.toNat zN) = T0 at *
        obtain ⟨nm, nd, px, py, un⟩ := p
        have HRA := hide hra
        unfold Nt.cl at HRA
        dsimp only at HRA HTO
        have hle : n ≤ 16 := unhide HLEN
        have q2 : (i : Int) < n := by omega
        have q3 : (j : Int) < n := by omega
        have hwr := (unhide HB).size
        clear hp hra hto hlen hT1 hoj
        have HO4 : Hid (∀ o1, (wr.alloc o1).ownsRow W4.heap.size 25 5 (.slice a i cc) i (slC T0)) := fun o1 => by
          have h1 := ownNt_up (unhide HOr) ((Below.refl wr.heap.size wr).alloc (Nat.le_refl _) o1)
          unfold OwnNt at h1
          rw [unhide HLE] at h1
          exact h1
        have HG2 := hide (fun z (hz : (Value.slice a i cc).ownBlock = some z) => ownNt_ge (unhide HOr) hz)
        have hnw := news_lit wr [.string (bs nm), .int .i64 nd, .int .i64 px, .int .i64 py, .int .i64 un] 25
        have HNW := hide hnw
        clear hnw
        go_wp2_with (first | (refine wpList_load_mid rfl 25 (.tmp 51) rfl g3 (o3 + j * 5) rfl [.string (bs nm), .int .i64 nd, .int .i64 px, .int .i64 py, .int .i64 un] _ (unhide HRA) Try.underlying25 rfl (by kernel_rfl) ?_) | (refine wpList_append_lies _ rfl (.tmp 48) (.tmp 53) 32 rfl W4.heap.size 25 i0 (.agg #[.string ⟨#[]⟩, .int .i64 0, .int .i64 0, .int .i64 0, .int .i64 0]) 5 48 Try.undNt hi hz0 hz1 hz2 rfl (by decide) (.slice a i cc) i _ (by rfl) (unhide HO4 _) ⟨wr.heap.size, 0, none⟩ 1 1 [.string (bs nm), .int .i64 nd, .int .i64 px, .int .i64 py, .int .i64 un] (by rfl) (by rfl) (unhide HNW) (by intro u hu; simp at hu; rcases hu with rfl | rfl | rfl | rfl | rfl <;> rfl) (by decide) (by unfold maxLen; have := unhide HLEN; omega) (by have := unhide HLEN; omega) (by simp; omega) (wr.heap.size + 1) (by simp) ?_))
        intro g2 cap2 w5 hown hgrow hat hlt2
        have HF : Hid (OwnNt w5 W4.heap.size (.slice (some ⟨g2, 0, none⟩) (i + 1) cap2) T1) := by
          show OwnNt _ _ _ _
          rw [unhide HTO]
          unfold OwnNt
          rw [slC_append, List.length_append, unhide HLE]
          exact hown
        have HB5 := hide (((unhide HB).alloc hwr (.cells #[.string (bs nm), .int .i64 nd, .int .i64 px, .int .i64 py, .int .i64 un] 25)).grown hgrow (by simp; omega) (fun z hz => unhide HG2 z hz))
        clear hown hgrow hat hlt2 HO4 HG2 HNW HRA hcg
        go_wp2
        go_roundw
        case rel => exact ⟨i + 1, _, _, by omega, by go_num, rfl, by rw [← unhide HT1]; exact unhide HF, unhide HB5⟩
        case measure => simp [intOf]; omega
      · have hin : i = n := by omega
        have q2 : ¬ (i : Int) < n := by omega
        have HF : Hid (OwnNt wr w.heap.size (.slice a i cc) NE) := by
          have h := unhide HOr
          rw [show ORD.take i = ORD by rw [hin, ← unhide HL1, List.take_length], ← unhide HNE] at h
          exact ownNt_le h (unhide B4).size
        have HB5 := hide ((unhide B4).trans ((unhide HB).mono (unhide B4).size))
        clear hin HOr HB
        go_wp2
        go_ret2
        exact ⟨_, by rw [unhide HE2]; rfl, unhide HF, unhide HB5⟩
end Go.Proofs.Ytjdphcjapdklpaa

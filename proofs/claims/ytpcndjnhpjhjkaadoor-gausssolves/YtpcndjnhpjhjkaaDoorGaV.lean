/- gauss: Solve, whole. -/
import Derived.Test.YtpcndjnhpjhjkaaDoorGaU
namespace Go.Proofs.YtpcndjnhpjhjkaaDoor
open Go.RowKit
set_option linter.unusedVariables false
attribute [local go_sem] Oper.semAt_some

/-- the first k equations as lines -/
def eL (R : List (List Nat)) (E : List Eq2) (k : Nat) : List Ln := (List.range k).map fun t => (rowN (R.getD t []), (E.getD t ([], [])).2)
theorem eL_length (R : List (List Nat)) (E : List Eq2) (k : Nat) : (eL R E k).length = k := by simp [eL]
theorem eL_succ (R : List (List Nat)) (E : List Eq2) (k : Nat) : eL R E (k + 1) = eL R E k ++ [(rowN (R.getD k []), (E.getD k ([], [])).2)] := by simp [eL, List.range_succ]
/-- blocks that lines fix -/
def slvS (B : List By) (x : Ln) : List By := if onlyB x.1 = true then B.set (fb x.1) x.2 else B
def slv (n : Nat) (K : List Ln) : List By := K.foldl slvS (List.replicate n [])
theorem slvS_len (B : List By) (x : Ln) : (slvS B x).length = B.length := by unfold slvS; split <;> simp
theorem slv_fold : ∀ (K : List Ln) (B : List By), (K.foldl slvS B).length = B.length
  | [], _ => rfl
  | x :: K, B => by rw [List.foldl_cons, slv_fold K, slvS_len]
theorem slv_len (n : Nat) (K : List Ln) : (slv n K).length = n := by unfold slv; rw [slv_fold, List.length_replicate]
theorem slv_succ (n : Nat) (K : List Ln) (k : Nat) (h : k < K.length) : slv n (K.take (k + 1)) = slvS (slv n (K.take k)) (gt K k) := by
  unfold slv
  have e : gt K k = K[k] := by simp [gt, List.getD, h]
  rw [List.take_succ_eq_append_getElem h, List.foldl_append, e]
  rfl
theorem only_lt {x n : Nat} (hb : x < 2 ^ n) (h : onlyB x = true) : fb x < n := by
  unfold onlyB at h
  have := (of_decide_eq_true h).2
  rw [this] at hb
  exact (Nat.pow_lt_pow_iff_right (by omega)).1 hb
set_option maxRecDepth 100000 in
set_option maxHeartbeats 1000000 in
theorem solve_no (n size : Int) (E : List Eq2) (a0 : Option Addr) (c : Nat) (hn : -9223372036854775808 ≤ n ∧ n ≤ 9223372036854775807) (hk : E.length ≤ 100000) (hk2 : ∀ x ∈ E, x.1.length ≤ maxLen ∧ x.2.length ≤ 100000) (w : World) (hE : EqnsA w a0 E) (hno : eqB n size E = false) :
    Calls Tryd.prog 21 #[.int .i64 n, .int .i64 size, .slice a0 E.length c] w fun e w' => e = .returned (.tuple #[.slice none 0 0, .int .i64 1]) ∧ Below w.heap.size w w' := by
  have ha := hide (areEq_any n size E a0 c hn hk hk2 w hE)
  rw [hno] at ha
  generalize E.length = m at *
  clear hE hk2 hno
  go_enter Tryd.func21, Tryd.ntmps21
  go_wp2_with fail
  refine (unhide ha).mono ?_
  rintro e w1 ⟨rfl, b1⟩
  have B1 := hide b1
  clear b1
  go_wp2
  go_ret2
  exact ⟨rfl, unhide B1⟩
/-- what Solve answers -/
def slvBad (L : List Ln) (n : Nat) (m : Nat) : Bool := (res L n).any (fun x => decide (x.2 ≠ List.replicate m 0))
set_option maxRecDepth 100000 in
set_option maxHeartbeats 2000000 in
theorem solve_yes (n size : Nat) (E : List Eq2) (R : List (List Nat)) (hR : Rws n (E.map Prod.fst) R) (h1 : 1 ≤ size) (h64 : size ≤ 64) (hsz : ∀ x ∈ E, x.2.length = size) (a0 : Option Addr) (c : Nat) (w : World) (hE : EqnsA w a0 E) :
    Calls Tryd.prog 21 #[.int .i64 n, .int .i64 size, .slice a0 E.length c] w fun e w' => (slvBad (eL R E E.length) n size = true ∧ e = .returned (.tuple #[.slice none 0 0, .int .i64 9]) ∧ Below w.heap.size w w') ∨ (slvBad (eL R E E.length) n size = false ∧ ∃ v, e = .returned (.tuple #[v, .int .i64 0]) ∧ OwnS w' w.heap.size v (slv n (kep (eL R E E.length) n)) ∧ Below w.heap.size w w') := by
  have hlen : E.length = R.length := by
    have := congrArg List.length hR.eq
    rw [List.length_map, List.length_map] at this
    exact this
  have h400 := hR.m400
  have h160 := hR.n160
  have hrl : ∀ r ∈ R, r.length ≤ 160 := fun r hr => by
    rw [sorted_nums (hR.lt r hr) (hR.ord r hr)]
    have := numsR_len n (rowN r)
    omega
  have hrow : ∀ k (h : k < E.length), E[k].1 = zs (R.getD k []) := fun k h => by
    have h2 : k < R.length := by omega
    have e1 : (E.map Prod.fst)[k]'(by rw [List.length_map]; exact h) = E[k].1 := by simp
    have e2 : (R.map zs)[k]'(by rw [List.length_map]; exact h2) = zs (R.getD k []) := by simp [List.getD, h2]
    rw [← e1, ← e2]
    congr 1
    exact hR.eq
  have hmem : ∀ k, k < E.length → R.getD k [] ∈ R := fun k h => by
    have h2 : k < R.length := by omega
    simp [List.getD, h2]
  have heq : eqB n size E = true := by
    unfold eqB
    rw [may_iff.2 (by omega), rws_may hR, Bool.true_and, Bool.and_true, List.all_eq_true]
    exact fun x hx => decide_eq_true (by rw [hsz x hx])
  have hare := hide (areEq_any n size E a0 c ⟨by omega, by omega⟩ (by omega) (fun x hx => ⟨by
    obtain ⟨i, hi, rfl⟩ := List.getElem_of_mem hx
    rw [hrow i hi, zs_length]
    have := hrl _ (hmem i hi)
    unfold maxLen; omega, by rw [hsz x hx]; omega⟩) w hE)
  rw [heq] at hare
  have hszd : ∀ k, k ≤ E.length → Szd size (eL R E k) := fun k hk x hx => by
    obtain ⟨t, ht, rfl⟩ := List.mem_map.1 hx
    rw [List.mem_range] at ht
    have : t < E.length := by omega
    show (E.getD t ([], [])).2.length = size
    simp only [List.getD, List.getElem?_eq_getElem this, Option.getD_some]
    exact hsz _ (List.getElem_mem this)
  have hbd : ∀ x ∈ eL R E E.length, x.1 < 2 ^ n := fun x hx => by
    obtain ⟨t, ht, rfl⟩ := List.mem_map.1 hx
    rw [List.mem_range] at ht
    exact rowN_lt _ _ (hR.lt _ (hmem t ht))
  obtain ⟨_, _, hk3, hk4, hk5, hkb, hkn⟩ := kep_rd (n := n) (m := size) (by omega) (hszd _ (Nat.le_refl _)) hbd
  have hkl : (kep (eL R E E.length) n).length ≤ 400 := by rw [hk3]; have := hk5; rw [eL_length] at this; omega
  have hrl2 : (res (eL R E E.length) n).length ≤ 400 := by
    unfold res
    rw [List.length_drop, hk4, eL_length]
    omega
  have hzr := hide (zero_any size)
  rw [zeroL_nat size h1 h64] at hzr
  have hel : Hid (∀ base W v, base ≤ W.heap.size → W.ownsRow base 70 4 v E.length (lc (eL R E E.length)) → Calls Tryd.prog 39 #[.int .i64 n, v] W fun e w' => ∃ a1 a2 : Option Addr, ∃ c1 c2 : Nat, e = .returned (.tuple #[.slice a1 (kep (eL R E E.length) n).length c1, .slice a2 (res (eL R E E.length) n).length c2]) ∧ LinesA w' a1 (kep (eL R E E.length) n) ∧ LinesA w' a2 (res (eL R E E.length) n) ∧ Below base W w') := fun base W v hb hO =>
    elim_own (eL R E E.length) size base n v (by omega) (hszd _ (Nat.le_refl _)) (by rw [eL_length]; omega) h160 hbd W hb (by rw [eL_length]; exact hO)
  have hct : Hid (∀ a1 c1 b W, W.cell? ⟨b, 0, none⟩ = some (.string (bs (List.replicate size 0))) → LinesA W a1 (res (eL R E E.length) n) → Calls Tryd.prog 40 #[.slice a1 (res (eL R E E.length) n).length c1, .func (.func 41) #[] #[.pointer (some ⟨b, 0, none⟩)]] W fun e w' => e = .returned (.bool (slvBad (eL R E E.length) n size)) ∧ Below W.heap.size W w') := fun a1 c1 b W hb hL => contains_any _ a1 c1 _ b W (by omega) hb hL
  have HKB : Hid (∀ x ∈ kep (eL R E E.length) n, x.1 < 2 ^ n) := hkb
  have hrof : Hid (∀ k, k < E.length → ∀ b cc W, Ints W b (zs (R.getD k [])) → Calls Tryd.prog 38 #[.slice b (R.getD k []).length cc] W fun e w' => e = .returned (rowV (rowN (R.getD k []))) ∧ Below W.heap.size W w') := fun k hk b cc W hI => rowOf_any _ b cc (fun x hx => by have := hR.lt _ (hmem k hk) x hx; omega) (by have := hrl _ (hmem k hk); omega) W hI
  have HE := hide hE
  have HROW : Hid (∀ k x, E[k]? = some x → x.1 = zs (R.getD k [])) := fun k x hx => by
    obtain ⟨h, rfl⟩ := List.getElem?_eq_some_iff.1 hx
    exact hrow k h
  clear hrow hszd hbd hmem hrl hR
  have hm400 : E.length ≤ 400 := by omega
  generalize hK : kep (eL R E E.length) n = K at *
  generalize hQ : res (eL R E E.length) n = Q at *
  generalize hVB : slvBad (eL R E E.length) n size = VB at *
  generalize bs (List.replicate size 0) = ZS at *
  have HEL : Hid (∀ k, k < E.length → lc (eL R E (k + 1)) = lc (eL R E k) ++ [.int .u64 (wd (rowN (R.getD k [])) 0), .int .u64 (wd (rowN (R.getD k [])) 1), .int .u64 (wd (rowN (R.getD k [])) 2), .string (bs (E.getD k ([], [])).2)]) := fun k hk => by
    rw [eL_succ, lc_append]
    rfl
  generalize hm : E.length = m at *
  have HM := hide hm
  generalize hkk : K.length = kk at *
  generalize hqq : Q.length = qq at *
  have HKK := hide hkk
  obtain ⟨i0, hi, hz0, hz1, hz2⟩ : ∃ i, Tryd.prog.info? 70 = some i ∧ i.zero = some (.agg #[.int .u64 0, .int .u64 0, .int .u64 0, .string ⟨#[]⟩]) ∧ i.size = 4 ∧ i.bytes = 40 := by
    have h := Tryd.infoL
    cases hh : Tryd.prog.info? 70 with
    | none => rw [hh] at h; cases h
    | some i =>
      rw [hh] at h
      simp only [Option.map_some, Option.some.injEq, Prod.mk.injEq] at h
      exact ⟨i, rfl, h.1, h.2.1, h.2.2⟩
  obtain ⟨j0, hj, jz0, jz1, jz2⟩ := info_parts Tryd.infoS
  have hmf : ∀ (fn : Fn) (first cap : Array Value) (w : World), (Instr.makeFunc fn first cap).run Tryd.prog w = .ok (.func fn first cap) w := fun _ _ _ _ => rfl
  clear hE hlen hm hkk hqq heq hsz hkb hk3 hk4 hk5 hK hQ hVB
  go_enter Tryd.func21, Tryd.ntmps21
  go_wp2_with fail
  refine (unhide hare).mono ?_
  rintro e w1 ⟨rfl, b1⟩
  have B1 := hide b1
  clear b1
  go_wp2_with fail
  go_loopw [8, 26] (fun v u wr => ∃ k : Nat, k ≤ m ∧ u = .int .i64 k ∧ wr.ownsRow w1.heap.size 70 4 v k (lc (eL R E k)) ∧ Below w1.heap.size w1 wr) (fun _ u _ => m - (intOf u).toNat)
  case atStart => exact ⟨0, by omega, rfl, World.ownsRow_nil _ _ _ _, Below.refl _ _⟩
  case round =>
    obtain ⟨k, hk, rfl, hO, hB⟩ := hrel
    obtain ⟨ao, cap, rfl⟩ := own_shape4 hO
    by_cases hlt : k < m
    · have hltE : k < E.length := by rw [unhide HM]; exact hlt
      obtain ⟨g, o, rfl, b, cc, c0, c1, hIk⟩ := unhide HE k hltE
      have BW := (unhide B1).trans (hB.mono (unhide B1).size)
      have d0 := cell_below c0 BW
      have d1 := cell_below c1 BW
      have hIw := hIk.below BW
      have eD : E[k].2 = (E.getD k ([], [])).2 := by simp [List.getD, hltE]
      rw [eD] at d1
      rw [unhide HROW k _ (List.getElem?_eq_getElem hltE)] at d0 hIw
      rw [zs_length] at d0
      have q1 : (k : Int) < m := by omega
      have HT := hide (unhide HEL k hlt)
      have hrk := hide (unhide hrof k hlt b cc)
      have HIw := hide hIw
      have HO := hide hO
      have HB := hide hB
      unfold rowV at hrk
      generalize (R.getD k []).length = rl at *
      generalize bs (E.getD k ([], [])).2 = S at *
      generalize ((wd (rowN (R.getD k [])) 0 : Nat) : Int) = x0 at *
      generalize ((wd (rowN (R.getD k [])) 1 : Nat) : Int) = x1 at *
      generalize ((wd (rowN (R.getD k [])) 2 : Nat) : Int) = x2 at *
      have hbA : Below wr.heap.size wr (wr.alloc (.cells #[.slice b rl cc, .string S] 58)) := (Below.refl _ wr).alloc (Nat.le_refl _) _
      have hcA : (wr.alloc (.cells #[.slice b rl cc, .string S] 58)).cell? ⟨wr.heap.size, 0, none⟩ = some (.slice b rl cc) := by rw [cell_of_row _ _ _ _ _ (0, 0) (heap_alloc_new _ _)]; rfl
      have hcB : (wr.alloc (.cells #[.slice b rl cc, .string S] 58)).cell? ⟨wr.heap.size, 1, none⟩ = some (.string S) := by rw [cell_of_row _ _ _ _ _ (0, 0) (heap_alloc_new _ _)]; rfl
      have hsA : (wr.alloc (.cells #[.slice b rl cc, .string S] 58)).heap.size = wr.heap.size + 1 := by simp
      have HbA := hide hbA
      clear hO hB c0 c1 hIk eD hltE BW hIw hbA
      go_wp2_with fail
      refine wp_region_late 7 ?A0 (by kernel_rfl) (by kernel_rfl) (by kernel_rfl) ?lex ?_
      case lex =>
        intro Z
        have hneX := gb_ne Z.w
        have X1 : ∀ y : Gb Z.w, y.w.cell? ⟨wr.heap.size, 0, none⟩ = _ := fun y => gb_cell (cell_below hcA Z.ok) y
        have X2 : ∀ y : Gb Z.w, y.w.cell? ⟨wr.heap.size, 1, none⟩ = _ := fun y => gb_cell (cell_below hcB Z.ok) y
        have hr2 := hide (fun y : Gb Z.w => unhide hrk y.w ((((unhide HIw).below (unhide HbA)).below Z.ok).below y.ok))
        dsimp only [List.take_succ_cons, List.take_zero]
        repeat (go_big_quiet_step ((go_at_call 38; exact gb_call (unhide hr2 _))))
        refine wpQuiet_nil ?_
        exact rfl
      intro w8 b8
      try simp only [List.drop_succ_cons, List.drop_zero]
      have b8' := (unhide HbA).trans (b8.mono (unhide HbA).size)
      have HO8 := hide (own_below2 (unhide HO) b8')
      have B8 := hide ((unhide HB).trans (b8'.mono (unhide HB).size))
      have hz8 := (unhide B8).size
      clear HO b8 b8' hcA hcB hsA
      go_wp2_with (at_builtin; refine wpList_append_own _ rfl _ _ 63 rfl w1.heap.size 70 i0 _ 4 40 Tryd.undL hi hz0 hz1 hz2 rfl (by decide) _ _ _ rfl ((unhide HO8).alloc _) ⟨w8.heap.size, 0, none⟩ 1 1 [.int .u64 x0, .int .u64 x1, .int .u64 x2, .string S] rfl rfl (news_lit _ [_, _, _, _] _) ?d2 ?d3 ?d4 ?d5 ?_)
      case d2 => intro u hu; simp at hu; rcases hu with rfl | rfl | rfl | rfl <;> rfl
      case d3 => unfold maxLen; omega
      case d4 => omega
      case d5 => first | omega | (simp; omega)
      intro v' w3 hown' hgrow _
      have hb' := hide ((((unhide B8).alloc (by omega) _)).grown hgrow (by simp; omega) (fun k hk => (((unhide HO8).lt k hk).1)))
      have ho2 : Hid (w3.ownsRow w1.heap.size 70 4 v' (k + 1) (lc (eL R E (k + 1)))) := by
        show World.ownsRow _ _ _ _ _ _ _
        rw [unhide HT]
        exact hown'
      obtain ⟨ao', cap', rfl⟩ := own_shape4 hown'
      clear hown' hgrow HO8 B8
      go_wp2_with fail
      refine onlyN ?_
      go_wp2
      go_roundw
      case rel => exact ⟨k + 1, by omega, by go_num, unhide ho2, unhide hb'⟩
      case measure => simp [intOf]; omega
    · have hkm : k = m := by omega
      subst hkm
      have he := hide (unhide hel w1.heap.size wr _ hB.size hO)
      have q1 : ¬ (k : Int) < k := by omega
      have HB := hide hB
      clear hO hB
      go_wp2_with fail
      refine (unhide he).mono ?_
      rintro e w2 ⟨a1, a2, c1, c2, rfl, l1, l2, b2⟩
      have HL1 := hide l1
      have HL2 := hide l2
      have B2 := hide ((unhide B1).trans (((unhide HB).trans b2).mono (unhide B1).size))
      clear l1 l2 b2
      go_wp2_with fail
      refine (unhide hzr _).mono ?_
      rintro e w3 ⟨rfl, b3⟩
      have hbA : Below w2.heap.size w2 (w3.alloc (.cells #[.string ZS] 9)) := (b3.alloc b3.size _)
      have hcA : (w3.alloc (.cells #[.string ZS] 9)).cell? ⟨w3.heap.size, 0, none⟩ = some (.string ZS) := by rw [cell_of_row _ _ _ _ _ (0, 0) (heap_alloc_new _ _)]; rfl
      have hcc := hide (unhide hct a2 c2 w3.heap.size _ hcA ((unhide HL2).below hbA))
      have B3 := hide ((unhide B2).trans (hbA.mono (unhide B2).size))
      have HL3 := hide ((unhide HL1).below hbA)
      clear b3 hcA hbA
      cases VB with
      | true =>
        go_wp2_with fail
        refine (unhide hcc).mono ?_
        rintro e w4 ⟨rfl, b4⟩
        have B4 := hide ((unhide B3).trans (b4.mono (unhide B3).size))
        clear b4
        go_wp2
        go_ret2
        exact ⟨rfl, unhide B4⟩
      | false =>
        go_wp2_with fail
        refine (unhide hcc).mono ?_
        rintro e w4 ⟨rfl, b4⟩
        have B4 := hide ((unhide B3).trans (b4.mono (unhide B3).size))
        have HL4 := hide ((unhide HL3).below b4)
        clear b4
        go_wp2_with (at_make; refine wpList_make_full _ rfl _ _ 41 rfl w4.heap.size 9 j0 (.string ⟨#[]⟩) 1 Tryd.undS hj jz0 jz1 .i64 .i64 _ _ n rfl rfl rfl rfl ?e2 ?e3 ?e4 ?_)
        case e2 => rw [jz2]; omega
        case e3 => unfold maxLen; omega
        case e4 => exact Nat.le_refl _
        intro w5 hown hgrow
        have hb5 := hide ((Below.refl _ _).grown hgrow (Nat.le_refl _) (by intro k hk; cases hk))
        rw [made_strs] at hown
        have HO5 := hide hown
        clear hown hgrow
        go_wp2_with fail
        go_loopw [55] (fun v wr => ∃ t : Nat, t ≤ kk ∧ v = .int .i64 t ∧ wr.ownsRow w4.heap.size 9 1 (.slice (some ⟨w4.heap.size, 0, none⟩) n n) n (sc (slv n (K.take t))) ∧ Below w4.heap.size w4 wr) (fun v _ => kk - (intOf v).toNat)
        case atStart => exact ⟨0, by omega, rfl, unhide HO5, unhide hb5⟩
        case round =>
          obtain ⟨t, ht, rfl, hO, hB⟩ := hrel
          by_cases hlt : t < kk
          · have hlt' : t < K.length := by rw [unhide HKK]; exact hlt
            obtain ⟨g, o, rfl, d0, d1, d2, d3⟩ := unhide HL4 t hlt'
            have c0 := cell_below d0 hB
            have c1 := cell_below d1 hB
            have c2 := cell_below d2 hB
            have c3 := cell_below d3 hB
            have hxb := unhide HKB _ (gt_mem hlt')
            have hon := hide (fun W => only_any (gt K t).1 (Nat.lt_of_lt_of_le hxb (Nat.pow_le_pow_right (by omega) h160)) W)
            have HTK := hide (slv_succ n K t hlt')
            have hsl := slv_len n (K.take t)
            have q1 : (t : Int) < kk := by omega
            have HO := hide hO
            have HB := hide hB
            have HI : Hid (onlyB (gt K t).1 = true → onlyI (gt K t).1 = (fb (gt K t).1 : Int)) := fun h => by
              unfold onlyB at h
              unfold onlyI
              rw [if_neg (of_decide_eq_true h).1]
            have hfl : onlyB (gt K t).1 = true → fb (gt K t).1 < n := only_lt hxb
            unfold rowV at hon
            unfold slvS at HTK
            cases hb : onlyB (gt K t).1 with
            | true =>
              have hoi := unhide HI hb
              have hfn := hfl hb
              rw [hb] at HTK hon
              rw [if_pos rfl] at HTK
              rw [hoi] at hon
              generalize fb (gt K t).1 = f at *
              generalize onlyI (gt K t).1 = oi at *
              have hset := sc_set (slv n (K.take t)) f (gt K t).2
              rw [← unhide HTK] at hset
              have HSET := hide hset
              have q2 : (f : Int) < n := by omega
              generalize bs (gt K t).2 = D at *
              generalize ((wd (gt K t).1 0 : Nat) : Int) = x0 at *
              generalize ((wd (gt K t).1 1 : Nat) : Int) = x1 at *
              generalize ((wd (gt K t).1 2 : Nat) : Int) = x2 at *
              have hbA : Below wr.heap.size wr (wr.alloc (.cells #[.int .u64 x0, .int .u64 x1, .int .u64 x2, .string D] 70)) := (Below.refl _ wr).alloc (Nat.le_refl _) _
              have hcA : (wr.alloc (.cells #[.int .u64 x0, .int .u64 x1, .int .u64 x2, .string D] 70)).cell? ⟨wr.heap.size, 3, none⟩ = some (.string D) := by rw [cell_of_row _ _ _ _ _ (0, 0) (heap_alloc_new _ _)]; rfl
              have HbA := hide hbA
              clear hO hB d0 d1 d2 d3 hoi HI hb hxb hset hfl hbA
              go_wp2_with fail
              refine (unhide hon _).mono ?_
              rintro e w6 ⟨rfl, b6⟩
              have hc6 := cell_below hcA b6
              have b6' := (unhide HbA).trans (b6.mono (unhide HbA).size)
              have hO6 := own_below2 (unhide HO) b6'
              have hB6 := (unhide HB).trans (b6'.mono (unhide HB).size)
              have hfz := hO6.frozenAt f
              obtain ⟨u, hce⟩ : ∃ u, w6.cell? ⟨w4.heap.size, f, none⟩ = some u := ⟨_, (hO6.cellAt f (by omega)).trans (sc_get _ _ (by omega))⟩
              have hst := (hO6.stored f (.string D)).1
              rw [unhide HSET] at hst
              have HST := hide hst
              have HB7 := hide (hB6.setCell (p := ⟨w4.heap.size, f, none⟩) (Nat.le_refl _) (.string D))
              clear b6 b6' hO6 hB6 hst hcA
              go_wp2
              go_roundw
              case rel => exact ⟨t + 1, by omega, by go_num, unhide HST, unhide HB7⟩
              case measure => simp [intOf]; omega
            | false =>
              rw [hb] at HTK hon
              rw [if_neg (by simp)] at HTK
              generalize onlyI (gt K t).1 = oi at *
              generalize bs (gt K t).2 = D at *
              generalize ((wd (gt K t).1 0 : Nat) : Int) = x0 at *
              generalize ((wd (gt K t).1 1 : Nat) : Int) = x1 at *
              generalize ((wd (gt K t).1 2 : Nat) : Int) = x2 at *
              have HbA := hide ((Below.refl _ wr).alloc (Nat.le_refl _) (.cells #[.int .u64 x0, .int .u64 x1, .int .u64 x2, .string D] 70))
              clear hO hB d0 d1 d2 d3 HI hb hxb hfl
              go_wp2_with fail
              refine (unhide hon _).mono ?_
              rintro e w6 ⟨rfl, b6⟩
              have b6' := (unhide HbA).trans (b6.mono (unhide HbA).size)
              have HO6 := hide (own_below2 (unhide HO) b6')
              have HB6 := hide ((unhide HB).trans (b6'.mono (unhide HB).size))
              clear b6 b6'
              go_wp2
              go_roundw
              case rel => exact ⟨t + 1, by omega, by go_num, by rw [unhide HTK]; exact unhide HO6, unhide HB6⟩
              case measure => simp [intOf]; omega
          · have htk : t = kk := by omega
            subst htk
            rw [List.take_of_length_le (by rw [unhide HKK]; exact Nat.le_refl _)] at hO
            have q1 : ¬ (t : Int) < t := by omega
            have HO : Hid (OwnS wr w.heap.size (.slice (some ⟨w4.heap.size, 0, none⟩) n n) (slv n K)) := by
              show World.ownsRow _ _ _ _ _ _ _
              rw [slv_len]
              exact own_mono hO (unhide B4).size
            have HB := hide ((unhide B4).trans (hB.mono (unhide B4).size))
            clear hO hB
            go_wp2
            go_ret2
            exact ⟨_, rfl, unhide HO, unhide HB⟩
end Go.Proofs.YtpcndjnhpjhjkaaDoor

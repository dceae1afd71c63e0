/- peers: an act on both tables: Expire. -/
import Derived.Test.YtbfakbooenmhoaaQeCS
import Derived.Test.YtbfakbooenmhoaaRsd
namespace Go.Proofs.Ytbfakbooenmhoaa
open Go.RowKit
set_option linter.unusedVariables false
attribute [local go_sem] Oper.semAt_some

set_option maxRecDepth 100000 in
set_option maxHeartbeats 1000000 in
theorem idsame_any (w : World) (A D : List Int) (a0 b0 : Option Addr) (c d : Nat) (kA : A.length ≤ 100000) (kD : D.length ≤ 100000) (hA : Ints w a0 A) (hB : Ints w b0 D) :
    Calls Try.prog 35 #[.slice a0 A.length c, .slice b0 D.length d] w fun e w' => e = .returned (.bool (decide (A = D))) ∧ Below w.heap.size w w' := by
  obtain ⟨r, hr⟩ : ∃ r, r = decide (A = D) := ⟨_, rfl⟩
  rw [← hr]
  have HR := hide hr
  have HA := hide hA
  have HB := hide hB
  clear hA hB hr
  by_cases hlen : A.length = D.length
  · rw [← hlen]
    have HL := hide hlen
    clear hlen kD
    generalize hk' : A.length = k at *
    have HK := hide hk'
    clear hk'
    go_enter Try.func35, Try.ntmps35
    go_wp2_with fail
    go_loopw [5] (fun v wr => ∃ i q : Nat, i ≤ k ∧ v = .int .i64 i ∧ w.drewN q = wr ∧ ∀ (j : Nat) (x y : Int), j < i → A[j]? = some x → D[j]? = some y → x = y) (fun v _ => k - (intOf v).toNat)
    case atStart => exact ⟨0, 0, Nat.zero_le _, rfl, rfl, fun j x y hj => by omega⟩
    case round =>
      obtain ⟨i, q, hi, rfl, rfl, hno⟩ := hrel
      have HNO := hide hno
      clear hno
      by_cases hlt : i < k
      · have hlt' : i < A.length := by rw [unhide HK]; exact hlt
        have hlt2 : i < D.length := by rw [← unhide HL]; exact hlt
        obtain ⟨g, o, rfl, e1⟩ := unhide HA i hlt'
        obtain ⟨g', o', rfl, e2⟩ := unhide HB i hlt2
        have ha := List.getElem?_eq_getElem hlt'
        have hb := List.getElem?_eq_getElem hlt2
        generalize A[i] = x at *
        generalize D[i] = y at *
        have HX := hide ha
        have HY := hide hb
        clear hlt' hlt2 ha hb
        have q1 : (i : Int) < k := by omega
        by_cases hq : x = y
        · have q2 : (x != y) = false := by simpa using hq
          have HQ := hide hq
          clear hq
          go_wp2
          go_quiet (fail)
          go_wp2
          go_roundw
          case rel => exact ⟨i + 1, q + nq, by omega, by go_num, rfl, fun j x' y' hj h1 h2 => by
            by_cases ej : j = i
            · subst ej
              rw [unhide HX] at h1
              rw [unhide HY] at h2
              cases h1
              cases h2
              exact unhide HQ
            · exact unhide HNO j x' y' (by omega) h1 h2⟩
          case measure => simp [intOf]; omega
        · have q2 : (x != y) = true := by simpa using hq
          have hrf : r = false := by
            rw [unhide HR, decide_eq_false_iff_not]
            intro e
            rw [e, unhide HY] at HX
            exact hq (Option.some.inj (unhide HX)).symm
          subst hrf
          clear hq HR
          go_wp2
          go_quiet (fail)
          go_wp2
          go_ret
          exact ⟨rfl, below_drawn (below_drawn (Below.refl _ _) _) _⟩
      · have q1 : ¬ (i : Int) < k := by omega
        have hrt : r = true := by
          rw [unhide HR, decide_eq_true_iff]
          refine List.ext_getElem (by rw [unhide HK, ← unhide HL]) fun j h1 h2 => ?_
          exact unhide HNO j _ _ (by rw [unhide HK] at h1; omega) (List.getElem?_eq_getElem h1) (List.getElem?_eq_getElem h2)
        subst hrt
        clear HR
        go_wp2
        go_ret
        exact ⟨rfl, below_drawn (Below.refl _ _) _⟩
  · have hrf : r = false := by
      rw [unhide HR, decide_eq_false_iff_not]
      intro e
      exact hlen (by rw [e])
    subst hrf
    have q1 : ((A.length : Int) != (D.length : Int)) = true := by simp; omega
    clear hlen HR
    go_enter Try.func35, Try.ntmps35
    go_wp2
    go_ret
    exact ⟨rfl, Below.refl _ _⟩
theorem expire_bad (t : Value) (n : Int) (w : World) (hn : isTm n = false) :
    Calls Try.prog 19 #[t, .int .i64 n] w fun e w' => e = .returned (.slice none 0 0) ∧ w = w' := by
  have gt := hide (fun w => isTime_any n w)
  rw [hn] at gt
  go_enter Try.func19, Try.ntmps19
  go_wp2_with fail
  refine (unhide gt _).mono ?_
  rintro e w1 ⟨rfl, rfl⟩
  go_wp2
  go_ret
  exact ⟨rfl, rfl⟩
/-- what stays over the region: rows, the table's box, the act -/
structure Fe (gT gA : Nat) (x y : World) : Prop where
  blk : ∀ (k : Nat) (cs : Array Value) (T : TypeId), x.heap[k]? = some (.cells cs T (0, 0)) → (T = 43 ∨ T = 3 ∨ k = gT ∨ k = gA) → y.heap[k]? = some (.cells cs T (0, 0))
theorem Fe.trans {gT gA : Nat} {x y z : World} (f : Fe gT gA x y) (g : Fe gT gA y z) : Fe gT gA x z := ⟨fun k cs T h hT => g.blk k cs T (f.blk k cs T h hT) hT⟩
theorem Fe.of_below {gT gA : Nat} {x y : World} (h : Below x.heap.size x y) : Fe gT gA x y := ⟨fun k cs T hk _ => (h.block k (lt_of_block hk)).trans hk⟩
theorem Fe.dt {gT gA B : Nat} {x y : World} (f : Fe gT gA x y) {v vb : Value} {L : List Pr} {Bs : List Int} (h : Dt B x v vb L Bs) : Dt B y v vb L Bs :=
  dt_types h fun k cs T hk hT => (f.blk k cs T hk (by rcases hT with e | e; exact .inl e; exact .inr (.inl e))).trans hk.symm
theorem Fe.own {gT gA B : Nat} {x y : World} (f : Fe gT gA x y) {v : Value} {l : List Int} (h : OwnI x B v l) : OwnI y B v l := by
  refine ⟨h.1, ?_⟩
  rcases h.2 with ⟨h1, h2⟩ | ⟨g, cap, cur, h1, h2, h3, h4⟩
  · exact .inl ⟨h1, h2⟩
  · exact .inr ⟨g, cap, cur, h1, h2, f.blk g _ _ h3 (.inr (.inl rfl)), h4⟩
/-- the states of the region -/
structure ZX (B b : Nat) (room tmo : Int) (P : Nat → Option Nat) (C : Nat → Pr) (Bn : Nat → Bool) (R : (Nat → Option Nat) → (Nat → Pr) → (Nat → Bool) → Prop) (w : World) (gA gR : Nat) (cA : Array Value) (vL vB : Value) (L L2 : List Pr) (Bs : List Int) (j : Nat) (x : World) : Prop where
  dt0 : Dt B x vL vB L Bs
  act : x.heap[gA]? = some (.cells cA 33 (0, 0))
  box : x.heap[w.heap.size]? = some (.cells #[.int .i64 room, .int .i64 tmo, vL, vB] 29 (0, 0))
  ans : ∃ cs, x.heap[gR]? = some (.cells cs 29 (0, 0)) ∧ cs.size = 4 ∧ (5 ≤ j → ∃ v, cs = #[.int .i64 room, .int .i64 tmo, v, vB] ∧ Dt B x v vB L2 Bs)
  pr : PRes B b room tmo P (if j < 2 then REq P C Bn else R) w x
  lo : w.heap.size < gR ∧ B ≤ w.heap.size
theorem ZX.up {B b : Nat} {room tmo : Int} {P : Nat → Option Nat} {C : Nat → Pr} {Bn : Nat → Bool} {R : (Nat → Option Nat) → (Nat → Pr) → (Nat → Bool) → Prop} {w : World} {gA gR : Nat} {cA : Array Value} {vL vB : Value} {L L2 : List Pr} {Bs : List Int} {j j' : Nat} {x y : World} (h : ZX B b room tmo P C Bn R w gA gR cA vL vB L L2 Bs j x) (hb : Below x.heap.size x y) (hj : (j < 2 ↔ j' < 2) ∧ (5 ≤ j' → 5 ≤ j)) : ZX B b room tmo P C Bn R w gA gR cA vL vB L L2 Bs j' y := by
  obtain ⟨cs, h1, h2, h3⟩ := h.ans
  refine ⟨h.dt0.up hb, (hb.block _ (lt_of_block h.act)).trans h.act, (hb.block _ (lt_of_block h.box)).trans h.box, ⟨cs, (hb.block _ (lt_of_block h1)).trans h1, h2, fun h5 => ?_⟩, ?_, h.lo⟩
  · obtain ⟨v, e, hd⟩ := h3 (hj.2 h5)
    exact ⟨v, e, hd.up hb⟩
  · have := h.pr.up hb
    by_cases h2 : j < 2
    · rw [if_pos h2] at this
      rw [if_pos (hj.1.1 h2)]
      exact this
    · rw [if_neg h2] at this
      rw [if_neg (fun h' => h2 (hj.1.2 h'))]
      exact this
theorem ZX.call {B b : Nat} {room tmo : Int} {P : Nat → Option Nat} {C : Nat → Pr} {Bn : Nat → Bool} {R : (Nat → Option Nat) → (Nat → Pr) → (Nat → Bool) → Prop} {w : World} {gA gR : Nat} {cA : Array Value} {vL vB : Value} {L L2 : List Pr} {Bs : List Int} {x x' : World} (h : ZX B b room tmo P C Bn R w gA gR cA vL vB L L2 Bs 1 x) (hr : PRes B b room tmo P R x x') : ZX B b room tmo P C Bn R w gA gR cA vL vB L L2 Bs 2 x' ∧ Fe w.heap.size gA x x' := by
  obtain ⟨P', C', Bn', h1, h2⟩ := h.pr.ex
  rw [if_pos (by decide)] at h1
  obtain ⟨rfl, rfl, rfl⟩ := h1
  obtain ⟨cs, a1, a2, _⟩ := h.ans
  refine ⟨⟨kt_dt h2 hr.kt h.dt0, kt_keep h2 hr.kt h.act (by decide) (by decide), kt_keep h2 hr.kt h.box (by decide) (by decide), ⟨cs, kt_keep h2 hr.kt a1 (by decide) (by decide), a2, fun h5 => absurd h5 (by decide)⟩, ⟨by rw [if_neg (by decide)]; exact hr.ex, h.pr.kt.trans' hr.kt⟩, h.lo⟩, ⟨fun k cs T hk hT => ?_⟩⟩
  have ty : ∀ {k : Nat} {cs : Array Value} {T : TypeId}, x.heap[k]? = some (.cells cs T (0, 0)) → T ≠ 67 → T ≠ 46 → x'.heap[k]? = some (.cells cs T (0, 0)) := fun h3 h4 h5 => kt_keep h2 hr.kt h3 h4 h5
  rcases hT with e | e | e | e
  · exact ty hk (by rw [e]; decide) (by rw [e]; decide)
  · exact ty hk (by rw [e]; decide) (by rw [e]; decide)
  · subst e
    have hb := h.box
    rw [hk] at hb
    simp only [Option.some.injEq, Obj.cells.injEq] at hb
    exact ty hk (by rw [hb.2.1]; decide) (by rw [hb.2.1]; decide)
  · subst e
    have hb := h.act
    rw [hk] at hb
    simp only [Option.some.injEq, Obj.cells.injEq] at hb
    exact ty hk (by rw [hb.2.1]; decide) (by rw [hb.2.1]; decide)
theorem ZX.store {B b : Nat} {room tmo : Int} {P : Nat → Option Nat} {C : Nat → Pr} {Bn : Nat → Bool} {R : (Nat → Option Nat) → (Nat → Pr) → (Nat → Bool) → Prop} {w : World} {gA gR : Nat} {cA : Array Value} {vL vB : Value} {L L2 : List Pr} {Bs : List Int} {x : World} (h : ZX B b room tmo P C Bn R w gA gR cA vL vB L L2 Bs 4 x) {v : Value} (hd : Dt B x v vB L2 Bs) (hna : gA ≠ gR) : ZX B b room tmo P C Bn R w gA gR cA vL vB L L2 Bs 5 (x.setRow gR #[.int .i64 room, .int .i64 tmo, v, vB]) ∧ Fe w.heap.size gA x (x.setRow gR #[.int .i64 room, .int .i64 tmo, v, vB]) := by
  obtain ⟨cs, a1, a2, _⟩ := h.ans
  have hp := h.pr
  rw [if_neg (by decide)] at hp
  have hl := h.lo
  refine ⟨⟨dt_setRow h.dt0 a1 _, (setRow_other _ gR gA _ hna).trans h.act, (setRow_other _ gR _ _ (by omega)).trans h.box, ⟨_, setRow_heap _ gR _ _ _ _ a1, rfl, fun _ => ⟨v, rfl, dt_setRow hd a1 _⟩⟩, by rw [if_neg (by decide)]; exact hp.row a1 (by omega) _, h.lo⟩, ⟨fun k cs' T hk hT => (setRow_other _ gR k _ (fun e => ?_)).trans hk⟩⟩
  subst e
  rw [a1] at hk
  simp only [Option.some.injEq, Obj.cells.injEq] at hk
  rcases hT with e | e | e | e
  · exact absurd (hk.2.1.trans e) (by decide)
  · exact absurd (hk.2.1.trans e) (by decide)
  · omega
  · exact hna e.symm
/-- what the marked operations answer -/
def RE (B : Nat) (room tmo : Int) (vB : Value) (L2 : List Pr) (Bs G G2 : List Int) (r : Bool) (i : Nat) (v : Value) (x : World) : Prop :=
  if i = 3 then ∃ v1, v = tabV room tmo v1 vB ∧ Dt B x v1 vB L2 Bs else if i = 7 then OwnI x B v G else if i = 11 then OwnI x B v G2 else v = .bool r
theorem RE.stay {B : Nat} {room tmo : Int} {vB : Value} {L2 : List Pr} {Bs G G2 : List Int} {r : Bool} {i : Nat} {v : Value} {gT gA : Nat} {x y : World} (h : RE B room tmo vB L2 Bs G G2 r i v x) (f : Fe gT gA x y) : RE B room tmo vB L2 Bs G G2 r i v y := by
  unfold RE at h ⊢
  split
  · rename_i e
    rw [if_pos e] at h
    obtain ⟨v1, h1, h2⟩ := h
    exact ⟨v1, h1, f.dt h2⟩
  · rename_i e
    rw [if_neg e] at h
    split
    · rename_i e
      rw [if_pos e] at h
      exact f.own h
    · rename_i e
      rw [if_neg e] at h
      split
      · rename_i e
        rw [if_pos e] at h
        exact f.own h
      · rename_i e
        rw [if_neg e] at h
        exact h
set_option maxRecDepth 100000 in
set_option maxHeartbeats 8000000 in
theorem ado4_any (B b : Nat) (room tmo nd n qx qy : Int) (s : ByteArray) (on : Bool) (P : Nat → Option Nat) (C : Nat → Pr) (Bn : Nat → Bool) (R : (Nat → Option Nat) → (Nat → Pr) → (Nat → Bool) → Prop) (G : List Int) (vL vB : Value) (L : List Pr) (Bs : List Int) (w : World)
    (hTb : Tb B w b room tmo P C Bn) (h : Dt B w vL vB L Bs) (hB : B ≤ w.heap.size) (hS : ∀ c ∈ L, Bd c) (kG : G.length ≤ 100000)
    (hP : ∀ x, Tb B x b room tmo P C Bn → Calls Try.prog 19 #[.pointer (some ⟨b, 0, none⟩), .int .i64 n] x fun e x' => ∃ v, e = .returned v ∧ OwnI x' B v G ∧ PRes B b room tmo P R x x') :
    Calls Try.prog 10 #[.pointer (some ⟨b, 0, none⟩), tabV room tmo vL vB, .agg #[.int .i64 4, .int .i64 nd, .int .i64 n, .int .i64 qx, .int .i64 qy, .string s, .bool on]] w fun e w' => ARes B b room tmo P R w (G = laL L tmo n) (wosL L (laL L tmo n)) Bs e w' := by
  have HBW := hide hB
  have HTB := hide hTb
  have hPP := hide hP
  have hDE := hide (fun x hx hb => dexpire_any B room tmo n vL vB L Bs x hx hb hS)
  have hDL := hide (fun x hx hb => dlate_any B room tmo n vL vB L Bs x hx hb hS)
  have k2 : (laL L tmo n).length ≤ 100000 := Nat.le_trans (laL_len L tmo n) (Nat.le_trans h.nL (by decide))
  clear hB hTb hP hS
  obtain ⟨l2, hl2⟩ : ∃ l2, l2 = wosL L (laL L tmo n) := ⟨_, rfl⟩
  rw [← hl2] at hDE ⊢
  obtain ⟨G2, hG2⟩ : ∃ G2, G2 = laL L tmo n := ⟨_, rfl⟩
  rw [← hG2] at hDL k2 ⊢
  clear hl2 hG2
  obtain ⟨r, hr⟩ : ∃ r, r = decide (G = G2) := ⟨_, rfl⟩
  have hreq : r = true ↔ G = G2 := by rw [hr]; exact decide_eq_true_iff
  have HREQ := hide hreq
  have hSame := hide (fun (x : World) (a b : Option Addr) (c d : Nat) ha hb => idsame_any x G G2 a b c d kG k2 ha hb)
  rw [← hr] at hSame
  clear hr hreq kG k2
  obtain ⟨a0, c0, rfl⟩ := ownDe_shape h.oL
  obtain ⟨a1, c1, rfl⟩ := ownI_shape h.oB
  have HH := hide h
  clear h
  obtain ⟨nb, hnb⟩ : ∃ nb, nb = Bs.length := ⟨_, rfl⟩
  obtain ⟨m, hm⟩ : ∃ m, m = L.length := ⟨_, rfl⟩
  rw [← hnb, ← hm] at HH hDE hDL ⊢
  clear hnb hm
  go_enter Try.func10, Try.ntmps10
  go_wp2_with fail
  obtain ⟨w1, hw1⟩ : ∃ w1, w1 = ((w.alloc (.cells #[.int .i64 room, .int .i64 tmo, .slice a0 m c0, .slice a1 nb c1] 29)).alloc (.cells #[.int .i64 4, .int .i64 nd, .int .i64 n, .int .i64 qx, .int .i64 qy, .string s, .bool on] 33)).alloc (.cells #[.int .i64 0, .int .i64 0, .slice none 0 0, .slice none 0 0] 29) := ⟨_, rfl⟩
  obtain ⟨t1, tx, t2, t3⟩ := three_boxes w #[.int .i64 room, .int .i64 tmo, .slice a0 m c0, .slice a1 nb c1] #[.int .i64 4, .int .i64 nd, .int .i64 n, .int .i64 qx, .int .i64 qy, .string s, .bool on] #[.int .i64 0, .int .i64 0, .slice none 0 0, .slice none 0 0] 29 33 29
  rw [← hw1] at t1 tx t2 t3
  have HW : Hid (w1 = _) := hw1
  obtain ⟨gR, hgR⟩ : ∃ gR, gR = w.heap.size + 1 + 1 := ⟨_, rfl⟩
  obtain ⟨gA, hgA⟩ : ∃ gA, gA = w.heap.size + 1 := ⟨_, rfl⟩
  rw [← hgR] at t2
  rw [← hgA] at tx
  have HT := hide t1
  have HR := hide t2
  have HA := hide tx
  have HB := hide t3
  have HG : Hid (w.heap.size ≤ gR) := by
    rw [hgR]
    show _ ≤ _
    omega
  have HLT : Hid (w.heap.size < gR ∧ gA ≠ gR) := by
    rw [hgR, hgA]
    exact ⟨by omega, by omega⟩
  have HGR := hide hgR
  have HGA := hide hgA
  clear t1 t2 t3 tx hw1 hgR hgA
  rw [← unhide HW]
  generalize hy : w.heap.size + 1 + 1 = gy at *
  generalize hx : w.heap.size + 1 = gx at *
  have hgx : gA = gx := unhide HGA
  have hgy : gR = gy := unhide HGR
  clear hx hy
  subst hgx hgy
  have HZ0 : Hid ((ZX B b room tmo P C Bn R w gA gR #[.int .i64 4, .int .i64 nd, .int .i64 n, .int .i64 qx, .int .i64 qy, .string s, .bool on] (.slice a0 m c0) (.slice a1 nb c1) L l2 Bs) 0 w1) := ⟨(unhide HH).up (unhide HB), unhide HA, unhide HT, ⟨_, unhide HR, rfl, fun h5 => absurd h5 (by decide)⟩, ⟨⟨P, C, Bn, ⟨rfl, rfl, rfl⟩, (unhide HTB).up (unhide HB)⟩, KT.of_below (unhide HB)⟩, ⟨(unhide HLT).1, unhide HBW⟩⟩
  obtain ⟨b0, b1, b2, b3⟩ := four_cells (unhide HT)
  have hxA := unhide HA
  have a2' : w1.cell? ⟨gA, 2, none⟩ = some (.int .i64 n) := by simp [World.cell?, hxA]
  clear hxA
  have hTfe := unhide HT
  have hAfe := unhide HA
  clear HB HT HR HTB HH HGR HGA
  refine wp_region_rsd [false, false, false, true, false, false, false, true, false, false, false, true, true, true, true] [] [] [78, 82, 86, 87, 7] _ ?A9 (Fe w.heap.size gA) (RE B room tmo (.slice a1 nb c1) l2 Bs G G2 r) (fun _ _ _ => True) ((ZX B b room tmo P C Bn R w gA gR #[.int .i64 4, .int .i64 nd, .int .i64 n, .int .i64 qx, .int .i64 qy, .string s, .bool on] (.slice a0 m c0) (.slice a1 nb c1) L l2 Bs)) (by kernel_rfl) (by kernel_rfl) (by kernel_rfl) (fun x hx => (unhide HZ0).up (hx.mono (Nat.le_refl _)) ⟨Iff.rfl, fun h => h⟩) (fun k x y h hb => h.up hb ⟨Iff.rfl, fun h => h⟩) (fun x y z h1 h2 => h1.trans h2) (fun x y h => Fe.of_below h) (fun j v x y h hf => h.stay hf) (fun _ _ _ _ _ _ => trivial) (fun _ _ _ _ _ _ _ _ => trivial) (Off.refl _ _) (by simp) ?lex (by simp) ?st ?fin
  case lex =>
    intro z hz
    have hneX := gb_ne z
    have hT := hz.blk _ _ _ hTfe (.inr (.inr (.inl rfl)))
    have hA := hz.blk _ _ _ hAfe (.inr (.inr (.inr rfl)))
    obtain ⟨c0', c1', c2', c3'⟩ := four_cells hT
    have e0 : ∀ y : Gb z, y.w.cell? ⟨w.heap.size, 0, none⟩ = some (.int .i64 room) := fun y => gb_cell c0' y
    have e1 : ∀ y : Gb z, y.w.cell? ⟨w.heap.size, 1, none⟩ = some (.int .i64 tmo) := fun y => gb_cell c1' y
    have e2 : ∀ y : Gb z, y.w.cell? ⟨w.heap.size, 2, none⟩ = some (.slice a0 m c0) := fun y => gb_cell c2' y
    have e3 : ∀ y : Gb z, y.w.cell? ⟨w.heap.size, 3, none⟩ = some (.slice a1 nb c1) := fun y => gb_cell c3' y
    have e4 : ∀ y : Gb z, y.w.cell? ⟨gA, 2, none⟩ = some (.int .i64 n) := fun y => gb_cell (by simp [World.cell?, hA]) y
    clear hT hA c0' c1' c2' c3'
    dsimp only [restM]
    repeat (go_big_quiet_step (fail))
    refine wpQuiet_nil ?_
    exact rfl
  case st =>
    intro j o ho hmj z bq hz hZ hop
    have hj : j ∈ [3, 7, 11, 12, 13, 14] := mask_in hmj
    simp only [List.mem_cons, List.not_mem_nil, or_false] at hj
    rcases hj with rfl | rfl | rfl | rfl | rfl | rfl
    all_goals
      simp only [List.getElem?_cons_succ, List.getElem?_cons_zero, Option.some.injEq] at ho
      subst ho
    · have y0 : bq.eval (.tmp 75) = .agg #[.int .i64 room, .int .i64 tmo, .slice a0 m c0, .slice a1 nb c1] := hop 75 (by simp [Op.operands, Call.operands])
      have y1 : bq.eval (.tmp 77) = .int .i64 n := hop 77 (by simp [Op.operands, Call.operands])
      have hZ' : (ZX B b room tmo P C Bn R w gA gR #[.int .i64 4, .int .i64 nd, .int .i64 n, .int .i64 qx, .int .i64 qy, .string s, .bool on] (.slice a0 m c0) (.slice a1 nb c1) L l2 Bs) 0 z := hZ
      have hsz := Nat.le_trans hZ'.lo.2 hZ'.pr.kt.size
      refine wp_call 34 #[.tmp 75, .tmp 77] _ rfl Try.call34 #[.agg #[.int .i64 room, .int .i64 tmo, .slice a0 m c0, .slice a1 nb c1], .int .i64 n] (by simp [y0, y1]) (unhide hDE z hZ'.dt0 hsz) ?_
      rintro e w7 ⟨v, rfl, hd7, b7⟩
      exact ⟨_, rfl, _, rfl, fun _ => ⟨v, rfl, hd7⟩, fun h => (by cases h), Fe.of_below b7, hZ'.up (j' := 1) b7 ⟨by decide, by decide⟩⟩
    · have y0 : bq.eval (.tmp 79) = .pointer (some ⟨b, 0, none⟩) := hop 79 (by simp [Op.operands, Call.operands])
      have y1 : bq.eval (.tmp 81) = .int .i64 n := hop 81 (by simp [Op.operands, Call.operands])
      have hZ' : (ZX B b room tmo P C Bn R w gA gR #[.int .i64 4, .int .i64 nd, .int .i64 n, .int .i64 qx, .int .i64 qy, .string s, .bool on] (.slice a0 m c0) (.slice a1 nb c1) L l2 Bs) 1 z := hZ
      obtain ⟨P', C', Bn', h1, h2⟩ := hZ'.pr.ex
      obtain ⟨rfl, rfl, rfl⟩ : P' = P ∧ C' = C ∧ Bn' = Bn := h1
      refine wp_call 19 #[.tmp 79, .tmp 81] _ rfl Try.call19 #[.pointer (some ⟨b, 0, none⟩), .int .i64 n] (by simp [y0, y1]) (unhide hPP z h2) ?_
      rintro e w7 ⟨v, rfl, ho7, hr7⟩
      obtain ⟨z2, f2⟩ := hZ'.call hr7
      exact ⟨_, rfl, _, rfl, fun _ => ho7, fun h => (by cases h), f2, z2⟩
    · have y0 : bq.eval (.tmp 83) = .agg #[.int .i64 room, .int .i64 tmo, .slice a0 m c0, .slice a1 nb c1] := hop 83 (by simp [Op.operands, Call.operands])
      have y1 : bq.eval (.tmp 85) = .int .i64 n := hop 85 (by simp [Op.operands, Call.operands])
      have hZ' : (ZX B b room tmo P C Bn R w gA gR #[.int .i64 4, .int .i64 nd, .int .i64 n, .int .i64 qx, .int .i64 qy, .string s, .bool on] (.slice a0 m c0) (.slice a1 nb c1) L l2 Bs) 2 z := hZ
      have hsz := Nat.le_trans hZ'.lo.2 hZ'.pr.kt.size
      refine wp_call 36 #[.tmp 83, .tmp 85] _ rfl Try.call36 #[.agg #[.int .i64 room, .int .i64 tmo, .slice a0 m c0, .slice a1 nb c1], .int .i64 n] (by simp [y0, y1]) (unhide hDL z hZ'.dt0 hsz) ?_
      rintro e w7 ⟨v, rfl, ho7, b7⟩
      exact ⟨_, rfl, _, rfl, fun _ => ownI_le ho7 hsz, fun h => (by cases h), Fe.of_below b7, hZ'.up (j' := 3) b7 ⟨by decide, by decide⟩⟩
    · have y0 : OwnI z B (bq.eval (.tmp 82)) G := hop 82 (by simp [Op.operands, Call.operands])
      have y1 : OwnI z B (bq.eval (.tmp 86)) G2 := hop 86 (by simp [Op.operands, Call.operands])
      have hZ' : (ZX B b room tmo P C Bn R w gA gR #[.int .i64 4, .int .i64 nd, .int .i64 n, .int .i64 qx, .int .i64 qy, .string s, .bool on] (.slice a0 m c0) (.slice a1 nb c1) L l2 Bs) 3 z := hZ
      obtain ⟨aa, ca, ya, ha, _⟩ := y0.ints
      obtain ⟨ab, cb, yb, hb, _⟩ := y1.ints
      refine wp_call 35 #[.tmp 82, .tmp 86] _ rfl Try.call35 #[.slice aa G.length ca, .slice ab G2.length cb] (by simp [ya, yb]) (unhide hSame z aa ab ca cb ha hb) ?_
      rintro e w7 ⟨rfl, b7⟩
      exact ⟨_, rfl, _, rfl, fun _ => rfl, fun h => (by cases h), Fe.of_below b7, hZ'.up (j' := 4) b7 ⟨by decide, by decide⟩⟩
    · obtain ⟨v1, y1, hd⟩ : ∃ v1, bq.eval (.tmp 78) = tabV room tmo v1 (.slice a1 nb c1) ∧ Dt B z v1 (.slice a1 nb c1) l2 Bs := hop 78 (by simp [Op.operands])
      have y0 : bq.eval (.tmp 6) = .pointer (some ⟨gR, 0, none⟩) := hop 6 (by simp [Op.operands])
      have hZ' : (ZX B b room tmo P C Bn R w gA gR #[.int .i64 4, .int .i64 nd, .int .i64 n, .int .i64 qx, .int .i64 qy, .string s, .bool on] (.slice a0 m c0) (.slice a1 nb c1) L l2 Bs) 4 z := hZ
      obtain ⟨cs, hc, hcs, _⟩ := hZ'.ans
      obtain ⟨z2, f2⟩ := hZ'.store hd (unhide HLT).2
      have hoc : (#[.int .i64 room, .int .i64 tmo, v1, .slice a1 nb c1] : Array Value).all (·.oneCell') = true := by
        obtain ⟨av, cv, rfl⟩ := ownDe_shape hd.oL
        simp [Value.oneCell']
      refine wp_store_row 29 (.tmp 6) (.tmp 78) rfl gR #[.int .i64 room, .int .i64 tmo, v1, .slice a1 nb c1] y0 y1 29 cs hc (by kernel_rfl) hcs hoc ?_
      exact ⟨undef, rfl, fun h => absurd rfl h, fun _ => trivial, f2, z2⟩
    · have y0 : bq.eval (.tmp 87) = .bool r := hop 87 (by simp [Op.operands])
      have hZ' : (ZX B b room tmo P C Bn R w gA gR #[.int .i64 4, .int .i64 nd, .int .i64 n, .int .i64 qx, .int .i64 qy, .string s, .bool on] (.slice a0 m c0) (.slice a1 nb c1) L l2 Bs) 5 z := hZ
      refine Oper.wp_mono ?_ (?_ : Oper.wp _ _ _ _ (fun b' w' => b' = bq.put (some 7) (.bool r) ∧ w' = z) _)
      · rintro b' w' ⟨rfl, rfl⟩
        exact ⟨_, rfl, fun _ => rfl, fun h => (by cases h), Fe.of_below (Below.refl _ _), hZ'.up (j' := 6) (Below.refl _ _) ⟨by decide, by decide⟩⟩
      · have y0' : bq.tmps[87]?.getD undef = .bool r := by simpa [Act.eval] using y0
        go_simp
  case fin =>
    intro bq z hz hoff hrel hT hZ
    have hZ' : (ZX B b room tmo P C Bn R w gA gR #[.int .i64 4, .int .i64 nd, .int .i64 n, .int .i64 qx, .int .i64 qy, .string s, .bool on] (.slice a0 m c0) (.slice a1 nb c1) L l2 Bs) 6 z := hZ
    have y9 : bq.eval (.tmp 7) = .bool r := hrel 14 _ 7 rfl rfl rfl
    have hall := Off.all _ _ hoff
    simp only [List.foldl_cons, List.foldl_nil] at hall
    rw [y9] at hall
    generalize bq.eval (.tmp 78) = v78 at hall
    generalize bq.eval (.tmp 82) = v82 at hall
    generalize bq.eval (.tmp 86) = v86 at hall
    generalize bq.eval (.tmp 87) = v87 at hall
    rw [hall]
    obtain ⟨cs, hc, _, h5⟩ := hZ'.ans
    obtain ⟨v, rfl, hd⟩ := h5 (by decide)
    have hpr := hZ'.pr
    rw [if_neg (by decide)] at hpr
    have HC := hide hc
    have HD := hide hd
    have HPR := hide hpr
    clear hall y9 hc hd hpr h5 hZ' hZ hT hrel hoff hz HZ0 b0 b1 b2 b3 a2' hTfe hAfe hSame hDE hDL hPP HA
    simp only [Act.put, List.setIfInBounds_toArray, List.set_cons_succ, List.set_cons_zero]
    go_wp2
    exact ret_row2 (p := 6) (q := 7) (ty := 29) (by kernel_rfl) gR 29 _ (0, 0) _ _ rfl rfl (unhide HC) rfl Try.underlying29 (by kernel_rfl) ⟨⟨v, _, r, rfl, unhide HREQ, unhide HD⟩, unhide HPR⟩
end Go.Proofs.Ytbfakbooenmhoaa

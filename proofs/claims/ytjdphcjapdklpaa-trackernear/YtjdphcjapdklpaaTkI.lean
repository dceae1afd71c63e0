/- tracker: Announce. -/
import Derived.Test.YtjdphcjapdklpaaTkH
import Derived.Test.YtjdphcjapdklpaaRsk
namespace Go.Proofs.Ytjdphcjapdklpaa
open Go.RowKit
set_option linter.unusedVariables false
attribute [local go_sem] Oper.semAt_some

theorem mask_in {m : List Bool} {j : Nat} (h : m[j]? = some true) : j ∈ (List.range m.length).filter fun i => m[i]? == some true :=
  List.mem_filter.2 ⟨List.mem_range.2 (List.getElem?_eq_some_iff.1 h).1, by simp [h]⟩
theorem setRow_alloc (w : World) (A B : Array Value) (t : TypeId) : (w.alloc (.cells A t)).setRow w.heap.size B = w.alloc (.cells B t) := by
  unfold World.setRow World.alloc
  simp only [World.mk.injEq, and_true]
  apply Array.ext_getElem?
  intro i
  rw [Array.getElem?_modify]
  by_cases hi : w.heap.size = i
  · subst hi; simp
  · simp [hi, Array.getElem?_push, show ¬ i = w.heap.size from fun e => hi e.symm]
theorem wpQuiet_get_tk {ops : Array Oper} {C : World → Prop} {Q : Act → Prop} {a : Act} {o : Oper} {rest : List Oper} (hg : o.guard = none) (m x : Operand) (hop : o.op = Op.lookup 50 m x false) (b n : Nat) (D : DataW Value) (f : Names) (hD : MapF D f) (hm : a.eval m = .map (some b)) (hown : ∀ w, C w → w.ownsMap Try.prog 9 stE b n D) (k : By) (hx : a.eval x = .string (bs k)) (hk : k.length ≤ maxLen)
    (h : wpQuiet Try.prog ops C Q rest (a.put o.dst (.agg (slC ((f k).getD zS)).toArray))) :
    wpQuiet Try.prog ops C Q (o :: rest) a := by
  unfold wpQuiet
  have hw : Region.wanted o (yielded ops a.tmps) = true := by simp [Region.wanted, hg]
  rw [if_pos hw]
  refine ⟨_, fun w hC => ?_, h⟩
  have hz : (zeroValue 56).run Try.prog w = .ok (.agg (slC zS).toArray) w := by kernel_rfl
  obtain ⟨v, ps, hrun, hv⟩ := (hown w hC).lookup keyed Try.underlying50 hz (zd := .held _) (zp := []) rfl (keyOf_s hk)
  have hv2 : v = .agg (slC ((f k).getD zS)).toArray := by
    cases hf : f k with
    | some s =>
      rw [hD.el k s hf] at hv
      simp only [stE, Option.some.injEq, Prod.mk.injEq, DataW.held.injEq] at hv
      exact hv.1
    | none =>
      have h0 : Maps.has D (kS k) = false := by rw [hD.hs, hf]; rfl
      rw [Maps.atKey_of_not_has h0] at hv
      simp only [stE, Option.some.injEq, Prod.mk.injEq, DataW.held.injEq] at hv
      exact hv.1
  subst hv2
  unfold Oper.quietAt Oper.quietUpon execOp
  simp [hop, hm, hx, hrun, Result.andThen]
theorem tb_keys {w : World} {b mb : Nat} {f : Names} {N : Nat} {room : Int} (h : TbAt w b mb f N room) : ∃ ss, SKeys f ss ∧ ss.length ≤ N := by
  obtain ⟨D, h1, h2, h3⟩ := h.map
  refine ⟨_, skeys_of h1 h2 (List.Perm.refl _), ?_⟩
  rw [List.length_mergeSort, skeys_len h2 (List.Perm.refl _)]
  exact h3
/-- how many names are there -/
def nmN (f : Names) (now : Int) (ss : List By) : Nat := (ss.filter (thB f now)).length
/-- the table behind an announcement -/
def annF (f : Names) (x : Nt) (now : Int) : Names := putF (forgetF f now) x.nm (putA ((forgetF f now x.nm).getD zS) x)
theorem mayN_ok {x : Nt} {now : Int} (h : mayN x now = true) (ht : isT now = true) : NtOk x.nm x := by
  unfold mayN isN okP okN at h
  unfold isT at ht
  simp only [Bool.and_eq_true, decide_eq_true_iff] at h ht
  obtain ⟨h1, h2, h3, h4⟩ := h
  exact ⟨h2, rfl, h1, ⟨h3.1.1, h3.1.2, h3.2.1, h3.2.2⟩, by omega, h4.2⟩
theorem forget_ok {f : Names} (h : ∀ k s, f k = some s → SlOk k s) (now : Int) : ∀ k s, forgetF f now k = some s → SlOk k s := fun k s hs => by
  unfold forgetF at hs
  cases hf : f k with
  | none => rw [hf] at hs; cases hs
  | some t =>
    rw [hf] at hs
    simp only at hs
    split at hs
    · cases hs
    · cases hs
      exact (h k t hf).clean now
set_option maxRecDepth 100000 in
set_option maxHeartbeats 2000000 in
theorem ann_bad (b mb : Nat) (f : Names) (N : Nat) (room now : Int) (x : Nt) (w : World) (hT : TbAt w b mb f N room) (hx : x.nm.length ≤ maxLen) (hb : (isT now && mayN x now) = false) :
    Calls Try.prog 8 #[.pointer (some ⟨b, 0, none⟩), .agg x.cl.toArray, .int .i64 now] w fun e w' => e = .returned (.int .i64 1) ∧ Below w.heap.size w w' := by
  have HTm := hide (fun W => ttime_any now W)
  have HMy := hide (fun W => tmay_any x now W hx)
  have b0 : Below w.heap.size w (w.alloc (.cells x.cl.toArray 25)) := (Below.refl _ w).alloc (Nat.le_refl _) _
  have H0 := hide (heap_alloc_new w (.cells x.cl.toArray 25))
  obtain ⟨W0, hW0⟩ : ∃ W0, W0 = w.alloc (.cells x.cl.toArray 25) := ⟨_, rfl⟩
  rw [← hW0] at b0 H0
  have HW := hide hW0
  have B0 := hide b0
  clear b0 hW0 hT hx
  generalize isT now = I at *
  generalize mayN x now = M at *
  obtain ⟨nm, nd, px, py, un⟩ := x
  unfold Nt.cl at *
  dsimp only at *
  cases I with
  | false =>
    clear hb
    go_enter Try.func8, Try.ntmps8
    go_wp2_with fail
    rw [← unhide HW]
    refine (unhide HTm _).mono ?_
    rintro e w1 ⟨rfl, rfl⟩
    go_wp2
    go_ret
    exact ⟨rfl, unhide B0⟩
  | true =>
    rw [Bool.true_and] at hb
    subst hb
    go_enter Try.func8, Try.ntmps8
    go_wp2_with fail
    rw [← unhide HW]
    clear HW
    refine (unhide HTm _).mono ?_
    rintro e w1 ⟨rfl, rfl⟩
    obtain ⟨⟨x0, x1, x2, x3, x4⟩, xl⟩ := note_cells (p := ⟨nm, nd, px, py, un⟩) (unhide H0)
    go_wp2_with fail
    refine (unhide HMy _).mono ?_
    rintro e w2 ⟨rfl, b2⟩
    have B2 := hide ((unhide B0).trans (b2.mono (unhide B0).size))
    clear b2
    go_wp2
    go_ret
    exact ⟨rfl, unhide B2⟩
/-- what Nodes and its length answer in the test of Announce -/
def RA (n0 : Nat) : Nat → Value → World → Prop
  | 4, v, _ => ∃ a c, v = .slice a n0 c
  | 5, v, _ => v = .int .i64 n0
  | _, v, _ => v = undef
theorem RA.stay {n0 j : Nat} {v : Value} {x y : World} (h : RA n0 j v x) : RA n0 j v y := by
  unfold RA at h ⊢
  split at h <;> exact h
set_option maxRecDepth 100000 in
set_option maxHeartbeats 16000000 in
theorem ann_good (b mb : Nat) (f : Names) (N : Nat) (room now : Int) (x : Nt) (ss : List By) (w : World) (hT : TbAt w b mb f N room) (hN : N ≤ 10000) (hx : x.nm.length ≤ maxLen) (hi : isT now = true) (hmy : mayN x now = true) (hss : SKeys f ss) :
    Calls Try.prog 8 #[.pointer (some ⟨b, 0, none⟩), .agg x.cl.toArray, .int .i64 now] w fun e w' =>
      ((ndF f x.nm now).length = 0 ∧ room ≤ nmN f now ss ∧ e = .returned (.int .i64 6) ∧ Below w.heap.size w w') ∨
      (¬ ((ndF f x.nm now).length = 0 ∧ room ≤ nmN f now ss) ∧ e = .returned (.int .i64 0) ∧ TbAt w' b mb (annF f x now) (N + 1) room ∧ w.grownBy w' (some mb)) := by
  have HTm := hide (fun W => ttime_any now W)
  have HMy := hide (fun W => tmay_any x now W hx)
  rw [hi] at HTm
  rw [hmy] at HMy
  have hok := mayN_ok hmy hi
  have HOK := hide hok
  have b0 : Below w.heap.size w (w.alloc (.cells x.cl.toArray 25)) := (Below.refl _ w).alloc (Nat.le_refl _) _
  have h0 := heap_alloc_new w (.cells x.cl.toArray 25)
  obtain ⟨W0, hW0⟩ : ∃ W0, W0 = w.alloc (.cells x.cl.toArray 25) := ⟨_, rfl⟩
  rw [← hW0] at b0 h0
  have H0 := hide h0
  have HW := hide hW0
  have B0 := hide b0
  have HND := hide (fun W (hW : TbAt W b mb f N room) => nodes_any b mb f N room x.nm now W hW hx)
  have HLN : Hid (∀ W, TbAt W b mb f N room → Calls Try.prog 9 #[.pointer (some ⟨b, 0, none⟩), .int .i64 now] W fun e w' => e = .returned (.int .i64 (nmN f now ss : Nat)) ∧ Below W.heap.size W w') := fun W hW => (tlen_any b mb f N room now W hW (by omega)).mono (by
    rintro e w' ⟨n, rfl, _, ⟨ss2, h1, h2⟩, h3⟩
    rw [h2, skeys_one h1 hss]
    exact ⟨rfl, h3⟩)
  have HFG := hide (fun W (hW : TbAt W b mb f N room) => forget_any b mb f N room now W hW (by omega) hi)
  have HX := hide hx
  have HT := hide hT
  have hbm : w.heap.size > mb := hT.mlt
  have hnl : nmN f now ss ≤ 10000 := by
    unfold nmN
    obtain ⟨s2, h1, h2⟩ := tb_keys hT
    rw [skeys_one hss h1]
    exact Nat.le_trans (List.length_filter_le _ _) (by omega)
  have hrm := hT.rm
  obtain ⟨R0, hR0⟩ : ∃ R, R = ndF f x.nm now := ⟨_, rfl⟩
  rw [← hR0] at HND ⊢
  obtain ⟨nl, hnn⟩ : ∃ n, n = nmN f now ss := ⟨_, rfl⟩
  rw [← hnn] at HLN hnl ⊢
  clear b0 h0 hW0 hT hx hi hmy hok hss hR0 hnn
  have hr0 : R0.length = R0.length := rfl
  obtain ⟨n0, hn0⟩ : ∃ n, n = R0.length := ⟨_, rfl⟩
  rw [← hn0]
  have HN0 := hide hn0
  clear hn0 hr0
  obtain ⟨nm, nd, px, py, un⟩ := x
  have HCells : Hid (∀ W, Below W0.heap.size W0 W → (W.cell? ⟨w.heap.size, 0, none⟩ = some (.string (bs nm)) ∧ W.cell? ⟨w.heap.size, 1, none⟩ = some (.int .i64 nd) ∧ W.cell? ⟨w.heap.size, 2, none⟩ = some (.int .i64 px) ∧ W.cell? ⟨w.heap.size, 3, none⟩ = some (.int .i64 py) ∧ W.cell? ⟨w.heap.size, 4, none⟩ = some (.int .i64 un)) ∧ w.heap.size < W.heap.size) := fun W hW =>
    note_cells (p := ⟨nm, nd, px, py, un⟩) ((hW.block _ (lt_of_block (unhide H0))).trans (unhide H0))
  have HT0 := hide ((unhide HT).up (unhide B0))
  unfold Nt.cl at *
  dsimp only at *
  go_enter Try.func8, Try.ntmps8
  go_wp2_with fail
  rw [← unhide HW]
  clear HW
  refine (unhide HTm _).mono ?_
  rintro e w1 ⟨rfl, rfl⟩
  obtain ⟨⟨x0, x1, x2, x3, x4⟩, xl⟩ := note_cells (p := ⟨nm, nd, px, py, un⟩) (unhide H0)
  go_wp2_with fail
  clear x0 x1 x2 x3 x4 xl
  refine (unhide HMy _).mono ?_
  rintro e w2 ⟨rfl, b2⟩
  have B2 := hide b2
  have HT2 := hide ((unhide HT0).up b2)
  clear b2 HT0 HTm HMy
  go_wp2_with fail
  rcases Nat.eq_zero_or_pos n0 with hz0 | hz0
  · have e0 : ((n0 : Int) == 0) = true := by simp [hz0]
    have HZ0 := hide hz0
    clear hz0
    by_cases hfull : room ≤ (nl : Int)
    · have e1 : decide (room ≤ (nl : Int)) = true := decide_eq_true hfull
      refine wp_region_rel [false, false, false, false, true, true, false, false, false, false, false, false, false, false, false, false, false] [(28, true)] [5] [25, 26] (Act.put _ (some 26) (.int .i64 n0)) ?A31 (fun x y => Below x.heap.size x y) (RA n0) (by kernel_rfl) (by kernel_rfl) (fun x y z h1 h2 => h1.trans (h2.mono h1.size)) (fun x y h => h) (fun j v x y h hb => RA.stay h) ((Off.refl _ _).put 26 _ (by simp)) ?det31 ?lex31 ?gA31 ?st31 ?fin31
      case lex31 =>
        intro z hz
        have hneX := gb_ne z
        obtain ⟨⟨t0, t1, t2, t3, t4⟩, tl⟩ := unhide HCells z ((unhide B2).trans (hz.mono (unhide B2).size))
        obtain ⟨r0, r1, rl⟩ := ((unhide HT2).up hz).cells
        have g0 : ∀ y : Gb z, _ := fun y => gb_cell t0 y
        have k0 : ∀ y : Gb z, _ := fun y => gb_cell r0 y
        have k1 : ∀ y : Gb z, _ := fun y => gb_cell r1 y
        have hlen := hide (fun y : Gb z => unhide HLN y.w (((unhide HT2).up hz).up y.ok))
        clear t0 t1 t2 t3 t4 tl r0 r1 rl
        dsimp only [restM]
        simp only [Act.put, List.setIfInBounds_toArray, List.set_cons_succ, List.set_cons_zero]
        repeat (go_big_quiet_step ((go_at_call 9; exact gb_call (unhide hlen _))))
        refine wpQuiet_nil ?_
        exact rfl
      case det31 =>
        intro j hj o s ho hs v z hR
        simp only [List.mem_cons, List.not_mem_nil, or_false] at hj
        rcases hj with rfl
        all_goals
          simp only [List.getElem?_cons_succ, List.getElem?_cons_zero, Option.some.injEq] at ho
          subst ho
          simp only [Option.some.injEq] at hs
          subst hs
          exact hR.trans rfl
      case gA31 =>
        intro g hg
        simp only [List.mem_cons, List.not_mem_nil, or_false] at hg
        rcases hg with rfl <;> rfl
      case st31 =>
        intro j o ho hmj z bb hz hop
        have hj : j ∈ [4, 5] := mask_in hmj
        simp only [List.mem_cons, List.not_mem_nil, or_false] at hj
        rcases hj with rfl | rfl
        · simp only [List.getElem?_cons_succ, List.getElem?_cons_zero, Option.some.injEq] at ho
          subst ho
          have y0 : bb.eval (.tmp 21) = .pointer (some ⟨b, 0, none⟩) := hop 21 (by simp [Op.operands, Call.operands])
          have y1 : bb.eval (.tmp 23) = .string (bs nm) := hop 23 (by simp [Op.operands, Call.operands])
          have y2 : bb.eval (.tmp 24) = .int .i64 now := hop 24 (by simp [Op.operands, Call.operands])
          refine wp_call 10 #[.tmp 21, .tmp 23, .tmp 24] _ rfl Try.call10 #[.pointer (some ⟨b, 0, none⟩), .string (bs nm), .int .i64 now] (by simp [y0, y1, y2]) (unhide HND z ((unhide HT2).up hz)) ?_
          rintro e w7 ⟨v, rfl, hR⟩
          exact ⟨_, rfl, _, rfl, by obtain ⟨a7, c7, h7, _⟩ := hR.own.nts; exact ⟨a7, c7, by rw [h7, unhide HN0]⟩, hR.be⟩
        · simp only [List.getElem?_cons_succ, List.getElem?_cons_zero, Option.some.injEq] at ho
          subst ho
          obtain ⟨a7, c7, y0⟩ : ∃ a c, bb.eval (.tmp 25) = .slice a n0 c := hop 25 (by simp [Op.operands, Call.operands])
          have y1 : bb.tmps[25]?.getD undef = .slice a7 n0 c7 := by simpa [Act.eval] using y0
          unfold Oper.wp
          simp [y1, go_sem, Builtin.len_]
          exact ⟨_, rfl, rfl, Below.refl _ _⟩
      case fin31 =>
        intro bb z hz hoff hrel
        have hall := Off.all _ _ hoff
        simp only [List.foldl_cons, List.foldl_nil] at hall
        generalize bb.eval (.tmp 25) = v25 at hall
        generalize bb.eval (.tmp 26) = v26 at hall
        rw [hall]
        clear hall hrel hoff
        simp only [Act.put, List.setIfInBounds_toArray, List.set_cons_succ, List.set_cons_zero]
        have B3 := hide ((unhide B0).trans (((unhide B2).trans (hz.mono (unhide B2).size)).mono (unhide B0).size))
        clear hz
        go_wp2
        go_ret
        exact .inl ⟨unhide HZ0, hfull, rfl, unhide B3⟩
    · have e1 : decide (room ≤ (nl : Int)) = false := decide_eq_false hfull
      have HNO : Hid (¬ (n0 = 0 ∧ room ≤ (nl : Int))) := fun h => hfull h.2
      clear hfull
      refine wp_region_rel [false, false, false, false, true, true, false, false, false, false, false, false, false, false, false, false, false] [(28, true)] [5] [25, 26] (Act.put _ (some 26) (.int .i64 n0)) ?A32 (fun x y => Below x.heap.size x y) (RA n0) (by kernel_rfl) (by kernel_rfl) (fun x y z h1 h2 => h1.trans (h2.mono h1.size)) (fun x y h => h) (fun j v x y h hb => RA.stay h) ((Off.refl _ _).put 26 _ (by simp)) ?det32 ?lex32 ?gA32 ?st32 ?fin32
      case lex32 =>
        intro z hz
        have hneX := gb_ne z
        obtain ⟨⟨t0, t1, t2, t3, t4⟩, tl⟩ := unhide HCells z ((unhide B2).trans (hz.mono (unhide B2).size))
        obtain ⟨r0, r1, rl⟩ := ((unhide HT2).up hz).cells
        have g0 : ∀ y : Gb z, _ := fun y => gb_cell t0 y
        have k0 : ∀ y : Gb z, _ := fun y => gb_cell r0 y
        have k1 : ∀ y : Gb z, _ := fun y => gb_cell r1 y
        have hlen := hide (fun y : Gb z => unhide HLN y.w (((unhide HT2).up hz).up y.ok))
        clear t0 t1 t2 t3 t4 tl r0 r1 rl
        dsimp only [restM]
        simp only [Act.put, List.setIfInBounds_toArray, List.set_cons_succ, List.set_cons_zero]
        repeat (go_big_quiet_step ((go_at_call 9; exact gb_call (unhide hlen _))))
        refine wpQuiet_nil ?_
        exact rfl
      case det32 =>
        intro j hj o s ho hs v z hR
        simp only [List.mem_cons, List.not_mem_nil, or_false] at hj
        rcases hj with rfl
        all_goals
          simp only [List.getElem?_cons_succ, List.getElem?_cons_zero, Option.some.injEq] at ho
          subst ho
          simp only [Option.some.injEq] at hs
          subst hs
          exact hR.trans rfl
      case gA32 =>
        intro g hg
        simp only [List.mem_cons, List.not_mem_nil, or_false] at hg
        rcases hg with rfl <;> rfl
      case st32 =>
        intro j o ho hmj z bb hz hop
        have hj : j ∈ [4, 5] := mask_in hmj
        simp only [List.mem_cons, List.not_mem_nil, or_false] at hj
        rcases hj with rfl | rfl
        · simp only [List.getElem?_cons_succ, List.getElem?_cons_zero, Option.some.injEq] at ho
          subst ho
          have y0 : bb.eval (.tmp 21) = .pointer (some ⟨b, 0, none⟩) := hop 21 (by simp [Op.operands, Call.operands])
          have y1 : bb.eval (.tmp 23) = .string (bs nm) := hop 23 (by simp [Op.operands, Call.operands])
          have y2 : bb.eval (.tmp 24) = .int .i64 now := hop 24 (by simp [Op.operands, Call.operands])
          refine wp_call 10 #[.tmp 21, .tmp 23, .tmp 24] _ rfl Try.call10 #[.pointer (some ⟨b, 0, none⟩), .string (bs nm), .int .i64 now] (by simp [y0, y1, y2]) (unhide HND z ((unhide HT2).up hz)) ?_
          rintro e w7 ⟨v, rfl, hR⟩
          exact ⟨_, rfl, _, rfl, by obtain ⟨a7, c7, h7, _⟩ := hR.own.nts; exact ⟨a7, c7, by rw [h7, unhide HN0]⟩, hR.be⟩
        · simp only [List.getElem?_cons_succ, List.getElem?_cons_zero, Option.some.injEq] at ho
          subst ho
          obtain ⟨a7, c7, y0⟩ : ∃ a c, bb.eval (.tmp 25) = .slice a n0 c := hop 25 (by simp [Op.operands, Call.operands])
          have y1 : bb.tmps[25]?.getD undef = .slice a7 n0 c7 := by simpa [Act.eval] using y0
          unfold Oper.wp
          simp [y1, go_sem, Builtin.len_]
          exact ⟨_, rfl, rfl, Below.refl _ _⟩
      case fin32 =>
        intro bb z hz hoff hrel
        have hall := Off.all _ _ hoff
        simp only [List.foldl_cons, List.foldl_nil] at hall
        generalize bb.eval (.tmp 25) = v25 at hall
        generalize bb.eval (.tmp 26) = v26 at hall
        rw [hall]
        clear hall hrel hoff
        simp only [Act.put, List.setIfInBounds_toArray, List.set_cons_succ, List.set_cons_zero]
        have B3 := hide ((unhide B2).trans (hz.mono (unhide B2).size))
        have HT3 := hide ((unhide HT2).up hz)
        clear hz B2 HT2
        go_wp2_with fail
        refine (unhide HFG _ (unhide HT3)).mono ?_
        rintro e w4 ⟨rfl, hT4, hG4⟩
        have HT4 := hide hT4
        have HG4 := hide (grown_trans (grown_of (unhide B3) (some mb)) hG4)
        have HC4 : Hid ((w4.cell? ⟨w.heap.size, 0, none⟩ = some (.string (bs nm)) ∧ w4.cell? ⟨w.heap.size, 1, none⟩ = some (.int .i64 nd)) ∧ w.heap.size < w4.heap.size ∧ w4.heap[w.heap.size]? = some (.cells #[.string (bs nm), .int .i64 nd, .int .i64 px, .int .i64 py, .int .i64 un] 25 (0, 0))) := by
          have h3 : w4.heap[w.heap.size]? = some (.cells #[.string (bs nm), .int .i64 nd, .int .i64 px, .int .i64 py, .int .i64 un] 25 (0, 0)) := ((unhide HG4).block _ (lt_of_block (unhide H0)) (fun e => by have := Option.some.inj e; omega)).trans (unhide H0)
          obtain ⟨⟨g0, g1, _⟩, g2⟩ := note_cells (p := ⟨nm, nd, px, py, un⟩) h3
          exact ⟨⟨g0, g1⟩, g2, h3⟩
        clear hT4 hG4 HT3 B3 HFG HND HLN
        obtain ⟨D, hM, hD, hDN⟩ := (unhide HT4).map
        have HM := hide hM
        have HD := hide hD
        have HDN := hide hDN
        have hso := ok_get (unhide HT4).ok nm
        have HSO := hide hso
        have hann : annF f ⟨nm, nd, px, py, un⟩ now = putF (forgetF f now) nm (putA ((forgetF f now nm).getD zS) ⟨nm, nd, px, py, un⟩) := rfl
        obtain ⟨AF, hAF⟩ : ∃ A, A = annF f ⟨nm, nd, px, py, un⟩ now := ⟨_, rfl⟩
        rw [← hAF] at hann
        have HAF := hide hAF
        clear hAF
        have HANN := hide hann
        generalize forgetF f now = ff at *
        obtain ⟨s, hs⟩ : ∃ s, s = (ff nm).getD zS := ⟨_, rfl⟩
        have HS := hide hs
        rw [← hs] at HSO HANN
        have hzz : Try.zeroCells56.size = (slC s).toArray.size := by
          have : (slC s).length = 80 := by rw [slC_len, hs, hso.len]
          simp only [List.size_toArray, this]
          rfl
        have HZZ := hide hzz
        have hcr := (unhide HT4).cells
        have HCR := hide hcr
        clear hM hD hDN hso hann hs hcr hzz
        go_wp2_with fail
        refine wp_region_eff [false, false, false, false, false, false, false, true, true] [] 7 ?Ae32 _ _ (by kernel_rfl) (by kernel_rfl) rfl ?lexe32 ?freee32 ?_
        case lexe32 =>
          intro X
          have hne := gb_ne X.w
          have d1 : ∀ y : Gb X.w, _ := fun y => gb_cell (cell_below (unhide HCR).2.1 X.ok) y
          have d2 : ∀ y : Gb X.w, _ := fun y => gb_cell (cell_below (unhide HC4).1.1 X.ok) y
          dsimp only [restM]
          iterate 6 (go_big_quiet_step (fail))
          refine wpQuiet_get_tk rfl _ _ rfl mb (Maps.size D) D ff (unhide HD) rfl (fun z hz => ?_) nm rfl (unhide HX) ?_
          · obtain ⟨y, rfl⟩ := hz
            exact World.ownsMap.kept (World.ownsMap.kept (unhide HM) (grown_of X.ok none) (by simp)) (grown_of y.ok none) (by simp)
          rw [← unhide HS]
          simp only [Act.put, List.setIfInBounds_toArray, List.set_cons_succ, List.set_cons_zero]
          refine wpQuiet_nil ?_
          exact rfl
        case freee32 => intro j hj; exact absurd hj (List.not_mem_nil)
        intro w5 b5
        have HT5 := hide ((unhide HT4).up b5)
        have hM5 := World.ownsMap.kept (unhide HM) (grown_of b5 none) (by simp)
        have HM5 := hide hM5
        have HB5 := hide b5
        have HZ := hide (heap_alloc_new w5 (.cells Try.zeroCells56 56))
        have hGG : AlAt ((w5.alloc (.cells Try.zeroCells56 56)).setRow w5.heap.size (slC s).toArray) w5.heap.size s ∧ Below w5.heap.size w5 ((w5.alloc (.cells Try.zeroCells56 56)).setRow w5.heap.size (slC s).toArray) := by
          rw [setRow_alloc]
          exact ⟨alAt_new w5 s (unhide HSO).len 56, (Below.refl _ w5).alloc (Nat.le_refl _) _⟩
        have HGG := hide hGG
        have hone : (slC s).toArray.all (·.oneCell') = true := by
          rw [Array.all_eq_true']
          intro u hu
          have hu2 : u ∈ slC s := by simpa using hu
          unfold slC at hu2
          obtain ⟨q, _, hq⟩ := List.mem_flatMap.1 hu2
          exact List.all_eq_true.1 (show q.cl.all (·.oneCell') = true from rfl) u hq
        have HONE := hide hone
        clear b5 hM5 hGG hone HM HCR
        try dsimp only [effM]
        go_wp2_with fail
        refine onlyN ⟨(Below.refl _ _).alloc (Nat.le_refl _) _, ?_⟩
        try dsimp only [effM]
        go_wp2_with (refine wpList_store_row_to rfl 56 (.tmp 7) (.tmp 47) rfl w5.heap.size (slC s).toArray rfl rfl 56 _ (unhide HZ) (by rw [List.size_toArray, slC_len, (unhide HSO).len]; exact Try.infoAl) (unhide HZZ) (unhide HONE) (fun w' => AlAt w' w5.heap.size s ∧ Below w5.heap.size w5 w') (unhide HGG) ?_)
        intro w6 h6 b6
        refine onlyN ?_
        have HT6 := hide ((unhide HT5).up b6)
        have HBB6 := hide b6
        have HB6 := hide ((unhide HB5).trans (b6.mono (unhide HB5).size))
        have HA6 := hide h6
        have hc6 := (b6.block _ (by have := (unhide HB5).size; have := (unhide HC4).2.1; omega)).trans (((unhide HB5).block _ (unhide HC4).2.1).trans (unhide HC4).2.2)
        have HC6 := hide hc6
        obtain ⟨⟨x0, x1, x2, x3, x4⟩, xl⟩ := note_cells (p := ⟨nm, nd, px, py, un⟩) hc6
        obtain ⟨nn, hnn⟩ : ∃ nn : Nat, nd = nn := ⟨nd.toNat, by have := (unhide HOK).1; dsimp only at this; omega⟩
        have hn1 : 1 ≤ nn ∧ nn ≤ 15 := by have := (unhide HOK).1; dsimp only at this; omega
        subst hnn
        have hpt := h6.put ⟨nm, nn, px, py, un⟩ (by dsimp only; omega)
        dsimp only [Int.toNat_natCast] at hpt
        have hB7 : Below w4.heap.size w4 (w6.setCells w5.heap.size (nn * 5) [.string (bs nm), .int .i64 nn, .int .i64 px, .int .i64 py, .int .i64 un]) := below_cells (unhide HB5).size _ _ (unhide HB6)
        have hTb7 : Below w5.heap.size w6 (w6.setCells w5.heap.size (nn * 5) [.string (bs nm), .int .i64 nn, .int .i64 px, .int .i64 py, .int .i64 un]) := below_cells (Nat.le_refl _) _ _ (Below.refl _ _)
        have HPT := hide (And.intro hpt (And.intro hB7 hTb7))
        have hth : w6.there w5.heap.size (nn * 5) 5 := fun j hj => by
          have := h6.th (nn * 5 + j) (by omega)
          rwa [Nat.zero_add] at this
        have HTH := hide hth
        have hl6 := h6.lt
        clear h6 b6 HZ HGG HONE hc6 hpt hB7 hTb7 hth HZZ
        go_wp2_with (first | (refine wpList_load_row rfl 25 (.tmp 4) rfl w.heap.size rfl 25 _ (0, 0) _ (unhide HC6) Try.underlying25 rfl (by kernel_rfl) ?_) | (refine wpList_store_mid_to rfl 25 (.tmp 51) (.tmp 50) rfl w5.heap.size (nn * 5) #[.string (bs nm), .int .i64 nn, .int .i64 px, .int .i64 py, .int .i64 un] rfl rfl (unhide HTH) (by kernel_rfl) (nt_all ⟨nm, nn, px, py, un⟩) (fun w' => AlAt w' w5.heap.size (putA s ⟨nm, nn, px, py, un⟩) ∧ Below w4.heap.size w4 w' ∧ Below w5.heap.size w6 w') (unhide HPT) ?_))
        intro w7 h7 b7 d7
        have hb57 : Below w5.heap.size w5 w7 := (unhide HBB6).trans d7
        have HT7 := hide ((unhide HT5).up hb57)
        have HM7 := hide (World.ownsMap.kept (unhide HM5) (grown_of hb57 none) (by simp))
        have HB7 := hide b7
        have HA7 := hide h7
        have hc7 := (d7.block _ (by have := (unhide HB5).size; have := (unhide HC4).2.1; omega)).trans (unhide HC6)
        obtain ⟨⟨z0, z1, z2, z3, z4⟩, zl⟩ := note_cells (p := ⟨nm, nn, px, py, un⟩) hc7
        have C0 := hide z0
        have CL := hide zl
        have CT := hide (unhide HT7).cells
        have hso8 : SlOk nm (putA s ⟨nm, nn, px, py, un⟩) := (unhide HSO).put (unhide HOK)
        have HSO8 := hide hso8
        generalize putA s ⟨nm, nn, px, py, un⟩ = s8 at *
        clear b7 d7 h7 hc7 z0 z1 z2 z3 z4 zl hb57 HPT HTH hl6 HM5 HT5 HT6 HA6 HC6 HBB6 HB6 hso8
        clear x0 x1 x2 x3 x4 xl
        refine onlyN ?_
        try dsimp only [effM]
        go_wp2_with fail
        refine wp_region_late 7 ?late32 (by kernel_rfl) (by kernel_rfl) (by kernel_rfl) ?lexl32 ?_
        case lexl32 =>
          intro X
          have hne := gb_ne X.w
          have d1 : ∀ y : Gb X.w, _ := fun y => gb_cell (cell_below (unhide CT).2.1 X.ok) y
          have d2 : ∀ y : Gb X.w, _ := fun y => gb_cell (cell_below (unhide C0) X.ok) y
          dsimp only [List.take_succ_cons, List.take_zero]
          iterate 6 (go_big_quiet_step (fail))
          refine wpQuiet_load_mid rfl 56 (.tmp 7) rfl w5.heap.size 0 rfl (slC s8) _ (fun z hz => ?_) Try.underlying56 rfl (by rw [slC_len, (unhide HSO8).len]; exact Try.infoAl) ?_
          · obtain ⟨y, rfl⟩ := hz
            exact (((unhide HA7).up X.ok).up y.ok).ra
          simp only [Act.put, List.setIfInBounds_toArray, List.set_cons_succ, List.set_cons_zero]
          refine wpQuiet_nil ?_
          exact rfl
        intro w8 b8
        have hT8 := (unhide HT7).up b8
        have HT8 := hide hT8
        have HM8 := hide (World.ownsMap.kept (unhide HM7) (grown_of b8 none) (by simp))
        have HG8 := hide (grown_trans (unhide HG4) (grown_of ((unhide HB7).trans (b8.mono (unhide HB7).size)) (some mb)))
        clear b8 hT8
        try dsimp only [List.drop_succ_cons, List.drop_zero]
        have hNl : Maps.size D < maxLen := by have := unhide HDN; unfold maxLen; omega
        refine wpList_mapUpdate_own _ rfl _ _ _ 50 rfl 9 56 keyed Try.underlying50 stE mb (Maps.size D) D rfl (unhide HM8) hNl (.string (bs nm)) (.agg (slC s8).toArray) (kS nm) rfl rfl (keyOf_s (unhide HX)) (.held (.agg (slC s8).toArray)) [] rfl ?_
        intro w9 hM9 hg9
        have HR : Hid (TbAt w9 b mb AF (N + 1) room ∧ w.grownBy w9 (some mb)) := by
          have hT8 := unhide HT8
          have hsz := Maps.size_put (k := kS nm) (unhide HD).tidy (.held (.agg (slC s8).toArray))
          have hDN := unhide HDN
          have hsz2 : Maps.size (D.put (kS nm) (.held (.agg (slC s8).toArray))) ≤ N + 1 := by
            rw [hsz]
            split <;> omega
          rw [unhide HANN]
          refine ⟨⟨(hg9.block b hT8.lt (fun e => hT8.ne (Option.some.inj e))).trans hT8.blk, ⟨_, own_tight hM9, (unhide HD).put nm s8, hsz2⟩, fun j t hj => ?_, fun j t hj => ?_, hT8.ne, hT8.rm⟩, grown_trans (grown_trans (grown_of (unhide B0) (some mb)) (unhide HG8)) hg9⟩
          · unfold putF at hj
            split at hj
            · cases hj
              rename_i e
              rw [e]
              exact unhide HSO8
            · exact hT8.ok j t hj
          · unfold putF at hj
            split at hj
            · rename_i e
              rw [e]
              exact (unhide HOK).2.2.1
            · exact hT8.kl j t hj
        clear hM9 hg9
        go_wp2_with fail
        refine onlyN ?_
        go_wp2
        go_ret
        exact .inr ⟨unhide HNO, rfl, by rw [← unhide HAF]; exact unhide HR⟩
  · have e0 : ((n0 : Int) == 0) = false := by simp; omega
    have HNO : Hid (¬ (n0 = 0 ∧ room ≤ (nl : Int))) := fun h => by omega
    clear hz0
    refine wp_region_rsk [false, false, false, false, true, true, false, false, true, true, true, true, true, true, true, true, false] [false, false, false, false, false, false, false, false, true, true, true, true, true, true, true, true, false] [(28, false)] [5, 15] [25, 26, 29, 30, 31, 32, 33, 34, 35, 36] (Act.put (Act.put _ (some 26) (.int .i64 n0)) (some 36) (undef)) ?A33 (fun x y => Below x.heap.size x y) (RA n0) (by kernel_rfl) (by kernel_rfl) (fun x y z h1 h2 => h1.trans (h2.mono h1.size)) (fun x y h => h) (fun j v x y h hb => RA.stay h) (((Off.refl _ _).put 26 _ (by simp)).put 36 _ (by simp)) ?det33 ?lex33 ?gA33 ?sk33 ?st33 ?fin33
    case lex33 =>
      intro z hz
      have hneX := gb_ne z
      obtain ⟨⟨t0, t1, t2, t3, t4⟩, tl⟩ := unhide HCells z ((unhide B2).trans (hz.mono (unhide B2).size))
      obtain ⟨r0, r1, rl⟩ := ((unhide HT2).up hz).cells
      have g0 : ∀ y : Gb z, _ := fun y => gb_cell t0 y
      have k0 : ∀ y : Gb z, _ := fun y => gb_cell r0 y
      have k1 : ∀ y : Gb z, _ := fun y => gb_cell r1 y
      have hlen := hide (fun y : Gb z => unhide HLN y.w (((unhide HT2).up hz).up y.ok))
      clear t0 t1 t2 t3 t4 tl r0 r1 rl
      dsimp only [restM]
      simp only [Act.put, List.setIfInBounds_toArray, List.set_cons_succ, List.set_cons_zero]
      repeat (go_big_quiet_step ((go_at_call 9; exact gb_call (unhide hlen _))))
      refine wpQuiet_nil ?_
      exact rfl
    case det33 =>
      intro j hj o s ho hs v z hR
      simp only [List.mem_cons, List.not_mem_nil, or_false] at hj
      rcases hj with rfl | rfl
      all_goals
        simp only [List.getElem?_cons_succ, List.getElem?_cons_zero, Option.some.injEq] at ho
        subst ho
        simp only [Option.some.injEq] at hs
        subst hs
        exact hR.trans rfl
    case gA33 =>
      intro g hg
      simp only [List.mem_cons, List.not_mem_nil, or_false] at hg
      rcases hg with rfl <;> rfl
    case sk33 =>
      intro j hj x
      have hj2 : j ∈ [8, 9, 10, 11, 12, 13, 14, 15] := mask_in hj
      simp only [List.mem_cons, List.not_mem_nil, or_false] at hj2
      rcases hj2 with rfl | rfl | rfl | rfl | rfl | rfl | rfl | rfl
      all_goals exact rfl
    case st33 =>
      intro j o ho hmj hns z bb hz hop
      have hj : j ∈ [4, 5, 8, 9, 10, 11, 12, 13, 14, 15] := mask_in hmj
      simp only [List.mem_cons, List.not_mem_nil, or_false] at hj
      rcases hj with rfl | rfl | rfl | rfl | rfl | rfl | rfl | rfl | rfl | rfl
      · simp only [List.getElem?_cons_succ, List.getElem?_cons_zero, Option.some.injEq] at ho
        subst ho
        have y0 : bb.eval (.tmp 21) = .pointer (some ⟨b, 0, none⟩) := hop 21 (by simp [Op.operands, Call.operands])
        have y1 : bb.eval (.tmp 23) = .string (bs nm) := hop 23 (by simp [Op.operands, Call.operands])
        have y2 : bb.eval (.tmp 24) = .int .i64 now := hop 24 (by simp [Op.operands, Call.operands])
        refine wp_call 10 #[.tmp 21, .tmp 23, .tmp 24] _ rfl Try.call10 #[.pointer (some ⟨b, 0, none⟩), .string (bs nm), .int .i64 now] (by simp [y0, y1, y2]) (unhide HND z ((unhide HT2).up hz)) ?_
        rintro e w7 ⟨v, rfl, hR⟩
        exact ⟨_, rfl, _, rfl, by obtain ⟨a7, c7, h7, _⟩ := hR.own.nts; exact ⟨a7, c7, by rw [h7, unhide HN0]⟩, hR.be⟩
      · simp only [List.getElem?_cons_succ, List.getElem?_cons_zero, Option.some.injEq] at ho
        subst ho
        obtain ⟨a7, c7, y0⟩ : ∃ a c, bb.eval (.tmp 25) = .slice a n0 c := hop 25 (by simp [Op.operands, Call.operands])
        have y1 : bb.tmps[25]?.getD undef = .slice a7 n0 c7 := by simpa [Act.eval] using y0
        unfold Oper.wp
        simp [y1, go_sem, Builtin.len_]
        exact ⟨_, rfl, rfl, Below.refl _ _⟩
      · exact absurd rfl hns
      · exact absurd rfl hns
      · exact absurd rfl hns
      · exact absurd rfl hns
      · exact absurd rfl hns
      · exact absurd rfl hns
      · exact absurd rfl hns
      · exact absurd rfl hns
    case fin33 =>
      intro bb z hz hoff hrel
      have hall := Off.all _ _ hoff
      simp only [List.foldl_cons, List.foldl_nil] at hall
      generalize bb.eval (.tmp 25) = v25 at hall
      generalize bb.eval (.tmp 26) = v26 at hall
      generalize bb.eval (.tmp 29) = v29 at hall
      generalize bb.eval (.tmp 30) = v30 at hall
      generalize bb.eval (.tmp 31) = v31 at hall
      generalize bb.eval (.tmp 32) = v32 at hall
      generalize bb.eval (.tmp 33) = v33 at hall
      generalize bb.eval (.tmp 34) = v34 at hall
      generalize bb.eval (.tmp 35) = v35 at hall
      generalize bb.eval (.tmp 36) = v36 at hall
      rw [hall]
      clear hall hrel hoff
      simp only [Act.put, List.setIfInBounds_toArray, List.set_cons_succ, List.set_cons_zero]
      have B3 := hide ((unhide B2).trans (hz.mono (unhide B2).size))
      have HT3 := hide ((unhide HT2).up hz)
      clear hz B2 HT2
      go_wp2_with fail
      refine (unhide HFG _ (unhide HT3)).mono ?_
      rintro e w4 ⟨rfl, hT4, hG4⟩
      have HT4 := hide hT4
      have HG4 := hide (grown_trans (grown_of (unhide B3) (some mb)) hG4)
      have HC4 : Hid ((w4.cell? ⟨w.heap.size, 0, none⟩ = some (.string (bs nm)) ∧ w4.cell? ⟨w.heap.size, 1, none⟩ = some (.int .i64 nd)) ∧ w.heap.size < w4.heap.size ∧ w4.heap[w.heap.size]? = some (.cells #[.string (bs nm), .int .i64 nd, .int .i64 px, .int .i64 py, .int .i64 un] 25 (0, 0))) := by
        have h3 : w4.heap[w.heap.size]? = some (.cells #[.string (bs nm), .int .i64 nd, .int .i64 px, .int .i64 py, .int .i64 un] 25 (0, 0)) := ((unhide HG4).block _ (lt_of_block (unhide H0)) (fun e => by have := Option.some.inj e; omega)).trans (unhide H0)
        obtain ⟨⟨g0, g1, _⟩, g2⟩ := note_cells (p := ⟨nm, nd, px, py, un⟩) h3
        exact ⟨⟨g0, g1⟩, g2, h3⟩
      clear hT4 hG4 HT3 B3 HFG HND HLN
      obtain ⟨D, hM, hD, hDN⟩ := (unhide HT4).map
      have HM := hide hM
      have HD := hide hD
      have HDN := hide hDN
      have hso := ok_get (unhide HT4).ok nm
      have HSO := hide hso
      have hann : annF f ⟨nm, nd, px, py, un⟩ now = putF (forgetF f now) nm (putA ((forgetF f now nm).getD zS) ⟨nm, nd, px, py, un⟩) := rfl
      obtain ⟨AF, hAF⟩ : ∃ A, A = annF f ⟨nm, nd, px, py, un⟩ now := ⟨_, rfl⟩
      rw [← hAF] at hann
      have HAF := hide hAF
      clear hAF
      have HANN := hide hann
      generalize forgetF f now = ff at *
      obtain ⟨s, hs⟩ : ∃ s, s = (ff nm).getD zS := ⟨_, rfl⟩
      have HS := hide hs
      rw [← hs] at HSO HANN
      have hzz : Try.zeroCells56.size = (slC s).toArray.size := by
        have : (slC s).length = 80 := by rw [slC_len, hs, hso.len]
        simp only [List.size_toArray, this]
        rfl
      have HZZ := hide hzz
      have hcr := (unhide HT4).cells
      have HCR := hide hcr
      clear hM hD hDN hso hann hs hcr hzz
      go_wp2_with fail
      refine wp_region_eff [false, false, false, false, false, false, false, true, true] [] 7 ?Ae33 _ _ (by kernel_rfl) (by kernel_rfl) rfl ?lexe33 ?freee33 ?_
      case lexe33 =>
        intro X
        have hne := gb_ne X.w
        have d1 : ∀ y : Gb X.w, _ := fun y => gb_cell (cell_below (unhide HCR).2.1 X.ok) y
        have d2 : ∀ y : Gb X.w, _ := fun y => gb_cell (cell_below (unhide HC4).1.1 X.ok) y
        dsimp only [restM]
        iterate 6 (go_big_quiet_step (fail))
        refine wpQuiet_get_tk rfl _ _ rfl mb (Maps.size D) D ff (unhide HD) rfl (fun z hz => ?_) nm rfl (unhide HX) ?_
        · obtain ⟨y, rfl⟩ := hz
          exact World.ownsMap.kept (World.ownsMap.kept (unhide HM) (grown_of X.ok none) (by simp)) (grown_of y.ok none) (by simp)
        rw [← unhide HS]
        simp only [Act.put, List.setIfInBounds_toArray, List.set_cons_succ, List.set_cons_zero]
        refine wpQuiet_nil ?_
        exact rfl
      case freee33 => intro j hj; exact absurd hj (List.not_mem_nil)
      intro w5 b5
      have HT5 := hide ((unhide HT4).up b5)
      have hM5 := World.ownsMap.kept (unhide HM) (grown_of b5 none) (by simp)
      have HM5 := hide hM5
      have HB5 := hide b5
      have HZ := hide (heap_alloc_new w5 (.cells Try.zeroCells56 56))
      have hGG : AlAt ((w5.alloc (.cells Try.zeroCells56 56)).setRow w5.heap.size (slC s).toArray) w5.heap.size s ∧ Below w5.heap.size w5 ((w5.alloc (.cells Try.zeroCells56 56)).setRow w5.heap.size (slC s).toArray) := by
        rw [setRow_alloc]
        exact ⟨alAt_new w5 s (unhide HSO).len 56, (Below.refl _ w5).alloc (Nat.le_refl _) _⟩
      have HGG := hide hGG
      have hone : (slC s).toArray.all (·.oneCell') = true := by
        rw [Array.all_eq_true']
        intro u hu
        have hu2 : u ∈ slC s := by simpa using hu
        unfold slC at hu2
        obtain ⟨q, _, hq⟩ := List.mem_flatMap.1 hu2
        exact List.all_eq_true.1 (show q.cl.all (·.oneCell') = true from rfl) u hq
      have HONE := hide hone
      clear b5 hM5 hGG hone HM HCR
      try dsimp only [effM]
      go_wp2_with fail
      refine onlyN ⟨(Below.refl _ _).alloc (Nat.le_refl _) _, ?_⟩
      try dsimp only [effM]
      go_wp2_with (refine wpList_store_row_to rfl 56 (.tmp 7) (.tmp 47) rfl w5.heap.size (slC s).toArray rfl rfl 56 _ (unhide HZ) (by rw [List.size_toArray, slC_len, (unhide HSO).len]; exact Try.infoAl) (unhide HZZ) (unhide HONE) (fun w' => AlAt w' w5.heap.size s ∧ Below w5.heap.size w5 w') (unhide HGG) ?_)
      intro w6 h6 b6
      refine onlyN ?_
      have HT6 := hide ((unhide HT5).up b6)
      have HBB6 := hide b6
      have HB6 := hide ((unhide HB5).trans (b6.mono (unhide HB5).size))
      have HA6 := hide h6
      have hc6 := (b6.block _ (by have := (unhide HB5).size; have := (unhide HC4).2.1; omega)).trans (((unhide HB5).block _ (unhide HC4).2.1).trans (unhide HC4).2.2)
      have HC6 := hide hc6
      obtain ⟨⟨x0, x1, x2, x3, x4⟩, xl⟩ := note_cells (p := ⟨nm, nd, px, py, un⟩) hc6
      obtain ⟨nn, hnn⟩ : ∃ nn : Nat, nd = nn := ⟨nd.toNat, by have := (unhide HOK).1; dsimp only at this; omega⟩
      have hn1 : 1 ≤ nn ∧ nn ≤ 15 := by have := (unhide HOK).1; dsimp only at this; omega
      subst hnn
      have hpt := h6.put ⟨nm, nn, px, py, un⟩ (by dsimp only; omega)
      dsimp only [Int.toNat_natCast] at hpt
      have hB7 : Below w4.heap.size w4 (w6.setCells w5.heap.size (nn * 5) [.string (bs nm), .int .i64 nn, .int .i64 px, .int .i64 py, .int .i64 un]) := below_cells (unhide HB5).size _ _ (unhide HB6)
      have hTb7 : Below w5.heap.size w6 (w6.setCells w5.heap.size (nn * 5) [.string (bs nm), .int .i64 nn, .int .i64 px, .int .i64 py, .int .i64 un]) := below_cells (Nat.le_refl _) _ _ (Below.refl _ _)
      have HPT := hide (And.intro hpt (And.intro hB7 hTb7))
      have hth : w6.there w5.heap.size (nn * 5) 5 := fun j hj => by
        have := h6.th (nn * 5 + j) (by omega)
        rwa [Nat.zero_add] at this
      have HTH := hide hth
      have hl6 := h6.lt
      clear h6 b6 HZ HGG HONE hc6 hpt hB7 hTb7 hth HZZ
      go_wp2_with (first | (refine wpList_load_row rfl 25 (.tmp 4) rfl w.heap.size rfl 25 _ (0, 0) _ (unhide HC6) Try.underlying25 rfl (by kernel_rfl) ?_) | (refine wpList_store_mid_to rfl 25 (.tmp 51) (.tmp 50) rfl w5.heap.size (nn * 5) #[.string (bs nm), .int .i64 nn, .int .i64 px, .int .i64 py, .int .i64 un] rfl rfl (unhide HTH) (by kernel_rfl) (nt_all ⟨nm, nn, px, py, un⟩) (fun w' => AlAt w' w5.heap.size (putA s ⟨nm, nn, px, py, un⟩) ∧ Below w4.heap.size w4 w' ∧ Below w5.heap.size w6 w') (unhide HPT) ?_))
      intro w7 h7 b7 d7
      have hb57 : Below w5.heap.size w5 w7 := (unhide HBB6).trans d7
      have HT7 := hide ((unhide HT5).up hb57)
      have HM7 := hide (World.ownsMap.kept (unhide HM5) (grown_of hb57 none) (by simp))
      have HB7 := hide b7
      have HA7 := hide h7
      have hc7 := (d7.block _ (by have := (unhide HB5).size; have := (unhide HC4).2.1; omega)).trans (unhide HC6)
      obtain ⟨⟨z0, z1, z2, z3, z4⟩, zl⟩ := note_cells (p := ⟨nm, nn, px, py, un⟩) hc7
      have C0 := hide z0
      have CL := hide zl
      have CT := hide (unhide HT7).cells
      have hso8 : SlOk nm (putA s ⟨nm, nn, px, py, un⟩) := (unhide HSO).put (unhide HOK)
      have HSO8 := hide hso8
      generalize putA s ⟨nm, nn, px, py, un⟩ = s8 at *
      clear b7 d7 h7 hc7 z0 z1 z2 z3 z4 zl hb57 HPT HTH hl6 HM5 HT5 HT6 HA6 HC6 HBB6 HB6 hso8
      clear x0 x1 x2 x3 x4 xl
      refine onlyN ?_
      try dsimp only [effM]
      go_wp2_with fail
      refine wp_region_late 7 ?late33 (by kernel_rfl) (by kernel_rfl) (by kernel_rfl) ?lexl33 ?_
      case lexl33 =>
        intro X
        have hne := gb_ne X.w
        have d1 : ∀ y : Gb X.w, _ := fun y => gb_cell (cell_below (unhide CT).2.1 X.ok) y
        have d2 : ∀ y : Gb X.w, _ := fun y => gb_cell (cell_below (unhide C0) X.ok) y
        dsimp only [List.take_succ_cons, List.take_zero]
        iterate 6 (go_big_quiet_step (fail))
        refine wpQuiet_load_mid rfl 56 (.tmp 7) rfl w5.heap.size 0 rfl (slC s8) _ (fun z hz => ?_) Try.underlying56 rfl (by rw [slC_len, (unhide HSO8).len]; exact Try.infoAl) ?_
        · obtain ⟨y, rfl⟩ := hz
          exact (((unhide HA7).up X.ok).up y.ok).ra
        simp only [Act.put, List.setIfInBounds_toArray, List.set_cons_succ, List.set_cons_zero]
        refine wpQuiet_nil ?_
        exact rfl
      intro w8 b8
      have hT8 := (unhide HT7).up b8
      have HT8 := hide hT8
      have HM8 := hide (World.ownsMap.kept (unhide HM7) (grown_of b8 none) (by simp))
      have HG8 := hide (grown_trans (unhide HG4) (grown_of ((unhide HB7).trans (b8.mono (unhide HB7).size)) (some mb)))
      clear b8 hT8
      try dsimp only [List.drop_succ_cons, List.drop_zero]
      have hNl : Maps.size D < maxLen := by have := unhide HDN; unfold maxLen; omega
      refine wpList_mapUpdate_own _ rfl _ _ _ 50 rfl 9 56 keyed Try.underlying50 stE mb (Maps.size D) D rfl (unhide HM8) hNl (.string (bs nm)) (.agg (slC s8).toArray) (kS nm) rfl rfl (keyOf_s (unhide HX)) (.held (.agg (slC s8).toArray)) [] rfl ?_
      intro w9 hM9 hg9
      have HR : Hid (TbAt w9 b mb AF (N + 1) room ∧ w.grownBy w9 (some mb)) := by
        have hT8 := unhide HT8
        have hsz := Maps.size_put (k := kS nm) (unhide HD).tidy (.held (.agg (slC s8).toArray))
        have hDN := unhide HDN
        have hsz2 : Maps.size (D.put (kS nm) (.held (.agg (slC s8).toArray))) ≤ N + 1 := by
          rw [hsz]
          split <;> omega
        rw [unhide HANN]
        refine ⟨⟨(hg9.block b hT8.lt (fun e => hT8.ne (Option.some.inj e))).trans hT8.blk, ⟨_, own_tight hM9, (unhide HD).put nm s8, hsz2⟩, fun j t hj => ?_, fun j t hj => ?_, hT8.ne, hT8.rm⟩, grown_trans (grown_trans (grown_of (unhide B0) (some mb)) (unhide HG8)) hg9⟩
        · unfold putF at hj
          split at hj
          · cases hj
            rename_i e
            rw [e]
            exact unhide HSO8
          · exact hT8.ok j t hj
        · unfold putF at hj
          split at hj
          · rename_i e
            rw [e]
            exact (unhide HOK).2.2.1
          · exact hT8.kl j t hj
      clear hM9 hg9
      go_wp2_with fail
      refine onlyN ?_
      go_wp2
      go_ret
      exact .inr ⟨unhide HNO, rfl, by rw [← unhide HAF]; exact unhide HR⟩
end Go.Proofs.Ytjdphcjapdklpaa

/- outer: filled, of a part of a whole. The law OuterBack, walked. An argument that is a slice of bools, opened; the law OuterBack. -/
import Derived.Test.YtcdnpdmcijiffaaOmZ
import Derived.WalkMore
import Derived.ScopeJumps
import Derived.Test.YtcdnpdmcijiffaaOpenPl
import Derived.ProofKit
import Derived.OpenShut
import Derived.ChangeOld
import Derived.Deep.Grids
namespace Go.Proofs.Ytcdnpdmcijiffaa
open Go.RowKit
set_option linter.unusedVariables false
attribute [local go_sem] Oper.semAt_some

/-- F is a part of X that has all of Y -/
structure Prt (Y F X : List By) : Prop where
  len : F.length = X.length
  sub : ∀ i, F.getD i [] = [] ∨ F.getD i [] = X.getD i []
  old : ∀ i, Y.getD i [] ≠ [] → F.getD i [] = Y.getD i []
theorem sumL_filter (m : Nat) (X : List By) (p : Nat → Bool) : ∀ (ns : List Nat) (u v : By), (∀ i ∈ ns, (X.getD i []).length = m) →
    (atN X ns).foldl xorL (xorL u v) = xorL ((atN X (ns.filter p)).foldl xorL u) ((atN X (ns.filter fun i => !p i)).foldl xorL v)
  | [], _, _, _ => rfl
  | i :: ns, u, v, h => by
    have ih := sumL_filter m X p ns
    have h' : ∀ j ∈ ns, (X.getD j []).length = m := fun j hj => h j (by simp [hj])
    cases hp : p i with
    | true =>
      rw [List.filter_cons_of_pos hp, List.filter_cons_of_neg (by simp [hp])]
      show (atN X ns).foldl xorL (xorL (xorL u v) (X.getD i [])) = xorL ((atN X (ns.filter p)).foldl xorL (xorL u (X.getD i []))) _
      rw [← ih _ _ h', xorL_assoc, xorL_comm v, ← xorL_assoc]
    | false =>
      rw [List.filter_cons_of_neg (by simp [hp]), List.filter_cons_of_pos (by simp [hp])]
      show (atN X ns).foldl xorL (xorL (xorL u v) (X.getD i [])) = xorL _ ((atN X (ns.filter fun i => !p i)).foldl xorL (xorL v (X.getD i [])))
      rw [← ih _ _ h', xorL_assoc]
theorem pres_atN {Y F X : List By} (h : Prt Y F X) (ns : List Nat) : pres (atN F ns) = atN X (ns.filter fun i => !decide (F.getD i [] = [])) := by
  induction ns with
  | nil => rfl
  | cons i ns ih =>
    unfold pres atN at *
    rw [List.map_cons]
    by_cases hi : F.getD i [] = []
    · have hd : decide (F.getD i [] = []) = true := decide_eq_true hi
      rw [List.filter_cons_of_neg (by rw [decide_not, hd]; simp), List.filter_cons_of_neg (by rw [hd]; simp)]
      exact ih
    · have hd : decide (F.getD i [] = []) = false := decide_eq_false hi
      rw [List.filter_cons_of_pos (by rw [decide_not, hd]; rfl), List.filter_cons_of_pos (by rw [hd]; rfl), List.map_cons, ih]
      congr 1
      rcases h.sub i with e | e
      · exact absurd e hi
      · exact e
theorem fill_one {Y F X : List By} {m g : Nat} {ns : List Nat} (h : Prt Y F X) (hm : 1 ≤ m) (hm2 : m ≤ 64) (hX : ∀ s ∈ X, s.length = m) (hn : ∀ i ∈ ns, i < X.length) (h0 : sumL m (atN X ns) = List.replicate m 0) (ha : absL F ns = [g]) : sumR (pres (atN F ns)) (m : Int) = X.getD g [] ∧ g < X.length ∧ F.getD g [] = [] := by
  have hg : g ∈ absL F ns := by rw [ha]; simp
  unfold absL at hg
  rw [List.mem_filter] at hg
  have hgl := hn g hg.1
  have hl : ∀ i ∈ ns, (X.getD i []).length = m := fun i hi => hX _ (by simp [List.getD, hn i hi])
  have hXg : (X.getD g []).length = m := hX _ (by simp [List.getD, hgl])
  refine ⟨?_, hgl, by simpa using hg.2⟩
  rw [pres_atN h]
  have hsub : ∀ i ∈ ns.filter (fun i => !decide (F.getD i [] = [])), i < X.length := fun i hi => hn i (List.mem_filter.1 hi).1
  unfold sumR
  rw [if_pos (ofB_iff.2 ⟨fun s hs => by rw [atN_all hX hsub s hs], by omega, by omega⟩), Int.toNat_natCast]
  have h1 := sumL_filter m X (fun i => decide (F.getD i [] = [])) ns (List.replicate m 0) (List.replicate m 0) hl
  have e0 : xorL (List.replicate m (0 : UInt8)) (List.replicate m 0) = List.replicate m 0 := by
    have := xorL_self (List.replicate m (0 : UInt8))
    rwa [List.length_replicate] at this
  rw [e0] at h1
  unfold sumL at h0
  rw [h0] at h1
  have h2 : (ns.filter fun i => decide (F.getD i [] = [])) = [g] := ha
  rw [h2] at h1
  have h3 : (atN X [g]).foldl xorL (List.replicate m 0) = X.getD g [] := by
    show xorL (List.replicate m 0) (X.getD g []) = _
    have := xorL_nil_zero (X.getD g [])
    rwa [hXg] at this
  rw [h3] at h1
  have hS := sumL_len m (atN X (ns.filter fun i => !decide (F.getD i [] = []))) (atN_all hX hsub)
  unfold sumL at hS ⊢
  exact (xorL_zero _ _ (by rw [hXg, hS]) (by rw [hXg]; exact h1.symm)).symm
theorem hold_part {Y F X : List By} {m a : Nat} {L : Nat → List Nat} (h : Prt Y F X) (hm : 1 ≤ m) (hm2 : m ≤ 64) (hX : ∀ s ∈ X, s.length = m) (hn : ∀ j, ∀ i ∈ L j, i < X.length) (h0 : ∀ j, j < a → sumL m (atN X (L j)) = List.replicate m 0) : holdB F L (m : Int) a = true := by
  unfold holdB
  rw [List.all_eq_true]
  intro j hj
  rw [List.mem_range] at hj
  by_cases e : (absL F (L j)).length = 0
  · have e1 := List.eq_nil_of_length_eq_zero e
    have e2 : (L j).filter (fun i => !decide (F.getD i [] = [])) = L j := by
      rw [List.filter_eq_self]
      intro i hi
      unfold absL at e1
      rw [List.filter_eq_nil_iff] at e1
      simpa using e1 i hi
    have e3 : sumR (pres (atN F (L j))) (m : Int) = zeroL (m : Int) := by
      rw [pres_atN h, e2, zeroL_nat m hm hm2]
      unfold sumR
      rw [if_pos (ofB_iff.2 ⟨fun s hs => by rw [atN_all hX (hn j) s hs], by omega, by omega⟩), Int.toNat_natCast]
      exact h0 j hj
    simp [e3]
  · simp [e]
theorem Prt.fill {Y F X : List By} {g : Nat} (h : Prt Y F X) (hg : g < X.length) (he : F.getD g [] = []) : Prt Y (F.set g (X.getD g [])) X := by
  have hl := h.len
  have key : ∀ i, (F.set g (X.getD g [])).getD i [] = if i = g then X.getD g [] else F.getD i [] := fun i => by
    simp only [List.getD, List.getElem?_set]
    by_cases e : g = i
    · subst e; simp [show g < F.length by omega]
    · rw [if_neg e, if_neg (fun h => e h.symm)]
  refine ⟨by rw [List.length_set]; exact hl, fun i => ?_, fun i hi => ?_⟩
  · rw [key]
    by_cases e : i = g
    · rw [if_pos e, e]; exact .inr rfl
    · rw [if_neg e]; exact h.sub i
  · rw [key]
    by_cases e : i = g
    · have := h.old i hi
      rw [e, he] at this
      rw [e] at hi
      exact absurd this.symm hi
    · rw [if_neg e]; exact h.old i hi
/-- how many are lacking -/
def isEmp : Option Value → Bool
  | some (.string s) => s.size == 0
  | _ => false
def lack (w : World) (g L : Nat) : Nat := (List.range L).countP fun i => isEmp (w.cell? ⟨g, i, none⟩)
theorem wp_scope_pass {P : Program} {a : Act} {w : World} {Q : Exit → Act → World → Prop} {c rest : Code} (l : Nat) (J : Act → World → Prop) (μ : Act → World → Nat) (hf : findLabel c l = some (Code.skip.seq rest))
    (pass : ∀ a w, J a w → rest.wp P (Exit.jump l (fun a' w' => J a' w' ∧ μ a' w' < μ a w) Q) a w)
    (first : (∀ a w, J a w → rest.wp P (Exit.jump l J Q) a w) → c.wp P (Exit.jump l J Q) a w) : (Code.scope c).wp P Q a w :=
  wp_scope_jumps l J μ hf (first (fun a w h => wp_mono (pass a w h) (fun e a' w' hq => by
    cases e with
    | goto l' => exact ⟨hq.1, hq.2.1⟩
    | normal => exact hq
    | exit id => exact hq
    | ret => exact hq
    | panic ch => exact hq
    | outgrown => exact hq))) (fun a w h => wp_seq (wp_skip (pass a w h)))
theorem lack_of {w : World} {base g c : Nat} {F : List By} (h : OwnS w base (.slice (some ⟨g, 0, none⟩) F.length c) F) : lack w g F.length = (List.range F.length).countP fun i => decide (F.getD i [] = []) := by
  unfold lack
  refine List.countP_congr (fun i hi => ?_)
  rw [List.mem_range] at hi
  rw [World.ownsRow.cellAt (show World.ownsRow _ _ _ _ _ _ _ from h) i (by omega), sc_get F i hi]
  simp only [isEmp, bs_size, List.getD, List.getElem?_eq_getElem hi, Option.getD_some]
  simp
theorem lack_less {F : List By} {g : Nat} {x : By} (hg : g < F.length) (he : F.getD g [] = []) (hx : x ≠ []) : ((List.range F.length).countP fun i => decide ((F.set g x).getD i [] = [])) < (List.range F.length).countP fun i => decide (F.getD i [] = []) := by
  refine countP_lt _ _ _ (fun j hj h => ?_) ⟨g, List.mem_range.2 hg, decide_eq_true he, ?_⟩
  · by_cases e : g = j
    · subst e; exact decide_eq_true he
    · have : (F.set g x).getD j [] = F.getD j [] := by simp [List.getD, List.getElem?_set_ne e]
      rwa [this] at h
  · have : (F.set g x).getD g [] = x := by simp [List.getD, hg]
    rw [this]
    exact decide_eq_false hx
set_option maxRecDepth 100000 in
set_option maxHeartbeats 1000000 in
theorem filled_part (Y X : List By) (y0 : Option Addr) (yc base G a m : Nat) (V : Nat → Value) (L : Nat → List Nat) (w : World) (hT : Txts w y0 Y) (hR : Rows2 w base G a V L) (ha : a ≤ 1000) (hP : Prt Y Y X) (hXl : X.length ≤ 1000) (hX1 : 0 < X.length) (hm : 1 ≤ m) (hm2 : m ≤ 64) (hX : ∀ s ∈ X, s.length = m) (h4 : ∀ j, (L j).length ≤ 10000) (hn : ∀ j, ∀ i ∈ L j, i < X.length) (h0 : ∀ j, j < a → sumL m (atN X (L j)) = List.replicate m 0) :
    Calls Try.prog 29 #[.slice (some ⟨G, 0, none⟩) a a, .slice y0 Y.length yc, .int .i64 m] w fun e w' => ∃ v F, e = .returned v ∧ OwnS w' w.heap.size v F ∧ Prt Y F X ∧ Below w.heap.size w w' := by
  have hcl := hide (clone_any Y y0 yc w hT (by have := hP.len; omega))
  have hlY := hP.len
  have HR := hide hR
  have HP := hide hP
  have HLY := hide hlY
  clear hlY
  have h1000 : Y.length ≤ 1000 := by have := unhide HLY; omega
  have h0ly : 0 < Y.length := by have := unhide HLY; omega
  generalize hly : Y.length = ly at *
  have HY := hide hly
  clear hT hR hP hly
  go_enter Try.func29, Try.ntmps29
  go_wp2
  refine wp_scope_pass 0 (fun a' w' => ∃ (gf cf : Nat) (F : List By) (u8 u9 u10 u11 u12 u13 u14 u15 u16 u17 u18 u19 u20 u21 u22 u23 u24 u25 u26 u27 u28 u29 u30 u31 u32 u33 u34 u35 : Value), a' = { tmps := #[.slice (some ⟨G, 0, none⟩) a a, .slice y0 ly yc, .int .i64 m, undef, undef, undef, .slice none 0 0, .slice (some ⟨gf, 0, none⟩) ly cf, u8, u9, u10, u11, u12, u13, u14, u15, u16, u17, u18, u19, u20, u21, u22, u23, u24, u25, u26, u27, u28, u29, u30, u31, u32, u33, u34, u35], defers := [] } ∧ OwnS w' w.heap.size (.slice (some ⟨gf, 0, none⟩) ly cf) F ∧ Prt Y F X ∧ Below w.heap.size w w') (fun a' w' => match a'.tmps.getD 7 undef with | .slice (some ad) l _ => lack w' ad.block l | _ => 0) rfl ?_ ?_
  · rintro a' w1 ⟨gf, cf, F, u8, u9, u10, u11, u12, u13, u14, u15, u16, u17, u18, u19, u20, u21, u22, u23, u24, u25, u26, u27, u28, u29, u30, u31, u32, u33, u34, u35, rfl, hO, hPF, hB⟩
    have hFl : F.length = ly := hPF.len.trans (unhide HLY).symm
    have hlk : lack w1 gf ly = (List.range F.length).countP fun i => decide (F.getD i [] = []) := by
      have := lack_of (F := F) (by rw [hFl]; exact hO)
      rwa [hFl] at this ⊢
    have HLK := hide hlk
    have HO := hide hO
    have HPF := hide hPF
    have HB := hide hB
    have HFl := hide hFl
    have hab : Hid (∀ (j : Nat) b0 d W, Txts W (some ⟨gf, 0, none⟩) F → NumsAt W b0 (L j) → Calls Try.prog 38 #[.slice (some ⟨gf, 0, none⟩) ly cf, .slice b0 (L j).length d] W fun e w' => ∃ v, e = .returned v ∧ w'.ownsRow W.heap.size 3 1 v (absL F (L j)).length (ic (absL F (L j))) ∧ Below W.heap.size W w') := fun j b0 d W h1 h2 => by
      have := absent_any F (some ⟨gf, 0, none⟩) cf (L j) b0 d W h1 h2 (by omega) (h4 j) (fun i hi => by rw [hPF.len]; exact hn j i hi)
      rwa [hFl] at this
    have hsm : Hid (∀ (j : Nat) b0 d W, Txts W (some ⟨gf, 0, none⟩) F → NumsAt W b0 (L j) → Calls Try.prog 24 #[.slice (some ⟨gf, 0, none⟩) ly cf, .slice b0 (L j).length d, .int .i64 m] W fun e w' => e = .returned (.string (bs (sumR (pres (atN F (L j))) (m : Int)))) ∧ Below W.heap.size W w') := fun j b0 d W h1 h2 => by
      have := osum_any F (some ⟨gf, 0, none⟩) cf (L j) b0 d m W h1 h2 (by omega) (fun s hs => by
        obtain ⟨i, hi, rfl⟩ := List.getElem_of_mem hs
        have e : F[i] = F.getD i [] := by simp [List.getD, hi]
        rw [e]
        rcases hPF.sub i with h | h
        · rw [h]; simp
        · rw [h]
          have := hX (X.getD i []) (by simp [List.getD, show i < X.length by rw [← hPF.len]; exact hi])
          omega) (h4 j) (fun i hi => by rw [hPF.len]; exact hn j i hi)
      rwa [hFl] at this
    clear hO hPF hB hlk hFl
    go_wp2_with fail
    go_loopw [15] (fun v wr => ∃ k : Nat, k ≤ a ∧ v = .int .i64 k ∧ OwnS wr w.heap.size (.slice (some ⟨gf, 0, none⟩) ly cf) F ∧ Below w.heap.size w wr) (fun v _ => a - (intOf v).toNat)
    case atStart => exact ⟨0, by omega, rfl, unhide HO, unhide HB⟩
    case round =>
      obtain ⟨k, hk, rfl, hO, hB⟩ := hrel
      by_cases hlt : k < a
      · have q1 : (k : Int) < a := by omega
        have hRk := (unhide HR).below hB
        have d1 := hRk.cell k hlt
        obtain ⟨b0, cc, hVk, hNm⟩ := nums_of_own (hRk.row k hlt)
        rw [hVk] at d1
        obtain ⟨_, _, e9, hTF, _, _⟩ := (show OwnS _ _ (.slice (some ⟨gf, 0, none⟩) F.length cf) F by rw [unhide HFl]; exact hO).txts
        simp only [Value.slice.injEq, true_and] at e9
        obtain ⟨rfl, rfl⟩ := e9
        have ha1 := hide (unhide hab k b0 cc wr hTF hNm)
        have HO2 := hide hO
        have HB2 := hide hB
        have HTF := hide hTF
        have HNm := hide hNm
        have hsk := hide (unhide hsm k b0 cc)
        have HH0 := hide (h0 k hlt)
        generalize hLL : (L k).length = LL at *
        have HLL := hide hLL
        clear hRk hVk hNm hTF hO hB hLL
        go_wp2_with fail
        refine (unhide ha1).mono ?_
        rintro e w2 ⟨v2, rfl, hO2, b2⟩
        obtain ⟨ao, cap, rfl⟩ := own_shape' hO2
        have HB3 := hide ((unhide HB2).trans (b2.mono (unhide HB2).size))
        have HOF := hide (show OwnS w2 w.heap.size (.slice (some ⟨gf, 0, none⟩) ly cf) F from own_below2 (unhide HO2) b2)
        by_cases hz : (absL F (L k)).length = 1
        · obtain ⟨g, hg⟩ := List.length_eq_one_iff.1 hz
          obtain ⟨f1, f2, f3⟩ := fill_one (unhide HPF) hm hm2 hX (hn k) (unhide HH0) hg
          have hsg := hide (fun (Z : Gb w2) => unhide hsk Z.w (((unhide HTF).below b2).below Z.ok) (((unhide HNm).below b2).below Z.ok))
          rw [f1] at hsg
          rw [hg] at hO2
          have hgf : g < F.length := by rw [(unhide HPF).len]; exact f2
          have hgl : g < ly := by rw [← unhide HFl]; exact hgf
          rw [hz]
          have hxne : X.getD g [] ≠ [] := fun e => by
            have := hX (X.getD g []) (by simp [List.getD, f2])
            rw [e] at this
            simp at this
            omega
          have HLS := hide (lack_less (x := X.getD g []) hgf f3 hxne)
          have HPN := hide ((unhide HPF).fill f2 f3)
          obtain ⟨gg, rfl⟩ : ∃ gg, ao = some ⟨gg, 0, none⟩ := by
            rcases hO2.2 with ⟨h, _⟩ | ⟨gg, c', cur, h, _⟩
            · cases h
            · simp only [Value.slice.injEq] at h
              exact ⟨gg, h.1⟩
          have c9 : w2.cell? ⟨gg, 0, none⟩ = some (.int .i64 (g : Int)) := by
            have := hO2.cellAt 0 (by simp)
            rw [this]
            simp [ic]
          have q5 : (g : Int) < ly := by omega
          generalize hxg : X.getD g [] = xg at *
          clear hO2 b2 f1 f3 hz hg
          go_wp2_with fail
          refine wp_region_late 9 ?A0 (by kernel_rfl) (by kernel_rfl) (by kernel_rfl) ?lex ?_
          case lex =>
            intro Z
            have hneX := gb_ne Z.w
            have X1 : ∀ y : Gb Z.w, y.w.cell? ⟨gg, 0, none⟩ = _ := fun y => gb_cell (cell_below c9 Z.ok) y
            have hsg2 := hide (fun y : Gb Z.w => unhide hsg ⟨y.w, Z.ok.trans (y.ok.mono Z.ok.size)⟩)
            dsimp only [List.take_succ_cons, List.take_zero]
            repeat (go_big_quiet_step ((go_at_call 24; exact gb_call (unhide hsg2 _))))
            refine wpQuiet_nil ?_
            exact rfl
          intro w8 b8
          try simp only [List.drop_succ_cons, List.drop_zero]
          have hO8 : w8.ownsRow w.heap.size 9 1 (.slice (some ⟨gf, 0, none⟩) ly cf) F.length (sc F) := own_below2 (show World.ownsRow _ _ _ _ _ _ _ from unhide HOF) b8
          have hO8' : w8.ownsRow w.heap.size 9 1 (.slice (some ⟨gf, 0, none⟩) ly cf) ly (sc F) := by rw [unhide HFl] at hO8; exact hO8
          have c8 := (hO8'.cellAt g (by omega)).trans (sc_get F g hgf)
          have f8 := hO8'.frozenAt g
          have hst := (hO8'.stored g (.string (bs xg))).1
          have hset : (sc F).set g (.string (bs xg)) = sc (F.set g xg) := by
            unfold sc
            rw [List.map_set]
          rw [hset] at hst
          have hON : OwnS (w8.setCell ⟨gf, g, none⟩ (.string (bs xg))) w.heap.size (.slice (some ⟨gf, 0, none⟩) ly cf) (F.set g xg) := by
            show World.ownsRow _ _ _ _ _ _ _
            rw [List.length_set, unhide HFl]
            exact hst
          have hB8 : Below w.heap.size w (w8.setCell ⟨gf, g, none⟩ (.string (bs xg))) := (((unhide HB3).trans (b8.mono (unhide HB3).size))).setCell (p := ⟨gf, g, none⟩) (hO8'.lt gf rfl).1 _
          have hlk8 : lack (w8.setCell ⟨gf, g, none⟩ (.string (bs xg))) gf ly < lack w1 gf ly := by
            have h1 := lack_of (F := F.set g xg) (by rw [List.length_set, unhide HFl]; exact hON)
            rw [List.length_set, unhide HFl] at h1
            have h2 := unhide HLS
            rw [unhide HFl] at h2
            have h3 := unhide HLK
            rw [unhide HFl] at h3
            rw [h1, h3]
            exact h2
          have HON := hide hON
          have HB8 := hide hB8
          have HLK8 := hide hlk8
          clear hO8 hO8' hst hset hON hB8 hlk8 b8 c9
          go_wp2_with fail
          refine onlyN ?_
          go_wp2_with fail
          go_step3
          exact ⟨rfl, ⟨gf, cf, F.set g xg, _, _, _, _, _, _, _, _, _, _, _, _, _, _, _, _, _, _, _, _, _, _, _, _, _, _, _, _, rfl, unhide HON, unhide HPN, unhide HB8⟩, unhide HLK8⟩
        · have qz : ¬ ((absL F (L k)).length : Int) = 1 := by omega
          have qz' : (((absL F (L k)).length : Int) == 1) = false := by simp; omega
          generalize (absL F (L k)).length = gl at *
          clear hO2 b2 hz
          go_wp2
          go_roundw
          case rel => exact ⟨k + 1, by omega, by go_num, unhide HOF, unhide HB3⟩
          case measure => simp [intOf]; omega
      · have hka : k = a := by omega
        subst hka
        have q1 : ¬ (k : Int) < k := by omega
        have HO2 := hide hO
        have HB2 := hide hB
        clear hO hB
        go_wp2
        simp only [Exit.jump]
        go_ret
        exact ⟨_, F, rfl, unhide HO2, unhide HPF, unhide HB2⟩
  · intro hp
    go_wp2_with fail
    refine (unhide hcl).mono ?_
    rintro e w1 ⟨v1, rfl, hO1, b1⟩
    obtain ⟨gf, cf, rfl⟩ := own_some hO1 (by rw [unhide HY]; exact h0ly)
    rw [unhide HY]
    have HO1 : Hid (OwnS w1 w.heap.size (.slice (some ⟨gf, 0, none⟩) ly cf) Y) := by rw [unhide HY] at hO1; exact hO1
    have B1 := hide b1
    clear hO1 b1
    go_wp2_with fail
    go_step3
    rename_i hK
    exact hK _ _ (hp _ _ ⟨gf, cf, Y, _, _, _, _, _, _, _, _, _, _, _, _, _, _, _, _, _, _, _, _, _, _, _, _, _, _, _, _, rfl, unhide HO1, unhide HP, unhide B1⟩)
/-- what is there of a part of a whole -/
theorem pres_part {Y X : List By} {m : Nat} (h : Prt Y Y X) (hX : ∀ s ∈ X, s.length = m) : ∀ s ∈ pres Y, s.length = m := fun s hs => by
  unfold pres at hs
  rw [List.mem_filter] at hs
  obtain ⟨i, hi, rfl⟩ := List.getElem_of_mem hs.1
  have e : Y[i] = Y.getD i [] := by simp [List.getD, hi]
  have hne : Y[i] ≠ [] := by simpa using hs.2
  rcases h.sub i with e2 | e2
  · rw [e, e2] at hne; exact absurd rfl hne
  · rw [e, e2]
    exact hX _ (by simp [List.getD, show i < X.length by rw [← h.len]; exact hi])
set_option maxRecDepth 100000 in
set_option maxHeartbeats 1000000 in
theorem Fill_part (sd n a q m : Nat) (k1 : sd ≤ 72057594037927935) (hn1 : 1 ≤ n) (hn2 : n ≤ 96) (ha1 : 1 ≤ a) (ha2 : a ≤ 64) (hq1 : 1 ≤ q) (hq2 : q ≤ 8) (Y X : List By) (y0 : Option Addr) (yc : Nat) (w : World) (hT : Txts w y0 Y) (hP : Prt Y Y X) (hXl : X.length = n + a) (hm : 1 ≤ m) (hm2 : m ≤ 64) (hX : ∀ s ∈ X, s.length = m) (h0 : ∀ j, j < a → sumL m (atN X (ruL sd n a q j)) = List.replicate m 0) (hne : pres Y ≠ []) :
    Calls Try.prog 15 #[plV sd n a q, .slice y0 Y.length yc] w fun e w' => ∃ v F, e = .returned (.tuple #[v, .int .i64 0]) ∧ OwnS w' w.heap.size v F ∧ Prt Y F X ∧ Below w.heap.size w w' := by
  have hPl : plOk (sd : Int) n a q = true := by unfold plOk; simp; omega
  have hck := hide (fun w => check_any sd n a q w)
  rw [hPl] at hck
  have hpc := hide (plan_cells w sd n a q)
  have hb0 : Below w.heap.size w (w.alloc (.cells #[.int .i64 (sd : Int), .int .i64 (n : Int), .int .i64 (a : Int), .int .i64 (q : Int)] 23)) := (Below.refl _ w).alloc (Nat.le_refl _) _
  have hYl : Y.length = n + a := hP.len.trans hXl
  have hs := pres_part hP hX
  have hpl := pres_len Y
  have hsub : ∀ s ∈ Y, s.length ≤ 100000 := fun s hs => by
    obtain ⟨i, hi, rfl⟩ := List.getElem_of_mem hs
    have e : Y[i] = Y.getD i [] := by simp [List.getD, hi]
    rw [e]
    rcases hP.sub i with h | h
    · rw [h]; simp
    · rw [h]
      have := hX (X.getD i []) (by simp [List.getD, show i < X.length by omega])
      omega
  have hpr := hide (fun W (hW : Below w.heap.size w W) => present_any Y y0 yc W (hT.below hW) (by omega))
  have hao : Hid (∀ b0 d W, Txts W b0 (pres Y) → Calls Try.prog 28 #[.slice b0 (pres Y).length d, .int .i64 m] W fun e w' => e = .returned (.bool true) ∧ W = w') := fun b0 d W h => by
    have := oareOf_any (pres Y) b0 d m W h (by omega) (fun s h => by rw [hs s h]; omega)
    have e : ofS (pres Y) (m : Int) = true := by
      unfold ofS
      rw [List.all_eq_true]
      intro s h
      rw [may_iff.2 ⟨by omega, by omega⟩, hs s h]
      simp
    rwa [e] at this
  have hru := hide (fun W => rules_any sd n a q k1 hn2 ha1 ha2 hq1 hq2 W)
  have hfi : Hid (∀ base G V W, Txts W y0 Y → Rows2 W base G a V (ruA sd n a q) → Calls Try.prog 29 #[.slice (some ⟨G, 0, none⟩) a a, .slice y0 Y.length yc, .int .i64 m] W fun e w' => ∃ v F, e = .returned v ∧ OwnS w' W.heap.size v F ∧ Prt Y F X ∧ Below W.heap.size W w') := fun base G V W h1 h2 => filled_part Y X y0 yc base G a m V (ruA sd n a q) W h1 h2 (by omega) hP (by omega) (by omega) hm hm2 hX (fun j => by
    unfold ruA
    split
    · unfold ruL
      have := memL_len sd a q j n
      rw [List.length_append]
      simp
      omega
    · simp) (fun j i hi => by rw [hXl]; exact ruA_lt sd n a q j i hi) (fun j hj => by unfold ruA; rw [if_pos hj]; exact h0 j hj)
  have hho : Hid (∀ base G V F f0 fc W, Prt Y F X → Txts W f0 F → Rows2 W base G a V (ruA sd n a q) → Calls Try.prog 25 #[.slice (some ⟨G, 0, none⟩) a a, .slice f0 F.length fc, .int .i64 m] W fun e w' => e = .returned (.bool true) ∧ Below W.heap.size W w') := fun base G V F f0 fc W hF h1 h2 => by
    have hFl := hF.len
    have := hold_any F f0 fc base G a V (ruA sd n a q) m W h1 h2 (by omega) (by omega) (fun s hs => by
      obtain ⟨i, hi, rfl⟩ := List.getElem_of_mem hs
      have e : F[i] = F.getD i [] := by simp [List.getD, hi]
      rw [e]
      rcases hF.sub i with h | h
      · rw [h]; simp
      · rw [h]
        have := hX (X.getD i []) (by simp [List.getD, show i < X.length by omega])
        omega) (fun j => by
      unfold ruA
      split
      · unfold ruL
        have := memL_len sd a q j n
        rw [List.length_append]
        simp
        omega
      · simp) (fun j i hi => by rw [hFl, hXl]; exact ruA_lt sd n a q j i hi)
    rwa [hold_part hF hm hm2 hX (fun j i hi => by rw [hXl]; exact ruA_lt sd n a q j i hi) (fun j hj => by unfold ruA; rw [if_pos hj]; exact h0 j hj)] at this
  have hcg : Hid (∀ W base G V, Rows2 W base G a V (ruL sd n a q) → Rows2 W base G a V (ruA sd n a q)) := fun W base G V h => h.congr (fun j hj => by unfold ruA; rw [if_pos hj])
  have hp0 : 0 < (pres Y).length := List.length_pos_iff.2 hne
  have hsz0 : (bs (pres Y)[0]).size = m := by rw [bs_size]; exact hs _ (List.getElem_mem hp0)
  have B0 := hide hb0
  have HT := hide hT
  have HPR0 := hide hp0
  obtain ⟨c0, c1, c2, c3⟩ := unhide hpc _ (Below.refl _ _)
  unfold plV at *
  generalize hYY : Y.length = ly at *
  clear hYY
  subst hYl
  clear hT hP hX h0 hne hs hsub hb0 hPl hXl
  go_enter Try.func15, Try.ntmps15
  go_wp2_with fail
  refine (unhide hck _).mono ?_
  rintro e w1 ⟨rfl, b1⟩
  have PB1 := hide b1
  have B1 := hide ((unhide B0).trans (b1.mono (unhide B0).size))
  clear c0 c1 c2 c3
  obtain ⟨c0, c1, c2, c3⟩ := unhide hpc _ b1
  clear b1
  go_wp2_with fail
  refine (unhide hpr _ (unhide B1)).mono ?_
  rintro e w2 ⟨b0, d0, rfl, hTp, b2⟩
  obtain ⟨gp, op, eb, cp⟩ := hTp 0 hp0
  subst eb
  rw [Nat.add_zero] at cp
  have HTP := hide hTp
  have PB2 := hide ((unhide PB1).trans (b2.mono (unhide PB1).size))
  have B2 := hide ((unhide B1).trans (b2.mono (unhide B1).size))
  clear c0 c1 c2 c3
  generalize bs (pres Y)[0] = S0 at *
  have ha2' := hide (unhide hao (some ⟨gp, op, none⟩) d0 w2 (unhide HTP))
  generalize (pres Y).length = lp at *
  have q3 : ¬ ((lp : Nat) : Int) = 0 := by omega
  have q3' : (((lp : Nat) : Int) == 0) = false := by simp; omega
  obtain ⟨c0, c1, c2, c3⟩ := unhide hpc _ (unhide PB2)
  clear b2 hTp
  go_wp2_with fail
  refine (unhide ha2').mono ?_
  rintro e w3 ⟨rfl, rfl⟩
  go_wp2_with fail
  refine (unhide hru _).mono ?_
  rintro e w3 ⟨G, rfl, ⟨V, hR3⟩, b3⟩
  have HR3 := hide (unhide hcg _ _ _ _ hR3)
  have B3 := hide ((unhide B2).trans (b3.mono (unhide B2).size))
  have hf3 := hide (unhide hfi _ G V w3 ((unhide HT).below (unhide B3)) (unhide HR3))
  clear b3 hR3
  go_wp2_with fail
  refine (unhide hf3).mono ?_
  rintro e w4 ⟨v4, F, rfl, hO4, hPF, b4⟩
  have B4 := hide ((unhide B3).trans (b4.mono (unhide B3).size))
  obtain ⟨f0, fc, rfl, hTF, _, _⟩ := hO4.txts
  have hh4 := hide (unhide hho _ G V F f0 fc w4 hPF hTF ((unhide HR3).below b4))
  have HO4 := hide (hO4.mono (unhide B3).size)
  have HPF := hide hPF
  generalize F.length = lf at *
  clear b4 hO4 hPF hTF
  go_wp2_with fail
  refine (unhide hh4).mono ?_
  rintro e w5 ⟨rfl, b5⟩
  have B5 := hide ((unhide B4).trans (b5.mono (unhide B4).size))
  have HO5 := hide (show OwnS w5 w.heap.size _ F from own_below2 (unhide HO4) b5)
  clear b5
  go_wp2
  go_ret2
  exact ⟨_, F, rfl, unhide HO5, unhide HPF, unhide B5⟩
end Go.Proofs.Ytcdnpdmcijiffaa
namespace Go.Proofs.Ytcdnpdmcijiffaa
open Go.RowKit
set_option linter.unusedVariables false
attribute [local go_sem] Oper.semAt_some

/-- bools in a row of cells -/
def Bools (w : World) (a0 : Option Addr) (l : List Bool) : Prop := ∀ i (h : i < l.length), ∃ g o, a0 = some ⟨g, o, none⟩ ∧ w.cell? ⟨g, o + i, none⟩ = some (.bool l[i])
theorem Bools.below {w w' : World} {a0 : Option Addr} {l : List Bool} (h : Bools w a0 l) (hb : Below w.heap.size w w') : Bools w' a0 l := fun i hi => by
  obtain ⟨g, o, h1, h2⟩ := h i hi
  exact ⟨g, o, h1, cell_below h2 hb⟩
/-- F is X, some of whose first k are taken out -/
structure Tkn (F X : List By) (k : Nat) : Prop where
  len : F.length = X.length
  sub : ∀ i, F.getD i [] = [] ∨ F.getD i [] = X.getD i []
  aft : ∀ i, k ≤ i → F.getD i [] = X.getD i []
theorem Tkn.prt {F X : List By} {k : Nat} (h : Tkn F X k) : Prt F F X := ⟨h.len, h.sub, fun _ _ => rfl⟩
theorem Tkn.next {F X : List By} {k : Nat} (h : Tkn F X k) : Tkn F X (k + 1) := ⟨h.len, h.sub, fun i hi => h.aft i (by omega)⟩
theorem Tkn.out {F X : List By} {k : Nat} (h : Tkn F X k) (hk : k < X.length) : Tkn (F.set k []) X (k + 1) := by
  have hl := h.len
  have key : ∀ i, (F.set k []).getD i [] = if i = k then [] else F.getD i [] := fun i => by
    simp only [List.getD, List.getElem?_set]
    by_cases e : k = i
    · subst e; simp [show k < F.length by omega]
    · rw [if_neg e, if_neg (fun h => e h.symm)]
  refine ⟨by rw [List.length_set]; exact hl, fun i => ?_, fun i hi => ?_⟩
  · rw [key]
    by_cases e : i = k
    · rw [if_pos e]; exact .inl rfl
    · rw [if_neg e]; exact h.sub i
  · rw [key, if_neg (by omega)]
    exact h.aft i (by omega)
theorem pres_set : ∀ (F : List By) (k : Nat), k < F.length → F.getD k [] ≠ [] → (pres (F.set k [])).length + 1 = (pres F).length
  | [], _, h, _ => by simp at h
  | s :: F, 0, _, hne => by
    have hs : s ≠ [] := hne
    unfold pres
    rw [List.set_cons_zero, List.filter_cons_of_neg (by simp), List.filter_cons_of_pos (by simpa using hs)]
    rfl
  | s :: F, k + 1, h, hne => by
    have ih := pres_set F k (by simpa using h) hne
    unfold pres at *
    rw [List.set_cons_succ]
    by_cases hs : s = []
    · rw [List.filter_cons_of_neg (by simp [hs]), List.filter_cons_of_neg (by simp [hs])]
      exact ih
    · rw [List.filter_cons_of_pos (by simpa using hs), List.filter_cons_of_pos (by simpa using hs), List.length_cons, List.length_cons]
      omega
theorem whl_rules {sd n a q m : Nat} {X : List By} (k1 : sd ≤ 72057594037927935) (hn1 : 1 ≤ n) (hn2 : n ≤ 96) (ha1 : 1 ≤ a) (ha2 : a ≤ 64) (hq1 : 1 ≤ q) (hq2 : q ≤ 8) (h : Whl sd n a q X m) : ∀ j, j < a → sumL m (atN X (ruL sd n a q j)) = List.replicate m 0 :=
  (holdsB_iff k1 hn1 hn2 ha1 ha2 hq1 hq2 h.len h.m1 h.m64 h.siz).1 h.hol
set_option maxRecDepth 100000 in
set_option maxHeartbeats 2000000 in
theorem outerBack_few (sd n a q : Int) (A : List By) (bl : List Bool) (a0 b0 : Option Addr) (c d : Nat) (w : World) (hA : Txts w a0 A) (h2 : A.length ≤ maxLen) (h3 : ∀ s ∈ A, s.length ≤ maxLen) (hf : fewO A = false) :
    Calls Try.prog 5 #[plV sd n a q, .slice a0 A.length c, .slice b0 bl.length d] w fun e w' => e = .returned (.bool true) ∧ Below w.heap.size w w' := by
  have haw := hide oawake_any
  have hb0 : Below w.heap.size w (w.alloc (.cells #[.int .i64 sd, .int .i64 n, .int .i64 a, .int .i64 q] 23)) := (Below.refl _ w).alloc (Nat.le_refl _) _
  have hfA := hide (ofew_any A a0 c _ (hA.below hb0) h2 h3)
  have B0 := hide hb0
  unfold plV at *
  generalize A.length = lA at *
  generalize bl.length = lB at *
  rw [hf] at hfA
  clear hb0 hA h3 hf
  go_enter Try.func5, Try.ntmps5
  go_wp2_with fail
  refine (unhide hfA).mono ?_
  rintro e w1 ⟨rfl, rfl⟩
  go_wp2_with fail
  refine (unhide haw _).mono ?_
  rintro e w2 ⟨rfl, b2⟩
  have B2 := hide ((unhide B0).trans (b2.mono (unhide B0).size))
  clear b2
  go_wp2
  go_ret
  exact ⟨rfl, unhide B2⟩
set_option maxRecDepth 100000 in
set_option maxHeartbeats 2000000 in
theorem outerBack_no (sd n a q : Int) (A : List By) (bl : List Bool) (a0 b0 : Option Addr) (c d : Nat) (w : World) (hA : Txts w a0 A) (h2 : A.length ≤ maxLen) (h3 : ∀ s ∈ A, s.length ≤ maxLen) (hfa : fewO A = true) (hno : ¬ (plOk sd n a q = true ∧ alike A n = true)) :
    Calls Try.prog 5 #[plV sd n a q, .slice a0 A.length c, .slice b0 bl.length d] w fun e w' => e = .returned (.bool true) ∧ Below w.heap.size w w' := by
  have haw := hide oawake_any
  have hb0 : Below w.heap.size w (w.alloc (.cells #[.int .i64 sd, .int .i64 n, .int .i64 a, .int .i64 q] 23)) := (Below.refl _ w).alloc (Nat.le_refl _) _
  have hfA := hide (ofew_any A a0 c _ (hA.below hb0) h2 h3)
  have hF : A.length ≤ 180 ∧ ∀ s ∈ A, s.length ≤ 100 := by
    unfold fewO at hfa
    exact of_decide_eq_true hfa
  have hwh := hide (whole_any sd n a q A a0 c _ (hA.below hb0) (by omega) (fun s hs => by have := hF.2 s hs; omega))
  have e1 : whE sd n a q A = 1 := by unfold whE; rw [if_neg hno]
  have e2 : whR sd n a q A = [] := by unfold whR; rw [if_neg hno]
  rw [e1, e2] at hwh
  rw [hfa] at hfA
  have B0 := hide hb0
  obtain ⟨c0, c1, c2, c3⟩ := plan_cells w sd n a q _ (Below.refl _ _)
  unfold plV at *
  generalize A.length = lA at *
  generalize bl.length = lB at *
  clear hb0 hA h3 hno hF e1 e2 hfa
  go_enter Try.func5, Try.ntmps5
  go_wp2_with fail
  refine (unhide hfA).mono ?_
  rintro e w1 ⟨rfl, rfl⟩
  go_wp2_with fail
  refine (unhide hwh).mono ?_
  rintro e w2 ⟨v, rfl, hO, b2⟩
  obtain ⟨x0, xc, rfl, _, _, _⟩ := hO.txts
  have B2 := hide ((unhide B0).trans (b2.mono (unhide B0).size))
  clear b2 hO
  go_wp2_with fail
  refine (unhide haw _).mono ?_
  rintro e w3 ⟨rfl, b3⟩
  have B3 := hide ((unhide B2).trans (b3.mono (unhide B2).size))
  clear b3
  go_wp2
  go_ret
  exact ⟨rfl, unhide B3⟩
set_option maxRecDepth 100000 in
set_option maxHeartbeats 2000000 in
theorem outerBack_yes (sd n a q : Nat) (k1 : sd ≤ 72057594037927935) (hn1 : 1 ≤ n) (hn2 : n ≤ 96) (ha1 : 1 ≤ a) (ha2 : a ≤ 64) (hq1 : 1 ≤ q) (hq2 : q ≤ 8) (A : List By) (bl : List Bool) (a0 b0 : Option Addr) (c d : Nat) (w : World) (hA : Txts w a0 A) (hBl : Bools w b0 bl) (h2 : A.length ≤ maxLen) (h3 : ∀ s ∈ A, s.length ≤ maxLen) (h4 : bl.length ≤ maxLen)
    (hfa : fewO A = true) (hP : plOk (sd : Int) n a q = true) (hAl : alike A n = true) :
    Calls Try.prog 5 #[plV sd n a q, .slice a0 A.length c, .slice b0 bl.length d] w fun e w' => e = .returned (.bool true) ∧ Below w.heap.size w w' := by
  unfold maxLen at h4
  have haw := hide oawake_any
  have hpc := hide (plan_cells w sd n a q)
  have hb0 : Below w.heap.size w (w.alloc (.cells #[.int .i64 (sd : Int), .int .i64 (n : Int), .int .i64 (a : Int), .int .i64 (q : Int)] 23)) := (Below.refl _ w).alloc (Nat.le_refl _) _
  have hfA := hide (ofew_any A a0 c _ (hA.below hb0) h2 h3)
  have hFA : A.length ≤ 180 ∧ ∀ s ∈ A, s.length ≤ 100 := by
    unfold fewO at hfa
    exact of_decide_eq_true hfa
  have hwh := hide (whole_any sd n a q A a0 c _ (hA.below hb0) (by omega) (fun s hs => by have := hFA.2 s hs; omega))
  obtain ⟨m, hX, eX⟩ := whl_of hP hAl
  rw [hfa] at hfA
  rw [eX] at hwh
  generalize whR sd n a q A = X at *
  have hXl : X.length = n + a := hX.len
  have HX := hide hX
  have hfill : Hid (∀ (F : List By) y0 yc W, Txts W y0 F → Prt F F X → pres F ≠ [] → Calls Try.prog 15 #[plV sd n a q, .slice y0 F.length yc] W fun e w' => ∃ v Z, e = .returned (.tuple #[v, .int .i64 0]) ∧ OwnS w' W.heap.size v Z ∧ Prt F Z X ∧ Below W.heap.size W w') := fun F y0 yc W h1 h2 h3 => Fill_part sd n a q m k1 hn1 hn2 ha1 ha2 hq1 hq2 F X y0 yc W h1 h2 hXl hX.m1 hX.m64 hX.siz (whl_rules k1 hn1 hn2 ha1 ha2 hq1 hq2 hX) h3
  have HXne : Hid (∀ i, i < X.length → X.getD i [] ≠ []) := fun i hi e => by
    have h := hX.siz (X.getD i []) (by simp [List.getD, hi])
    rw [e] at h
    have := hX.m1
    simp at h
    omega
  have B0 := hide hb0
  have HBl := hide hBl
  obtain ⟨i0, hi0, hz0, hz1, hz2⟩ : ∃ i, Try.prog.info? 9 = some i ∧ i.zero = some (.string ⟨#[]⟩) ∧ i.size = 1 ∧ i.bytes = 16 := by
    have h := Try.infoS
    cases hh : Try.prog.info? 9 with
    | none => rw [hh] at h; cases h
    | some i =>
      rw [hh] at h
      simp only [Option.map_some, Option.some.injEq, Prod.mk.injEq] at h
      exact ⟨i, rfl, h.1, h.2.1, h.2.2⟩
  generalize hL : n + a = L at *
  have hL2 : 2 ≤ L := by omega
  have hL160 : L ≤ 160 := by omega
  unfold plV at *
  generalize A.length = lA at *
  generalize hlb : bl.length = lB at *
  have HLB := hide hlb
  have HXl := hide hXl
  clear hb0 hA h3 hFA hX hfa hAl hL hP hBl hlb hXl
  obtain ⟨c0, c1, c2, c3⟩ := unhide hpc _ (Below.refl _ _)
  go_enter Try.func5, Try.ntmps5
  go_wp2_with fail
  refine (unhide hfA).mono ?_
  rintro e w1 ⟨rfl, rfl⟩
  go_wp2_with fail
  refine (unhide hwh).mono ?_
  rintro e w3 ⟨v2, rfl, hO2, b2⟩
  obtain ⟨gx, cx, rfl⟩ := own_some hO2 (by rw [unhide HXl]; omega)
  obtain ⟨_, _, e2, hTx, hcx, hcm⟩ := hO2.txts
  simp only [Value.slice.injEq, true_and] at e2
  obtain ⟨rfl, rfl⟩ := e2
  have PB3 := hide b2
  have B3 := hide ((unhide B0).trans (b2.mono (unhide B0).size))
  have HT3 := hide hTx
  rw [unhide HXl]
  clear b2 hO2 hTx c0 c1 c2 c3
  have hnews : ∀ (j : Nat) u, (sc X)[j]? = some u → (w3.alloc (.cells #[] 9)).cell? ((⟨gx, 0, none⟩ : Addr).add j) = some u := fun j u hj => by
    have hjl : j < X.length := by
      rcases Nat.lt_or_ge j X.length with h | h
      · exact h
      · rw [List.getElem?_eq_none (by rw [sc_length]; exact h)] at hj; cases hj
    obtain ⟨g', o', e, h⟩ := ((unhide HT3).below ((Below.refl _ w3).alloc (Nat.le_refl _) (.cells #[] 9))) j hjl
    simp only [Option.some.injEq, Addr.mk.injEq, and_true] at e
    obtain ⟨rfl, rfl⟩ := e
    rw [sc_get X j hjl] at hj
    rw [show (⟨gx, 0, none⟩ : Addr).add j = ⟨gx, j, none⟩ by unfold Addr.add; split <;> simp_all]
    rw [Nat.zero_add] at h
    exact h.trans hj
  have HNW := hide hnews
  have hscl : (sc X).length = L * 1 := by rw [sc_length, unhide HXl]; omega
  have HSC := hide hscl
  have hlit := hide (World.ownsRow_lit (base := w3.heap.size) (e := 9) (size := 1) w3 #[] 0 (Nat.le_refl _) (by unfold maxLen; omega) rfl)
  clear hnews hscl
  go_wp2_with (at_builtin; refine wpList_append_own _ rfl _ _ 34 rfl w3.heap.size 9 i0 _ 1 16 Try.undS hi0 hz0 hz1 hz2 rfl (by decide) _ _ _ rfl (unhide hlit) ⟨gx, 0, none⟩ L cx (sc X) rfl (unhide HSC) (unhide HNW) ?d2 ?d3 ?d4 ?d5 ?_)
  case d2 => exact sc_one X
  case d3 => unfold maxLen; omega
  case d4 => omega
  case d5 => simp
  intro v4 w4 hown4 hgrow4 _
  have hO4 : OwnS w4 w3.heap.size v4 X := by
    show World.ownsRow _ _ _ _ _ _ _
    rw [unhide HXl]
    simpa using hown4
  have b4 : Below w3.heap.size w3 w4 := ((Below.refl _ w3).alloc (Nat.le_refl _) _).grown hgrow4 (by simp) (fun k hk => by
    have := (unhide hlit).lt k hk
    exact this.1)
  obtain ⟨gy, cy, rfl⟩ := own_some hO4 (by rw [unhide HXl]; omega)
  rw [unhide HXl]
  have HO4 : Hid (OwnS w4 w3.heap.size (.slice (some ⟨gy, 0, none⟩) L cy) X) := by rw [unhide HXl] at hO4; exact hO4
  have HB4 := hide b4
  have HPX : Hid ((pres X).length = L) := by
    show _ = _
    have : pres X = X := by
      unfold pres
      rw [List.filter_eq_self]
      intro s hs
      obtain ⟨i, hi, rfl⟩ := List.getElem_of_mem hs
      have := unhide HXne i hi
      simp only [List.getD, List.getElem?_eq_getElem hi, Option.getD_some] at this
      simpa using this
    rw [this, unhide HXl]
  clear hown4 hgrow4 hO4 b4 HNW hlit
  go_wp2_with fail
  go_loopw [10, 11] (fun v u wr => ∃ (k : Nat) (F : List By), k ≤ L ∧ u = .int .i64 k ∧ v = .int .i64 ((pres F).length : Nat) ∧ 1 ≤ (pres F).length ∧ Tkn F X k ∧ OwnS wr w3.heap.size (.slice (some ⟨gy, 0, none⟩) L cy) F ∧ Below w3.heap.size w3 wr) (fun _ u _ => L - (intOf u).toNat)
  case atStart => exact ⟨0, X, by omega, rfl, by rw [unhide HPX], by rw [unhide HPX]; omega, ⟨rfl, fun _ => .inr rfl, fun _ _ => rfl⟩, unhide HO4, unhide HB4⟩
  case round =>
    obtain ⟨k, F, hk, rfl, rfl, hp1, hTk, hO, hB⟩ := hrel
    have hFl : F.length = L := hTk.len.trans (unhide HXl)
    have HFl := hide hFl
    have HTk := hide hTk
    have HO := hide hO
    have HB := hide hB
    generalize hpl : (pres F).length = lf at *
    have HPL := hide hpl
    have hlf : lf ≤ L := by
      rw [← hpl, ← hFl]
      exact List.length_filter_le _ _
    clear hO hB hTk hFl hpl
    by_cases hin : k < L ∧ k < lB
    · obtain ⟨hlt, hlb⟩ := hin
      · have q1 : (k : Int) < L := by omega
        have q2 : (k : Int) < lB := by omega
        have hbl : k < bl.length := by rw [unhide HLB]; exact hlb
        obtain ⟨gb, ob, rfl, cb⟩ := ((unhide HBl).below ((unhide B3).trans ((unhide HB).mono (unhide B3).size))) k hbl
        generalize bl[k] = bb at *
        cases bb with
        | false =>
          go_wp2
          go_roundw
          case rel => exact ⟨k + 1, F, by omega, by go_num, by rw [unhide HPL], by rw [unhide HPL]; exact hp1, (unhide HTk).next, unhide HO, unhide HB⟩
          case measure => simp [intOf]; omega
        | true =>
          by_cases h1 : 1 < lf
          · have q3 : (1 : Int) < lf := by omega
            have hO1 : wr.ownsRow w3.heap.size 9 1 (.slice (some ⟨gy, 0, none⟩) L cy) F.length (sc F) := (show World.ownsRow _ _ _ _ _ _ _ from unhide HO)
            have hO' : wr.ownsRow w3.heap.size 9 1 (.slice (some ⟨gy, 0, none⟩) L cy) L (sc F) := by rw [unhide HFl] at hO1; exact hO1
            have hkF : k < F.length := by rw [unhide HFl]; exact hlt
            have c8 := (hO'.cellAt k (by omega)).trans (sc_get F k hkF)
            have f8 := hO'.frozenAt k
            have hst := (hO'.stored k (.string ⟨#[]⟩)).1
            have hset : (sc F).set k (.string ⟨#[]⟩) = sc (F.set k []) := by
              unfold sc
              rw [List.map_set]
              rfl
            rw [hset] at hst
            have HON : Hid (OwnS (wr.setCell ⟨gy, k, none⟩ (.string ⟨#[]⟩)) w3.heap.size (.slice (some ⟨gy, 0, none⟩) L cy) (F.set k [])) := by
              show World.ownsRow _ _ _ _ _ _ _
              rw [List.length_set, unhide HFl]
              exact hst
            have HBN := hide ((unhide HB).setCell (p := ⟨gy, k, none⟩) (hO'.lt gy rfl).1 (.string ⟨#[]⟩))
            have hkX : k < X.length := by rw [unhide HXl]; exact hlt
            have HTN := hide ((unhide HTk).out hkX)
            have HPS := hide (pres_set F k hkF (by rw [(unhide HTk).aft k (Nat.le_refl _)]; exact unhide HXne k hkX))
            have hlf1 : ((lf : Int) - 1) = ((lf - 1 : Nat) : Int) := by omega
            clear hO1 hO' hst hset hkX
            go_wp2
            go_roundw
            case rel => exact ⟨k + 1, F.set k [], by omega, by go_num, by have := unhide HPS; rw [unhide HPL] at this; congr 1; omega, by have := unhide HPS; rw [unhide HPL] at this; omega, unhide HTN, unhide HON, unhide HBN⟩
            case measure => simp [intOf]; omega
          · have q3 : ¬ (1 : Int) < lf := by omega
            go_wp2
            go_roundw
            case rel => exact ⟨k + 1, F, by omega, by go_num, by rw [unhide HPL], by rw [unhide HPL]; exact hp1, (unhide HTk).next, unhide HO, unhide HB⟩
            case measure => simp [intOf]; omega
    · have hTF : Txts wr (some ⟨gy, 0, none⟩) F := by
        have hO1 : OwnS wr w3.heap.size (.slice (some ⟨gy, 0, none⟩) F.length cy) F := by rw [unhide HFl]; exact unhide HO
        obtain ⟨_, _, e9, h, _, _⟩ := hO1.txts
        simp only [Value.slice.injEq, true_and] at e9
        obtain ⟨rfl, rfl⟩ := e9
        exact h
      have hfl := hide (unhide hfill F (some ⟨gy, 0, none⟩) cy wr hTF (unhide HTk).prt (fun e => by have := unhide HPL; rw [e] at this; simp at this; omega))
      rw [unhide HFl] at hfl
      have PBr := hide ((unhide PB3).trans ((unhide HB).mono (unhide PB3).size))
      obtain ⟨c0, c1, c2, c3⟩ := unhide hpc _ (unhide PBr)
      have HTF := hide hTF
      have HTXr := hide ((unhide HT3).below (unhide HB))
      have Br := hide ((unhide B3).trans ((unhide HB).mono (unhide B3).size))
      clear hTF
      have q1 : (k : Int) < L ∧ ¬ (k : Int) < lB ∨ ¬ (k : Int) < L := by omega
      rcases q1 with ⟨q1, q2⟩ | q1
      all_goals
        go_wp2_with fail
        refine (unhide hfl).mono ?_
        rintro e w5 ⟨v5, Z, rfl, hO5, hPZ, b5⟩
        have hZl : Z.length = L := hPZ.len.trans (unhide HXl)
        obtain ⟨gz, cz, rfl⟩ := own_some hO5 (by omega)
        obtain ⟨_, _, e9, hTz, _, _⟩ := hO5.txts
        simp only [Value.slice.injEq, true_and] at e9
        obtain ⟨rfl, rfl⟩ := e9
        rw [hZl]
        have HZl := hide hZl
        have HTz := hide hTz
        have HPZ := hide hPZ
        have HTF5 := hide ((unhide HTF).below b5)
        have HTX5 := hide ((unhide HTXr).below b5)
        have B5 := hide ((unhide Br).trans (b5.mono (unhide Br).size))
        clear hO5 hTz hZl hPZ b5 c0 c1 c2 c3
        go_wp2_with fail
        go_loopw [14] (fun v wr => ∃ k : Nat, k ≤ L ∧ v = .int .i64 k ∧ Below w5.heap.size w5 wr) (fun v _ => L - (intOf v).toNat)
        case atStart => exact ⟨0, by omega, rfl, Below.refl _ _⟩
        case round =>
          obtain ⟨k, hk, rfl, hW⟩ := hrel
          by_cases hlt : k < L
          · have p1 : (k : Int) < L := by omega
            have hkZ : k < Z.length := by rw [unhide HZl]; exact hlt
            have hkX : k < X.length := by rw [unhide HXl]; exact hlt
            have hkF : k < F.length := by rw [unhide HFl]; exact hlt
            obtain ⟨_, _, ez, z0⟩ := ((unhide HTz).below hW) k hkZ
            simp only [Option.some.injEq, Addr.mk.injEq, and_true] at ez
            obtain ⟨rfl, rfl⟩ := ez
            obtain ⟨_, _, ez, x0⟩ := ((unhide HTX5).below hW) k hkX
            simp only [Option.some.injEq, Addr.mk.injEq, and_true] at ez
            obtain ⟨rfl, rfl⟩ := ez
            obtain ⟨_, _, ez, y0⟩ := ((unhide HTF5).below hW) k hkF
            simp only [Option.some.injEq, Addr.mk.injEq, and_true] at ez
            obtain ⟨rfl, rfl⟩ := ez
            rw [Nat.zero_add] at x0 z0 y0
            have eF : F.getD k [] = F[k] := by simp [List.getD, hkF]
            have eZ : Z.getD k [] = Z[k] := by simp [List.getD, hkZ]
            have eX' : X.getD k [] = X[k] := by simp [List.getD, hkX]
            have hs := (unhide HPZ).sub k
            have ho := (unhide HPZ).old k
            rw [eF, eZ] at ho
            rw [eX', eZ] at hs
            have HW := hide hW
            generalize X[k] = xk at *
            generalize Z[k] = zk at *
            generalize F[k] = fk at *
            clear eF eZ eX' hW hkZ hkX hkF
            by_cases hz : zk = []
            · have hf : fk = [] := by
                by_cases h : fk = []
                · exact h
                · exact (ho h).symm.trans hz
              subst hz
              subst hf
              rw [show bs [] = ⟨#[]⟩ from rfl] at z0 y0
              have r1 : ((⟨#[]⟩ : ByteArray) == ⟨#[]⟩) = true := by decide
              have r2 : ((⟨#[]⟩ : ByteArray) != ⟨#[]⟩) = false := by decide
              clear ho hs
              go_wp2
              go_big_quiet (fail)
              go_wp2
              go_roundw
              case rel => exact ⟨k + 1, by omega, by go_num, (unhide HW).trans ⟨rfl, rfl, rfl, Nat.le_refl _, fun _ _ => rfl⟩⟩
              case measure => simp [intOf]; omega
            · have hx : zk = xk := by
                rcases hs with h | h
                · exact absurd h hz
                · exact h
              subst hx
              have r0 : (bs zk).toList.isEmpty = false := by
                rw [ByteArray.toList_eq, bs_list]
                simpa using hz
              generalize bs zk = S at *
              have r3 : (S.toList == S.toList) = true := by simp
              clear ho hs hz
              go_wp2
              go_big_quiet (fail)
              go_wp2
              go_roundw
              case rel => exact ⟨k + 1, by omega, by go_num, (unhide HW).trans ⟨rfl, rfl, rfl, Nat.le_refl _, fun _ _ => rfl⟩⟩
              case measure => simp [intOf]; omega
          · have p1 : ¬ (k : Int) < L := by omega
            have B6 := hide ((unhide B5).trans (hW.mono (unhide B5).size))
            clear hW
            go_wp2_with fail
            refine (unhide haw _).mono ?_
            rintro e w7 ⟨rfl, b7⟩
            have B7 := hide ((unhide B6).trans (b7.mono (unhide B6).size))
            clear b7
            go_wp2
            go_ret
            exact ⟨rfl, unhide B7⟩
end Go.Proofs.Ytcdnpdmcijiffaa
namespace Go.Proofs.Ytcdnpdmcijiffaa
open Go.ChangeShapes Go.WideShapes Go.ChangeAt Go.RowKit
set_option linter.unusedVariables false

theorem open_bls {H : Type} {enc : TypeId × Value → H} {P : Program} {W : World} {r : Reach} {b0 : Nat} {t e : TypeId} {v : Value} {d : DataW H} {p : List MemPlace}
    (ht : P.underlying t = some (.slice e)) (he : P.underlying e = some .bool) (hc : P.cellsOf e = 1)
    (hval : Value.okWide P W r b0 t v) (h : DataW.Trod enc P W 0 (fun _ => true) true t v d p) :
    ∃ a0 bl cap, v = .slice a0 (List.length (α := Bool) bl) cap ∧ Bools W a0 bl ∧ bl.length ≤ maxLen := by
  obtain ⟨a0, len, cap, rfl⟩ := okWide_slice ht hval
  obtain ⟨fuel, hf⟩ := h
  rcases Go.Deep.open_bools ht he hc hf with ⟨hcs, hx⟩ | ⟨a, len', cap', B, hcs, _, hl, hm, hx, hcell⟩
  · simp [Value.cells] at hcs
    obtain ⟨rfl, rfl, rfl⟩ := hcs
    exact ⟨none, [], 0, rfl, fun i hi => absurd hi (by simp), by simp⟩
  · simp [Value.cells] at hcs
    obtain ⟨rfl, rfl, rfl⟩ := hcs
    have hlen : ((List.range len).map B).length = len := by simp
    refine ⟨some a, (List.range len).map B, cap, by rw [hlen], fun i hi => ?_, by rw [hlen]; omega⟩
    rw [hlen] at hi
    obtain ⟨b, off, spot⟩ := a
    have hspot : spot = none := by simpa [Addr.add] using World.cell?_spot (hcell 0 (by omega))
    subst hspot
    refine ⟨b, off, rfl, ?_⟩
    rw [← add_plain, hcell i (by omega)]
    simp
theorem outerBack_law (sd n a q : Int) (a0 : Option Addr) (A : List By) (c : Nat) (b0 : Option Addr) (bl : List Bool) (d : Nat) (w : World) (h1 : (Lit.int .i64 sd).wf = true) (h2 : (Lit.int .i64 n).wf = true) (h3 : (Lit.int .i64 a).wf = true) (h4 : (Lit.int .i64 q).wf = true) (hA : Txts w a0 A) (kA : TxtsOk A c) (hB : Bools w b0 bl) (kB : bl.length ≤ maxLen) :
    Calls Try.prog 5 #[plV sd n a q, .slice a0 A.length c, .slice b0 bl.length d] w fun e w' => e = .returned (.bool true) ∧ Below w.heap.size w w' := by
  have hl2 : A.length ≤ maxLen := by have := kA.1; have := kA.2.1; omega
  cases hf : fewO A with
  | false => exact outerBack_few sd n a q A bl a0 b0 c d w hA hl2 kA.2.2 hf
  | true =>
    by_cases hk : plOk sd n a q = true ∧ alike A n = true
    · obtain ⟨sd', n', a', q', rfl, rfl, rfl, rfl, e1, e2, e3, e4⟩ := plOk_facts hk.1
      exact outerBack_yes sd' n' a' q' e1 e2.1 e2.2 e3.1 e3.2 e4.1 e4.2 A bl a0 b0 c d w hA hB hl2 kA.2.2 kB hf hk.1 hk.2
    · exact outerBack_no sd n a q A bl a0 b0 c d w hA hl2 kA.2.2 hf hk
end Go.Proofs.Ytcdnpdmcijiffaa

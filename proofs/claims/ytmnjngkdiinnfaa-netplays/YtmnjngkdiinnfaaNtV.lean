/- net: the document's Twice. -/
import Derived.Test.YtmnjngkdiinnfaaNtU
import Derived.Test.YtmnjngkdiinnfaaRst
namespace Go.Proofs.Ytmnjngkdiinnfaa
open Go.RowKit
set_option linter.unusedVariables false
attribute [local go_sem] Oper.semAt_some

/-- a block of a net -/
def Zb (x : World) (k : Nat) : Prop := ∃ cs, x.heap[k]? = some (.cells cs 28 (0, 0)) ∧ cs.size = 3
/-- a block that holds the answer -/
structure Gd (B : Nat) (room pt : Int) (pl : List Mg) (x : World) (k : Nat) : Prop where
  ex : ∃ v, x.heap[k]? = some (.cells (dnC room pt v) 28 (0, 0)) ∧ OwnR x B v pl
theorem Gd.zb {B : Nat} {room pt : Int} {pl : List Mg} {x : World} {k : Nat} (h : Gd B room pt pl x k) : Zb x k := by
  obtain ⟨v, h1, _⟩ := h.ex
  exact ⟨_, h1, rfl⟩
/-- a new block of a net may get the answer -/
structure Fz (B : Nat) (room pt : Int) (pl : List Mg) (m : Nat) (x y : World) : Prop where
  os : y.os = x.os
  tape : y.tape = x.tape
  output : y.output = x.output
  size : x.heap.size ≤ y.heap.size
  block : ∀ k, k < x.heap.size → y.heap[k]? = x.heap[k]? ∨ (m ≤ k ∧ Zb x k ∧ Gd B room pt pl y k)
theorem Fz.own {B B' : Nat} {room pt : Int} {pl l : List Mg} {m : Nat} {x y : World} (f : Fz B room pt pl m x y) {v : Value} (h : OwnR x B' v l) : OwnR y B' v l := h.up fun k cs hk => by
  rcases f.block k (lt_of_block hk) with h1 | ⟨_, ⟨cs', h1, _⟩, _⟩
  · exact h1
  · rw [hk] at h1
    simp only [Option.some.injEq, Obj.cells.injEq] at h1
    exact absurd h1.2.1 (by decide)
theorem mail_stays {B B' : Nat} {room pt : Int} {pl l : List Mg} {m : Nat} {x y : World} (f : Fz B room pt pl m x y) {g n c : Nat} {v : Value} (h : OwnR x B' v l) (hv : v = .slice (some ⟨g, 0, none⟩) n c) (hn : 0 < n) : y.heap[g]? = x.heap[g]? := by
  rcases h.2 with ⟨h1, h2⟩ | ⟨g', cap, cur, h1, h2, h3, h4⟩
  · rw [hv] at h1
    cases h1
  · rw [hv] at h1
    simp only [Value.slice.injEq, Option.some.injEq, Addr.mk.injEq] at h1
    obtain ⟨⟨rfl, _⟩, _⟩ := h1
    rcases f.block g (lt_of_block h3) with h5 | ⟨_, ⟨cs', h5, _⟩, _⟩
    · exact h5
    · rw [h3] at h5
      simp only [Option.some.injEq, Obj.cells.injEq] at h5
      exact absurd h5.2.1 (by decide)
theorem Fz.gd {B : Nat} {room pt : Int} {pl : List Mg} {m : Nat} {x y : World} (f : Fz B room pt pl m x y) {k : Nat} (h : Gd B room pt pl x k) : Gd B room pt pl y k := by
  obtain ⟨v, h1, h2⟩ := h.ex
  rcases f.block k (lt_of_block h1) with h3 | ⟨_, _, h3⟩
  · exact ⟨v, h3.trans h1, f.own h2⟩
  · exact h3
theorem Fz.zb {B : Nat} {room pt : Int} {pl : List Mg} {m : Nat} {x y : World} (f : Fz B room pt pl m x y) {k : Nat} (h : Zb x k) : Zb y k := by
  obtain ⟨cs, h1, h2⟩ := h
  rcases f.block k (lt_of_block h1) with h3 | ⟨_, _, h3⟩
  · exact ⟨cs, h3.trans h1, h2⟩
  · exact h3.zb
theorem Fz.trans {B : Nat} {room pt : Int} {pl : List Mg} {m : Nat} {x y z : World} (f : Fz B room pt pl m x y) (g : Fz B room pt pl m y z) : Fz B room pt pl m x z := by
  refine ⟨g.os.trans f.os, g.tape.trans f.tape, g.output.trans f.output, Nat.le_trans f.size g.size, fun k hk => ?_⟩
  rcases f.block k hk with h1 | ⟨h1, h2, h3⟩
  · rcases g.block k (Nat.lt_of_lt_of_le hk f.size) with h4 | ⟨h4, h5, h6⟩
    · exact .inl (h4.trans h1)
    · exact .inr ⟨h4, by unfold Zb at h5 ⊢; rw [← h1]; exact h5, h6⟩
  · exact .inr ⟨h1, h2, g.gd h3⟩
theorem Fz.of_below {B : Nat} {room pt : Int} {pl : List Mg} {m : Nat} {x y : World} (h : Below x.heap.size x y) : Fz B room pt pl m x y := ⟨h.os, h.tape, h.output, h.size, fun k hk => .inl (h.block k hk)⟩
theorem Fz.low {B : Nat} {room pt : Int} {pl : List Mg} {m : Nat} {x y : World} (f : Fz B room pt pl m x y) (hx : m ≤ x.heap.size) : Below m x y := ⟨f.os, f.tape, f.output, f.size, fun k hk => by
  rcases f.block k (by omega) with h | ⟨h, _⟩
  · exact h
  · omega⟩
theorem fz_store {B : Nat} {room pt : Int} {pl : List Mg} {m : Nat} {x : World} {g : Nat} {v : Value} (hm : m ≤ g) (hz : Zb x g) (ho : OwnR x B v pl) :
    Fz B room pt pl m x (x.setRow g (dnC room pt v)) ∧ Gd B room pt pl (x.setRow g (dnC room pt v)) g := by
  obtain ⟨cs, h1, h2⟩ := hz
  have hg : Gd B room pt pl (x.setRow g (dnC room pt v)) g := ⟨v, setRow_heap _ _ _ _ _ _ h1, ownR_row ho h1 (by decide) _⟩
  refine ⟨⟨rfl, rfl, rfl, by simp [World.setRow], fun k hk => ?_⟩, hg⟩
  by_cases e : k = g
  · subst e
    exact .inr ⟨hm, ⟨cs, h1, h2⟩, hg⟩
  · exact .inl (setRow_other _ _ _ _ e)
/-- what the operations answer, by classes -/
def RA (B : Nat) (room pt pi pe : Int) (pl : List Mg) (m : Nat) (c : Nat) (v : Value) (x : World) : Prop :=
  match c with
  | 0 => ∃ v', v = .tuple #[dnV room pt v', .int .i64 pi, .int .i64 pe] ∧ OwnR x B v' pl
  | 1 => ∃ v', v = dnV room pt v' ∧ OwnR x B v' pl
  | 2 => v = .int .i64 pi
  | 3 => v = .int .i64 pe
  | 4 => ∃ g, v = .pointer (some ⟨g, 0, none⟩) ∧ m ≤ g ∧ Zb x g
  | _ => True
theorem RA.stay {B : Nat} {room pt pi pe : Int} {pl : List Mg} {m c : Nat} {v : Value} {x y : World} (h : RA B room pt pi pe pl m c v x) (f : Fz B room pt pl m x y) : RA B room pt pi pe pl m c v y := by
  match c, h with
  | 0, ⟨v', h1, h2⟩ => exact ⟨v', h1, f.own h2⟩
  | 1, ⟨v', h1, h2⟩ => exact ⟨v', h1, f.own h2⟩
  | 2, h => exact h
  | 3, h => exact h
  | 4, ⟨g, h1, h2, h3⟩ => exact ⟨g, h1, h2, f.zb h3⟩
  | n + 5, _ => exact trivial
theorem mask_in {m : List Bool} {j : Nat} (h : m[j]? = some true) : j ∈ (List.range m.length).filter fun i => m[i]? == some true := by
  rw [List.mem_filter, List.mem_range]
  exact ⟨(List.getElem?_eq_some_iff.1 h).1, by simp [h]⟩
theorem tw_pt {room last : Int} {rs : List Mg} {k : Int} {x : Mg} (hf : fM rs k = some x) (hm : mayG x.fr x.to x.tx.size = true) : twI room last rs k = ptI room last rs ∧ twE room rs k = ptE room rs ∧ twT room last rs k = ptT room last rs ∧ twL room last rs k = ptL room last rs x := by
  have e : tkG rs k = x := by unfold tkG; rw [hf]; rfl
  obtain ⟨h1, h2, h3, h4⟩ := snd_pt (room := room) (last := last) (rs := rs) hm
  unfold twI twE twT twL
  rw [hf, e]
  exact ⟨h1, h2, h3, h4⟩
theorem tw_no {room last : Int} {rs : List Mg} {k : Int} (hf : fM rs k = none) : twI room last rs k = 0 ∧ twE room rs k = 4 ∧ twT room last rs k = last ∧ twL room last rs k = rs := by
  unfold twI twE twT twL
  rw [hf]
  exact ⟨rfl, rfl, rfl, rfl⟩
def clsT (i : Nat) : Nat := if i = 6 then 0 else if i = 7 then 1 else if i = 8 ∨ i = 11 then 2 else if i = 9 ∨ i = 12 then 3 else 9
set_option maxRecDepth 100000 in
set_option maxHeartbeats 4000000 in
theorem dtwice_any (B : Nat) (room last k : Int) (v : Value) (rs : List Mg) (w : World) (hO : OwnR w B v rs) (hB : B ≤ w.heap.size) (hlen : rs.length ≤ 600) (hr : room ≤ 600) (hl0 : 0 ≤ last) (hl : last < 1000000000) (hgd : ∀ x ∈ rs, mayG x.fr x.to x.tx.size = true) :
    Calls Try.prog 18 #[dnV room last v, .int .i64 k] w fun e w' => (∃ v', e = .returned (.tuple #[dnV room (twT room last rs k) v', .int .i64 (twI room last rs k), .int .i64 (twE room rs k)]) ∧ OwnR w' B v' (twL room last rs k)) ∧ Below w.heap.size w w' := by
  have hp0 := lsS w (dnC room last v) zDn
  have hO2 : OwnR ((w.alloc (.cells (dnC room last v) 28)).alloc (.cells zDn 28)) B v rs := hO.below hp0.be
  have hfi := hide (dfind_any B room last k v rs _ hO2 hlen)
  have hpu := hide (fun (r : Mg) (x : World) (ho : OwnR x B v rs) (hb : B ≤ x.heap.size) => dput_any B room last v rs r x ho hb hr hl0 hl)
  obtain ⟨aM, cM, rfl, _⟩ := hO.mls
  obtain ⟨n, hn⟩ : ∃ n, rs.length = n := ⟨_, rfl⟩
  have hln : n ≤ 600 := by rw [← hn]; exact hlen
  have HO2 := hide hO2
  have P0 := hide hp0
  have HN := hide hn
  rcases fI_ways rs k with ⟨i, x, h1, h2, h3⟩ | ⟨h1, h2⟩
  · rw [h1] at hfi
    have hxm : x ∈ rs := List.mem_of_getElem? h2
    obtain ⟨t1, t2, t3, t4⟩ := tw_pt (room := room) (last := last) h3 (hgd x hxm)
    rw [t1, t2, t3, t4]
    have hpx := hide (unhide hpu x)
    obtain ⟨pi, hpi⟩ : ∃ q, q = ptI room last rs := ⟨_, rfl⟩
    obtain ⟨pe, hpe⟩ : ∃ q, q = ptE room rs := ⟨_, rfl⟩
    obtain ⟨pt, hpt⟩ : ∃ q, q = ptT room last rs := ⟨_, rfl⟩
    obtain ⟨pl, hpl⟩ : ∃ q, q = ptL room last rs x := ⟨_, rfl⟩
    rw [← hpi, ← hpe, ← hpt, ← hpl] at hpx ⊢
    rw [hn] at hfi HO2 P0 hpx ⊢
    obtain ⟨c0, c1, c2, cf⟩ := cells3 (unhide P0).nb
    have hin : i < n := by have := (List.getElem?_eq_some_iff.1 h2).1; omega
    have q0 : ¬ (i : Int) < 0 := by omega
    have q1 : (i : Int) < n := by omega
    have HXI := hide h2
    obtain ⟨xi, xf, xt, xx⟩ := x
    have hBw := hB
    clear hO hO2 hp0 h1 h2 h3 hn t1 t2 t3 t4 hpi hpe hpt hpl hxm hgd hpu hB hlen
    go_enter Try.func18, Try.ntmps18
    go_wp2_with fail
    refine (unhide hfi).mono ?_
    rintro e w1 ⟨rfl, b1⟩
    have P1 := hide ((unhide P0).up b1)
    have HO1 := hide ((unhide HO2).below b1)
    obtain ⟨aQ, cQ, hq, hml⟩ := (unhide HO1).mls
    rw [unhide HN] at hq
    simp only [Value.slice.injEq, true_and] at hq
    obtain ⟨rfl, rfl⟩ := hq
    obtain ⟨gM, rfl, hrg⟩ := hml i _ (unhide HXI)
    have HRG : Hid (w1.rangeAt gM (i * 4) [.int .i64 xi, .int .i64 xf, .int .i64 xt, .string xx]) := hrg
    have hb1 := b1.size
    have hwz : w.heap.size + 2 ≤ w1.heap.size := by simp at hb1; omega
    have HWZ := hide hwz
    clear b1 hfi c0 c1 c2 cf hml hrg hb1 hwz
    go_wp2_with fail
    refine wp_region_rst [false, false, false, false, false, false, true, true, true, true, true, true, true] [] [] [20, 21, 22, 23, 5, 6] _ ?A9 (Fz B room pt pl (w.heap.size + 1)) (fun i v x => RA B room pt pi pe pl (w.heap.size + 1) (clsT i) v x) (fun i b x => i = 10 → ∃ g, b.eval (.tmp 4) = .pointer (some ⟨g, 0, none⟩) ∧ w.heap.size + 1 ≤ g ∧ Gd B room pt pl x g) (by kernel_rfl) (by kernel_rfl) (fun x y z h1 h2 => h1.trans h2) (fun x y h => Fz.of_below h) (fun j v x y h hf => h.stay hf) ?hT1 ?hT2 (Off.refl _ _) (by simp) ?lex (by simp) ?st ?fin
    case hT1 =>
      intro j bq x y h hf e
      obtain ⟨g, h1, h2, h3⟩ := h e
      exact ⟨g, h1, h2, hf.gd h3⟩
    case hT2 =>
      intro j o ho bq bq' x hop h e
      subst e
      simp only [List.getElem?_cons_succ, List.getElem?_cons_zero, Option.some.injEq] at ho
      subst ho
      obtain ⟨g, h1, h2⟩ := h rfl
      exact ⟨g, (hop 4 (by simp [Op.operands])).trans h1, h2⟩
    case lex =>
      intro z hz
      have hneX := gb_ne z
      have hlo := hz.low (by have := unhide HWZ; omega)
      obtain ⟨c0, c1, c2, cf⟩ := cells3 ((hlo.block _ (by omega)).trans (unhide P1).nb)
      have e0 : ∀ y : Gb z, y.w.cell? ⟨w.heap.size, 0, none⟩ = some (.int .i64 room) := fun y => gb_cell c0 y
      have e1 : ∀ y : Gb z, y.w.cell? ⟨w.heap.size, 1, none⟩ = some (.int .i64 last) := fun y => gb_cell c1 y
      have e2 : ∀ y : Gb z, y.w.cell? ⟨w.heap.size, 2, none⟩ = some (.slice (some ⟨gM, 0, none⟩) n cM) := fun y => gb_cell c2 y
      have hM : z.heap[gM]? = w1.heap[gM]? := mail_stays hz (unhide HO1) rfl (by have := unhide HN; omega)
      have hr2 : ∀ (j : Nat) (u : Value), [Value.int .i64 xi, .int .i64 xf, .int .i64 xt, .string xx][j]? = some u → z.cell? ⟨gM, i * 4 + j, none⟩ = some u := fun j u hu => (World.cell?_of_block (w := w1) (a := ⟨gM, i * 4 + j, none⟩) hM).trans (unhide HRG j u hu)
      have f0 : ∀ y : Gb z, y.w.cell? ⟨gM, i * 4, none⟩ = some (.int .i64 xi) := fun y => gb_cell (hr2 0 _ rfl) y
      have f1 : ∀ y : Gb z, y.w.cell? ⟨gM, i * 4 + 1, none⟩ = some (.int .i64 xf) := fun y => gb_cell (hr2 1 _ rfl) y
      have f2 : ∀ y : Gb z, y.w.cell? ⟨gM, i * 4 + 2, none⟩ = some (.int .i64 xt) := fun y => gb_cell (hr2 2 _ rfl) y
      have f3 : ∀ y : Gb z, y.w.cell? ⟨gM, i * 4 + 3, none⟩ = some (.string xx) := fun y => gb_cell (hr2 3 _ rfl) y
      clear hlo c0 c1 c2 cf hM hr2
      dsimp only [restM]
      repeat (go_big_quiet_step (fail))
      refine wpQuiet_nil ?_
      exact rfl
    case st =>
      intro j o ho hmj z bq hz hop
      have hj : j ∈ [6, 7, 8, 9, 10, 11, 12] := mask_in hmj
      simp only [List.mem_cons, List.not_mem_nil, or_false] at hj
      rcases hj with rfl | rfl | rfl | rfl | rfl | rfl | rfl
      all_goals
        simp only [List.getElem?_cons_succ, List.getElem?_cons_zero, Option.some.injEq] at ho
        subst ho
      · have y0 : bq.eval (.tmp 14) = .agg #[.int .i64 room, .int .i64 last, .slice (some ⟨gM, 0, none⟩) n cM] := hop 14 (by simp [Op.operands, Call.operands])
        have y1 : bq.eval (.tmp 19) = .agg #[.int .i64 xi, .int .i64 xf, .int .i64 xt, .string xx] := hop 19 (by simp [Op.operands, Call.operands])
        refine wp_call 29 #[.tmp 14, .tmp 19] _ rfl Try.call29 #[.agg #[.int .i64 room, .int .i64 last, .slice (some ⟨gM, 0, none⟩) n cM], .agg #[.int .i64 xi, .int .i64 xf, .int .i64 xt, .string xx]] (by simp [y0, y1]) (unhide hpx z (hz.own (unhide HO1)) (by have := unhide HWZ; have := hz.size; omega)) ?_
        rintro e w7 ⟨⟨v', rfl, ho⟩, b7⟩
        exact ⟨_, rfl, _, rfl, fun _ => ⟨v', rfl, ho⟩, fun h => (by cases h), Fz.of_below b7⟩
      · obtain ⟨v', y0, ho⟩ : ∃ v', bq.eval (.tmp 20) = .tuple #[dnV room pt v', .int .i64 pi, .int .i64 pe] ∧ OwnR z B v' pl := hop 20 (by simp [Op.operands])
        refine Oper.wp_mono ?_ (?_ : Oper.wp _ _ _ _ (fun b' w' => b' = bq.put (some 21) (dnV room pt v') ∧ w' = z) _)
        · rintro b' w' ⟨rfl, rfl⟩
          exact ⟨_, rfl, fun _ => ⟨v', rfl, ho⟩, fun h => (by cases h), Fz.of_below (Below.refl _ _)⟩
        · have y0' : bq.tmps[20]?.getD undef = .tuple #[dnV room pt v', .int .i64 pi, .int .i64 pe] := by simpa [Act.eval] using y0
          go_simp
      · obtain ⟨v', y0, ho⟩ : ∃ v', bq.eval (.tmp 20) = .tuple #[dnV room pt v', .int .i64 pi, .int .i64 pe] ∧ OwnR z B v' pl := hop 20 (by simp [Op.operands])
        refine Oper.wp_mono ?_ (?_ : Oper.wp _ _ _ _ (fun b' w' => b' = bq.put (some 22) (.int .i64 pi) ∧ w' = z) _)
        · rintro b' w' ⟨rfl, rfl⟩
          exact ⟨_, rfl, fun _ => rfl, fun h => (by cases h), Fz.of_below (Below.refl _ _)⟩
        · have y0' : bq.tmps[20]?.getD undef = .tuple #[dnV room pt v', .int .i64 pi, .int .i64 pe] := by simpa [Act.eval] using y0
          go_simp
      · obtain ⟨v', y0, ho⟩ : ∃ v', bq.eval (.tmp 20) = .tuple #[dnV room pt v', .int .i64 pi, .int .i64 pe] ∧ OwnR z B v' pl := hop 20 (by simp [Op.operands])
        refine Oper.wp_mono ?_ (?_ : Oper.wp _ _ _ _ (fun b' w' => b' = bq.put (some 23) (.int .i64 pe) ∧ w' = z) _)
        · rintro b' w' ⟨rfl, rfl⟩
          exact ⟨_, rfl, fun _ => rfl, fun h => (by cases h), Fz.of_below (Below.refl _ _)⟩
        · have y0' : bq.tmps[20]?.getD undef = .tuple #[dnV room pt v', .int .i64 pi, .int .i64 pe] := by simpa [Act.eval] using y0
          go_simp
      · have y0 : bq.eval (.tmp 4) = .pointer (some ⟨w.heap.size + 1, 0, none⟩) := hop 4 (by simp [Op.operands])
        obtain ⟨v', y1, ho⟩ : ∃ v', bq.eval (.tmp 21) = dnV room pt v' ∧ OwnR z B v' pl := hop 21 (by simp [Op.operands])
        have hzb : Zb z (w.heap.size + 1) := hz.zb ⟨_, (unhide P1).zb, rfl⟩
        obtain ⟨cs, hc, hcs⟩ := hzb
        have hst := fz_store (room := room) (pt := pt) (Nat.le_refl (w.heap.size + 1)) ⟨cs, hc, hcs⟩ ho
        have hoc : (#[.int .i64 room, .int .i64 pt, v'] : Array Value).all (·.oneCell') = true := by
          obtain ⟨av, cv, rfl, _⟩ := ho.mls
          simp [Value.oneCell']
        refine wp_store_row 28 (.tmp 4) (.tmp 21) rfl (w.heap.size + 1) #[.int .i64 room, .int .i64 pt, v'] y0 y1 28 cs hc (by kernel_rfl) hcs hoc ?_
        exact ⟨undef, rfl, fun h => absurd rfl h, fun _ _ => ⟨_, y0, Nat.le_refl _, hst.2⟩, hst.1⟩
      · have y0 : bq.eval (.tmp 22) = .int .i64 pi := hop 22 (by simp [Op.operands])
        refine Oper.wp_mono ?_ (?_ : Oper.wp _ _ _ _ (fun b' w' => b' = bq.put (some 5) (.int .i64 pi) ∧ w' = z) _)
        · rintro b' w' ⟨rfl, rfl⟩
          exact ⟨_, rfl, fun _ => rfl, fun h => (by cases h), Fz.of_below (Below.refl _ _)⟩
        · have y0' : bq.tmps[22]?.getD undef = .int .i64 pi := by simpa [Act.eval] using y0
          go_simp
      · have y0 : bq.eval (.tmp 23) = .int .i64 pe := hop 23 (by simp [Op.operands])
        refine Oper.wp_mono ?_ (?_ : Oper.wp _ _ _ _ (fun b' w' => b' = bq.put (some 6) (.int .i64 pe) ∧ w' = z) _)
        · rintro b' w' ⟨rfl, rfl⟩
          exact ⟨_, rfl, fun _ => rfl, fun h => (by cases h), Fz.of_below (Below.refl _ _)⟩
        · have y0' : bq.tmps[23]?.getD undef = .int .i64 pe := by simpa [Act.eval] using y0
          go_simp
    case fin =>
      intro bq z hz hoff hrel hT
      obtain ⟨g8, yg, hm8, hgd8⟩ := hT 10 _ rfl rfl rfl rfl
      have y5 : bq.eval (.tmp 5) = .int .i64 pi := hrel 11 _ 5 rfl rfl rfl
      have y6 : bq.eval (.tmp 6) = .int .i64 pe := hrel 12 _ 6 rfl rfl rfl
      have hall := Off.all _ _ hoff
      simp only [List.foldl_cons, List.foldl_nil] at hall
      rw [y5, y6] at hall
      have y4 : bq.eval (.tmp 4) = .pointer (some ⟨w.heap.size + 1, 0, none⟩) := by rw [hall]; rfl
      rw [y4] at yg
      simp only [Value.pointer.injEq, Option.some.injEq, Addr.mk.injEq, and_true] at yg
      subst yg
      obtain ⟨v', hc8, ho8⟩ := hgd8.ex
      generalize bq.eval (.tmp 20) = v20 at hall
      generalize bq.eval (.tmp 21) = v21 at hall
      generalize bq.eval (.tmp 22) = v22 at hall
      generalize bq.eval (.tmp 23) = v23 at hall
      rw [hall]
      have hbz : Below w.heap.size w z := (unhide P1).be.trans ((hz.low (by have := unhide HWZ; omega)).mono (by omega))
      have HBZ := hide hbz
      have HC8 := hide hc8
      have HO8 := hide ho8
      clear hall hrel hT hoff y5 y6 y4 hgd8 hc8 ho8 hbz hz
      simp only [Act.put, List.setIfInBounds_toArray, List.set_cons_succ, List.set_cons_zero]
      go_wp2
      exact ret_row3 (p := 4) (q := 5) (r := 6) (ty := 28) (by kernel_rfl) (w.heap.size + 1) 28 (dnC room pt v') (0, 0) _ _ _ rfl rfl rfl (unhide HC8) rfl Try.underlying28 (dn_info _ _ _) ⟨⟨_, rfl, unhide HO8⟩, unhide HBZ⟩
  · rw [h1] at hfi
    obtain ⟨t1, t2, t3, t4⟩ := tw_no (room := room) (last := last) h2
    rw [t1, t2, t3, t4]
    rw [hn] at hfi HO2 P0 ⊢
    obtain ⟨c0, c1, c2, cf⟩ := cells3 (unhide P0).nb
    have HI := hide (dn_info room last (.slice aM n cM))
    have HA := hide (dn_all (room := room) (last := last) (a0 := aM) (n := n) (c := cM))
    clear hO hO2 hp0 h1 h2 hn t1 t2 t3 t4 hpu
    go_enter Try.func18, Try.ntmps18
    go_wp2_with fail
    refine (unhide hfi).mono ?_
    rintro e w1 ⟨rfl, b1⟩
    have P1 := hide ((unhide P0).up b1)
    have Z1 := hide (unhide P1).zb
    have HO1 := hide ((unhide HO2).below b1)
    have HF : Hid (FsL w B (.slice aM n cM) rs (dnC room last (.slice aM n cM)) (w1.setRow (w.heap.size + 1) (dnC room last (.slice aM n cM)))) := ⟨((unhide P1).setz _).zb, ((unhide P1).setz _).be, ownR_row (unhide HO1) (unhide Z1) (by decide) _⟩
    clear b1 hfi c0 c1 c2 cf
    obtain ⟨c0, c1, c2, cf⟩ := cells3 (unhide P1).nb
    go_wp2_with (refine wpList_store_row_to rfl 28 (.tmp 4) (.tmp 13) rfl (w.heap.size + 1) (dnC room last (.slice aM n cM)) rfl rfl 28 zDn (unhide Z1) (unhide HI) rfl (unhide HA) (FsL w B (.slice aM n cM) rs (dnC room last (.slice aM n cM))) (unhide HF) ?_)
    intro w2 h2'
    have H2 := hide h2'
    clear h2'
    go_wp2
    exact ret_row3 (p := 4) (q := 5) (r := 6) (ty := 28) (by kernel_rfl) (w.heap.size + 1) 28 (dnC room last (.slice aM n cM)) (0, 0) _ _ _ rfl rfl rfl (unhide H2).zb rfl Try.underlying28 (unhide HI) ⟨⟨_, rfl, (unhide H2).o⟩, (unhide H2).be⟩
end Go.Proofs.Ytmnjngkdiinnfaa

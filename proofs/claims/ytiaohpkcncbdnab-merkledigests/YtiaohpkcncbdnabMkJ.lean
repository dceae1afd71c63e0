/- Contract of merkle's joined. -/
import Derived.Test.YtiaohpkcncbdnabMkC
import Derived.Test.YtiaohpkcncbdnabRegC
namespace Go.Proofs.Ytiaohpkcncbdnab
open Go.RowKit
set_option linter.unusedVariables false
variable {Bq : Nat}

theorem build_s1 (v : ByteArray) (w : World) : (Instr.buildSlice 22 1 #[(0, .string v)]).run Try.prog w = .ok (.slice (some ⟨w.heap.size, 0, none⟩) 1 1) (w.alloc (.cells #[.string v] 9)) := by
  go_simp
theorem build_ss3 (a b c : Option Addr) (l m n p q r : Nat) (w : World) : (Instr.buildSlice 94 3 #[(0, .slice a l p), (1, .slice b m q), (2, .slice c n r)]).run Try.prog w = .ok (.slice (some ⟨w.heap.size, 0, none⟩) 3 3) (w.alloc (.cells #[.slice a l p, .slice b m q, .slice c n r] 22)) := by
  go_simp
theorem fa_part1 (g : Nat) (w : World) : (Instr.fieldAt 49 (.pointer (some ⟨g, 0, none⟩)) 1).run Try.prog w = .ok (.pointer (some ⟨g, 1, none⟩)) w := by go_simp
theorem load_strs (p : Addr) (a : Option Addr) (l c : Nat) (w : World) (h : w.cell? p = some (.slice a l c)) : (Instr.loadAt 22 (.pointer (some p))).run Try.prog w = .ok (.slice a l c) w := by go_simp
section
variable {P : Program} {o : Oper} {a : Act} {w : World} {K : Act → World → Prop} {Q : Exit → Act → World → Prop}
theorem wp_build2 (t : TypeId) (x y : Operand) (ho : o.op = .build t #[(0, x), (1, y)]) (u v r : Value) (hx : a.eval x = u) (hy : a.eval y = v) (hr : ∀ w, (Instr.build t #[(0, u), (1, v)]).run P w = .ok r w) (h : K (a.put o.dst r) w) : o.wp P a w K Q := by
  refine wp_val _ ?_ h
  simp [execOp, ho, hx, hy, hr]
end
theorem build_part (v : ByteArray) (a : Option Addr) (l c : Nat) (w : World) : (Instr.build 49 #[(0, .string v), (1, .slice a l c)]).run Try.prog w = .ok (.agg #[.string v, .slice a l c]) w := by
  go_simp
theorem mheap3_c (w : World) (A B C : Obj) : (((w.alloc A).alloc B).alloc C).heap[w.heap.size + 1 + 1]? = some C := by
  have := heap_alloc_new ((w.alloc A).alloc B) C
  rwa [show ((w.alloc A).alloc B).heap.size = w.heap.size + 1 + 1 by simp] at this
theorem mheap3_b (w : World) (A B C : Obj) : (((w.alloc A).alloc B).alloc C).heap[w.heap.size + 1]? = some B := by
  rw [Below.heap_alloc _ _ _ (by simp)]
  have := heap_alloc_new (w.alloc A) B
  rwa [show (w.alloc A).heap.size = w.heap.size + 1 by simp] at this
theorem mheap3_a (w : World) (A B C : Obj) : (((w.alloc A).alloc B).alloc C).heap[w.heap.size]? = some A := by
  rw [Below.heap_alloc _ _ _ (by simp; omega), Below.heap_alloc _ _ _ (by simp)]
  exact heap_alloc_new _ _
theorem keptC {w : World} {g o b j : Nat} {u v : Value} (h : w.cell? ⟨g, o, none⟩ = some v) (hne : g ≠ b) : (w.setCell ⟨b, j, none⟩ u).cell? ⟨g, o, none⟩ = some v := by
  have hb := Below.heap_setCell w ⟨b, j, none⟩ u g hne
  unfold World.cell? at h ⊢
  simp only at h ⊢
  rw [hb]
  exact h
theorem there_row {w : World} {g : Nat} {Z : Array Value} {t : TypeId} (h : w.heap[g]? = some (.cells Z t (0, 0))) : w.there g 0 Z.size := fun j hj => by
  rw [Nat.zero_add, cell_of_row w g j Z t (0, 0) h, Array.getElem?_eq_getElem hj]
  exact ⟨rfl, frozen_of_row w g j Z t h⟩

/-- the lists that are put together -/
def jT (tl tr : List By) (tx : By) (i : Nat) : List By := if i = 0 then tl else if i = 1 then tr else [tx]
theorem jT_cat (tl tr : List By) (tx : By) : catN (jT tl tr tx) 3 = tl ++ tr ++ [tx] := by simp [catN, jT]

/-- what holds within the region, ahead of its store -/
structure Mid (Bq : Nat) (W : World) (tl tr : List By) (tx : By) (D : ByteArray) (f : Nat → Bool) (a : Act) (wx : World) : Prop where
  below : Below W.heap.size W wx
  j7 : f 7 = true → ∃ g, a.eval (.tmp 18) = .slice (some ⟨g, 0, none⟩) 1 1 ∧ Strs Bq wx (some ⟨g, 0, none⟩) [tx] 1
  j8 : f 8 = true → ∃ (g : Nat) (Af : Nat → Option Addr) (Cf : Nat → Nat), a.eval (.tmp 19) = .slice (some ⟨g, 0, none⟩) 3 3 ∧ ∀ i, i < 3 → wx.cell? ⟨g, i, none⟩ = some (.slice (Af i) (jT tl tr tx i).length (Cf i)) ∧ Strs Bq wx (Af i) (jT tl tr tx i) (Cf i)
  j9 : f 9 = true → ∃ a0 c, a.eval (.tmp 20) = .slice a0 (tl ++ tr ++ [tx]).length c ∧ Strs Bq wx a0 (tl ++ tr ++ [tx]) c ∧ (tl ++ tr ++ [tx]).length ≤ c
  j10 : f 10 = true → ∃ a0 c, a.eval (.tmp 21) = .agg #[.string D, .slice a0 (tl ++ tr ++ [tx]).length c] ∧ Strs Bq wx a0 (tl ++ tr ++ [tx]) c ∧ (tl ++ tr ++ [tx]).length ≤ c
theorem Mid.put {W : World} {tl tr : List By} {tx : By} {D : ByteArray} {f : Nat → Bool} {a : Act} {wx : World} (h : Mid Bq W tl tr tx D f a wx) (i d : Nat) (v : Value) (hi : i < 7) (hd : d < 18) : Mid Bq W tl tr tx D (upd f i) (a.put (some d) v) wx := by
  refine ⟨h.below, fun h7 => ?_, fun h8 => ?_, fun h9 => ?_, fun h10 => ?_⟩
  · obtain ⟨g, e, r⟩ := h.j7 (by unfold upd at h7; rw [if_neg (by omega)] at h7; exact h7)
    exact ⟨g, (eval_put_ne a d 18 v (by omega)).trans e, r⟩
  · obtain ⟨g, Af, Cf, e, r⟩ := h.j8 (by unfold upd at h8; rw [if_neg (by omega)] at h8; exact h8)
    exact ⟨g, Af, Cf, (eval_put_ne a d 19 v (by omega)).trans e, r⟩
  · obtain ⟨a0, c, e, r⟩ := h.j9 (by unfold upd at h9; rw [if_neg (by omega)] at h9; exact h9)
    exact ⟨a0, c, (eval_put_ne a d 20 v (by omega)).trans e, r⟩
  · obtain ⟨a0, c, e, r⟩ := h.j10 (by unfold upd at h10; rw [if_neg (by omega)] at h10; exact h10)
    exact ⟨a0, c, (eval_put_ne a d 21 v (by omega)).trans e, r⟩
theorem Mid.grow {W : World} {tl tr : List By} {tx : By} {D : ByteArray} {f : Nat → Bool} {a : Act} {wx wy : World} (h : Mid Bq W tl tr tx D f a wx) (hb : Below wx.heap.size wx wy) : Mid Bq W tl tr tx D f a wy := by
  refine ⟨h.below.trans (hb.mono h.below.size), fun h7 => ?_, fun h8 => ?_, fun h9 => ?_, fun h10 => ?_⟩
  · obtain ⟨g, e, r⟩ := h.j7 h7
    exact ⟨g, e, r.below hb⟩
  · obtain ⟨g, Af, Cf, e, r⟩ := h.j8 h8
    exact ⟨g, Af, Cf, e, fun i hi => ⟨cell_below (r i hi).1 hb, (r i hi).2.below hb⟩⟩
  · obtain ⟨a0, c, e, r, l⟩ := h.j9 h9
    exact ⟨a0, c, e, r.below hb, l⟩
  · obtain ⟨a0, c, e, r, l⟩ := h.j10 h10
    exact ⟨a0, c, e, r.below hb, l⟩
/-- a slot of the region's later operations is put -/
theorem Mid.late {W : World} {tl tr : List By} {tx : By} {D : ByteArray} {f : Nat → Bool} {a : Act} {wx : World} (h : Mid Bq W tl tr tx D f a wx) (i d : Nat) (v : Value) (hd : d = i + 11) (hi : 7 ≤ i ∧ i ≤ 10)
    (h7 : i = 7 → ∃ g, v = .slice (some ⟨g, 0, none⟩) 1 1 ∧ Strs Bq wx (some ⟨g, 0, none⟩) [tx] 1)
    (h8 : i = 8 → ∃ (g : Nat) (Af : Nat → Option Addr) (Cf : Nat → Nat), v = .slice (some ⟨g, 0, none⟩) 3 3 ∧ ∀ i, i < 3 → wx.cell? ⟨g, i, none⟩ = some (.slice (Af i) (jT tl tr tx i).length (Cf i)) ∧ Strs Bq wx (Af i) (jT tl tr tx i) (Cf i))
    (h9 : i = 9 → ∃ a0 c, v = .slice a0 (tl ++ tr ++ [tx]).length c ∧ Strs Bq wx a0 (tl ++ tr ++ [tx]) c ∧ (tl ++ tr ++ [tx]).length ≤ c)
    (h10 : i = 10 → ∃ a0 c, v = .agg #[.string D, .slice a0 (tl ++ tr ++ [tx]).length c] ∧ Strs Bq wx a0 (tl ++ tr ++ [tx]) c ∧ (tl ++ tr ++ [tx]).length ≤ c)
    (hsz : a.tmps.size = 22) : Mid Bq W tl tr tx D (upd f i) (a.put (some d) v) wx := by
  subst hd
  refine ⟨h.below, fun q => ?_, fun q => ?_, fun q => ?_, fun q => ?_⟩
  · by_cases e : i = 7
    · subst e
      obtain ⟨g, e, r⟩ := h7 rfl
      exact ⟨g, (eval_put_same a 18 v (by omega)).trans e, r⟩
    · obtain ⟨g, e, r⟩ := h.j7 (by unfold upd at q; rw [if_neg (by omega)] at q; exact q)
      exact ⟨g, (eval_put_ne a (i + 11) 18 v (by omega)).trans e, r⟩
  · by_cases e : i = 8
    · subst e
      obtain ⟨g, Af, Cf, e, r⟩ := h8 rfl
      exact ⟨g, Af, Cf, (eval_put_same a 19 v (by omega)).trans e, r⟩
    · obtain ⟨g, Af, Cf, e, r⟩ := h.j8 (by unfold upd at q; rw [if_neg (by omega)] at q; exact q)
      exact ⟨g, Af, Cf, (eval_put_ne a (i + 11) 19 v (by omega)).trans e, r⟩
  · by_cases e : i = 9
    · subst e
      obtain ⟨a0, c, e, r⟩ := h9 rfl
      exact ⟨a0, c, (eval_put_same a 20 v (by omega)).trans e, r⟩
    · obtain ⟨a0, c, e, r⟩ := h.j9 (by unfold upd at q; rw [if_neg (by omega)] at q; exact q)
      exact ⟨a0, c, (eval_put_ne a (i + 11) 20 v (by omega)).trans e, r⟩
  · by_cases e : i = 10
    · subst e
      obtain ⟨a0, c, e, r⟩ := h10 rfl
      exact ⟨a0, c, (eval_put_same a 21 v (by omega)).trans e, r⟩
    · obtain ⟨a0, c, e, r⟩ := h.j10 (by unfold upd at q; rw [if_neg (by omega)] at q; exact q)
      exact ⟨a0, c, (eval_put_ne a (i + 11) 21 v (by omega)).trans e, r⟩

set_option maxRecDepth 100000 in
set_option maxHeartbeats 2000000 in
theorem joined_any (p q : Prt) (vl vr : Value) (w : World) (hBq : Bq ≤ w.heap.size) (hp : PartIs Bq w vl p) (hq : PartIs Bq w vr q) (h1 : p.1.length ≤ 32000) (h2 : q.1.length ≤ 32000) (h3 : 1 ≤ p.2.length) (h4 : 1 ≤ q.2.length) (h5 : p.2.length + q.2.length ≤ 99000) :
    Calls Try.prog 46 #[vl, vr] w fun e w' => ∃ v, e = .returned v ∧ PartIs Bq w' v (joinP shaSum p q) ∧ Below w.heap.size w w' := by
  obtain ⟨al, cl, rfl, hsl, hcl⟩ := hp
  obtain ⟨ar, cr, rfl, hsr, hcr⟩ := hq
  obtain ⟨rl, tl⟩ := p
  obtain ⟨rr, tr⟩ := q
  simp only at h1 h2 h3 h4 h5 hsl hsr hcl hcr
  show Calls _ _ #[.agg #[.string (bs rl), .slice al tl.length cl], .agg #[.string (bs rr), .slice ar tr.length cr]] _ _
  have hk := hide (fun w => knotText_any rl rr w h1 h2)
  have hs := hide (fun w => msum_any (knotT rl rr) w (by simp [knotT]; omega))
  have hcc := hide (fun w gz cz Af Cf (hrow : ∀ i, i < 3 → w.cell? ⟨gz, i, none⟩ = some (.slice (Af i) (jT tl tr (knotT rl rr) i).length (Cf i)) ∧ Strs Bq w (Af i) (jT tl tr (knotT rl rr) i) (Cf i)) =>
    concat_any w gz 3 cz (jT tl tr (knotT rl rr)) Af Cf (by omega) (by omega) (fun i hi => by unfold jT; by_cases e0 : i = 0 <;> by_cases e1 : i = 1 <;> simp [e0, e1] <;> omega) (by rw [jT_cat]; simp; omega) hrow)
  rw [jT_cat] at hcc
  have hjp : Hid (joinP shaSum (rl, tl) (rr, tr) = (shaSum (knotT rl rr), tl ++ tr ++ [knotT rl rr])) := rfl
  generalize bs rl = Bl at *
  generalize bs rr = Br at *
  generalize hD : bs (shaSum (knotT rl rr)) = D at *
  generalize hTX : bs (knotT rl rr) = TX at *
  have HD := hide hD
  have HTX := hide hTX
  clear hD hTX
  generalize knotT rl rr = tx at *
  have HBq := hide hBq
  clear hBq
  have HSL := hide hsl
  have HSR := hide hsr
  clear hsl hsr
  go_enter Try.func46, Try.ntmps46
  go_wp2_with fail
  refine (unhide hk _).mono ?_
  rintro e w1 ⟨rfl, rfl⟩
  go_wp2_with fail
  generalize hW : World.alloc _ _ = W
  have r0 : W.heap[w.heap.size]? = some (.cells #[.string Bl, .slice al tl.length cl] 49 (0, 0)) := by rw [← hW]; exact mheap3_a _ _ _ _
  have r1 : W.heap[w.heap.size + 1]? = some (.cells #[.string Br, .slice ar tr.length cr] 49 (0, 0)) := by rw [← hW]; exact mheap3_b _ _ _ _
  have r2 : W.heap[w.heap.size + 1 + 1]? = some (.cells #[.string ⟨#[]⟩, .slice none 0 0] 49 (0, 0)) := by rw [← hW]; exact mheap3_c _ _ _ _
  have bW : Below w.heap.size w W := by rw [← hW]; exact (((Below.refl _ _).alloc (Nat.le_refl _) _).alloc (by simp) _).alloc (by simp; omega) _
  have cl1 := cell1_of_two r0
  have cr1 := cell1_of_two r1
  have HSL' := hide ((unhide HSL).below bW)
  have HSR' := hide ((unhide HSR).below bW)
  clear hW
  generalize hA : Act.mk _ _ = A
  have hA2 : A.eval (.tmp 2) = .pointer (some ⟨w.heap.size, 0, none⟩) := by rw [← hA]; rfl
  have hA3 : A.eval (.tmp 3) = .pointer (some ⟨w.heap.size + 1, 0, none⟩) := by rw [← hA]; rfl
  have hA4 : A.eval (.tmp 4) = .pointer (some ⟨w.heap.size + 1 + 1, 0, none⟩) := by rw [← hA]; rfl
  have hA5 : A.eval (.tmp 5) = .string TX := by rw [← hA]; rfl
  have hAs : A.tmps.size = 22 := by rw [← hA]; rfl
  have hAd : A.defers = [] := by rw [← hA]
  obtain ⟨V, hVe⟩ : ∃ V : List (Nat × Nat × Value), V = [(0, 11, .string TX), (1, 12, .string D), (2, 13, .pointer (some ⟨w.heap.size, 1, none⟩)), (3, 14, .slice al tl.length cl), (4, 15, .pointer (some ⟨w.heap.size + 1, 1, none⟩)), (5, 16, .slice ar tr.length cr), (6, 17, .string TX)] := ⟨_, rfl⟩
  refine wp_region_invB0 (by kernel_rfl) (by kernel_rfl) (by kernel_rfl) (fun f a wx => Off [11, 12, 13, 14, 15, 16, 17, 18, 19, 20, 21] A a ∧ ValsOk V f a ∧ (f 11 = true → ∀ j, j < 11 → f j = true) ∧ (f 11 = false → Mid Bq W tl tr tx D f a wx) ∧ (f 11 = true → ∃ a0 c, wx.heap[w.heap.size + 1 + 1]? = some (.cells #[.string D, .slice a0 (tl ++ tr ++ [tx]).length c] 49 (0, 0)) ∧ Strs Bq wx a0 (tl ++ tr ++ [tx]) c ∧ (tl ++ tr ++ [tx]).length ≤ c ∧ Below w.heap.size w wx)) ?start ?step ?fin
  case start => exact ⟨Off.refl _ _, vals_start _ _, by simp, fun _ => ⟨(Below.refl _ _).drew, by simp, by simp, by simp, by simp⟩, by simp⟩
  case step =>
    rintro f a wx i o ⟨hoff, hV, hm, n0, n1⟩ ho hfi hdep
    have has : a.tmps.size = 22 := hoff.size.trans hAs
    have hv := fun (i d : Nat) (v : Value) (hm : (i, d, v) ∈ V) (hf : f i = true) => hV (i, d, v) hm hf
    rcases i with _ | _ | _ | _ | _ | _ | _ | _ | _ | _ | _ | _ | i
    · obtain rfl := Option.some.inj ho
      have f11 : f 11 = false := by
        cases hf : f 11 with
        | false => rfl
        | true => exact absurd (hm hf 0 (by omega)) (by rw [hfi]; simp)
      have hmd := n0 f11
      refine wp_move (.tmp 5) rfl ?_
      rw [hoff.eval 5 (by simp), hA5]
      exact ⟨hoff.put 11 _ (by simp), vals_put hV 0 11 _ (by omega) (by rw [hVe]; simp) (by rw [hVe]; simp), fun h => absurd h (by show ¬ f 11 = true; rw [f11]; simp), fun _ => hmd.put 0 11 _ (by omega) (by omega), fun h => absurd h (by show ¬ f 11 = true; rw [f11]; simp)⟩
    · obtain rfl := Option.some.inj ho
      have f11 : f 11 = false := by
        cases hf : f 11 with
        | false => rfl
        | true => exact absurd (hm hf 1 (by omega)) (by rw [hfi]; simp)
      have hmd := n0 f11
      have d0 : f 0 = true := hdep ⟨0, .data⟩ (by simp) rfl
      refine wp_call 22 #[.tmp 11] #[9] rfl Try.call22 #[.string TX] (by simp [(hv 0 11 (.string TX) (by rw [hVe]; simp) d0)]) (unhide hs wx) ?_
      rintro e w3 ⟨rfl, hb3⟩
      exact ⟨_, rfl, hoff.put 12 _ (by simp), vals_put hV 1 12 _ (by omega) (by rw [hVe]; simp) (by rw [hVe]; simp), fun h => absurd h (by show ¬ f 11 = true; rw [f11]; simp), fun _ => (hmd.grow hb3).put 1 12 _ (by omega) (by omega), fun h => absurd h (by show ¬ f 11 = true; rw [f11]; simp)⟩
    · obtain rfl := Option.some.inj ho
      have f11 : f 11 = false := by
        cases hf : f 11 with
        | false => rfl
        | true => exact absurd (hm hf 2 (by omega)) (by rw [hfi]; simp)
      have hmd := n0 f11
      refine wp_field 49 (.tmp 2) 1 rfl ⟨w.heap.size, 0, none⟩ ⟨w.heap.size, 1, none⟩ ((hoff.eval 2 (by simp)).trans hA2) (fa_part1 _) ?_
      exact ⟨hoff.put 13 _ (by simp), vals_put hV 2 13 _ (by omega) (by rw [hVe]; simp) (by rw [hVe]; simp), fun h => absurd h (by show ¬ f 11 = true; rw [f11]; simp), fun _ => hmd.put 2 13 _ (by omega) (by omega), fun h => absurd h (by show ¬ f 11 = true; rw [f11]; simp)⟩
    · obtain rfl := Option.some.inj ho
      have f11 : f 11 = false := by
        cases hf : f 11 with
        | false => rfl
        | true => exact absurd (hm hf 3 (by omega)) (by rw [hfi]; simp)
      have hmd := n0 f11
      have d2 : f 2 = true := hdep ⟨2, .data⟩ (by simp) rfl
      refine wp_load1 22 (.tmp 13) rfl _ (.slice al tl.length cl) (hv 2 13 (.pointer (some ⟨w.heap.size, 1, none⟩)) (by rw [hVe]; simp) d2) (load_strs _ _ _ _ _ (cell_below cl1 hmd.below)) ?_
      exact ⟨hoff.put 14 _ (by simp), vals_put hV 3 14 _ (by omega) (by rw [hVe]; simp) (by rw [hVe]; simp), fun h => absurd h (by show ¬ f 11 = true; rw [f11]; simp), fun _ => hmd.put 3 14 _ (by omega) (by omega), fun h => absurd h (by show ¬ f 11 = true; rw [f11]; simp)⟩
    · obtain rfl := Option.some.inj ho
      have f11 : f 11 = false := by
        cases hf : f 11 with
        | false => rfl
        | true => exact absurd (hm hf 4 (by omega)) (by rw [hfi]; simp)
      have hmd := n0 f11
      refine wp_field 49 (.tmp 3) 1 rfl ⟨w.heap.size + 1, 0, none⟩ ⟨w.heap.size + 1, 1, none⟩ ((hoff.eval 3 (by simp)).trans hA3) (fa_part1 _) ?_
      exact ⟨hoff.put 15 _ (by simp), vals_put hV 4 15 _ (by omega) (by rw [hVe]; simp) (by rw [hVe]; simp), fun h => absurd h (by show ¬ f 11 = true; rw [f11]; simp), fun _ => hmd.put 4 15 _ (by omega) (by omega), fun h => absurd h (by show ¬ f 11 = true; rw [f11]; simp)⟩
    · obtain rfl := Option.some.inj ho
      have f11 : f 11 = false := by
        cases hf : f 11 with
        | false => rfl
        | true => exact absurd (hm hf 5 (by omega)) (by rw [hfi]; simp)
      have hmd := n0 f11
      have d4 : f 4 = true := hdep ⟨4, .data⟩ (by simp) rfl
      refine wp_load1 22 (.tmp 15) rfl _ (.slice ar tr.length cr) (hv 4 15 (.pointer (some ⟨w.heap.size + 1, 1, none⟩)) (by rw [hVe]; simp) d4) (load_strs _ _ _ _ _ (cell_below cr1 hmd.below)) ?_
      exact ⟨hoff.put 16 _ (by simp), vals_put hV 5 16 _ (by omega) (by rw [hVe]; simp) (by rw [hVe]; simp), fun h => absurd h (by show ¬ f 11 = true; rw [f11]; simp), fun _ => hmd.put 5 16 _ (by omega) (by omega), fun h => absurd h (by show ¬ f 11 = true; rw [f11]; simp)⟩
    · obtain rfl := Option.some.inj ho
      have f11 : f 11 = false := by
        cases hf : f 11 with
        | false => rfl
        | true => exact absurd (hm hf 6 (by omega)) (by rw [hfi]; simp)
      have hmd := n0 f11
      refine wp_move (.tmp 5) rfl ?_
      rw [hoff.eval 5 (by simp), hA5]
      exact ⟨hoff.put 17 _ (by simp), vals_put hV 6 17 _ (by omega) (by rw [hVe]; simp) (by rw [hVe]; simp), fun h => absurd h (by show ¬ f 11 = true; rw [f11]; simp), fun _ => hmd.put 6 17 _ (by omega) (by omega), fun h => absurd h (by show ¬ f 11 = true; rw [f11]; simp)⟩
    · obtain rfl := Option.some.inj ho
      have f11 : f 11 = false := by
        cases hf : f 11 with
        | false => rfl
        | true => exact absurd (hm hf 7 (by omega)) (by rw [hfi]; simp)
      have hmd := n0 f11
      have d6 : f 6 = true := hdep ⟨6, .data⟩ (by simp) rfl
      refine wp_buildR 22 1 #[(0, .tmp 17)] rfl #[(0, .string TX)] (by simp [(hv 6 17 (.string TX) (by rw [hVe]; simp) d6)]) _ _ (build_s1 TX wx) ?_
      have hal : Below wx.heap.size wx (wx.alloc (.cells #[.string TX] 9)) := (Below.refl _ _).alloc (Nat.le_refl _) _
      have hst : Strs Bq (wx.alloc (.cells #[.string TX] 9)) (some ⟨wx.heap.size, 0, none⟩) [tx] 1 := fun q hq => by
        have hq0 : q = 0 := by simp at hq; omega
        subst hq0
        refine ⟨wx.heap.size, 0, rfl, ?_, _, _, heap_alloc_new wx (.cells #[.string TX] 9), rfl, by have h1 := unhide HBq; have h2 := hmd.below.size; have h3 := bW.size; omega, rfl, rfl, by unfold maxLen; omega⟩
        rw [cell_of_row _ _ _ _ _ _ (heap_alloc_new wx (.cells #[.string TX] 9))]
        simp [unhide HTX]
      exact ⟨hoff.put 18 _ (by simp), vals_put hV 7 18 _ (by omega) (by rw [hVe]; simp) (by rw [hVe]; simp), fun h => absurd h (by show ¬ f 11 = true; rw [f11]; simp), fun _ => (hmd.grow hal).late 7 18 _ rfl (by omega) (fun _ => ⟨_, rfl, hst⟩) (fun h => by omega) (fun h => by omega) (fun h => by omega) has, fun h => absurd h (by show ¬ f 11 = true; rw [f11]; simp)⟩
    · obtain rfl := Option.some.inj ho
      have f11 : f 11 = false := by
        cases hf : f 11 with
        | false => rfl
        | true => exact absurd (hm hf 8 (by omega)) (by rw [hfi]; simp)
      have hmd := n0 f11
      have d3 : f 3 = true := hdep ⟨3, .data⟩ (by simp) rfl
      have d5 : f 5 = true := hdep ⟨5, .data⟩ (by simp) rfl
      have d7 : f 7 = true := hdep ⟨7, .data⟩ (by simp) rfl
      obtain ⟨g7, e7, s7⟩ := hmd.j7 d7
      refine wp_buildR 94 3 #[(0, .tmp 14), (1, .tmp 16), (2, .tmp 18)] rfl #[(0, .slice al tl.length cl), (1, .slice ar tr.length cr), (2, .slice (some ⟨g7, 0, none⟩) 1 1)] (by simp [(hv 3 14 (.slice al tl.length cl) (by rw [hVe]; simp) d3), (hv 5 16 (.slice ar tr.length cr) (by rw [hVe]; simp) d5), e7]) _ _ (build_ss3 al ar (some ⟨g7, 0, none⟩) tl.length tr.length 1 cl cr 1 wx) ?_
      have hal : Below wx.heap.size wx (wx.alloc (.cells #[.slice al tl.length cl, .slice ar tr.length cr, .slice (some ⟨g7, 0, none⟩) 1 1] 22)) := (Below.refl _ _).alloc (Nat.le_refl _) _
      have hrw : ∀ i, i < 3 → (wx.alloc (.cells #[.slice al tl.length cl, .slice ar tr.length cr, .slice (some ⟨g7, 0, none⟩) 1 1] 22)).cell? ⟨wx.heap.size, i, none⟩ = some (.slice ((fun i => if i = 0 then al else if i = 1 then ar else some ⟨g7, 0, none⟩) i) (jT tl tr tx i).length ((fun i => if i = 0 then cl else if i = 1 then cr else 1) i)) ∧ Strs Bq (wx.alloc (.cells #[.slice al tl.length cl, .slice ar tr.length cr, .slice (some ⟨g7, 0, none⟩) 1 1] 22)) ((fun i => if i = 0 then al else if i = 1 then ar else some ⟨g7, 0, none⟩) i) (jT tl tr tx i) ((fun i => if i = 0 then cl else if i = 1 then cr else 1) i) := fun i hi => by
        rw [cell_of_row _ _ _ _ _ _ (heap_alloc_new wx (.cells #[.slice al tl.length cl, .slice ar tr.length cr, .slice (some ⟨g7, 0, none⟩) 1 1] 22))]
        have bb := hmd.below.trans (hal.mono hmd.below.size)
        rcases (show i = 0 ∨ i = 1 ∨ i = 2 by omega) with rfl | rfl | rfl
        · exact ⟨rfl, (unhide HSL').below bb⟩
        · exact ⟨rfl, (unhide HSR').below bb⟩
        · exact ⟨rfl, s7.below hal⟩
      exact ⟨hoff.put 19 _ (by simp), vals_put hV 8 19 _ (by omega) (by rw [hVe]; simp) (by rw [hVe]; simp), fun h => absurd h (by show ¬ f 11 = true; rw [f11]; simp), fun _ => (hmd.grow hal).late 8 19 _ rfl (by omega) (fun h => by omega) (fun _ => ⟨_, _, _, rfl, hrw⟩) (fun h => by omega) (fun h => by omega) has, fun h => absurd h (by show ¬ f 11 = true; rw [f11]; simp)⟩
    · obtain rfl := Option.some.inj ho
      have f11 : f 11 = false := by
        cases hf : f 11 with
        | false => rfl
        | true => exact absurd (hm hf 9 (by omega)) (by rw [hfi]; simp)
      have hmd := n0 f11
      have d8 : f 8 = true := hdep ⟨8, .data⟩ (by simp) rfl
      obtain ⟨g8, Af, Cf, e8, r8⟩ := hmd.j8 d8
      refine wp_call 48 #[.tmp 19] #[94] rfl Try.call48 #[.slice (some ⟨g8, 0, none⟩) 3 3] (by simp [e8]) (unhide hcc wx g8 3 Af Cf r8) ?_
      rintro e w3 ⟨a0, c, rfl, hs3, hl3, hb3⟩
      exact ⟨_, rfl, hoff.put 20 _ (by simp), vals_put hV 9 20 _ (by omega) (by rw [hVe]; simp) (by rw [hVe]; simp), fun h => absurd h (by show ¬ f 11 = true; rw [f11]; simp), fun _ => (hmd.grow hb3).late 9 20 _ rfl (by omega) (fun h => by omega) (fun h => by omega) (fun _ => ⟨_, _, rfl, hs3.lower (by have h1 := unhide HBq; have h2 := hmd.below.size; have h3 := bW.size; omega), hl3⟩) (fun h => by omega) has, fun h => absurd h (by show ¬ f 11 = true; rw [f11]; simp)⟩
    · obtain rfl := Option.some.inj ho
      have f11 : f 11 = false := by
        cases hf : f 11 with
        | false => rfl
        | true => exact absurd (hm hf 10 (by omega)) (by rw [hfi]; simp)
      have hmd := n0 f11
      have d1 : f 1 = true := hdep ⟨1, .data⟩ (by simp) rfl
      have d9 : f 9 = true := hdep ⟨9, .data⟩ (by simp) rfl
      obtain ⟨a0, c, e9, s9, l9⟩ := hmd.j9 d9
      refine wp_build2 49 (.tmp 12) (.tmp 20) rfl _ _ _ (hv 1 12 (.string D) (by rw [hVe]; simp) d1) e9 (build_part D a0 _ c) ?_
      exact ⟨hoff.put 21 _ (by simp), vals_put hV 10 21 _ (by omega) (by rw [hVe]; simp) (by rw [hVe]; simp), fun h => absurd h (by show ¬ f 11 = true; rw [f11]; simp), fun _ => hmd.late 10 21 _ rfl (by omega) (fun h => by omega) (fun h => by omega) (fun h => by omega) (fun _ => ⟨_, _, rfl, s9, l9⟩) has, fun h => absurd h (by show ¬ f 11 = true; rw [f11]; simp)⟩
    · obtain rfl := Option.some.inj ho
      have hmd := n0 hfi
      have d10 : f 10 = true := hdep ⟨10, .data⟩ (by simp) rfl
      obtain ⟨a0, c, e10, s10, l10⟩ := hmd.j10 d10
      have rz : wx.heap[w.heap.size + 1 + 1]? = some (.cells #[.string ⟨#[]⟩, .slice none 0 0] 49 (0, 0)) := (hmd.below.block _ (lt_of_block r2)).trans r2
      refine wp_store_mid 49 (.tmp 4) (.tmp 21) rfl (w.heap.size + 1 + 1) 0 #[.string D, .slice a0 (tl ++ tr ++ [tx]).length c] ((hoff.eval 4 (by simp)).trans hA4) e10 (by have h := there_row rz; exact h) (by kernel_rfl) (all_oneCell_toArray (by intro u hu; simp at hu; rcases hu with rfl | rfl <;> rfl)) ?_
      have hset : wx.setCells (w.heap.size + 1 + 1) 0 (#[.string D, .slice a0 (tl ++ tr ++ [tx]).length c] : Array Value).toList = (wx.setCell ⟨w.heap.size + 1 + 1, 0, none⟩ (.string D)).setCell ⟨w.heap.size + 1 + 1, 1, none⟩ (.slice a0 (tl ++ tr ++ [tx]).length c) := rfl
      rw [hset]
      have hne : ∀ g o, a0 = some ⟨g, o, none⟩ → g ≠ w.heap.size + 1 + 1 := fun g o hg he => by
        obtain ⟨g', o', h1, h2, cur, fr, h3, _⟩ := s10 0 (by simp; omega)
        rw [hg] at h1
        simp only [Option.some.injEq, Addr.mk.injEq] at h1
        obtain ⟨rfl, rfl, _⟩ := h1
        rw [he, rz] at h3
        simp at h3
      refine ⟨hoff, vals_none hV 11 _ (by rw [hVe]; simp), fun _ j hj => ?_, fun h => by simp [upd] at h, fun _ => ⟨a0, c, set_row (set_row rz 0 _) 1 _, ?_, l10, ?_⟩⟩
      · have : ∀ j, j < 11 → f j = true := fun j hj => by
          rcases (show j = 0 ∨ j = 1 ∨ j = 2 ∨ j = 3 ∨ j = 4 ∨ j = 5 ∨ j = 6 ∨ j = 7 ∨ j = 8 ∨ j = 9 ∨ j = 10 by omega) with rfl | rfl | rfl | rfl | rfl | rfl | rfl | rfl | rfl | rfl | rfl
          all_goals exact hdep ⟨_, .phase⟩ (by simp) rfl
        unfold upd
        split
        · rfl
        · exact this j hj
      · intro i hi
        obtain ⟨g, o, h1, h2, cur, fr, h3, h9⟩ := s10 i hi
        have hx := hne g o h1
        exact ⟨g, o, h1, keptC (keptC h2 hx) hx, cur, fr, (Below.heap_setCell _ ⟨w.heap.size + 1 + 1, 1, none⟩ _ _ hx).trans ((Below.heap_setCell _ ⟨w.heap.size + 1 + 1, 0, none⟩ _ _ hx).trans h3), h9⟩
      · exact ((bW.trans (hmd.below.mono bW.size)).setCell (by simp; omega) _).setCell (by simp; omega) _
    · simp at ho
  case fin =>
    rintro f a wx ⟨hoff, hV, hm, n0, n1⟩ hall
    obtain ⟨a0, c, h1, h2, h3, h4⟩ := n1 (hall 11 (by decide))
    have e := Off.all _ _ hoff
    simp only [List.foldl_cons, List.foldl_nil] at e
    rw [← hA] at e
    generalize a.eval (.tmp 11) = y11, a.eval (.tmp 12) = y12, a.eval (.tmp 13) = y13, a.eval (.tmp 14) = y14, a.eval (.tmp 15) = y15, a.eval (.tmp 16) = y16, a.eval (.tmp 17) = y17, a.eval (.tmp 18) = y18, a.eval (.tmp 19) = y19, a.eval (.tmp 20) = y20, a.eval (.tmp 21) = y21 at e
    simp only [Act.put, List.setIfInBounds_toArray, List.set_cons_succ, List.set_cons_zero] at e
    subst e
    have H1 := hide h1
    have H2 := hide h2
    have H3 := hide h3
    have H4 := hide h4
    clear h1 h2 h3 h4 hV hm n0 n1 hall hoff hA hA2 hA3 hA4 hA5 hVe
    go_wp2
    refine ret_cell rfl (w.heap.size + 1 + 1) 49 #[.string D, .slice a0 (tl ++ tr ++ [tx]).length c] (0, 0) _ rfl (unhide H1) rfl Try.underlying49 (by kernel_rfl) ⟨_, rfl, ?_, unhide H4⟩
    rw [unhide hjp]
    exact ⟨a0, c, by rw [unhide HD], unhide H2, unhide H3⟩

end Go.Proofs.Ytiaohpkcncbdnab

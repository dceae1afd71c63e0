/- meter: a turn of a peer. -/
import Derived.Test.YtlmmincpjflkdaaMeC
import Derived.ScopeJumps
namespace Go.Proofs.Ytlmmincpjflkdaa
open Go.RowKit
set_option linter.unusedVariables false
attribute [local go_sem] Oper.semAt_some

theorem wp_scope_pass {P : Program} {a : Act} {w : World} {Q : Exit → Act → World → Prop} {c rest : Code} (l : Nat) (J : Act → World → Prop) (μ : Act → World → Nat) (hf : findLabel c l = some (Code.skip.seq rest))
    (pass : ∀ a w, J a w → rest.wp P (Exit.jump l (fun a' w' => J a' w' ∧ μ a' w' < μ a w) Q) a w)
    (first : (∀ a w, J a w → rest.wp P (Exit.jump l J Q) a w) → c.wp P (Exit.jump l J Q) a w) : (Code.scope c).wp P Q a w :=
  wp_scope_jumps l J μ hf (first (fun a w h => wp_mono (pass a w h) (fun e a' w' hq => by
    cases e with
    | goto l' => exact ⟨hq.1, hq.2.1⟩
    | normal => exact hq
    | exit id => exact hq
    | ret => exact hq
    | panic ch => exact hq
    | outgrown => exact hq))) (fun a w h => wp_seq (wp_skip (pass a w h)))

/-- how many sizes a credit sends, and what is left of it -/
def tn : Int → List Int → Nat
  | _, [] => 0
  | c, x :: r => if x ≤ c then tn (c - x) r + 1 else 0
def tc : Int → List Int → Int
  | c, [] => c
  | c, x :: r => if x ≤ c then tc (c - x) r else c
theorem tn_le (l : List Int) : ∀ c, tn c l ≤ l.length := by
  induction l with
  | nil => intro c; exact Nat.le_refl _
  | cons x r ih =>
    intro c
    unfold tn
    split
    · have := ih (c - x); simp; omega
    · simp
/-- the credit at a turn's start -/
def cr0 (x : Qu) (q : Int) : Int := min (x.c + x.w * q) 16777216
/-- a queue behind its turn -/
def turnQ (x : Qu) (q : Int) : Qu := ⟨x.w, if tn (cr0 x q) x.l = x.l.length then 0 else tc (cr0 x q) x.l, x.l.drop (tn (cr0 x q) x.l)⟩

theorem tn_at {c x : Int} {L : List Int} {k : Nat} (hk : k < L.length) (hx : L[k] = x) (h : x ≤ c) : tn c (L.drop k) = tn (c - x) (L.drop (k + 1)) + 1 ∧ tc c (L.drop k) = tc (c - x) (L.drop (k + 1)) := by
  rw [List.drop_eq_getElem_cons hk, hx]
  constructor
  · show (if x ≤ c then _ else _) = _
    rw [if_pos h]
  · show (if x ≤ c then _ else _) = _
    rw [if_pos h]
theorem tn_no {c x : Int} {L : List Int} {k : Nat} (hk : k < L.length) (hx : L[k] = x) (h : ¬ x ≤ c) : tn c (L.drop k) = 0 ∧ tc c (L.drop k) = c := by
  rw [List.drop_eq_getElem_cons hk, hx]
  constructor
  · show (if x ≤ c then _ else _) = _
    rw [if_neg h]
  · show (if x ≤ c then _ else _) = _
    rw [if_neg h]
theorem qup_qup {α : Type} (f : Nat → α) (p : Nat) (x y : α) : qup (qup f p x) p y = qup f p y := by
  funext k
  unfold qup
  split <;> rfl
theorem ShAt.setC' {w : World} {B b : Nat} {q : Int} {f : Nat → Qu} {V : Nat → Value} {p : Nat} {x y : Int} {L : List Int} (h : ShAt w B b q (qup f p ⟨x, y, L⟩) V) (hp : p < 16) (z : Int) : ShAt (w.setCell ⟨b, 1 + p * 3 + 1, none⟩ (.int .i64 z)) B b q (qup f p ⟨x, z, L⟩) V := by
  have := h.setC p hp z
  rwa [qup_same, qup_qup] at this
/-- a queue's row, read -/
theorem rowCell {w : World} {B g n cap : Nat} {L : List Int} (h : OwnI w B (.slice (some ⟨g, 0, none⟩) n cap) L) (hn : L.length = n) (k : Nat) (hk : k < L.length) : w.cell? ⟨g, k, none⟩ = some (.int .i64 L[k]) := by
  subst hn
  exact (World.ownsRow.cellAt (show World.ownsRow _ _ _ _ _ _ _ from h) k (by omega)).trans (ic_get L k hk)
/-- where the goto goes -/
structure TJ (w : World) (B b p : Nat) (q x C : Int) (L : List Int) (f : Nat → Qu) (V : Nat → Value) (k : Nat) (ck : Int) (w1 : World) : Prop where
  hk : k ≤ L.length
  c0 : 0 ≤ ck
  c1 : ck ≤ 16777216
  s : ShAt w1 B b q (qup f p ⟨x, ck, L⟩) V
  t : ShStep w w1 b V V
  n : k + tn ck (L.drop k) = tn C L
  c : tc ck (L.drop k) = tc C L
theorem TJ.drew {w : World} {B b p : Nat} {q x C : Int} {L : List Int} {f : Nat → Qu} {V : Nat → Value} {k : Nat} {ck : Int} {w1 : World} (h : TJ w B b p q x C L f V k ck w1) : TJ w B b p q x C L f V k ck w1.drew :=
  ⟨h.hk, h.c0, h.c1, h.s.drew, h.t.drew, h.n, h.c⟩
theorem own_slice {w : World} {B m : Nat} {v : Value} {l : List Value} (h : w.ownsRow B 3 1 v m l) : ∃ a0 c, v = .slice a0 m c := by
  rcases h.2 with ⟨h1, h2⟩ | ⟨g, cap, cur, h1, _⟩
  · exact ⟨none, 0, by rw [h1, h2]⟩
  · exact ⟨_, _, h1⟩
theorem frozen_below' {w w' : World} {a : Addr} (ha : a.block < w.heap.size) (hb : Below w.heap.size w w') : w'.frozen? a = w.frozen? a := World.frozen?_of_block (hb.block _ ha)
theorem TJ.stored {w : World} {B b p g n cap : Nat} {q x C : Int} {L : List Int} {f : Nat → Qu} {V : Nat → Value} {k : Nat} {ck : Int} {w1 w2 : World} {v' : Value} (h : TJ w B b p q x C L f V k ck w1) (hV : V p = .slice (some ⟨g, 0, none⟩) n cap) (hn : L.length = n) (hp : p < 16)
    (hown : w2.ownsRow w1.drew.heap.size 3 1 v' (n - k) (ic (L.drop k))) (hb : Below w1.drew.heap.size w1.drew w2) :
    ShAt (w2.setCell ⟨b, 1 + p * 3 + 2, none⟩ v') B b q (qup f p ⟨x, ck, L.drop k⟩) (qup V p v') ∧ ShStep w (w2.setCell ⟨b, 1 + p * 3 + 2, none⟩ v') b V (qup V p v') ∧ OwnI (w2.setCell ⟨b, 1 + p * 3 + 2, none⟩ v') B (V p) L := by
  have hbw : ∀ z, z < w1.heap.size → w2.heap[z]? = w1.heap[z]? := fun z hz => hb.block z hz
  have hlt := h.s.lt
  have hBw : B ≤ w1.heap.size := Nat.le_trans h.s.hb (Nat.le_of_lt hlt)
  have hdl : (L.drop k).length = n - k := by rw [List.length_drop, hn]
  have hown' : OwnI w2 B v' (L.drop k) := by
    unfold OwnI
    rw [hdl]
    refine ⟨hown.1, ?_⟩
    rcases hown.2 with h1 | ⟨g, cap, cur, h1, h2, h3⟩
    · exact .inl h1
    · exact .inr ⟨g, cap, cur, h1, Nat.le_trans hBw h2, h3⟩
  have hge : ∀ z, v'.ownBlock = some z → w1.heap.size ≤ z := fun z hz => (hown.lt z hz).1
  have s1 := h.s.grow p hp (w1 := w2) (hbw b hlt) (fun z hz _ y hy => hbw y (World.ownsRow.lt (show World.ownsRow _ _ _ _ _ _ _ from h.s.own z hz) y hy).2) v' (L.drop k) hown' (fun z hz _ => by
    cases hv : v'.ownBlock with
    | none => exact .inl rfl
    | some y =>
      right
      intro e
      have h1 := hge y hv
      have h2 := (World.ownsRow.lt (show World.ownsRow _ _ _ _ _ _ _ from h.s.own z hz) y e.symm).2
      omega)
  rw [qup_same, qup_qup] at s1
  refine ⟨s1, ?_, ?_⟩
  · have t := h.t
    refine ⟨hb.os.trans t.os, hb.tape.trans t.tape, hb.output.trans t.output, ?_, fun z hz hn hv => ?_, fun z hz => ?_⟩
    · have h1 := t.size
      have h2 : w1.heap.size ≤ w2.heap.size := hb.size
      simp
      omega
    · exact (Below.heap_setCell _ _ _ _ hn).trans ((hbw z (Nat.lt_of_lt_of_le hz t.size)).trans (t.block z hz hn hv))
    · by_cases e : z = p
      · subst e
        rw [qup_same]
        exact .inr (fun y hy => Nat.le_trans t.size (hge y hy))
      · rw [qup_other V p _ e]
        exact .inl rfl
  · have ho := h.s.own p hp
    rw [qup_same] at ho
    have ho2 : OwnI w2 B (V p) L := by
      refine ⟨ho.1, ?_⟩
      rcases ho.2 with h1 | ⟨g, cap, cur, h1, h2, h3, h4⟩
      · exact .inl h1
      · exact .inr ⟨g, cap, cur, h1, h2, (hbw g (lt_of_block h3)).trans h3, h4⟩
    obtain ⟨cs, hc⟩ := h.s.blk
    exact Go.ownsRow_setCell_other ho2 (ho2.notB ((hbw b hlt).trans hc) (by decide)) _
theorem own_cap {w : World} {B g n cap : Nat} {L : List Int} (h : OwnI w B (.slice (some ⟨g, 0, none⟩) n cap) L) (hn : L.length = n) : n ≤ cap := by
  subst hn
  obtain ⟨a0, c, h1, _, h2, _⟩ := h.ints
  cases h1
  exact h2
set_option maxRecDepth 100000 in
set_option maxHeartbeats 4000000 in
theorem turn_any (B b p g cap n : Nat) (Q q x y : Int) (L : List Int) (f : Nat → Qu) (V : Nat → Value) (w : World) (hS : ShAt w B b q f V) (hp : p < 16) (hf : f p = ⟨x, y, L⟩) (hn : L.length = n) (hV : V p = .slice (some ⟨g, 0, none⟩) n cap) (hQ : 1 ≤ Q ∧ Q ≤ 65536) (hw : 0 ≤ x ∧ x ≤ 16) (hc : 0 ≤ y ∧ y ≤ 16777216) (hl : n ≤ 100) (hx : ∀ x ∈ L, 1 ≤ x ∧ x ≤ 65536) :
    Calls Try.prog 19 #[.pointer (some ⟨b, 1 + p * 3, none⟩), .int .i64 Q] w fun e w' => e = .returned (.slice (some ⟨g, 0, none⟩) (tn (cr0 ⟨x, y, L⟩ Q) L) cap) ∧ OwnI w' B (V p) L ∧ ∃ V', ShAt w' B b q (qup f p (turnQ ⟨x, y, L⟩ Q)) V' ∧ ShStep w w' b V V' := by
  have hz0 : 0 ≤ x * Q := Int.mul_nonneg hw.1 (by omega)
  have hz1 : x * Q ≤ 1048576 := by
    have h1 : x * Q ≤ 16 * Q := Int.mul_le_mul_of_nonneg_right hw.2 (by omega)
    omega
  have c0 := hS.wt p hp
  have c1 := hS.cr p hp
  rw [hf] at c0 c1
  simp only at c0 c1
  have f1 := hS.free (1 + p * 3 + 1)
  obtain ⟨C, hC⟩ : ∃ C, C = cr0 ⟨x, y, L⟩ Q := ⟨_, rfl⟩
  have hC' : C = min (y + x * Q) 16777216 := hC
  have hTQ : Hid (turnQ ⟨x, y, L⟩ Q = ⟨x, if tn C L = n then 0 else tc C L, L.drop (tn C L)⟩) := by
    show _ = _
    unfold turnQ
    rw [← hC, ← hn]
  rw [← hC]
  generalize turnQ ⟨x, y, L⟩ Q = TQ at *
  have hC0 : 0 ≤ C := by omega
  have hC1 : C ≤ 16777216 := by omega
  have S1 : Hid (ShAt (w.setCell ⟨b, 1 + p * 3 + 1, none⟩ (.int .i64 C)) B b q (qup f p ⟨x, C, L⟩) V) := by
    have := hS.setC p hp C
    rwa [hf] at this
  have HX := hide hx
  have HV := hide hV
  have HN := hide hn
  obtain ⟨K, hK⟩ : ∃ K, K = tn C L := ⟨_, rfl⟩
  rw [← hK]
  rw [← hK] at hTQ
  have HK := hide hK
  have HS := hide hS
  have HC' := hide hC'
  clear hS hx hV hC hn hf hK hC'
  go_enter Try.func19, Try.ntmps19
  go_wp2_with fail
  refine wp_scope_pass 0 (fun a' w' => ∃ (k : Nat) (ck : Int) (u7 u8 u9 u10 u11 u12 u13 u14 u15 u16 u17 u18 u19 u20 u21 u22 u23 u24 u25 u26 u27 u28 u29 u30 u31 u32 u33 u34 u35 u36 u37 u38 u39 u40 u41 u42 u43 u44 u45 u46 u47 u48 u49 u50 u51 u52 u53 u54 u55 u56 u57 u58 : Value), a' = { tmps := #[.pointer (some ⟨b, 1 + p * 3, none⟩), .int .i64 Q, undef, undef, .slice none 0 0, .int .i64 k, undef, u7, u8, u9, u10, u11, u12, u13, u14, u15, u16, u17, u18, u19, u20, u21, u22, u23, u24, u25, u26, u27, u28, u29, u30, u31, u32, u33, u34, u35, u36, u37, u38, u39, u40, u41, u42, u43, u44, u45, u46, u47, u48, u49, u50, u51, u52, u53, u54, u55, u56, u57, u58, undef, undef, undef, undef, undef, undef, undef, undef, undef, undef, undef, undef, undef, undef, undef, undef, undef, undef, undef, undef, undef, undef, undef, undef, undef, undef], defers := [] } ∧ TJ w B b p q x C L f V k ck w') (fun a' _ => n - (intOf (a'.tmps.getD 5 undef)).toNat) rfl ?_ ?_
  · rintro a' w1 ⟨k, ck, u7, u8, u9, u10, u11, u12, u13, u14, u15, u16, u17, u18, u19, u20, u21, u22, u23, u24, u25, u26, u27, u28, u29, u30, u31, u32, u33, u34, u35, u36, u37, u38, u39, u40, u41, u42, u43, u44, u45, u46, u47, u48, u49, u50, u51, u52, u53, u54, u55, u56, u57, u58, rfl, hJ⟩
    have c0 := hJ.s.cr p hp
    have c2 := hJ.s.vs p hp
    rw [qup_same] at c0
    simp only at c0
    rw [unhide HV] at c2
    have f1 := hJ.s.free (1 + p * 3 + 1)
    have f2 := hJ.s.free (1 + p * 3 + 2)
    have hO := hJ.s.own p hp
    rw [qup_same] at hO
    simp only at hO
    have hO0 := hO
    rw [unhide HV] at hO
    have hk := hJ.hk
    rw [unhide HN] at hk
    have hck0 := hJ.c0
    have hck1 := hJ.c1
    have HJ := hide hJ
    have HO := hide hO
    have HO0 := hide hO0
    clear hJ hO hO0 HS
    by_cases hlt : k < n
    · have hlt' : k < L.length := by rw [unhide HN]; exact hlt
      have ce := rowCell (unhide HO) (unhide HN) k hlt'
      obtain ⟨xk, hxk⟩ : ∃ xk, L[k] = xk := ⟨_, rfl⟩
      rw [hxk] at ce
      have hx1 : 1 ≤ xk ∧ xk ≤ 65536 := by rw [← hxk]; exact unhide HX _ (List.getElem_mem hlt')
      have HXK := hide hxk
      have q1 : (k : Int) < n := by omega
      clear hxk
      by_cases q2 : xk ≤ ck
      · have d2 : decide (xk ≤ ck) = true := decide_eq_true q2
        have d1 : decide ((k : Int) < n) = true := decide_eq_true q1
        have HJ2 : Hid (TJ w B b p q x C L f V (k + 1) (ck - xk) (w1.setCell ⟨b, 1 + p * 3 + 1, none⟩ (.int .i64 (ck - xk)))) := by
          have h := unhide HJ
          have ha := tn_at hlt' (unhide HXK) q2
          refine ⟨hlt', by omega, by omega, h.s.setC' hp _, h.t.trans (ShStep.set _), ?_, ?_⟩
          · rw [← h.n, ha.1]; omega
          · rw [← h.c, ha.2]
        clear HXK hlt'
        go_wp2
        go_region
        go_wp2
        go_region
        go_wp2
        go_step3
        refine ⟨rfl, ⟨k + 1, ck - xk, _, _, _, _, _, _, _, _, _, _, _, _, _, _, _, _, _, _, _, _, _, _, _, _, _, _, _, _, _, _, _, _, _, _, _, _, _, _, _, _, _, _, _, _, _, _, _, _, _, _, _, _, rfl, (unhide HJ2).drew.drew⟩, ?_⟩
        simp [intOf]
        omega
      · have d2 : decide (xk ≤ ck) = false := decide_eq_false q2
        have d1 : decide ((k : Int) < n) = true := decide_eq_true q1
        have hKk : k = K := by
          have := (unhide HJ).n
          rw [(tn_no hlt' (unhide HXK) q2).1] at this
          rw [unhide HK]
          exact this
        have hcc : tc C L = ck := by
          have := (unhide HJ).c
          rw [(tn_no hlt' (unhide HXK) q2).2] at this
          exact this.symm
        have TQ2 : Hid (TQ = ⟨x, ck, L.drop k⟩) := by
          rw [← hKk, hcc, if_neg (by omega)] at hTQ
          exact hTQ
        have HKk := hide hKk
        have hncap : n ≤ cap := own_cap (unhide HO) (unhide HN)
        have hcl : Hid (∀ W, Below w1.heap.size w1 W → Calls Try.prog 20 #[.slice (some ⟨g, k, none⟩) (n - k) (cap - k)] W fun e w' => ∃ v', e = .returned v' ∧ w'.ownsRow W.heap.size 3 1 v' (n - k) (ic (L.drop k)) ∧ v' ≠ .slice none 0 0 ∧ Below W.heap.size W w') := by
          intro W hW
          have hdl : (L.drop k).length = n - k := by rw [List.length_drop, unhide HN]
          have h1 := Try.slices_Clone_int g k (n - k) (cap - k) (L.drop k) W (by rw [hdl]; exact Nat.le_refl _) (by omega) (fun j hj => by
            have hj' : k + j < L.length := by rw [List.length_drop] at hj; omega
            rw [cell_below (rowCell (unhide HO) (unhide HN) (k + j) hj') hW]
            simp [List.getD, hj'])
          rw [List.take_of_length_le (by rw [hdl]; exact Nat.le_refl _)] at h1
          exact h1
        have e1 : (n : Int) - k = ((n - k : Nat) : Int) := by omega
        have e3 : ¬ cap - k = 0 := by omega
        clear HXK hlt' hKk hcc hTQ
        go_wp2
        go_region
        go_wp2_with fail
        refine (unhide hcl _ ((Below.refl _ _).drew)).mono ?_
        rintro e w2 ⟨v', rfl, hown, hne, hb2⟩
        obtain ⟨a1, cc, hsh⟩ := own_slice hown
        have hst := (unhide HJ).stored (unhide HV) (unhide HN) hp (v' := v') (w2 := w2) hown hb2
        have c3 : w2.cell? ⟨b, 1 + p * 3 + 2, none⟩ = some (.slice (some ⟨g, 0, none⟩) n cap) := cell_below (w := w1.drew) c2 hb2
        have f3 : w2.frozen? ⟨b, 1 + p * 3 + 2, none⟩ = false := (frozen_below' (w := w1.drew) (by exact (unhide HJ).s.lt) hb2).trans f2
        subst hsh
        have HST := hide hst
        have z0 : (((n - k : Nat) : Int) == 0) = false := by simp; omega
        clear hown hne hb2 hst c2 f2 hcl
        go_wp2
        simp only [Exit.jump]
        go_ret
        obtain ⟨t1, t2, t3⟩ := unhide HST
        rw [unhide TQ2]
        exact ⟨by rw [← unhide HKk]; rfl, t3, _, t1, t2⟩
    · have hkn : k = n := by omega
      have hkL : k = L.length := by rw [unhide HN]; exact hkn
      have hd : L.drop k = [] := List.drop_of_length_le (by omega)
      have hKk : k = K := by
        have := (unhide HJ).n
        rw [hd] at this
        rw [unhide HK]
        exact this
      have TQ2 : Hid (TQ = ⟨x, 0, L.drop k⟩) := by
        rw [← hKk, if_pos hkn] at hTQ
        exact hTQ
      have HKk := hide hKk
      have hncap : n ≤ cap := own_cap (unhide HO) (unhide HN)
      have q1 : ¬ (k : Int) < n := by omega
      have d1 : decide ((k : Int) < n) = false := decide_eq_false q1
      have HD := hide hd
      have HKL := hide hkL
      have e1 : n - k = 0 := by omega
      clear hKk hTQ hd hkL HO HX
      subst hkn
      by_cases e3 : k = cap
      · subst e3
        go_wp2
        go_region
        go_wp2_with fail
        refine (Try.slices_Clone_int_zero _ _ _).mono ?_
        rintro e w2 ⟨v', rfl, hown, hne, hb2⟩
        obtain ⟨a1, cc, hsh⟩ := own_slice hown
        have hst := (unhide HJ).stored (unhide HV) (unhide HN) hp (v' := v') (w2 := w2) (by rw [unhide HD, Nat.sub_self]; exact hown) hb2
        have c3 : w2.cell? ⟨b, 1 + p * 3 + 2, none⟩ = some (.slice (some ⟨g, 0, none⟩) k k) := cell_below (w := w1.drew) c2 hb2
        have f3 : w2.frozen? ⟨b, 1 + p * 3 + 2, none⟩ = false := (frozen_below' (w := w1.drew) (by exact (unhide HJ).s.lt) hb2).trans f2
        have f4 : w2.frozen? ⟨b, 1 + p * 3 + 1, none⟩ = false := (frozen_below' (w := w1.drew) (by exact (unhide HJ).s.lt) hb2).trans f1
        have c4 : w2.cell? ⟨b, 1 + p * 3 + 1, none⟩ = some (.int .i64 ck) := cell_below (w := w1.drew) c0 hb2
        subst hsh
        have HST := hide hst
        clear hown hne hb2 hst c2 f2 c0 f1
        go_wp2
        simp only [Exit.jump]
        go_ret
        obtain ⟨t1, t2, t3⟩ := unhide HST
        rw [unhide TQ2]
        refine ⟨by rw [← unhide HKk]; rfl, ?_, _, t1.setC' hp 0, t2.trans (ShStep.set _)⟩
        exact Go.ownsRow_setCell_other t3 (t3.notB t1.blk.choose_spec (by decide)) _
      · have e4 : ¬ cap - k = 0 := by omega
        go_wp2
        go_region
        go_wp2_with fail
        refine (Try.slices_Clone_int_zero _ _ _).mono ?_
        rintro e w2 ⟨v', rfl, hown, hne, hb2⟩
        obtain ⟨a1, cc, hsh⟩ := own_slice hown
        have hst := (unhide HJ).stored (unhide HV) (unhide HN) hp (v' := v') (w2 := w2) (by rw [unhide HD, Nat.sub_self]; exact hown) hb2
        have c3 : w2.cell? ⟨b, 1 + p * 3 + 2, none⟩ = some (.slice (some ⟨g, 0, none⟩) k cap) := cell_below (w := w1.drew) c2 hb2
        have f3 : w2.frozen? ⟨b, 1 + p * 3 + 2, none⟩ = false := (frozen_below' (w := w1.drew) (by exact (unhide HJ).s.lt) hb2).trans f2
        have f4 : w2.frozen? ⟨b, 1 + p * 3 + 1, none⟩ = false := (frozen_below' (w := w1.drew) (by exact (unhide HJ).s.lt) hb2).trans f1
        have c4 : w2.cell? ⟨b, 1 + p * 3 + 1, none⟩ = some (.int .i64 ck) := cell_below (w := w1.drew) c0 hb2
        subst hsh
        have HST := hide hst
        clear hown hne hb2 hst c2 f2 c0 f1
        go_wp2
        simp only [Exit.jump]
        go_ret
        obtain ⟨t1, t2, t3⟩ := unhide HST
        rw [unhide TQ2]
        refine ⟨by rw [← unhide HKk]; rfl, ?_, _, t1.setC' hp 0, t2.trans (ShStep.set _)⟩
        exact Go.ownsRow_setCell_other t3 (t3.notB t1.blk.choose_spec (by decide)) _
  · intro pass
    have PASS := hide pass
    clear pass
    have hm : min (y + x * Q) 16777216 = C := (unhide HC').symm
    have HJ : Hid (TJ w B b p q x C L f V 0 C (w.setCell ⟨b, 1 + p * 3 + 1, none⟩ (.int .i64 C)).drew) :=
      ⟨Nat.zero_le _, hC0, hC1, (unhide S1).drew, (ShStep.set _).drew, by simp, by simp⟩
    go_wp2
    go_region
    go_wp2_with fail
    go_step3
    rename_i hK
    exact hK _ _ (unhide PASS _ _ ⟨0, C, _, _, _, _, _, _, _, _, _, _, _, _, _, _, _, _, _, _, _, _, _, _, _, _, _, _, _, _, _, _, _, _, _, _, _, _, _, _, _, _, _, _, _, _, _, _, _, _, _, _, _, _, rfl, unhide HJ⟩)
end Go.Proofs.Ytlmmincpjflkdaa

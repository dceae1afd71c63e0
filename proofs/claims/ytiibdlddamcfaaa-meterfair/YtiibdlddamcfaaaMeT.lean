/- meter: MeterFair. -/
import Derived.Test.YtiibdlddamcfaaaMeS
namespace Go.Proofs.Ytiibdlddamcfaaa
open Go.RowKit
set_option linter.unusedVariables false
attribute [local go_sem] Oper.semAt_some

theorem Two.step {w w' : World} {g B b : Nat} {x y : Value} {T : TypeId} {q : Int} {f : Nat → Qu} {V V' : Nat → Value} (h : Two w g x y T) (h1 : T ≠ 3) (h2 : T ≠ 79) (s : ShAt w B b q f V) (t : ShStep w w' b V V') : Two w' g x y T := by
  refine (t.block g h.lt (fun e => ?_) (fun p hp e => ?_)).trans h
  · obtain ⟨cs, hc⟩ := s.blk
    rw [← e] at hc
    exact two_types h hc h2
  · obtain ⟨cs, hc⟩ := own_blk (s.own p hp) e
    exact two_types h hc h1
/-- a remainder made one from 0 on -/
theorem modz (x m : Int) (hm : 0 < m) : ∃ t1 t2, x.tmod m = t1 ∧ (t1 + m).tmod m = t2 ∧ -m < t1 ∧ t1 < m ∧ 0 ≤ t2 ∧ t2 < m := by
  refine ⟨_, _, rfl, rfl, ?_, ?_, ?_, ?_⟩
  · exact Int.lt_tmod_of_pos x hm
  · exact Int.tmod_lt_of_pos x hm
  · have := Int.lt_tmod_of_pos x hm
    exact Int.tmod_nonneg m (by omega)
  · exact Int.tmod_lt_of_pos _ hm
/-- the share, the weights and the sums -/
structure FW (w : World) (A4 A8 A9 b : Nat) (a1 a2 q : Int) (W S : Nat → Int) (f : Nat → Qu) (x : World) : Prop where
  t4 : Two x A4 (.int .i64 a1) (.int .i64 a2) 65
  t8 : Two x A8 (.int .i64 (W 0)) (.int .i64 (W 1)) 65
  t9 : Two x A9 (.int .i64 (S 0)) (.int .i64 (S 1)) 65
  sh : ∃ V, ShAt x w.heap.size b q f V
  lo : w.heap.size ≤ A8 ∧ w.heap.size ≤ A9 ∧ A4 ≠ A8 ∧ A4 ≠ A9 ∧ A8 ≠ A9
  be : Below w.heap.size w x
theorem FW.up {w : World} {A4 A8 A9 b : Nat} {a1 a2 q : Int} {W S : Nat → Int} {f : Nat → Qu} {x y : World} (h : FW w A4 A8 A9 b a1 a2 q W S f x) (hb : Below x.heap.size x y) : FW w A4 A8 A9 b a1 a2 q W S f y := by
  obtain ⟨V, s⟩ := h.sh
  exact ⟨h.t4.up hb, h.t8.up hb, h.t9.up hb, ⟨V, s.up hb⟩, h.lo, h.be.trans (hb.mono h.be.size)⟩
theorem FW.step {w : World} {A4 A8 A9 b : Nat} {a1 a2 q : Int} {W S : Nat → Int} {f f' : Nat → Qu} {V V' : Nat → Value} {x y : World} (h : FW w A4 A8 A9 b a1 a2 q W S f x) (s : ShAt x w.heap.size b q f V) (s' : ShAt y w.heap.size b q f' V') (t : ShStep x y b V V') : FW w A4 A8 A9 b a1 a2 q W S f' y :=
  ⟨h.t4.step (by decide) (by decide) s t, h.t8.step (by decide) (by decide) s t, h.t9.step (by decide) (by decide) s t, ⟨V', s'⟩, h.lo, h.be.trans (t.below s)⟩
theorem ShAt.other {w : World} {B b g j : Nat} {q : Int} {f : Nat → Qu} {V : Nat → Value} {u v x : Value} {T : TypeId} (h : ShAt w B b q f V) (ht : Two w g u v T) (h1 : T ≠ 3) (h2 : T ≠ 79) : ShAt (w.setCell ⟨g, j, none⟩ x) B b q f V := by
  refine h.keep (Below.heap_setCell _ _ _ _ (fun e => ?_)) (fun p k hp e => Below.heap_setCell _ _ _ _ (fun e' => ?_))
  · obtain ⟨cs, hc⟩ := h.blk
    have e' : b = g := e
    rw [e'] at hc
    exact two_types ht hc h2
  · obtain ⟨cs, hc⟩ := own_blk (h.own p hp) e
    have e'' : k = g := e'
    rw [e''] at hc
    exact two_types ht hc h1
theorem FW.setW {w : World} {A4 A8 A9 b : Nat} {a1 a2 q : Int} {W S : Nat → Int} {f : Nat → Qu} {x : World} (h : FW w A4 A8 A9 b a1 a2 q W S f x) (k : Nat) (hk : k < 2) (z : Int) : FW w A4 A8 A9 b a1 a2 q (qup W k z) S f (x.setCell ⟨A8, k, none⟩ (.int .i64 z)) := by
  obtain ⟨V, s⟩ := h.sh
  obtain ⟨l1, l2, l3, l4, l5⟩ := h.lo
  refine ⟨h.t4.other _ _ (fun e => l3 e.symm), ?_, h.t9.other _ _ l5, ⟨V, s.other h.t8 (by decide) (by decide)⟩, h.lo, h.be.setCell l1 _⟩
  rcases (show k = 0 ∨ k = 1 by omega) with rfl | rfl
  · exact h.t8.set0 _
  · exact h.t8.set1 _
theorem FW.setS {w : World} {A4 A8 A9 b : Nat} {a1 a2 q : Int} {W S : Nat → Int} {f : Nat → Qu} {x : World} (h : FW w A4 A8 A9 b a1 a2 q W S f x) (k : Nat) (hk : k < 2) (z : Int) : FW w A4 A8 A9 b a1 a2 q W (qup S k z) f (x.setCell ⟨A9, k, none⟩ (.int .i64 z)) := by
  obtain ⟨V, s⟩ := h.sh
  obtain ⟨l1, l2, l3, l4, l5⟩ := h.lo
  refine ⟨h.t4.other _ _ (fun e => l4 e.symm), h.t8.other _ _ (fun e => l5 e.symm), ?_, ⟨V, s.other h.t9 (by decide) (by decide)⟩, h.lo, h.be.setCell l2 _⟩
  rcases (show k = 0 ∨ k = 1 by omega) with rfl | rfl
  · exact h.t9.set0 _
  · exact h.t9.set1 _
theorem FW.congr {w : World} {A4 A8 A9 b : Nat} {a1 a2 q : Int} {W S S' : Nat → Int} {f : Nat → Qu} {x : World} (h : FW w A4 A8 A9 b a1 a2 q W S f x) (h0 : S 0 = S' 0) (h1 : S 1 = S' 1) : FW w A4 A8 A9 b a1 a2 q W S' f x :=
  ⟨h.t4, h.t8, by rw [← h0, ← h1]; exact h.t9, h.sh, h.lo, h.be⟩
theorem bel2' (w : World) (o1 o2 : Obj) : Below w.heap.size w ((w.alloc o1).alloc o2) := ((Below.refl _ _).alloc (Nat.le_refl _) _).alloc (by simp) _
theorem qup_self {α : Type} (f : Nat → α) (p : Nat) : qup f p (f p) = f := by
  funext k
  unfold qup
  split
  · rename_i h; rw [h]
  · rfl
theorem hund_succ (k : Nat) : qup (fun i => if i < k then 100 else 0) k 100 = (fun i => if i < k + 1 then 100 else 0) := by
  funext i
  unfold qup
  by_cases h : i = k
  · rw [if_pos h, if_pos (by omega)]
  · rw [if_neg h]
    show (if i < k then 100 else 0) = _
    by_cases h2 : i < k
    · rw [if_pos h2, if_pos (by omega)]
    · rw [if_neg h2, if_neg (by omega)]
theorem sumR_in (l : List (Int × Int)) (r : Int) (h : ∀ y ∈ l, 1 ≤ y.2 ∧ y.2 ≤ 5000) : 0 ≤ sumR l r ∧ sumR l r ≤ l.length * 5000 := by
  unfold sumR
  have h1 := sumZ_in ((l.filter (fun x => decide (x.1 = r))).map (·.2)) (fun y hy => by
    rw [List.mem_map] at hy
    obtain ⟨z, hz, rfl⟩ := hy
    exact h z (List.mem_filter.1 hz).1)
  have h2 : ((l.filter (fun x => decide (x.1 = r))).map (·.2)).length ≤ l.length := by rw [List.length_map]; exact List.length_filter_le _ _
  omega
theorem ownSt_other {w : World} {B g j : Nat} {v x y z : Value} {l : List (Int × Int)} {T : TypeId} (h : OwnSt w B v l) (ht : Two w g x y T) (hT : T ≠ 64) : OwnSt (w.setCell ⟨g, j, none⟩ z) B v l :=
  Go.ownsRow_setCell_other h (ownSt_notB (b := g) h ht hT) z
theorem FW.drew {w : World} {A4 A8 A9 b : Nat} {a1 a2 q : Int} {W S : Nat → Int} {f : Nat → Qu} {x : World} (h : FW w A4 A8 A9 b a1 a2 q W S f x) : FW w A4 A8 A9 b a1 a2 q W S f x.drew := by
  obtain ⟨V, s⟩ := h.sh
  exact ⟨h.t4, h.t8, h.t9, ⟨V, s.drew⟩, h.lo, h.be.drew⟩
set_option maxRecDepth 100000 in
set_option maxHeartbeats 20000000 in
theorem meterFair_any (x0 a1 a2 : Int) (l : List Int) (la : Option Addr) (lc : Nat) (w : World) (hI : Ints w la l) (hlc : IntsOk l lc) :
    Calls Try.prog 7 #[.int .i64 x0, .agg #[.int .i64 a1, .int .i64 a2], .slice la l.length lc] w fun e w' => e = .returned (.bool true) ∧ Below w.heap.size w w' := by
  obtain ⟨t1, t2, ht1, ht2, hb1, hb2, hb3, hb4⟩ := modz x0 2000 (by decide)
  have g1 := hide (fun W => newShare_yes (1 + t2) W (by omega))
  have HI := hide hI
  have T4 : Hid (Two (w.alloc (.cells #[.int .i64 a1, .int .i64 a2] 65)) w.heap.size (.int .i64 a1) (.int .i64 a2) 65) := two_alloc w _ _ _
  have B0 := hide ((Below.refl w.heap.size w).alloc (Nat.le_refl _) (.cells #[.int .i64 a1, .int .i64 a2] 65))
  have hm0 := hlc.1
  have hm1 := hlc.2.1
  unfold maxLen at hm1
  generalize hm : l.length = m at *
  have HM := hide hm
  clear hI hlc hm hm0 hm1
  go_enter Try.func7, Try.ntmps7
  go_wp2_with fail
  obtain ⟨Wb, hWb⟩ : ∃ Wb, Wb = w.alloc (.cells #[.int .i64 a1, .int .i64 a2] 65) := ⟨_, rfl⟩
  rw [← hWb] at T4 B0
  rw [← hWb]
  have hbs : w.heap.size < Wb.heap.size := by rw [hWb]; simp
  clear hWb
  obtain ⟨q, hq⟩ : ∃ q, q = 1 + t2 := ⟨_, rfl⟩
  rw [← hq] at g1
  rw [← hq]
  have hq1 : 1 ≤ q ∧ q ≤ 2000 := by omega
  clear hq hb1 hb2 hb3 hb4 ht1 ht2
  refine (unhide g1 Wb).mono ?_
  rintro e w1 ⟨rfl, hw1⟩
  have S1 : Hid (ShAt w1 w.heap.size Wb.heap.size q noQ noV) := by rw [hw1]; exact newShare_at q w.heap.size Wb (Nat.le_of_lt hbs)
  have b1 : Below Wb.heap.size Wb w1 := by rw [hw1]; exact (Below.refl _ _).alloc (Nat.le_refl _) _
  have T41 := hide ((unhide T4).up b1)
  have B1 := hide ((unhide B0).trans (b1.mono (unhide B0).size))
  clear b1 hw1 T4 B0 g1
  go_wp2_with fail
  refine (mawake_any w1).mono ?_
  rintro e w2 ⟨rfl, b2⟩
  have S2 := hide ((unhide S1).up b2)
  have T42 := hide ((unhide T41).up b2)
  have B2 := hide ((unhide B1).trans (b2.mono (unhide B1).size))
  clear b2 S1 T41 B1
  by_cases hm300 : m = 0 ∨ 300 < m
  · rcases hm300 with h0 | h0
    · subst h0
      go_wp2_with fail
      refine (mawake_any w2).mono ?_
      rintro e w3 ⟨rfl, b3⟩
      have B3 := hide ((unhide B2).trans (b3.mono (unhide B2).size))
      clear b3
      go_wp2
      go_ret
      exact ⟨rfl, unhide B3⟩
    · have z1 : ((m : Int) == 0) = false := by simp; omega
      have z2 : (300 : Int) < m := by omega
      go_wp2_with fail
      refine (mawake_any w2).mono ?_
      rintro e w3 ⟨rfl, b3⟩
      have B3 := hide ((unhide B2).trans (b3.mono (unhide B2).size))
      clear b3
      go_wp2
      go_ret
      exact ⟨rfl, unhide B3⟩
  have z1 : ((m : Int) == 0) = false := by simp; omega
  have z2 : ¬ (300 : Int) < m := by omega
  have hm2 : 0 < m ∧ m ≤ 300 := by omega
  have FW0 : Hid (FW w w.heap.size w2.heap.size (w2.heap.size + 1) Wb.heap.size a1 a2 q (fun _ => 0) (fun _ => 0) noQ ((w2.alloc (.cells #[.int .i64 0, .int .i64 0] 65)).alloc (.cells #[.int .i64 0, .int .i64 0] 65))) := by
    have hlt := (unhide T42).lt
    have t9 := two_alloc (w2.alloc (.cells #[.int .i64 0, .int .i64 0] 65)) (.int .i64 0) (.int .i64 0) 65
    rw [show (w2.alloc (.cells #[.int .i64 0, .int .i64 0] 65)).heap.size = w2.heap.size + 1 by simp] at t9
    refine ⟨((unhide T42).alloc _).alloc _, (two_alloc w2 _ _ _).alloc _, t9, ⟨noV, ((unhide S2).up (bel2' _ _ _))⟩, ⟨by omega, by omega, by omega, by omega, by omega⟩, (unhide B2).trans ((bel2' _ _ _).mono (unhide B2).size)⟩
  go_wp2_with fail
  go_loopw [10] (fun kv wr => ∃ (k : Nat) (W : Nat → Int) (f : Nat → Qu), k ≤ 2 ∧ kv = .int .i64 k ∧ FW w w.heap.size w2.heap.size (w2.heap.size + 1) Wb.heap.size a1 a2 q W (fun _ => 0) f wr ∧ FS f W (fun i => if i < k then 100 else 0) ∧ (∀ i, i < k → 1 ≤ W i ∧ W i ≤ 16)) (fun kv _ => 2 - (intOf kv).toNat)
  case atStart => exact ⟨0, _, noQ, by omega, rfl, unhide FW0, fs_new, fun i hi => absurd hi (by omega)⟩
  case round =>
    obtain ⟨k, W, f, hk, rfl, hFW, hFS, hW⟩ := hrel
    have HFW := hide hFW
    have HFS := hide hFS
    have HW := hide hW
    clear hFW hFS hW FW0 T42 S2 B2
    by_cases hlt : k < 2
    · rcases (show k = 0 ∨ k = 1 by omega) with rfl | rfl
      · obtain ⟨u1, u2, hu1, hu2, hv1, hv2, hv3, hv4⟩ := modz a1 16 (by decide)
        have c4 := (unhide HFW).t4.c0
        have c8 := (unhide HFW).t8.c0
        have f8 := (unhide HFW).t8.free 0
        obtain ⟨z, hz⟩ : ∃ z, 1 + u2 = z := ⟨_, rfl⟩
        have hz1 : 1 ≤ z ∧ z ≤ 16 := by omega
        have HFW1 := hide ((unhide HFW).setW 0 (by decide) z)
        have HFS1 : Hid (FS (qup f 2 (weighQ (f 2) z)) (qup W 0 z) (fun i => if i < 0 then 100 else 0)) := (unhide HFS).weigh 0 (by decide) z hz1.1
        have hgw := hide (fun V x h => weigh_ok w.heap.size Wb.heap.size (2) z q f V x (by decide) (by omega) h)
        go_wp2_with fail
        clear hv1 hv2 hv3 hv4
        generalize wr.setCell ⟨w2.heap.size, 0, none⟩ (.int .i64 z) = w3 at *
        obtain ⟨V3, s3⟩ := (unhide HFW1).sh
        refine (unhide hgw V3 w3 s3).mono ?_
        rintro e w4 ⟨rfl, V4, s4, t4⟩
        have HFW4 := hide ((unhide HFW1).step s3 s4 t4)
        have HWK : Hid (∀ i, i < 0 + 1 → 1 ≤ qup W 0 z i ∧ qup W 0 z i ≤ 16) := by
          intro i hi
          by_cases e : i = 0
          · subst e; rw [qup_same]; exact hz1
          · rw [qup_other W _ _ e]; exact unhide HW i (by omega)
        have hWz : Hid (qup W 0 z 0 = z) := qup_same W 0 z
        obtain ⟨W', hW'⟩ : ∃ W', W' = qup W 0 z := ⟨_, rfl⟩
        rw [← hW'] at HFW4 HFS1 HWK hWz
        have HFS2 : Hid (FS (qup f (2) (weighQ (f (2)) z)) W' (qup (fun i => if i < 0 then 100 else 0) 0 0)) := by
          have := unhide HFS1
          rw [show qup (fun i => if i < 0 then 100 else 0) 0 0 = (fun i => if i < 0 then 100 else 0) from qup_self (fun i => if i < 0 then 100 else 0) 0]
          exact this
        generalize qup f (2) (weighQ (f (2)) z) = f4 at *
        clear s3 s4 t4 HFW HFS HFW1 HFS1 hgw c4 c8 f8 hW' HW hu1 hu2
        go_wp2_with fail
        go_loopw [11] (fun jv wr => ∃ (j : Nat) (f : Nat → Qu), j ≤ 100 ∧ jv = .int .i64 j ∧ FW w w.heap.size w2.heap.size (w2.heap.size + 1) Wb.heap.size a1 a2 q W' (fun _ => 0) f wr ∧ FS f W' (qup (fun i => if i < 0 then 100 else 0) 0 j)) (fun jv _ => 100 - (intOf jv).toNat)
        case atStart => exact ⟨0, f4, by omega, rfl, unhide HFW4, unhide HFS2⟩
        case round =>
          obtain ⟨j, f5, hj, rfl, hFW, hFS⟩ := hrel
          have HFW := hide hFW
          have HFS := hide hFS
          clear hFW hFS HFW4 HFS2
          by_cases hjl : j < 100
          · have q1 : (j : Int) < 100 := by omega
            obtain ⟨ix, hix⟩ : ∃ ix, ix = (j + 7 * 0) % m := ⟨_, rfl⟩
            have hixm : ix < m := by rw [hix]; exact Nat.mod_lt _ hm2.1
            have hmod : ((j : Int)).tmod (m : Int) = (ix : Int) := by
              rw [hix, show ((j : Int)) = ((j + 7 * 0 : Nat) : Int) by omega]
              rfl
            have hixl : ix < l.length := by rw [unhide HM]; exact hixm
            obtain ⟨gl, ol, rfl, cl⟩ := unhide HI ix hixl
            obtain ⟨y, hy⟩ : ∃ y, l[ix] = y := ⟨_, rfl⟩
            rw [hy] at cl
            have cl2 := cell_below cl (unhide HFW).be
            obtain ⟨v1, v2, hv1, hv2, hb1, hb2, hb3, hb4⟩ := modz y 5000 (by decide)
            obtain ⟨sz, hsz⟩ : ∃ sz, 1 + v2 = sz := ⟨_, rfl⟩
            have hsz1 : 1 ≤ sz ∧ sz ≤ 5000 := by omega
            have hga := hide (fun V x h => add_ok w.heap.size Wb.heap.size (2) sz q f5 V x h (by decide) (by omega) (by rw [show (f5 2).w = W' 0 from (unhide HFS).w 0 (by decide), unhide hWz]; omega) (by rw [show (f5 2).l.length = _ from (unhide HFS).n 0 (by decide), qup_same]; exact hjl))
            have HFS6 : Hid (FS (qup f5 (2) ⟨(f5 (2)).w, (f5 (2)).c, (f5 (2)).l ++ [sz]⟩) W' (qup (fun i => if i < 0 then 100 else 0) 0 (j + 1))) := by
              have := (unhide HFS).add 0 (by decide) sz hsz1
              rw [qup_same, qup_qup] at this
              exact this
            obtain ⟨V5, s5⟩ := (unhide HFW).sh
            have S5 := hide s5
            have q3 : (ix : Int) < m := by omega
            have q4 : ¬ (m : Int) = 0 := by omega
            clear cl hy hixl hix s5
            go_wp2_with fail
            clear hb1 hb2 hb3 hb4
            refine (unhide hga V5 wr (unhide S5)).mono ?_
            rintro e w6 ⟨rfl, V6, s6, t6⟩
            have HFW6 := hide ((unhide HFW).step (unhide S5) s6 t6)
            clear s6 t6 hga S5 cl2 hv1 hv2 hsz hmod
            go_wp2
            go_roundw
            case rel => exact ⟨j + 1, _, by omega, by go_num, unhide HFW6, unhide HFS6⟩
            case measure => simp [intOf]; omega
          · have q1 : ¬ (j : Int) < 100 := by omega
            have hj100 : j = 100 := by omega
            subst hj100
            have HFS6 : Hid (FS f5 W' (fun i => if i < 0 + 1 then 100 else 0)) := by
              have := unhide HFS
              rw [hund_succ] at this
              exact this
            go_wp2
            go_roundw
            case rel => exact ⟨0 + 1, W', f5, by omega, rfl, unhide HFW, unhide HFS6, unhide HWK⟩
            case measure => simp [intOf]
      · obtain ⟨u1, u2, hu1, hu2, hv1, hv2, hv3, hv4⟩ := modz a2 16 (by decide)
        have c4 := (unhide HFW).t4.c1
        have c8 := (unhide HFW).t8.c1
        have f8 := (unhide HFW).t8.free 1
        obtain ⟨z, hz⟩ : ∃ z, 1 + u2 = z := ⟨_, rfl⟩
        have hz1 : 1 ≤ z ∧ z ≤ 16 := by omega
        have HFW1 := hide ((unhide HFW).setW 1 (by decide) z)
        have HFS1 : Hid (FS (qup f 3 (weighQ (f 3) z)) (qup W 1 z) (fun i => if i < 1 then 100 else 0)) := (unhide HFS).weigh 1 (by decide) z hz1.1
        have hgw := hide (fun V x h => weigh_ok w.heap.size Wb.heap.size (3) z q f V x (by decide) (by omega) h)
        go_wp2_with fail
        clear hv1 hv2 hv3 hv4
        generalize wr.setCell ⟨w2.heap.size, 1, none⟩ (.int .i64 z) = w3 at *
        obtain ⟨V3, s3⟩ := (unhide HFW1).sh
        refine (unhide hgw V3 w3 s3).mono ?_
        rintro e w4 ⟨rfl, V4, s4, t4⟩
        have HFW4 := hide ((unhide HFW1).step s3 s4 t4)
        have HWK : Hid (∀ i, i < 1 + 1 → 1 ≤ qup W 1 z i ∧ qup W 1 z i ≤ 16) := by
          intro i hi
          by_cases e : i = 1
          · subst e; rw [qup_same]; exact hz1
          · rw [qup_other W _ _ e]; exact unhide HW i (by omega)
        have hWz : Hid (qup W 1 z 1 = z) := qup_same W 1 z
        obtain ⟨W', hW'⟩ : ∃ W', W' = qup W 1 z := ⟨_, rfl⟩
        rw [← hW'] at HFW4 HFS1 HWK hWz
        have HFS2 : Hid (FS (qup f (3) (weighQ (f (3)) z)) W' (qup (fun i => if i < 1 then 100 else 0) 1 0)) := by
          have := unhide HFS1
          rw [show qup (fun i => if i < 1 then 100 else 0) 1 0 = (fun i => if i < 1 then 100 else 0) from qup_self (fun i => if i < 1 then 100 else 0) 1]
          exact this
        generalize qup f (3) (weighQ (f (3)) z) = f4 at *
        clear s3 s4 t4 HFW HFS HFW1 HFS1 hgw c4 c8 f8 hW' HW hu1 hu2
        go_wp2_with fail
        go_loopw [11] (fun jv wr => ∃ (j : Nat) (f : Nat → Qu), j ≤ 100 ∧ jv = .int .i64 j ∧ FW w w.heap.size w2.heap.size (w2.heap.size + 1) Wb.heap.size a1 a2 q W' (fun _ => 0) f wr ∧ FS f W' (qup (fun i => if i < 1 then 100 else 0) 1 j)) (fun jv _ => 100 - (intOf jv).toNat)
        case atStart => exact ⟨0, f4, by omega, rfl, unhide HFW4, unhide HFS2⟩
        case round =>
          obtain ⟨j, f5, hj, rfl, hFW, hFS⟩ := hrel
          have HFW := hide hFW
          have HFS := hide hFS
          clear hFW hFS HFW4 HFS2
          by_cases hjl : j < 100
          · have q1 : (j : Int) < 100 := by omega
            obtain ⟨ix, hix⟩ : ∃ ix, ix = (j + 7 * 1) % m := ⟨_, rfl⟩
            have hixm : ix < m := by rw [hix]; exact Nat.mod_lt _ hm2.1
            have hmod : ((j : Int) + 7).tmod (m : Int) = (ix : Int) := by
              rw [hix, show ((j : Int) + 7) = ((j + 7 * 1 : Nat) : Int) by omega]
              rfl
            have hixl : ix < l.length := by rw [unhide HM]; exact hixm
            obtain ⟨gl, ol, rfl, cl⟩ := unhide HI ix hixl
            obtain ⟨y, hy⟩ : ∃ y, l[ix] = y := ⟨_, rfl⟩
            rw [hy] at cl
            have cl2 := cell_below cl (unhide HFW).be
            obtain ⟨v1, v2, hv1, hv2, hb1, hb2, hb3, hb4⟩ := modz y 5000 (by decide)
            obtain ⟨sz, hsz⟩ : ∃ sz, 1 + v2 = sz := ⟨_, rfl⟩
            have hsz1 : 1 ≤ sz ∧ sz ≤ 5000 := by omega
            have hga := hide (fun V x h => add_ok w.heap.size Wb.heap.size (3) sz q f5 V x h (by decide) (by omega) (by rw [show (f5 3).w = W' 1 from (unhide HFS).w 1 (by decide), unhide hWz]; omega) (by rw [show (f5 3).l.length = _ from (unhide HFS).n 1 (by decide), qup_same]; exact hjl))
            have HFS6 : Hid (FS (qup f5 (3) ⟨(f5 (3)).w, (f5 (3)).c, (f5 (3)).l ++ [sz]⟩) W' (qup (fun i => if i < 1 then 100 else 0) 1 (j + 1))) := by
              have := (unhide HFS).add 1 (by decide) sz hsz1
              rw [qup_same, qup_qup] at this
              exact this
            obtain ⟨V5, s5⟩ := (unhide HFW).sh
            have S5 := hide s5
            have q3 : (ix : Int) < m := by omega
            have q4 : ¬ (m : Int) = 0 := by omega
            clear cl hy hixl hix s5
            go_wp2_with fail
            clear hb1 hb2 hb3 hb4
            refine (unhide hga V5 wr (unhide S5)).mono ?_
            rintro e w6 ⟨rfl, V6, s6, t6⟩
            have HFW6 := hide ((unhide HFW).step (unhide S5) s6 t6)
            clear s6 t6 hga S5 cl2 hv1 hv2 hsz hmod
            go_wp2
            go_roundw
            case rel => exact ⟨j + 1, _, by omega, by go_num, unhide HFW6, unhide HFS6⟩
            case measure => simp [intOf]; omega
          · have q1 : ¬ (j : Int) < 100 := by omega
            have hj100 : j = 100 := by omega
            subst hj100
            have HFS6 : Hid (FS f5 W' (fun i => if i < 1 + 1 then 100 else 0)) := by
              have := unhide HFS
              rw [hund_succ] at this
              exact this
            go_wp2
            go_roundw
            case rel => exact ⟨1 + 1, W', f5, by omega, rfl, unhide HFW, unhide HFS6, unhide HWK⟩
            case measure => simp [intOf]
    · have hk2 : k = 2 := by omega
      have q0 : ¬ (k : Int) < 2 := by omega
      have HW2 : Hid (∀ i, i < 2 → 1 ≤ W i ∧ W i ≤ 16) := fun i hi => unhide HW i (by omega)
      have HFT : Hid (FT f W (fun _ => 0) q 0) := by
        have h := unhide HFS
        rw [hk2] at h
        exact h.start (fun i hi => by show (if i < 2 then 100 else 0) ≤ 100; rw [if_pos hi]; exact Nat.le_refl _) q
      clear hk2 HW HFS
      have HW := HW2
      clear HW2
      go_wp2_with fail
      go_loopw [12] (fun nv wr => ∃ (n : Nat) (S : Nat → Int) (f : Nat → Qu), n ≤ 30 ∧ nv = .int .i64 (n + 1) ∧ FW w w.heap.size w2.heap.size (w2.heap.size + 1) Wb.heap.size a1 a2 q W S f wr ∧ FT f W S q n) (fun nv _ => 31 - (intOf nv).toNat)
      case atStart => exact ⟨0, _, f, by omega, rfl, unhide HFW, unhide HFT⟩
      case round =>
        obtain ⟨n, S, f1, hn, rfl, hFW, hFT⟩ := hrel
        have HFW1 := hide hFW
        have HFT1 := hide hFT
        clear hFW hFT HFW HFT
        obtain ⟨V1, s1⟩ := (unhide HFW1).sh
        have S1 := hide s1
        have gw2 := hide (waits_any w.heap.size Wb.heap.size 2 q f1 V1 wr s1)
        have gw3 := hide (waits_any w.heap.size Wb.heap.size 3 q f1 V1 wr s1)
        rw [show waitsN f1 2 = ((f1 2).l.length : Int) by unfold waitsN; rw [if_pos (by decide)]; rfl] at gw2
        rw [show waitsN f1 3 = ((f1 3).l.length : Int) by unfold waitsN; rw [if_pos (by decide)]; rfl] at gw3
        obtain ⟨L2, hL2⟩ : ∃ L2, L2 = (f1 2).l.length := ⟨_, rfl⟩
        obtain ⟨L3, hL3⟩ : ∃ L3, L3 = (f1 3).l.length := ⟨_, rfl⟩
        rw [← hL2] at gw2
        rw [← hL3] at gw3
        have HL2 := hide hL2
        have HL3 := hide hL3
        clear s1 hL2 hL3
        by_cases hn30 : n = 30
        · subst hn30
          go_wp2
          go_ret
          exact ⟨rfl, (unhide HFW1).be⟩
        have q1 : (n : Int) + 1 ≤ 30 := by omega
        by_cases h2 : L2 = 0
        · subst h2
          go_wp2_with fail
          refine (unhide gw2).mono ?_
          rintro e w3 ⟨rfl, rfl⟩
          go_wp2
          go_ret
          exact ⟨rfl, (unhide HFW1).be⟩
        have q2 : (0 : Int) < L2 := by omega
        by_cases h3 : L3 = 0
        · subst h3
          go_wp2_with fail
          refine (unhide gw2).mono ?_
          rintro e w3 ⟨rfl, rfl⟩
          go_wp2_with fail
          refine (unhide gw3).mono ?_
          rintro e w3 ⟨rfl, rfl⟩
          go_wp2
          go_ret
          exact ⟨rfl, (unhide HFW1).be⟩
        have q3 : (0 : Int) < L3 := by omega
        have hne : Hid (∀ i, i < 2 → (f1 (2 + i)).l ≠ []) := by
          intro i hi e
          rcases (show i = 0 ∨ i = 1 by omega) with rfl | rfl
          · have e' : (f1 2).l = [] := e
            have := unhide HL2
            rw [e'] at this
            exact h2 this
          · have e' : (f1 3).l = [] := e
            have := unhide HL3
            rw [e'] at this
            exact h3 this
        have gt := hide (turns_any w.heap.size Wb.heap.size q f1 V1 wr (unhide S1) (by omega) ((unhide HFT1).ok (unhide HW)))
        rw [FT.e (W := W) (S := S) (q := q) (n := n) (unhide hne), (unhide HFT1).sent] at gt
        have hS2 : Hid (sumR ((sentN f1 q 0).map (fun s => ((2 : Int), s)) ++ (sentN f1 q 1).map (fun s => ((3 : Int), s))) 2 = sumZ (sentN f1 q 0)) := sumR_all.1
        have hS3 : Hid (sumR ((sentN f1 q 0).map (fun s => ((2 : Int), s)) ++ (sentN f1 q 1).map (fun s => ((3 : Int), s))) 3 = sumZ (sentN f1 q 1)) := sumR_all.2
        have hrow : Hid (∀ x ∈ (sentN f1 q 0).map (fun s => ((2 : Int), s)) ++ (sentN f1 q 1).map (fun s => ((3 : Int), s)), (x.1 = 2 ∨ x.1 = 3) ∧ 1 ≤ x.2 ∧ x.2 ≤ 5000) := by
          intro x hx
          rw [List.mem_append, List.mem_map, List.mem_map] at hx
          rcases hx with ⟨y, hy, rfl⟩ | ⟨y, hy, rfl⟩
          · exact ⟨.inl rfl, (unhide HFT1).s 0 (by decide) y (List.mem_of_mem_take hy)⟩
          · exact ⟨.inr rfl, (unhide HFT1).s 1 (by decide) y (List.mem_of_mem_take hy)⟩
        have hlen : ((sentN f1 q 0).map (fun s => ((2 : Int), s)) ++ (sentN f1 q 1).map (fun s => ((3 : Int), s))).length ≤ 200 := by
          rw [List.length_append, List.length_map, List.length_map]
          have h1 := (unhide HFT1).ln 0 (by decide)
          have h2 := (unhide HFT1).ln 1 (by decide)
          unfold sentN
          rw [List.length_take, List.length_take]
          omega
        generalize (sentN f1 q 0).map (fun s => ((2 : Int), s)) ++ (sentN f1 q 1).map (fun s => ((3 : Int), s)) = SL at *
        have HFT3 := hide ((unhide HFT1).turn (unhide HW) hq1 (unhide hne))
        have hsb0 := (unhide HFT1).sb 0 (by decide)
        have hsb1 := (unhide HFT1).sb 1 (by decide)
        go_wp2_with fail
        refine (unhide gw2).mono ?_
        rintro e w3 ⟨rfl, rfl⟩
        go_wp2_with fail
        refine (unhide gw3).mono ?_
        rintro e w3 ⟨rfl, rfl⟩
        go_wp2_with fail
        refine (unhide gt).mono ?_
        rintro e w3 ⟨v, rfl, hR⟩
        obtain ⟨V3, s3, t3⟩ := hR.sh
        have HFW3 := hide ((unhide HFW1).step (unhide S1) s3 t3)
        obtain ⟨bs, hbs2⟩ : ∃ bs, bs = wr.heap.size := ⟨_, rfl⟩
        have HO : Hid (OwnSt w3 bs v SL) := by rw [hbs2]; exact hR.st
        obtain ⟨sa, sc, rfl⟩ := ownSt_shape hR.st
        generalize turnF f1 q 16 = f3 at *
        generalize hns : SL.length = ns at *
        have HNS := hide hns
        clear s3 t3 hR gw2 gw3 gt S1 HFW1 hbs2 hns hne HFT1 HL2 HL3
        go_wp2_with fail
        go_loopw [15] (fun iv wr => ∃ (j : Nat) (S1 : Nat → Int), j ≤ ns ∧ iv = .int .i64 j ∧ FW w w.heap.size w2.heap.size (w2.heap.size + 1) Wb.heap.size a1 a2 q W S1 f3 wr ∧ S1 0 = S 0 + sumR (SL.take j) 2 ∧ S1 1 = S 1 + sumR (SL.take j) 3 ∧ OwnSt wr bs (.slice sa ns sc) SL) (fun iv _ => ns - (intOf iv).toNat)
        case atStart => exact ⟨0, S, by omega, rfl, unhide HFW3, by simp [sumR, sumZ], by simp [sumR, sumZ], unhide HO⟩
        case round =>
          obtain ⟨j, S1, hj, rfl, hFW, hs0, hs1, hO⟩ := hrel
          have HFW := hide hFW
          have HO2 := hide hO
          have HS0 := hide hs0
          have HS1 := hide hs1
          clear hFW hO hs0 hs1 HFW3 HO
          by_cases hjl : j < ns
          · have hjL : j < SL.length := by rw [unhide HNS]; exact hjl
            obtain ⟨g, cap, hv, _, _⟩ := World.ownsRow.form (show World.ownsRow _ _ _ _ _ _ _ from unhide HO2) (by omega)
            rw [unhide HNS] at hv
            cases hv
            obtain ⟨c0, c1⟩ := ownSt_cells (unhide HO2) (unhide HNS) j hjL
            have hmem := unhide hrow SL[j] (List.getElem_mem hjL)
            have htk : SL.take (j + 1) = SL.take j ++ [SL[j]] := List.take_succ_eq_append_getElem hjL
            have hbd0 := sumR_in (SL.take j) 2 (fun y hy => (unhide hrow y (List.mem_of_mem_take hy)).2)
            have hbd1 := sumR_in (SL.take j) 3 (fun y hy => (unhide hrow y (List.mem_of_mem_take hy)).2)
            have htl : (SL.take j).length = j := by rw [List.length_take]; omega
            rw [htl] at hbd0 hbd1
            obtain ⟨⟨r, z⟩, hrz⟩ : ∃ p, SL[j] = p := ⟨_, rfl⟩
            rw [hrz] at c0 c1 hmem htk
            have hr := hmem.1
            have hz := hmem.2
            simp only at hr hz c0 c1
            have hx0 : Hid (∀ y, sumR (SL.take (j + 1)) y = sumR (SL.take j) y + (if r = y then z else 0)) := by
              intro y
              rw [htk, sumR_snoc]
            have hd0 := (unhide HFW).t9.c0
            have hd1 := (unhide HFW).t9.c1
            have hf0 := (unhide HFW).t9.free 0
            have hf1 := (unhide HFW).t9.free 1
            have hS0b : 0 ≤ S1 0 ∧ S1 0 ≤ 100000000 := by have := unhide HS0; omega
            have hS1b : 0 ≤ S1 1 ∧ S1 1 ≤ 100000000 := by have := unhide HS1; omega
            have q5 : (j : Int) < ns := by omega
            clear hmem htk hbd0 hbd1 htl hrz hjL
            rcases hr with rfl | rfl
            · have HFW4 := hide ((unhide HFW).setS 0 (by decide) (S1 0 + z)).drew
              have HO4 : Hid (OwnSt (wr.setCell ⟨w2.heap.size + 1, 0, none⟩ (.int .i64 (S1 0 + z))).drew bs (.slice (some ⟨g, 0, none⟩) ns sc) SL) := ownSt_other (unhide HO2) (unhide HFW).t9 (by decide)
              go_wp2
              go_region
              go_wp2
              go_roundw
              case rel => exact ⟨j + 1, qup S1 0 (S1 0 + z), by omega, by go_num, unhide HFW4, by rw [qup_same, unhide hx0, if_pos rfl, unhide HS0]; omega, by rw [qup_other S1 _ _ (by decide), unhide hx0, if_neg (by decide), unhide HS1]; omega, unhide HO4⟩
              case measure => simp [intOf]; omega
            · have HFW4 := hide ((unhide HFW).setS 1 (by decide) (S1 1 + z)).drew
              have HO4 : Hid (OwnSt (wr.setCell ⟨w2.heap.size + 1, 1, none⟩ (.int .i64 (S1 1 + z))).drew bs (.slice (some ⟨g, 0, none⟩) ns sc) SL) := ownSt_other (unhide HO2) (unhide HFW).t9 (by decide)
              go_wp2
              go_region
              go_wp2
              go_roundw
              case rel => exact ⟨j + 1, qup S1 1 (S1 1 + z), by omega, by go_num, unhide HFW4, by rw [qup_other S1 _ _ (by decide), unhide hx0, if_neg (by decide), unhide HS0]; omega, by rw [qup_same, unhide hx0, if_pos rfl, unhide HS1]; omega, unhide HO4⟩
              case measure => simp [intOf]; omega
          · have q5 : ¬ (j : Int) < ns := by omega
            have hall : SL.take j = SL := List.take_of_length_le (by rw [unhide HNS]; omega)
            obtain ⟨S2, hS2e⟩ : ∃ S2 : Nat → Int, S2 = fun i => S i + sumZ (sentN f1 q i) := ⟨_, rfl⟩
            have HFW5 : Hid (FW w w.heap.size w2.heap.size (w2.heap.size + 1) Wb.heap.size a1 a2 q W S2 f3 wr) := by
              refine (unhide HFW).congr ?_ ?_
              · rw [unhide HS0, hall, unhide hS2, hS2e]
              · rw [unhide HS1, hall, unhide hS3, hS2e]
            have HFT5 : Hid (FT f3 W S2 q (n + 1)) := by rw [hS2e]; exact unhide HFT3
            clear hall hS2e HFW HO2 HS0 HS1 HFT3 hS2 hS3 hrow hsb0 hsb1
            go_wp2_with fail
            go_loopw [16] (fun kv wr => ∃ (k : Nat), k ≤ 2 ∧ kv = .int .i64 k ∧ FW w w.heap.size w2.heap.size (w2.heap.size + 1) Wb.heap.size a1 a2 q W S2 f3 wr) (fun kv _ => 2 - (intOf kv).toNat)
            case atStart => exact ⟨0, by omega, rfl, unhide HFW5⟩
            case round =>
              obtain ⟨k, hk, rfl, hFW⟩ := hrel
              have HFW6 := hide hFW
              clear hFW HFW5
              by_cases hk2 : k < 2
              · rcases (show k = 0 ∨ k = 1 by omega) with rfl | rfl
                · obtain ⟨V6, s6⟩ := (unhide HFW6).sh
                  have S6 := hide s6
                  have gc := hide (credit_any w.heap.size Wb.heap.size 2 q f3 V6 wr s6)
                  have gw := hide (fun x h => waits_any w.heap.size Wb.heap.size 2 q f3 V6 x h)
                  rw [show creditN f3 2 = (f3 2).c by unfold creditN; rw [if_pos (by decide)]; rfl] at gc
                  rw [show waitsN f3 2 = ((f3 2).l.length : Int) by unfold waitsN; rw [if_pos (by decide)]; rfl] at gw
                  have hcb : 0 ≤ (f3 2).c ∧ (f3 2).c ≤ 5000 := (unhide HFT5).c 0 (by decide)
                  have hsb := (unhide HFT5).sb 0 (by decide)
                  have hwb := unhide HW 0 (by decide)
                  have hbal : Hid ((f3 2).l ≠ [] → S2 0 + (f3 2).c = ((n + 1 : Nat) : Int) * W 0 * q ∧ (f3 2).c < 5000) := (unhide HFT5).bal 0 (by decide)
                  obtain ⟨cc, hcc⟩ : ∃ cc, cc = (f3 2).c := ⟨_, rfl⟩
                  obtain ⟨LL, hLL⟩ : ∃ LL, LL = (f3 2).l.length := ⟨_, rfl⟩
                  have hbal2 : Hid (LL ≠ 0 → S2 0 + cc = ((n : Int) + 1) * W 0 * q ∧ cc < 5000) := by
                    intro h
                    rw [hcc]
                    have h1 := unhide hbal (fun e => h (by rw [hLL, e]; rfl))
                    rw [Int.natCast_add] at h1
                    exact h1
                  rw [← hcc] at gc hcb
                  rw [← hLL] at gw
                  have hm1 : 0 ≤ ((n : Int) + 1) * W 0 ∧ ((n : Int) + 1) * W 0 ≤ 30 * 16 := ⟨Int.mul_nonneg (by omega) (by omega), Int.mul_le_mul (by omega) hwb.2 (by omega) (by omega)⟩
                  obtain ⟨m1, hm1e⟩ : ∃ m1, ((n : Int) + 1) * W 0 = m1 := ⟨_, rfl⟩
                  rw [hm1e] at hm1 hbal2
                  have hm2' : 0 ≤ m1 * q ∧ m1 * q ≤ 480 * 2000 := ⟨Int.mul_nonneg (by omega) (by omega), Int.mul_le_mul (by omega) hq1.2 (by omega) (by omega)⟩
                  obtain ⟨mq, hmqe⟩ : ∃ mq, m1 * q = mq := ⟨_, rfl⟩
                  rw [hmqe] at hm2' hbal2
                  have hsb2 : 0 ≤ S2 0 ∧ S2 0 ≤ 100000000 := by omega
                  clear hcc hLL hbal s6 hsb
                  by_cases hL0 : LL = 0
                  · subst hL0
                    go_wp2_with fail
                    refine (unhide gc).mono ?_
                    rintro e w7 ⟨rfl, rfl⟩
                    go_wp2_with fail
                    refine wp_region_gr (fun x => Below wr.heap.size wr x) (by kernel_rfl) (by kernel_rfl) (gb_start wr) ?_
                    have hneZ : Nonempty (Gb wr) := gb_ne wr
                    repeat (go_big_quiet_step ((go_at_call 27; exact gb_same (unhide gw _ ((unhide S6).up (Gr.ok _))))))
                    refine wpQuiet_nil ?_
                    rintro w8 ⟨x8, rfl⟩
                    have b8 := x8.ok
                    have HFW8 := hide ((unhide HFW6).up b8)
                    generalize x8.w = w8 at *
                    clear b8 S6 gw gc
                    go_wp2
                    go_roundw
                    case rel => exact ⟨0 + 1, by omega, rfl, unhide HFW8⟩
                    case measure => simp [intOf]
                  · have hb := unhide hbal2 hL0
                    have hbe : S2 0 + cc = mq := hb.1
                    have y1 : (0 : Int) < LL := by omega
                    have y2 : decide ((0 : Int) < LL) = true := decide_eq_true y1
                    have y3 : ¬ cc < 0 := by omega
                    have y4 : ¬ 5000 ≤ cc := by have := hb.2; omega
                    have y5 : decide (cc < 0) = false := decide_eq_false y3
                    have y6 : decide (5000 ≤ cc) = false := decide_eq_false y4
                    clear hb
                    go_wp2_with fail
                    refine (unhide gc).mono ?_
                    rintro e w7 ⟨rfl, rfl⟩
                    go_wp2_with fail
                    refine wp_region_gr (fun x => Below wr.heap.size wr x) (by kernel_rfl) (by kernel_rfl) (gb_start wr) ?_
                    have hneZ : Nonempty (Gb wr) := gb_ne wr
                    have p8 : ∀ y : Gb wr, y.w.cell? ⟨w2.heap.size, 0, none⟩ = some (.int .i64 (W 0)) := fun y => gb_cell (unhide HFW6).t8.c0 y
                    have p9 : ∀ y : Gb wr, y.w.cell? ⟨w2.heap.size + 1, 0, none⟩ = some (.int .i64 (S2 0)) := fun y => gb_cell (unhide HFW6).t9.c0 y
                    have y3b : ¬ cc < 0 := by omega
                    have y4b : ¬ 5000 ≤ cc := by omega
                    have y1b : (0 : Int) < (LL : Int) := by omega
                    have y2b : decide ((0 : Int) < (LL : Int)) = true := decide_eq_true y1b
                    have y1c : 0 < LL := by omega
                    have y2c : decide (0 < LL) = true := decide_eq_true y1c
                    have y5b : decide (cc < 0) = false := decide_eq_false y3b
                    have y6b : decide (5000 ≤ cc) = false := decide_eq_false y4b
                    repeat (go_big_quiet_step ((go_at_call 27; exact gb_same (unhide gw _ ((unhide S6).up (Gr.ok _))))))
                    refine wpQuiet_nil ?_
                    rintro w8 ⟨x8, rfl⟩
                    have b8 := x8.ok
                    have HFW8 := hide ((unhide HFW6).up b8)
                    generalize x8.w = w8 at *
                    clear b8 S6 gw gc p8 p9
                    go_wp2
                    go_roundw
                    case rel => exact ⟨0 + 1, by omega, rfl, unhide HFW8⟩
                    case measure => simp [intOf]
                · obtain ⟨V6, s6⟩ := (unhide HFW6).sh
                  have S6 := hide s6
                  have gc := hide (credit_any w.heap.size Wb.heap.size 3 q f3 V6 wr s6)
                  have gw := hide (fun x h => waits_any w.heap.size Wb.heap.size 3 q f3 V6 x h)
                  rw [show creditN f3 3 = (f3 3).c by unfold creditN; rw [if_pos (by decide)]; rfl] at gc
                  rw [show waitsN f3 3 = ((f3 3).l.length : Int) by unfold waitsN; rw [if_pos (by decide)]; rfl] at gw
                  have hcb : 0 ≤ (f3 3).c ∧ (f3 3).c ≤ 5000 := (unhide HFT5).c 1 (by decide)
                  have hsb := (unhide HFT5).sb 1 (by decide)
                  have hwb := unhide HW 1 (by decide)
                  have hbal : Hid ((f3 3).l ≠ [] → S2 1 + (f3 3).c = ((n + 1 : Nat) : Int) * W 1 * q ∧ (f3 3).c < 5000) := (unhide HFT5).bal 1 (by decide)
                  obtain ⟨cc, hcc⟩ : ∃ cc, cc = (f3 3).c := ⟨_, rfl⟩
                  obtain ⟨LL, hLL⟩ : ∃ LL, LL = (f3 3).l.length := ⟨_, rfl⟩
                  have hbal2 : Hid (LL ≠ 0 → S2 1 + cc = ((n : Int) + 1) * W 1 * q ∧ cc < 5000) := by
                    intro h
                    rw [hcc]
                    have h1 := unhide hbal (fun e => h (by rw [hLL, e]; rfl))
                    rw [Int.natCast_add] at h1
                    exact h1
                  rw [← hcc] at gc hcb
                  rw [← hLL] at gw
                  have hm1 : 0 ≤ ((n : Int) + 1) * W 1 ∧ ((n : Int) + 1) * W 1 ≤ 30 * 16 := ⟨Int.mul_nonneg (by omega) (by omega), Int.mul_le_mul (by omega) hwb.2 (by omega) (by omega)⟩
                  obtain ⟨m1, hm1e⟩ : ∃ m1, ((n : Int) + 1) * W 1 = m1 := ⟨_, rfl⟩
                  rw [hm1e] at hm1 hbal2
                  have hm2' : 0 ≤ m1 * q ∧ m1 * q ≤ 480 * 2000 := ⟨Int.mul_nonneg (by omega) (by omega), Int.mul_le_mul (by omega) hq1.2 (by omega) (by omega)⟩
                  obtain ⟨mq, hmqe⟩ : ∃ mq, m1 * q = mq := ⟨_, rfl⟩
                  rw [hmqe] at hm2' hbal2
                  have hsb2 : 0 ≤ S2 1 ∧ S2 1 ≤ 100000000 := by omega
                  clear hcc hLL hbal s6 hsb
                  by_cases hL0 : LL = 0
                  · subst hL0
                    go_wp2_with fail
                    refine (unhide gc).mono ?_
                    rintro e w7 ⟨rfl, rfl⟩
                    go_wp2_with fail
                    refine wp_region_gr (fun x => Below wr.heap.size wr x) (by kernel_rfl) (by kernel_rfl) (gb_start wr) ?_
                    have hneZ : Nonempty (Gb wr) := gb_ne wr
                    repeat (go_big_quiet_step ((go_at_call 27; exact gb_same (unhide gw _ ((unhide S6).up (Gr.ok _))))))
                    refine wpQuiet_nil ?_
                    rintro w8 ⟨x8, rfl⟩
                    have b8 := x8.ok
                    have HFW8 := hide ((unhide HFW6).up b8)
                    generalize x8.w = w8 at *
                    clear b8 S6 gw gc
                    go_wp2
                    go_roundw
                    case rel => exact ⟨1 + 1, by omega, rfl, unhide HFW8⟩
                    case measure => simp [intOf]
                  · have hb := unhide hbal2 hL0
                    have hbe : S2 1 + cc = mq := hb.1
                    have y1 : (0 : Int) < LL := by omega
                    have y2 : decide ((0 : Int) < LL) = true := decide_eq_true y1
                    have y3 : ¬ cc < 0 := by omega
                    have y4 : ¬ 5000 ≤ cc := by have := hb.2; omega
                    have y5 : decide (cc < 0) = false := decide_eq_false y3
                    have y6 : decide (5000 ≤ cc) = false := decide_eq_false y4
                    clear hb
                    go_wp2_with fail
                    refine (unhide gc).mono ?_
                    rintro e w7 ⟨rfl, rfl⟩
                    go_wp2_with fail
                    refine wp_region_gr (fun x => Below wr.heap.size wr x) (by kernel_rfl) (by kernel_rfl) (gb_start wr) ?_
                    have hneZ : Nonempty (Gb wr) := gb_ne wr
                    have p8 : ∀ y : Gb wr, y.w.cell? ⟨w2.heap.size, 1, none⟩ = some (.int .i64 (W 1)) := fun y => gb_cell (unhide HFW6).t8.c1 y
                    have p9 : ∀ y : Gb wr, y.w.cell? ⟨w2.heap.size + 1, 1, none⟩ = some (.int .i64 (S2 1)) := fun y => gb_cell (unhide HFW6).t9.c1 y
                    have y3b : ¬ cc < 0 := by omega
                    have y4b : ¬ 5000 ≤ cc := by omega
                    have y1b : (0 : Int) < (LL : Int) := by omega
                    have y2b : decide ((0 : Int) < (LL : Int)) = true := decide_eq_true y1b
                    have y1c : 0 < LL := by omega
                    have y2c : decide (0 < LL) = true := decide_eq_true y1c
                    have y5b : decide (cc < 0) = false := decide_eq_false y3b
                    have y6b : decide (5000 ≤ cc) = false := decide_eq_false y4b
                    repeat (go_big_quiet_step ((go_at_call 27; exact gb_same (unhide gw _ ((unhide S6).up (Gr.ok _))))))
                    refine wpQuiet_nil ?_
                    rintro w8 ⟨x8, rfl⟩
                    have b8 := x8.ok
                    have HFW8 := hide ((unhide HFW6).up b8)
                    generalize x8.w = w8 at *
                    clear b8 S6 gw gc p8 p9
                    go_wp2
                    go_roundw
                    case rel => exact ⟨1 + 1, by omega, rfl, unhide HFW8⟩
                    case measure => simp [intOf]
              · have hkk : k = 2 := by omega
                subst hkk
                go_wp2
                go_roundw
                case rel => exact ⟨n + 1, S2, f3, by omega, by go_num, unhide HFW6, unhide HFT5⟩
                case measure => simp [intOf]; omega
end Go.Proofs.Ytiibdlddamcfaaa

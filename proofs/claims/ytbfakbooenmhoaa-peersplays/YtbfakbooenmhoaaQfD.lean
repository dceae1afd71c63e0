/- peers: an act leaves who was banned away, and room enough. -/
import Derived.Test.YtbfakbooenmhoaaZfB
import Derived.Test.YtbfakbooenmhoaaQeB1
import Derived.Test.YtbfakbooenmhoaaQeB5
import Derived.Test.YtbfakbooenmhoaaQeB6
import Derived.Test.YtbfakbooenmhoaaQeB7
import Derived.Test.YtbfakbooenmhoaaQeB8
import Derived.Test.YtbfakbooenmhoaaQeB9
import Derived.Test.YtbfakbooenmhoaaZeC
import Derived.Test.YtbfakbooenmhoaaOpenPa
namespace Go.Proofs.Ytbfakbooenmhoaa
open Go.RowKit
set_option linter.unusedVariables false
attribute [local go_sem] Oper.semAt_some

theorem PRes.weak {B b : Nat} {room tmo : Int} {P : Nat → Option Nat} {R R' : (Nat → Option Nat) → (Nat → Pr) → (Nat → Bool) → Prop} {w w' : World} (h : PRes B b room tmo P R w w') (hR : ∀ P' C' Bn', R P' C' Bn' → R' P' C' Bn') : PRes B b room tmo P R' w w' := by
  obtain ⟨P', C', Bn', h1, h2⟩ := h.ex
  exact ⟨⟨P', C', Bn', hR _ _ _ h1, h2⟩, h.kt⟩
/-- no banned one is there, and there are not more than there is room for -/
structure BI (room : Int) (P : Nat → Option Nat) (Bn : Nat → Bool) : Prop where
  no : ∀ q, q < 16 → Bn q = true → P q = none
  le : ((ns P).length : Int) ≤ room
/-- behind an act -/
structure RB (room : Int) (Bn : Nat → Bool) (p : Pa) (P' : Nat → Option Nat) (C' : Nat → Pr) (Bn' : Nat → Bool) : Prop where
  bi : BI room P' Bn'
  mono : ∀ q, Bn q = true → Bn' q = true
  ban : p.kd = 3 → isPr p.nd = true → Bn' p.nd.toNat = true
theorem lst_nlen (P : Nat → Option Nat) (C : Nat → Pr) : (lst P C 16).length = (ns P).length := by rw [lst_ns, List.length_map]
theorem ns_cut_le (P : Nat → Option Nat) (p : Nat) : (ns (tup P p none)).length ≤ (ns P).length := by
  rw [ns_cut]
  exact List.length_filter_le _ _
theorem cut_none {P : Nat → Option Nat} {p q : Nat} (h : P q = none) : tup P p none q = none := by
  unfold tup
  split
  · rfl
  · exact h
theorem ex_sub (P : Nat → Option Nat) (C : Nat → Pr) (tmo now : Int) : (ns (exP P C tmo now 16)).length ≤ (ns P).length := by
  unfold ns
  have : ∀ l : List Nat, ((l.filter fun q => (exP P C tmo now 16 q).isSome)).length ≤ (l.filter fun q => (P q).isSome).length := by
    intro l
    induction l with
    | nil => exact Nat.le_refl _
    | cons x l ih =>
      rw [List.filter_cons, List.filter_cons]
      by_cases h : (exP P C tmo now 16 x).isSome = true
      · obtain ⟨g, hg⟩ := Option.isSome_iff_exists.1 h
        rw [if_pos h, if_pos (by rw [exP_sub P C tmo now 16 x g hg]; rfl)]
        simpa using ih
      · rw [if_neg h]
        split
        · exact Nat.le_succ_of_le ih
        · exact ih
  exact this _
theorem ex_none {P : Nat → Option Nat} {C : Nat → Pr} {tmo now : Int} {q : Nat} (h : P q = none) : exP P C tmo now 16 q = none := by
  cases hq : exP P C tmo now 16 q with
  | none => rfl
  | some g => rw [exP_sub P C tmo now 16 q g hq] at h; cases h
theorem rb_same {room : Int} {P : Nat → Option Nat} {Bn : Nat → Bool} {p : Pa} (h : BI room P Bn) (hk : p.kd ≠ 3) (C' : Nat → Pr) : RB room Bn p P C' Bn := ⟨h, fun _ h => h, fun e => absurd e hk⟩
theorem nil_dt (B : Nat) (w : World) : Dt B w (.slice none 0 0) (.slice none 0 0) [] [] := ⟨World.ownsRow_nil _ _ _ _, World.ownsRow_nil _ _ _ _, by simp, by simp⟩
theorem ares_ban {B b : Nat} {room tmo : Int} {P : Nat → Option Nat} {R : (Nat → Option Nat) → (Nat → Pr) → (Nat → Bool) → Prop} {w w' : World} {eq : Prop} {L : List Pr} {Bs : List Int} {e : Ending} (h : ARes B b room tmo P R w eq L Bs e w') : (∃ v, e = .returned v) ∧ PRes B b room tmo P R w w' := by
  obtain ⟨v, vb, r, h1, _⟩ := h.ex
  exact ⟨⟨_, h1⟩, h.pr⟩
set_option maxRecDepth 100000 in
set_option maxHeartbeats 4000000 in
theorem do_ban (p : Pa) (B b : Nat) (room tmo : Int) (P : Nat → Option Nat) (C : Nat → Pr) (Bn : Nat → Bool) (w : World) (h : Tb B w b room tmo P C Bn) (hB : B ≤ w.heap.size) (hrm : room ≤ 15) (hI : BI room P Bn) :
    Calls Try.prog 10 #[.pointer (some ⟨b, 0, none⟩), tabV room tmo (.slice none 0 0) (.slice none 0 0), .agg p.cl.toArray] w fun e w' => (∃ v, e = .returned v) ∧ PRes B b room tmo P (RB room Bn p) w w' := by
  obtain ⟨kd, nd, n, x, y, s, on⟩ := p
  have hd := nil_dt B w
  have hS : ∀ c ∈ ([] : List Pr), Bd c := fun c hc => by cases hc
  have ws : ∀ x, Below w.heap.size w x → B ≤ x.heap.size := fun x hx => Nat.le_trans hB hx.size
  show Calls Try.prog 10 #[.pointer (some ⟨b, 0, none⟩), tabV room tmo (.slice none 0 0) (.slice none 0 0), .agg #[.int .i64 kd, .int .i64 nd, .int .i64 n, .int .i64 x, .int .i64 y, .string s, .bool on]] w _
  by_cases k0 : kd = 0
  · subst k0
    refine (ado0_any B b room tmo nd n x y s on _ P C Bn (RB room Bn ⟨0, nd, n, x, y, s, on⟩) _ _ [] [] w h hd hB hrm (fun z hz => (pmeet_any B b nd x y n room tmo P C Bn z hz).mono fun e w' ⟨h1, h2⟩ => ⟨h1, h2.weak ?_⟩)).mono fun e w' hr => ares_ban hr
    rintro P' C' Bn' ⟨rfl, ⟨_, rfl, rfl⟩ | ⟨h0, g, rfl, rfl⟩⟩
    · exact rb_same hI (by simp) _
    · have hA : isPr nd = true ∧ isPl x y = true ∧ isTm n = true := by
        apply Classical.byContradiction
        intro hn
        unfold mtE at h0
        rw [if_pos hn] at h0
        cases h0
      unfold mtE at h0
      rw [if_neg (fun hh => hh hA)] at h0
      obtain ⟨q, rfl, q1, q2⟩ := isPr_nat hA.1
      rw [Int.toNat_natCast] at h0 ⊢
      have hb : Bn' q ≠ true := fun e => by rw [if_pos e] at h0; cases h0
      rw [if_neg hb] at h0
      have ht : ¬ th P q = true := fun e => by rw [if_pos e] at h0; cases h0
      rw [if_neg ht] at h0
      have hr : ¬ room ≤ ((lst P C 16).length : Int) := fun e => by rw [if_pos e] at h0; cases h0
      rw [Bool.not_eq_true] at ht
      have hP : P q = none := by
        rcases th_no ht with h5 | ⟨p', e', _, _, h5⟩
        · rw [hA.1] at h5
          cases h5
        · have : p' = q := by omega
          subst this
          exact h5
      refine ⟨⟨fun z hz hbz => ?_, ?_⟩, fun _ h => h, fun e => absurd e (by simp)⟩
      · unfold tup
        by_cases e : z = q
        · subst e
          exact absurd hbz hb
        · rw [if_neg e]
          exact hI.no z hz hbz
      · have h1 := congrArg List.length (insL_lst h.nds (by omega) hP g (X := newP q x y n) rfl)
        rw [insL_len, lst_nlen, lst_nlen] at h1
        rw [lst_nlen] at hr
        omega
  by_cases k1 : kd = 1
  · subst k1
    exact (ado1_any B b room tmo nd n x y s on P (RB room Bn ⟨1, nd, n, x, y, s, on⟩) _ _ _ [] _ [] w hd hB (fun z hz => aset1_any B b room tmo nd n x y s on _ P C Bn (RB room Bn ⟨1, nd, n, x, y, s, on⟩) _ _ [] [] z (h.up hz) (hd.up hz) (ws z hz) hS (fun z hz => (phear_any B b nd n s on room tmo P C Bn z hz).mono fun e w' ⟨h1, h2⟩ => ⟨h1, h2.weak (by rintro P' C' Bn' ⟨rfl, rfl, rfl⟩; exact rb_same hI (by simp) _)⟩)) ⟨C, Bn, h⟩).mono fun e w' hr => ares_ban hr
  by_cases k2 : kd = 2
  · subst k2
    refine (ado2_any B b room tmo nd n x y s on _ P C Bn (RB room Bn ⟨2, nd, n, x, y, s, on⟩) _ _ [] [] w h hd hB (fun z hz => (pleave_any B b nd room tmo P C Bn z hz).mono fun e w' ⟨h1, h2⟩ => ⟨h1, h2.weak ?_⟩)).mono fun e w' hr => ares_ban hr
    rintro P' C' Bn' ⟨rfl, rfl, rfl⟩
    unfold lvP
    split
    · exact ⟨⟨fun q hq hb => cut_none (hI.no q hq hb), by have := ns_cut_le P nd.toNat; have := hI.le; omega⟩, fun _ h => h, fun e => absurd e (by simp)⟩
    · exact rb_same hI (by simp) _
  by_cases k3 : kd = 3
  · subst k3
    refine (ado3_any B b room tmo nd n x y s on _ P C Bn (RB room Bn ⟨3, nd, n, x, y, s, on⟩) _ _ [] [] w h hd hB (by decide) (fun z hz => (pban_any B b nd room tmo P C Bn z hz).mono fun e w' ⟨h1, h2⟩ => ⟨h1, h2.weak ?_⟩)).mono fun e w' hr => ares_ban hr
    rintro P' C' Bn' ⟨rfl, rfl, rfl⟩
    by_cases hp : isPr nd = true
    · rw [if_pos hp, if_pos hp]
      refine ⟨⟨fun q hq hb => ?_, by have := ns_cut_le P nd.toNat; have := hI.le; omega⟩, fun q hb => ?_, fun _ _ => ?_⟩
      · unfold tup at hb ⊢
        by_cases e : q = nd.toNat
        · rw [if_pos e]
        · rw [if_neg e] at hb ⊢
          exact hI.no q hq hb
      · unfold tup
        split
        · rfl
        · exact hb
      · unfold tup
        exact if_pos rfl
    · rw [if_neg hp, if_neg hp]
      exact ⟨hI, fun _ h => h, fun _ e => absurd e hp⟩
  by_cases k4 : kd = 4
  · subst k4
    refine (ado4_any B b room tmo nd n x y s on P C Bn (RB room Bn ⟨4, nd, n, x, y, s, on⟩) (if isTm n = true then exG P C tmo n 16 else []) _ _ [] [] w h hd hB hS ?_ (fun z hz => (pexpire_any B b n room tmo P C Bn z hz (Nat.le_trans hz.own (Nat.le_of_lt hz.tb.lt))).mono fun e w' ⟨v, h1, h2, h3⟩ => ⟨v, h1, h2, h3.weak ?_⟩)).mono fun e w' hr => ares_ban hr
    · split
      · have := exG_len P C tmo n 16
        omega
      · simp
    · rintro P' C' Bn' ⟨rfl, rfl, rfl⟩
      split
      · exact ⟨⟨fun q hq hb => ex_none (hI.no q hq hb), by have := ex_sub P C' tmo n; have := hI.le; omega⟩, fun _ h => h, fun e => absurd e (by simp)⟩
      · exact rb_same hI (by simp) _
  by_cases k5 : kd = 5
  · subst k5
    exact (ado5_any B b room tmo nd n x y s on P (RB room Bn ⟨5, nd, n, x, y, s, on⟩) _ _ _ [] _ [] w hd hB (fun z hz => aset5_any B b room tmo nd n x y s on _ P C Bn (RB room Bn ⟨5, nd, n, x, y, s, on⟩) _ _ [] [] z (h.up hz) (hd.up hz) (ws z hz) hS (fun z hz => (phave_any B b nd n s on room tmo P C Bn z hz).mono fun e w' ⟨h1, h2⟩ => ⟨h1, h2.weak (by rintro P' C' Bn' ⟨rfl, rfl, rfl⟩; exact rb_same hI (by simp) _)⟩)) ⟨C, Bn, h⟩).mono fun e w' hr => ares_ban hr
  by_cases k6 : kd = 6
  · subst k6
    exact (ado6_any B b room tmo nd n x y s on P (RB room Bn ⟨6, nd, n, x, y, s, on⟩) _ _ _ [] _ [] w hd hB (fun z hz => aset6_any B b room tmo nd n x y s on _ P C Bn (RB room Bn ⟨6, nd, n, x, y, s, on⟩) _ _ [] [] z (h.up hz) (hd.up hz) (ws z hz) hS (fun z hz => (pwants_any B b nd n s on room tmo P C Bn z hz).mono fun e w' ⟨h1, h2⟩ => ⟨h1, h2.weak (by rintro P' C' Bn' ⟨rfl, rfl, rfl⟩; exact rb_same hI (by simp) _)⟩)) ⟨C, Bn, h⟩).mono fun e w' hr => ares_ban hr
  by_cases k7 : kd = 7
  · subst k7
    exact (ado7_any B b room tmo nd n x y s on P (RB room Bn ⟨7, nd, n, x, y, s, on⟩) _ _ _ [] _ [] w hd hB (fun z hz => aset7_any B b room tmo nd n x y s on _ P C Bn (RB room Bn ⟨7, nd, n, x, y, s, on⟩) _ _ [] [] z (h.up hz) (hd.up hz) (ws z hz) hS (fun z hz => (popen_any B b nd n s on room tmo P C Bn z hz).mono fun e w' ⟨h1, h2⟩ => ⟨h1, h2.weak (by rintro P' C' Bn' ⟨rfl, rfl, rfl⟩; exact rb_same hI (by simp) _)⟩)) ⟨C, Bn, h⟩).mono fun e w' hr => ares_ban hr
  by_cases k8 : kd = 8
  · subst k8
    exact (ado8_any B b room tmo nd n x y s on P (RB room Bn ⟨8, nd, n, x, y, s, on⟩) _ _ _ [] _ [] w hd hB (fun z hz => aset8_any B b room tmo nd n x y s on _ P C Bn (RB room Bn ⟨8, nd, n, x, y, s, on⟩) _ _ [] [] z (h.up hz) (hd.up hz) (ws z hz) hS (fun z hz => (popens_any B b nd n s on room tmo P C Bn z hz).mono fun e w' ⟨h1, h2⟩ => ⟨h1, h2.weak (by rintro P' C' Bn' ⟨rfl, rfl, rfl⟩; exact rb_same hI (by simp) _)⟩)) ⟨C, Bn, h⟩).mono fun e w' hr => ares_ban hr
  by_cases k9 : kd = 9
  · subst k9
    exact (ado9_any B b room tmo nd n x y s on P (RB room Bn ⟨9, nd, n, x, y, s, on⟩) _ _ _ [] _ [] w hd hB (fun z hz => aset9_any B b room tmo nd n x y s on _ P C Bn (RB room Bn ⟨9, nd, n, x, y, s, on⟩) _ _ [] [] z (h.up hz) (hd.up hz) (ws z hz) hS (fun z hz => (pcount_any B b nd n s on room tmo P C Bn z hz).mono fun e w' ⟨h1, h2⟩ => ⟨h1, h2.weak (by rintro P' C' Bn' ⟨rfl, rfl, rfl⟩; exact rb_same hI (by simp) _)⟩)) ⟨C, Bn, h⟩).mono fun e w' hr => ares_ban hr
  by_cases k10 : kd = 10
  · subst k10
    refine (ado10_any B b room tmo nd n x y s on P C Bn _ _ [] [] w h hd hB List.Pairwise.nil).mono fun e w' hr => ?_
    obtain ⟨h1, h2⟩ := ares_ban hr
    exact ⟨h1, h2.weak (by rintro P' C' Bn' ⟨rfl, rfl, rfl⟩; exact rb_same hI (by simp) _)⟩
  · refine (adoE_any B b kd room tmo nd n x y s on P C Bn _ _ [] [] w h hd (fun i hi e => ?_)).mono fun e w' hr => ?_
    · rcases (show i = 0 ∨ i = 1 ∨ i = 2 ∨ i = 3 ∨ i = 4 ∨ i = 5 ∨ i = 6 ∨ i = 7 ∨ i = 8 ∨ i = 9 ∨ i = 10 by omega) with rfl | rfl | rfl | rfl | rfl | rfl | rfl | rfl | rfl | rfl | rfl <;> first | exact k0 e | exact k1 e | exact k2 e | exact k3 e | exact k4 e | exact k5 e | exact k6 e | exact k7 e | exact k8 e | exact k9 e | exact k10 e
    · obtain ⟨h1, h2⟩ := ares_ban hr
      exact ⟨h1, h2.weak (by rintro P' C' Bn' ⟨rfl, rfl, rfl⟩; exact rb_same hI k3 _)⟩
end Go.Proofs.Ytbfakbooenmhoaa

/- peers: an act turns both tables alike. -/
import Derived.Test.YtbfakbooenmhoaaQfD
namespace Go.Proofs.Ytbfakbooenmhoaa
open Go.RowKit
set_option linter.unusedVariables false
attribute [local go_sem] Oper.semAt_some

/-- who was banned, by both -/
def Bk (Bs : List Int) (Bn : Nat → Bool) : Prop := ∀ n : Int, hasI Bs n = (isPr n && Bn n.toNat)
/-- both tables are alike -/
def Jt (L : List Pr) (Bs : List Int) (P : Nat → Option Nat) (C : Nat → Pr) (Bn : Nat → Bool) : Prop := lst P C 16 = L ∧ Bk Bs Bn
theorem play_set {P : Nat → Option Nat} {C : Nat → Pr} (hN : Nd P C) (bad : Bool) (X : Pr → Pr) (hX : ∀ c, (X c).nd = c.nd) (n : Int) :
    uE bad P n = seE bad (fnd (lst P C 16) n) ∧ lst P (uC bad X P C n) 16 = seL bad X (lst P C 16) n := by
  cases bad with
  | true => exact ⟨rfl, rfl⟩
  | false =>
    cases ht : th P n with
    | true =>
      obtain ⟨i, h1, h2⟩ := (fnd_th hN (n := n)).1 ht
      obtain ⟨p, rfl, p1, p2, g, hg⟩ := th_yes ht
      obtain ⟨u1, u2⟩ := uC_yes X C ht
      rw [u1, u2, seL_at h1 h2, Int.toNat_natCast, wiL_lst hN (by rw [hX]; exact hN.nd p g (by omega) hg), h1]
      refine ⟨?_, rfl⟩
      unfold seE
      rw [if_neg (by decide), if_neg (by omega)]
    | false =>
      have h1 := (fnd_th hN (n := n)).2 ht
      obtain ⟨u1, u2⟩ := uC_no X C ht
      rw [u1, u2, h1]
      unfold seE seL
      rw [h1]
      exact ⟨rfl, rfl⟩
theorem play_meet {P : Nat → Option Nat} {C : Nat → Pr} {Bn : Nat → Bool} {Bs : List Int} (hN : Nd P C) (hb : Bk Bs Bn) (n x y t room : Int) : mtE P C Bn n x y t room = meE n x y t room (lst P C 16) Bs := by
  unfold mtE meE
  by_cases hA : isPr n = true ∧ isPl x y = true ∧ isTm t = true
  · have hnn : ¬ ¬ (isPr n = true ∧ isPl x y = true ∧ isTm t = true) := fun h => h hA
    rw [if_neg hnn, if_neg hnn]
    obtain ⟨p, rfl, p1, p2⟩ := isPr_nat hA.1
    rw [hb p, hA.1, Bool.true_and, Int.toNat_natCast]
    by_cases hbn : Bn p = true
    · rw [if_pos hbn, if_pos hbn]
    · rw [if_neg hbn, if_neg hbn]
      cases ht : th P p with
      | true =>
        obtain ⟨i, h1, h2⟩ := (fnd_th hN (n := p)).1 ht
        rw [h1, if_pos rfl, if_pos (show (0 : Int) ≤ i by omega)]
      | false =>
        rw [(fnd_th hN (n := p)).2 ht, if_neg (show ¬ (false = true) by decide), if_neg (show ¬ (0 : Int) ≤ -1 by decide)]
  · rw [if_pos hA, if_pos hA]
theorem play_leave {P : Nat → Option Nat} {C : Nat → Pr} (hN : Nd P C) (n : Int) : (if th P n = true then (0 : Int) else 4) = lvE (lst P C 16) n ∧ lst (lvP P n) C 16 = lvL (lst P C 16) n := by
  unfold lvE lvL lvP
  cases ht : th P n with
  | true =>
    obtain ⟨i, h1, h2⟩ := (fnd_th hN (n := n)).1 ht
    obtain ⟨p, rfl, p1, p2, g, hg⟩ := th_yes ht
    rw [h1, if_pos rfl, if_pos rfl, if_neg (by omega), if_neg (by omega), woL_lst hN, Int.toNat_natCast]
    exact ⟨rfl, rfl⟩
  | false =>
    rw [(fnd_th hN (n := n)).2 ht]
    exact ⟨rfl, rfl⟩
theorem play_ban {P : Nat → Option Nat} {C : Nat → Pr} {Bn : Nat → Bool} {Bs : List Int} (hN : Nd P C) (hb : Bk Bs Bn) (n : Int) :
    lst (if isPr n = true then tup P n.toNat none else P) C 16 = baL (lst P C 16) n ∧ Bk (baB Bs n) (if isPr n = true then tup Bn n.toNat true else Bn) := by
  unfold baL baB
  cases ht : isPr n with
  | true =>
    obtain ⟨p, rfl, p1, p2⟩ := isPr_nat ht
    rw [if_pos rfl, if_pos rfl, if_pos rfl, if_pos rfl, woL_lst hN, Int.toNat_natCast]
    refine ⟨rfl, fun q => ?_⟩
    rw [hasI_snoc, hb q]
    by_cases e : (p : Int) = q
    · subst e
      rw [decide_eq_true rfl, Bool.or_true, ht, Bool.true_and, Int.toNat_natCast]
      unfold tup
      rw [if_pos rfl]
    · rw [decide_eq_false e, Bool.or_false]
      cases hq : isPr q with
      | true =>
        obtain ⟨z, rfl, z1, z2⟩ := isPr_nat hq
        rw [Int.toNat_natCast]
        unfold tup
        rw [if_neg (show ¬ z = p by omega)]
      | false => rfl
  | false => exact ⟨rfl, hb⟩
theorem play_expire {P : Nat → Option Nat} {C : Nat → Pr} (hN : Nd P C) (tmo now : Int) : (if isTm now = true then exG P C tmo now 16 else []) = laL (lst P C 16) tmo now ∧ lst (if isTm now = true then exP P C tmo now 16 else P) C 16 = wosL (lst P C 16) (laL (lst P C 16) tmo now) := by
  cases ht : isTm now with
  | true =>
    rw [if_pos rfl, if_pos rfl, laL_lst hN ht, wosL_lst hN]
    exact ⟨rfl, rfl⟩
  | false =>
    rw [laL_none ht]
    exact ⟨rfl, rfl⟩
theorem ares_play {B b : Nat} {room tmo : Int} {P : Nat → Option Nat} {R R' : (Nat → Option Nat) → (Nat → Pr) → (Nat → Bool) → Prop} {w w' : World} {eq : Prop} {L : List Pr} {Bs : List Int} {e : Ending} (h : ARes B b room tmo P R w eq L Bs e w') (he : eq) (hR : ∀ P' C' Bn', R P' C' Bn' → R' P' C' Bn') : ARes B b room tmo P R' w True L Bs e w' := by
  obtain ⟨v, vb, r, h1, h2, h3⟩ := h.ex
  exact ⟨⟨v, vb, r, h1, ⟨fun _ => trivial, fun _ => h2.2 he⟩, h3⟩, h.pr.weak hR⟩
set_option maxRecDepth 100000 in
set_option maxHeartbeats 4000000 in
theorem do_play (p : Pa) (B b : Nat) (room tmo : Int) (P : Nat → Option Nat) (C : Nat → Pr) (Bn : Nat → Bool) (vL vB : Value) (Bs : List Int) (w0 : World) (h0 : Tb B w0 b room tmo P C Bn) (hrm : room ≤ 15) (hb : Bk Bs Bn) (hlen : Bs.length < 100) :
    ∃ L' Bs', Bs'.length ≤ Bs.length + 1 ∧ ∀ w, Tb B w b room tmo P C Bn → Dt B w vL vB (lst P C 16) Bs → B ≤ w.heap.size →
      Calls Try.prog 10 #[.pointer (some ⟨b, 0, none⟩), tabV room tmo vL vB, .agg p.cl.toArray] w fun e w' => ARes B b room tmo P (Jt L' Bs') w True L' Bs' e w' := by
  obtain ⟨kd, nd, n, x, y, s, on⟩ := p
  have hN := h0.nds
  have hS : ∀ c ∈ lst P C 16, Bd c := lst_bd h0.bd
  have hle : Bs.length ≤ Bs.length + 1 := Nat.le_succ _
  show ∃ L' Bs', _ ∧ ∀ w, _ → _ → _ → Calls Try.prog 10 #[.pointer (some ⟨b, 0, none⟩), tabV room tmo vL vB, .agg #[.int .i64 kd, .int .i64 nd, .int .i64 n, .int .i64 x, .int .i64 y, .string s, .bool on]] w _
  by_cases k0 : kd = 0
  · subst k0
    refine ⟨_, Bs, hle, fun w h hd hB => (ado0_any B b room tmo nd n x y s on _ P C Bn (Jt (meL nd x y n room (lst P C 16) Bs) Bs) _ _ _ Bs w h hd hB hrm (fun z hz => (pmeet_any B b nd x y n room tmo P C Bn z hz).mono fun e w' ⟨h1, h2⟩ => ⟨h1, h2.weak ?_⟩)).mono fun e w' hr => ares_play hr (play_meet hN hb nd x y n room) fun _ _ _ h => h⟩
    unfold meL
    rw [← play_meet hN hb nd x y n room]
    rintro P' C' Bn' ⟨rfl, ⟨h0, rfl, rfl⟩ | ⟨h0, g, rfl, rfl⟩⟩
    · rw [if_neg h0]
      exact ⟨rfl, hb⟩
    · rw [if_pos h0]
      refine ⟨?_, hb⟩
      have hA : isPr nd = true ∧ isPl x y = true ∧ isTm n = true := by
        apply Classical.byContradiction
        intro hn
        unfold mtE at h0
        rw [if_pos hn] at h0
        cases h0
      unfold mtE at h0
      rw [if_neg (fun hh => hh hA)] at h0
      obtain ⟨q, rfl, q1, q2⟩ := isPr_nat hA.1
      rw [Int.toNat_natCast] at h0 ⊢
      have hb : Bn' q ≠ true := fun e => by rw [if_pos e] at h0; cases h0
      rw [if_neg hb] at h0
      have ht : ¬ th P q = true := fun e => by rw [if_pos e] at h0; cases h0
      rw [Bool.not_eq_true] at ht
      have hP : P q = none := by
        rcases th_no ht with h5 | ⟨p', e', _, _, h5⟩
        · rw [hA.1] at h5
          cases h5
        · have : p' = q := by omega
          subst this
          exact h5
      exact (insL_lst hN (by omega) hP g (X := newP q x y n) rfl).symm
  by_cases k1 : kd = 1
  · subst k1
    obtain ⟨hE, hL⟩ := play_set hN (sB0 n ⟨#[]⟩) (sX0 n ⟨#[]⟩) (fun _ => rfl) nd
    exact ⟨_, Bs, hle, fun w h hd hB => (ado1_any B b room tmo nd n x y s on P (Jt (seL (sB0 n ⟨#[]⟩) (sX0 n ⟨#[]⟩) (lst P C 16) nd) Bs) _ _ _ _ _ Bs w hd hB (fun z hz => aset1_any B b room tmo nd n x y s on _ P C Bn _ _ _ _ Bs z (h.up hz) (hd.up hz) (Nat.le_trans hB hz.size) hS (fun z hz => (phear_any B b nd n s on room tmo P C Bn z hz).mono fun e w' ⟨h1, h2⟩ => ⟨h1, h2.weak (by rintro P' C' Bn' ⟨rfl, rfl, rfl⟩; exact ⟨hL, hb⟩)⟩)) ⟨C, Bn, h⟩).mono fun e w' hr => ares_play hr hE fun _ _ _ h => h⟩
  by_cases k5 : kd = 5
  · subst k5
    obtain ⟨hE, hL⟩ := play_set hN (sB1 0 s) (sX1 0 s) (fun _ => rfl) nd
    exact ⟨_, Bs, hle, fun w h hd hB => (ado5_any B b room tmo nd n x y s on P (Jt (seL (sB1 0 s) (sX1 0 s) (lst P C 16) nd) Bs) _ _ _ _ _ Bs w hd hB (fun z hz => aset5_any B b room tmo nd n x y s on _ P C Bn _ _ _ _ Bs z (h.up hz) (hd.up hz) (Nat.le_trans hB hz.size) hS (fun z hz => (phave_any B b nd n s on room tmo P C Bn z hz).mono fun e w' ⟨h1, h2⟩ => ⟨h1, h2.weak (by rintro P' C' Bn' ⟨rfl, rfl, rfl⟩; exact ⟨hL, hb⟩)⟩)) ⟨C, Bn, h⟩).mono fun e w' hr => ares_play hr hE fun _ _ _ h => h⟩
  by_cases k6 : kd = 6
  · subst k6
    obtain ⟨hE, hL⟩ := play_set hN (sB2 (numB on) ⟨#[]⟩) (sX2 (numB on) ⟨#[]⟩) (fun _ => rfl) nd
    exact ⟨_, Bs, hle, fun w h hd hB => (ado6_any B b room tmo nd n x y s on P (Jt (seL (sB2 (numB on) ⟨#[]⟩) (sX2 (numB on) ⟨#[]⟩) (lst P C 16) nd) Bs) _ _ _ _ _ Bs w hd hB (fun z hz => aset6_any B b room tmo nd n x y s on _ P C Bn _ _ _ _ Bs z (h.up hz) (hd.up hz) (Nat.le_trans hB hz.size) hS (fun z hz => (pwants_any B b nd n s on room tmo P C Bn z hz).mono fun e w' ⟨h1, h2⟩ => ⟨h1, h2.weak (by rintro P' C' Bn' ⟨rfl, rfl, rfl⟩; exact ⟨hL, hb⟩)⟩)) ⟨C, Bn, h⟩).mono fun e w' hr => ares_play hr hE fun _ _ _ h => h⟩
  by_cases k7 : kd = 7
  · subst k7
    obtain ⟨hE, hL⟩ := play_set hN (sB3 (numB on) ⟨#[]⟩) (sX3 (numB on) ⟨#[]⟩) (fun _ => rfl) nd
    exact ⟨_, Bs, hle, fun w h hd hB => (ado7_any B b room tmo nd n x y s on P (Jt (seL (sB3 (numB on) ⟨#[]⟩) (sX3 (numB on) ⟨#[]⟩) (lst P C 16) nd) Bs) _ _ _ _ _ Bs w hd hB (fun z hz => aset7_any B b room tmo nd n x y s on _ P C Bn _ _ _ _ Bs z (h.up hz) (hd.up hz) (Nat.le_trans hB hz.size) hS (fun z hz => (popen_any B b nd n s on room tmo P C Bn z hz).mono fun e w' ⟨h1, h2⟩ => ⟨h1, h2.weak (by rintro P' C' Bn' ⟨rfl, rfl, rfl⟩; exact ⟨hL, hb⟩)⟩)) ⟨C, Bn, h⟩).mono fun e w' hr => ares_play hr hE fun _ _ _ h => h⟩
  by_cases k8 : kd = 8
  · subst k8
    obtain ⟨hE, hL⟩ := play_set hN (sB4 (numB on) ⟨#[]⟩) (sX4 (numB on) ⟨#[]⟩) (fun _ => rfl) nd
    exact ⟨_, Bs, hle, fun w h hd hB => (ado8_any B b room tmo nd n x y s on P (Jt (seL (sB4 (numB on) ⟨#[]⟩) (sX4 (numB on) ⟨#[]⟩) (lst P C 16) nd) Bs) _ _ _ _ _ Bs w hd hB (fun z hz => aset8_any B b room tmo nd n x y s on _ P C Bn _ _ _ _ Bs z (h.up hz) (hd.up hz) (Nat.le_trans hB hz.size) hS (fun z hz => (popens_any B b nd n s on room tmo P C Bn z hz).mono fun e w' ⟨h1, h2⟩ => ⟨h1, h2.weak (by rintro P' C' Bn' ⟨rfl, rfl, rfl⟩; exact ⟨hL, hb⟩)⟩)) ⟨C, Bn, h⟩).mono fun e w' hr => ares_play hr hE fun _ _ _ h => h⟩
  by_cases k9 : kd = 9
  · subst k9
    obtain ⟨hE, hL⟩ := play_set hN (sB5 n ⟨#[]⟩) (sX5 n ⟨#[]⟩) (fun _ => rfl) nd
    exact ⟨_, Bs, hle, fun w h hd hB => (ado9_any B b room tmo nd n x y s on P (Jt (seL (sB5 n ⟨#[]⟩) (sX5 n ⟨#[]⟩) (lst P C 16) nd) Bs) _ _ _ _ _ Bs w hd hB (fun z hz => aset9_any B b room tmo nd n x y s on _ P C Bn _ _ _ _ Bs z (h.up hz) (hd.up hz) (Nat.le_trans hB hz.size) hS (fun z hz => (pcount_any B b nd n s on room tmo P C Bn z hz).mono fun e w' ⟨h1, h2⟩ => ⟨h1, h2.weak (by rintro P' C' Bn' ⟨rfl, rfl, rfl⟩; exact ⟨hL, hb⟩)⟩)) ⟨C, Bn, h⟩).mono fun e w' hr => ares_play hr hE fun _ _ _ h => h⟩
  by_cases k2 : kd = 2
  · subst k2
    obtain ⟨hE, hL⟩ := play_leave hN nd
    exact ⟨_, Bs, hle, fun w h hd hB => (ado2_any B b room tmo nd n x y s on _ P C Bn (Jt (lvL (lst P C 16) nd) Bs) _ _ _ Bs w h hd hB (fun z hz => (pleave_any B b nd room tmo P C Bn z hz).mono fun e w' ⟨h1, h2⟩ => ⟨h1, h2.weak (by rintro P' C' Bn' ⟨rfl, rfl, rfl⟩; exact ⟨hL, hb⟩)⟩)).mono fun e w' hr => ares_play hr hE fun _ _ _ h => h⟩
  by_cases k3 : kd = 3
  · subst k3
    obtain ⟨hL, hb2⟩ := play_ban hN hb nd
    refine ⟨_, _, ?_, fun w h hd hB => (ado3_any B b room tmo nd n x y s on _ P C Bn (Jt (baL (lst P C 16) nd) (baB Bs nd)) _ _ _ Bs w h hd hB hlen (fun z hz => (pban_any B b nd room tmo P C Bn z hz).mono fun e w' ⟨h1, h2⟩ => ⟨h1, h2.weak (by rintro P' C' Bn' ⟨rfl, rfl, rfl⟩; exact ⟨hL, hb2⟩)⟩)).mono fun e w' hr => ares_play hr rfl fun _ _ _ h => h⟩
    unfold baB
    split
    · simp
    · exact hle
  by_cases k4 : kd = 4
  · subst k4
    obtain ⟨hE, hL⟩ := play_expire hN tmo n
    refine ⟨_, Bs, hle, fun w h hd hB => (ado4_any B b room tmo nd n x y s on P C Bn (Jt (wosL (lst P C 16) (laL (lst P C 16) tmo n)) Bs) (if isTm n = true then exG P C tmo n 16 else []) _ _ _ Bs w h hd hB hS ?_ (fun z hz => (pexpire_any B b n room tmo P C Bn z hz (Nat.le_trans hz.own (Nat.le_of_lt hz.tb.lt))).mono fun e w' ⟨v, h1, h2, h3⟩ => ⟨v, h1, h2, h3.weak (by rintro P' C' Bn' ⟨rfl, rfl, rfl⟩; exact ⟨hL, hb⟩)⟩)).mono fun e w' hr => ares_play hr hE fun _ _ _ h => h⟩
    split
    · have := exG_len P C tmo n 16
      omega
    · simp
  by_cases k10 : kd = 10
  · subst k10
    exact ⟨_, Bs, hle, fun w h hd hB => (ado10_any B b room tmo nd n x y s on P C Bn _ _ _ Bs w h hd hB (lst_pw hN)).mono fun e w' hr => ares_play hr trivial (by rintro P' C' Bn' ⟨rfl, rfl, rfl⟩; exact ⟨(rollK_lst _ _).symm, hb⟩)⟩
  · refine ⟨_, Bs, hle, fun w h hd hB => (adoE_any B b kd room tmo nd n x y s on P C Bn _ _ _ Bs w h hd (fun i hi e => ?_)).mono fun e w' hr => ares_play hr trivial (by rintro P' C' Bn' ⟨rfl, rfl, rfl⟩; exact ⟨rfl, hb⟩)⟩
    rcases (show i = 0 ∨ i = 1 ∨ i = 2 ∨ i = 3 ∨ i = 4 ∨ i = 5 ∨ i = 6 ∨ i = 7 ∨ i = 8 ∨ i = 9 ∨ i = 10 by omega) with rfl | rfl | rfl | rfl | rfl | rfl | rfl | rfl | rfl | rfl | rfl <;> first | exact k0 e | exact k1 e | exact k2 e | exact k3 e | exact k4 e | exact k5 e | exact k6 e | exact k7 e | exact k8 e | exact k9 e | exact k10 e
end Go.Proofs.Ytbfakbooenmhoaa

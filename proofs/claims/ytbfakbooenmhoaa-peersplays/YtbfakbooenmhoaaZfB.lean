/- peers: the program's calls as steps, whatever their arguments. peers: the program's Meet, whatever its arguments. -/
import Derived.Test.YtbfakbooenmhoaaQfA
import Derived.Test.YtbfakbooenmhoaaQeD
import Derived.Test.YtbfakbooenmhoaaQdI
namespace Go.Proofs.Ytbfakbooenmhoaa
open Go.RowKit
set_option linter.unusedVariables false
attribute [local go_sem] Oper.semAt_some

/-- what a call that sets something answers, and leaves -/
def uE (bad : Bool) (P : Nat → Option Nat) (n : Int) : Int := if bad = true then 1 else if th P n = true then 0 else 4
def uC (bad : Bool) (X : Pr → Pr) (P : Nat → Option Nat) (C : Nat → Pr) (n : Int) : Nat → Pr := if bad = true then C else if th P n = true then tup C n.toNat (X (C n.toNat)) else C
theorem pres_same {B b : Nat} {room tmo : Int} {P : Nat → Option Nat} {C : Nat → Pr} {Bn : Nat → Bool} {w w' : World} (h : Tb B w b room tmo P C Bn) (hb : Below w.heap.size w w') : PRes B b room tmo P (REq P C Bn) w w' := ⟨⟨P, C, Bn, ⟨rfl, rfl, rfl⟩, h.up hb⟩, KT.of_below hb⟩
theorem uC_bad (X : Pr → Pr) (P : Nat → Option Nat) (C : Nat → Pr) (n : Int) : uE true P n = 1 ∧ uC true X P C n = C := ⟨rfl, rfl⟩
theorem uC_no (X : Pr → Pr) {P : Nat → Option Nat} (C : Nat → Pr) {n : Int} (h : th P n = false) : uE false P n = 4 ∧ uC false X P C n = C := by
  unfold uE uC
  rw [h]
  exact ⟨rfl, rfl⟩
theorem uC_yes (X : Pr → Pr) {P : Nat → Option Nat} (C : Nat → Pr) {p : Nat} (h : th P p = true) : uE false P p = 0 ∧ uC false X P C p = tup C p (X (C p)) := by
  unfold uE uC
  rw [h]
  exact ⟨rfl, rfl⟩
theorem phear_any (B b : Nat) (nd n : Int) (s : ByteArray) (on : Bool) (room tmo : Int) (P : Nat → Option Nat) (C : Nat → Pr) (Bn : Nat → Bool) (w : World) (h : Tb B w b room tmo P C Bn) :
    Calls Try.prog 20 #[.pointer (some ⟨b, 0, none⟩), .int .i64 nd, .int .i64 n] w fun e w' => e = .returned (.int .i64 (uE (sB0 n ⟨#[]⟩) P nd)) ∧ PRes B b room tmo P (REq P (uC (sB0 n ⟨#[]⟩) (sX0 n ⟨#[]⟩) P C nd) Bn) w w' := by
  by_cases hc : 0 ≤ n ∧ n ≤ 1099511627776
  · rw [show sB0 n ⟨#[]⟩ = false from by unfold sB0 isTm; rw [decide_eq_true hc]; rfl]
    cases ht : th P nd with
    | false =>
      obtain ⟨e1, e2⟩ := uC_no (sX0 n ⟨#[]⟩) C ht
      rw [e1, e2]
      exact (hear_no nd b n room tmo P C Bn w h.tb (th_no ht) hc).mono fun e w' ⟨h1, h2⟩ => ⟨h1, pres_same h h2⟩
    | true =>
      obtain ⟨p, rfl, p1, p2, g, hg⟩ := th_yes ht
      obtain ⟨e1, e2⟩ := uC_yes (sX0 n ⟨#[]⟩) C ht
      rw [e1, e2]
      refine (hear_yes p g B b n room tmo P C Bn w h ⟨p1, p2⟩ hg hc).mono fun e w' ⟨h1, h2, h3⟩ => ⟨h1, ⟨P, _, Bn, ⟨rfl, ?_, rfl⟩, h2⟩, h3⟩
      have e : max (C p).se n = (if (C p).se < n then n else (C p).se) := by split <;> omega
      simp only [sX0, e]
  · rw [show sB0 n ⟨#[]⟩ = true from by unfold sB0 isTm; rw [decide_eq_false hc]; rfl]
    obtain ⟨e1, e2⟩ := uC_bad (sX0 n ⟨#[]⟩) P C nd
    rw [e1, e2]
    exact (hear_arg nd _ n w hc).mono fun e w' ⟨h1, h2⟩ => ⟨h1, pres_same h h2⟩
theorem pcount_any (B b : Nat) (nd n : Int) (s : ByteArray) (on : Bool) (room tmo : Int) (P : Nat → Option Nat) (C : Nat → Pr) (Bn : Nat → Bool) (w : World) (h : Tb B w b room tmo P C Bn) :
    Calls Try.prog 21 #[.pointer (some ⟨b, 0, none⟩), .int .i64 nd, .int .i64 n] w fun e w' => e = .returned (.int .i64 (uE (sB5 n ⟨#[]⟩) P nd)) ∧ PRes B b room tmo P (REq P (uC (sB5 n ⟨#[]⟩) (sX5 n ⟨#[]⟩) P C nd) Bn) w w' := by
  by_cases hc : 0 ≤ n ∧ n ≤ 1099511627776
  · rw [show sB5 n ⟨#[]⟩ = false from decide_eq_false (by omega)]
    cases ht : th P nd with
    | false =>
      obtain ⟨e1, e2⟩ := uC_no (sX5 n ⟨#[]⟩) C ht
      rw [e1, e2]
      exact (count_no nd b n room tmo P C Bn w h.tb (th_no ht) hc).mono fun e w' ⟨h1, h2⟩ => ⟨h1, pres_same h h2⟩
    | true =>
      obtain ⟨p, rfl, p1, p2, g, hg⟩ := th_yes ht
      obtain ⟨e1, e2⟩ := uC_yes (sX5 n ⟨#[]⟩) C ht
      rw [e1, e2]
      refine (count_yes p g B b n room tmo P C Bn w h ⟨p1, p2⟩ hg hc).mono fun e w' ⟨h1, h2, h3⟩ => ⟨h1, ⟨P, _, Bn, ⟨rfl, ?_, rfl⟩, h2⟩, h3⟩
      have e : min ((C p).nw + n) 1099511627776 = (if 1099511627776 < (C p).nw + n then 1099511627776 else (C p).nw + n) := by split <;> omega
      simp only [sX5, e]
  · rw [show sB5 n ⟨#[]⟩ = true from decide_eq_true (by omega)]
    obtain ⟨e1, e2⟩ := uC_bad (sX5 n ⟨#[]⟩) P C nd
    rw [e1, e2]
    exact (count_arg nd _ n w hc).mono fun e w' ⟨h1, h2⟩ => ⟨h1, pres_same h h2⟩
theorem phave_any (B b : Nat) (nd n : Int) (s : ByteArray) (on : Bool) (room tmo : Int) (P : Nat → Option Nat) (C : Nat → Pr) (Bn : Nat → Bool) (w : World) (h : Tb B w b room tmo P C Bn) :
    Calls Try.prog 25 #[.pointer (some ⟨b, 0, none⟩), .int .i64 nd, .string s] w fun e w' => e = .returned (.int .i64 (uE (sB1 0 s) P nd)) ∧ PRes B b room tmo P (REq P (uC (sB1 0 s) (sX1 0 s) P C nd) Bn) w w' := by
  by_cases hc : ¬ (20 : Int) < s.size
  · rw [show sB1 0 s = false from decide_eq_false (by omega)]
    cases ht : th P nd with
    | false =>
      obtain ⟨e1, e2⟩ := uC_no (sX1 0 s) C ht
      rw [e1, e2]
      exact (setHave_no nd b s room tmo P C Bn w h.tb (th_no ht) hc).mono fun e w' ⟨h1, h2⟩ => ⟨h1, pres_same h h2⟩
    | true =>
      obtain ⟨p, rfl, p1, p2, g, hg⟩ := th_yes ht
      obtain ⟨e1, e2⟩ := uC_yes (sX1 0 s) C ht
      rw [e1, e2]
      refine (setHave_yes p g B b s room tmo P C Bn w h ⟨p1, p2⟩ hg hc).mono fun e w' ⟨h1, h2, h3⟩ => ⟨h1, ⟨P, _, Bn, ⟨rfl, ?_, rfl⟩, h2⟩, h3⟩
      rfl
  · rw [show sB1 0 s = true from decide_eq_true (by omega)]
    obtain ⟨e1, e2⟩ := uC_bad (sX1 0 s) P C nd
    rw [e1, e2]
    exact (setHave_arg nd _ s w (by omega)).mono fun e w' ⟨h1, h2⟩ => ⟨h1, pres_same h h2⟩
theorem pwants_any (B b : Nat) (nd n : Int) (s : ByteArray) (on : Bool) (room tmo : Int) (P : Nat → Option Nat) (C : Nat → Pr) (Bn : Nat → Bool) (w : World) (h : Tb B w b room tmo P C Bn) :
    Calls Try.prog 26 #[.pointer (some ⟨b, 0, none⟩), .int .i64 nd, .bool on] w fun e w' => e = .returned (.int .i64 (uE (sB2 (numB on) ⟨#[]⟩) P nd)) ∧ PRes B b room tmo P (REq P (uC (sB2 (numB on) ⟨#[]⟩) (sX2 (numB on) ⟨#[]⟩) P C nd) Bn) w w' := by
  rw [show sB2 (numB on) ⟨#[]⟩ = false from rfl]
  cases ht : th P nd with
  | false =>
    obtain ⟨e1, e2⟩ := uC_no (sX2 (numB on) ⟨#[]⟩) C ht
    rw [e1, e2]
    exact (setWants_no nd b on room tmo P C Bn w h.tb (th_no ht)).mono fun e w' ⟨h1, h2⟩ => ⟨h1, pres_same h h2⟩
  | true =>
    obtain ⟨p, rfl, p1, p2, g, hg⟩ := th_yes ht
    obtain ⟨e1, e2⟩ := uC_yes (sX2 (numB on) ⟨#[]⟩) C ht
    rw [e1, e2]
    refine (setWants_yes p g B b on room tmo P C Bn w h ⟨p1, p2⟩ hg).mono fun e w' ⟨h1, h2, h3⟩ => ⟨h1, ⟨P, _, Bn, ⟨rfl, ?_, rfl⟩, h2⟩, h3⟩
    cases on <;> rfl
theorem popen_any (B b : Nat) (nd n : Int) (s : ByteArray) (on : Bool) (room tmo : Int) (P : Nat → Option Nat) (C : Nat → Pr) (Bn : Nat → Bool) (w : World) (h : Tb B w b room tmo P C Bn) :
    Calls Try.prog 27 #[.pointer (some ⟨b, 0, none⟩), .int .i64 nd, .bool on] w fun e w' => e = .returned (.int .i64 (uE (sB3 (numB on) ⟨#[]⟩) P nd)) ∧ PRes B b room tmo P (REq P (uC (sB3 (numB on) ⟨#[]⟩) (sX3 (numB on) ⟨#[]⟩) P C nd) Bn) w w' := by
  rw [show sB3 (numB on) ⟨#[]⟩ = false from rfl]
  cases ht : th P nd with
  | false =>
    obtain ⟨e1, e2⟩ := uC_no (sX3 (numB on) ⟨#[]⟩) C ht
    rw [e1, e2]
    exact (setOpen_no nd b on room tmo P C Bn w h.tb (th_no ht)).mono fun e w' ⟨h1, h2⟩ => ⟨h1, pres_same h h2⟩
  | true =>
    obtain ⟨p, rfl, p1, p2, g, hg⟩ := th_yes ht
    obtain ⟨e1, e2⟩ := uC_yes (sX3 (numB on) ⟨#[]⟩) C ht
    rw [e1, e2]
    refine (setOpen_yes p g B b on room tmo P C Bn w h ⟨p1, p2⟩ hg).mono fun e w' ⟨h1, h2, h3⟩ => ⟨h1, ⟨P, _, Bn, ⟨rfl, ?_, rfl⟩, h2⟩, h3⟩
    cases on <;> rfl
theorem popens_any (B b : Nat) (nd n : Int) (s : ByteArray) (on : Bool) (room tmo : Int) (P : Nat → Option Nat) (C : Nat → Pr) (Bn : Nat → Bool) (w : World) (h : Tb B w b room tmo P C Bn) :
    Calls Try.prog 28 #[.pointer (some ⟨b, 0, none⟩), .int .i64 nd, .bool on] w fun e w' => e = .returned (.int .i64 (uE (sB4 (numB on) ⟨#[]⟩) P nd)) ∧ PRes B b room tmo P (REq P (uC (sB4 (numB on) ⟨#[]⟩) (sX4 (numB on) ⟨#[]⟩) P C nd) Bn) w w' := by
  rw [show sB4 (numB on) ⟨#[]⟩ = false from rfl]
  cases ht : th P nd with
  | false =>
    obtain ⟨e1, e2⟩ := uC_no (sX4 (numB on) ⟨#[]⟩) C ht
    rw [e1, e2]
    exact (setOpens_no nd b on room tmo P C Bn w h.tb (th_no ht)).mono fun e w' ⟨h1, h2⟩ => ⟨h1, pres_same h h2⟩
  | true =>
    obtain ⟨p, rfl, p1, p2, g, hg⟩ := th_yes ht
    obtain ⟨e1, e2⟩ := uC_yes (sX4 (numB on) ⟨#[]⟩) C ht
    rw [e1, e2]
    refine (setOpens_yes p g B b on room tmo P C Bn w h ⟨p1, p2⟩ hg).mono fun e w' ⟨h1, h2, h3⟩ => ⟨h1, ⟨P, _, Bn, ⟨rfl, ?_, rfl⟩, h2⟩, h3⟩
    cases on <;> rfl
/-- Leave -/
def lvP (P : Nat → Option Nat) (n : Int) : Nat → Option Nat := if th P n = true then tup P n.toNat none else P
theorem pleave_any (B b : Nat) (nd : Int) (room tmo : Int) (P : Nat → Option Nat) (C : Nat → Pr) (Bn : Nat → Bool) (w : World) (h : Tb B w b room tmo P C Bn) :
    Calls Try.prog 23 #[.pointer (some ⟨b, 0, none⟩), .int .i64 nd] w fun e w' => e = .returned (.int .i64 (if th P nd = true then 0 else 4)) ∧ PRes B b room tmo P (REq (lvP P nd) C Bn) w w' := by
  unfold lvP
  cases ht : th P nd with
  | false =>
    rw [if_neg (by decide), if_neg (by decide)]
    exact (leave_no nd b room tmo P C Bn w h.tb (th_no ht)).mono fun e w' ⟨h1, h2⟩ => ⟨h1, pres_same h h2⟩
  | true =>
    obtain ⟨p, rfl, p1, p2, g, hg⟩ := th_yes ht
    rw [if_pos rfl, if_pos rfl, Int.toNat_natCast]
    exact (leave_yes p g B b room tmo P C Bn w h ⟨p1, p2⟩ hg).mono fun e w' ⟨h1, h2, h3⟩ => ⟨h1, ⟨_, C, Bn, ⟨rfl, rfl, rfl⟩, h2⟩, h3⟩
theorem isPr_nat {n : Int} (h : isPr n = true) : ∃ p : Nat, n = p ∧ 1 ≤ p ∧ p ≤ 15 := by
  have := of_decide_eq_true h
  exact ⟨n.toNat, by omega, by omega, by omega⟩
theorem ban_bad (t : Nat) (n : Int) (w : World) (h : isPr n = false) :
    Calls Try.prog 24 #[.pointer (some ⟨t, 0, none⟩), .int .i64 n] w fun e w' => e = .returned (.int .i64 1) ∧ w = w' := by
  have g1 := hide (fun w => isPeer_any n w)
  rw [h] at g1
  go_enter Try.func24, Try.ntmps24
  go_wp2_with fail
  refine (unhide g1 _).mono ?_
  rintro e w1 ⟨rfl, rfl⟩
  go_wp2
  go_ret
  exact ⟨rfl, rfl⟩
theorem pban_any (B b : Nat) (nd : Int) (room tmo : Int) (P : Nat → Option Nat) (C : Nat → Pr) (Bn : Nat → Bool) (w : World) (h : Tb B w b room tmo P C Bn) :
    Calls Try.prog 24 #[.pointer (some ⟨b, 0, none⟩), .int .i64 nd] w fun e w' => e = .returned (.int .i64 (baE nd)) ∧ PRes B b room tmo P (REq (if isPr nd = true then tup P nd.toNat none else P) C (if isPr nd = true then tup Bn nd.toNat true else Bn)) w w' := by
  unfold baE
  cases ht : isPr nd with
  | false =>
    rw [if_neg (by decide), if_neg (by decide), if_neg (by decide)]
    exact (ban_bad b nd w ht).mono fun e w' ⟨h1, h2⟩ => ⟨h1, pres_same h (by rw [← h2]; exact Below.refl _ _)⟩
  | true =>
    obtain ⟨p, rfl, p1, p2⟩ := isPr_nat ht
    rw [if_pos rfl, if_pos rfl, if_pos rfl, Int.toNat_natCast]
    exact (banTb p B b room tmo P C Bn w ⟨p1, p2⟩ h).mono fun e w' ⟨h1, h2, h3⟩ => ⟨h1, ⟨_, C, _, ⟨rfl, rfl, rfl⟩, h2⟩, h3⟩
/-- Expire -/
theorem pexpire_any (B b : Nat) (now : Int) (room tmo : Int) (P : Nat → Option Nat) (C : Nat → Pr) (Bn : Nat → Bool) (w : World) (h : Tb B w b room tmo P C Bn) (hB : B ≤ w.heap.size) :
    Calls Try.prog 19 #[.pointer (some ⟨b, 0, none⟩), .int .i64 now] w fun e w' => ∃ v, e = .returned v ∧ OwnI w' B v (if isTm now = true then exG P C tmo now 16 else []) ∧ PRes B b room tmo P (REq (if isTm now = true then exP P C tmo now 16 else P) C Bn) w w' := by
  cases ht : isTm now with
  | false =>
    rw [if_neg (by decide), if_neg (by decide)]
    refine (expire_bad _ now w ht).mono ?_
    rintro e w' ⟨rfl, rfl⟩
    exact ⟨_, rfl, World.ownsRow_nil _ _ _ _, pres_same h (Below.refl _ _)⟩
  | true =>
    rw [if_pos rfl, if_pos rfl]
    refine (expire_any B b room tmo now P C Bn w h (of_decide_eq_true ht)).mono ?_
    rintro e w' ⟨v, rfl, h2, h3, h4⟩
    exact ⟨v, rfl, ownI_le h3 hB, ⟨_, C, Bn, ⟨rfl, rfl, rfl⟩, h2⟩, h4⟩
end Go.Proofs.Ytbfakbooenmhoaa
namespace Go.Proofs.Ytbfakbooenmhoaa
open Go.RowKit
set_option linter.unusedVariables false
attribute [local go_sem] Oper.semAt_some

set_option maxRecDepth 100000 in
theorem part_no (n : Int) (w : World) (h : ¬ (-1048576 ≤ n ∧ n ≤ 1048576)) : Calls Try.prog 59 #[.int .i64 n] w fun e w' => e = .returned (.bool false) ∧ w = w' := by
  by_cases h1 : -1048576 ≤ n
  · have h2 : ¬ n ≤ 1048576 := fun h2 => h ⟨h1, h2⟩
    clear h
    go_enter Try.func59, Try.ntmps59
    go_wp2
    go_ret
    exact ⟨rfl, rfl⟩
  · clear h
    go_enter Try.func59, Try.ntmps59
    go_wp2
    go_ret
    exact ⟨rfl, rfl⟩
set_option maxRecDepth 100000 in
theorem check_no (x y : Int) (w : World) (h : isPl x y = false) :
    Calls Try.prog 42 #[.agg #[.int .i64 x, .int .i64 y]] w fun e w' => e = .returned (.bool false) ∧ Below w.heap.size w w' := by
  have h' : ¬ (-1048576 ≤ x ∧ x ≤ 1048576 ∧ -1048576 ≤ y ∧ y ≤ 1048576) := of_decide_eq_false h
  have B := hide ((Below.refl w.heap.size w).alloc (Nat.le_refl _) (.cells #[.int .i64 x, .int .i64 y] 31))
  by_cases hx : -1048576 ≤ x ∧ x ≤ 1048576
  · have hy : ¬ (-1048576 ≤ y ∧ y ≤ 1048576) := fun hy => h' ⟨hx.1, hx.2, hy⟩
    have g1 := hide (fun w => part_yes x w hx)
    have g2 := hide (fun w => part_no y w hy)
    clear hx hy h h'
    go_enter Try.func42, Try.ntmps42
    go_wp2_with fail
    refine (unhide g1 _).mono ?_
    rintro e w1 ⟨rfl, rfl⟩
    go_wp2_with fail
    refine (unhide g2 _).mono ?_
    rintro e w1 ⟨rfl, rfl⟩
    go_wp2
    go_ret
    exact ⟨rfl, unhide B⟩
  · have g1 := hide (fun w => part_no x w hx)
    clear hx h h'
    go_enter Try.func42, Try.ntmps42
    go_wp2_with fail
    refine (unhide g1 _).mono ?_
    rintro e w1 ⟨rfl, rfl⟩
    go_wp2
    go_ret
    exact ⟨rfl, unhide B⟩
set_option maxRecDepth 100000 in
set_option maxHeartbeats 2000000 in
theorem meet_bad (b : Nat) (nd x y t : Int) (w : World) (h : ¬ (isPr nd = true ∧ isPl x y = true ∧ isTm t = true)) :
    Calls Try.prog 18 #[.pointer (some ⟨b, 0, none⟩), .int .i64 nd, .agg #[.int .i64 x, .int .i64 y], .int .i64 t] w fun e w' => e = .returned (.int .i64 1) ∧ Below w.heap.size w w' := by
  have g1 := hide (fun w => isPeer_any nd w)
  have g3 := hide (fun w => isTime_any t w)
  have HB := hide ((Below.refl w.heap.size w).alloc (Nat.le_refl _) (.cells #[.int .i64 x, .int .i64 y] 31))
  cases h1 : isPr nd with
  | false =>
    rw [h1] at g1
    clear h h1
    go_enter Try.func18, Try.ntmps18
    go_wp2_with fail
    refine (unhide g1 _).mono ?_
    rintro e w1 ⟨rfl, rfl⟩
    go_wp2
    go_ret
    exact ⟨rfl, unhide HB⟩
  | true =>
    rw [h1] at g1
    cases h2 : isPl x y with
    | false =>
      have g2 := hide (fun w => check_no x y w h2)
      clear h h1 h2
      go_enter Try.func18, Try.ntmps18
      go_wp2_with fail
      refine (unhide g1 _).mono ?_
      rintro e w1 ⟨rfl, rfl⟩
      go_wp2_with fail
      refine (unhide g2 _).mono ?_
      rintro e w1 ⟨rfl, b1⟩
      have HB1 := hide ((unhide HB).trans (b1.mono (unhide HB).size))
      clear b1 HB
      go_wp2
      go_ret
      exact ⟨rfl, unhide HB1⟩
    | true =>
      have hp := of_decide_eq_true (show decide (-1048576 ≤ x ∧ x ≤ 1048576 ∧ -1048576 ≤ y ∧ y ≤ 1048576) = true from h2)
      have g2 := hide (fun w => check_yes x y w ⟨hp.1, hp.2.1⟩ hp.2.2)
      cases h3 : isTm t with
      | true => exact absurd ⟨h1, h2, h3⟩ h
      | false =>
        rw [h3] at g3
        clear h h1 h2 h3 hp
        go_enter Try.func18, Try.ntmps18
        go_wp2_with fail
        refine (unhide g1 _).mono ?_
        rintro e w1 ⟨rfl, rfl⟩
        go_wp2_with fail
        refine (unhide g2 _).mono ?_
        rintro e w1 ⟨rfl, b1⟩
        have HB1 := hide ((unhide HB).trans (b1.mono (unhide HB).size))
        clear b1 HB
        go_wp2_with fail
        refine (unhide g3 _).mono ?_
        rintro e w2 ⟨rfl, rfl⟩
        go_wp2
        go_ret
        exact ⟨rfl, unhide HB1⟩
set_option maxRecDepth 100000 in
set_option maxHeartbeats 2000000 in
theorem meet_there (p b g : Nat) (x y t room tmo : Int) (P : Nat → Option Nat) (C : Nat → Pr) (Bn : Nat → Bool) (w : World) (hm : MeetOk p x y t) (h : TbAt w b room tmo P C Bn) (hb : Bn p = false) (hP : P p = some g) :
    Calls Try.prog 18 #[.pointer (some ⟨b, 0, none⟩), .int .i64 p, .agg #[.int .i64 x, .int .i64 y], .int .i64 t] w fun e w' => e = .returned (.int .i64 5) ∧ Below w.heap.size w w' := by
  have hp16 : p < 16 := by have := hm.p; omega
  have g1 := hide (fun w => isPeer_any p w)
  rw [show isPr p = true by unfold isPr; simp; have := hm.p; omega] at g1
  have g2 := hide (fun w => check_yes x y w hm.x hm.y)
  have g3 := hide (fun w => isTime_any t w)
  rw [show isTm t = true by unfold isTm; simp; exact hm.t] at g3
  have B0 := (Below.refl w.heap.size w).alloc (Nat.le_refl _) (.cells #[.int .i64 x, .int .i64 y] 31)
  have HT := hide (h.up B0)
  have HB := hide B0
  have q1 : (p : Int) < 16 := by omega
  have HBn := hide hb
  have HPp := hide hP
  clear h hb hm B0 hP
  go_enter Try.func18, Try.ntmps18
  go_wp2_with fail
  refine (unhide g1 _).mono ?_
  rintro e w1 ⟨rfl, rfl⟩
  go_wp2_with fail
  refine (unhide g2 _).mono ?_
  rintro e w1 ⟨rfl, b1⟩
  have HT1 := hide ((unhide HT).up b1)
  have HB1 := hide ((unhide HB).trans (b1.mono (unhide HB).size))
  have cb := (unhide HT1).bs p hp16
  rw [unhide HBn] at cb
  have cp := (unhide HT1).ps p hp16
  rw [unhide HPp] at cp
  have cp' : w1.cell? ⟨b, 2 + p, none⟩ = some (.pointer (some ⟨g, 0, none⟩)) := cp
  clear cp
  clear b1 HT HB
  go_wp2_with fail
  refine (unhide g3 _).mono ?_
  rintro e w2 ⟨rfl, rfl⟩
  go_wp2
  go_ret
  exact ⟨rfl, unhide HB1⟩
/-- what Meet answers -/
def mtE (P : Nat → Option Nat) (C : Nat → Pr) (Bn : Nat → Bool) (n x y t room : Int) : Int := if ¬ (isPr n = true ∧ isPl x y = true ∧ isTm t = true) then 1 else if Bn n.toNat = true then 10 else if th P n = true then 5 else if room ≤ (lst P C 16).length then 6 else 0
theorem pmeet_any (B b : Nat) (nd x y t : Int) (room tmo : Int) (P : Nat → Option Nat) (C : Nat → Pr) (Bn : Nat → Bool) (w : World) (h : Tb B w b room tmo P C Bn) :
    Calls Try.prog 18 #[.pointer (some ⟨b, 0, none⟩), .int .i64 nd, .agg #[.int .i64 x, .int .i64 y], .int .i64 t] w fun e w' => e = .returned (.int .i64 (mtE P C Bn nd x y t room)) ∧
      PRes B b room tmo P (fun P' C' Bn' => Bn' = Bn ∧ ((mtE P C Bn nd x y t room ≠ 0 ∧ P' = P ∧ C' = C) ∨ (mtE P C Bn nd x y t room = 0 ∧ ∃ g, P' = tup P nd.toNat (some g) ∧ C' = tup C nd.toNat (newP nd x y t)))) w w' := by
  have same : ∀ E : Int, mtE P C Bn nd x y t room = E → E ≠ 0 → Calls Try.prog 18 #[.pointer (some ⟨b, 0, none⟩), .int .i64 nd, .agg #[.int .i64 x, .int .i64 y], .int .i64 t] w (fun e w' => e = .returned (.int .i64 E) ∧ Below w.heap.size w w') →
      Calls Try.prog 18 #[.pointer (some ⟨b, 0, none⟩), .int .i64 nd, .agg #[.int .i64 x, .int .i64 y], .int .i64 t] w fun e w' => e = .returned (.int .i64 (mtE P C Bn nd x y t room)) ∧
      PRes B b room tmo P (fun P' C' Bn' => Bn' = Bn ∧ ((mtE P C Bn nd x y t room ≠ 0 ∧ P' = P ∧ C' = C) ∨ (mtE P C Bn nd x y t room = 0 ∧ ∃ g, P' = tup P nd.toNat (some g) ∧ C' = tup C nd.toNat (newP nd x y t)))) w w' := by
    intro E hE h0 hc
    rw [hE]
    exact hc.mono fun e w' ⟨h1, h2⟩ => ⟨h1, ⟨P, C, Bn, ⟨rfl, .inl ⟨h0, rfl, rfl⟩⟩, h.up h2⟩, KT.of_below h2⟩
  by_cases hA : isPr nd = true ∧ isPl x y = true ∧ isTm t = true
  · obtain ⟨h1, h2, h3⟩ := hA
    obtain ⟨p, rfl, p1, p2⟩ := isPr_nat h1
    have hp := of_decide_eq_true (show decide (-1048576 ≤ x ∧ x ≤ 1048576 ∧ -1048576 ≤ y ∧ y ≤ 1048576) = true from h2)
    have hm : MeetOk p x y t := ⟨⟨p1, p2⟩, ⟨hp.1, hp.2.1⟩, hp.2.2, of_decide_eq_true h3⟩
    have hE : mtE P C Bn p x y t room = if Bn p = true then 10 else if th P p = true then 5 else if room ≤ (lst P C 16).length then 6 else 0 := by
      unfold mtE
      rw [if_neg (fun hh => hh ⟨h1, h2, h3⟩), Int.toNat_natCast]
    cases hb : Bn p with
    | true =>
      rw [hb, if_pos rfl] at hE
      exact same 10 hE (by decide) (meet_ban p b x y t room tmo P C Bn w hm h.tb hb)
    | false =>
      rw [hb, if_neg (by decide)] at hE
      cases ht : th P p with
      | true =>
        rw [ht, if_pos rfl] at hE
        obtain ⟨p', e', _, _, g, hg⟩ := th_yes ht
        have : p' = p := by omega
        subst this
        exact same 5 hE (by decide) (meet_there p' b g x y t room tmo P C Bn w hm h.tb hb hg)
      | false =>
        rw [ht, if_neg (by decide)] at hE
        have hP : P p = none := by
          rcases th_no ht with h5 | ⟨p', e', _, _, h5⟩
          · rw [h1] at h5
            cases h5
          · have : p' = p := by omega
            subst this
            exact h5
        by_cases hr : room ≤ ((lst P C 16).length : Int)
        · rw [if_pos hr] at hE
          exact same 6 hE (by decide) (meet_full p b x y t room tmo P C Bn w hm h.tb hb hP hr)
        · rw [if_neg hr] at hE
          rw [hE]
          refine (meetTb p B b x y t room tmo P C Bn w hm h hb hP hr).mono ?_
          rintro e w' ⟨h6, g, _, h7, h8⟩
          exact ⟨h6, ⟨_, _, Bn, ⟨rfl, .inr ⟨rfl, g, by rw [Int.toNat_natCast], by rw [Int.toNat_natCast]; rfl⟩⟩, h7⟩, h8⟩
  · have hE : mtE P C Bn nd x y t room = 1 := if_pos hA
    exact same 1 hE (by decide) (meet_bad b nd x y t w hA)
end Go.Proofs.Ytbfakbooenmhoaa

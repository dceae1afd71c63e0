/- net: the document's Send, Lose. -/
import Derived.Test.YtmnjngkdiinnfaaNtR
namespace Go.Proofs.Ytmnjngkdiinnfaa
open Go.RowKit
set_option linter.unusedVariables false
attribute [local go_sem] Oper.semAt_some

def ptI (room last : Int) (rs : List Mg) : Int := if (rs.length : Int) < room then last + 1 else 0
def ptE (room : Int) (rs : List Mg) : Int := if (rs.length : Int) < room then 0 else 6
def ptT (room last : Int) (rs : List Mg) : Int := if (rs.length : Int) < room then last + 1 else last
def ptL (room last : Int) (rs : List Mg) (r : Mg) : List Mg := if (rs.length : Int) < room then rs ++ [{ r with id := last + 1 }] else rs
theorem dput_any (B : Nat) (room last : Int) (v : Value) (rs : List Mg) (r : Mg) (w : World) (hO : OwnR w B v rs) (hB : B ≤ w.heap.size) (hr : room ≤ 600) (hl0 : 0 ≤ last) (hl : last < 1000000000) :
    Calls Try.prog 29 #[dnV room last v, mlV r] w fun e w' => (∃ v', e = .returned (.tuple #[dnV room (ptT room last rs) v', .int .i64 (ptI room last rs), .int .i64 (ptE room rs)]) ∧ OwnR w' B v' (ptL room last rs r)) ∧ Below w.heap.size w w' := by
  unfold ptT ptI ptE ptL
  by_cases hf : (rs.length : Int) < room
  · simp only [if_pos hf]
    refine (dput_ok B room last v rs r w hO hf hr hl0 hl).mono ?_
    rintro e w' ⟨⟨v', rfl, h1⟩, h2⟩
    exact ⟨⟨v', rfl, h1.le hB⟩, h2⟩
  · simp only [if_neg hf]
    refine (dput_full B room last v rs r w hO (by omega)).mono ?_
    rintro e w' ⟨rfl, h2⟩
    exact ⟨⟨v, rfl, hO.below h2⟩, h2⟩
theorem snd_pt {room last : Int} {rs : List Mg} {r : Mg} (h : mayG r.fr r.to r.tx.size = true) : sndI room last rs r = ptI room last rs ∧ sndE room rs r = ptE room rs ∧ sndT room last rs r = ptT room last rs ∧ sndL room last rs r = ptL room last rs r := by
  unfold sndI sndE sndT sndL ptI ptE ptT ptL
  simp [h]
theorem snd_no {room last : Int} {rs : List Mg} {r : Mg} (h : mayG r.fr r.to r.tx.size = false) : sndI room last rs r = 0 ∧ sndE room rs r = 1 ∧ sndT room last rs r = last ∧ sndL room last rs r = rs := by
  unfold sndI sndE sndT sndL
  simp [h]
theorem mayG_no {fr to : Int} {n : Nat} (h : mayG fr to n = false) : fr < 1 ∨ (¬ fr < 1 ∧ 15 < fr) ∨ (¬ fr < 1 ∧ ¬ 15 < fr ∧ to < 1) ∨ (¬ fr < 1 ∧ ¬ 15 < fr ∧ ¬ to < 1 ∧ 15 < to) ∨ (¬ fr < 1 ∧ ¬ 15 < fr ∧ ¬ to < 1 ∧ ¬ 15 < to ∧ fr = to) ∨ (¬ fr < 1 ∧ ¬ 15 < fr ∧ ¬ to < 1 ∧ ¬ 15 < to ∧ fr ≠ to ∧ (400 : Int) < n) := by
  unfold mayG at h
  simp only [Bool.and_eq_false_iff, decide_eq_false_iff_not] at h
  omega
theorem mayG_yes {fr to : Int} {n : Nat} (h : mayG fr to n = true) : ¬ fr < 1 ∧ ¬ 15 < fr ∧ ¬ to < 1 ∧ ¬ 15 < to ∧ fr ≠ to ∧ ¬ (400 : Int) < n := by
  unfold mayG at h
  simp only [Bool.and_eq_true, decide_eq_true_eq] at h
  omega
theorem ownR_row {w : World} {B b : Nat} {v : Value} {l : List Mg} {cs : Array Value} {T : TypeId} (h : OwnR w B v l) (hb : w.heap[b]? = some (.cells cs T (0, 0))) (hT : T ≠ 37) (x : Array Value) : OwnR (w.setRow b x) B v l :=
  h.up fun k cs' hk => setRow_other _ _ _ _ (by
    rintro rfl
    rw [hb] at hk
    simp only [Option.some.injEq, Obj.cells.injEq] at hk
    exact hT hk.2.1)
/-- the answer's block, the mails -/
structure FsS (w : World) (B : Nat) (v : Value) (l : List Mg) (nC : Array Value) (x : World) : Prop where
  zb : x.heap[w.heap.size + 2]? = some (.cells nC 28 (0, 0))
  be : Below w.heap.size w x
  o : OwnR x B v l
set_option maxRecDepth 100000 in
set_option maxHeartbeats 4000000 in
theorem dsend_any (B : Nat) (room last : Int) (v : Value) (rs : List Mg) (r : Mg) (w : World) (hO : OwnR w B v rs) (hB : B ≤ w.heap.size) (hr : room ≤ 600) (hl0 : 0 ≤ last) (hl : last < 1000000000) (hd : r.tx.size ≤ maxLen) :
    Calls Try.prog 11 #[dnV room last v, mlV r] w fun e w' => (∃ v', e = .returned (.tuple #[dnV room (sndT room last rs r) v', .int .i64 (sndI room last rs r), .int .i64 (sndE room rs r)]) ∧ OwnR w' B v' (sndL room last rs r)) ∧ Below w.heap.size w w' := by
  have hp0 := ptS w (dnC room last v) (mlL r).toArray zDn
  have hO3 : OwnR (((w.alloc (.cells (dnC room last v) 28)).alloc (.cells (mlL r).toArray 37)).alloc (.cells zDn 28)) B v rs := hO.below hp0.be
  have hpu := hide (dput_any B room last v rs r _ hO3 (Nat.le_trans hB hp0.be.size) hr hl0 hl)
  obtain ⟨aM, cM, rfl, hml⟩ := hO.mls
  have P0 := hide hp0
  have hsz : r.tx.size ≤ 9223372036854775807 := by unfold maxLen at hd; exact hd
  cases hm : mayG r.fr r.to r.tx.size with
  | false =>
    obtain ⟨e1, e2, e3, e4⟩ := snd_no (room := room) (last := last) (rs := rs) hm
    rw [e1, e2, e3, e4]
    have hway := mayG_no hm
    obtain ⟨xi, xf, xt, xx⟩ := r
    dsimp only at hway hsz
    obtain ⟨n, hn⟩ : ∃ n, rs.length = n := ⟨_, rfl⟩
    have HO := hide hO
    rw [hn] at P0 HO ⊢
    obtain ⟨c0, c1, c2, cf⟩ := cells3 (unhide P0).nb
    have m0 := (unhide P0).mb
    unfold mlL at m0
    obtain ⟨d0, d1, d2, d3, df⟩ := cells4 m0
    have HI := hide (dn_info room last (.slice aM n cM))
    have HA := hide (dn_all (room := room) (last := last) (a0 := aM) (n := n) (c := cM))
    have HZ := hide ((unhide P0).setz (dnC room last (.slice aM n cM)))
    have Z0 := hide (unhide P0).zb
    clear hO hml hn e1 e2 e3 e4 hm hpu hp0 hO3 m0
    rcases hway with h1 | ⟨h1, h2⟩ | ⟨h1, h2, h3⟩ | ⟨h1, h2, h3, h4⟩ | ⟨h1, h2, h3, h4, rfl⟩ | ⟨h1, h2, h3, h4, h5, h6⟩
    · have b1 : decide (xf < 1) = true := decide_eq_true h1
      go_enter Try.func11, Try.ntmps11
      go_wp2_with (refine wpList_store_row_to rfl 28 (.tmp 4) (.tmp 38) rfl (w.heap.size + 2) (dnC room last (.slice aM n cM)) rfl rfl 28 zDn (unhide Z0) (unhide HI) rfl (unhide HA) (PtS w (dnC room last (.slice aM n cM)) (mlL ⟨xi, xf, xt, xx⟩).toArray (dnC room last (.slice aM n cM))) (unhide HZ) ?_)
      intro w1 h1
      have H1 := hide h1
      clear h1
      go_wp2
      exact ret_row3 (p := 4) (q := 5) (r := 6) (ty := 28) (by kernel_rfl) (w.heap.size + 2) 28 (dnC room last (.slice aM n cM)) (0, 0) _ _ _ rfl rfl rfl (unhide H1).zb rfl Try.underlying28 (unhide HI) ⟨⟨_, rfl, (unhide HO).below (unhide H1).be⟩, (unhide H1).be⟩
    · have b1 : decide (xf < 1) = false := decide_eq_false h1
      have b2 : decide (15 < xf) = true := decide_eq_true h2
      go_enter Try.func11, Try.ntmps11
      go_wp2_with (refine wpList_store_row_to rfl 28 (.tmp 4) (.tmp 38) rfl (w.heap.size + 2) (dnC room last (.slice aM n cM)) rfl rfl 28 zDn (unhide Z0) (unhide HI) rfl (unhide HA) (PtS w (dnC room last (.slice aM n cM)) (mlL ⟨xi, xf, xt, xx⟩).toArray (dnC room last (.slice aM n cM))) (unhide HZ) ?_)
      intro w1 h1
      have H1 := hide h1
      clear h1
      go_wp2
      exact ret_row3 (p := 4) (q := 5) (r := 6) (ty := 28) (by kernel_rfl) (w.heap.size + 2) 28 (dnC room last (.slice aM n cM)) (0, 0) _ _ _ rfl rfl rfl (unhide H1).zb rfl Try.underlying28 (unhide HI) ⟨⟨_, rfl, (unhide HO).below (unhide H1).be⟩, (unhide H1).be⟩
    · have b1 : decide (xf < 1) = false := decide_eq_false h1
      have b2 : decide (15 < xf) = false := decide_eq_false h2
      have b3 : decide (xt < 1) = true := decide_eq_true h3
      go_enter Try.func11, Try.ntmps11
      go_wp2_with (refine wpList_store_row_to rfl 28 (.tmp 4) (.tmp 38) rfl (w.heap.size + 2) (dnC room last (.slice aM n cM)) rfl rfl 28 zDn (unhide Z0) (unhide HI) rfl (unhide HA) (PtS w (dnC room last (.slice aM n cM)) (mlL ⟨xi, xf, xt, xx⟩).toArray (dnC room last (.slice aM n cM))) (unhide HZ) ?_)
      intro w1 h1
      have H1 := hide h1
      clear h1
      go_wp2
      exact ret_row3 (p := 4) (q := 5) (r := 6) (ty := 28) (by kernel_rfl) (w.heap.size + 2) 28 (dnC room last (.slice aM n cM)) (0, 0) _ _ _ rfl rfl rfl (unhide H1).zb rfl Try.underlying28 (unhide HI) ⟨⟨_, rfl, (unhide HO).below (unhide H1).be⟩, (unhide H1).be⟩
    · have b1 : decide (xf < 1) = false := decide_eq_false h1
      have b2 : decide (15 < xf) = false := decide_eq_false h2
      have b3 : decide (xt < 1) = false := decide_eq_false h3
      have b4 : decide (15 < xt) = true := decide_eq_true h4
      go_enter Try.func11, Try.ntmps11
      go_wp2_with (refine wpList_store_row_to rfl 28 (.tmp 4) (.tmp 38) rfl (w.heap.size + 2) (dnC room last (.slice aM n cM)) rfl rfl 28 zDn (unhide Z0) (unhide HI) rfl (unhide HA) (PtS w (dnC room last (.slice aM n cM)) (mlL ⟨xi, xf, xt, xx⟩).toArray (dnC room last (.slice aM n cM))) (unhide HZ) ?_)
      intro w1 h1
      have H1 := hide h1
      clear h1
      go_wp2
      exact ret_row3 (p := 4) (q := 5) (r := 6) (ty := 28) (by kernel_rfl) (w.heap.size + 2) 28 (dnC room last (.slice aM n cM)) (0, 0) _ _ _ rfl rfl rfl (unhide H1).zb rfl Try.underlying28 (unhide HI) ⟨⟨_, rfl, (unhide HO).below (unhide H1).be⟩, (unhide H1).be⟩
    · have b1 : decide (xf < 1) = false := decide_eq_false h1
      have b2 : decide (15 < xf) = false := decide_eq_false h2
      go_enter Try.func11, Try.ntmps11
      go_wp2_with (refine wpList_store_row_to rfl 28 (.tmp 4) (.tmp 38) rfl (w.heap.size + 2) (dnC room last (.slice aM n cM)) rfl rfl 28 zDn (unhide Z0) (unhide HI) rfl (unhide HA) (PtS w (dnC room last (.slice aM n cM)) (mlL ⟨xi, xf, xf, xx⟩).toArray (dnC room last (.slice aM n cM))) (unhide HZ) ?_)
      intro w1 h1
      have H1 := hide h1
      clear h1
      go_wp2
      exact ret_row3 (p := 4) (q := 5) (r := 6) (ty := 28) (by kernel_rfl) (w.heap.size + 2) 28 (dnC room last (.slice aM n cM)) (0, 0) _ _ _ rfl rfl rfl (unhide H1).zb rfl Try.underlying28 (unhide HI) ⟨⟨_, rfl, (unhide HO).below (unhide H1).be⟩, (unhide H1).be⟩
    · have b1 : decide (xf < 1) = false := decide_eq_false h1
      have b2 : decide (15 < xf) = false := decide_eq_false h2
      have b3 : decide (xt < 1) = false := decide_eq_false h3
      have b4 : decide (15 < xt) = false := decide_eq_false h4
      have b5 : (xf == xt) = false := by simpa using h5
      have b6 : decide ((400 : Int) < xx.size) = true := decide_eq_true h6
      go_enter Try.func11, Try.ntmps11
      go_wp2_with (refine wpList_store_row_to rfl 28 (.tmp 4) (.tmp 38) rfl (w.heap.size + 2) (dnC room last (.slice aM n cM)) rfl rfl 28 zDn (unhide Z0) (unhide HI) rfl (unhide HA) (PtS w (dnC room last (.slice aM n cM)) (mlL ⟨xi, xf, xt, xx⟩).toArray (dnC room last (.slice aM n cM))) (unhide HZ) ?_)
      intro w1 h1
      have H1 := hide h1
      clear h1
      go_wp2
      exact ret_row3 (p := 4) (q := 5) (r := 6) (ty := 28) (by kernel_rfl) (w.heap.size + 2) 28 (dnC room last (.slice aM n cM)) (0, 0) _ _ _ rfl rfl rfl (unhide H1).zb rfl Try.underlying28 (unhide HI) ⟨⟨_, rfl, (unhide HO).below (unhide H1).be⟩, (unhide H1).be⟩
  | true =>
    obtain ⟨e1, e2, e3, e4⟩ := snd_pt (room := room) (last := last) (rs := rs) hm
    rw [e1, e2, e3, e4]
    obtain ⟨h1, h2, h3, h4, h5, h6⟩ := mayG_yes hm
    generalize ptI room last rs = pi at *
    generalize ptE room rs = pe at *
    generalize ptT room last rs = pt at *
    generalize ptL room last rs r = pl at *
    obtain ⟨xi, xf, xt, xx⟩ := r
    dsimp only at h1 h2 h3 h4 h5 h6 hsz
    obtain ⟨n, hn⟩ : ∃ n, rs.length = n := ⟨_, rfl⟩
    have HO := hide hO
    unfold mlL at hpu
    dsimp only at hpu
    rw [hn] at P0 HO hpu ⊢
    obtain ⟨c0, c1, c2, cf⟩ := cells3 (unhide P0).nb
    have m0 := (unhide P0).mb
    unfold mlL at m0
    obtain ⟨d0, d1, d2, d3, df⟩ := cells4 m0
    have b1 : decide (xf < 1) = false := decide_eq_false h1
    have b2 : decide (15 < xf) = false := decide_eq_false h2
    have b3 : decide (xt < 1) = false := decide_eq_false h3
    have b4 : decide (15 < xt) = false := decide_eq_false h4
    have b5 : (xf == xt) = false := by simpa using h5
    have b6 : decide ((400 : Int) < xx.size) = false := decide_eq_false h6
    clear hO hml hn e1 e2 e3 e4 hm hp0 hO3 m0 h5
    go_enter Try.func11, Try.ntmps11
    go_wp2_with fail
    refine (unhide hpu).mono ?_
    rintro e w1 ⟨⟨v', rfl, ho⟩, hb⟩
    obtain ⟨a', c', rfl, _⟩ := ho.mls
    have P1 := hide ((unhide P0).up hb)
    have Z1 := hide (unhide P1).zb
    have HI := hide (dn_info room pt (.slice a' pl.length c'))
    have HA := hide (dn_all (room := room) (last := pt) (a0 := a') (n := pl.length) (c := c'))
    have HFS : Hid (FsS w B (.slice a' pl.length c') pl (dnC room pt (.slice a' pl.length c')) (w1.setRow (w.heap.size + 2) (dnC room pt (.slice a' pl.length c')))) := ⟨((unhide P1).setz _).zb, ((unhide P1).setz _).be, ownR_row ho (unhide Z1) (by decide) _⟩
    clear ho hb hpu c0 c1 c2 cf d0 d1 d2 d3 df
    generalize pl.length = m at *
    go_wp2_with (refine wpList_store_row_to rfl 28 (.tmp 4) (.tmp 42) rfl (w.heap.size + 2) (dnC room pt (.slice a' m c')) rfl rfl 28 zDn (unhide Z1) (unhide HI) rfl (unhide HA) (FsS w B (.slice a' m c') pl (dnC room pt (.slice a' m c'))) (unhide HFS) ?_)
    intro w2 h2'
    have H2 := hide h2'
    clear h2'
    go_wp2
    exact ret_row3 (p := 4) (q := 5) (r := 6) (ty := 28) (by kernel_rfl) (w.heap.size + 2) 28 (dnC room pt (.slice a' m c')) (0, 0) _ _ _ rfl rfl rfl (unhide H2).zb rfl Try.underlying28 (unhide HI) ⟨⟨_, rfl, (unhide H2).o⟩, (unhide H2).be⟩
end Go.Proofs.Ytmnjngkdiinnfaa

/- meter: the page's example. -/
import Derived.Test.YtlmmincpjflkdaaMeF
namespace Go.Proofs.Ytlmmincpjflkdaa
open Go.RowKit
set_option linter.unusedVariables false
attribute [local go_sem] Oper.semAt_some

def exF1 : Nat → Qu := qup noQ 3 (weighQ (noQ 3) 1)
def exF2 : Nat → Qu := qup exF1 4 (weighQ (exF1 4) 2)
def exF3 : Nat → Qu := qup exF2 3 ⟨(exF2 3).w, (exF2 3).c, (exF2 3).l ++ [8]⟩
def exF4 : Nat → Qu := qup exF3 3 ⟨(exF3 3).w, (exF3 3).c, (exF3 3).l ++ [8]⟩
def exF5 : Nat → Qu := qup exF4 4 ⟨(exF4 4).w, (exF4 4).c, (exF4 4).l ++ [8]⟩
def exF6 : Nat → Qu := qup exF5 4 ⟨(exF5 4).w, (exF5 4).c, (exF5 4).l ++ [8]⟩
theorem ex_sent : sentL exF6 10 16 = [(3, 8), (4, 8), (4, 8)] := by decide +kernel
theorem ex_e : turnE exF6 16 = 0 := by decide +kernel
theorem ex_3 : creditN (turnF exF6 10 16) 3 = 2 := by decide +kernel
theorem ex_4 : creditN (turnF exF6 10 16) 4 = 0 := by decide +kernel
theorem ex_ok : ∀ p, p < 16 → QOk (exF6 p) := by
  intro p hp
  rcases (show p = 3 ∨ p = 4 ∨ (p ≠ 3 ∧ p ≠ 4) by omega) with rfl | rfl | ⟨h1, h2⟩
  · exact ⟨by decide +kernel, by decide +kernel, by decide +kernel, by decide +kernel⟩
  · exact ⟨by decide +kernel, by decide +kernel, by decide +kernel, by decide +kernel⟩
  · have : exF6 p = ⟨0, 0, []⟩ := by simp [exF6, exF5, exF4, exF3, exF2, exF1, qup, noQ, h1, h2]
    rw [this]
    exact ⟨by decide, by decide, by decide, by simp⟩
theorem ownSt_cells {w : World} {B g n cap : Nat} {l : List (Int × Int)} (h : OwnSt w B (.slice (some ⟨g, 0, none⟩) n cap) l) (hn : l.length = n) (i : Nat) (hi : i < l.length) : w.cell? ⟨g, i * 2, none⟩ = some (.int .i64 l[i].1) ∧ w.cell? ⟨g, i * 2 + 1, none⟩ = some (.int .i64 l[i].2) := by
  subst hn
  have h' : World.ownsRow _ _ _ _ _ _ _ := h
  exact ⟨(h'.cellAt (i * 2) (by omega)).trans (stC_get l i hi).1, (h'.cellAt (i * 2 + 1) (by omega)).trans (stC_get l i hi).2⟩
set_option maxRecDepth 100000 in
set_option maxHeartbeats 2000000 in
theorem mawake_any (w : World) : Calls Try.prog 5 #[] w fun x w' => x = .returned (.bool true) ∧ Below w.heap.size w w' := by
  have h1 := hide (newShare_yes 10 w (by decide))
  have B0 := hide ((Below.refl w.heap.size w).alloc (Nat.le_refl _) (.cells (newC 10) 54))
  have S0 := hide (newShare_at 10 w.heap.size w (Nat.le_refl _))
  have g1 := hide (fun (V : Nat → Value) (x : World) (h : ShAt x w.heap.size w.heap.size 10 noQ V) => weigh_ok w.heap.size w.heap.size 3 1 10 noQ V x (by decide) (by decide) h)
  have g2 := hide (fun (V : Nat → Value) (x : World) (h : ShAt x w.heap.size w.heap.size 10 exF1 V) => weigh_ok w.heap.size w.heap.size 4 2 10 exF1 V x (by decide) (by decide) h)
  have g3 := hide (fun (V : Nat → Value) (x : World) (h : ShAt x w.heap.size w.heap.size 10 exF2 V) => add_ok w.heap.size w.heap.size 3 8 10 exF2 V x h (by decide) (by decide) (by decide +kernel) (by decide +kernel))
  have g4 := hide (fun (V : Nat → Value) (x : World) (h : ShAt x w.heap.size w.heap.size 10 exF3 V) => add_ok w.heap.size w.heap.size 3 8 10 exF3 V x h (by decide) (by decide) (by decide +kernel) (by decide +kernel))
  have g5 := hide (fun (V : Nat → Value) (x : World) (h : ShAt x w.heap.size w.heap.size 10 exF4 V) => add_ok w.heap.size w.heap.size 4 8 10 exF4 V x h (by decide) (by decide) (by decide +kernel) (by decide +kernel))
  have g6 := hide (fun (V : Nat → Value) (x : World) (h : ShAt x w.heap.size w.heap.size 10 exF5 V) => add_ok w.heap.size w.heap.size 4 8 10 exF5 V x h (by decide) (by decide) (by decide +kernel) (by decide +kernel))
  have g7 := hide (fun (V : Nat → Value) (x : World) (h : ShAt x w.heap.size w.heap.size 10 exF6 V) => turns_any w.heap.size w.heap.size 10 exF6 V x h (by decide) ex_ok)
  rw [ex_sent, ex_e] at g7
  have g8 := hide (fun (V : Nat → Value) (x : World) (h : ShAt x w.heap.size w.heap.size 10 (turnF exF6 10 16) V) => credit_any w.heap.size w.heap.size 3 10 (turnF exF6 10 16) V x h)
  have g9 := hide (fun (V : Nat → Value) (x : World) (h : ShAt x w.heap.size w.heap.size 10 (turnF exF6 10 16) V) => credit_any w.heap.size w.heap.size 4 10 (turnF exF6 10 16) V x h)
  rw [ex_3] at g8
  rw [ex_4] at g9
  go_enter Try.func5, Try.ntmps5
  go_wp2_with fail
  refine (unhide h1).mono ?_
  rintro e w1 ⟨rfl, rfl⟩
  generalize w.alloc (.cells (newC 10) 54) = w1 at *
  go_wp2_with fail
  refine (unhide g1 _ _ (unhide S0)).mono ?_
  rintro e w2 ⟨rfl, V2, s2, t2⟩
  have S2 : Hid (ShAt w2 w.heap.size w.heap.size 10 exF1 V2) := s2
  have B2 := hide ((unhide B0).trans (t2.below (unhide S0)))
  clear s2 t2 S0 B0 h1 g1
  go_wp2_with fail
  refine (unhide g2 _ _ (unhide S2)).mono ?_
  rintro e w3 ⟨rfl, V3, s3, t3⟩
  have S3 : Hid (ShAt w3 w.heap.size w.heap.size 10 exF2 V3) := s3
  have B3 := hide ((unhide B2).trans (t3.below (unhide S2)))
  clear s3 t3 S2 B2 g2
  go_wp2_with fail
  refine (unhide g3 _ _ (unhide S3)).mono ?_
  rintro e w4 ⟨rfl, V4, s4, t4⟩
  have S4 : Hid (ShAt w4 w.heap.size w.heap.size 10 exF3 V4) := s4
  have B4 := hide ((unhide B3).trans (t4.below (unhide S3)))
  clear s4 t4 S3 B3 g3
  go_wp2_with fail
  refine (unhide g4 _ _ (unhide S4)).mono ?_
  rintro e w5 ⟨rfl, V5, s5, t5⟩
  have S5 : Hid (ShAt w5 w.heap.size w.heap.size 10 exF4 V5) := s5
  have B5 := hide ((unhide B4).trans (t5.below (unhide S4)))
  clear s5 t5 S4 B4 g4
  go_wp2_with fail
  refine (unhide g5 _ _ (unhide S5)).mono ?_
  rintro e w6 ⟨rfl, V6, s6, t6⟩
  have S6 : Hid (ShAt w6 w.heap.size w.heap.size 10 exF5 V6) := s6
  have B6 := hide ((unhide B5).trans (t6.below (unhide S5)))
  clear s6 t6 S5 B5 g5
  go_wp2_with fail
  refine (unhide g6 _ _ (unhide S6)).mono ?_
  rintro e w7 ⟨rfl, V7, s7, t7⟩
  have S7 : Hid (ShAt w7 w.heap.size w.heap.size 10 exF6 V7) := s7
  have B7 := hide ((unhide B6).trans (t7.below (unhide S6)))
  clear s7 t7 S6 B6 g6
  go_wp2_with fail
  refine (unhide g7 _ _ (unhide S7)).mono ?_
  rintro e w8 ⟨v, rfl, hR⟩
  obtain ⟨V8, s8, t8⟩ := hR.sh
  obtain ⟨g, cap, rfl, _, _⟩ := World.ownsRow.form (show World.ownsRow _ _ _ _ _ _ _ from hR.st) (by decide)
  obtain ⟨p0, p1⟩ := ownSt_cells hR.st rfl 0 (by decide)
  obtain ⟨p2, p3⟩ := ownSt_cells hR.st rfl 2 (by decide)
  have S8 := hide s8
  have B8 := hide ((unhide B7).trans (t8.below (unhide S7)))
  have c0 : w8.cell? ⟨g, 0, none⟩ = some (.int .i64 3) := p0
  have c1 : w8.cell? ⟨g, 1, none⟩ = some (.int .i64 8) := p1
  have c4 : w8.cell? ⟨g, 4, none⟩ = some (.int .i64 4) := p2
  have c5 : w8.cell? ⟨g, 5, none⟩ = some (.int .i64 8) := p3
  clear hR s8 t8 p0 p1 p2 p3 S7 B7 g7
  go_wp2_with fail
  refine (unhide g8 _ _ (unhide S8)).mono ?_
  rintro e w9 ⟨rfl, rfl⟩
  go_wp2_with fail
  refine (unhide g9 _ _ (unhide S8)).mono ?_
  rintro e w9 ⟨rfl, rfl⟩
  go_wp2
  go_ret
  exact ⟨rfl, unhide B8⟩
end Go.Proofs.Ytlmmincpjflkdaa

/- store: the law's few, entry, awake. -/
import Derived.Test.YtgomnmhjkjahlaaStH
namespace Go.Proofs.Ytgomnmhjkjahlaa
open Go.RowKit
set_option linter.unusedVariables false
attribute [local go_sem] Oper.semAt_some

/-- the law's entry of a peer and a seed -/
abbrev entR (peer seed : Int) (a0 : Option Addr) (c : Nat) : Raw := ⟨0, peer, 0, seed, ⟨#[]⟩, a0, [seed % 100], c, ⟨#[120]⟩⟩
set_option maxRecDepth 100000 in
set_option maxHeartbeats 1000000 in
theorem entry_any (peer seed : Int) (h0 : 0 ≤ seed) (h1 : seed ≤ 1000000) (w : World) : Calls Try.prog 30 #[.int .i64 peer, .int .i64 seed] w fun e w' => (∃ a0, e = .returned (rawV (entR peer seed a0 1)) ∧ Ints w' a0 [seed % 100] ∧ (∀ a, a0 = some a → w.heap.size ≤ a.block)) ∧ Below w.heap.size w w' := by
  go_enter Try.func30, Try.ntmps30
  go_wp2
  refine ret_cell rfl w.heap.size 34 #[.int .i64 0, .int .i64 peer, .int .i64 0, .int .i64 seed, .string ⟨#[]⟩, .slice (some ⟨w.heap.size + 1, 0, none⟩) 1 1, .string ⟨#[120]⟩] (0, 0) _ rfl (heap2_a _ _ _) rfl Try.underlying34 (by kernel_rfl) ⟨⟨_, rfl, fun i hi => ?_, fun a ha => ?_⟩, ((Below.refl _ _).alloc (Nat.le_refl _) _).alloc (by simp) _⟩
  · simp at hi
    subst hi
    refine ⟨w.heap.size + 1, 0, rfl, ?_⟩
    rw [cell_of_row _ _ _ _ _ (0, 0) (heap2_b w _ _)]
    rfl
  · cases ha
    simp
theorem mayK_ent (peer seed : Int) (h0 : 0 ≤ seed) (hp : 1 ≤ peer ∧ peer ≤ 15) : mayK peer [seed % 100] 1 = true := by
  unfold mayK mayB
  rw [decide_eq_true hp]
  have h1 : 0 ≤ seed % 100 := by omega
  have h2 : seed % 100 < 100 := by omega
  simp [isR]
  omega
/-- an entry of the law's is added -/
theorem addE_ok (p b : Nat) (room last : Int) (rs : List Raw) (peer seed : Int) (a0 : Option Addr) (w : World) (hS : StAt w p b room last rs) (h0 : 0 ≤ seed) (hp : 1 ≤ peer ∧ peer ≤ 15) (hI : Ints w a0 [seed % 100]) (hxp : ∀ a, a0 = some a → a.block ≠ p) (hh : rs.any (hasB peer 0 seed ⟨#[]⟩) = false) (hf : (rs.length : Int) < room) (hlast : last < 1000000000) :
    Calls Try.prog 14 #[.pointer (some ⟨p, 0, none⟩), rawV (entR peer seed a0 1)] w fun e w' => e = .returned (.tuple #[.int .i64 (last + 1), .int .i64 0]) ∧ (∃ a1 c1, StAt w' p b room (last + 1) (rs ++ [⟨last + 1, peer, 0, seed, ⟨#[]⟩, a1, [seed % 100], c1, ⟨#[120]⟩⟩])) ∧ K2 p b w w' :=
  add_ok p b room last rs (entR peer seed a0 1) w hS hI (by simp) (show (1 : Nat) ≤ maxLen by unfold maxLen; decide) hxp (mayK_ent peer seed h0 hp) hh hf hlast
theorem addE_full (p b : Nat) (room last : Int) (rs : List Raw) (peer seed : Int) (a0 : Option Addr) (w : World) (hS : StAt w p b room last rs) (h0 : 0 ≤ seed) (hp : 1 ≤ peer ∧ peer ≤ 15) (hI : Ints w a0 [seed % 100]) (hh : rs.any (hasB peer 0 seed ⟨#[]⟩) = false) (hf : room ≤ (rs.length : Int)) :
    Calls Try.prog 14 #[.pointer (some ⟨p, 0, none⟩), rawV (entR peer seed a0 1)] w fun e w' => e = .returned (.tuple #[.int .i64 0, .int .i64 6]) ∧ Below w.heap.size w w' :=
  add_full p b room last rs (entR peer seed a0 1) w hS hI (by simp) (show (1 : Nat) ≤ maxLen by unfold maxLen; decide) (mayK_ent peer seed h0 hp) hh hf
theorem addE_there (p b : Nat) (room last : Int) (rs : List Raw) (peer seed : Int) (a0 : Option Addr) (w : World) (hS : StAt w p b room last rs) (h0 : 0 ≤ seed) (hp : 1 ≤ peer ∧ peer ≤ 15) (hI : Ints w a0 [seed % 100]) (hh : rs.any (hasB peer 0 seed ⟨#[]⟩) = true) :
    Calls Try.prog 14 #[.pointer (some ⟨p, 0, none⟩), rawV (entR peer seed a0 1)] w fun e w' => e = .returned (.tuple #[.int .i64 0, .int .i64 5]) ∧ Below w.heap.size w w' :=
  add_there p b room last rs (entR peer seed a0 1) w hS hI (by simp) (show (1 : Nat) ≤ maxLen by unfold maxLen; decide) (mayK_ent peer seed h0 hp) hh
set_option maxRecDepth 100000 in
set_option maxHeartbeats 2000000 in
theorem sawake_any (w : World) : Calls Try.prog 9 #[] w fun e w' => e = .returned (.bool true) ∧ Below w.heap.size w w' := by
  have hn := hide (new_any 2 w (by omega) (by omega))
  have hent := hide (fun (k : Int) (h0 : 0 ≤ k) (h1 : k ≤ 1000000) w => entry_any 1 k h0 h1 w)
  go_enter Try.func9, Try.ntmps9
  go_wp2_with fail
  refine (unhide hn).mono ?_
  rintro e w1 ⟨⟨p, b, rfl, hp, hb, hS1⟩, hB1⟩
  have HS1 := hide hS1
  have HB1 := hide hB1
  have hp1 := hS1.plt
  clear hS1 hB1 hn
  go_wp2_with fail
  refine (unhide hent 1 (by omega) (by omega) w1).mono ?_
  rintro e w2 ⟨⟨a2, rfl, hI2, hlt2⟩, hb2⟩
  have hS2 := (unhide HS1).kept hb2
  have hA := hide (addE_ok p b 2 0 [] 1 1 a2 w2 hS2 (by omega) (by omega) hI2 (fun a ha => by have := hlt2 a ha; omega) rfl (by simp) (by omega))
  have HB2 := hide ((unhide HB1).trans (hb2.mono (unhide HB1).size))
  clear hS2 hI2 hlt2 hb2 HS1 HB1
  go_wp2_with fail
  refine (unhide hA).mono ?_
  rintro e w3 ⟨rfl, ⟨a3, c3, hS3⟩, hk3⟩
  have HS3 := hide hS3
  have HB3 := hide ((unhide HB2).trans (hk3.below w.heap.size (unhide HB2).size hp hb))
  have hp3 := hS3.plt
  clear hS3 hk3 hA HB2
  go_wp2_with fail
  refine (unhide hent 2 (by omega) (by omega) w3).mono ?_
  rintro e w4 ⟨⟨a4, rfl, hI4, hlt4⟩, hb4⟩
  have hS4 := (unhide HS3).kept hb4
  have hA := hide (addE_ok p b 2 (0 + 1) _ 1 2 a4 w4 hS4 (by omega) (by omega) hI4 (fun a ha => by have := hlt4 a ha; omega) (by simp [hasB]) (by simp) (by omega))
  have HB4 := hide ((unhide HB3).trans (hb4.mono (unhide HB3).size))
  clear hS4 hI4 hlt4 hb4 HS3 HB3
  go_wp2_with fail
  refine (unhide hA).mono ?_
  rintro e w5 ⟨rfl, ⟨a5, c5, hS5⟩, hk5⟩
  have HS5 := hide hS5
  have HB5 := hide ((unhide HB4).trans (hk5.below w.heap.size (unhide HB4).size hp hb))
  have hp5 := hS5.plt
  clear hS5 hk5 hA HB4
  go_wp2_with fail
  refine (unhide hent 3 (by omega) (by omega) w5).mono ?_
  rintro e w6 ⟨⟨a6, rfl, hI6, hlt6⟩, hb6⟩
  have hS6 := (unhide HS5).kept hb6
  have hA := hide (addE_full p b 2 (0 + 1 + 1) _ 1 3 a6 w6 hS6 (by omega) (by omega) hI6 (by simp [hasB]) (by simp))
  have HS6 := hide hS6
  have HB6 := hide ((unhide HB5).trans (hb6.mono (unhide HB5).size))
  clear hS6 hI6 hlt6 hb6 HS5 HB5
  go_wp2_with fail
  refine (unhide hA).mono ?_
  rintro e w7 ⟨rfl, hb7⟩
  have HS7 := hide ((unhide HS6).kept hb7)
  have HB7 := hide ((unhide HB6).trans (hb7.mono (unhide HB6).size))
  clear hb7 hA HS6 HB6
  have hD := hide (drop_ok p b 2 (0 + 1 + 1) _ ⟨0 + 1, 1, 0, 1, ⟨#[]⟩, a3, [1 % 100], c3, ⟨#[120]⟩⟩ w7 (unhide HS7) (by simp))
  go_wp2_with fail
  refine (unhide hD).mono ?_
  rintro e w8 ⟨rfl, hS8, hk8⟩
  have HS8 := hide hS8
  have hp8 := hS8.plt
  have HB8 := hide ((unhide HB7).trans (hk8.below w.heap.size (unhide HB7).size hp hb))
  clear hS8 hk8 hD HS7 HB7
  go_wp2_with fail
  refine (unhide hent 3 (by omega) (by omega) w8).mono ?_
  rintro e w9 ⟨⟨a9, rfl, hI9, hlt9⟩, hb9⟩
  have hS9 := (unhide HS8).kept hb9
  have hA := hide (addE_ok p b 2 (0 + 1 + 1) _ 1 3 a9 w9 hS9 (by omega) (by omega) hI9 (fun a ha => by have := hlt9 a ha; omega) (by simp [hasB]) (by simp) (by omega))
  have HB9 := hide ((unhide HB8).trans (hb9.mono (unhide HB8).size))
  clear hS9 hI9 hlt9 hb9 HS8 HB8
  go_wp2_with fail
  refine (unhide hA).mono ?_
  rintro e w10 ⟨rfl, ⟨a10, c10, hS10⟩, hk10⟩
  have hL := hide (len_any p b 2 _ _ w10 hS10)
  have HB10 := hide ((unhide HB9).trans (hk10.below w.heap.size (unhide HB9).size hp hb))
  clear hS10 hk10 hA HB9
  go_wp2_with fail
  refine (unhide hL).mono ?_
  rintro e w11 ⟨rfl, rfl⟩
  go_wp2
  go_ret
  exact ⟨rfl, unhide HB10⟩
end Go.Proofs.Ytgomnmhjkjahlaa

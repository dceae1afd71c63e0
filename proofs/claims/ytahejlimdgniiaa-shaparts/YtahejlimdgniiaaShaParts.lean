/- What the law ShaParts does, whatever the world and the texts: it answers true and changes nothing that was there. -/
import Derived.Test.YtahejlimdgniiaaRefSum
namespace Go.Proofs.Ytahejlimdgniiaa
open Go.RowKit
set_option linter.unusedVariables false

/-- texts in a row of cells -/
def StrsAt (w : World) (a0 : Option Addr) (len : Nat) (S : Nat → ByteArray) : Prop :=
  ∀ i, i < len → ∃ b off, a0 = some ⟨b, off, none⟩ ∧ b < w.heap.size ∧ w.cell? ⟨b, off + i, none⟩ = some (.string (S i)) ∧ (S i).size ≤ maxLen
/-- a sum at block b that holds the bytes A -/
def SumOf (w : World) (b : Nat) (A : ByteArray) : Prop := ∃ st P, HashAt w b st P A.size ∧ HashOf A.data.toList st P
theorem SumOf.below {w w' : World} {b : Nat} {A : ByteArray} (h : SumOf w b A) (hb : Below w.heap.size w w') : SumOf w' b A := by
  obtain ⟨st, P, h1, h2⟩ := h
  exact ⟨st, P, h1.below hb, h2⟩
theorem SumOf.lt {w : World} {b : Nat} {A : ByteArray} (h : SumOf w b A) : b < w.heap.size := by
  obtain ⟨st, P, h1, h2⟩ := h
  exact h1.lt
theorem sumOf_write (w : World) (b : Nat) (A s : ByteArray) (hl : A.size + s.size ≤ 65536) (h : SumOf w b A) :
    Calls Try.prog 21 #[.pointer (some ⟨b, 0, none⟩), .string s] w fun e w' => e = .returned (.int .i64 0) ∧ SumOf w' b (A ++ s) ∧ Kept w.heap.size b w w' := by
  obtain ⟨st, P, h1, h2⟩ := h
  refine (write_any w b A.data.toList st P s (by rw [blen]; exact hl) (by rw [blen]; exact h1) h2).mono ?_
  rintro e w' ⟨rfl, st', P', h3, h4, h5⟩
  refine ⟨rfl, ⟨st', P', ?_, ?_⟩, h5⟩
  · rw [← bapp, blen] at h3; exact h3
  · rw [bapp]; exact h4
theorem sumOf_len (w : World) (b : Nat) (A : ByteArray) (h : SumOf w b A) : Calls Try.prog 22 #[.pointer (some ⟨b, 0, none⟩)] w fun e w' => e = .returned (.int .i64 A.size) ∧ w = w' := by
  obtain ⟨st, P, h1, h2⟩ := h
  exact len_any w b st P A.size h1
theorem sumOf_sum (w : World) (b : Nat) (A : ByteArray) (hl : A.size ≤ 65536) (h : SumOf w b A) : Calls Try.prog 23 #[.pointer (some ⟨b, 0, none⟩)] w fun e w' => e = .returned (.string ⟨(shaSum A.data.toList).toArray⟩) ∧ Below w.heap.size w w' := by
  obtain ⟨st, P, h1, h2⟩ := h
  exact sumM_any w b A.data.toList st P (by rw [blen]; exact hl) (by rw [blen]; exact h1) h2

set_option maxHeartbeats 2000000 in
theorem shaParts_any (a0 : Option Addr) (len cap : Nat) (S : Nat → ByteArray) (w : World) (hS : StrsAt w a0 len S) (hlen : len ≤ maxLen) :
    Calls Try.prog 6 #[.slice a0 len cap] w fun e w' => e = .returned (.bool true) ∧ Below w.heap.size w w' := by
  unfold maxLen at hlen
  have HS := hide hS
  clear hS
  go_enter Try.func6, Try.ntmps6
  go_wp2_with fail
  refine (new_any w).mono ?_
  rintro e w1 ⟨bh, rfl, hA, hb, b1⟩
  have HA := hide hA
  clear hA
  go_wp2_with fail
  refine (awake_any w1).mono ?_
  rintro e w2 ⟨rfl, b2⟩
  have A2 : Hid (SumOf w2 bh ⟨#[]⟩) := ⟨s8H, List.replicate 64 0, (unhide HA).below b2, hashOf_nil⟩
  have B2 := hide (b1.trans (b2.mono b1.size))
  clear HA b1 b2
  go_wp2
  go_loopw [4, 5] (fun all i wr => ∃ (k : Nat) (A : ByteArray), k ≤ 40 ∧ all = .string A ∧ i = .int .i64 k ∧ A.size ≤ 5000 ∧ SumOf wr bh A ∧ Below w.heap.size w wr) (fun _ i _ => 40 - (intOf i).toNat)
  case atStart => exact ⟨0, ⟨#[]⟩, by omega, rfl, rfl, by decide, unhide A2, unhide B2⟩
  case round =>
    clear A2 B2
    obtain ⟨k, A, hk, rfl, rfl, hAs, hso, hbe⟩ := hrel
    have HO := hide hso
    have HB := hide hbe
    have hz := hbe.size
    clear hso hbe
    by_cases hlt : k < len ∧ k < 40
    · obtain ⟨hlt1, hlt2⟩ := hlt
      obtain ⟨b, off, rfl, hbl, hc, hs⟩ := unhide HS k hlt1
      have c := ((unhide HB).cell (p := ⟨b, off + k, none⟩) hbl).trans hc
      generalize S k = s at *
      have q1 : (k : Int) < len := by omega
      have q2 : (k : Int) < 40 := by omega
      unfold maxLen at hs
      clear hc
      by_cases hbig : (5000 : Int) - A.size < s.size
      · go_wp2
        go_roundw
        case rel => exact ⟨k + 1, A, by omega, rfl, by go_num, hAs, unhide HO, unhide HB⟩
        case measure => simp [intOf]; omega
      · have hAS : A.size + s.size ≤ 5000 := by omega
        go_wp2_with fail
        refine (sumOf_write wr bh A s (by omega) (unhide HO)).mono ?_
        rintro e w1 ⟨rfl, o1, k1⟩
        have c1 : w1.cell? ⟨b, off + k, none⟩ = some (.string s) := by
          rw [← c]
          exact World.cell?_of_block (k1.block b (by omega) (by omega))
        have B1 := hide ((unhide HB).trans (k1.below _ (unhide HB).size hb))
        have O1 := hide o1
        obtain ⟨D, hD⟩ : ∃ D : ByteArray, D = A ++ s := ⟨_, rfl⟩
        have hDs : D.size = A.size + s.size := by rw [hD]; exact ByteArray.size_append
        rw [← hD] at O1
        have HD := hide hD
        clear c k1 o1 HO HB hD
        have hD5 : D.size ≤ 5000 := by omega
        have HDS := hide hDs
        clear hDs
        go_wp2_with fail
        rw [← unhide HD]
        refine (sumOf_len w1 bh D (unhide O1)).mono ?_
        rintro e w2 ⟨rfl, rfl⟩
        clear c1 HD
        by_cases hm : k % 3 = 2
        · have hm' : (k : Int) % 3 = 2 := by omega
          go_wp2_with fail
          refine (sumOf_sum w1 bh D (by omega) (unhide O1)).mono ?_
          rintro e w3 ⟨rfl, b3⟩
          have O3 := hide ((unhide O1).below b3)
          have B3 := hide ((unhide B1).trans (b3.mono (unhide B1).size))
          have hrs := hide (fun w => rSum_any D w (by omega))
          obtain ⟨G, hG⟩ : ∃ G : ByteArray, G = ⟨(shaSum D.data.toList).toArray⟩ := ⟨_, rfl⟩
          rw [← hG] at hrs ⊢
          clear hG b3 O1 B1
          go_wp2_with fail
          refine (unhide hrs w3).mono ?_
          rintro e w4 ⟨rfl, b4⟩
          have O4 := hide ((unhide O3).below b4)
          have B4 := hide ((unhide B3).trans (b4.mono (unhide B3).size))
          clear b4 O3 B3 hrs
          go_wp2
          go_roundw
          case rel => exact ⟨k + 1, D, by omega, rfl, by go_num, hD5, unhide O4, unhide B4⟩
          case measure => simp [intOf]; omega
        · have hm' : (k : Int) % 3 ≠ 2 := by omega
          go_wp2
          go_roundw
          case rel => exact ⟨k + 1, D, by omega, rfl, by go_num, hD5, unhide O1, unhide B1⟩
          case measure => simp [intOf]; omega
    · have hx : (¬ (k : Int) < len) ∨ ((k : Int) < len ∧ ¬ (k : Int) < 40) := by omega
      have hss := hide (fun w => sum_any w A (by omega))
      have hrs := hide (fun w => rSum_any A w (by omega))
      have hms := hide (fun w h => sumOf_sum w bh A (by omega) h)
      obtain ⟨G, hG⟩ : ∃ G : ByteArray, G = ⟨(shaSum A.data.toList).toArray⟩ := ⟨_, rfl⟩
      rw [← hG] at hrs hss hms
      clear hG hlt HS hk
      rcases hx with q | ⟨q, q'⟩
      all_goals
        go_wp2_with fail
        refine (unhide hms wr (unhide HO)).mono ?_
        rintro e w3 ⟨rfl, b3⟩
        have O3 := hide ((unhide HO).below b3)
        have B3 := hide ((unhide HB).trans (b3.mono (unhide HB).size))
        clear b3 HO HB
        go_wp2_with fail
        refine (unhide hss w3).mono ?_
        rintro e w4 ⟨rfl, b4⟩
        have O4 := hide ((unhide O3).below b4)
        have B4 := hide ((unhide B3).trans (b4.mono (unhide B3).size))
        clear b4 O3 B3
        go_wp2_with fail
        refine (unhide hms w4 (unhide O4)).mono ?_
        rintro e w5 ⟨rfl, b5⟩
        have B5 := hide ((unhide B4).trans (b5.mono (unhide B4).size))
        clear b5 B4 O4
        go_wp2_with fail
        refine (unhide hrs w5).mono ?_
        rintro e w6 ⟨rfl, b6⟩
        have B6 := hide ((unhide B5).trans (b6.mono (unhide B5).size))
        clear b6 B5
        go_wp2
        go_ret
        exact ⟨rfl, unhide B6⟩

end Go.Proofs.Ytahejlimdgniiaa

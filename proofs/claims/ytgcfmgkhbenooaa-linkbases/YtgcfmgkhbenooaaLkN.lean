/- The laws LinkBases and LinkEscapes. -/
import Derived.Test.YtgcfmgkhbenooaaLkL
namespace Go.Proofs.Ytgcfmgkhbenooaa
open Go.RowKit
set_option linter.unusedVariables false

theorem awUn : un32 [110, 98, 117, 113] = ([104, 105], 0) := by decide +kernel
theorem awEs : escL [97, 32, 98, 47, 99] = [97, 37, 50, 48, 98, 37, 50, 70, 99] := by decide +kernel

set_option maxRecDepth 100000 in
set_option maxHeartbeats 1000000 in
theorem lawake_any (w : World) : Calls Try.prog 5 #[] w fun e w' => e = .returned (.bool true) ∧ Below w.heap.size w w' := by
  have h1 := hide (fun w => unbase32_any [110, 98, 117, 113] w (by decide))
  have h2 := hide (fun w => base32_any [104, 105] w (by decide))
  have h3 := hide (fun w => escape_any (bs [97, 32, 98, 47, 99]) w (by decide))
  rw [awUn] at h1
  rw [aw32] at h2
  rw [bs_list, awEs] at h3
  go_enter Try.func5, Try.ntmps5
  go_wp2_with fail
  refine (unhide h1 _).mono ?_
  rintro e w1 ⟨rfl, b1⟩
  have B1 := hide b1
  clear b1 h1
  go_wp2_with fail
  refine (unhide h2 _).mono ?_
  rintro e w2 ⟨rfl, b2⟩
  have B2 := hide ((unhide B1).trans (b2.mono (unhide B1).size))
  clear b2 h2 B1
  have e1 : (bs [110, 98, 117, 113]).toList = [110, 98, 117, 113] := by rw [ByteArray.toList_eq]; rfl
  have e2 : (bs [104, 105]).toList = [104, 105] := by rw [ByteArray.toList_eq]; rfl
  go_wp2_with fail
  refine (unhide h3 _).mono ?_
  rintro e w3 ⟨rfl, b3⟩
  have B3 := hide ((unhide B2).trans (b3.mono (unhide B2).size))
  clear b3 h3 B2
  go_wp2
  go_ret
  exact ⟨rfl, unhide B3⟩

set_option maxRecDepth 100000 in
set_option maxHeartbeats 1000000 in
theorem linkBases_law (l : List UInt8) (w : World) (hl : l.length ≤ maxLen) : Calls Try.prog 3 #[.string (bs l)] w fun e w' => e = .returned (.bool true) ∧ Below w.heap.size w w' := by
  have hbs := bs_size l
  have haw := hide (fun w => lawake_any w)
  by_cases hf : l.length ≤ 400
  · have h1 := hide (fun w => unbase32_any l w (by omega))
    have h2 := hide (fun w => dunbase32_any l w (by omega))
    have h3 := hide (fun w => base32_any l w (by omega))
    have h4 := hide (fun w => dbase32_any l w (by omega))
    have e1 : ((bs (b32 l)).toList == (bs (b32 l)).toList) = true := beq_self_eq_true _
    have e2 : ((bs (un32 l).1).toList == (bs (un32 l).1).toList) = true := beq_self_eq_true _
    generalize bs (b32 l) = BB at *
    generalize un32 l = UU at *
    obtain ⟨ul, ue⟩ := UU
    dsimp only at *
    generalize bs ul = UL at *
    have q1 : ¬ (400 : Int) < ((l.length : Nat) : Int) := by omega
    clear hl
    generalize l.length = n at *
    go_enter Try.func3, Try.ntmps3
    go_wp2_with fail
    refine (unhide h1 _).mono ?_
    rintro e w1 ⟨rfl, b1⟩
    have B1 := hide b1
    clear b1 h1
    go_wp2_with fail
    refine (unhide h2 _).mono ?_
    rintro e w2 ⟨rfl, b2⟩
    have B2 := hide ((unhide B1).trans (b2.mono (unhide B1).size))
    clear b2 h2 B1
    go_wp2_with fail
    refine (unhide haw _).mono ?_
    rintro e w3 ⟨rfl, b3⟩
    have B3 := hide ((unhide B2).trans (b3.mono (unhide B2).size))
    clear b3 haw B2
    go_wp2_with fail
    refine (unhide h3 _).mono ?_
    rintro e w4 ⟨rfl, b4⟩
    have B4 := hide ((unhide B3).trans (b4.mono (unhide B3).size))
    clear b4 h3 B3
    go_wp2_with fail
    refine (unhide h4 _).mono ?_
    rintro e w5 ⟨rfl, rfl⟩
    clear h4
    go_wp2
    go_ret
    exact ⟨rfl, unhide B4⟩
  · have q1 : (400 : Int) < ((l.length : Nat) : Int) := by omega
    generalize l.length = n at *
    go_enter Try.func3, Try.ntmps3
    go_wp2_with fail
    refine (unhide haw _).mono ?_
    rintro e w3 ⟨rfl, b3⟩
    have B3 := hide b3
    clear b3 haw
    go_wp2
    go_ret
    exact ⟨rfl, unhide B3⟩

set_option maxRecDepth 100000 in
set_option maxHeartbeats 1000000 in
theorem linkEscapes_law (l : List UInt8) (w : World) (hl : l.length ≤ maxLen) : Calls Try.prog 4 #[.string (bs l)] w fun e w' => e = .returned (.bool true) ∧ Below w.heap.size w w' := by
  have hbs := bs_size l
  have haw := hide (fun w => lawake_any w)
  by_cases hf : l.length ≤ 400
  · have h1 := hide (fun w => unescape_any (bs l) w (by omega))
    have h2 := hide (fun w => dunescape_any (bs l) w (by omega))
    have h3 := hide (fun w => escape_any (bs l) w (by omega))
    have h4 := hide (fun w => descape_any (bs l) w (by omega))
    rw [bs_list] at h1 h2 h3 h4
    have e1 : ((bs (escL l)).toList == (bs (escL l)).toList) = true := beq_self_eq_true _
    have e2 : ((bs (unV l).1).toList == (bs (unV l).1).toList) = true := beq_self_eq_true _
    rw [show (⟨(escL l).toArray⟩ : ByteArray) = bs (escL l) from rfl] at h3 h4
    rw [show (⟨(unV l).1.toArray⟩ : ByteArray) = bs (unV l).1 from rfl] at h1 h2
    generalize bs (escL l) = BB at *
    generalize unV l = UU at *
    obtain ⟨ul, ue⟩ := UU
    dsimp only at *
    generalize bs ul = UL at *
    have q1 : ¬ (400 : Int) < ((l.length : Nat) : Int) := by omega
    clear hl
    generalize l.length = n at *
    go_enter Try.func4, Try.ntmps4
    go_wp2_with fail
    refine (unhide h1 _).mono ?_
    rintro e w1 ⟨rfl, b1⟩
    have B1 := hide b1
    clear b1 h1
    go_wp2_with fail
    refine (unhide h2 _).mono ?_
    rintro e w2 ⟨rfl, b2⟩
    have B2 := hide ((unhide B1).trans (b2.mono (unhide B1).size))
    clear b2 h2 B1
    go_wp2_with fail
    refine (unhide haw _).mono ?_
    rintro e w3 ⟨rfl, b3⟩
    have B3 := hide ((unhide B2).trans (b3.mono (unhide B2).size))
    clear b3 haw B2
    go_wp2_with fail
    refine (unhide h3 _).mono ?_
    rintro e w4 ⟨rfl, b4⟩
    have B4 := hide ((unhide B3).trans (b4.mono (unhide B3).size))
    clear b4 h3 B3
    go_wp2_with fail
    refine (unhide h4 _).mono ?_
    rintro e w5 ⟨rfl, b5⟩
    have B5 := hide ((unhide B4).trans (b5.mono (unhide B4).size))
    clear b5 h4 B4
    go_wp2
    go_ret
    exact ⟨rfl, unhide B5⟩
  · have q1 : (400 : Int) < ((l.length : Nat) : Int) := by omega
    generalize l.length = n at *
    go_enter Try.func4, Try.ntmps4
    go_wp2_with fail
    refine (unhide haw _).mono ?_
    rintro e w3 ⟨rfl, b3⟩
    have B3 := hide b3
    clear b3 haw
    go_wp2
    go_ret
    exact ⟨rfl, unhide B3⟩

theorem linkBases_any (s : ByteArray) (w : World) (h : s.size ≤ maxLen) : Calls Try.prog 3 #[.string s] w fun e w' => e = .returned (.bool true) ∧ Below w.heap.size w w' := by
  have := linkBases_law s.data.toList w (by rw [blen]; exact h)
  rwa [bs_of] at this
theorem linkEscapes_any (s : ByteArray) (w : World) (h : s.size ≤ maxLen) : Calls Try.prog 4 #[.string s] w fun e w' => e = .returned (.bool true) ∧ Below w.heap.size w w' := by
  have := linkEscapes_law s.data.toList w (by rw [blen]; exact h)
  rwa [bs_of] at this

end Go.Proofs.Ytgcfmgkhbenooaa

/- Contracts of the document's number, bit, letter and Base32. -/
import Derived.Test.YtgcfmgkhbenooaaLkJ
namespace Go.Proofs.Ytgcfmgkhbenooaa
open Go.RowKit
set_option linter.unusedVariables false

theorem numL_cases (c : Nat) : (97 ≤ c ∧ c ≤ 122 ∧ numL c = c - 97) ∨ (50 ≤ c ∧ c ≤ 55 ∧ numL c = c - 24) ∨ ((c < 50 ∨ 55 < c) ∧ (c < 97 ∨ 122 < c) ∧ numL c = 32) := by
  unfold numL
  split <;> (try split) <;> omega

set_option maxRecDepth 100000 in
theorem number_any (c : Nat) (hc : c < 256) (w : World) :
    Calls Try.prog 16 #[.int .u8 (c : Nat)] w fun e w' => e = .returned (.int .i64 (numL c : Nat)) ∧ w = w' := by
  have hwc := wrap256 c hc
  have hw64 : IntKind.i64.wrap ((c : Nat) : Int) = ((c : Nat) : Int) := by rw [IntKind.wrap_i64]; omega
  rcases numL_cases c with ⟨h1, h2, h3⟩ | ⟨h1, h2, h3⟩ | ⟨h1, h2, h3⟩
  · have a1 : (97 : Int) ≤ c := by omega
    have a2 : (c : Int) ≤ 122 := by omega
    have e : ((numL c : Nat) : Int) = c - 97 := by omega
    rw [e]
    clear h3 e
    go_enter Try.func16, Try.ntmps16
    go_wp2
    go_ret
    exact ⟨rfl, rfl⟩
  · have a1 : (50 : Int) ≤ c := by omega
    have a2 : (c : Int) ≤ 55 := by omega
    have a3 : ¬ (97 : Int) ≤ c := by omega
    have e : ((numL c : Nat) : Int) = c - 24 := by omega
    rw [e]
    clear h3 e
    go_enter Try.func16, Try.ntmps16
    go_wp2
    go_ret
    exact ⟨rfl, rfl⟩
  · rw [h3]
    clear h3
    have hb : c < 50 ∨ (55 < c ∧ c < 97) ∨ 122 < c := by omega
    clear h1 h2
    rcases hb with h | ⟨h, h'⟩ | h
    · go_enter Try.func16, Try.ntmps16
      go_wp2
      go_ret
      exact ⟨rfl, rfl⟩
    · go_enter Try.func16, Try.ntmps16
      go_wp2
      go_ret
      exact ⟨rfl, rfl⟩
    · go_enter Try.func16, Try.ntmps16
      go_wp2
      go_ret
      exact ⟨rfl, rfl⟩

theorem let_ext (k : Nat) (h : k < 32) : (⟨#[97, 98, 99, 100, 101, 102, 103, 104, 105, 106, 107, 108, 109, 110, 111, 112, 113, 114, 115, 116, 117, 118, 119, 120, 121, 122, 50, 51, 52, 53, 54, 55]⟩ : ByteArray).extract k (k + 1) = bs [letD k] := by
  have : ∀ m : Fin 32, ((⟨#[97, 98, 99, 100, 101, 102, 103, 104, 105, 106, 107, 108, 109, 110, 111, 112, 113, 114, 115, 116, 117, 118, 119, 120, 121, 122, 50, 51, 52, 53, 54, 55]⟩ : ByteArray).extract m.val (m.val + 1)).data.toList = [letD m.val] := by decide +kernel
  have h2 := this ⟨k, h⟩
  rw [← bs_of ((⟨#[97, 98, 99, 100, 101, 102, 103, 104, 105, 106, 107, 108, 109, 110, 111, 112, 113, 114, 115, 116, 117, 118, 119, 120, 121, 122, 50, 51, 52, 53, 54, 55]⟩ : ByteArray).extract k (k + 1)), h2]
set_option maxRecDepth 100000 in
theorem letter_any (k : Nat) (h : k < 32) (w : World) : Calls Try.prog 18 #[.int .i64 (k : Nat)] w fun e w' => e = .returned (.string (bs [letD k])) ∧ w = w' := by
  have he := let_ext k h
  have h1 : ((k : Nat) : Int) < 32 := by omega
  go_enter Try.func18, Try.ntmps18
  go_wp2
  go_ret
  exact ⟨rfl, rfl⟩

set_option maxRecDepth 100000 in
theorem dbit_any (l : List UInt8) (p : Nat) (w : World) (hl : l.length ≤ 20000) (hp : p ≤ 200000) : Calls Try.prog 17 #[.string (bs l), .int .i64 (p : Nat)] w fun e w' => e = .returned (.int .i64 (bitB l p : Nat)) ∧ w = w' := by
  have hbs := bs_size l
  have hq : ((p : Nat) : Int).tdiv 8 = ((p / 8 : Nat) : Int) := rfl
  have hr : ((p : Nat) : Int).tmod 8 = ((p % 8 : Nat) : Int) := rfl
  have hr8 : p % 8 < 8 := Nat.mod_lt _ (by decide)
  have hdef : Hid (bitB l p = (l.getD (p / 8) 0).toNat / 2 ^ (7 - p % 8) % 2) := rfl
  generalize bitB l p = RES at *
  have hqb : p / 8 ≤ 200000 := by omega
  generalize p / 8 = q at *
  generalize p % 8 = r at *
  by_cases hin : q < l.length
  · have hix := run_index_bs (P := Try.prog) 9 l q hin (by kernel_rfl)
    have hg : l.getD q 0 = l[q] := by rw [List.getD_eq_getElem?_getD, List.getElem?_eq_getElem hin]; rfl
    rw [hg] at hdef
    have hb := l[q].toNat_lt
    have hw64 : IntKind.i64.wrap ((l[q].toNat : Nat) : Int) = ((l[q].toNat : Nat) : Int) := by rw [IntKind.wrap_i64]; omega
    generalize l[q].toNat = X at *
    have hge : ¬ ((l.length : Nat) : Int) ≤ ((q : Nat) : Int) := by omega
    clear hg
    generalize l.length = n at *
    go_enter Try.func17, Try.ntmps17
    go_wp2
    go_loopw [5, 6] (fun kv jv wr => ∃ (j : Nat), j ≤ 7 ∧ r ≤ j ∧ jv = .int .i64 (j : Nat) ∧ kv = .int .i64 ((X / 2 ^ (j - r) : Nat) : Int) ∧ w = wr) (fun _ i _ => 7 - (intOf i).toNat)
    case atStart => exact ⟨r, by omega, Nat.le_refl _, rfl, by simp, rfl⟩
    case round =>
      obtain ⟨j, hj7, hrj, rfl, rfl, rfl⟩ := hrel
      by_cases hlt : j < 7
      · have h1 : ((j : Nat) : Int) < 7 := by omega
        have hd2 : ((X / 2 ^ (j - r) : Nat) : Int).tdiv 2 = ((X / 2 ^ (j + 1 - r) : Nat) : Int) := by
          rw [show j + 1 - r = (j - r) + 1 by omega, Nat.pow_succ, ← Nat.div_div_eq_div_mul]; rfl
        have hsm : X / 2 ^ (j - r) ≤ 255 := Nat.le_trans (Nat.div_le_self _ _) (by omega)
        have hsm2 : X / 2 ^ (j + 1 - r) ≤ 255 := Nat.le_trans (Nat.div_le_self _ _) (by omega)
        generalize X / 2 ^ (j - r) = A at *
        generalize hAA : X / 2 ^ (j + 1 - r) = A' at *
        have HAA := hide hAA
        clear hAA
        go_wp2
        go_roundw
        case rel => exact ⟨j + 1, by omega, by omega, by go_num, by rw [unhide HAA], by first | rfl | trivial⟩
        case measure => simp [intOf]; omega
      · have h1 : ¬ ((j : Nat) : Int) < 7 := by omega
        have hj : j = 7 := by omega
        subst hj
        have hm : ((X / 2 ^ (7 - r) : Nat) : Int).tmod 2 = ((RES : Nat) : Int) := by rw [unhide hdef]; rfl
        generalize X / 2 ^ (7 - r) = A at *
        clear hdef
        go_wp2
        go_ret
        exact ⟨rfl, rfl⟩
  · have h0 : l.getD q 0 = 0 := by rw [List.getD_eq_getElem?_getD, List.getElem?_eq_none (by omega)]; rfl
    have hR : RES = 0 := by rw [unhide hdef, h0]; simp
    have hge : ((l.length : Nat) : Int) ≤ ((q : Nat) : Int) := by omega
    subst hR
    clear hdef h0
    go_enter Try.func17, Try.ntmps17
    go_wp2
    go_ret
    exact ⟨rfl, rfl⟩

/-- the number of the first bits -/
def kB (l : List UInt8) (p : Nat) : Nat → Nat
  | 0 => 0
  | j + 1 => 2 * kB l p j + bitB l (p + j)
theorem bitB_le (l : List UInt8) (p : Nat) : bitB l p ≤ 1 := by unfold bitB; omega
theorem kB_five (l : List UInt8) (p : Nat) : kB l p 5 = fiveB l p := by simp only [kB, fiveB]; rw [Nat.add_zero]; omega
theorem fiveB_lt (l : List UInt8) (p : Nat) : fiveB l p < 32 := by
  have h0 := bitB_le l p
  have h1 := bitB_le l (p + 1)
  have h2 := bitB_le l (p + 2)
  have h3 := bitB_le l (p + 3)
  have h4 := bitB_le l (p + 4)
  unfold fiveB; omega
theorem kB_le (l : List UInt8) (p j : Nat) (h : j ≤ 5) : kB l p j ≤ 31 := by
  have hb := fun q => bitB_le l q
  have h0 := hb (p + 0)
  have h1 := hb (p + 1)
  have h2 := hb (p + 2)
  have h3 := hb (p + 3)
  have h4 := hb (p + 4)
  have hj : j = 0 ∨ j = 1 ∨ j = 2 ∨ j = 3 ∨ j = 4 ∨ j = 5 := by omega
  rcases hj with rfl | rfl | rfl | rfl | rfl | rfl <;> simp only [kB] <;> omega
/-- the first letters -/
def d32 (l : List UInt8) (m : Nat) : List UInt8 := (List.range m).map fun t => letD (fiveB l (5 * t))
theorem d32_len (l : List UInt8) (m : Nat) : (d32 l m).length = m := by simp [d32]
theorem d32_succ (l : List UInt8) (m : Nat) : d32 l (m + 1) = d32 l m ++ [letD (fiveB l (5 * m))] := by simp [d32, List.range_succ]
theorem d32_all (l : List UInt8) : d32 l ((8 * l.length + 4) / 5) = b32 l := by
  unfold b32 d32
  rw [grp32_five, List.map_map]
  apply List.map_congr_left
  intro t _
  have := fiveB_lt l (5 * t)
  simp only [Function.comp]
  rw [ofN_toN _ (by omega)]

set_option maxRecDepth 100000 in
set_option maxHeartbeats 1000000 in
theorem dbase32_any (l : List UInt8) (w : World) (hl : l.length ≤ 20000) : Calls Try.prog 9 #[.string (bs l)] w fun e w' => e = .returned (.string (bs (b32 l))) ∧ w = w' := by
  have hbs := bs_size l
  have hall := hide (d32_all l)
  generalize b32 l = RES at *
  obtain ⟨n, hn⟩ : ∃ n, n = l.length := ⟨_, rfl⟩
  have hbit := hide (fun p w (hp : p ≤ 200000) => dbit_any l p w hl hp)
  rw [← hn] at hbs hl hall
  clear hn
  go_enter Try.func9, Try.ntmps9
  go_wp2
  go_loopw [3, 4] (fun tv iv wr => ∃ (m : Nat), m ≤ (8 * n + 4) / 5 ∧ iv = .int .i64 ((5 * m : Nat) : Int) ∧ tv = .string (bs (d32 l m)) ∧ w = wr) (fun _ i _ => 8 * n + 5 - (intOf i).toNat)
  case atStart => exact ⟨0, Nat.zero_le _, rfl, rfl, rfl⟩
  case round =>
    obtain ⟨m, hm, rfl, rfl, rfl⟩ := hrel
    have hsz : (bs (d32 l m)).size ≤ 40000 := by rw [bs_size, d32_len]; omega
    have HSn : Hid (bs (d32 l (m + 1)) = bs (d32 l m) ++ bs [letD (fiveB l (5 * m))]) := by show _ = _; rw [bs_append, d32_succ]
    by_cases hlt : 5 * m < 8 * n
    · have h1 : ((5 * m : Nat) : Int) < 8 * ((n : Nat) : Int) := by omega
      have hlet := hide (fun w => letter_any (fiveB l (5 * m)) (fiveB_lt l (5 * m)) w)
      have hk5 := hide (kB_five l (5 * m))
      have hz1 : (bs [letD (fiveB l (5 * m))]).size = 1 := by rw [bs_size]; rfl
      generalize hS1 : bs (d32 l (m + 1)) = S1 at *
      have HS1 := hide hS1
      clear hS1
      generalize bs (d32 l m) = S0 at *
      generalize hlv : bs [letD (fiveB l (5 * m))] = LV at *
      clear hlv
      generalize hp5 : 5 * m = p at *
      have Hp := hide hp5
      clear hp5
      go_wp2
      go_loopw [5, 6] (fun kv jv wr2 => ∃ (j : Nat), j ≤ 5 ∧ jv = .int .i64 (j : Nat) ∧ kv = .int .i64 ((kB l p j : Nat) : Int) ∧ w = wr2) (fun _ i _ => 5 - (intOf i).toNat)
      case atStart => exact ⟨0, by omega, rfl, rfl, rfl⟩
      case round =>
        obtain ⟨j, hj, rfl, rfl, rfl⟩ := hrel
        have hkl := kB_le l p j hj
        by_cases hj5 : j < 5
        · have h2 : ((j : Nat) : Int) < 5 := by omega
          have hb1 := bitB_le l (p + j)
          have hbj := hide (fun w => unhide hbit (p + j) w (by omega))
          have hpj : ((p + j : Nat) : Int) = ((p : Nat) : Int) + ((j : Nat) : Int) := rfl
          rw [hpj] at hbj
          have hks : Hid (kB l p (j + 1) = 2 * kB l p j + bitB l (p + j)) := rfl
          generalize bitB l (p + j) = bv at *
          generalize kB l p j = kv at *
          clear hpj
          go_wp2_with fail
          refine (unhide hbj _).mono ?_
          rintro e w' ⟨rfl, rfl⟩
          go_wp2
          go_roundw
          case rel => exact ⟨j + 1, by omega, by go_num, by rw [unhide hks]; go_num, by first | rfl | trivial⟩
          case measure => simp [intOf]; omega
        · have h2 : ¬ ((j : Nat) : Int) < 5 := by omega
          have hj' : j = 5 := by omega
          subst hj'
          rw [unhide hk5]
          have hf := fiveB_lt l p
          generalize fiveB l p = fv at *
          clear hkl
          go_wp2_with fail
          refine (unhide hlet _).mono ?_
          rintro e w' ⟨rfl, rfl⟩
          go_wp2
          go_roundw
          case rel => exact ⟨m + 1, by have := unhide Hp; omega, by rw [Nat.mul_add, unhide Hp]; go_num, by rw [unhide HS1, unhide HSn], by first | rfl | trivial⟩
          case measure => simp [intOf]; omega
    · have h1 : ¬ ((5 * m : Nat) : Int) < 8 * ((n : Nat) : Int) := by omega
      have hme : m = (8 * n + 4) / 5 := by omega
      have hr := unhide hall
      rw [← hme] at hr
      rw [hr]
      generalize 5 * m = p at *
      clear hr hall hme HSn hm hsz
      go_wp2
      go_ret
      exact ⟨rfl, rfl⟩

end Go.Proofs.Ytgcfmgkhbenooaa

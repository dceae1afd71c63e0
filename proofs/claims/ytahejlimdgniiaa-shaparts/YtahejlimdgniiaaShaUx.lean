/- Contracts of sha.Unhex, and of the document's own Hex and Unhex. -/
import Derived.Test.YtahejlimdgniiaaShaHx
import Derived.Test.YtahejlimdgniiaaRefP
import Derived.Test.YtahejlimdgniiaaReg
namespace Go.Proofs.Ytahejlimdgniiaa
open Go.RowKit
set_option linter.unusedVariables false

/-- the number of a digit; 16: it is none -/
def digN (c : Nat) : Nat := if 48 ≤ c ∧ c ≤ 57 then c - 48 else if 97 ≤ c ∧ c ≤ 102 then c - 87 else 16
theorem digN_le (c : Nat) : digN c ≤ 16 := by unfold digN; split <;> (try split) <;> omega
theorem digN_cases (c : Nat) : (48 ≤ c ∧ c ≤ 57 ∧ digN c = c - 48) ∨ (97 ≤ c ∧ c ≤ 102 ∧ digN c = c - 87) ∨ ((c < 48 ∨ 57 < c) ∧ (c < 97 ∨ 102 < c) ∧ digN c = 16) := by
  unfold digN
  split <;> (try split) <;> omega

theorem digit_any (c : Nat) (hc : c < 256) (w : World) :
    Calls Try.prog 35 #[.int .u8 c] w fun e w' => e = .returned (.int .u8 (digN c)) ∧ w = w' := by
  rcases digN_cases c with ⟨h1, h2, h3⟩ | ⟨h1, h2, h3⟩ | ⟨h1, h2, h3⟩
  · have a1 : (48 : Int) ≤ c := by omega
    have a2 : (c : Int) ≤ 57 := by omega
    have e : ((digN c : Nat) : Int) = c - 48 := by omega
    rw [e]
    go_enter Try.func35, Try.ntmps35
    go_wp2
    go_ret
    exact ⟨rfl, rfl⟩
  · have a1 : (97 : Int) ≤ c := by omega
    have a2 : (c : Int) ≤ 102 := by omega
    have a3 : (48 : Int) ≤ c := by omega
    have a4 : ¬ (c : Int) ≤ 57 := by omega
    have e : ((digN c : Nat) : Int) = c - 87 := by omega
    rw [e]
    go_enter Try.func35, Try.ntmps35
    go_wp2
    go_ret
    exact ⟨rfl, rfl⟩
  · rw [h3]
    clear h3
    have hb : c < 48 ∨ (57 < c ∧ c < 97) ∨ 102 < c := by omega
    clear h1 h2
    rcases hb with h | ⟨h, h'⟩ | h
    · go_enter Try.func35, Try.ntmps35
      go_wp2
      go_ret
      exact ⟨rfl, rfl⟩
    · go_enter Try.func35, Try.ntmps35
      go_wp2
      go_ret
      exact ⟨rfl, rfl⟩
    · go_enter Try.func35, Try.ntmps35
      go_wp2
      go_ret
      exact ⟨rfl, rfl⟩

theorem value_ok (c : Nat) (hc : c < 256) (hd : digN c ≠ 16) (w : World) :
    Calls Try.prog 34 #[.int .u8 c] w fun e w' => e = .returned (.tuple #[.int .u8 (digN c), .bool true]) ∧ w = w' := by
  rcases digN_cases c with ⟨h1, h2, h3⟩ | ⟨h1, h2, h3⟩ | ⟨h1, h2, h3⟩
  · have a1 : (48 : Int) ≤ c := by omega
    have a2 : (c : Int) ≤ 57 := by omega
    have e : ((digN c : Nat) : Int) = c - 48 := by omega
    rw [e]
    clear hd h3 e
    go_enter Try.func34, Try.ntmps34
    go_wp2
    go_ret2
    exact ⟨rfl, rfl⟩
  · have a1 : (97 : Int) ≤ c := by omega
    have a2 : (c : Int) ≤ 102 := by omega
    have a3 : (48 : Int) ≤ c := by omega
    have a4 : ¬ (c : Int) ≤ 57 := by omega
    have e : ((digN c : Nat) : Int) = c - 97 + 10 := by omega
    rw [e]
    clear hd h3 e
    go_enter Try.func34, Try.ntmps34
    go_wp2
    go_ret2
    exact ⟨rfl, rfl⟩
  · exact absurd h3 hd
theorem value_bad (c : Nat) (hc : c < 256) (hd : digN c = 16) (w : World) :
    Calls Try.prog 34 #[.int .u8 c] w fun e w' => e = .returned (.tuple #[.int .u8 0, .bool false]) ∧ w = w' := by
  rcases digN_cases c with ⟨h1, h2, h3⟩ | ⟨h1, h2, h3⟩ | ⟨h1, h2, h3⟩
  · omega
  · omega
  · have hb : c < 48 ∨ (57 < c ∧ c < 97) ∨ 102 < c := by omega
    clear h1 h2 h3 hd
    rcases hb with h | ⟨h, h'⟩ | h
    · go_enter Try.func34, Try.ntmps34
      go_wp2
      go_ret2
      exact ⟨rfl, rfl⟩
    · go_enter Try.func34, Try.ntmps34
      go_wp2
      go_ret2
      exact ⟨rfl, rfl⟩
    · go_enter Try.func34, Try.ntmps34
      go_wp2
      go_ret2
      exact ⟨rfl, rfl⟩

/-- the byte of the pair of digits j -/
def unB (l : List UInt8) (j : Nat) : UInt8 := UInt8.ofNat (16 * digN (l.getD (2 * j) 0).toNat + digN (l.getD (2 * j + 1) 0).toNat)
/-- the pair j is one of digits -/
abbrev goodAt (l : List UInt8) (j : Nat) : Prop := digN (l.getD (2 * j) 0).toNat ≠ 16 ∧ digN (l.getD (2 * j + 1) 0).toNat ≠ 16
def unP (l : List UInt8) (k : Nat) : List UInt8 := (List.range k).map (unB l)
theorem unP_length (l : List UInt8) (k : Nat) : (unP l k).length = k := by simp [unP]
theorem unP_succ (l : List UInt8) (k : Nat) : unP l (k + 1) = unP l k ++ [unB l k] := by simp [unP, List.range_succ]
/-- the bytes of digits, or the error -/
def unS (l : List UInt8) : List UInt8 × Int := if l.length % 2 = 0 ∧ (∀ j, j < l.length / 2 → goodAt l j) then (unP l (l.length / 2), 0) else ([], 3)
theorem unS_ok (l : List UInt8) (h : l.length % 2 = 0) (hg : ∀ j, j < l.length / 2 → goodAt l j) : unS l = (unP l (l.length / 2), 0) := if_pos ⟨h, hg⟩
theorem unS_odd (l : List UInt8) (h : l.length % 2 ≠ 0) : unS l = ([], 3) := if_neg fun c => h c.1
theorem unS_bad (l : List UInt8) (j : Nat) (hj : j < l.length / 2) (hg : ¬ goodAt l j) : unS l = ([], 3) := if_neg fun c => hg (c.2 j hj)
theorem unB_val (l : List UInt8) (j : Nat) (h : goodAt l j) : ((unB l j).toNat : Int) = 16 * digN (l.getD (2 * j) 0).toNat + digN (l.getD (2 * j + 1) 0).toNat := by
  have h1 := digN_le (l.getD (2 * j) 0).toNat
  have h2 := digN_le (l.getD (2 * j + 1) 0).toNat
  obtain ⟨h3, h4⟩ := h
  unfold unB
  rw [UInt8.toNat_ofNat']
  omega
theorem getD_byte (s : ByteArray) (q : Nat) (h : q < s.size) : s.data.toList.getD q 0 = s[q] := by
  rw [List.getD_eq_getElem?_getD, List.getElem?_eq_getElem (by rw [blen]; exact h)]
  rfl
theorem or16 (a b : Nat) (ha : a < 16) (hb : b < 16) : bits .or .u8 ((a : Int) * 16) b = 16 * (a : Int) + b := by
  have : ∀ x y : Fin 16, bits .or .u8 ((x.val : Int) * 16) (y.val : Int) = 16 * (x.val : Int) + y.val := by decide +kernel
  exact this ⟨a, ha⟩ ⟨b, hb⟩

theorem unhex_odd (s : ByteArray) (w : World) (hs : s.size ≤ 100000) (ho : s.size % 2 ≠ 0) :
    Calls Try.prog 24 #[.string s] w fun e w' => e = .returned (.tuple #[.string ⟨#[]⟩, .int .i64 3]) ∧ w = w' := by
  have h1 : ((s.size : Int) % 2 != 0) = true := by simp; omega
  go_enter Try.func24, Try.ntmps24
  go_wp2
  go_ret2
  exact ⟨rfl, rfl⟩

set_option maxHeartbeats 1000000 in
theorem unhex_even (s : ByteArray) (w : World) (hs : s.size ≤ 100000) (he : s.size % 2 = 0) :
    Calls Try.prog 24 #[.string s] w fun e w' => e = .returned (.tuple #[.string ⟨(unS s.data.toList).1.toArray⟩, .int .i64 (unS s.data.toList).2]) ∧ Below w.heap.size w w' := by
  obtain ⟨i0, hi, hz0, hz1, hz2⟩ := info_parts Try.infoU
  obtain ⟨H, hH⟩ : ∃ H, s.size = 2 * H := ⟨s.size / 2, by omega⟩
  have h1 : ((s.size : Int) % 2) = 0 := by omega
  have h2 : ((s.size : Int) / 2) = H := by omega
  have hlen : s.data.toList.length = 2 * H := by rw [blen]; exact hH
  have HL := hide hlen
  have HH := hide hH
  clear hlen hH
  have hH1 : H ≤ 50000 := by have := unhide HH; omega
  have hs' : (s.size : Int) ≤ 100000 := by omega
  go_enter Try.func24, Try.ntmps24
  go_wp2_with (at_make; refine wpList_make_own _ rfl _ _ 47 rfl w.heap.size 5 i0 (.int .u8 0) 1 Try.undB hi hz0 hz1 .i64 .i64 _ H rfl rfl rfl ?c2 ?c3 ?c4 ?_)
  case c2 => rw [hz2]; omega
  case c3 => unfold maxLen; omega
  case c4 => exact Nat.le_refl _
  intro w1 hown hgrow
  have b1 : Below w.heap.size w w1 := (Below.refl _ _).grown hgrow (Nat.le_refl _) (by intro k hk; cases hk)
  clear hgrow h1 h2
  go_wp2
  go_loopw [4, 5] (fun v i wr => ∃ k q : Nat, k ≤ H ∧ q = 2 * k ∧ i = .int .i64 q ∧ (∀ j, j < k → goodAt s.data.toList j) ∧ wr.ownsRow w.heap.size 5 1 v k (bc (unP s.data.toList k)) ∧ Below w.heap.size w wr) (fun _ i _ => s.size - (intOf i).toNat)
  case atStart => exact ⟨0, 0, Nat.zero_le _, rfl, rfl, by intro j hj; omega, hown, b1⟩
  case round =>
    clear hown b1
    obtain ⟨k, q, hk, hq, rfl, hgood, hown, hb⟩ := hrel
    obtain ⟨ao, cap, rfl⟩ := own_shape' hown
    have HG := hide hgood
    have HO := hide hown
    have HB := hide hb
    have HQ := hide hq
    have hz := hb.size
    clear hgood hown hb hq
    by_cases hlt : k < H
    · have q1 : q + 1 < s.size := by rw [unhide HH, unhide HQ]; omega
      have d1 : Hid (s.data.toList.getD (2 * k) 0 = s[q]) := by show _ = _; rw [← unhide HQ]; exact getD_byte s q (by omega)
      have d2 : Hid (s.data.toList.getD (2 * k + 1) 0 = s[q + 1]) := by show _ = _; rw [← unhide HQ]; exact getD_byte s (q + 1) q1
      have i1 : ∀ w, (Instr.index 9 (.string s) (.int .i64 q)).run Try.prog w = .ok (.int .u8 s[q].toNat) w := fun w => by
        rw [run_index_string w 9 s .i64 q (by kernel_rfl)]
        simp [show q < s.size by omega]
      have i2 : ∀ w, (Instr.index 9 (.string s) (.int .i64 ((q : Int) + 1))).run Try.prog w = .ok (.int .u8 s[q + 1].toNat) w := fun w => by
        have := run_index_string (P := Try.prog) w 9 s .i64 (q + 1 : Nat) (by kernel_rfl)
        rw [show ((q + 1 : Nat) : Int) = (q : Int) + 1 from rfl] at this
        rw [this, dif_pos ⟨by omega, by omega⟩]
        rfl
      have t1 := s[q].toNat_lt
      have t2 := s[q + 1].toNat_lt
      have uv := hide (unB_val s.data.toList k)
      have ub := hide (unS_bad s.data.toList k (by rw [unhide HL]; omega))
      rw [show goodAt s.data.toList k = (digN s[q].toNat ≠ 16 ∧ digN s[q + 1].toNat ≠ 16) by unfold goodAt; rw [unhide d1, unhide d2]] at uv ub
      rw [unhide d1, unhide d2] at uv
      have T1 := hide t1
      have T2 := hide t2
      have L1 := digN_le s[q].toNat
      have L2 := digN_le s[q + 1].toNat
      have GE : Hid (digN s[q].toNat ≠ 16 → digN s[q + 1].toNat ≠ 16 → goodAt s.data.toList k) := by
        show _ → _ → _
        intro x y
        show _ ∧ _
        rw [unhide d1, unhide d2]
        exact ⟨x, y⟩
      clear d1 d2
      generalize s[q].toNat = c1 at *
      generalize s[q + 1].toNat = c2 at *
      have q2 : (q : Int) + 1 < s.size := by omega
      have q0 : (q : Int) < s.size := by omega
      by_cases g1 : digN c1 = 16
      · go_wp2_with fail
        refine (value_bad c1 (unhide T1) g1 _).mono ?_
        rintro e w2 ⟨rfl, rfl⟩
        by_cases g2 : digN c2 = 16
        · go_wp2_with fail
          refine (value_bad c2 (unhide T2) g2 _).mono ?_
          rintro e w2 ⟨rfl, rfl⟩
          go_wp2
          go_ret2
          refine ⟨?_, unhide HB⟩
          rw [unhide ub (fun h => h.1 g1)]
          rfl
        · go_wp2_with fail
          refine (value_ok c2 (unhide T2) g2 _).mono ?_
          rintro e w2 ⟨rfl, rfl⟩
          go_wp2
          go_ret2
          refine ⟨?_, unhide HB⟩
          rw [unhide ub (fun h => h.1 g1)]
          rfl
      · go_wp2_with fail
        refine (value_ok c1 (unhide T1) g1 _).mono ?_
        rintro e w2 ⟨rfl, rfl⟩
        by_cases g2 : digN c2 = 16
        · go_wp2_with fail
          refine (value_bad c2 (unhide T2) g2 _).mono ?_
          rintro e w2 ⟨rfl, rfl⟩
          go_wp2
          go_ret2
          refine ⟨?_, unhide HB⟩
          rw [unhide ub (fun h => h.2 g2)]
          rfl
        · go_wp2_with fail
          refine (value_ok c2 (unhide T2) g2 _).mono ?_
          rintro e w2 ⟨rfl, rfl⟩
          have UV := hide (unhide uv ⟨g1, g2⟩)
          have ho := or16 (digN c1) (digN c2) (by omega) (by omega)
          have m1 : digN c1 ≤ 15 := by omega
          have m2 : digN c2 ≤ 15 := by omega
          have GG := hide (unhide GE g1 g2)
          clear uv ub GE L1 L2 g1 g2
          generalize digN c1 = x1 at *
          generalize digN c2 = x2 at *
          go_wp2_with (at_builtin; refine wpList_append_own _ rfl _ _ 47 rfl w.heap.size 5 i0 (.int .u8 0) 1 1 Try.undB hi hz0 hz1 hz2 rfl (by decide) _ _ _ rfl ((unhide HO).alloc _) ⟨wr.heap.size, 0, none⟩ 1 1 [.int .u8 (16 * (x1 : Int) + x2)] rfl rfl ?c1 ?c2 ?c3 ?c4 ?c5 ?_)
          case c1 => exact news_lit wr [_] 5
          case c2 => intro u hu; simp at hu; subst hu; rfl
          case c3 => unfold maxLen; omega
          case c4 => omega
          case c5 => simp; omega
          intro v' w3 hown' hgrow _
          have hb' := hide (((unhide HB).alloc (by omega) _).grown hgrow (by simp; omega) (fun k hk => (((unhide HO).lt k hk).1)))
          have ho2 : Hid (w3.ownsRow w.heap.size 5 1 v' (k + 1) (bc (unP s.data.toList (k + 1)))) := by
            show World.ownsRow _ _ _ _ _ _ _
            rw [unP_succ, bc_append, show bc [unB s.data.toList k] = [.int .u8 (16 * (x1 : Int) + x2)] by simp [bc, unhide UV]]
            exact hown'
          obtain ⟨ao', cap', rfl⟩ := own_shape' hown'
          clear hown' hgrow HO HB ho
          go_wp2
          go_roundw
          case rel =>
            refine ⟨k + 1, q + 2, by omega, by rw [unhide HQ]; omega, by go_num, ?_, unhide ho2, unhide hb'⟩
            intro j hj
            rcases Nat.lt_succ_iff_lt_or_eq.1 hj with h | rfl
            · exact unhide HG j h
            · exact unhide GG
          case measure => simp [intOf]; omega
    · have hke : k = H := by omega
      subst hke
      have qs : ¬ (q : Int) < s.size := by have := unhide HH; have := unhide HQ; omega
      have e1 := unS_ok s.data.toList (by rw [unhide HL]; omega) (by rw [unhide HL]; intro j hj; exact unhide HG j (by omega))
      rw [unhide HL, show 2 * k / 2 = k by omega] at e1
      have E1 := hide e1
      have hcv := run_string_own (P := Try.prog) 47 9 Try.undB (by kernel_rfl) (by kernel_rfl) (unhide HO)
      generalize hD : (unP s.data.toList k).toArray = D at *
      have HD := hide hD
      clear hD e1
      go_wp2
      go_ret2
      exact ⟨by rw [unhide E1, unhide HD]; rfl, unhide HB⟩

end Go.Proofs.Ytahejlimdgniiaa

/- Contracts of the document's digits and Text. -/
import Derived.Test.YtbodklppgcloiaaDoorTxP
import Derived.Test.YtbodklppgcloiaaDoorTxA
namespace Go.Proofs.YtbodklppgcloiaaDoor
open Go.RowKit Go.Shelf
set_option linter.unusedVariables false
attribute [local go_sem] Oper.semAt_some

theorem conv_one (w : World) (v : Int) (b : UInt8) (hb : v = (b.toNat : Int)) : (convert 75 9 (.slice (some ⟨w.heap.size, 0, none⟩) 1 1)).run Tryd.prog (w.alloc (.cells #[.int .u8 v] 5)) = .ok (.string (bs [b])) (w.alloc (.cells #[.int .u8 v] 5)) := by
  subst hb
  exact run_string_own (P := Tryd.prog) (base := w.heap.size) (n := 1) (l := [b]) 75 9 (by kernel_rfl) (by kernel_rfl) (by kernel_rfl) (World.ownsRow_lit w _ 1 (Nat.le_refl _) (by unfold maxLen; omega) rfl)
set_option maxRecDepth 100000 in
set_option maxHeartbeats 1000000 in
theorem digits_any (k : Nat) (hk : k < 1000) (w : World) : Calls Tryd.prog 48 #[.int .i64 k] w fun e w' => e = .returned (.string (bs (Lib.decDigits k))) ∧ Below w.heap.size w w' := by
  go_enter Tryd.func48, Tryd.ntmps48
  go_wp2
  go_loopw [0, 3] (fun n s wr => ∃ (m : Nat) (S : By), n = .int .i64 m ∧ s = .string (bs S) ∧ m ≤ k ∧ S.length ≤ 1000 - m ∧ Lib.decDigits m ++ S = Lib.decDigits k ∧ Below w.heap.size w wr) (fun n _ _ => (intOf n).toNat)
  case atStart => exact ⟨k, [], rfl, rfl, Nat.le_refl _, by simp, by simp, Below.refl _ _⟩
  case round =>
    obtain ⟨m, S, rfl, rfl, hm, hS, hd, hB⟩ := hrel
    have hsz : (bs S).size ≤ 1000 := by rw [bs_size]; omega
    have HB := hide (hB.alloc hB.size (.cells #[.int .u8 (48 + (m : Int))] 5))
    have HB' := hide (hB.alloc hB.size (.cells #[.int .u8 (48 + (m : Int) % 10)] 5))
    by_cases hlt : m < 10
    · have q1 : ¬ (10 : Int) ≤ m := by omega
      have hcv := conv_one wr (48 + (m : Int)) (UInt8.ofNat (48 + m)) (by rw [dig_toNat hlt]; omega)
      have HD : Hid (bs [UInt8.ofNat (48 + m)] ++ bs S = bs (Lib.decDigits k)) := by
        show _ = _
        rw [bs_append, ← hd, Lib.decDigits, dif_pos hlt]
      have hs1 : (bs [UInt8.ofNat (48 + m)]).size = 1 := rfl
      generalize bs [UInt8.ofNat (48 + m)] = D1 at *
      generalize bs S = SS at *
      clear hd hB
      go_wp2
      go_ret
      exact ⟨by rw [← unhide HD]; rfl, unhide HB⟩
    · have q1 : (10 : Int) ≤ m := by omega
      have hcv := conv_one wr (48 + (m : Int) % 10) (UInt8.ofNat (48 + m % 10)) (by rw [dig_toNat (by omega)]; omega)
      have HD : Hid (Lib.decDigits (m / 10) ++ (UInt8.ofNat (48 + m % 10) :: S) = Lib.decDigits k) := by
        show _ = _
        rw [← hd]
        conv => rhs; rw [Lib.decDigits, dif_neg hlt]
        simp
      have HA : Hid (bs [UInt8.ofNat (48 + m % 10)] ++ bs S = bs (UInt8.ofNat (48 + m % 10) :: S)) := by show _ = _; rw [bs_append]; rfl
      have hs1 : (bs [UInt8.ofNat (48 + m % 10)]).size = 1 := rfl
      generalize bs [UInt8.ofNat (48 + m % 10)] = D1 at *
      clear hd hB
      go_wp2
      go_roundw
      case rel => exact ⟨m / 10, UInt8.ofNat (48 + m % 10) :: S, by go_num, by rw [unhide HA], by omega, by simp; omega, unhide HD, unhide HB'⟩
      case measure => simp [intOf]; omega
/-- parts one behind the other -/
def jn (l : List (Nat × Nat)) : By := Lib.join (l.map partL) [44]
theorem jn_snoc : ∀ (l : List (Nat × Nat)) (x : Nat × Nat), l ≠ [] → jn (l ++ [x]) = jn l ++ 44 :: partL x
  | [], x, h => absurd rfl h
  | [y], x, _ => by
    show Lib.join [partL y, partL x] [44] = Lib.join [partL y] [44] ++ _
    rw [join_more, Lib.join_one, Lib.join_one]
  | y :: z :: l, x, _ => by
    have ih := jn_snoc (z :: l) x (by simp)
    show Lib.join (partL y :: partL z :: (l ++ [x]).map partL) [44] = Lib.join (partL y :: partL z :: l.map partL) [44] ++ _
    rw [join_more, join_more]
    have : Lib.join (partL z :: (l ++ [x]).map partL) [44] = Lib.join (partL z :: l.map partL) [44] ++ 44 :: partL x := ih
    rw [this]; simp
theorem jn_one (x : Nat × Nat) : jn [x] = partL x := Lib.join_one _ _
theorem part_len {x : Nat × Nat} (h1 : x.1 < x.2) (h2 : x.2 ≤ 160) : (partL x).length ≤ 7 := by
  unfold partL
  have a := decDigits_le x.1 (by omega)
  have b := decDigits_le (x.2 - 1) (by omega)
  split
  · omega
  · simp; omega
theorem jn_len : ∀ (l : List (Nat × Nat)), (∀ x ∈ l, x.1 < x.2 ∧ x.2 ≤ 160) → (jn l).length ≤ 8 * l.length
  | [], _ => by simp [jn, Lib.join]
  | [x], h => by rw [jn_one]; have := part_len (h x (by simp)).1 (h x (by simp)).2; simp; omega
  | x :: y :: l, h => by
    have ih := jn_len (y :: l) (fun z hz => h z (by simp [List.mem_cons.1 hz]))
    have := part_len (h x (by simp)).1 (h x (by simp)).2
    show (Lib.join (partL x :: partL y :: l.map partL) [44]).length ≤ _
    rw [join_more, List.length_append, List.length_cons]
    have h2 : (Lib.join (partL y :: l.map partL) [44]).length ≤ 8 * (l.length + 1) := ih
    simp only [List.length_cons]
    omega
end Go.Proofs.YtbodklppgcloiaaDoor

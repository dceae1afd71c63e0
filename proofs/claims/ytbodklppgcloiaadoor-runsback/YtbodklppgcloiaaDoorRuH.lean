/- Contracts of packed, Unpack, unlike, Patch, Apply. -/
import Derived.Test.YtbodklppgcloiaaDoorRuG
namespace Go.Proofs.YtbodklppgcloiaaDoor
open Go.RowKit Go.Shelf
set_option linter.unusedVariables false
attribute [local go_sem] Oper.semAt_some

noncomputable def unpE (n : Int) (t : By) : Int := gatE n 3 (toJ (pkd 0 t))
noncomputable def unpR (n : Int) (t : By) : By := gatR n (toJ (pkd 0 t))
/-- what just one of two has -/
def xorL (a b : By) : By := bothR (fun x y => x ||| y) (bothR (fun x y => x &&& ~~~y) a b) (bothR (fun x y => x &&& ~~~y) b a)
def patE (n : Int) (a b : By) : Int := if chkI n a = true ∧ chkI n b = true then packE n (xorL a b) else 3
def patR (n : Int) (a b : By) : By := if chkI n a = true ∧ chkI n b = true then packR n (xorL a b) else []
noncomputable def appE (n : Int) (s t : By) : Int := if chkI n s = true then unpE n t else 3
noncomputable def appR (n : Int) (s t : By) : By := if chkI n s = true ∧ unpE n t = 0 then xorL s (unpR n t) else []
theorem bothR_len (f : UInt8 → UInt8 → UInt8) (a b : By) : (bothR f a b).length ≤ a.length := by
  unfold bothR
  split
  · rw [List.length_zipWith]; omega
  · simp
theorem xorL_len (a b : By) : (xorL a b).length ≤ a.length := Nat.le_trans (bothR_len _ _ _) (bothR_len _ _ _)
theorem wid_small {n : Nat} (h : n ≤ 160) : wid n ≤ 20 := by unfold wid; omega
theorem gatR_len (n : Int) (l : List (Int × Int)) : (gatR n l).length ≤ 20 := by
  unfold gatR
  split
  · rename_i h
    unfold ofR
    split
    · rw [makeP_length]; exact wid_small (by omega)
    · simp
  · simp
theorem packed_any (t : By) (w : World) : Calls Tryd.prog 45 #[.string (bs t)] w fun e w' => e = .returned (.func (.func 69) #[] #[.pointer (some ⟨w.heap.size, 0, none⟩)]) ∧ w' = w.alloc (.cells #[.string (bs t)] 9) := by
  generalize bs t = T at *
  go_enter Tryd.func45, Tryd.ntmps45
  go_wp2
  go_ret
  exact ⟨rfl, rfl⟩
theorem packed_turns (m : Nat) (hm : 1 ≤ m) (n0 b1 : Nat) (t : By) (ht : t.length ≤ 100000) (w : World) (hW : Boxed w b1 9 (.string (bs t))) :
    SeqTurns 105 Fence.wide m Tryd.prog 69 #[.pointer (some ⟨b1, 0, none⟩)] (fun x : Int × Int => #[spI x]) (KpG n0) (fun xs => xs = toJ (pkd 0 t)) (fun pre => pre <+: toJ (pkd 0 t)) t.length w := fun l J Jx W hb hJ hJx hY h0 => by
  have hB : Boxed W b1 9 (.string (bs t)) := (hb.block _ hW.lt).trans hW
  exact packed1_in m hm l n0 b1 t ht J Jx W hJ hY hB.cell h0
theorem unpack_any (n : Int) (t : By) (ht : t.length ≤ 100000) (w : World) : Calls Tryd.prog 19 #[.int .i64 n, .string (bs t)] w fun e w' => e = .returned (.tuple #[.string (bs (unpR n t)), .int .i64 (unpE n t)]) ∧ Below w.heap.size w w' := by
  have hv := hide (packed_any t w)
  have b1 : Below w.heap.size w (w.alloc (.cells #[.string (bs t)] 9)) := (Below.refl _ w).alloc (Nat.le_refl _) _
  have hbx := Boxed.new w 9 (.string (bs t))
  have hg := hide (gather_any 105 (by decide) 69 #[.pointer (some ⟨w.heap.size, 0, none⟩)] (enters_of Tryd.func69 (by kernel_rfl) rfl) (toJ (pkd 0 t)) t.length n 3 (w.alloc (.cells #[.string (bs t)] 9))
    (fun W0 hb => packed_turns 4 (by omega) _ w.heap.size t ht W0 ((hb.block _ hbx.lt).trans hbx)))
  change Hid (Calls Tryd.prog _ _ _ fun e w' => e = .returned (.tuple #[.string (bs (unpR n t)), .int .i64 (unpE n t)]) ∧ _) at hg
  have B1 := hide b1
  generalize bs (unpR n t) = GR at *
  generalize unpE n t = GE at *
  clear b1 hbx
  generalize w.alloc (.cells #[.string (bs t)] 9) = W1 at *
  generalize bs t = T at *
  go_enter Tryd.func19, Tryd.ntmps19
  go_wp2_with fail
  refine (unhide hv).mono ?_
  rintro e w1 ⟨rfl, rfl⟩
  go_wp2_with fail
  refine (unhide hg).mono ?_
  rintro e w2 ⟨rfl, b2⟩
  have B2 := hide ((unhide B1).trans (b2.mono (unhide B1).size))
  clear b2
  go_wp2
  go_ret2
  exact ⟨rfl, unhide B2⟩
theorem unlike_any (a b : By) (w : World) (ha : a.length ≤ 100000) (hb : b.length ≤ 100000) : Calls Tryd.prog 50 #[.string (bs a), .string (bs b)] w fun e w' => e = .returned (.string (bs (xorL a b))) ∧ Below w.heap.size w w' := by
  have h1 := hide (fun w => minus_any a b w ha hb)
  have h2 := hide (fun w => minus_any b a w hb ha)
  have l1 := bothR_len (fun x y => x &&& ~~~y) a b
  have l2 := bothR_len (fun x y => x &&& ~~~y) b a
  have h3 := hide (fun w => or_any (bothR (fun x y => x &&& ~~~y) a b) (bothR (fun x y => x &&& ~~~y) b a) w (by omega) (by omega))
  change Hid (∀ w, Calls Tryd.prog _ _ w fun e w' => e = .returned (.tuple #[.string (bs (xorL a b)), _]) ∧ _) at h3
  generalize bs (xorL a b) = X at *
  generalize bothE (bothR (fun x y => x &&& ~~~y) a b) (bothR (fun x y => x &&& ~~~y) b a) = e3 at *
  generalize bothR (fun x y => x &&& ~~~y) a b = m1 at *
  generalize bothR (fun x y => x &&& ~~~y) b a = m2 at *
  generalize bothE a b = e1 at *
  generalize bothE b a = e2 at *
  clear l1 l2
  generalize bs m1 = M1 at *
  generalize bs m2 = M2 at *
  generalize bs a = A at *
  generalize bs b = B at *
  go_enter Tryd.func50, Tryd.ntmps50
  go_wp2_with fail
  refine (unhide h1 _).mono ?_
  rintro e w1 ⟨rfl, b1⟩
  have B1 := hide b1
  clear b1
  go_wp2_with fail
  refine (unhide h2 _).mono ?_
  rintro e w2 ⟨rfl, b2⟩
  have B2 := hide ((unhide B1).trans (b2.mono (unhide B1).size))
  clear b2 B1
  go_wp2_with fail
  refine (unhide h3 _).mono ?_
  rintro e w3 ⟨rfl, b3⟩
  have B3 := hide ((unhide B2).trans (b3.mono (unhide B2).size))
  clear b3 B2
  go_wp2
  go_ret
  exact ⟨rfl, unhide B3⟩
theorem patch_any (n : Int) (a b : By) (w : World) (ha : a.length ≤ 100000) (hb : b.length ≤ 100000) : Calls Tryd.prog 25 #[.int .i64 n, .string (bs a), .string (bs b)] w fun e w' => e = .returned (.tuple #[.string (bs (patR n a b)), .int .i64 (patE n a b)]) ∧ Below w.heap.size w w' := by
  have hc1 := hide (fun w => check_any n a w (by unfold maxLen; omega))
  have hc2 := hide (fun w => check_any n b w (by unfold maxLen; omega))
  unfold patR patE
  cases hA : chkI n a with
  | false =>
    rw [hA] at hc1
    rw [if_neg (by simp), if_neg (by simp)]
    generalize bs a = A at *
    generalize bs b = B at *
    clear hA hc2
    go_enter Tryd.func25, Tryd.ntmps25
    go_wp2_with fail
    refine (unhide hc1 _).mono ?_
    rintro e w1 ⟨rfl, b1⟩
    have B1 := hide b1
    clear b1
    go_wp2
    go_ret2
    exact ⟨rfl, unhide B1⟩
  | true =>
    cases hB : chkI n b with
    | false =>
      rw [hA] at hc1
      rw [hB] at hc2
      rw [if_neg (by simp), if_neg (by simp)]
      generalize bs a = A at *
      generalize bs b = B at *
      clear hA hB
      go_enter Tryd.func25, Tryd.ntmps25
      go_wp2_with fail
      refine (unhide hc1 _).mono ?_
      rintro e w1 ⟨rfl, b1⟩
      have B1 := hide b1
      clear b1
      go_wp2_with fail
      refine (unhide hc2 _).mono ?_
      rintro e w2 ⟨rfl, b2⟩
      have B2 := hide ((unhide B1).trans (b2.mono (unhide B1).size))
      clear b2 B1
      go_wp2
      go_ret2
      exact ⟨rfl, unhide B2⟩
    | true =>
      rw [hA] at hc1
      rw [hB] at hc2
      rw [if_pos (by simp), if_pos (by simp)]
      have hu := hide (fun w => unlike_any a b w ha hb)
      have hp := hide (fun w => pack_any n (xorL a b) w (by have := xorL_len a b; unfold maxLen; omega))
      generalize packE n (xorL a b) = pE at *
      generalize bs (packR n (xorL a b)) = pR at *
      generalize bs (xorL a b) = X at *
      generalize bs a = A at *
      generalize bs b = B at *
      clear hA hB
      go_enter Tryd.func25, Tryd.ntmps25
      go_wp2_with fail
      refine (unhide hc1 _).mono ?_
      rintro e w1 ⟨rfl, b1⟩
      have B1 := hide b1
      clear b1
      go_wp2_with fail
      refine (unhide hc2 _).mono ?_
      rintro e w2 ⟨rfl, b2⟩
      have B2 := hide ((unhide B1).trans (b2.mono (unhide B1).size))
      clear b2 B1
      go_wp2_with fail
      refine (unhide hu _).mono ?_
      rintro e w3 ⟨rfl, b3⟩
      have B3 := hide ((unhide B2).trans (b3.mono (unhide B2).size))
      clear b3 B2
      go_wp2_with fail
      refine (unhide hp _).mono ?_
      rintro e w4 ⟨rfl, b4⟩
      have B4 := hide ((unhide B3).trans (b4.mono (unhide B3).size))
      clear b4 B3
      go_wp2
      go_ret2
      exact ⟨rfl, unhide B4⟩
theorem apply_any (n : Int) (s t : By) (w : World) (hs : s.length ≤ 100000) (ht : t.length ≤ 100000) : Calls Tryd.prog 27 #[.int .i64 n, .string (bs s), .string (bs t)] w fun e w' => e = .returned (.tuple #[.string (bs (appR n s t)), .int .i64 (appE n s t)]) ∧ Below w.heap.size w w' := by
  have hc1 := hide (fun w => check_any n s w (by unfold maxLen; omega))
  unfold appR appE
  cases hA : chkI n s with
  | false =>
    rw [hA] at hc1
    rw [if_neg (by simp), if_neg (by simp)]
    generalize bs s = A at *
    generalize bs t = B at *
    clear hA
    go_enter Tryd.func27, Tryd.ntmps27
    go_wp2_with fail
    refine (unhide hc1 _).mono ?_
    rintro e w1 ⟨rfl, b1⟩
    have B1 := hide b1
    clear b1
    go_wp2
    go_ret2
    exact ⟨rfl, unhide B1⟩
  | true =>
    rw [hA] at hc1
    have hu := hide (fun w => unpack_any n t ht w)
    by_cases hE : unpE n t = 0
    · rw [if_pos (by simp [hE]), if_pos rfl]
      have hx := hide (fun w => unlike_any s (unpR n t) w hs (by have := gatR_len n (toJ (pkd 0 t)); show (gatR n _).length ≤ _; omega))
      rw [hE] at hu ⊢
      generalize bs (xorL s (unpR n t)) = X at *
      generalize bs (unpR n t) = U at *
      generalize bs s = A at *
      generalize bs t = B at *
      clear hA hE
      go_enter Tryd.func27, Tryd.ntmps27
      go_wp2_with fail
      refine (unhide hc1 _).mono ?_
      rintro e w1 ⟨rfl, b1⟩
      have B1 := hide b1
      clear b1
      go_wp2_with fail
      refine (unhide hu _).mono ?_
      rintro e w2 ⟨rfl, b2⟩
      have B2 := hide ((unhide B1).trans (b2.mono (unhide B1).size))
      clear b2 B1
      go_wp2_with fail
      refine (unhide hx _).mono ?_
      rintro e w3 ⟨rfl, b3⟩
      have B3 := hide ((unhide B2).trans (b3.mono (unhide B2).size))
      clear b3 B2
      go_wp2
      go_ret2
      exact ⟨rfl, unhide B3⟩
    · rw [if_neg (by simp [hE]), if_pos rfl]
      generalize unpE n t = E at *
      have hne : (E != 0) = true := by simpa using hE
      generalize bs (unpR n t) = U at *
      generalize bs s = A at *
      generalize bs t = B at *
      clear hA hE
      go_enter Tryd.func27, Tryd.ntmps27
      go_wp2_with fail
      refine (unhide hc1 _).mono ?_
      rintro e w1 ⟨rfl, b1⟩
      have B1 := hide b1
      clear b1
      go_wp2_with fail
      refine (unhide hu _).mono ?_
      rintro e w2 ⟨rfl, b2⟩
      have B2 := hide ((unhide B1).trans (b2.mono (unhide B1).size))
      clear b2 B1
      go_wp2
      go_ret2
      exact ⟨rfl, unhide B2⟩
end Go.Proofs.YtbodklppgcloiaaDoor

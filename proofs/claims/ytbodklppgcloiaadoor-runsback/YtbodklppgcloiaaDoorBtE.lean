
/- Contracts of bits' And, Or and Minus. -/
import Derived.Test.YtbodklppgcloiaaDoorBtB
namespace Go.Proofs.YtbodklppgcloiaaDoor
open Go.RowKit
set_option linter.unusedVariables false

def bothE (a b : By) : Int := if a.length = b.length then 0 else 1
/-- done so far -/
def zipK (f : UInt8 → UInt8 → UInt8) (a b : By) (k : Nat) : By := (List.zipWith f a b).take k ++ List.replicate (a.length - k) 0
theorem zip_len (f : UInt8 → UInt8 → UInt8) (a b : By) (h : a.length = b.length) : (List.zipWith f a b).length = a.length := by simp [h]
theorem zipK_length (f : UInt8 → UInt8 → UInt8) (a b : By) (k : Nat) (h : a.length = b.length) (hk : k ≤ a.length) : (zipK f a b k).length = a.length := by
  unfold zipK
  rw [List.length_append, List.length_take, zip_len f a b h, List.length_replicate]
  omega
theorem zipK_step (f : UInt8 → UInt8 → UInt8) (a b : By) (k : Nat) (h : a.length = b.length) (hk : k < a.length) (hkb : k < b.length) : (zipK f a b k).set k (f a[k] b[k]) = zipK f a b (k + 1) := by
  have hx : k < (List.zipWith f a b).length := by rw [zip_len f a b h]; exact hk
  have hl : ((List.zipWith f a b).take k).length = k := by rw [List.length_take]; omega
  unfold zipK
  rw [List.set_append_right _ _ (by omega), hl, Nat.sub_self, show a.length - k = (a.length - (k + 1)) + 1 by omega, List.replicate_succ, List.set_cons_zero, List.take_succ_eq_append_getElem hx, List.append_assoc]
  simp
theorem zipK_all (f : UInt8 → UInt8 → UInt8) (a b : By) (h : a.length = b.length) : zipK f a b a.length = List.zipWith f a b := by
  unfold zipK
  rw [List.take_of_length_le (by rw [zip_len f a b h]; exact Nat.le_refl _), Nat.sub_self, List.replicate_zero, List.append_nil]
def bothR (f : UInt8 → UInt8 → UInt8) (a b : By) : By := if a.length = b.length then List.zipWith f a b else []

theorem or1_any (x y : UInt8) (w : World) : Calls Tryd.prog 93 #[.int .u8 x.toNat, .int .u8 y.toNat] w fun e w' => e = .returned (.int .u8 (x ||| y).toNat) ∧ w = w' := by
  have h := or8 x y
  have hx := x.toNat_lt
  have hy := y.toNat_lt
  generalize hr : (x ||| y).toNat = r at *
  generalize x.toNat = a at *
  generalize y.toNat = b at *
  clear hr
  go_enter Tryd.func93, Tryd.ntmps93
  go_wp2
  go_ret
  exact ⟨rfl, rfl⟩
set_option maxHeartbeats 2000000 in
theorem mergeor_any (a b : By) (w : World) (ha : a.length ≤ 100000) (hb : b.length ≤ 100000) :
    Calls Tryd.prog 61 #[.string (bs a), .string (bs b), .func (.func 93) #[] #[]] w fun e w' => e = .returned (.tuple #[.string (bs (bothR (fun x y => x ||| y) a b)), .int .i64 (bothE a b)]) ∧ Below w.heap.size w w' := by
  have h1 := bs_size a
  have h2 := bs_size b
  unfold bothR bothE
  by_cases h : a.length = b.length
  · rw [if_pos h, if_pos h]
    obtain ⟨f, hf⟩ : ∃ f : UInt8 → UInt8 → UInt8, f = fun x y => x ||| y := ⟨_, rfl⟩
    rw [← hf]
    have hfn := hide (fun x y w => or1_any x y w)
    have hfv : ∀ x y, x ||| y = f x y := fun x y => by rw [hf]
    have HFV := hide hfv
    have HH := hide h
    have HZL := hide (zip_len f a b h)
    have HZA := hide (zipK_all f a b h)
    rw [← h] at h2
    obtain ⟨n, hn⟩ : ∃ n, n = a.length := ⟨_, rfl⟩
    rw [← hn] at h1 h2 ha
    have HN := hide hn
    obtain ⟨i0, hi, hz0, hz1, hz2⟩ := info_parts Tryd.infoU
    generalize hR : bs (List.zipWith f a b) = R
    have HR := hide hR
    clear h hb hn hf hfv hR
    go_enter Tryd.func61, Tryd.ntmps61
    go_wp2_with (at_make; refine wpList_make_full _ rfl _ _ 75 rfl w.heap.size 5 i0 (.int .u8 0) 1 Tryd.undB hi hz0 hz1 .i64 .i64 _ _ n rfl rfl rfl rfl ?c2 ?c3 ?c4 ?_)
    case c2 => rw [hz2]; omega
    case c3 => unfold maxLen; omega
    case c4 => exact Nat.le_refl _
    intro w1 hown hgrow
    have hb1 := hide ((Below.refl _ _).grown hgrow (Nat.le_refl _) (by intro k hk; cases hk))
    rw [made_bytes] at hown
    have hbw := hide (Bw.of_own hown)
    clear hown hgrow
    go_wp2
    go_loopw [20] (fun i wr => ∃ k : Nat, k ≤ n ∧ i = .int .i64 k ∧ Bw wr w.heap.size (zipK f a b k) ∧ Below w.heap.size w wr) (fun i _ => n - (intOf i).toNat)
    case atStart => exact ⟨0, Nat.zero_le _, rfl, by have := unhide hbw; rw [unhide HN] at this; exact this, unhide hb1⟩
    case round =>
      clear hbw hb1
      obtain ⟨k, hk, rfl, hB, hb⟩ := hrel
      have HB := hide hb
      by_cases hlt : k < n
      · have q1 : (k : Int) < n := by omega
        have ka : k < a.length := by rw [← unhide HN]; exact hlt
        have kb : k < b.length := by rw [← unhide HH, ← unhide HN]; exact hlt
        have hi1 := run_index_bs (P := Tryd.prog) 9 a k ka (by kernel_rfl)
        have hi2 := run_index_bs (P := Tryd.prog) 9 b k kb (by kernel_rfl)
        have hcl := hide (unhide hfn a[k] b[k])
        rw [unhide HFV a[k] b[k]] at hcl
        have HST0 := hide (zipK_step f a b k (unhide HH) ka kb)
        have hlen : (zipK f a b k).length = n := by rw [zipK_length f a b k (unhide HH) (by omega), ← unhide HN]
        have HV := hide (f a[k] b[k]).toNat_lt
        generalize hfx : f a[k] b[k] = z at *
        clear hfx
        generalize a[k] = x at *
        generalize b[k] = y at *
        have HBL := hide hB
        clear ka kb hB hb
        go_wp2_with fail
        refine wp_region_late 11 ?A0 (by kernel_rfl) (by kernel_rfl) (by kernel_rfl) ?lex0 ?_
        case lex0 =>
          intro X
          have hneX := gb_ne X.w
          dsimp only [List.take_succ_cons, List.take_zero]
          repeat (go_big_quiet_step ((go_at_call 93; exact gb_same (unhide hcl _))))
          refine wpQuiet_nil ?_
          exact rfl
        intro w8 b8
        try simp only [List.drop_succ_cons, List.drop_zero]
        have hB8 := (unhide HBL).kept b8
        have hfr8 := hB8.free k (by omega)
        have hc8 := hB8.cell k (by omega)
        have hst := hB8.set k z.toNat (by omega) (by have := unhide HV; omega)
        rw [byteOf_nat, unhide HST0] at hst
        have HST := hide hst
        have HK2 := hide (((unhide HB).trans (b8.mono (unhide HB).size)).setCell (p := ⟨w.heap.size, k, none⟩) (Nat.le_refl _) (.int .u8 (z.toNat : Int)))
        clear hst hB8 b8 HBL HB
        go_wp2_with fail
        refine onlyN ?_
        go_wp2
        go_roundw
        case rel => exact ⟨k + 1, by omega, by go_num, unhide HST, unhide HK2⟩
        case measure => simp [intOf]; omega
      · have hke : k = n := by omega
        subst hke
        have q1 : ¬ (k : Int) < k := by omega
        rw [unhide HN, unhide HZA] at hB
        have hcv := hB.string (cap := k)
        rw [unhide HZL, ← unhide HN, unhide HR] at hcv
        clear hB hb
        go_wp2
        go_ret2
        exact ⟨rfl, unhide HB⟩
  · rw [if_neg h, if_neg h]
    have hx : ¬ (a.length : Int) = b.length := by omega
    generalize a.length = n at *
    generalize b.length = m at *
    generalize bs a = A at *
    generalize bs b = B at *
    go_enter Tryd.func61, Tryd.ntmps61
    go_wp2
    go_ret2
    exact ⟨rfl, Below.refl _ _⟩
theorem or_any (a b : By) (w : World) (ha : a.length ≤ 100000) (hb : b.length ≤ 100000) :
    Calls Tryd.prog 80 #[.string (bs a), .string (bs b)] w fun e w' => e = .returned (.tuple #[.string (bs (bothR (fun x y => x ||| y) a b)), .int .i64 (bothE a b)]) ∧ Below w.heap.size w w' := by
  have h := hide (fun w => mergeor_any a b w ha hb)
  generalize bs (bothR (fun x y => x ||| y) a b) = R at *
  generalize bothE a b = E at *
  generalize bs a = A at *
  generalize bs b = B at *
  go_enter Tryd.func80, Tryd.ntmps80
  go_wp2_with fail
  refine (unhide h _).mono ?_
  rintro e w1 ⟨rfl, b1⟩
  have B1 := hide b1
  clear b1
  go_wp2
  go_ret2
  exact ⟨rfl, unhide B1⟩

theorem minus1_any (x y : UInt8) (w : World) : Calls Tryd.prog 62 #[.int .u8 x.toNat, .int .u8 y.toNat] w fun e w' => e = .returned (.int .u8 (x &&& ~~~y).toNat) ∧ w = w' := by
  have h := andNot8 x y
  have hx := x.toNat_lt
  have hy := y.toNat_lt
  generalize hr : (x &&& ~~~y).toNat = r at *
  generalize x.toNat = a at *
  generalize y.toNat = b at *
  clear hr
  go_enter Tryd.func62, Tryd.ntmps62
  go_wp2
  go_ret
  exact ⟨rfl, rfl⟩
set_option maxHeartbeats 2000000 in
theorem mergeminus_any (a b : By) (w : World) (ha : a.length ≤ 100000) (hb : b.length ≤ 100000) :
    Calls Tryd.prog 61 #[.string (bs a), .string (bs b), .func (.func 62) #[] #[]] w fun e w' => e = .returned (.tuple #[.string (bs (bothR (fun x y => x &&& ~~~y) a b)), .int .i64 (bothE a b)]) ∧ Below w.heap.size w w' := by
  have h1 := bs_size a
  have h2 := bs_size b
  unfold bothR bothE
  by_cases h : a.length = b.length
  · rw [if_pos h, if_pos h]
    obtain ⟨f, hf⟩ : ∃ f : UInt8 → UInt8 → UInt8, f = fun x y => x &&& ~~~y := ⟨_, rfl⟩
    rw [← hf]
    have hfn := hide (fun x y w => minus1_any x y w)
    have hfv : ∀ x y, x &&& ~~~y = f x y := fun x y => by rw [hf]
    have HFV := hide hfv
    have HH := hide h
    have HZL := hide (zip_len f a b h)
    have HZA := hide (zipK_all f a b h)
    rw [← h] at h2
    obtain ⟨n, hn⟩ : ∃ n, n = a.length := ⟨_, rfl⟩
    rw [← hn] at h1 h2 ha
    have HN := hide hn
    obtain ⟨i0, hi, hz0, hz1, hz2⟩ := info_parts Tryd.infoU
    generalize hR : bs (List.zipWith f a b) = R
    have HR := hide hR
    clear h hb hn hf hfv hR
    go_enter Tryd.func61, Tryd.ntmps61
    go_wp2_with (at_make; refine wpList_make_full _ rfl _ _ 75 rfl w.heap.size 5 i0 (.int .u8 0) 1 Tryd.undB hi hz0 hz1 .i64 .i64 _ _ n rfl rfl rfl rfl ?c2 ?c3 ?c4 ?_)
    case c2 => rw [hz2]; omega
    case c3 => unfold maxLen; omega
    case c4 => exact Nat.le_refl _
    intro w1 hown hgrow
    have hb1 := hide ((Below.refl _ _).grown hgrow (Nat.le_refl _) (by intro k hk; cases hk))
    rw [made_bytes] at hown
    have hbw := hide (Bw.of_own hown)
    clear hown hgrow
    go_wp2
    go_loopw [20] (fun i wr => ∃ k : Nat, k ≤ n ∧ i = .int .i64 k ∧ Bw wr w.heap.size (zipK f a b k) ∧ Below w.heap.size w wr) (fun i _ => n - (intOf i).toNat)
    case atStart => exact ⟨0, Nat.zero_le _, rfl, by have := unhide hbw; rw [unhide HN] at this; exact this, unhide hb1⟩
    case round =>
      clear hbw hb1
      obtain ⟨k, hk, rfl, hB, hb⟩ := hrel
      have HB := hide hb
      by_cases hlt : k < n
      · have q1 : (k : Int) < n := by omega
        have ka : k < a.length := by rw [← unhide HN]; exact hlt
        have kb : k < b.length := by rw [← unhide HH, ← unhide HN]; exact hlt
        have hi1 := run_index_bs (P := Tryd.prog) 9 a k ka (by kernel_rfl)
        have hi2 := run_index_bs (P := Tryd.prog) 9 b k kb (by kernel_rfl)
        have hcl := hide (unhide hfn a[k] b[k])
        rw [unhide HFV a[k] b[k]] at hcl
        have HST0 := hide (zipK_step f a b k (unhide HH) ka kb)
        have hlen : (zipK f a b k).length = n := by rw [zipK_length f a b k (unhide HH) (by omega), ← unhide HN]
        have HV := hide (f a[k] b[k]).toNat_lt
        generalize hfx : f a[k] b[k] = z at *
        clear hfx
        generalize a[k] = x at *
        generalize b[k] = y at *
        have HBL := hide hB
        clear ka kb hB hb
        go_wp2_with fail
        refine wp_region_late 11 ?A0 (by kernel_rfl) (by kernel_rfl) (by kernel_rfl) ?lex0 ?_
        case lex0 =>
          intro X
          have hneX := gb_ne X.w
          dsimp only [List.take_succ_cons, List.take_zero]
          repeat (go_big_quiet_step ((go_at_call 62; exact gb_same (unhide hcl _))))
          refine wpQuiet_nil ?_
          exact rfl
        intro w8 b8
        try simp only [List.drop_succ_cons, List.drop_zero]
        have hB8 := (unhide HBL).kept b8
        have hfr8 := hB8.free k (by omega)
        have hc8 := hB8.cell k (by omega)
        have hst := hB8.set k z.toNat (by omega) (by have := unhide HV; omega)
        rw [byteOf_nat, unhide HST0] at hst
        have HST := hide hst
        have HK2 := hide (((unhide HB).trans (b8.mono (unhide HB).size)).setCell (p := ⟨w.heap.size, k, none⟩) (Nat.le_refl _) (.int .u8 (z.toNat : Int)))
        clear hst hB8 b8 HBL HB
        go_wp2_with fail
        refine onlyN ?_
        go_wp2
        go_roundw
        case rel => exact ⟨k + 1, by omega, by go_num, unhide HST, unhide HK2⟩
        case measure => simp [intOf]; omega
      · have hke : k = n := by omega
        subst hke
        have q1 : ¬ (k : Int) < k := by omega
        rw [unhide HN, unhide HZA] at hB
        have hcv := hB.string (cap := k)
        rw [unhide HZL, ← unhide HN, unhide HR] at hcv
        clear hB hb
        go_wp2
        go_ret2
        exact ⟨rfl, unhide HB⟩
  · rw [if_neg h, if_neg h]
    have hx : ¬ (a.length : Int) = b.length := by omega
    generalize a.length = n at *
    generalize b.length = m at *
    generalize bs a = A at *
    generalize bs b = B at *
    go_enter Tryd.func61, Tryd.ntmps61
    go_wp2
    go_ret2
    exact ⟨rfl, Below.refl _ _⟩
theorem minus_any (a b : By) (w : World) (ha : a.length ≤ 100000) (hb : b.length ≤ 100000) :
    Calls Tryd.prog 35 #[.string (bs a), .string (bs b)] w fun e w' => e = .returned (.tuple #[.string (bs (bothR (fun x y => x &&& ~~~y) a b)), .int .i64 (bothE a b)]) ∧ Below w.heap.size w w' := by
  have h := hide (fun w => mergeminus_any a b w ha hb)
  generalize bs (bothR (fun x y => x &&& ~~~y) a b) = R at *
  generalize bothE a b = E at *
  generalize bs a = A at *
  generalize bs b = B at *
  go_enter Tryd.func35, Tryd.ntmps35
  go_wp2_with fail
  refine (unhide h _).mono ?_
  rintro e w1 ⟨rfl, b1⟩
  have B1 := hide b1
  clear b1
  go_wp2
  go_ret2
  exact ⟨rfl, unhide B1⟩

end Go.Proofs.YtbodklppgcloiaaDoor


/- Contracts of block's sums, and of the document's. -/
import Derived.Test.YtkcnihngkmaecaaGreatBlB
import Derived.Test.YtkcnihngkmaecaaGreatU8
namespace Go.Proofs.YtkcnihngkmaecaaGreat
open Go.RowKit
set_option linter.unusedVariables false

/-- the sum of two texts -/
def xorL (a b : By) : By := List.zipWith (· ^^^ ·) a b
theorem xorL_length (a b : By) : (xorL a b).length = min a.length b.length := by simp [xorL]
theorem xorL_len (a b : By) (h : b.length = a.length) : (xorL a b).length = a.length := by rw [xorL_length, h, Nat.min_self]
/-- added so far -/
def addK (a b : By) (k : Nat) : By := (xorL a b).take k ++ a.drop k
theorem addK_length (a b : By) (k : Nat) (h : b.length = a.length) : (addK a b k).length = a.length := by
  unfold addK
  rw [List.length_append, List.length_take, List.length_drop, xorL_len a b h]
  omega
theorem addK_zero (a b : By) : addK a b 0 = a := by simp [addK]
theorem addK_all (a b : By) (h : b.length = a.length) : addK a b a.length = xorL a b := by
  unfold addK
  rw [List.take_of_length_le (by rw [xorL_len a b h]; exact Nat.le_refl _), List.drop_length, List.append_nil]
theorem addK_get (a b : By) (k : Nat) (h : b.length = a.length) (hk : k < a.length) : (addK a b k)[k]'(by rw [addK_length a b k h]; exact hk) = a[k] := by
  unfold addK
  rw [List.getElem_append_right (by rw [List.length_take, xorL_len a b h]; omega)]
  simp only [List.length_take, xorL_len a b h, List.getElem_drop]
  congr 1
  omega
theorem addK_step (a b : By) (k : Nat) (h : b.length = a.length) (hk : k < a.length) : (addK a b k).set k (a[k] ^^^ b[k]) = addK a b (k + 1) := by
  have hx : k < (xorL a b).length := by rw [xorL_len a b h]; exact hk
  have e : (xorL a b)[k] = a[k] ^^^ b[k] := by simp [xorL]
  unfold addK
  rw [List.set_append_right _ _ (by rw [List.length_take]; omega), List.length_take, show k - min k (xorL a b).length = 0 by omega, List.take_succ_eq_append_getElem hx, e, List.append_assoc]
  congr 1
  rw [List.drop_eq_getElem_cons hk, List.set_cons_zero]
  rfl

set_option maxHeartbeats 2000000 in
theorem add_any (g cap : Nat) (L s : By) (w : World) (hL : Bw w g L) (hs : s.length = L.length) (hn : L.length ≤ 100000) :
    Calls Tryz.prog 73 #[.slice (some ⟨g, 0, none⟩) L.length cap, .string (bs s)] w fun e w' => e = .returned (.tuple #[]) ∧ Bw w' g (xorL L s) ∧ Kept w.heap.size g w w' := by
  have hbs := bs_size s
  have HL := hide hL
  have hgl := hL.lt
  obtain ⟨n, hn'⟩ : ∃ n, n = L.length := ⟨_, rfl⟩
  rw [← hn'] at hs hn ⊢
  rw [hs] at hbs
  have HN := hide hn'
  have HS := hide hs
  clear hL hn' hs
  go_enter Tryz.func73, Tryz.ntmps73
  go_wp2
  go_loopw [7] (fun i wr => ∃ k : Nat, k ≤ n ∧ i = .int .i64 k ∧ Bw wr g (addK L s k) ∧ Kept w.heap.size g w wr) (fun i _ => n - (intOf i).toNat)
  case atStart => exact ⟨0, Nat.zero_le _, rfl, by rw [addK_zero]; exact unhide HL, Kept.refl _ _ _⟩
  case round =>
    obtain ⟨k, hk, rfl, hB, hkp⟩ := hrel
    have HK := hide hkp
    by_cases hlt : k < n
    · have q1 : (k : Int) < n := by omega
      have hs' : s.length = L.length := by rw [unhide HS, unhide HN]
      have hkL : k < L.length := by rw [← unhide HN]; exact hlt
      have hks : k < s.length := by rw [unhide HS]; exact hlt
      have hlen := addK_length L s k hs'
      have hc := hB.cell k (by rw [hlen]; exact hkL)
      rw [addK_get L s k hs' hkL] at hc
      have hfr := hB.free k (by rw [hlen]; exact hkL)
      have hix := run_index_bs (P := Tryz.prog) 9 s k hks (by kernel_rfl)
      have HB := hide hB
      clear hkp hB
      go_wp2_with fail
      refine wp_region_late 9 ?A0 (by kernel_rfl) (by kernel_rfl) (by kernel_rfl) ?lex ?_
      case lex =>
        intro X
        have hneX := gb_ne X.w
        have hcX : ∀ y : Gb X.w, y.w.cell? ⟨g, k, none⟩ = some (.int .u8 L[k].toNat) := fun y => by
          have := cell_below hc X.ok
          exact gb_cell this y
        dsimp only [List.take_succ_cons, List.take_zero]
        repeat (go_big_quiet_step (fail))
        refine wpQuiet_nil ?_
        exact rfl
      intro w8 b8
      try simp only [List.drop_succ_cons, List.drop_zero]
      have hB8 := (unhide HB).kept b8
      have hfr8 := hB8.free k (by rw [hlen]; exact hkL)
      have hc8 := hB8.cell k (by rw [hlen]; exact hkL)
      rw [addK_get L s k hs' hkL] at hc8
      clear hc hfr
      have HX := hide (xor8 L[k] s[k])
      have hst := hB8.set k ((L[k] ^^^ s[k]).toNat) (by omega) (by have := (L[k] ^^^ s[k]).toNat_lt; omega)
      rw [byteOf_nat, addK_step L s k hs' hkL, ← unhide HX] at hst
      have HST := hide hst
      have HK2 := hide (((unhide HK).trans (Kept.of_below (b8.mono (unhide HK).size))).trans (kept_set w.heap.size w8 g k (.int .u8 (bits .xor .u8 (L[k].toNat : Int) (s[k].toNat : Int)))))
      clear hst hB8 b8 HB HX
      go_wp2_with fail
      refine onlyN ?_
      go_wp2
      go_roundw
      case rel => exact ⟨k + 1, by omega, by go_num, unhide HST, unhide HK2⟩
      case measure => simp [intOf]; omega
    · have q1 : ¬ (k : Int) < n := by omega
      have hke : k = L.length := by have := unhide HN; omega
      rw [hke, addK_all L s (by rw [unhide HS, unhide HN])] at hB
      have HB := hide hB
      clear hB hkp hke
      go_wp2
      go_end0
      exact ⟨rfl, unhide HB, unhide HK⟩

/-- the sum of two texts, or the error -/
def xorE (a b : By) : Int := if a.length = b.length then 0 else 1
def xorR (a b : By) : By := if a.length = b.length then xorL a b else []
set_option maxHeartbeats 2000000 in
theorem rxor_any (a b : By) (w : World) (ha : a.length ≤ 100000) (hb : b.length ≤ 100000) :
    Calls Tryz.prog 57 #[.string (bs a), .string (bs b)] w fun e w' => e = .returned (.tuple #[.string (bs (xorR a b)), .int .i64 (xorE a b)]) ∧ Below w.heap.size w w' := by
  have h1 := bs_size a
  have h2 := bs_size b
  unfold xorR xorE
  by_cases h : a.length = b.length
  · rw [if_pos h, if_pos h]
    have HL := hide (xorL_len a b h.symm)
    have HH := hide h
    rw [← h] at h2
    obtain ⟨n, hn⟩ : ∃ n, n = a.length := ⟨_, rfl⟩
    rw [← hn] at h1 h2 ha
    have HN := hide hn
    obtain ⟨j0, hj, jz0, jz1, jz2⟩ := info_parts Tryz.infoUb
    clear h hb hn
    go_enter Tryz.func57, Tryz.ntmps57
    go_wp2_with fail
    go_loopw [6, 7] (fun v i wr => ∃ k : Nat, k ≤ n ∧ i = .int .i64 k ∧ wr.ownsRow w.heap.size 5 1 v k (bc ((xorL a b).take k)) ∧ Below w.heap.size w wr) (fun _ i _ => n - (intOf i).toNat)
    case atStart => exact ⟨0, Nat.zero_le _, rfl, World.ownsRow_nil _ _ _ _, Below.refl _ _⟩
    case round =>
      obtain ⟨k, hk, rfl, hown, hb⟩ := hrel
      obtain ⟨ao, cap, rfl⟩ := own_shape' hown
      have HO := hide hown
      have HB := hide hb
      have hz := hb.size
      clear hown hb
      by_cases hlt : k < n
      · have q1 : (k : Int) < n := by omega
        have ka : k < a.length := by rw [← unhide HN]; exact hlt
        have kb : k < b.length := by rw [← unhide HH, ← unhide HN]; exact hlt
        have hi1 := run_index_bs (P := Tryz.prog) 9 a k ka (by kernel_rfl)
        have hi2 := run_index_bs (P := Tryz.prog) 9 b k kb (by kernel_rfl)
        have HX := hide (xor8 a[k] b[k])
        have HT : Hid ((xorL a b).take (k + 1) = (xorL a b).take k ++ [a[k] ^^^ b[k]]) := by
          show _ = _
          rw [List.take_succ_eq_append_getElem (by rw [unhide HL]; exact ka)]
          simp [xorL]
        generalize a[k] = x at *
        generalize b[k] = y at *
        clear ka kb
        go_wp2_with fail
        refine wp_region_late 8 ?A0 (by kernel_rfl) (by kernel_rfl) (by kernel_rfl) ?lex ?_
        case lex =>
          intro X
          have hneX := gb_ne X.w
          dsimp only [List.take_succ_cons, List.take_zero]
          repeat (go_big_quiet_step (fail))
          refine wpQuiet_nil ?_
          exact rfl
        intro w8 b8
        try simp only [List.drop_succ_cons, List.drop_zero]
        have HO8 := hide (own_below2 (unhide HO) b8)
        have B8 := hide ((unhide HB).trans (b8.mono hz))
        have hz8 := (unhide B8).size
        have HV : Hid (bits .xor .u8 (x.toNat : Int) (y.toNat : Int) = ((x ^^^ y).toNat : Int)) := unhide HX
        generalize bits .xor .u8 (x.toNat : Int) (y.toNat : Int) = V at *
        clear HO HB b8 hi1 hi2
        go_wp2_with (at_builtin; refine wpList_append_own _ rfl _ _ 88 rfl w.heap.size 5 j0 (.int .u8 0) 1 1 Tryz.undBb hj jz0 jz1 jz2 rfl (by decide) _ _ _ rfl ((unhide HO8).alloc _) ⟨w8.heap.size, 0, none⟩ 1 1 [.int .u8 V] rfl rfl (news_lit _ [_] _) ?d2 ?d3 ?d4 ?d5 ?_)
        case d2 => first | rfl | (intro u hu; simp at hu; subst hu; rfl)
        case d3 => unfold maxLen; omega
        case d4 => omega
        case d5 => first | omega | (simp; omega)
        intro v9 w9 hown9 hgrow9 _
        have hb' := hide ((((unhide B8).alloc (by omega) _)).grown hgrow9 (by simp; omega) (fun k hk => (((unhide HO8).lt k hk).1)))
        have ho2 : Hid (w9.ownsRow w.heap.size 5 1 v9 (k + 1) (bc ((xorL a b).take (k + 1)))) := by
          show World.ownsRow _ _ _ _ _ _ _
          rw [unhide HT, bc_append, show bc [x ^^^ y] = [.int .u8 V] by rw [unhide HV]; rfl]
          exact hown9
        obtain ⟨ao', cap', rfl⟩ := own_shape' hown9
        clear hown9 hgrow9 HO8 B8
        go_wp2_with fail
        refine onlyN ?_
        go_wp2
        go_roundw
        case rel => exact ⟨k + 1, by omega, by go_num, unhide ho2, unhide hb'⟩
        case measure => simp [intOf]; omega
      · have hke : k = n := by omega
        subst hke
        have q1 : ¬ (k : Int) < k := by omega
        have hfull : (xorL a b).take k = xorL a b := List.take_of_length_le (by rw [unhide HL, ← unhide HN]; exact Nat.le_refl _)
        have hcv := run_string_own (P := Tryz.prog) 88 9 Tryz.undBb (by kernel_rfl) (by kernel_rfl) (unhide HO)
        rw [hfull] at hcv
        clear hfull
        generalize hD : (⟨(xorL a b).toArray⟩ : ByteArray) = D at *
        have HD := hide hD
        clear hD
        go_wp2
        go_ret2
        exact ⟨by rw [← unhide HD]; rfl, unhide HB⟩
  · rw [if_neg h, if_neg h]
    have hx : ¬ (a.length : Int) = b.length := by omega
    generalize a.length = n at *
    generalize b.length = m at *
    generalize bs a = A at *
    generalize bs b = B at *
    go_enter Tryz.func57, Tryz.ntmps57
    go_wp2
    go_ret2
    exact ⟨rfl, Below.refl _ _⟩
end Go.Proofs.YtkcnihngkmaecaaGreat

/- Contract of the document's own Sum, of layer 1. -/
import Derived.Test.YtkcnihngkmaecaaGreatRefZ
import Derived.Test.YtkcnihngkmaecaaGreatShaDt
namespace Go.Proofs.YtkcnihngkmaecaaGreat
open Go.RowKit
set_option linter.unusedVariables false

set_option maxRecDepth 100000 in
set_option maxHeartbeats 2000000 in
theorem rSum_any (s : ByteArray) (w : World) (hl : s.size ≤ 65536) :
    Calls Tryz.prog 101 #[.string s] w fun e w' => e = .returned (.string ⟨(shaSum s.data.toList).toArray⟩) ∧ Below w.heap.size w w' := by
  obtain ⟨i0, hi, hz0, hz1, hz2⟩ := info_parts Tryz.infoU
  have hp := hide (fun w => rpad_any s.size w hl)
  obtain ⟨D, hD⟩ : ∃ D : ByteArray, D = ⟨(padL s.size).toArray⟩ := ⟨_, rfl⟩
  have hDl : D.data.toList = padL s.size := by rw [hD]
  have hDs : D.size = zerosOf s.size + 9 := by rw [← blen, hDl, padL_length]
  have hz := zerosOf_lt s.size
  rw [← hD] at hp
  obtain ⟨t, ht⟩ : ∃ t : ByteArray, t = s ++ D := ⟨_, rfl⟩
  have htl : t.data.toList = s.data.toList ++ padL s.data.toList.length := by rw [ht, bapp, hDl, blen]
  have hts : t.size = s.size + D.size := by rw [ht]; exact ByteArray.size_append
  have htm : t.size % 64 = 0 := by
    have := pad_whole s.size
    rw [padL_length] at this
    rw [hts, hDs]
    exact this
  have htb : t.size ≤ 65700 := by omega
  have hsum : shaSum s.data.toList = dig (mixN t.data.toList (t.size / 64)).list := by unfold shaSum; rw [← htl, blen]
  have HSU := hide hsum
  clear hD hDl htl hsum
  have HT := hide ht
  have hDb : D.size ≤ 72 := by omega
  have hl1 : ¬ (65536 : Int) < s.size := by omega
  go_enter Tryz.func101, Tryz.ntmps101
  go_wp2_with fail
  refine (unhide hp w).mono ?_
  rintro e w1 ⟨rfl, b1⟩
  have B1 := hide b1
  clear ht hts hDs hz b1 hp
  go_wp2_with fail
  rw [← unhide HT]
  clear HT hDb hl1 hl
  refine (rStart_any w1).mono ?_
  rintro e w2 ⟨rfl, hst, b2⟩
  have B2 := hide ((unhide B1).trans (b2.mono (unhide B1).size))
  have HST := hide hst
  clear b2 hst B1
  generalize w1.heap.size = g0 at *
  obtain ⟨n, hn⟩ : ∃ n, n = t.size / 64 := ⟨_, rfl⟩
  rw [← hn] at HSU
  have HN := hide (show t.size = 64 * n by omega)
  have hn2 : n ≤ 1027 := by omega
  clear hn htm
  go_wp2
  go_loopw [4, 5] (fun v i wr => ∃ k q gq : Nat, k ≤ n ∧ q = 64 * k ∧ i = .int .i64 q ∧ v = .slice (some ⟨gq, 0, none⟩) 8 8 ∧ WordsAt wr gq 103 (mixN t.data.toList k).list ∧ Below w.heap.size w wr) (fun _ i _ => t.size + 1 - (intOf i).toNat)
  case atStart => exact ⟨0, 0, g0, Nat.zero_le _, rfl, rfl, rfl, unhide HST, unhide B2⟩
  case round =>
    clear HST B2
    obtain ⟨k, q, gq, hk, hq, rfl, rfl, hw, hb⟩ := hrel
    have HQ := hide hq
    have hqb : q ≤ 65760 := by omega
    have HW := hide hw
    have HB := hide hb
    clear hq hw hb
    by_cases hlt : k < n
    · have q1 : (q : Int) + 64 ≤ t.size := by have := unhide HN; have := unhide HQ; omega
      have hbs : (t.extract q (q + 64)).size = 64 := by rw [ByteArray.size_extract]; omega
      have hmx := hide (fun w h => rMix_any (mixN t.data.toList k) (t.extract q (q + 64)) hbs gq 8 103 w h)
      have hms : Hid (mix (mixN t.data.toList k) (t.extract q (q + 64)).data.toList = mixN t.data.toList (k + 1)) := by
        show _ = _
        rw [bext, show q + 64 - q = 64 by omega, unhide HQ]
        rfl
      rw [unhide hms] at hmx
      have hq64 : Hid (q + 64 = 64 * (k + 1)) := by show _ = _; rw [unhide HQ]; omega
      clear hms hbs
      obtain ⟨S2, hS2⟩ : ∃ S2, S2 = mixN t.data.toList (k + 1) := ⟨_, rfl⟩
      rw [← hS2] at hmx
      have HS2 := hide hS2
      clear hS2
      generalize mixN t.data.toList k = S1 at *
      go_wp2_with fail
      refine (unhide hmx wr (unhide HW)).mono ?_
      rintro e w3 ⟨g3, rfl, hw3, _, b3⟩
      have B3 := hide ((unhide HB).trans (b3.mono (unhide HB).size))
      have HW3 := hide hw3
      clear b3 hw3 HW HB hmx
      go_wp2
      go_roundw
      case rel => exact ⟨k + 1, q + 64, g3, by omega, unhide hq64, by go_num, rfl, by rw [← unhide HS2]; exact unhide HW3, unhide B3⟩
      case measure => simp [intOf]; omega
    · have q1 : ¬ (q : Int) < t.size := by have := unhide HN; have := unhide HQ; omega
      have hke : k = n := by omega
      rw [hke] at HW
      clear hke hlt HQ HN hk
      generalize (mixN t.data.toList n) = S at *
      have hgl := (unhide HW).lt
      go_wp2
      clear q1
      generalize wr = wo at *
      go_loopw [6, 7] (fun v i wr => ∃ (j L : Nat), j ≤ 8 ∧ L = 4 * j ∧ i = .int .i64 j ∧ wr.ownsRow wo.heap.size 5 1 v L (bc ((dig S.list).take (4 * j))) ∧ Below wo.heap.size wo wr) (fun _ i _ => 8 - (intOf i).toNat)
      case atStart => exact ⟨0, 0, Nat.zero_le _, rfl, rfl, World.ownsRow_nil _ _ _ _, Below.refl _ _⟩
      case round =>
        obtain ⟨j, L, hj, hL, rfl, hown, hb⟩ := hrel
        have hL2 : L ≤ 32 := by omega
        have HL := hide hL
        obtain ⟨ao, cap, rfl⟩ := own_shape' hown
        have hz := hb.size
        have hwr : WordsAt wr gq 103 S.list := (hb.block _ hgl).trans (unhide HW)
        have HO := hide hown
        have HBX := hide hb
        clear hown hb hL
        by_cases hj8 : j < 8
        · have c1 := hwr.cell j (by rw [S8.len]; exact hj8)
          have hx0 := n32_nonneg (S.list[j]'(by rw [S8.len]; exact hj8))
          have hdt := hide (dig_take S.list j hj8)
          rw [getD_of_lt _ _ (by rw [S8.len]; exact hj8)] at hdt
          generalize n32 (S.list[j]'(by rw [S8.len]; exact hj8)) = v at *
          have jk : (j : Int) < 8 := by omega
          clear hwr
          go_wp2_with (at_builtin; refine wpList_append_own _ rfl _ _ 88 rfl wo.heap.size 5 i0 (.int .u8 0) 1 1 Tryz.undB hi hz0 hz1 hz2 rfl (by decide) _ _ _ rfl ((unhide HO).alloc _) ⟨wr.heap.size, 0, none⟩ 4 4 (bc (four v)) rfl (by rfl) ?c1 (bc_oneCell _) ?c3 ?c4 ?c5 ?_)
          case c1 => rw [bc_four]; exact news_lit wr _ 5
          case c3 => unfold maxLen; omega
          case c4 => omega
          case c5 => simp; omega
          intro v' w1 hown' hgrow _
          have hb' := hide (((unhide HBX).alloc (by omega) _).grown hgrow (by simp; omega) (fun k hk => (((unhide HO).lt k hk).1)))
          have ho2 : Hid (w1.ownsRow wo.heap.size 5 1 v' (L + 4) (bc ((dig S.list).take (4 * (j + 1))))) := by
            show World.ownsRow _ _ _ _ _ _ _
            rw [unhide hdt, bc_append]
            exact hown'
          obtain ⟨ao', cap', rfl⟩ := own_shape' hown'
          clear hown' hgrow HO HBX c1
          go_wp2
          go_roundw
          case rel => exact ⟨j + 1, L + 4, by omega, by rw [unhide HL]; omega, by go_num, unhide ho2, unhide hb'⟩
          case measure => simp [intOf]; omega
        · have hje : j = 8 := by omega
          subst hje
          have hown := unhide HO
          rw [List.take_of_length_le (by rw [dig_length]; omega), ← unhide HSU] at hown
          have hcv := run_string_own (P := Tryz.prog) 88 9 Tryz.undB (by kernel_rfl) (by kernel_rfl) hown
          generalize hD : (shaSum s.data.toList).toArray = D at *
          have HD := hide hD
          clear hown HO hD hwr
          go_wp2
          go_ret
          exact ⟨by rw [unhide HD]; rfl, (unhide HB).trans ((unhide HBX).mono (unhide HB).size)⟩

end Go.Proofs.YtkcnihngkmaecaaGreat

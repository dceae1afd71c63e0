/- Contract of the document's Unescape. -/
import Derived.Test.YtgcfmgkhbenooaaLkE
import Derived.Test.YtgcfmgkhbenooaaReg
namespace Go.Proofs.Ytgcfmgkhbenooaa
open Go.RowKit
set_option linter.unusedVariables false

theorem step_call_same {P : Program} {ops : Array Oper} {o : Oper} {a : Act} {w : World} {K : Act → World → Prop} {Q : Exit → Act → World → Prop} {E : Prop} (hgd : o.guard = none)
    (f : FuncId) (xs : Array Operand) (ats : Array TypeId) (ho : o.op = .call { callee := .value (.func f), args := xs, argTypes := ats }) (henter : ∀ args w, (callFunc f args).run P w = .ok (.enter f args) w)
    (vs : Array Value) (hvs : xs.map a.eval = vs) (v : Value) (hc : Calls P f vs w fun e w' => e = .returned v ∧ w = w') (h : K (a.put o.dst v) w) :
    if Region.wanted o (yielded ops a.tmps) = true then Oper.wp P o a w K Q else E := by
  have hw : Region.wanted o (yielded ops a.tmps) = true := by simp [Region.wanted, hgd]
  rw [if_pos hw]
  refine wp_call f xs ats ho henter vs hvs hc ?_
  rintro e w' ⟨rfl, rfl⟩
  exact ⟨v, rfl, h⟩

set_option maxRecDepth 100000 in
set_option maxHeartbeats 2000000 in
theorem dunescape_any (s : ByteArray) (w : World) (hs : s.size ≤ 100000) :
    Calls Try.prog 11 #[.string s] w fun e w' => e = .returned (.tuple #[.string ⟨(unV s.data.toList).1.toArray⟩, .int .i64 (unV s.data.toList).2]) ∧ Below w.heap.size w w' := by
  obtain ⟨i0, hi, hz0, hz1, hz2⟩ := info_parts Try.infoU
  have hown0 : Hid (w.ownsRow w.heap.size 5 1 (.slice none 0 0) 0 (bc [])) := World.ownsRow_nil w _ _ _
  have hs' : (s.size : Int) ≤ 100000 := by omega
  obtain ⟨RR, hRR⟩ : ∃ RR, RR = unV s.data.toList := ⟨_, rfl⟩
  rw [← hRR]
  have HRR := hide hRR
  clear hRR
  go_enter Try.func11, Try.ntmps11
  go_wp2
  go_loopw [4, 5] (fun v i wr => ∃ (k : Nat) (LL : List UInt8), k ≤ s.size ∧ i = .int .i64 (k : Nat) ∧ LL.length ≤ k ∧ Hid (unR s.data.toList = (unR (s.data.toList.drop k)).map (LL ++ ·)) ∧ Hid (wr.ownsRow w.heap.size 5 1 v LL.length (bc LL)) ∧ Hid (Below w.heap.size w wr)) (fun _ i _ => s.size - (intOf i).toNat)
  case atStart => exact ⟨0, [], Nat.zero_le _, rfl, Nat.le_refl _, by show unR _ = _; simp, hown0, Below.refl _ _⟩
  case round =>
    clear hown0
    obtain ⟨k, LL, hk, rfl, hLL, HU, HO, HB⟩ := hrel
    obtain ⟨ao, cap, rfl⟩ := own_shape' (unhide HO)
    have hz := (unhide HB).size
    by_cases hlt : k < s.size
    · have hbt := s[k].toNat_lt
      have i1 := idx_at s k hlt
      have hdr := drop_cons s k hlt
      have hlk : (((k : Nat) : Int) < ((s.size : Nat) : Int)) := by omega
      obtain ⟨n, hn⟩ : ∃ n, n = LL.length := ⟨_, rfl⟩
      rw [← hn] at hLL HO ⊢
      have Hn := hide hn
      clear hn
      by_cases hb : s[k].toNat = 37
      · have hb1 : (((s[k].toNat : Nat) : Int) == 37) = true := by rw [hb]; rfl
        have hb2 : decide (((s[k].toNat : Nat) : Int) = 37) = true := by rw [hb]; rfl
        by_cases h3 : s.size ≤ k + 2
        · -- too short
          have hbad : Hid (RR = ([], 3)) := by
            show RR = _
            rw [unhide HRR]
            apply unV_none
            rw [unhide HU, hdr, unR_short _ _ hb (by rw [List.length_drop, blen]; omega)]; rfl
          have h3' : ((s.size : Nat) : Int) ≤ ((k : Nat) : Int) + 2 := by omega
          rw [hb] at i1
          clear hdr hb hb1 hb2
          go_wp2
          go_ret2
          exact ⟨by rw [unhide hbad]; rfl, unhide HB⟩
        · have h3' : ¬ ((s.size : Nat) : Int) ≤ ((k : Nat) : Int) + 2 := by omega
          have h3'' : decide (((s.size : Nat) : Int) ≤ ((k : Nat) : Int) + 2) = false := decide_eq_false h3'
          have hx := drop_cons s (k + 1) (by omega)
          have hy := drop_cons s (k + 2) (by omega)
          have hxl := s[k + 1].toNat_lt
          have hyl := s[k + 2].toNat_lt
          have i2 := idx_at s (k + 1) (by omega)
          have i3 := idx_at s (k + 2) (by omega)
          rw [show (((k + 1 : Nat)) : Int) = ((k : Nat) : Int) + 1 from rfl] at i2
          rw [show (((k + 2 : Nat)) : Int) = ((k : Nat) : Int) + 2 from rfl] at i3
          have g1 := hide (fun w => digit_any s[k + 1].toNat hxl w)
          have g2 := hide (fun w => digit_any s[k + 2].toNat hyl w)
          have hue := unR_esc s[k] s[k + 1] s[k + 2] (s.data.toList.drop (k + 3)) hb
          have hD : Hid (s.data.toList.drop k = s[k] :: s[k + 1] :: s[k + 2] :: s.data.toList.drop (k + 3)) := by show List.drop _ _ = _; rw [hdr, hx, hy]
          have hXl := dgN_le s[k + 1].toNat
          have hYl := dgN_le s[k + 2].toNat
          rw [hb] at i1
          clear hdr hx hy hb hb1 hb2
          generalize dgN s[k + 1].toNat = X at *
          generalize dgN s[k + 2].toNat = Y at *
          generalize s[k + 1].toNat = xv at *
          generalize s[k + 2].toNat = yv at *
          by_cases hX : X = 16
          · have hbad : Hid (RR = ([], 3)) := by
              show RR = _
              rw [unhide HRR]
              apply unV_none
              rw [unhide HU, unhide hD, hue, if_neg (by omega)]; rfl
            subst hX
            clear hue
            go_wp2_with fail
            refine (unhide g1 _).mono ?_
            rintro e w' ⟨rfl, rfl⟩
            go_wp2
            go_ret2
            exact ⟨by rw [unhide hbad]; rfl, unhide HB⟩
          · have hX1 : (((X : Nat) : Int) == 16) = false := by simp; omega
            have hX2 : decide (((X : Nat) : Int) = 16) = false := decide_eq_false (by omega)
            by_cases hY : Y = 16
            · have hbad : Hid (RR = ([], 3)) := by
                show RR = _
                rw [unhide HRR]
                apply unV_none
                rw [unhide HU, unhide hD, hue, if_neg (by omega)]; rfl
              subst hY
              clear hue
              go_wp2_with fail
              refine (unhide g1 _).mono ?_
              rintro e w' ⟨rfl, rfl⟩
              go_wp2_with fail
              refine (unhide g2 _).mono ?_
              rintro e w' ⟨rfl, rfl⟩
              go_wp2
              go_ret2
              exact ⟨by rw [unhide hbad]; rfl, unhide HB⟩
            · have hY1 : (((Y : Nat) : Int) == 16) = false := by simp; omega
              have hY2 : decide (((Y : Nat) : Int) = 16) = false := decide_eq_false (by omega)
              rw [if_pos ⟨hX, hY⟩] at hue
              have hU2 : Hid (unR s.data.toList = (unR (s.data.toList.drop (k + 3))).map ((LL ++ [UInt8.ofNat (16 * X + Y)]) ++ ·)) := by
                show unR _ = _
                rw [unhide HU, unhide hD, hue, Option.map_map]
                congr 1
                funext m
                simp
              have hcv : Hid (bc [UInt8.ofNat (16 * X + Y)] = [.int .u8 (16 * ((X : Nat) : Int) + ((Y : Nat) : Int))]) := by
                show bc _ = _
                simp only [bc, List.map_cons, List.map_nil]
                rw [ofN_toN (16 * X + Y) (by omega)]
                rfl
              have l1 : ((X : Nat) : Int) ≤ 15 := by omega
              have l2 : ((Y : Nat) : Int) ≤ 15 := by omega
              clear hue hX hY
              go_wp2_with fail
              refine (unhide g1 _).mono ?_
              rintro e w' ⟨rfl, rfl⟩
              go_wp2_with fail
              refine (unhide g2 _).mono ?_
              rintro e w' ⟨rfl, rfl⟩
              go_wp2_with fail
              have hw1 : IntKind.i64.wrap (((k : Nat) : Int) + 1) = ((k : Nat) : Int) + 1 := by rw [IntKind.wrap_i64]; omega
              have hw2 : IntKind.i64.wrap (((k : Nat) : Int) + 2) = ((k : Nat) : Int) + 2 := by rw [IntKind.wrap_i64]; omega
              have hw3 : IntKind.u8.wrap (16 * ((X : Nat) : Int)) = 16 * ((X : Nat) : Int) := wrap256 (16 * X) (by omega)
              have hw4 : IntKind.u8.wrap (16 * ((X : Nat) : Int) + ((Y : Nat) : Int)) = 16 * ((X : Nat) : Int) + ((Y : Nat) : Int) := wrap256 (16 * X + Y) (by omega)
              go_region_law (first | (refine step_call_same rfl 21 #[.tmp 39] #[5] rfl Try.call21 #[.int .u8 (xv : Nat)] (by rw [map_one]; rfl) (.int .u8 (X : Nat)) (unhide g1 _) ?_) | (refine step_call_same rfl 21 #[.tmp 45] #[5] rfl Try.call21 #[.int .u8 (yv : Nat)] (by rw [map_one]; rfl) (.int .u8 (Y : Nat)) (unhide g2 _) ?_) | (refine step_append_own rfl (.tmp 35) (.tmp 48) 30 rfl w.heap.size 5 i0 (.int .u8 0) 1 1 Try.undB hi hz0 hz1 hz2 rfl (by decide) (.slice ao n cap) n _ (by rfl) ((unhide HO).alloc _) ⟨wr.heap.size, 0, none⟩ 1 1 [.int .u8 (16 * ((X : Nat) : Int) + ((Y : Nat) : Int))] (by rfl) (by rfl) (news_lit _ [_] _) (by intro u hu; simp at hu; subst hu; rfl) (by unfold maxLen; omega) (by omega) (by simp; omega) ?_; intro v' w2 hown2 hgrow2))
              all_goals
                have hb2 : Below w.heap.size w w2 := (((unhide HB).alloc (by omega) _).drew).grown hgrow2 (by simp; omega) (fun k hk => ((unhide HO).lt k hk).1)
                have ho3 : Hid (w2.ownsRow w.heap.size 5 1 v' (LL ++ [UInt8.ofNat (16 * X + Y)]).length (bc (LL ++ [UInt8.ofNat (16 * X + Y)]))) := by
                  show World.ownsRow _ _ _ _ _ _ _
                  rw [bc_append, List.length_append, ← unhide Hn, unhide hcv]
                  exact hown2
                have HB2 := hide hb2
                obtain ⟨ao', cap', rfl⟩ := own_shape' hown2
                clear hown2 hgrow2 hb2 HO HB hw1 hw2 hw3 hw4
                go_wp2
                go_roundw
                case rel => exact ⟨k + 3, LL ++ [UInt8.ofNat (16 * X + Y)], by omega, by go_num, by rw [List.length_append, ← unhide Hn]; simp; omega, hU2, ho3, HB2⟩
                case measure => simp [intOf]; omega
      · have hb1 : (((s[k].toNat : Nat) : Int) == 37) = false := by simp; omega
        have hb2 : decide (((s[k].toNat : Nat) : Int) = 37) = false := decide_eq_false (by omega)
        have hU2 : Hid (unR s.data.toList = (unR (s.data.toList.drop (k + 1))).map ((LL ++ [s[k]]) ++ ·)) := by
          show unR _ = _
          rw [unhide HU, hdr, unR_plain _ _ hb, Option.map_map]
          congr 1
          funext m
          simp
        have hcv : Hid (bc [s[k]] = [.int .u8 s[k].toNat]) := by show bc _ = _; simp [bc]
        clear hb hdr
        generalize s[k].toNat = bv at *
        go_wp2_with (at_builtin; refine wpList_append_own _ rfl _ _ 30 rfl w.heap.size 5 i0 (.int .u8 0) 1 1 Try.undB hi hz0 hz1 hz2 rfl (by decide) _ _ _ rfl ((unhide HO).alloc _) ⟨wr.heap.size, 0, none⟩ 1 1 [.int .u8 bv] rfl rfl (news_lit _ [_] _) ?c2 ?c3 ?c4 ?c5 ?_)
        case c2 => intro u hu; simp at hu; subst hu; rfl
        case c3 => unfold maxLen; omega
        case c4 => omega
        case c5 => simp; omega
        intro v' w2 hown2 hgrow2 _
        have hb2 : Below w.heap.size w w2 := ((unhide HB).alloc (by omega) _).grown hgrow2 (by simp; omega) (fun k hk => ((unhide HO).lt k hk).1)
        have ho3 : Hid (w2.ownsRow w.heap.size 5 1 v' (LL ++ [s[k]]).length (bc (LL ++ [s[k]]))) := by
          show World.ownsRow _ _ _ _ _ _ _
          rw [bc_append, List.length_append, ← unhide Hn, unhide hcv]
          exact hown2
        have HB2 := hide hb2
        obtain ⟨ao', cap', rfl⟩ := own_shape' hown2
        clear hown2 hgrow2 hb2 HO HB
        go_wp2
        go_roundw
        case rel => exact ⟨k + 1, LL ++ [s[k]], by omega, by go_num, by rw [List.length_append, ← unhide Hn]; simp; omega, hU2, ho3, HB2⟩
        case measure => simp [intOf]; omega
    · have hke : k = s.size := by omega
      subst hke
      have hsc : unR s.data.toList = some LL := by
        rw [unhide HU, List.drop_of_length_le (by rw [blen]; exact Nat.le_refl _), unR.eq_def]
        simp
      have hcv0 := hide (fun (w' : World) (h : w'.ownsRow w.heap.size 5 1 (.slice ao LL.length cap) LL.length (bc LL)) => run_string_own (P := Try.prog) 30 9 Try.undB (by kernel_rfl) (by kernel_rfl) h)
      have hcv := unhide hcv0 _ (unhide HO)
      have hesc := hide (fun w => descape_any ⟨LL.toArray⟩ w (by show LL.toArray.size ≤ _; simp; omega))
      have hls : (⟨LL.toArray⟩ : ByteArray).data.toList = LL := rfl
      rw [hls] at hesc
      by_cases heq : escL LL = s.data.toList
      · have hok : Hid (RR = (LL, 0)) := by show RR = _; rw [unhide HRR, unV_some hsc heq]
        have hsE : (⟨(escL LL).toArray⟩ : ByteArray) = s := by rw [heq]
        rw [hsE] at hesc
        have hnn : (LL.length : Nat) = (LL.length : Nat) := rfl
        obtain ⟨n, hn⟩ : ∃ n, n = LL.length := ⟨_, rfl⟩
        rw [← hn] at hcv HO hcv0 ⊢
        generalize hD : LL.toArray = D at *
        have HD := hide hD
        clear hD hsc heq hls hn hsE hLL hnn
        go_wp2_with fail
        refine (unhide hesc _).mono ?_
        rintro e w3 ⟨rfl, b3⟩
        have hcv3 := unhide hcv0 _ (own_below2 (unhide HO) b3)
        have B3 := hide ((unhide HB).trans (b3.mono (unhide HB).size))
        clear hcv b3 HO
        go_wp2
        go_ret2
        exact ⟨by rw [unhide hok, ← unhide HD]; rfl, unhide B3⟩
      · have hbad : Hid (RR = ([], 3)) := by show RR = _; rw [unhide HRR, unV_other hsc heq]
        have hq : ((⟨(escL LL).toArray⟩ : ByteArray).toList == s.toList) = false := by
          rw [ByteArray.toList_eq, ByteArray.toList_eq]
          simpa using heq
        generalize (⟨(escL LL).toArray⟩ : ByteArray) = EB at *
        obtain ⟨n, hn⟩ : ∃ n, n = LL.length := ⟨_, rfl⟩
        rw [← hn] at hcv HO hcv0 ⊢
        generalize hD : LL.toArray = D at *
        clear hD hsc heq hls hn hLL
        go_wp2_with fail
        refine (unhide hesc _).mono ?_
        rintro e w3 ⟨rfl, b3⟩
        have B3 := hide ((unhide HB).trans (b3.mono (unhide HB).size))
        clear hcv b3 HO
        go_wp2
        go_ret2
        exact ⟨by rw [unhide hbad]; rfl, unhide B3⟩

end Go.Proofs.Ytgcfmgkhbenooaa

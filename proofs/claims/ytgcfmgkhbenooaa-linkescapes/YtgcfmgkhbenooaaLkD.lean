/- Contract of link's Unescape. -/
import Derived.Test.YtgcfmgkhbenooaaLkC
namespace Go.Proofs.Ytgcfmgkhbenooaa
open Go.RowKit
set_option linter.unusedVariables false

/-- the bytes of what is escaped -/
def unL : List UInt8 → Option (List UInt8)
  | [] => some []
  | b :: l => if plN b.toNat = true then (unL l).map (b :: ·) else match l with
    | x :: y :: l' => if (escV b.toNat x.toNat y.toNat).2 = true then (unL l').map (UInt8.ofNat (escV b.toNat x.toNat y.toNat).1 :: ·) else none
    | _ => none
termination_by l => l.length
decreasing_by all_goals simp_wf <;> omega
/-- what Unescape answers -/
def unV (l : List UInt8) : List UInt8 × Int := match unL l with
  | some m => (m, 0)
  | none => ([], 3)
theorem unL_plain (b : UInt8) (l : List UInt8) (h : plN b.toNat = true) : unL (b :: l) = (unL l).map (b :: ·) := by
  rw [unL.eq_def (b :: l)]
  simp only [h, if_true]
theorem unL_short (b : UInt8) (l : List UInt8) (h : plN b.toNat = false) (hl : l.length < 2) : unL (b :: l) = none := by
  rw [unL.eq_def (b :: l)]
  simp only [h, Bool.false_eq_true, if_false]
  match l, hl with
  | [], _ => rfl
  | [x], _ => rfl
theorem unL_esc (b x y : UInt8) (l : List UInt8) (h : plN b.toNat = false) : unL (b :: x :: y :: l) = if (escV b.toNat x.toNat y.toNat).2 = true then (unL l).map (UInt8.ofNat (escV b.toNat x.toNat y.toNat).1 :: ·) else none := by
  rw [unL.eq_def (b :: x :: y :: l)]
  simp only [h, Bool.false_eq_true, if_false]
theorem escV_lt (b x y : Nat) : (escV b x y).1 < 256 := by
  have := dgN_le x
  have := dgN_le y
  unfold escV; split
  · rename_i h; show 16 * dgN x + dgN y < 256; omega
  · decide
theorem drop_cons (s : ByteArray) (k : Nat) (h : k < s.size) : s.data.toList.drop k = s[k] :: s.data.toList.drop (k + 1) := by
  rw [List.drop_eq_getElem_cons (by simpa using h)]; rfl
theorem idx_at (s : ByteArray) (k : Nat) (h : k < s.size) (w : World) : (Instr.index 9 (.string s) (.int .i64 (k : Nat))).run Try.prog w = .ok (.int .u8 (s[k].toNat : Nat)) w := by
  rw [run_index_string w 9 s .i64 k (by kernel_rfl)]
  simp [h]

theorem own_below2 {w w' : World} {base n size : Nat} {e : TypeId} {v : Value} {xs : List Value} (h : w.ownsRow base e size v n xs) (hb : Below w.heap.size w w') : w'.ownsRow base e size v n xs := by
  refine ⟨h.1, ?_⟩
  rcases h.2 with h2 | ⟨g, cap, cur, hv, hg, hh, r⟩
  · exact .inl h2
  · exact .inr ⟨g, cap, cur, hv, hg, (hb.block g (lt_of_block hh)).trans hh, r⟩
theorem idx_ext (s : ByteArray) (k j : Nat) (h : k + j < s.size) (w : World) : (Instr.index 9 (.string (s.extract k s.size)) (.int .i64 (j : Nat))).run Try.prog w = .ok (.int .u8 (s[k + j].toNat : Nat)) w := by
  have hj : j < (s.extract k s.size).size := by rw [ByteArray.size_extract]; omega
  rw [idx_at (s.extract k s.size) j hj w]
  congr 4
  rw [ByteArray.getElem_extract]

set_option maxRecDepth 100000 in
set_option maxHeartbeats 1000000 in
theorem unescape_any (s : ByteArray) (w : World) (hs : s.size ≤ 100000) :
    Calls Try.prog 10 #[.string s] w fun e w' => e = .returned (.tuple #[.string ⟨(unV s.data.toList).1.toArray⟩, .int .i64 (unV s.data.toList).2]) ∧ Below w.heap.size w w' := by
  obtain ⟨i0, hi, hz0, hz1, hz2⟩ := info_parts Try.infoU
  have hown0 : Hid (w.ownsRow w.heap.size 5 1 (.slice none 0 0) 0 (bc [])) := World.ownsRow_nil w _ _ _
  have hs' : (s.size : Int) ≤ 100000 := by omega
  obtain ⟨RR, hRR⟩ : ∃ RR, RR = unV s.data.toList := ⟨_, rfl⟩
  rw [← hRR]
  have HRR := hide hRR
  clear hRR
  go_enter Try.func10, Try.ntmps10
  go_wp2
  go_loopw [4, 5] (fun v i wr => ∃ (k : Nat) (LL : List UInt8), k ≤ s.size ∧ i = .int .i64 (k : Nat) ∧ LL.length ≤ k ∧ Hid (unL s.data.toList = (unL (s.data.toList.drop k)).map (LL ++ ·)) ∧ Hid (wr.ownsRow w.heap.size 5 1 v LL.length (bc LL)) ∧ Hid (Below w.heap.size w wr)) (fun _ i _ => s.size - (intOf i).toNat)
  case atStart => exact ⟨0, [], Nat.zero_le _, rfl, Nat.le_refl _, by show unL _ = _; simp, hown0, Below.refl _ _⟩
  case round =>
    clear hown0
    obtain ⟨k, LL, hk, rfl, hLL, HU, HO, HB⟩ := hrel
    obtain ⟨ao, cap, rfl⟩ := own_shape' (unhide HO)
    have hz := (unhide HB).size
    by_cases hlt : k < s.size
    · have hbt := s[k].toNat_lt
      have i1 := idx_at s k hlt
      have hpl := hide (fun w => isplain_any s[k].toNat hbt w)
      have hdr := drop_cons s k hlt
      have hlk : (((k : Nat) : Int) < ((s.size : Nat) : Int)) := by omega
      obtain ⟨n, hn⟩ : ∃ n, n = LL.length := ⟨_, rfl⟩
      rw [← hn] at hLL HO ⊢
      have Hn := hide hn
      clear hn
      cases hpb : plN s[k].toNat
      · rw [hpb] at hpl
        by_cases h3 : s.size < k + 3
        · -- too short
          have hbad : Hid (RR = ([], 3)) := by
            show RR = _
            rw [unhide HRR]; unfold unV
            rw [unhide HU, hdr, unL_short _ _ hpb (by rw [List.length_drop, blen]; omega)]; rfl
          have hes := hide (fun (t : ByteArray) w (h : t.size < 3) => escaped_short t w h)
          clear hpb hdr
          generalize s[k].toNat = bv at *
          go_wp2_with fail
          refine (unhide hpl _).mono ?_
          rintro e w' ⟨rfl, rfl⟩
          go_wp2_with fail
          refine (unhide hes _ _ (by rw [ByteArray.size_extract]; omega)).mono ?_
          rintro e w2 ⟨rfl, b2⟩
          have B2 := hide ((unhide HB).trans (b2.mono (unhide HB).size))
          clear b2
          go_wp2
          go_ret2
          exact ⟨by rw [unhide hbad]; rfl, unhide B2⟩
        · have hx := drop_cons s (k + 1) (by omega)
          have hy := drop_cons s (k + 2) (by omega)
          have hxl := s[k + 1].toNat_lt
          have hyl := s[k + 2].toNat_lt
          have hes := hide (fun w => escaped_three (s.extract k s.size) s[k].toNat s[k + 1].toNat s[k + 2].toNat w (by rw [ByteArray.size_extract]; omega) hbt hxl hyl (idx_ext s k 0 (by omega)) (idx_ext s k 1 (by omega)) (idx_ext s k 2 (by omega)))
          have hue := unL_esc s[k] s[k + 1] s[k + 2] (s.data.toList.drop (k + 3)) hpb
          have hvl := escV_lt s[k].toNat s[k + 1].toNat s[k + 2].toNat
          have hD : Hid (s.data.toList.drop k = s[k] :: s[k + 1] :: s[k + 2] :: s.data.toList.drop (k + 3)) := by show List.drop _ _ = _; rw [hdr, hx, hy]
          generalize escV s[k].toNat s[k + 1].toNat s[k + 2].toNat = EV at *
          obtain ⟨cv, kb⟩ := EV
          clear hpb hdr hx hy
          cases kb
          · have hbad : Hid (RR = ([], 3)) := by
              show RR = _
              rw [unhide HRR]; unfold unV
              rw [unhide HU, unhide hD, hue]; rfl
            clear hue
            generalize s[k].toNat = bv at *
            go_wp2_with fail
            refine (unhide hpl _).mono ?_
            rintro e w' ⟨rfl, rfl⟩
            go_wp2_with fail
            refine (unhide hes _).mono ?_
            rintro e w2 ⟨rfl, b2⟩
            have B2 := hide ((unhide HB).trans (b2.mono (unhide HB).size))
            clear b2
            go_wp2
            go_ret2
            exact ⟨by rw [unhide hbad]; rfl, unhide B2⟩
          · have hU2 : Hid (unL s.data.toList = (unL (s.data.toList.drop (k + 3))).map ((LL ++ [UInt8.ofNat cv]) ++ ·)) := by
              show unL _ = _
              rw [unhide HU, unhide hD, hue, if_pos rfl, Option.map_map]
              congr 1
              funext m
              simp
            have hcv : Hid (bc [UInt8.ofNat cv] = [.int .u8 (cv : Nat)]) := by
              show bc _ = _
              simp only [bc, List.map_cons, List.map_nil, UInt8.toNat_ofNat']
              rw [Nat.mod_eq_of_lt (by simpa using hvl)]
            clear hue
            generalize s[k].toNat = bv at *
            go_wp2_with fail
            refine (unhide hpl _).mono ?_
            rintro e w' ⟨rfl, rfl⟩
            go_wp2_with fail
            refine (unhide hes _).mono ?_
            rintro e w3 ⟨rfl, b3⟩
            have HO3 := hide (own_below2 (unhide HO) b3)
            have HB3 := hide ((unhide HB).trans (b3.mono (unhide HB).size))
            have hz3 := b3.size
            clear b3 HO HB
            have HO := HO3
            have HB := HB3
            go_wp2_with (at_builtin; refine wpList_append_own _ rfl _ _ 30 rfl w.heap.size 5 i0 (.int .u8 0) 1 1 Try.undB hi hz0 hz1 hz2 rfl (by decide) _ _ _ rfl ((unhide HO).alloc _) ⟨w3.heap.size, 0, none⟩ 1 1 [.int .u8 (cv : Nat)] rfl rfl (news_lit _ [_] _) ?d2 ?d3 ?d4 ?d5 ?_)
            case d2 => intro u hu; simp at hu; subst hu; rfl
            case d3 => unfold maxLen; omega
            case d4 => omega
            case d5 => simp; omega
            intro v' w2 hown2 hgrow2 _
            have hb2 : Below w.heap.size w w2 := ((unhide HB).alloc (by omega) _).grown hgrow2 (by simp; omega) (fun k hk => ((unhide HO).lt k hk).1)
            have ho3 : Hid (w2.ownsRow w.heap.size 5 1 v' (LL ++ [UInt8.ofNat cv]).length (bc (LL ++ [UInt8.ofNat cv]))) := by
              show World.ownsRow _ _ _ _ _ _ _
              rw [bc_append, List.length_append, ← unhide Hn, unhide hcv]
              exact hown2
            have HB2 := hide hb2
            obtain ⟨ao', cap', rfl⟩ := own_shape' hown2
            clear hown2 hgrow2 hb2 HO HB HO3 HB3
            go_wp2
            go_roundw
            case rel => exact ⟨k + 3, LL ++ [UInt8.ofNat cv], by omega, by go_num, by rw [List.length_append, ← unhide Hn]; simp; omega, hU2, ho3, HB2⟩
            case measure => simp [intOf]; omega
      · rw [hpb] at hpl
        have hU2 : Hid (unL s.data.toList = (unL (s.data.toList.drop (k + 1))).map ((LL ++ [s[k]]) ++ ·)) := by
          show unL _ = _
          rw [unhide HU, hdr, unL_plain _ _ hpb, Option.map_map]
          congr 1
          funext m
          simp
        have hcv : Hid (bc [s[k]] = [.int .u8 s[k].toNat]) := by show bc _ = _; simp [bc]
        clear hpb hdr
        generalize s[k].toNat = bv at *
        go_wp2_with fail
        refine (unhide hpl _).mono ?_
        rintro e w' ⟨rfl, rfl⟩
        go_wp2_with (at_builtin; refine wpList_append_own _ rfl _ _ 30 rfl w.heap.size 5 i0 (.int .u8 0) 1 1 Try.undB hi hz0 hz1 hz2 rfl (by decide) _ _ _ rfl ((unhide HO).alloc _) ⟨wr.heap.size, 0, none⟩ 1 1 [.int .u8 bv] rfl rfl (news_lit _ [_] _) ?c2 ?c3 ?c4 ?c5 ?_)
        case c2 => intro u hu; simp at hu; subst hu; rfl
        case c3 => unfold maxLen; omega
        case c4 => omega
        case c5 => simp; omega
        intro v' w2 hown2 hgrow2 _
        have hb2 : Below w.heap.size w w2 := ((unhide HB).alloc (by omega) _).grown hgrow2 (by simp; omega) (fun k hk => ((unhide HO).lt k hk).1)
        have ho3 : Hid (w2.ownsRow w.heap.size 5 1 v' (LL ++ [s[k]]).length (bc (LL ++ [s[k]]))) := by
          show World.ownsRow _ _ _ _ _ _ _
          rw [bc_append, List.length_append, ← unhide Hn, unhide hcv]
          exact hown2
        have HB2 := hide hb2
        obtain ⟨ao', cap', rfl⟩ := own_shape' hown2
        clear hown2 hgrow2 hb2 HO HB
        go_wp2
        go_roundw
        case rel => exact ⟨k + 1, LL ++ [s[k]], by omega, by go_num, by rw [List.length_append, ← unhide Hn]; simp; omega, hU2, ho3, HB2⟩
        case measure => simp [intOf]; omega
    · have hke : k = s.size := by omega
      subst hke
      have hok : Hid (RR = (LL, 0)) := by
        show RR = _
        rw [unhide HRR]; unfold unV
        rw [unhide HU, List.drop_of_length_le (by rw [blen]; exact Nat.le_refl _), unL.eq_def]
        simp
      have hcv := run_string_own (P := Try.prog) 30 9 Try.undB (by kernel_rfl) (by kernel_rfl) (unhide HO)
      generalize hD : LL.toArray = D at *
      generalize LL.length = n at *
      have HD := hide hD
      clear hD HO
      go_wp2
      go_ret2
      exact ⟨by rw [unhide hok, ← unhide HD]; rfl, unhide HB⟩

end Go.Proofs.Ytgcfmgkhbenooaa

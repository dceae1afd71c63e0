/- Contracts of link's Escape, and of the document's. -/
import Derived.Test.YtgcfmgkhbenooaaLkA
import Derived.Test.YtgcfmgkhbenooaaTxt
namespace Go.Proofs.Ytgcfmgkhbenooaa
open Go.RowKit
set_option linter.unusedVariables false

/-- the digits -/
def hexTab : List UInt8 := [48, 49, 50, 51, 52, 53, 54, 55, 56, 57, 65, 66, 67, 68, 69, 70]
def hexD (k : Nat) : UInt8 := hexTab.getD k 0
/-- a byte escaped -/
def escB (b : UInt8) : List UInt8 := if plN b.toNat = true then [b] else [37, hexD (b.toNat / 16), hexD (b.toNat % 16)]
/-- bytes escaped -/
def escL (l : List UInt8) : List UInt8 := l.flatMap escB
theorem escL_append (l m : List UInt8) : escL (l ++ m) = escL l ++ escL m := by simp [escL]
theorem escL_one (b : UInt8) : escL [b] = escB b := by simp [escL]
theorem escB_len (b : UInt8) : 1 ≤ (escB b).length ∧ (escB b).length ≤ 3 := by unfold escB; split <;> simp
theorem escL_len (l : List UInt8) : (escL l).length ≤ 3 * l.length := by
  induction l with
  | nil => simp [escL]
  | cons b l ih =>
    have := escB_len b
    simp only [escL, List.flatMap_cons, List.length_append, List.length_cons] at *
    omega

theorem run_hexTab {P : Program} (t : TypeId) (k : IntKind) (n : Nat) (hn : n < 16) (h : P.underlying t = some .string) (w : World) :
    (Instr.index t (.string ⟨#[48, 49, 50, 51, 52, 53, 54, 55, 56, 57, 65, 66, 67, 68, 69, 70]⟩) (.int k n)).run P w = .ok (.int .u8 (hexD n).toNat) w := by
  have hs : (⟨#[48, 49, 50, 51, 52, 53, 54, 55, 56, 57, 65, 66, 67, 68, 69, 70]⟩ : ByteArray)[n]? = some (hexD n) := by
    have : ∀ m : Fin 16, (⟨#[48, 49, 50, 51, 52, 53, 54, 55, 56, 57, 65, 66, 67, 68, 69, 70]⟩ : ByteArray)[m.val]? = some (hexD m.val) := by decide +kernel
    exact this ⟨n, hn⟩
  simp [Instr.index, asIntOf, run_underlying h, hs]

theorem and15 (b : UInt8) : bits .and .u8 (b.toNat : Int) 15 = ((b.toNat % 16 : Nat) : Int) := by
  have := b.toNat_lt
  rw [u8_and15 _ (by omega) (by omega)]
  omega
theorem wrap16 (n : Nat) (h : n < 16) : IntKind.u8.wrap ((n : Nat) : Int) = ((n : Nat) : Int) := by
  have : ∀ m : Fin 16, IntKind.u8.wrap ((m.val : Nat) : Int) = ((m.val : Nat) : Int) := by decide +kernel
  exact this ⟨n, h⟩

set_option maxRecDepth 100000 in
set_option maxHeartbeats 1000000 in
theorem escape_any (s : ByteArray) (w : World) (hs : s.size ≤ 100000) :
    Calls Try.prog 12 #[.string s] w fun e w' => e = .returned (.string ⟨(escL s.data.toList).toArray⟩) ∧ Below w.heap.size w w' := by
  obtain ⟨i0, hi, hz0, hz1, hz2⟩ := info_parts Try.infoU
  have hown0 : Hid (w.ownsRow w.heap.size 5 1 (.slice none 0 0) 0 (bc [])) := World.ownsRow_nil w _ _ _
  have hs' : (s.size : Int) ≤ 100000 := by omega
  go_enter Try.func12, Try.ntmps12
  go_wp2
  go_loopw [3, 7] (fun v i wr => ∃ k : Nat, k ≤ s.size ∧ i = .int .i64 (k : Nat) ∧ Hid (wr.ownsRow w.heap.size 5 1 v (escL (s.data.toList.take k)).length (bc (escL (s.data.toList.take k)))) ∧ Hid (Below w.heap.size w wr)) (fun _ i _ => s.size - (intOf i).toNat)
  case atStart => exact ⟨0, Nat.zero_le _, rfl, hown0, Below.refl _ _⟩
  case round =>
    clear hown0
    obtain ⟨k, hk, rfl, HO, HB⟩ := hrel
    obtain ⟨ao, cap, rfl⟩ := own_shape' (unhide HO)
    have hln := escL_len (s.data.toList.take k)
    have htl : (s.data.toList.take k).length ≤ 100000 := by rw [List.length_take, blen]; omega
    have hz := (unhide HB).size
    by_cases hlt : k < s.size
    · have hbt := s[k].toNat_lt
      have i1 : ∀ w, (Instr.index 9 (.string s) (.int .i64 k)).run Try.prog w = .ok (.int .u8 s[k].toNat) w := fun w => by
        rw [run_index_string w 9 s .i64 k (by kernel_rfl)]
        simp [hlt]
      have hpl := hide (fun w => isplain_any s[k].toNat hbt w)
      have hsn : Hid (escL (s.data.toList.take (k + 1)) = escL (s.data.toList.take k) ++ escB s[k]) := by
        show _ = _
        rw [take_snoc' s k hlt, escL_append, escL_one]
      have hlk : (((k : Nat) : Int) < ((s.size : Nat) : Int)) := by omega
      generalize escL (s.data.toList.take k) = LL at *
      have hLL : LL.length ≤ 300000 := by omega
      clear hln htl
      cases hpb : plN s[k].toNat
      · rw [hpb] at hpl
        have hes : Hid (escB s[k] = [37, hexD (s[k].toNat / 16), hexD (s[k].toNat % 16)]) := by show escB _ = _; unfold escB; rw [hpb]; rfl
        clear hpb
        have i2 := run_hexTab (P := Try.prog) 9 .u8 (s[k].toNat / 16) (by omega) (by kernel_rfl)
        have i3 := run_hexTab (P := Try.prog) 9 .u8 (s[k].toNat % 16) (by omega) (by kernel_rfl)
        have hand := and15 s[k]
        have hdv : ((s[k].toNat : Int) / 16) = ((s[k].toNat / 16 : Nat) : Int) := by omega
        have hdt : ((s[k].toNat : Int).tdiv 16) = ((s[k].toNat / 16 : Nat) : Int) := rfl
        have hmt : ((s[k].toNat : Int).tmod 16) = ((s[k].toNat % 16 : Nat) : Int) := rfl
        have hw1 := wrap16 (s[k].toNat / 16) (by omega)
        have hw2 := wrap16 (s[k].toNat % 16) (by omega)
        generalize s[k].toNat / 16 = hi4 at *
        generalize s[k].toNat % 16 = lo4 at *
        generalize s[k].toNat = bv at *
        obtain ⟨n, hn⟩ : ∃ n, n = LL.length := ⟨_, rfl⟩
        rw [← hn] at hLL HO ⊢
        have Hn := hide hn
        clear hn
        go_wp2_with fail
        refine (unhide hpl _).mono ?_
        rintro e w' ⟨rfl, rfl⟩
        go_wp2
        go_region_law ((refine step_append_own rfl (.tmp 20) (.tmp 31) 30 rfl w.heap.size 5 i0 (.int .u8 0) 1 1 Try.undB hi hz0 hz1 hz2 rfl (by decide) (.slice ao n cap) n _ (by rfl) ((unhide HO).alloc _) ⟨wr.heap.size, 0, none⟩ 3 3 [.int .u8 37, .int .u8 (hexD hi4).toNat, .int .u8 (hexD lo4).toNat] (by rfl) (by rfl) (news_lit _ [_, _, _] _) (by intro u hu; simp at hu; rcases hu with rfl | rfl | rfl <;> rfl) (by unfold maxLen; omega) (by omega) (by simp; omega) ?_; intro v' w2 hown2 hgrow2))
        all_goals
          have hb2 : Below w.heap.size w w2 := (((unhide HB).alloc (by omega) _).drew).grown hgrow2 (by simp; omega) (fun k hk => ((unhide HO).lt k hk).1)
          have ho3 : Hid (w2.ownsRow w.heap.size 5 1 v' (escL (s.data.toList.take (k + 1))).length (bc (escL (s.data.toList.take (k + 1))))) := by
            show World.ownsRow _ _ _ _ _ _ _
            rw [unhide hsn, unhide hes, bc_append, List.length_append, ← unhide Hn]
            exact hown2
          have HB2 := hide hb2
          obtain ⟨ao', cap', rfl⟩ := own_shape' hown2
          clear hown2 hgrow2 hb2 HO HB
          go_wp2
          go_roundw
          case rel => exact ⟨k + 1, by omega, by go_num, ho3, HB2⟩
          case measure => simp [intOf]; omega
      · rw [hpb] at hpl
        have hes : Hid (escB s[k] = [s[k]]) := by show escB _ = _; unfold escB; rw [hpb]; rfl
        clear hpb
        have hbc : Hid (bc [s[k]] = [.int .u8 s[k].toNat]) := by show bc _ = _; simp [bc]
        generalize hbv : s[k].toNat = bv at *
        have Hbv := hide hbv
        clear hbv
        obtain ⟨n, hn⟩ : ∃ n, n = LL.length := ⟨_, rfl⟩
        rw [← hn] at hLL HO ⊢
        have Hn := hide hn
        clear hn
        go_wp2_with fail
        refine (unhide hpl _).mono ?_
        rintro e w' ⟨rfl, rfl⟩
        go_wp2_with (at_builtin; refine wpList_append_own _ rfl _ _ 30 rfl w.heap.size 5 i0 (.int .u8 0) 1 1 Try.undB hi hz0 hz1 hz2 rfl (by decide) _ _ _ rfl ((unhide HO).alloc _) ⟨wr.heap.size, 0, none⟩ 1 1 [.int .u8 bv] rfl rfl (news_lit _ [_] _) ?c2 ?c3 ?c4 ?c5 ?_)
        case c2 => intro u hu; simp at hu; subst hu; rfl
        case c3 => unfold maxLen; omega
        case c4 => omega
        case c5 => simp; omega
        intro v' w2 hown2 hgrow2 _
        have hb2 : Below w.heap.size w w2 := ((unhide HB).alloc (by omega) _).grown hgrow2 (by simp; omega) (fun k hk => ((unhide HO).lt k hk).1)
        have ho3 : Hid (w2.ownsRow w.heap.size 5 1 v' (escL (s.data.toList.take (k + 1))).length (bc (escL (s.data.toList.take (k + 1))))) := by
          show World.ownsRow _ _ _ _ _ _ _
          rw [unhide hsn, unhide hes, bc_append, List.length_append, ← unhide Hn, unhide hbc]
          exact hown2
        have HB2 := hide hb2
        obtain ⟨ao', cap', rfl⟩ := own_shape' hown2
        clear hown2 hgrow2 hb2 HO HB
        go_wp2
        go_roundw
        case rel => exact ⟨k + 1, by omega, by go_num, ho3, HB2⟩
        case measure => simp [intOf]; omega
    · have hke : k = s.size := by omega
      subst hke
      rw [List.take_of_length_le (by rw [blen]; exact Nat.le_refl _)] at HO
      have hcv := run_string_own (P := Try.prog) 30 9 Try.undB (by kernel_rfl) (by kernel_rfl) (unhide HO)
      rw [List.take_of_length_le (by rw [blen]; exact Nat.le_refl _)]
      generalize hD : (escL s.data.toList).toArray = D at *
      generalize (escL s.data.toList).length = n at *
      have HD := hide hD
      clear hD HO hln htl
      go_wp2
      go_ret
      exact ⟨by rw [unhide HD]; rfl, unhide HB⟩

set_option maxRecDepth 100000 in
set_option maxHeartbeats 1000000 in
theorem descape_any (s : ByteArray) (w : World) (hs : s.size ≤ 100000) :
    Calls Try.prog 13 #[.string s] w fun e w' => e = .returned (.string ⟨(escL s.data.toList).toArray⟩) ∧ Below w.heap.size w w' := by
  obtain ⟨i0, hi, hz0, hz1, hz2⟩ := info_parts Try.infoU
  have hown0 : Hid (w.ownsRow w.heap.size 5 1 (.slice none 0 0) 0 (bc [])) := World.ownsRow_nil w _ _ _
  have hs' : (s.size : Int) ≤ 100000 := by omega
  go_enter Try.func13, Try.ntmps13
  go_wp2
  go_loopw [3, 4] (fun v i wr => ∃ k : Nat, k ≤ s.size ∧ i = .int .i64 (k : Nat) ∧ Hid (wr.ownsRow w.heap.size 5 1 v (escL (s.data.toList.take k)).length (bc (escL (s.data.toList.take k)))) ∧ Hid (Below w.heap.size w wr)) (fun _ i _ => s.size - (intOf i).toNat)
  case atStart => exact ⟨0, Nat.zero_le _, rfl, hown0, Below.refl _ _⟩
  case round =>
    clear hown0
    obtain ⟨k, hk, rfl, HO, HB⟩ := hrel
    obtain ⟨ao, cap, rfl⟩ := own_shape' (unhide HO)
    have hln := escL_len (s.data.toList.take k)
    have htl : (s.data.toList.take k).length ≤ 100000 := by rw [List.length_take, blen]; omega
    have hz := (unhide HB).size
    by_cases hlt : k < s.size
    · have hbt := s[k].toNat_lt
      have i1 : ∀ w, (Instr.index 9 (.string s) (.int .i64 k)).run Try.prog w = .ok (.int .u8 s[k].toNat) w := fun w => by
        rw [run_index_string w 9 s .i64 k (by kernel_rfl)]
        simp [hlt]
      have hpl := hide (fun w => dplain_any s[k].toNat hbt w)
      have hsn : Hid (escL (s.data.toList.take (k + 1)) = escL (s.data.toList.take k) ++ escB s[k]) := by
        show _ = _
        rw [take_snoc' s k hlt, escL_append, escL_one]
      have hlk : (((k : Nat) : Int) < ((s.size : Nat) : Int)) := by omega
      generalize escL (s.data.toList.take k) = LL at *
      have hLL : LL.length ≤ 300000 := by omega
      clear hln htl
      cases hpb : plN s[k].toNat
      · rw [hpb] at hpl
        have hes : Hid (escB s[k] = [37, hexD (s[k].toNat / 16), hexD (s[k].toNat % 16)]) := by show escB _ = _; unfold escB; rw [hpb]; rfl
        clear hpb
        have i2 := run_hexTab (P := Try.prog) 9 .u8 (s[k].toNat / 16) (by omega) (by kernel_rfl)
        have i3 := run_hexTab (P := Try.prog) 9 .u8 (s[k].toNat % 16) (by omega) (by kernel_rfl)
        have hand := and15 s[k]
        have hdv : ((s[k].toNat : Int) / 16) = ((s[k].toNat / 16 : Nat) : Int) := by omega
        have hdt : ((s[k].toNat : Int).tdiv 16) = ((s[k].toNat / 16 : Nat) : Int) := rfl
        have hmt : ((s[k].toNat : Int).tmod 16) = ((s[k].toNat % 16 : Nat) : Int) := rfl
        have hw1 := wrap16 (s[k].toNat / 16) (by omega)
        have hw2 := wrap16 (s[k].toNat % 16) (by omega)
        generalize s[k].toNat / 16 = hi4 at *
        generalize s[k].toNat % 16 = lo4 at *
        generalize s[k].toNat = bv at *
        obtain ⟨n, hn⟩ : ∃ n, n = LL.length := ⟨_, rfl⟩
        rw [← hn] at hLL HO ⊢
        have Hn := hide hn
        clear hn
        go_wp2_with fail
        refine (unhide hpl _).mono ?_
        rintro e w' ⟨rfl, rfl⟩
        go_wp2
        go_region_law ((refine step_append_own rfl (.tmp 21) (.tmp 32) 30 rfl w.heap.size 5 i0 (.int .u8 0) 1 1 Try.undB hi hz0 hz1 hz2 rfl (by decide) (.slice ao n cap) n _ (by rfl) ((unhide HO).alloc _) ⟨wr.heap.size, 0, none⟩ 3 3 [.int .u8 37, .int .u8 (hexD hi4).toNat, .int .u8 (hexD lo4).toNat] (by rfl) (by rfl) (news_lit _ [_, _, _] _) (by intro u hu; simp at hu; rcases hu with rfl | rfl | rfl <;> rfl) (by unfold maxLen; omega) (by omega) (by simp; omega) ?_; intro v' w2 hown2 hgrow2))
        all_goals
          have hb2 : Below w.heap.size w w2 := (((unhide HB).alloc (by omega) _).drew).grown hgrow2 (by simp; omega) (fun k hk => ((unhide HO).lt k hk).1)
          have ho3 : Hid (w2.ownsRow w.heap.size 5 1 v' (escL (s.data.toList.take (k + 1))).length (bc (escL (s.data.toList.take (k + 1))))) := by
            show World.ownsRow _ _ _ _ _ _ _
            rw [unhide hsn, unhide hes, bc_append, List.length_append, ← unhide Hn]
            exact hown2
          have HB2 := hide hb2
          obtain ⟨ao', cap', rfl⟩ := own_shape' hown2
          clear hown2 hgrow2 hb2 HO HB
          go_wp2
          go_roundw
          case rel => exact ⟨k + 1, by omega, by go_num, ho3, HB2⟩
          case measure => simp [intOf]; omega
      · rw [hpb] at hpl
        have hes : Hid (escB s[k] = [s[k]]) := by show escB _ = _; unfold escB; rw [hpb]; rfl
        clear hpb
        have hbc : Hid (bc [s[k]] = [.int .u8 s[k].toNat]) := by show bc _ = _; simp [bc]
        generalize hbv : s[k].toNat = bv at *
        have Hbv := hide hbv
        clear hbv
        obtain ⟨n, hn⟩ : ∃ n, n = LL.length := ⟨_, rfl⟩
        rw [← hn] at hLL HO ⊢
        have Hn := hide hn
        clear hn
        go_wp2_with fail
        refine (unhide hpl _).mono ?_
        rintro e w' ⟨rfl, rfl⟩
        go_wp2_with (at_builtin; refine wpList_append_own _ rfl _ _ 30 rfl w.heap.size 5 i0 (.int .u8 0) 1 1 Try.undB hi hz0 hz1 hz2 rfl (by decide) _ _ _ rfl ((unhide HO).alloc _) ⟨wr.heap.size, 0, none⟩ 1 1 [.int .u8 bv] rfl rfl (news_lit _ [_] _) ?c2 ?c3 ?c4 ?c5 ?_)
        case c2 => intro u hu; simp at hu; subst hu; rfl
        case c3 => unfold maxLen; omega
        case c4 => omega
        case c5 => simp; omega
        intro v' w2 hown2 hgrow2 _
        have hb2 : Below w.heap.size w w2 := ((unhide HB).alloc (by omega) _).grown hgrow2 (by simp; omega) (fun k hk => ((unhide HO).lt k hk).1)
        have ho3 : Hid (w2.ownsRow w.heap.size 5 1 v' (escL (s.data.toList.take (k + 1))).length (bc (escL (s.data.toList.take (k + 1))))) := by
          show World.ownsRow _ _ _ _ _ _ _
          rw [unhide hsn, unhide hes, bc_append, List.length_append, ← unhide Hn, unhide hbc]
          exact hown2
        have HB2 := hide hb2
        obtain ⟨ao', cap', rfl⟩ := own_shape' hown2
        clear hown2 hgrow2 hb2 HO HB
        go_wp2
        go_roundw
        case rel => exact ⟨k + 1, by omega, by go_num, ho3, HB2⟩
        case measure => simp [intOf]; omega
    · have hke : k = s.size := by omega
      subst hke
      rw [List.take_of_length_le (by rw [blen]; exact Nat.le_refl _)] at HO
      have hcv := run_string_own (P := Try.prog) 30 9 Try.undB (by kernel_rfl) (by kernel_rfl) (unhide HO)
      rw [List.take_of_length_le (by rw [blen]; exact Nat.le_refl _)]
      generalize hD : (escL s.data.toList).toArray = D at *
      generalize (escL s.data.toList).length = n at *
      have HD := hide hD
      clear hD HO hln htl
      go_wp2
      go_ret
      exact ⟨by rw [unhide HD]; rfl, unhide HB⟩

end Go.Proofs.Ytgcfmgkhbenooaa

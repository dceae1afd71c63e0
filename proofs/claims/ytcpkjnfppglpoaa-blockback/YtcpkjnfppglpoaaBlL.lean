/- The law's awake; BlockCuts and BlockSums, walked. -/
import Derived.Test.YtcpkjnfppglpoaaBlC
import Derived.Test.YtcpkjnfppglpoaaBlE
namespace Go.Proofs.Ytcpkjnfppglpoaa
open Go.RowKit
set_option linter.unusedVariables false

theorem lit3 (w : World) (a b c : Value) (t : TypeId) : (w.alloc (.cells #[a, b, c] t)).cell? ⟨w.heap.size, 0, none⟩ = some a ∧ (w.alloc (.cells #[a, b, c] t)).cell? ⟨w.heap.size, 1, none⟩ = some b ∧ (w.alloc (.cells #[a, b, c] t)).cell? ⟨w.heap.size, 2, none⟩ = some c := by
  have hb := heap_alloc_new w (.cells #[a, b, c] t)
  refine ⟨?_, ?_, ?_⟩
  · rw [cell_of_row _ _ 0 _ t (0, 0) hb]; rfl
  · rw [cell_of_row _ _ 1 _ t (0, 0) hb]; rfl
  · rw [cell_of_row _ _ 2 _ t (0, 0) hb]; rfl
theorem txts_lit3 (w : World) (a b c : By) (t : TypeId) : Txts (w.alloc (.cells #[.string (bs a), .string (bs b), .string (bs c)] t)) (some ⟨w.heap.size, 0, none⟩) [a, b, c] := by
  obtain ⟨h1, h2, h3⟩ := lit3 w (.string (bs a)) (.string (bs b)) (.string (bs c)) t
  intro i hi
  match i, hi with
  | 0, _ => exact ⟨_, _, rfl, h1⟩
  | 1, _ => exact ⟨_, _, rfl, h2⟩
  | 2, _ => exact ⟨_, _, rfl, h3⟩
set_option maxHeartbeats 1000000 in
theorem bawake_any (w : World) : Calls Try.prog 8 #[] w fun e w' => e = .returned (.bool true) ∧ Below w.heap.size w w' := by
  have hc := hide (fun w => cut_any [104, 101, 108, 108, 111] 2 w (by decide))
  have hx := hide (fun w => xor_any [15] [60] w (by decide) (by decide))
  have e1 : cutE [104, 101, 108, 108, 111] 2 = 0 := by decide
  have e2 : cutR [104, 101, 108, 108, 111] 2 = [[104, 101], [108, 108], [111, 0]] := by decide
  have e3 : xorR [15] [60] = [51] := by decide
  have e4 : xorE [15] [60] = 0 := by decide
  rw [e1, e2] at hc
  rw [e3, e4, show bs [51] = ⟨#[51]⟩ from rfl] at hx
  have hs := hide (fun (w : World) a0 b0 c d hA hB => msame_any w [[104, 101], [108, 108], [111, 0]] a0 b0 c d (by decide) hA hB)
  clear e1 e2 e3 e4
  go_enter Try.func8, Try.ntmps8
  go_wp2_with fail
  refine (unhide hc _).mono ?_
  rintro e w1 ⟨v, rfl, ho, b1⟩
  obtain ⟨a0, c, rfl, hT, hc1, hc2⟩ := ho.txts
  have HT := hide hT
  have HB := hide b1
  clear ho hT b1
  go_wp2_with fail
  refine (unhide hx _).mono ?_
  rintro e w2 ⟨rfl, b2⟩
  have HT2 := hide ((unhide HT).below b2)
  have HB2 := hide ((unhide HB).trans (b2.mono (unhide HB).size))
  clear b2 HT HB
  go_wp2_with fail
  have ba : Below w2.heap.size w2 (w2.alloc (.cells #[.string ⟨#[104, 101]⟩, .string ⟨#[108, 108]⟩, .string ⟨#[111, 0]⟩] 9)) := (Below.refl _ _).alloc (Nat.le_refl _) _
  refine (unhide hs (w2.alloc (.cells #[.string ⟨#[104, 101]⟩, .string ⟨#[108, 108]⟩, .string ⟨#[111, 0]⟩] 9)) a0 (some ⟨w2.heap.size, 0, none⟩) c 3 ((unhide HT2).below ba) (txts_lit3 w2 [104, 101] [108, 108] [111, 0] 9)).mono ?_
  rintro e w3 ⟨rfl, b3⟩
  have HB3 := hide ((unhide HB2).trans ((ba.trans (b3.mono ba.size)).mono (unhide HB2).size))
  clear ba b3 HT2 HB2
  go_wp2
  go_ret
  exact ⟨rfl, unhide HB3⟩

set_option maxRecDepth 100000 in
set_option maxHeartbeats 1000000 in
theorem blockCuts_any (f : ByteArray) (size long : Int) (w : World) (hf : f.size ≤ maxLen) :
    Calls Try.prog 3 #[.string f, .int .i64 size, .int .i64 long] w fun e w' => e = .returned (.bool true) ∧ Below w.heap.size w w' := by
  have haw := hide bawake_any
  by_cases h : f.size ≤ 6000
  · rw [← bs_of f]
    have hl : f.size = f.data.toList.length := by simp
    rw [hl] at h
    have hl2 := bs_size f.data.toList
    clear hl hf
    generalize f.data.toList = F at *
    have hc := hide (fun w => cut_any F size w h)
    have hr := hide (fun w => rcut_any F size w h)
    have hn := hide (count_any long size)
    have hn2 := hide (rcount_any long size)
    have hs := hide (fun (w : World) a0 b0 c d hk hA hB => msame_any w (cutR F size) a0 b0 c d hk hA hB)
    have hlen : (cutR F size).length ≤ 100000 := by
      unfold cutR
      split
      · rw [cutL_length]; have := countN_le F.length size; omega
      · simp
    generalize cutE F size = E at *
    generalize cutR F size = R at *
    have hN := countN_le long size
    generalize countN long size = N at *
    have hxE : (E == E) = true := by simp
    have q0 : ¬ (6000 : Int) < F.length := by omega
    generalize bs F = B at *
    generalize F.length = n at *
    go_enter Try.func3, Try.ntmps3
    go_wp2_with fail
    refine (unhide hc _).mono ?_
    rintro e w1 ⟨v, rfl, ho1, b1⟩
    obtain ⟨a0, c, rfl, hT1, hc1, hc2⟩ := ho1.txts
    have HT1 := hide hT1
    have HB1 := hide b1
    clear ho1 hT1 b1
    go_wp2_with fail
    refine (unhide hr _).mono ?_
    rintro e w2 ⟨v, rfl, ho2, b2⟩
    obtain ⟨a1, d, rfl, hT2, hd1, hd2⟩ := ho2.txts
    have HT2 := hide hT2
    have HT1b := hide ((unhide HT1).below b2)
    have HB2 := hide ((unhide HB1).trans (b2.mono (unhide HB1).size))
    clear ho2 hT2 b2 HT1 HB1
    go_wp2_with fail
    refine (unhide haw _).mono ?_
    rintro e w3 ⟨rfl, b3⟩
    have HT3 := hide ((unhide HT1b).below b3)
    have HT4 := hide ((unhide HT2).below b3)
    have HB3 := hide ((unhide HB2).trans (b3.mono (unhide HB2).size))
    clear b3 HT1b HT2 HB2
    go_wp2_with fail
    refine (unhide hs _ a0 a1 c d hlen (unhide HT3) (unhide HT4)).mono ?_
    rintro e w4 ⟨rfl, b4⟩
    have HB4 := hide ((unhide HB3).trans (b4.mono (unhide HB3).size))
    clear b4 HT3 HT4 HB3
    go_wp2_with (first | (go_at_call 12; refine (unhide hn _).mono ?_; rintro e w5 ⟨rfl, rfl⟩) | (go_at_call 13; refine (unhide hn2 _).mono ?_; rintro e w5 ⟨rfl, rfl⟩))
    go_ret
    exact ⟨rfl, unhide HB4⟩
  · have q0 : (6000 : Int) < f.size := by omega
    unfold maxLen at hf
    go_enter Try.func3, Try.ntmps3
    go_wp2_with fail
    refine (unhide haw _).mono ?_
    rintro e w1 ⟨rfl, b1⟩
    go_wp2
    go_ret
    exact ⟨rfl, b1⟩

set_option maxRecDepth 100000 in
set_option maxHeartbeats 2000000 in
theorem blockSums_any (a0 : Option Addr) (ss : List By) (c : Nat) (size : Int) (w : World) (hT : Txts w a0 ss) (hm : TxtsOk ss c) :
    Calls Try.prog 5 #[.slice a0 ss.length c, .int .i64 size] w fun e w' => e = .returned (.bool true) ∧ Below w.heap.size w w' := by
  obtain ⟨m1, m2, m3⟩ := hm
  have haw := hide bawake_any
  have hfew := hide (few_any ss a0 c w hT (by omega) m3)
  cases hF : fewB ss with
  | false =>
    rw [hF] at hfew
    clear hT m3 hF
    generalize ss.length = n at *
    go_enter Try.func5, Try.ntmps5
    go_wp2_with fail
    refine (unhide hfew).mono ?_
    rintro e w1 ⟨rfl, rfl⟩
    go_wp2_with fail
    refine (unhide haw _).mono ?_
    rintro e w1 ⟨rfl, b1⟩
    go_wp2
    go_ret
    exact ⟨rfl, b1⟩
  | true =>
    rw [hF] at hfew
    obtain ⟨f1, f2⟩ := of_decide_eq_true hF
    have hsum := hide (fun w' (hb : Below w.heap.size w w') => sum_any ss a0 c size w' (hT.below hb) (by omega) (fun s hs => Nat.le_trans (f2 s hs) (by omega)))
    have hrsum := hide (fun w' (hb : Below w.heap.size w w') => rsum_any ss a0 c size w' (hT.below hb) (by omega) (fun s hs => Nat.le_trans (f2 s hs) (by omega)))
    have hz := hide (zero_any size)
    have hrz := hide (rzero_any size)
    have hmay := hide (rmay_any size)
    generalize bs (zeroL size) = Z at *
    generalize bs (sumR ss size) = R at *
    generalize sumE ss size = E at *
    have HT := hide hT
    have F2 := hide f2
    clear hT m3 hF f2
    generalize hn : ss.length = n at *
    have HN := hide hn
    clear hn
    unfold maxLen at m2
    go_enter Try.func5, Try.ntmps5
    go_wp2_with fail
    refine (unhide hfew).mono ?_
    rintro e w1 ⟨rfl, rfl⟩
    go_wp2_with fail
    go_loopw [5] (fun i wr => ∃ k : Nat, k ≤ n ∧ i = .int .i64 k ∧ Below w.heap.size w wr) (fun i _ => n - (intOf i).toNat)
    case atStart => exact ⟨0, Nat.zero_le _, rfl, Below.refl _ _⟩
    case round =>
      obtain ⟨k, hk, rfl, hb⟩ := hrel
      by_cases hlt : k + 1 < n
      · have hl1 : k < ss.length := by rw [unhide HN]; omega
        have hl2 : k + 1 < ss.length := by rw [unhide HN]; omega
        obtain ⟨g, o, rfl, y0⟩ := unhide HT k hl1
        obtain ⟨g', o', ha, y1⟩ := unhide HT (k + 1) hl2
        simp only [Option.some.injEq, Addr.mk.injEq] at ha
        obtain ⟨rfl, rfl, _⟩ := ha
        have z0 := cell_below y0 hb
        have z1 := cell_below y1 hb
        have s0 := unhide F2 ss[k] (List.getElem_mem hl1)
        have s1 := unhide F2 ss[k + 1] (List.getElem_mem hl2)
        have k1 := hide (fun w => xor_any ss[k] ss[k + 1] w (by omega) (by omega))
        have k2 := hide (fun w => rxor_any ss[k] ss[k + 1] w (by omega) (by omega))
        have k3 := hide (fun w => is_any ss[k] size w (by omega))
        have z3 := bs_size ss[k]
        generalize bs (xorR ss[k] ss[k + 1]) = X at *
        generalize xorE ss[k] ss[k + 1] = XE at *
        generalize ss[k].length = L at *
        generalize bs ss[k] = S1 at *
        generalize bs ss[k + 1] = S2 at *
        clear s1 y0 y1 hl1 hl2
        have q0 : (k : Int) < n := by omega
        have q1 : (k : Int) + 1 < n := by omega
        have HB := hide hb
        clear hb
        go_wp2_with fail
        have hc0 : ∀ x : Gb wr, x.w.cell? ⟨g, o + k, none⟩ = some (.string S1) := fun x => gb_cell z0 x
        have hc1 : ∀ x : Gb wr, x.w.cell? ⟨g, o + (k + 1), none⟩ = some (.string S2) := fun x => gb_cell z1 x
        have hne := gb_ne wr
        refine wp_region_gr (fun x => Below wr.heap.size wr x) (by kernel_rfl) (by kernel_rfl) (gb_start wr) ?_
        repeat (go_big_quiet_step ((go_at_call 17; exact gb_call (unhide k1 _))))
        refine wpQuiet_nil ?_
        rintro w7 ⟨⟨_, b7⟩, rfl⟩
        have B7 := hide ((unhide HB).trans (b7.mono (unhide HB).size))
        have z0' := cell_below z0 b7
        have z1' := cell_below z1 b7
        clear b7 hc0 hc1 hne z0 z1 k1 HB
        go_wp2_with fail
        have hc0 : ∀ x : Gb w7, x.w.cell? ⟨g, o + k, none⟩ = some (.string S1) := fun x => gb_cell z0' x
        have hc1 : ∀ x : Gb w7, x.w.cell? ⟨g, o + (k + 1), none⟩ = some (.string S2) := fun x => gb_cell z1' x
        have hne := gb_ne w7
        refine wp_region_gr (fun x => Below w7.heap.size w7 x) (by kernel_rfl) (by kernel_rfl) (gb_start w7) ?_
        repeat (go_big_quiet_step ((go_at_call 18; exact gb_call (unhide k2 _))))
        refine wpQuiet_nil ?_
        rintro w8 ⟨⟨_, b8⟩, rfl⟩
        have B8 := hide ((unhide B7).trans (b8.mono (unhide B7).size))
        have z0'' := cell_below z0' b8
        clear b8 hc0 hc1 hne z0' z1' k2 B7
        have hxe : (XE == XE) = true := by simp
        cases hM : may size with
        | false =>
          rw [hM] at hmay k3
          clear hM
          go_wp2_with (first | (go_at_call 19; refine (unhide k3 _).mono ?_; rintro e w9 ⟨rfl, rfl⟩) | (go_at_call 20; refine (unhide hmay _).mono ?_; rintro e w9 ⟨rfl, rfl⟩))
          go_roundw
          case rel => exact ⟨k + 1, by omega, by go_num, unhide B8⟩
          case measure => simp [intOf]; omega
        | true =>
          rw [hM] at hmay k3
          clear hM
          by_cases hLs : (L : Int) = size
          · rw [decide_eq_true hLs] at k3
            have hq : ((L : Int) == size) = true := by simp [hLs]
            clear hLs
            go_wp2_with (first | (go_at_call 19; refine (unhide k3 _).mono ?_; rintro e w9 ⟨rfl, rfl⟩) | (go_at_call 20; refine (unhide hmay _).mono ?_; rintro e w9 ⟨rfl, rfl⟩))
            go_roundw
            case rel => exact ⟨k + 1, by omega, by go_num, unhide B8⟩
            case measure => simp [intOf]; omega
          · rw [decide_eq_false hLs] at k3
            have hq : ((L : Int) == size) = false := by simp [hLs]
            clear hLs
            go_wp2_with (first | (go_at_call 19; refine (unhide k3 _).mono ?_; rintro e w9 ⟨rfl, rfl⟩) | (go_at_call 20; refine (unhide hmay _).mono ?_; rintro e w9 ⟨rfl, rfl⟩))
            go_roundw
            case rel => exact ⟨k + 1, by omega, by go_num, unhide B8⟩
            case measure => simp [intOf]; omega
      · have q1 : ¬ (k : Int) + 1 < n := by omega
        have HB := hide hb
        have hxe : (E == E) = true := by simp
        clear hb
        go_wp2_with fail
        refine (unhide hsum _ (unhide HB)).mono ?_
        rintro e w5 ⟨rfl, b5⟩
        have B5 := hide ((unhide HB).trans (b5.mono (unhide HB).size))
        clear b5 HB
        go_wp2_with fail
        refine (unhide hrsum _ (unhide B5)).mono ?_
        rintro e w6 ⟨rfl, b6⟩
        have B6 := hide ((unhide B5).trans (b6.mono (unhide B5).size))
        clear b6 B5
        go_wp2_with fail
        refine (unhide haw _).mono ?_
        rintro e w7 ⟨rfl, b7⟩
        have B7 := hide ((unhide B6).trans (b7.mono (unhide B6).size))
        clear b7 B6
        go_wp2_with fail
        refine (unhide hz _).mono ?_
        rintro e w8 ⟨rfl, b8⟩
        have B8 := hide ((unhide B7).trans (b8.mono (unhide B7).size))
        clear b8 B7
        go_wp2_with fail
        refine (unhide hrz _).mono ?_
        rintro e w9 ⟨rfl, b9⟩
        have B9 := hide ((unhide B8).trans (b9.mono (unhide B8).size))
        clear b9 B8
        go_wp2
        go_ret
        exact ⟨rfl, unhide B9⟩

end Go.Proofs.Ytcpkjnfppglpoaa

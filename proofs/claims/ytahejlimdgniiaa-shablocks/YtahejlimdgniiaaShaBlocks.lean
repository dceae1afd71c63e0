/- What the law ShaBlocks does, whatever the world: it answers true and changes nothing that was there. -/
import Derived.Test.YtahejlimdgniiaaShaAwake
import Derived.Test.YtahejlimdgniiaaShaMx
import Derived.Test.YtahejlimdgniiaaRegB
import Derived.Laws.OwnMore
namespace Go.Proofs.Ytahejlimdgniiaa
open Go.RowKit
set_option linter.unusedVariables false

theorem bext (s : ByteArray) (a b : Nat) : (s.extract a b).data.toList = (s.data.toList.drop a).take (b - a) := by
  rw [ByteArray.data_extract, Array.toList_extract, List.extract_eq_take_drop]
theorem bapp (s t : ByteArray) : (s ++ t).data.toList = s.data.toList ++ t.data.toList := by simp

theorem digAt_0 (S : List UInt32) (k : Nat) : digAt S (4 * k) = byteOf (n32 (S.getD k 0) / 16777216 % 256) := by
  unfold digAt
  rw [show 4 * k / 4 = k by omega, show 4 * k % 4 = 0 by omega]
  rfl
theorem digAt_1 (S : List UInt32) (k : Nat) : digAt S (4 * k + 1) = byteOf (n32 (S.getD k 0) / 65536 % 256) := by
  unfold digAt
  rw [show (4 * k + 1) / 4 = k by omega, show (4 * k + 1) % 4 = 1 by omega]
  rfl
theorem digAt_2 (S : List UInt32) (k : Nat) : digAt S (4 * k + 2) = byteOf (n32 (S.getD k 0) / 256 % 256) := by
  unfold digAt
  rw [show (4 * k + 2) / 4 = k by omega, show (4 * k + 2) % 4 = 2 by omega]
  rfl
theorem digAt_3 (S : List UInt32) (k : Nat) : digAt S (4 * k + 3) = byteOf (n32 (S.getD k 0) % 256) := by
  unfold digAt
  rw [show (4 * k + 3) / 4 = k by omega, show (4 * k + 3) % 4 = 3 by omega]
  show byteOf (n32 (S.getD k 0) / 1 % 256) = _
  rw [Int.ediv_one]
/-- the four bytes of a word -/
def four (v : Int) : List UInt8 := [byteOf (v / 16777216 % 256), byteOf (v / 65536 % 256), byteOf (v / 256 % 256), byteOf (v % 256)]
theorem bc_four (v : Int) : bc (four v) = [.int .u8 (v / 16777216 % 256), .int .u8 (v / 65536 % 256), .int .u8 (v / 256 % 256), .int .u8 (v % 256)] := by
  simp [bc, four, byteOf_toNat (v / 16777216 % 256) (by omega) (by omega), byteOf_toNat (v / 65536 % 256) (by omega) (by omega), byteOf_toNat (v / 256 % 256) (by omega) (by omega), byteOf_toNat (v % 256) (by omega) (by omega)]
theorem dig_take (S : List UInt32) (k : Nat) (h : k < 8) : (dig S).take (4 * (k + 1)) = (dig S).take (4 * k) ++ four (n32 (S.getD k 0)) := by
  have hl := dig_length S
  have g : ∀ j, (h : j < 32) → (dig S)[j]'(by rw [hl]; exact h) = digAt S j := by intro j hj; simp [dig]
  rw [show 4 * (k + 1) = 4 * k + 1 + 1 + 1 + 1 by omega, List.take_succ_eq_append_getElem (by omega), List.take_succ_eq_append_getElem (by omega), List.take_succ_eq_append_getElem (by omega), List.take_succ_eq_append_getElem (by omega)]
  rw [g _ (by omega), g _ (by omega), g _ (by omega), g _ (by omega)]
  rw [show 4 * k + 1 + 1 = 4 * k + 2 by omega, show 4 * k + 2 + 1 = 4 * k + 3 by omega, digAt_0, digAt_1, digAt_2, digAt_3]
  simp [four]

set_option maxHeartbeats 2000000 in
theorem shaBlocks_any (s : ByteArray) (w : World) (hs : s.size ≤ maxLen) :
    Calls Try.prog 7 #[.string s] w fun e w' => e = .returned (.bool true) ∧ Below w.heap.size w w' := by
  by_cases hl : (2000 : Int) < s.size
  · unfold maxLen at hs
    go_enter Try.func7, Try.ntmps7
    go_wp2_with fail
    refine (awake_any w).mono ?_
    rintro e w1 ⟨rfl, b1⟩
    go_wp2
    go_ret
    exact ⟨rfl, b1⟩
  · have hl2 : s.size ≤ 2000 := by omega
    clear hs
    have hp := hide (fun w => pad_any s.size w (by omega))
    obtain ⟨D, hD⟩ : ∃ D : ByteArray, D = ⟨(padL s.size).toArray⟩ := ⟨_, rfl⟩
    have hDl : D.data.toList = padL s.size := by rw [hD]
    have hDs : D.size = zerosOf s.size + 9 := by rw [← blen, hDl, padL_length]
    have hz := zerosOf_lt s.size
    rw [← hD] at hp
    obtain ⟨t, ht⟩ : ∃ t : ByteArray, t = s ++ D := ⟨_, rfl⟩
    have htl : t.data.toList = s.data.toList ++ padL s.data.toList.length := by rw [ht, bapp, hDl, blen]
    have hts : t.size = s.size + D.size := by rw [ht]; exact ByteArray.size_append
    have htm : t.size % 64 = 0 := by
      have := pad_whole s.size
      rw [padL_length] at this
      rw [hts, hDs]
      exact this
    have htb : t.size ≤ 2100 := by omega
    have hsum : shaSum s.data.toList = dig (mixN t.data.toList (t.size / 64)).list := by unfold shaSum; rw [← htl, blen]
    have HSU := hide hsum
    have hm0 : (t.size : Int) % 64 = 0 := by omega
    have hm1 : (t.size : Int) ≤ 2100 := by omega
    clear hD hDl htl hsum
    have HT := hide ht
    have hDb : D.size ≤ 72 := by omega
    go_enter Try.func7, Try.ntmps7
    go_wp2_with fail
    refine (unhide hp w).mono ?_
    rintro e w1 ⟨rfl, b1⟩
    clear ht hts hDs hz
    go_wp2_with fail
    rw [← unhide HT]
    clear HT hDb
    refine (awake_any w1).mono ?_
    rintro e w2 ⟨rfl, b2⟩
    have B2 := hide (b1.trans (b2.mono b1.size))
    clear b1 b2 hp
    obtain ⟨U, hU⟩ : ∃ U : Array Value, U = (uc H0).toArray := ⟨_, rfl⟩
    have hst := hide (start_any w2)
    rw [← hU] at hst
    have hUs : U.size = 8 := by rw [hU]; rfl
    have hU1 : U.all (·.oneCell') = true := by rw [hU]; exact all_oneCell_toArray (uc_oneCell _)
    have HU := hide hU
    clear hU
    go_wp2_with fail
    refine (unhide hst).mono ?_
    rintro e w3 ⟨rfl, b3⟩
    have B3 := hide ((unhide B2).trans (b3.mono (unhide B2).size))
    clear b3 B2 hst
    have hzv : ∀ w, (zeroValue 26).run Try.prog w = .ok (.agg (uc (List.replicate 8 0)).toArray) w := fun w => by kernel_rfl
    go_wp2_with (refine wpList_store_abs rfl 26 (.tmp 4) (.tmp 28) rfl w3.heap.size 0 U rfl rfl ?ht3 ?hi3 hU1 ?_)
    case ht3 => rw [hUs]; exact there_of_block (heap_alloc_new _ _)
    case hi3 => rw [hUs]; kernel_rfl
    intro w4 hw4
    have W4 : Hid (WordsAt w4 w3.heap.size 26 H0) := by
      show WordsAt _ _ _ _
      rw [unhide hw4, unhide HU]
      have h0 : WordsAt (w3.alloc (.cells (uc (List.replicate 8 0)).toArray 26)) w3.heap.size 26 (List.replicate 8 0) := heap_alloc_new _ _
      exact h0.stored rfl
    have B4 : Hid (Below w.heap.size w w4) := by
      show Below _ _ _
      rw [unhide hw4]
      exact below_setCells (unhide B3).size _ _ _ ((unhide B3).alloc (unhide B3).size _)
    have G4 := hide (unhide B3).size
    clear hw4 hzv HU hUs hU1 B3
    generalize w3.heap.size = g at *
    obtain ⟨n, hn⟩ : ∃ n, n = t.size / 64 := ⟨_, rfl⟩
    rw [← hn] at HSU
    have HN := hide (show t.size = 64 * n by omega)
    have hn2 : n ≤ 33 := by omega
    clear hn htm
    go_wp2
    go_loopw [5] (fun i wr => ∃ k q : Nat, k ≤ n ∧ q = 64 * k ∧ i = .int .i64 q ∧ WordsAt wr g 26 (mixN t.data.toList k).list ∧ Below w.heap.size w wr) (fun i _ => t.size + 1 - (intOf i).toNat)
    case atStart => exact ⟨0, 0, Nat.zero_le _, rfl, rfl, unhide W4, unhide B4⟩
    case round =>
      clear W4 B4
      obtain ⟨k, q, hk, hq, rfl, hw, hb⟩ := hrel
      have HQ := hide hq
      have hqb : q ≤ 2112 := by omega
      have HW := hide hw
      have HB := hide hb
      clear hq hw hb
      by_cases hlt : k < n
      · have q1 : (q : Int) + 64 ≤ t.size := by have := unhide HN; have := unhide HQ; omega
        have hbs : (t.extract q (q + 64)).size = 64 := by rw [ByteArray.size_extract]; omega
        have hmx := hide (fun w => mix_any (mixN t.data.toList k) (t.extract q (q + 64)) w hbs)
        have hms : Hid (mix (mixN t.data.toList k) (t.extract q (q + 64)).data.toList = mixN t.data.toList (k + 1)) := by
          show _ = _
          rw [bext, show q + 64 - q = 64 by omega, unhide HQ]
          rfl
        rw [unhide hms] at hmx
        have hq64 : Hid (q + 64 = 64 * (k + 1)) := by show _ = _; rw [unhide HQ]; omega
        obtain ⟨S2, hS2⟩ : ∃ S2, S2 = mixN t.data.toList (k + 1) := ⟨_, rfl⟩
        rw [← hS2] at hmx
        have HS2 := hide hS2
        clear hms hbs hS2
        generalize mixN t.data.toList k = S1 at *
        have HG4 := unhide HW
        have hgl := HG4.lt
        go_wp2
        generalize hA : Act.mk _ _ = A
        have hA3 : A.eval (.tmp 3) = .string t := by rw [← hA]; rfl
        have hA4 : A.eval (.tmp 4) = .pointer (some ⟨g, 0, none⟩) := by rw [← hA]; rfl
        have hA5 : A.eval (.tmp 5) = .int .i64 q := by rw [← hA]; rfl
        have hAs : A.tmps.size = 75 := by rw [← hA]; rfl
        obtain ⟨V, hVe⟩ : ∃ V : List (Nat × Nat × Value), V = [(0, 37, .agg (uc S1.list).toArray), (1, 38, .string t), (2, 39, .int .i64 q), (3, 40, .int .i64 q), (4, 41, .int .i64 ((q : Int) + 64)), (5, 42, .string (t.extract q (q + 64))), (6, 43, .tuple #[.agg (uc S2.list).toArray, .int .i64 0]), (7, 36, .tuple #[.agg (uc S2.list).toArray, .int .i64 0]), (8, 44, .agg (uc S2.list).toArray), (9, 45, .int .i64 0), (12, 7, .int .i64 0)] := ⟨_, rfl⟩
        refine wp_region_invB0 (by kernel_rfl) (by kernel_rfl) (by kernel_rfl) (fun f a wx => Off [6, 7, 36, 37, 38, 39, 40, 41, 42, 43, 44, 45] A a ∧ ValsOk V f a ∧ Below wr.heap.size wr wx ∧ (f 11 = true → f 10 = true) ∧ ∃ gx, (f 10 = true → a.eval (.tmp 6) = .pointer (some ⟨gx, 0, none⟩) ∧ wr.heap.size ≤ gx ∧ WordsAt wx gx 26 (if f 11 then S2.list else List.replicate 8 0))) ?start ?step ?fin
        case start => exact ⟨Off.refl _ _, vals_start _ _, ⟨rfl, rfl, rfl, Nat.le_refl _, fun _ _ => rfl⟩, by simp, 0, by simp⟩
        case step =>
          rintro f a wx i o ⟨hoff, hV, hbl, hs, gx, h6⟩ ho hfi hdep
          have has : a.tmps.size = 75 := hoff.size.trans hAs
          have hv := fun (i d : Nat) (v : Value) (hm : (i, d, v) ∈ V) (hf : f i = true) => hV (i, d, v) hm hf
          rcases i with _ | _ | _ | _ | _ | _ | _ | _ | _ | _ | _ | _ | _ | i
          · obtain rfl := Option.some.inj ho
            refine wp_load_row 26 (.tmp 4) rfl g ((hoff.eval 4 (by simp)).trans hA4) 26 (uc S1.list).toArray (0, 0) _ ((hbl.block _ hgl).trans HG4) Try.underlying26 rfl (by rw [List.size_toArray, uc_length, S8.len]; kernel_rfl) ?_
            exact ⟨hoff.put 37 _ (by simp), vals_put hV 0 37 _ (by omega) (by rw [hVe]; simp) (by rw [hVe]; simp), hbl, hs, gx, fun h => ⟨(eval_put_ne a 37 6 _ (by decide)).trans (h6 h).1, (h6 h).2⟩⟩
          · obtain rfl := Option.some.inj ho
            refine wp_move (.tmp 3) rfl ?_
            rw [hoff.eval 3 (by simp), hA3]
            exact ⟨hoff.put 38 _ (by simp), vals_put hV 1 38 _ (by omega) (by rw [hVe]; simp) (by rw [hVe]; simp), hbl, hs, gx, fun h => ⟨(eval_put_ne a 38 6 _ (by decide)).trans (h6 h).1, (h6 h).2⟩⟩
          · obtain rfl := Option.some.inj ho
            refine wp_move (.tmp 5) rfl ?_
            rw [hoff.eval 5 (by simp), hA5]
            exact ⟨hoff.put 39 _ (by simp), vals_put hV 2 39 _ (by omega) (by rw [hVe]; simp) (by rw [hVe]; simp), hbl, hs, gx, fun h => ⟨(eval_put_ne a 39 6 _ (by decide)).trans (h6 h).1, (h6 h).2⟩⟩
          · obtain rfl := Option.some.inj ho
            refine wp_move (.tmp 5) rfl ?_
            rw [hoff.eval 5 (by simp), hA5]
            exact ⟨hoff.put 40 _ (by simp), vals_put hV 3 40 _ (by omega) (by rw [hVe]; simp) (by rw [hVe]; simp), hbl, hs, gx, fun h => ⟨(eval_put_ne a 40 6 _ (by decide)).trans (h6 h).1, (h6 h).2⟩⟩
          · obtain rfl := Option.some.inj ho
            have d3 : f 3 = true := hdep ⟨3, .data⟩ (by simp) rfl
            refine wp_add64 3 3 (.tmp 40) (.const (.int .i64 64)) rfl Try.underlying3 q 64 (hv 3 40 (.int .i64 q) (by rw [hVe]; simp) d3) rfl (by omega) (by omega) ?_
            exact ⟨hoff.put 41 _ (by simp), vals_put hV 4 41 _ (by omega) (by rw [hVe]; simp) (by rw [hVe]; simp), hbl, hs, gx, fun h => ⟨(eval_put_ne a 41 6 _ (by decide)).trans (h6 h).1, (h6 h).2⟩⟩
          · obtain rfl := Option.some.inj ho
            have d1 : f 1 = true := hdep ⟨1, .data⟩ (by simp) rfl
            have d2 : f 2 = true := hdep ⟨2, .data⟩ (by simp) rfl
            have d4 : f 4 = true := hdep ⟨4, .data⟩ (by simp) rfl
            refine wp_slice_str 9 (.tmp 38) (.tmp 39) (.tmp 41) rfl t q (q + 64) ((q : Int) + 64) rfl (hv 1 38 (.string t) (by rw [hVe]; simp) d1) (hv 2 39 (.int .i64 q) (by rw [hVe]; simp) d2) (hv 4 41 (.int .i64 ((q : Int) + 64)) (by rw [hVe]; simp) d4) Try.underlying9 (by omega) (by omega) ?_
            exact ⟨hoff.put 42 _ (by simp), vals_put hV 5 42 _ (by omega) (by rw [hVe]; simp) (by rw [hVe]; simp), hbl, hs, gx, fun h => ⟨(eval_put_ne a 42 6 _ (by decide)).trans (h6 h).1, (h6 h).2⟩⟩
          · obtain rfl := Option.some.inj ho
            have d0 : f 0 = true := hdep ⟨0, .data⟩ (by simp) rfl
            have d5 : f 5 = true := hdep ⟨5, .data⟩ (by simp) rfl
            refine wp_call 12 #[.tmp 37, .tmp 42] #[26, 9] rfl Try.call12 #[.agg (uc S1.list).toArray, .string (t.extract q (q + 64))] (by simp [hv 0 37 (.agg (uc S1.list).toArray) (by rw [hVe]; simp) d0, hv 5 42 (.string (t.extract q (q + 64))) (by rw [hVe]; simp) d5]) (unhide hmx wx) ?_
            rintro e w3 ⟨rfl, hb3⟩
            exact ⟨_, rfl, hoff.put 43 _ (by simp), vals_put hV 6 43 _ (by omega) (by rw [hVe]; simp) (by rw [hVe]; simp), hbl.trans (hb3.mono hbl.size), hs, gx, fun h => ⟨(eval_put_ne a 43 6 _ (by decide)).trans (h6 h).1, (h6 h).2.1, (h6 h).2.2.below hb3⟩⟩
          · obtain rfl := Option.some.inj ho
            have d6 : f 6 = true := hdep ⟨6, .data⟩ (by simp) rfl
            refine wp_move (.tmp 43) rfl ?_
            rw [hv 6 43 (.tuple #[.agg (uc S2.list).toArray, .int .i64 0]) (by rw [hVe]; simp) d6]
            exact ⟨hoff.put 36 _ (by simp), vals_put hV 7 36 _ (by omega) (by rw [hVe]; simp) (by rw [hVe]; simp), hbl, hs, gx, fun h => ⟨(eval_put_ne a 36 6 _ (by decide)).trans (h6 h).1, (h6 h).2⟩⟩
          · obtain rfl := Option.some.inj ho
            have d7 : f 7 = true := hdep ⟨7, .data⟩ (by simp) rfl
            refine wp_extract (.tmp 36) 0 rfl _ _ (hv 7 36 (.tuple #[.agg (uc S2.list).toArray, .int .i64 0]) (by rw [hVe]; simp) d7) rfl ?_
            exact ⟨hoff.put 44 _ (by simp), vals_put hV 8 44 _ (by omega) (by rw [hVe]; simp) (by rw [hVe]; simp), hbl, hs, gx, fun h => ⟨(eval_put_ne a 44 6 _ (by decide)).trans (h6 h).1, (h6 h).2⟩⟩
          · obtain rfl := Option.some.inj ho
            have d7 : f 7 = true := hdep ⟨7, .data⟩ (by simp) rfl
            refine wp_extract (.tmp 36) 1 rfl _ _ (hv 7 36 (.tuple #[.agg (uc S2.list).toArray, .int .i64 0]) (by rw [hVe]; simp) d7) rfl ?_
            exact ⟨hoff.put 45 _ (by simp), vals_put hV 9 45 _ (by omega) (by rw [hVe]; simp) (by rw [hVe]; simp), hbl, hs, gx, fun h => ⟨(eval_put_ne a 45 6 _ (by decide)).trans (h6 h).1, (h6 h).2⟩⟩
          · obtain rfl := Option.some.inj ho
            refine wp_alloc 26 rfl (.agg (uc (List.replicate 8 0)).toArray) (fun w => by kernel_rfl) ?_
            have f11 : f 11 = false := by
              cases hf : f 11 with
              | false => rfl
              | true => exact absurd (hs hf) (by rw [hfi]; simp)
            refine ⟨hoff.put 6 _ (by simp), vals_put hV 10 6 _ (by omega) (by rw [hVe]; simp) (by rw [hVe]; simp), hbl.alloc hbl.size _, fun _ => rfl, wx.heap.size, fun _ => ⟨eval_put_same a 6 _ (by omega), hbl.size, ?_⟩⟩
            show WordsAt _ _ _ (if f 11 = true then S2.list else List.replicate 8 0)
            rw [f11]
            exact heap_alloc_new _ _
          · obtain rfl := Option.some.inj ho
            have d10 : f 10 = true := hdep ⟨10, .data⟩ (by simp) rfl
            have d8 : f 8 = true := hdep ⟨8, .data⟩ (by simp) rfl
            obtain ⟨e6, k6, w6⟩ := h6 d10
            rw [hfi] at w6
            have w6' : WordsAt wx gx 26 (List.replicate 8 0) := w6
            have hth := w6'.there
            rw [List.length_replicate] at hth
            refine wp_store_mid 26 (.tmp 6) (.tmp 44) rfl gx 0 (uc S2.list).toArray e6 (hv 8 44 (.agg (uc S2.list).toArray) (by rw [hVe]; simp) d8) (by rw [List.size_toArray, uc_length, S8.len]; exact hth) (by rw [List.size_toArray, uc_length, S8.len]; kernel_rfl) (all_oneCell_toArray (uc_oneCell _)) ?_
            exact ⟨hoff, vals_none hV 11 _ (by rw [hVe]; simp), below_setCells k6 _ _ _ hbl, fun _ => d10, gx, fun h => ⟨e6, k6, w6'.stored (by rw [List.length_replicate, S8.len])⟩⟩
          · obtain rfl := Option.some.inj ho
            have d9 : f 9 = true := hdep ⟨9, .data⟩ (by simp) rfl
            refine wp_assign (.tmp 45) rfl ?_
            rw [hv 9 45 (.int .i64 0) (by rw [hVe]; simp) d9]
            exact ⟨hoff.put 7 _ (by simp), vals_put hV 12 7 _ (by omega) (by rw [hVe]; simp) (by rw [hVe]; simp), hbl, hs, gx, fun h => ⟨(eval_put_ne a 7 6 _ (by decide)).trans (h6 h).1, (h6 h).2⟩⟩
          · simp at ho
        case fin =>
          rintro f a wx ⟨hoff, hV, hbl, hs, gx, h6⟩ hall
          have e := Off.all _ _ hoff
          have i11 := hall 11 (by decide)
          obtain ⟨e6, k6, w6⟩ := h6 (hall 10 (by decide))
          rw [i11] at w6
          have e7 : a.eval (.tmp 7) = .int .i64 0 := hV (12, 7, .int .i64 0) (by rw [hVe]; simp) (hall 12 (by decide))
          simp only [List.foldl_cons, List.foldl_nil] at e
          rw [← hA, e6, e7] at e
          generalize a.eval (.tmp 36) = x36, a.eval (.tmp 37) = x37, a.eval (.tmp 38) = x38, a.eval (.tmp 39) = x39, a.eval (.tmp 40) = x40, a.eval (.tmp 41) = x41, a.eval (.tmp 42) = x42, a.eval (.tmp 43) = x43, a.eval (.tmp 44) = x44, a.eval (.tmp 45) = x45 at e
          simp only [Act.put, List.setIfInBounds_toArray, List.set_cons_succ, List.set_cons_zero] at e
          subst e
          have w6' : wx.heap[gx]? = some (.cells (uc S2.list).toArray 26 (0, 0)) := w6
          have hG5 : WordsAt wx g 26 S1.list := (hbl.block _ hgl).trans HG4
          have hs1 : (uc S2.list).toArray.size = 8 := by rw [List.size_toArray, uc_length, S8.len]
          have hs2 : (uc S2.list).toArray.all (·.oneCell') = true := all_oneCell_toArray (uc_oneCell _)
          obtain ⟨C, hC⟩ : ∃ C, C = (uc S2.list).toArray := ⟨_, rfl⟩
          rw [← hC] at w6' hs1 hs2
          have HC := hide hC
          have HG5 := hide hG5
          have HBL := hide ((unhide HB).trans (hbl.mono (unhide HB).size))
          clear hoff hV hA hA3 hA4 hA5 hVe hC hG5 w6 hbl e6 e7 h6 HG4 hmx
          go_wp2_with (first | (refine wpList_load_row rfl 26 (.tmp 6) rfl gx rfl 26 C (0, 0) _ w6' Try.underlying26 rfl ?hi2 ?_) | (refine wpList_store_abs rfl 26 (.tmp 4) (.tmp 48) rfl g 0 C rfl rfl ?ht3 ?hi3 hs2 ?_))
          case hi2 => rw [hs1]; kernel_rfl
          case ht3 => rw [hs1]; exact (unhide HG5).there
          case hi3 => rw [hs1]; kernel_rfl
          intro w9 hw9
          have W9 : Hid (WordsAt w9 g 26 S2.list) := by
            show WordsAt _ _ _ _
            rw [unhide hw9, unhide HC]
            exact (unhide HG5).stored rfl
          have B9 : Hid (Below w.heap.size w w9) := by
            show Below _ _ _
            rw [unhide hw9]
            exact below_setCells (unhide G4) _ _ _ (unhide HBL)
          clear hw9
          go_wp2
          go_roundw
          case rel => exact ⟨k + 1, q + 64, by omega, unhide hq64, by go_num, by rw [← unhide HS2]; exact unhide W9, unhide B9⟩
          case measure => simp [intOf]; omega
      · have q1 : ¬ (q : Int) + 64 ≤ t.size := by have := unhide HN; have := unhide HQ; omega
        have hke : k = n := by omega
        rw [hke] at HW
        clear hke hlt HQ HN hk
        generalize (mixN t.data.toList n) = S at *
        go_wp2
        go_loopw [8, 9] (fun o i wr => ∃ (j : Nat) (O : ByteArray), j ≤ 8 ∧ i = .int .i64 j ∧ o = .string O ∧ O.data.toList = (dig S.list).take (4 * j) ∧ WordsAt wr g 26 S.list ∧ Below w.heap.size w wr) (fun _ i _ => 8 - (intOf i).toNat)
        case atStart => exact ⟨0, ⟨#[]⟩, Nat.zero_le _, rfl, rfl, rfl, unhide HW, unhide HB⟩
        case round =>
          clear HW HB
          obtain ⟨j, O, hj, rfl, rfl, hO, hw, hb⟩ := hrel
          have HO := hide hO
          have OB : O.size ≤ 32 := by rw [← blen, hO, List.length_take, dig_length]; omega
          have z := hb.size
          clear hO
          by_cases hj8 : j < 8
          · have c1 := hw.cell j (by rw [S8.len]; exact hj8)
            have hx0 := n32_nonneg (S.list[j]'(by rw [S8.len]; exact hj8))
            have hdt := hide (dig_take S.list j hj8)
            rw [getD_of_lt _ _ (by rw [S8.len]; exact hj8)] at hdt
            generalize n32 (S.list[j]'(by rw [S8.len]; exact hj8)) = v at *
            have hol := World.ownsRow_lit (base := 0) (e := 5) (size := 1) wr (bc (four v)).toArray 4 (Nat.zero_le _) (by decide) rfl
            have hcv := run_string_own (P := Try.prog) 47 9 Try.undB (by kernel_rfl) (by kernel_rfl) hol
            rw [bc_four] at hcv
            have HW := hide hw
            have HB := hide hb
            clear hw hb hol
            have jk : (j : Int) < 8 := by omega
            obtain ⟨F4, hF4⟩ : ∃ F : ByteArray, F = ⟨(four v).toArray⟩ := ⟨_, rfl⟩
            have F4l : Hid (F4.data.toList = four v) := by show _ = _; rw [hF4]
            have F4s : F4.size = 4 := by rw [hF4]; rfl
            rw [← hF4] at hcv
            clear hF4
            go_wp2
            go_roundw
            case rel =>
              refine ⟨j + 1, O ++ F4, by omega, by go_num, rfl, ?_, ?_, ?_⟩
              · rw [bapp, unhide HO, unhide F4l, unhide hdt]
              · exact (unhide HW).alloc _
              · exact (unhide HB).alloc z _
            case measure => simp [intOf]; omega
          · have hje : j = 8 := by omega
            subst hje
            have hOe : O = ⟨(shaSum s.data.toList).toArray⟩ := by
              have h1 := unhide HO
              rw [List.take_of_length_le (by rw [dig_length]; omega), ← unhide HSU] at h1
              rw [← h1]
            have hsm := hide (sum_any wr s (by omega))
            rw [← hOe] at hsm
            have HB := hide hb
            clear hw hb hOe
            go_wp2_with fail
            refine (unhide hsm).mono ?_
            rintro e w5 ⟨rfl, b5⟩
            have B5 := hide ((unhide HB).trans (b5.mono (unhide HB).size))
            clear b5
            go_wp2
            go_ret
            exact ⟨by first | rfl | simp, unhide B5⟩

end Go.Proofs.Ytahejlimdgniiaa

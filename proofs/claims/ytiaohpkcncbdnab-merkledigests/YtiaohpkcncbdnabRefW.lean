/- Contract of the document's own Words, of layer 1. -/
import Derived.Test.YtiaohpkcncbdnabRefM
import Derived.Test.YtiaohpkcncbdnabRegC
import Derived.Test.YtiaohpkcncbdnabRegC
import Derived.Test.YtiaohpkcncbdnabRegC
namespace Go.Proofs.Ytiaohpkcncbdnab
open Go.RowKit
set_option linter.unusedVariables false

theorem push_val (x : UInt32) (b : UInt8) : n32 (pushByte x b) = n32 x * 256 % 4294967296 + b.toNat := by
  have hb := b.toNat_lt
  have hx := x.toNat_lt
  unfold pushByte n32
  rw [UInt32.toNat_or, UInt32.toNat_shiftLeft, UInt32.toNat_ofNat', Nat.mod_eq_of_lt (show b.toNat < 2 ^ 32 by omega), Nat.shiftLeft_eq]
  have e1 : x.toNat * 2 ^ ((8 : UInt32).toNat % 32) % 2 ^ 32 = (x.toNat % 16777216) * 2 ^ 8 := by
    show x.toNat * 256 % 4294967296 = x.toNat % 16777216 * 256
    omega
  rw [e1, ← Nat.shiftLeft_eq, ← Nat.shiftLeft_add_eq_or_of_lt hb, Nat.shiftLeft_eq]
  omega
theorem take4 (L : List UInt8) (q : Nat) (h : q + 4 ≤ L.length) : (L.drop q).take 4 = [L[q], L[q + 1], L[q + 2], L[q + 3]] := by
  apply List.ext_getElem
  · simp only [List.length_take, List.length_drop, List.length_cons, List.length_nil]; omega
  · intro i h1 h2
    have hi : i < 4 := by simpa using h2
    rw [List.getElem_take, List.getElem_drop]
    rcases i with _ | _ | _ | _ | i
    · rfl
    · rfl
    · rfl
    · rfl
    · omega
theorem wpart_val (B : List UInt8) (hB : B.length = 64) (j : Nat) (hj : j < 16) :
    n32 (wpart B 64 j) = (B[4 * j]).toNat * 16777216 + (B[4 * j + 1]).toNat * 65536 + (B[4 * j + 2]).toNat * 256 + (B[4 * j + 3]).toNat := by
  unfold wpart
  rw [show B.take 64 = B from List.take_of_length_le (by omega), take4 B (4 * j) (by omega)]
  have h0 := (B[4 * j]).toNat_lt
  have h1 := (B[4 * j + 1]).toNat_lt
  have h2 := (B[4 * j + 2]).toNat_lt
  have h3 := (B[4 * j + 3]).toNat_lt
  simp only [List.foldl_cons, List.foldl_nil, push_val]
  have : n32 0 = 0 := rfl
  omega
theorem sched0_take (B : List UInt8) (j : Nat) (hj : j < 16) : (schedN B 0).take (j + 1) = (schedN B 0).take j ++ [wpart B 64 j] := by
  rw [List.take_succ_eq_append_getElem (by rw [schedN_length]; omega)]
  congr 2
  simp only [schedN, List.getElem_take]
  exact wparts_get B 64 j (by omega)
theorem idx_str (s : ByteArray) (i : Int) (j : Nat) (hi : i = j) (hj : j < s.size) (w : World) : (Instr.index 9 (.string s) (.int .i64 i)).run Try.prog w = .ok (.int .u8 s[j].toNat) w := by
  subst hi
  rw [run_index_string w 9 s .i64 j (by kernel_rfl)]
  simp [hj]
theorem getB (s : ByteArray) (j : Nat) (h : j < s.size) : s.data.toList[j]'(by rw [blen]; exact h) = s[j] := rfl

theorem Try.infoW : (Try.prog.info? 61).map (fun i => (i.zero, i.size, i.bytes)) = some (some (.int .u32 0), 1, 4) := by kernel_rfl
theorem Try.undW : Try.prog.underlying 57 = some (.slice 61) := by kernel_rfl

theorem own_words {w : World} {base n : Nat} {v : Value} {L : List UInt32} (h : w.ownsRow base 61 1 v n (uc L)) (hn : 0 < n) : ∃ g cap, v = .slice (some ⟨g, 0, none⟩) n cap ∧ base ≤ g ∧ g < w.heap.size ∧ (∀ j, (hj : j < L.length) → w.cell? ⟨g, j, none⟩ = some (.int .u32 (n32 L[j]))) := by
  have hl : L.length = n := by have := h.1; rw [uc_length] at this; omega
  rcases h.2 with ⟨h', h0⟩ | ⟨g, cap', cur, h', hb⟩
  · omega
  · subst h'
    refine ⟨g, cap', rfl, (h.lt g rfl).1, (h.lt g rfl).2, fun j hj => ?_⟩
    rw [h.cellAt j (by omega), uc_get _ _ hj]

theorem wrap32 (x : Nat) (h : x < 4294967296) : IntKind.u32.wrap (x : Int) = x := by
  simp [IntKind.wrap, IntKind.bits, IntKind.signed]
  omega
theorem wrapI (x : Int) (h0 : 0 ≤ x) (h : x < 1000000) : IntKind.i64.wrap x = x := IntWalk.i64_in _ ⟨by omega, by omega⟩

attribute [local go_sem] xor32 and32 or32 add32 shr32_3 shr32_10

set_option maxRecDepth 100000 in
set_option maxHeartbeats 4000000 in
theorem rWords_any (b : ByteArray) (hb : b.size = 64) (w : World) :
    Calls Try.prog 37 #[.string b] w fun e w' => ∃ v, e = .returned v ∧ w'.ownsRow w.heap.size 61 1 v 64 (uc (sched b.data.toList)) ∧ Below w.heap.size w w' := by
  obtain ⟨i0, hi, hz0, hz1, hz2⟩ := info_parts Try.infoW
  have HB := hide hb
  clear hb
  go_enter Try.func37, Try.ntmps37
  go_wp2
  go_loopw [3, 4] (fun v i wr => ∃ k : Nat, k ≤ 16 ∧ i = .int .i64 k ∧ wr.ownsRow w.heap.size 61 1 v k (uc ((schedN b.data.toList 0).take k)) ∧ Below w.heap.size w wr) (fun _ i _ => 16 - (intOf i).toNat)
  case atStart => exact ⟨0, Nat.zero_le _, rfl, World.ownsRow_nil _ _ _ _, Below.refl _ _⟩
  case round =>
    obtain ⟨k, hk, rfl, hown, hb⟩ := hrel
    obtain ⟨ao, cap, rfl⟩ := own_shape' hown
    have hz := hb.size
    have HO := hide hown
    have HBB := hide hb
    clear hown hb
    by_cases hlt : k < 16
    · have q0 : 4 * k < b.size := by rw [unhide HB]; omega
      have q1 : 4 * k + 1 < b.size := by rw [unhide HB]; omega
      have q2 : 4 * k + 2 < b.size := by rw [unhide HB]; omega
      have q3 : 4 * k + 3 < b.size := by rw [unhide HB]; omega
      have i0' := idx_str b (4 * (k : Int)) (4 * k) (by omega) q0
      have i1' := idx_str b (4 * (k : Int) + 1) (4 * k + 1) (by omega) q1
      have i2' := idx_str b (4 * (k : Int) + 2) (4 * k + 2) (by omega) q2
      have i3' := idx_str b (4 * (k : Int) + 3) (4 * k + 3) (by omega) q3
      have hv := hide (wpart_val b.data.toList (by rw [blen]; exact unhide HB) k hlt)
      rw [getB b _ q0, getB b _ q1, getB b _ q2, getB b _ q3] at hv
      have htk := hide (sched0_take b.data.toList k hlt)
      have c0 := b[4 * k].toNat_lt
      have c1 := b[4 * k + 1].toNat_lt
      have c2 := b[4 * k + 2].toNat_lt
      have c3 := b[4 * k + 3].toNat_lt
      generalize b[4 * k].toNat = x0 at *
      generalize b[4 * k + 1].toNat = x1 at *
      generalize b[4 * k + 2].toNat = x2 at *
      generalize b[4 * k + 3].toNat = x3 at *
      go_wp2
      obtain ⟨W0, hW0⟩ : ∃ W0, W0 = wr.drew := ⟨_, rfl⟩
      have HOW : Hid (W0.ownsRow w.heap.size 61 1 (.slice ao k cap) k (uc ((schedN b.data.toList 0).take k))) := by show World.ownsRow _ _ _ _ _ _ _; rw [hW0]; exact (unhide HO).drew
      have HBW : Hid (Below w.heap.size w W0) := by show Below _ _ _; rw [hW0]; exact (unhide HBB).drew
      have hzW := (unhide HBW).size
      generalize hA : Act.mk _ _ = A
      have hA0 : A.eval (.tmp 0) = .string b := by rw [← hA]; rfl
      have hA3 : A.eval (.tmp 3) = .slice ao k cap := by rw [← hA]; rfl
      have hA4 : A.eval (.tmp 4) = .int .i64 k := by rw [← hA]; rfl
      have hAs : A.tmps.size = 95 := by rw [← hA]; rfl
      obtain ⟨V, hVe⟩ : ∃ V : List (Nat × Nat × Value), V = [(0, 14, .slice ao k cap), (1, 15, .string b), (2, 16, .int .i64 k), (3, 17, .int .i64 (4 * (k : Int))), (4, 18, .int .u8 x0), (5, 19, .int .u32 x0), (6, 20, .int .u32 ((x0 : Int) * 16777216)), (7, 21, .string b), (8, 22, .int .i64 k), (9, 23, .int .i64 (4 * (k : Int))), (10, 24, .int .i64 (4 * (k : Int) + 1)), (11, 25, .int .u8 x1), (12, 26, .int .u32 x1), (13, 27, .int .u32 ((x1 : Int) * 65536)), (14, 28, .int .u32 ((x0 : Int) * 16777216 + (x1 : Int) * 65536)), (15, 29, .string b), (16, 30, .int .i64 k), (17, 31, .int .i64 (4 * (k : Int))), (18, 32, .int .i64 (4 * (k : Int) + 2)), (19, 33, .int .u8 x2), (20, 34, .int .u32 x2), (21, 35, .int .u32 ((x2 : Int) * 256)), (22, 36, .int .u32 ((x0 : Int) * 16777216 + (x1 : Int) * 65536 + (x2 : Int) * 256)), (23, 37, .string b), (24, 38, .int .i64 k), (25, 39, .int .i64 (4 * (k : Int))), (26, 40, .int .i64 (4 * (k : Int) + 3)), (27, 41, .int .u8 x3), (28, 42, .int .u32 x3), (29, 43, .int .u32 ((x0 : Int) * 16777216 + (x1 : Int) * 65536 + (x2 : Int) * 256 + x3)), (30, 44, .slice (some ⟨W0.heap.size, 0, none⟩) 1 1)] := ⟨_, rfl⟩
      refine wp_region_invB0 (by kernel_rfl) (by kernel_rfl) (by kernel_rfl) (fun f a wx => Off [3, 14, 15, 16, 17, 18, 19, 20, 21, 22, 23, 24, 25, 26, 27, 28, 29, 30, 31, 32, 33, 34, 35, 36, 37, 38, 39, 40, 41, 42, 43, 44, 45] A a ∧ ValsOk V f a ∧ (f 31 = true → f 30 = true ∧ f 0 = true) ∧ (f 30 = false → wx = W0) ∧ (f 30 = true → f 31 = false → wx = W0.alloc (.cells #[.int .u32 ((x0 : Int) * 16777216 + (x1 : Int) * 65536 + (x2 : Int) * 256 + x3)] 61)) ∧ ∃ v', (f 31 = true → a.eval (.tmp 45) = v' ∧ wx.ownsRow w.heap.size 61 1 v' (k + 1) (uc ((schedN b.data.toList 0).take k) ++ [.int .u32 ((x0 : Int) * 16777216 + (x1 : Int) * 65536 + (x2 : Int) * 256 + x3)]) ∧ Below w.heap.size w wx) ∧ (f 32 = true → a.eval (.tmp 3) = v') ∧ (f 32 = true → f 31 = true) ∧ (f 32 = false → a.eval (.tmp 3) = .slice ao k cap)) ?start ?step ?fin
      case start => exact ⟨Off.refl _ _, vals_start _ _, by simp, fun _ => hW0.symm, by simp, .int .i64 0, by simp, by simp, by simp, fun _ => hA3⟩
      case step =>
        rintro f a wx i o ⟨hoff, hV, hm, n0, n1, v', n2, n3, n4, n5⟩ ho hfi hdep
        have has : a.tmps.size = 95 := hoff.size.trans hAs
        have hv := fun (i d : Nat) (v : Value) (hm : (i, d, v) ∈ V) (hf : f i = true) => hV (i, d, v) hm hf
        rcases i with _ | _ | _ | _ | _ | _ | _ | _ | _ | _ | _ | _ | _ | _ | _ | _ | _ | _ | _ | _ | _ | _ | _ | _ | _ | _ | _ | _ | _ | _ | _ | _ | _ | i
        · obtain rfl := Option.some.inj ho
          have f32 : f 32 = false := by
            cases hf : f 32 with
            | false => rfl
            | true => exact absurd (hm (n4 hf)).2 (by rw [hfi]; simp)
          refine wp_move (.tmp 3) rfl ?_
          rw [n5 f32]
          exact ⟨hoff.put 14 _ (by simp), vals_put hV 0 14 _ (by omega) (by rw [hVe]; simp) (by rw [hVe]; simp), fun h => ⟨(hm h).1, rfl⟩, n0, n1, v', fun h => ⟨(eval_put_ne a 14 45 _ (by decide)).trans (n2 h).1, (n2 h).2⟩, fun h => (eval_put_ne a 14 3 _ (by decide)).trans (n3 h), n4, fun h => (eval_put_ne a 14 3 _ (by decide)).trans (n5 h)⟩
        · obtain rfl := Option.some.inj ho
          refine wp_move (.tmp 0) rfl ?_
          rw [((hoff.eval 0 (by simp)).trans hA0)]
          exact ⟨hoff.put 15 _ (by simp), vals_put hV 1 15 _ (by omega) (by rw [hVe]; simp) (by rw [hVe]; simp), hm, n0, n1, v', fun h => ⟨(eval_put_ne a 15 45 _ (by decide)).trans (n2 h).1, (n2 h).2⟩, fun h => (eval_put_ne a 15 3 _ (by decide)).trans (n3 h), n4, fun h => (eval_put_ne a 15 3 _ (by decide)).trans (n5 h)⟩
        · obtain rfl := Option.some.inj ho
          refine wp_move (.tmp 4) rfl ?_
          rw [((hoff.eval 4 (by simp)).trans hA4)]
          exact ⟨hoff.put 16 _ (by simp), vals_put hV 2 16 _ (by omega) (by rw [hVe]; simp) (by rw [hVe]; simp), hm, n0, n1, v', fun h => ⟨(eval_put_ne a 16 45 _ (by decide)).trans (n2 h).1, (n2 h).2⟩, fun h => (eval_put_ne a 16 3 _ (by decide)).trans (n3 h), n4, fun h => (eval_put_ne a 16 3 _ (by decide)).trans (n5 h)⟩
        · obtain rfl := Option.some.inj ho
          have d2 : f 2 = true := hdep ⟨2, .data⟩ (by simp) rfl
          refine wp_mul64 3 3 (.const (.int .i64 4)) (.tmp 16) rfl Try.underlying3 4 k rfl (hv 2 16 (.int .i64 k) (by rw [hVe]; simp) d2) (by omega) (by omega) ?_
          exact ⟨hoff.put 17 _ (by simp), vals_put hV 3 17 _ (by omega) (by rw [hVe]; simp) (by rw [hVe]; simp), hm, n0, n1, v', fun h => ⟨(eval_put_ne a 17 45 _ (by decide)).trans (n2 h).1, (n2 h).2⟩, fun h => (eval_put_ne a 17 3 _ (by decide)).trans (n3 h), n4, fun h => (eval_put_ne a 17 3 _ (by decide)).trans (n5 h)⟩
        · obtain rfl := Option.some.inj ho
          have d1 : f 1 = true := hdep ⟨1, .data⟩ (by simp) rfl
          have d3 : f 3 = true := hdep ⟨3, .data⟩ (by simp) rfl
          refine wp_index_str 9 (.tmp 15) (.tmp 17) rfl _ _ (.int .u8 x0) (hv 1 15 (.string b) (by rw [hVe]; simp) d1) (hv 3 17 (.int .i64 (4 * (k : Int))) (by rw [hVe]; simp) d3) i0' ?_
          exact ⟨hoff.put 18 _ (by simp), vals_put hV 4 18 _ (by omega) (by rw [hVe]; simp) (by rw [hVe]; simp), hm, n0, n1, v', fun h => ⟨(eval_put_ne a 18 45 _ (by decide)).trans (n2 h).1, (n2 h).2⟩, fun h => (eval_put_ne a 18 3 _ (by decide)).trans (n3 h), n4, fun h => (eval_put_ne a 18 3 _ (by decide)).trans (n5 h)⟩
        · obtain rfl := Option.some.inj ho
          have d4 : f 4 = true := hdep ⟨4, .data⟩ (by simp) rfl
          refine wp_conv832 5 61 (.tmp 18) rfl Try.underlying5 Try.underlying61 x0 c0 (hv 4 18 (.int .u8 x0) (by rw [hVe]; simp) d4) ?_
          exact ⟨hoff.put 19 _ (by simp), vals_put hV 5 19 _ (by omega) (by rw [hVe]; simp) (by rw [hVe]; simp), hm, n0, n1, v', fun h => ⟨(eval_put_ne a 19 45 _ (by decide)).trans (n2 h).1, (n2 h).2⟩, fun h => (eval_put_ne a 19 3 _ (by decide)).trans (n3 h), n4, fun h => (eval_put_ne a 19 3 _ (by decide)).trans (n5 h)⟩
        · obtain rfl := Option.some.inj ho
          have d5 : f 5 = true := hdep ⟨5, .data⟩ (by simp) rfl
          refine wp_shlU32 61 62 (.tmp 19) (.const (.int .u64 24)) rfl Try.underlying61 x0 ((x0 : Int) * 16777216) 24 (by decide) (hv 5 19 (.int .u32 x0) (by rw [hVe]; simp) d5) rfl (by omega) ?_
          exact ⟨hoff.put 20 _ (by simp), vals_put hV 6 20 _ (by omega) (by rw [hVe]; simp) (by rw [hVe]; simp), hm, n0, n1, v', fun h => ⟨(eval_put_ne a 20 45 _ (by decide)).trans (n2 h).1, (n2 h).2⟩, fun h => (eval_put_ne a 20 3 _ (by decide)).trans (n3 h), n4, fun h => (eval_put_ne a 20 3 _ (by decide)).trans (n5 h)⟩
        · obtain rfl := Option.some.inj ho
          refine wp_move (.tmp 0) rfl ?_
          rw [((hoff.eval 0 (by simp)).trans hA0)]
          exact ⟨hoff.put 21 _ (by simp), vals_put hV 7 21 _ (by omega) (by rw [hVe]; simp) (by rw [hVe]; simp), hm, n0, n1, v', fun h => ⟨(eval_put_ne a 21 45 _ (by decide)).trans (n2 h).1, (n2 h).2⟩, fun h => (eval_put_ne a 21 3 _ (by decide)).trans (n3 h), n4, fun h => (eval_put_ne a 21 3 _ (by decide)).trans (n5 h)⟩
        · obtain rfl := Option.some.inj ho
          refine wp_move (.tmp 4) rfl ?_
          rw [((hoff.eval 4 (by simp)).trans hA4)]
          exact ⟨hoff.put 22 _ (by simp), vals_put hV 8 22 _ (by omega) (by rw [hVe]; simp) (by rw [hVe]; simp), hm, n0, n1, v', fun h => ⟨(eval_put_ne a 22 45 _ (by decide)).trans (n2 h).1, (n2 h).2⟩, fun h => (eval_put_ne a 22 3 _ (by decide)).trans (n3 h), n4, fun h => (eval_put_ne a 22 3 _ (by decide)).trans (n5 h)⟩
        · obtain rfl := Option.some.inj ho
          have d8 : f 8 = true := hdep ⟨8, .data⟩ (by simp) rfl
          refine wp_mul64 3 3 (.const (.int .i64 4)) (.tmp 22) rfl Try.underlying3 4 k rfl (hv 8 22 (.int .i64 k) (by rw [hVe]; simp) d8) (by omega) (by omega) ?_
          exact ⟨hoff.put 23 _ (by simp), vals_put hV 9 23 _ (by omega) (by rw [hVe]; simp) (by rw [hVe]; simp), hm, n0, n1, v', fun h => ⟨(eval_put_ne a 23 45 _ (by decide)).trans (n2 h).1, (n2 h).2⟩, fun h => (eval_put_ne a 23 3 _ (by decide)).trans (n3 h), n4, fun h => (eval_put_ne a 23 3 _ (by decide)).trans (n5 h)⟩
        · obtain rfl := Option.some.inj ho
          have d9 : f 9 = true := hdep ⟨9, .data⟩ (by simp) rfl
          refine wp_add64 3 3 (.tmp 23) (.const (.int .i64 1)) rfl Try.underlying3 (4 * (k : Int)) 1 (hv 9 23 (.int .i64 (4 * (k : Int))) (by rw [hVe]; simp) d9) rfl (by omega) (by omega) ?_
          exact ⟨hoff.put 24 _ (by simp), vals_put hV 10 24 _ (by omega) (by rw [hVe]; simp) (by rw [hVe]; simp), hm, n0, n1, v', fun h => ⟨(eval_put_ne a 24 45 _ (by decide)).trans (n2 h).1, (n2 h).2⟩, fun h => (eval_put_ne a 24 3 _ (by decide)).trans (n3 h), n4, fun h => (eval_put_ne a 24 3 _ (by decide)).trans (n5 h)⟩
        · obtain rfl := Option.some.inj ho
          have d7 : f 7 = true := hdep ⟨7, .data⟩ (by simp) rfl
          have d10 : f 10 = true := hdep ⟨10, .data⟩ (by simp) rfl
          refine wp_index_str 9 (.tmp 21) (.tmp 24) rfl _ _ (.int .u8 x1) (hv 7 21 (.string b) (by rw [hVe]; simp) d7) (hv 10 24 (.int .i64 (4 * (k : Int) + 1)) (by rw [hVe]; simp) d10) i1' ?_
          exact ⟨hoff.put 25 _ (by simp), vals_put hV 11 25 _ (by omega) (by rw [hVe]; simp) (by rw [hVe]; simp), hm, n0, n1, v', fun h => ⟨(eval_put_ne a 25 45 _ (by decide)).trans (n2 h).1, (n2 h).2⟩, fun h => (eval_put_ne a 25 3 _ (by decide)).trans (n3 h), n4, fun h => (eval_put_ne a 25 3 _ (by decide)).trans (n5 h)⟩
        · obtain rfl := Option.some.inj ho
          have d11 : f 11 = true := hdep ⟨11, .data⟩ (by simp) rfl
          refine wp_conv832 5 61 (.tmp 25) rfl Try.underlying5 Try.underlying61 x1 c1 (hv 11 25 (.int .u8 x1) (by rw [hVe]; simp) d11) ?_
          exact ⟨hoff.put 26 _ (by simp), vals_put hV 12 26 _ (by omega) (by rw [hVe]; simp) (by rw [hVe]; simp), hm, n0, n1, v', fun h => ⟨(eval_put_ne a 26 45 _ (by decide)).trans (n2 h).1, (n2 h).2⟩, fun h => (eval_put_ne a 26 3 _ (by decide)).trans (n3 h), n4, fun h => (eval_put_ne a 26 3 _ (by decide)).trans (n5 h)⟩
        · obtain rfl := Option.some.inj ho
          have d12 : f 12 = true := hdep ⟨12, .data⟩ (by simp) rfl
          refine wp_shlU32 61 62 (.tmp 26) (.const (.int .u64 16)) rfl Try.underlying61 x1 ((x1 : Int) * 65536) 16 (by decide) (hv 12 26 (.int .u32 x1) (by rw [hVe]; simp) d12) rfl (by omega) ?_
          exact ⟨hoff.put 27 _ (by simp), vals_put hV 13 27 _ (by omega) (by rw [hVe]; simp) (by rw [hVe]; simp), hm, n0, n1, v', fun h => ⟨(eval_put_ne a 27 45 _ (by decide)).trans (n2 h).1, (n2 h).2⟩, fun h => (eval_put_ne a 27 3 _ (by decide)).trans (n3 h), n4, fun h => (eval_put_ne a 27 3 _ (by decide)).trans (n5 h)⟩
        · obtain rfl := Option.some.inj ho
          have d6 : f 6 = true := hdep ⟨6, .data⟩ (by simp) rfl
          have d13 : f 13 = true := hdep ⟨13, .data⟩ (by simp) rfl
          refine wp_addU32 61 61 (.tmp 20) (.tmp 27) rfl Try.underlying61 ((x0 : Int) * 16777216) ((x1 : Int) * 65536) ((x0 : Int) * 16777216 + (x1 : Int) * 65536) (hv 6 20 (.int .u32 ((x0 : Int) * 16777216)) (by rw [hVe]; simp) d6) (hv 13 27 (.int .u32 ((x1 : Int) * 65536)) (by rw [hVe]; simp) d13) (by omega) ?_
          exact ⟨hoff.put 28 _ (by simp), vals_put hV 14 28 _ (by omega) (by rw [hVe]; simp) (by rw [hVe]; simp), hm, n0, n1, v', fun h => ⟨(eval_put_ne a 28 45 _ (by decide)).trans (n2 h).1, (n2 h).2⟩, fun h => (eval_put_ne a 28 3 _ (by decide)).trans (n3 h), n4, fun h => (eval_put_ne a 28 3 _ (by decide)).trans (n5 h)⟩
        · obtain rfl := Option.some.inj ho
          refine wp_move (.tmp 0) rfl ?_
          rw [((hoff.eval 0 (by simp)).trans hA0)]
          exact ⟨hoff.put 29 _ (by simp), vals_put hV 15 29 _ (by omega) (by rw [hVe]; simp) (by rw [hVe]; simp), hm, n0, n1, v', fun h => ⟨(eval_put_ne a 29 45 _ (by decide)).trans (n2 h).1, (n2 h).2⟩, fun h => (eval_put_ne a 29 3 _ (by decide)).trans (n3 h), n4, fun h => (eval_put_ne a 29 3 _ (by decide)).trans (n5 h)⟩
        · obtain rfl := Option.some.inj ho
          refine wp_move (.tmp 4) rfl ?_
          rw [((hoff.eval 4 (by simp)).trans hA4)]
          exact ⟨hoff.put 30 _ (by simp), vals_put hV 16 30 _ (by omega) (by rw [hVe]; simp) (by rw [hVe]; simp), hm, n0, n1, v', fun h => ⟨(eval_put_ne a 30 45 _ (by decide)).trans (n2 h).1, (n2 h).2⟩, fun h => (eval_put_ne a 30 3 _ (by decide)).trans (n3 h), n4, fun h => (eval_put_ne a 30 3 _ (by decide)).trans (n5 h)⟩
        · obtain rfl := Option.some.inj ho
          have d16 : f 16 = true := hdep ⟨16, .data⟩ (by simp) rfl
          refine wp_mul64 3 3 (.const (.int .i64 4)) (.tmp 30) rfl Try.underlying3 4 k rfl (hv 16 30 (.int .i64 k) (by rw [hVe]; simp) d16) (by omega) (by omega) ?_
          exact ⟨hoff.put 31 _ (by simp), vals_put hV 17 31 _ (by omega) (by rw [hVe]; simp) (by rw [hVe]; simp), hm, n0, n1, v', fun h => ⟨(eval_put_ne a 31 45 _ (by decide)).trans (n2 h).1, (n2 h).2⟩, fun h => (eval_put_ne a 31 3 _ (by decide)).trans (n3 h), n4, fun h => (eval_put_ne a 31 3 _ (by decide)).trans (n5 h)⟩
        · obtain rfl := Option.some.inj ho
          have d17 : f 17 = true := hdep ⟨17, .data⟩ (by simp) rfl
          refine wp_add64 3 3 (.tmp 31) (.const (.int .i64 2)) rfl Try.underlying3 (4 * (k : Int)) 2 (hv 17 31 (.int .i64 (4 * (k : Int))) (by rw [hVe]; simp) d17) rfl (by omega) (by omega) ?_
          exact ⟨hoff.put 32 _ (by simp), vals_put hV 18 32 _ (by omega) (by rw [hVe]; simp) (by rw [hVe]; simp), hm, n0, n1, v', fun h => ⟨(eval_put_ne a 32 45 _ (by decide)).trans (n2 h).1, (n2 h).2⟩, fun h => (eval_put_ne a 32 3 _ (by decide)).trans (n3 h), n4, fun h => (eval_put_ne a 32 3 _ (by decide)).trans (n5 h)⟩
        · obtain rfl := Option.some.inj ho
          have d15 : f 15 = true := hdep ⟨15, .data⟩ (by simp) rfl
          have d18 : f 18 = true := hdep ⟨18, .data⟩ (by simp) rfl
          refine wp_index_str 9 (.tmp 29) (.tmp 32) rfl _ _ (.int .u8 x2) (hv 15 29 (.string b) (by rw [hVe]; simp) d15) (hv 18 32 (.int .i64 (4 * (k : Int) + 2)) (by rw [hVe]; simp) d18) i2' ?_
          exact ⟨hoff.put 33 _ (by simp), vals_put hV 19 33 _ (by omega) (by rw [hVe]; simp) (by rw [hVe]; simp), hm, n0, n1, v', fun h => ⟨(eval_put_ne a 33 45 _ (by decide)).trans (n2 h).1, (n2 h).2⟩, fun h => (eval_put_ne a 33 3 _ (by decide)).trans (n3 h), n4, fun h => (eval_put_ne a 33 3 _ (by decide)).trans (n5 h)⟩
        · obtain rfl := Option.some.inj ho
          have d19 : f 19 = true := hdep ⟨19, .data⟩ (by simp) rfl
          refine wp_conv832 5 61 (.tmp 33) rfl Try.underlying5 Try.underlying61 x2 c2 (hv 19 33 (.int .u8 x2) (by rw [hVe]; simp) d19) ?_
          exact ⟨hoff.put 34 _ (by simp), vals_put hV 20 34 _ (by omega) (by rw [hVe]; simp) (by rw [hVe]; simp), hm, n0, n1, v', fun h => ⟨(eval_put_ne a 34 45 _ (by decide)).trans (n2 h).1, (n2 h).2⟩, fun h => (eval_put_ne a 34 3 _ (by decide)).trans (n3 h), n4, fun h => (eval_put_ne a 34 3 _ (by decide)).trans (n5 h)⟩
        · obtain rfl := Option.some.inj ho
          have d20 : f 20 = true := hdep ⟨20, .data⟩ (by simp) rfl
          refine wp_shlU32 61 62 (.tmp 34) (.const (.int .u64 8)) rfl Try.underlying61 x2 ((x2 : Int) * 256) 8 (by decide) (hv 20 34 (.int .u32 x2) (by rw [hVe]; simp) d20) rfl (by omega) ?_
          exact ⟨hoff.put 35 _ (by simp), vals_put hV 21 35 _ (by omega) (by rw [hVe]; simp) (by rw [hVe]; simp), hm, n0, n1, v', fun h => ⟨(eval_put_ne a 35 45 _ (by decide)).trans (n2 h).1, (n2 h).2⟩, fun h => (eval_put_ne a 35 3 _ (by decide)).trans (n3 h), n4, fun h => (eval_put_ne a 35 3 _ (by decide)).trans (n5 h)⟩
        · obtain rfl := Option.some.inj ho
          have d14 : f 14 = true := hdep ⟨14, .data⟩ (by simp) rfl
          have d21 : f 21 = true := hdep ⟨21, .data⟩ (by simp) rfl
          refine wp_addU32 61 61 (.tmp 28) (.tmp 35) rfl Try.underlying61 ((x0 : Int) * 16777216 + (x1 : Int) * 65536) ((x2 : Int) * 256) ((x0 : Int) * 16777216 + (x1 : Int) * 65536 + (x2 : Int) * 256) (hv 14 28 (.int .u32 ((x0 : Int) * 16777216 + (x1 : Int) * 65536)) (by rw [hVe]; simp) d14) (hv 21 35 (.int .u32 ((x2 : Int) * 256)) (by rw [hVe]; simp) d21) (by omega) ?_
          exact ⟨hoff.put 36 _ (by simp), vals_put hV 22 36 _ (by omega) (by rw [hVe]; simp) (by rw [hVe]; simp), hm, n0, n1, v', fun h => ⟨(eval_put_ne a 36 45 _ (by decide)).trans (n2 h).1, (n2 h).2⟩, fun h => (eval_put_ne a 36 3 _ (by decide)).trans (n3 h), n4, fun h => (eval_put_ne a 36 3 _ (by decide)).trans (n5 h)⟩
        · obtain rfl := Option.some.inj ho
          refine wp_move (.tmp 0) rfl ?_
          rw [((hoff.eval 0 (by simp)).trans hA0)]
          exact ⟨hoff.put 37 _ (by simp), vals_put hV 23 37 _ (by omega) (by rw [hVe]; simp) (by rw [hVe]; simp), hm, n0, n1, v', fun h => ⟨(eval_put_ne a 37 45 _ (by decide)).trans (n2 h).1, (n2 h).2⟩, fun h => (eval_put_ne a 37 3 _ (by decide)).trans (n3 h), n4, fun h => (eval_put_ne a 37 3 _ (by decide)).trans (n5 h)⟩
        · obtain rfl := Option.some.inj ho
          refine wp_move (.tmp 4) rfl ?_
          rw [((hoff.eval 4 (by simp)).trans hA4)]
          exact ⟨hoff.put 38 _ (by simp), vals_put hV 24 38 _ (by omega) (by rw [hVe]; simp) (by rw [hVe]; simp), hm, n0, n1, v', fun h => ⟨(eval_put_ne a 38 45 _ (by decide)).trans (n2 h).1, (n2 h).2⟩, fun h => (eval_put_ne a 38 3 _ (by decide)).trans (n3 h), n4, fun h => (eval_put_ne a 38 3 _ (by decide)).trans (n5 h)⟩
        · obtain rfl := Option.some.inj ho
          have d24 : f 24 = true := hdep ⟨24, .data⟩ (by simp) rfl
          refine wp_mul64 3 3 (.const (.int .i64 4)) (.tmp 38) rfl Try.underlying3 4 k rfl (hv 24 38 (.int .i64 k) (by rw [hVe]; simp) d24) (by omega) (by omega) ?_
          exact ⟨hoff.put 39 _ (by simp), vals_put hV 25 39 _ (by omega) (by rw [hVe]; simp) (by rw [hVe]; simp), hm, n0, n1, v', fun h => ⟨(eval_put_ne a 39 45 _ (by decide)).trans (n2 h).1, (n2 h).2⟩, fun h => (eval_put_ne a 39 3 _ (by decide)).trans (n3 h), n4, fun h => (eval_put_ne a 39 3 _ (by decide)).trans (n5 h)⟩
        · obtain rfl := Option.some.inj ho
          have d25 : f 25 = true := hdep ⟨25, .data⟩ (by simp) rfl
          refine wp_add64 3 3 (.tmp 39) (.const (.int .i64 3)) rfl Try.underlying3 (4 * (k : Int)) 3 (hv 25 39 (.int .i64 (4 * (k : Int))) (by rw [hVe]; simp) d25) rfl (by omega) (by omega) ?_
          exact ⟨hoff.put 40 _ (by simp), vals_put hV 26 40 _ (by omega) (by rw [hVe]; simp) (by rw [hVe]; simp), hm, n0, n1, v', fun h => ⟨(eval_put_ne a 40 45 _ (by decide)).trans (n2 h).1, (n2 h).2⟩, fun h => (eval_put_ne a 40 3 _ (by decide)).trans (n3 h), n4, fun h => (eval_put_ne a 40 3 _ (by decide)).trans (n5 h)⟩
        · obtain rfl := Option.some.inj ho
          have d23 : f 23 = true := hdep ⟨23, .data⟩ (by simp) rfl
          have d26 : f 26 = true := hdep ⟨26, .data⟩ (by simp) rfl
          refine wp_index_str 9 (.tmp 37) (.tmp 40) rfl _ _ (.int .u8 x3) (hv 23 37 (.string b) (by rw [hVe]; simp) d23) (hv 26 40 (.int .i64 (4 * (k : Int) + 3)) (by rw [hVe]; simp) d26) i3' ?_
          exact ⟨hoff.put 41 _ (by simp), vals_put hV 27 41 _ (by omega) (by rw [hVe]; simp) (by rw [hVe]; simp), hm, n0, n1, v', fun h => ⟨(eval_put_ne a 41 45 _ (by decide)).trans (n2 h).1, (n2 h).2⟩, fun h => (eval_put_ne a 41 3 _ (by decide)).trans (n3 h), n4, fun h => (eval_put_ne a 41 3 _ (by decide)).trans (n5 h)⟩
        · obtain rfl := Option.some.inj ho
          have d27 : f 27 = true := hdep ⟨27, .data⟩ (by simp) rfl
          refine wp_conv832 5 61 (.tmp 41) rfl Try.underlying5 Try.underlying61 x3 c3 (hv 27 41 (.int .u8 x3) (by rw [hVe]; simp) d27) ?_
          exact ⟨hoff.put 42 _ (by simp), vals_put hV 28 42 _ (by omega) (by rw [hVe]; simp) (by rw [hVe]; simp), hm, n0, n1, v', fun h => ⟨(eval_put_ne a 42 45 _ (by decide)).trans (n2 h).1, (n2 h).2⟩, fun h => (eval_put_ne a 42 3 _ (by decide)).trans (n3 h), n4, fun h => (eval_put_ne a 42 3 _ (by decide)).trans (n5 h)⟩
        · obtain rfl := Option.some.inj ho
          have d22 : f 22 = true := hdep ⟨22, .data⟩ (by simp) rfl
          have d28 : f 28 = true := hdep ⟨28, .data⟩ (by simp) rfl
          refine wp_addU32 61 61 (.tmp 36) (.tmp 42) rfl Try.underlying61 ((x0 : Int) * 16777216 + (x1 : Int) * 65536 + (x2 : Int) * 256) (x3) ((x0 : Int) * 16777216 + (x1 : Int) * 65536 + (x2 : Int) * 256 + x3) (hv 22 36 (.int .u32 ((x0 : Int) * 16777216 + (x1 : Int) * 65536 + (x2 : Int) * 256)) (by rw [hVe]; simp) d22) (hv 28 42 (.int .u32 x3) (by rw [hVe]; simp) d28) (by omega) ?_
          exact ⟨hoff.put 43 _ (by simp), vals_put hV 29 43 _ (by omega) (by rw [hVe]; simp) (by rw [hVe]; simp), hm, n0, n1, v', fun h => ⟨(eval_put_ne a 43 45 _ (by decide)).trans (n2 h).1, (n2 h).2⟩, fun h => (eval_put_ne a 43 3 _ (by decide)).trans (n3 h), n4, fun h => (eval_put_ne a 43 3 _ (by decide)).trans (n5 h)⟩
        · obtain rfl := Option.some.inj ho
          have d29 : f 29 = true := hdep ⟨29, .data⟩ (by simp) rfl
          have f31 : f 31 = false := by
            cases hf : f 31 with
            | false => rfl
            | true => exact absurd (hm hf).1 (by rw [hfi]; simp)
          have hW := n0 hfi
          subst hW
          refine wp_buildR 57 1 #[(0, .tmp 43)] rfl #[(0, .int .u32 ((x0 : Int) * 16777216 + (x1 : Int) * 65536 + (x2 : Int) * 256 + x3))] (by simp [hv 29 43 (.int .u32 ((x0 : Int) * 16777216 + (x1 : Int) * 65536 + (x2 : Int) * 256 + x3)) (by rw [hVe]; simp) d29]) _ _ (build32_1 _ _) ?_
          exact ⟨hoff.put 44 _ (by simp), vals_put hV 30 44 _ (by omega) (by rw [hVe]; simp) (by rw [hVe]; simp), fun h => absurd h (by show ¬ f 31 = true; rw [f31]; simp), fun h => (by cases h), fun _ _ => rfl, v', fun h => absurd h (by show ¬ f 31 = true; rw [f31]; simp), fun h => (eval_put_ne a 44 3 _ (by decide)).trans (n3 h), n4, fun h => (eval_put_ne a 44 3 _ (by decide)).trans (n5 h)⟩
        · obtain rfl := Option.some.inj ho
          have d0 : f 0 = true := hdep ⟨0, .data⟩ (by simp) rfl
          have d30 : f 30 = true := hdep ⟨30, .data⟩ (by simp) rfl
          have f32 : f 32 = false := by
            cases hf : f 32 with
            | false => rfl
            | true => exact absurd (n4 hf) (by rw [hfi]; simp)
          have hW := n1 d30 hfi
          subst hW
          refine wp_append_own _ (.tmp 14) (.tmp 44) 57 rfl w.heap.size 61 i0 (.int .u32 0) 1 4 Try.undW hi hz0 hz1 hz2 rfl (by decide) (.slice ao k cap) k _ (hv 0 14 (.slice ao k cap) (by rw [hVe]; simp) d0) ((unhide HOW).alloc _) ⟨W0.heap.size, 0, none⟩ 1 1 [.int .u32 ((x0 : Int) * 16777216 + (x1 : Int) * 65536 + (x2 : Int) * 256 + x3)] (hv 30 44 (.slice (some ⟨W0.heap.size, 0, none⟩) 1 1) (by rw [hVe]; simp) d30) (by rfl) (news_lit _ [_] _) (by intro u hu; simp at hu; subst hu; rfl) (by unfold maxLen; omega) (by omega) (by simp; have := hzW; omega) ?_
          intro v2 w3 hown' hgrow _
          exact ⟨hoff.put 45 _ (by simp), vals_put hV 31 45 _ (by omega) (by rw [hVe]; simp) (by rw [hVe]; simp), fun _ => ⟨d30, d0⟩, fun h => absurd h (by show ¬ f 30 = false; rw [d30]; simp), fun _ h => (by cases h), v2, fun _ => ⟨eval_put_same a 45 _ (by omega), hown', ((unhide HBW).alloc hzW _).grown hgrow (by simp; have := hzW; omega) (fun k hk => (((unhide HOW).lt k hk).1))⟩, fun h => absurd h (by show ¬ f 32 = true; rw [f32]; simp), fun h => absurd h (by show ¬ f 32 = true; rw [f32]; simp), fun h => (eval_put_ne a 45 3 _ (by decide)).trans (n5 h)⟩
        · obtain rfl := Option.some.inj ho
          have d31 : f 31 = true := hdep ⟨31, .data⟩ (by simp) rfl
          refine wp_assign (.tmp 45) rfl ?_
          rw [(n2 d31).1]
          exact ⟨hoff.put 3 _ (by simp), vals_put hV 32 3 _ (by omega) (by rw [hVe]; simp) (by rw [hVe]; simp), hm, n0, n1, v', fun h => ⟨(eval_put_ne a 3 45 _ (by decide)).trans (n2 h).1, (n2 h).2⟩, fun _ => eval_put_same a 3 _ (by omega), fun _ => d31, fun h => (by cases h)⟩
        · simp at ho
      case fin =>
        rintro f a w3 ⟨hoff, hV, hm, n0, n1, v', n2, n3, n4, n5⟩ hall
        have e := Off.all _ _ hoff
        obtain ⟨e45, hown', hb0⟩ := n2 (hall 31 (by decide))
        have e3 := n3 (hall 32 (by decide))
        simp only [List.foldl_cons, List.foldl_nil] at e
        rw [← hA, e3] at e
        generalize a.eval (.tmp 14) = y14, a.eval (.tmp 15) = y15, a.eval (.tmp 16) = y16, a.eval (.tmp 17) = y17, a.eval (.tmp 18) = y18, a.eval (.tmp 19) = y19, a.eval (.tmp 20) = y20, a.eval (.tmp 21) = y21, a.eval (.tmp 22) = y22, a.eval (.tmp 23) = y23, a.eval (.tmp 24) = y24, a.eval (.tmp 25) = y25, a.eval (.tmp 26) = y26, a.eval (.tmp 27) = y27, a.eval (.tmp 28) = y28, a.eval (.tmp 29) = y29, a.eval (.tmp 30) = y30, a.eval (.tmp 31) = y31, a.eval (.tmp 32) = y32, a.eval (.tmp 33) = y33, a.eval (.tmp 34) = y34, a.eval (.tmp 35) = y35, a.eval (.tmp 36) = y36, a.eval (.tmp 37) = y37, a.eval (.tmp 38) = y38, a.eval (.tmp 39) = y39, a.eval (.tmp 40) = y40, a.eval (.tmp 41) = y41, a.eval (.tmp 42) = y42, a.eval (.tmp 43) = y43, a.eval (.tmp 44) = y44, a.eval (.tmp 45) = y45 at e
        simp only [Act.put, List.setIfInBounds_toArray, List.set_cons_succ, List.set_cons_zero] at e
        subst e
        have hb' := hide hb0
        have ho2 : Hid (w3.ownsRow w.heap.size 61 1 v' (k + 1) (uc ((schedN b.data.toList 0).take (k + 1)))) := by
          show World.ownsRow _ _ _ _ _ _ _
          rw [unhide htk, uc_append, show uc [wpart b.data.toList 64 k] = [.int .u32 ((x0 : Int) * 16777216 + (x1 : Int) * 65536 + (x2 : Int) * 256 + x3)] by simp [uc, unhide hv]]
          exact hown'
        obtain ⟨ao', cap', rfl⟩ := own_shape' hown'
        clear hown' HO HBB hoff hV hA hA0 hA3 hA4 hVe n0 n1 n2 n3 n4 n5 hm e45 e3 hb0 HOW HBW hW0
        go_wp2
        go_roundw
        case rel => exact ⟨k + 1, by omega, by go_num, unhide ho2, unhide hb'⟩
        case measure => simp [intOf]; omega
    · have hke : k = 16 := by omega
      have HK := hide hke
      rw [List.take_of_length_le (by rw [schedN_length]; omega)] at HO
      have hk16 : ¬ (k : Int) < 16 := by omega
      clear hlt hk hke
      go_wp2
      clear hk16
      go_loopw [3, 5] (fun v i wr => ∃ n t : Nat, n ≤ 48 ∧ t = 16 + n ∧ i = .int .i64 t ∧ wr.ownsRow w.heap.size 61 1 v t (uc (schedN b.data.toList n)) ∧ Below w.heap.size w wr) (fun _ i _ => 64 - (intOf i).toNat)
      case atStart => exact ⟨0, 16, Nat.zero_le _, rfl, rfl, by have h := unhide HO; have e := unhide HK; subst e; exact h, unhide HBB⟩
      case round =>
        clear HO HBB hz
        obtain ⟨n, t, hn, ht, rfl, hown, hb⟩ := hrel
        obtain ⟨g, cap', rfl, hg1, hg2, hc⟩ := own_words hown (by omega)
        have hz := hb.size
        have HO := hide hown
        have HBB := hide hb
        clear hown hb
        by_cases hlt : n < 48
        · have hl := schedN_length b.data.toList n
          have gx : ∀ j, j < 16 + n → wr.cell? ⟨g, j, none⟩ = some (.int .u32 (n32 ((schedN b.data.toList n).getD j 0))) := by
            intro j hj
            rw [hc j (by omega), getD_of_lt _ _ (by omega)]
          have e15 := gx (t - 15) (by omega)
          have e2 := gx (t - 2) (by omega)
          have e7 := gx (t - 7) (by omega)
          have e16 := gx (t - 16) (by omega)
          have HT := hide ht
          have hnx : Hid (nextW (schedN b.data.toList n) = s1 ((schedN b.data.toList n).getD (t - 2) 0) + (schedN b.data.toList n).getD (t - 7) 0 + s0 ((schedN b.data.toList n).getD (t - 15) 0) + (schedN b.data.toList n).getD (t - 16) 0) := by
            show _ = _
            unfold nextW
            rw [hl, ← ht]
          have t0 : (16 : Int) ≤ t := by omega
          have t9 : (t : Int) < 64 := by omega
          have t02 : (2 : Int) ≤ t := by omega
          have t07 : (7 : Int) ≤ t := by omega
          have t015 : (15 : Int) ≤ t := by omega
          generalize (schedN b.data.toList n).getD (t - 15) 0 = x15 at *
          generalize (schedN b.data.toList n).getD (t - 2) 0 = x2 at *
          generalize (schedN b.data.toList n).getD (t - 7) 0 = x7 at *
          generalize (schedN b.data.toList n).getD (t - 16) 0 = x16 at *
          clear gx hl ht hc
          go_wp2_with (go_at_call 39; refine (rrotr_j _ _ _ (by decide) (by decide)).mono ?_; rintro e w' ⟨rfl, rfl⟩)
          obtain ⟨t7, ht7⟩ : ∃ t7, t7 = t - 7 := ⟨_, rfl⟩
          obtain ⟨t16, ht16⟩ : ∃ t16, t16 = t - 16 := ⟨_, rfl⟩
          rw [← ht7] at e7
          rw [← ht16] at e16
          have w7 : IntKind.i64.wrap ((t : Int) - 7) = t7 := by rw [wrapI _ (by omega) (by omega)]; omega
          have w16 : IntKind.i64.wrap ((t : Int) - 16) = t16 := by rw [wrapI _ (by omega) (by omega)]; omega
          have b7 : (t7 : Int) < t := by omega
          have b16 : (t16 : Int) < t := by omega
          have n7 : t7 < t := by omega
          have n16 : t16 < t := by omega
          clear ht7 ht16
          go_region_law ((refine step_append_own rfl (.tmp 76) (.tmp 92) 57 rfl w.heap.size 61 i0 (.int .u32 0) 1 4 Try.undW hi hz0 hz1 hz2 rfl (by decide) (.slice (some ⟨g, 0, none⟩) t cap') t _ (by rfl) ((unhide HO).alloc _) ⟨wr.heap.size, 0, none⟩ 1 1 [.int .u32 (n32 ((rot x2 17 ^^^ rot x2 19 ^^^ x2 >>> 10) + x7 + (rot x15 7 ^^^ rot x15 18 ^^^ x15 >>> 3) + x16))] (by rfl) (by rfl) (news_lit _ [_] _) (by intro u hu; simp at hu; subst hu; rfl) (by unfold maxLen; omega) (by omega) (by simp; omega) ?_; intro v' w3 hown' hgrow))
          all_goals
            have hb' := hide ((((unhide HBB).alloc (by omega) _).drew).grown hgrow (by simp; omega) (fun k hk => (((unhide HO).lt k hk).1)))
            have ho2 : Hid (w3.ownsRow w.heap.size 61 1 v' (t + 1) (uc (schedN b.data.toList (n + 1)))) := by
              show World.ownsRow _ _ _ _ _ _ _
              rw [show schedN b.data.toList (n + 1) = schedN b.data.toList n ++ [nextW (schedN b.data.toList n)] from rfl, uc_append, unhide hnx]
              exact hown'
            obtain ⟨ao', cap'', rfl⟩ := own_shape' hown'
            clear hown' hgrow HO HBB e15 e2 e7 e16
            go_wp2
            go_roundw
            case rel => exact ⟨n + 1, t + 1, by omega, by rw [unhide HT]; omega, by go_num, unhide ho2, unhide hb'⟩
            case measure => simp [intOf]; omega
        · have hne : n = 48 := by omega
          subst hne
          subst ht
          go_wp2
          go_ret
          exact ⟨_, rfl, unhide HO, unhide HBB⟩

end Go.Proofs.Ytiaohpkcncbdnab

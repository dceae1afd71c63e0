/- Contracts of link's regroup. -/
import Derived.Test.YtgcfmgkhbenooaaLkF
import Derived.ScopeJumps
import Derived.WalkMore
namespace Go.Proofs.Ytgcfmgkhbenooaa
open Go.RowKit
set_option linter.unusedVariables false

/-- bits of groups of one count gathered into groups of another one -/
def rgF (fr to : Nat) : Nat → List UInt8 → List UInt8 → Nat → Nat → List UInt8 × Nat × Nat
  | 0, _, out, held, count => (out, held, count)
  | f + 1, gs, out, held, count => if to ≤ count then rgF fr to f gs (out ++ [UInt8.ofNat (held / 2 ^ (count - to))]) (held % 2 ^ (count - to)) (count - to) else match gs with
    | [] => (out, held, count)
    | g :: gs' => rgF fr to f gs' out (held * 2 ^ fr + g.toNat) (count + fr)
def rgA (fr to : Nat) (gs : List UInt8) : List UInt8 × Nat × Nat := rgF fr to ((fr + 1) * gs.length + 1) gs [] 0 0

theorem rgF_emit (fr to f : Nat) (gs out : List UInt8) (h c : Nat) (hto : to ≤ c) (hf : 1 ≤ f) : rgF fr to f gs out h c = rgF fr to (f - 1) gs (out ++ [UInt8.ofNat (h / 2 ^ (c - to))]) (h % 2 ^ (c - to)) (c - to) := by
  obtain ⟨n, rfl⟩ : ∃ n, f = n + 1 := ⟨f - 1, by omega⟩
  rw [rgF.eq_def]
  simp only [hto, if_true, Nat.add_sub_cancel]
theorem rgF_take (fr to f : Nat) (b : UInt8) (gs out : List UInt8) (h c : Nat) (hto : ¬ to ≤ c) (hf : 1 ≤ f) : rgF fr to f (b :: gs) out h c = rgF fr to (f - 1) gs out (h * 2 ^ fr + b.toNat) (c + fr) := by
  obtain ⟨n, rfl⟩ : ∃ n, f = n + 1 := ⟨f - 1, by omega⟩
  rw [rgF.eq_def]
  simp only [hto, if_false, Nat.add_sub_cancel]
theorem rgF_done (fr to f : Nat) (out : List UInt8) (h c : Nat) (hto : ¬ to ≤ c) (hf : 1 ≤ f) : rgF fr to f [] out h c = (out, h, c) := by
  obtain ⟨n, rfl⟩ : ∃ n, f = n + 1 := ⟨f - 1, by omega⟩
  rw [rgF.eq_def]
  simp only [hto, if_false]

theorem andm (k n : Nat) (hk : k ≤ 12) (hn : n < 8192) : bits .and .i64 (n : Int) (((2 ^ k - 1 : Nat)) : Int) = ((n % 2 ^ k : Nat) : Int) := by
  have h0 : 2 ^ k ≤ 2 ^ 12 := Nat.pow_le_pow_right (by decide) hk
  have hm : (BitVec.ofInt 64 (((2 ^ k - 1 : Nat)) : Int)).toNat = 2 ^ k - 1 := by
    rw [BitVec.toNat_ofInt]
    have := Nat.two_pow_pos k
    omega
  have key : (BitVec.ofInt 64 (n : Int) &&& BitVec.ofInt 64 (((2 ^ k - 1 : Nat)) : Int)).toNat = n % 2 ^ k := by
    rw [BitVec.toNat_and, hm, Nat.and_two_pow_sub_one_eq_mod, BitVec.toNat_ofInt]
    have : ((n : Int) % ((2 ^ 64 : Nat) : Int)).toNat = n := by omega
    rw [this]
  show IntKind.i64.wrap ((BitVec.ofInt 64 (n : Int) &&& BitVec.ofInt 64 (((2 ^ k - 1 : Nat)) : Int)).toNat : Nat) = _
  rw [key, IntKind.wrap_i64]
  have := Nat.mod_le n (2 ^ k)
  omega
theorem orj (fr : Nat) (h b : Nat) (hf : fr ≤ 8) (hh : h < 4096) (hb : b < 2 ^ fr) : bits .or .i64 ((h : Int) * ((2 ^ fr : Nat) : Int)) (b : Int) = ((h * 2 ^ fr + b : Nat) : Int) := by
  have h0 : 2 ^ fr ≤ 2 ^ 8 := Nat.pow_le_pow_right (by decide) hf
  have e : (h : Int) * ((2 ^ fr : Nat) : Int) = ((h * 2 ^ fr : Nat) : Int) := by simp
  have hle : h * 2 ^ fr ≤ 4096 * 2 ^ 8 := Nat.mul_le_mul (by omega) h0
  have key : (BitVec.ofInt 64 ((h * 2 ^ fr : Nat) : Int) ||| BitVec.ofInt 64 (b : Int)).toNat = h * 2 ^ fr + b := by
    rw [BitVec.toNat_or, BitVec.toNat_ofInt, BitVec.toNat_ofInt]
    have e1 : (((h * 2 ^ fr : Nat) : Int) % ((2 ^ 64 : Nat) : Int)).toNat = h * 2 ^ fr := by omega
    have e2 : ((b : Int) % ((2 ^ 64 : Nat) : Int)).toNat = b := by omega
    rw [e1, e2, Nat.mul_comm, ← Nat.two_pow_add_eq_or_of_lt hb]
  rw [e]
  show IntKind.i64.wrap ((BitVec.ofInt 64 ((h * 2 ^ fr : Nat) : Int) ||| BitVec.ofInt 64 (b : Int)).toNat : Nat) = _
  rw [key, IntKind.wrap_i64]
  omega

theorem wrapB (b : UInt8) : wrap64 ((b.toNat : Nat) : Int) = ((b.toNat : Nat) : Int) ∧ IntKind.i64.wrap ((b.toNat : Nat) : Int) = ((b.toNat : Nat) : Int) := by
  have := b.toNat_lt
  exact ⟨IntWalk.wrap64_in _ ⟨by omega, by omega⟩, by rw [IntKind.wrap_i64]; omega⟩
theorem wrapH (h p : Nat) (hh : h < 4096) (hp : p ≤ 256) : IntKind.i64.wrap (((h : Nat) : Int) * ((p : Nat) : Int)) = ((h : Nat) : Int) * ((p : Nat) : Int) := by
  have h1 : h * p ≤ 4096 * 256 := Nat.mul_le_mul (by omega) hp
  have e : ((h : Nat) : Int) * ((p : Nat) : Int) = ((h * p : Nat) : Int) := by simp
  rw [e, IntKind.wrap_i64]; omega

set_option maxRecDepth 100000 in
set_option maxHeartbeats 2000000 in
theorem regroup85 (gs : List UInt8) (g cp : Nat) (w : World) (hL : gs.length ≤ 100000) (hg : ∀ j (hj : j < gs.length), w.cell? ⟨g, j, none⟩ = some (.int .u8 (gs[j].toNat : Nat))) (hsm : ∀ b ∈ gs, b.toNat < 2 ^ 8) :
    Calls Try.prog 15 #[.slice (some ⟨g, 0, none⟩) gs.length cp, .int .i64 8, .int .i64 5] w fun e w' => ∃ (vo : Value) (h : Nat), e = .returned (.tuple #[vo, .int .u8 (h : Nat), .int .i64 ((rgA 8 5 gs).2.2 : Nat)]) ∧ Hid (h = (rgA 8 5 gs).2.1) ∧ Hid (w'.ownsRow w.heap.size 5 1 vo (rgA 8 5 gs).1.length (bc (rgA 8 5 gs).1)) ∧ Below w.heap.size w w' := by
  obtain ⟨i0, hi, hz0, hz1, hz2⟩ := info_parts Try.infoU
  have hown0 : Hid (w.ownsRow w.heap.size 5 1 (.slice none 0 0) 0 (bc [])) := World.ownsRow_nil w _ _ _
  have hst : Hid (rgF 8 5 ((8 + 1) * gs.length + 1) gs [] 0 0 = rgA 8 5 gs) := rfl
  generalize rgA 8 5 gs = RES at *
  have HG := hide hg
  clear hg
  have hgl0 : Hid (0 < gs.length → g < w.heap.size) := fun h0 => by
    have := unhide HG 0 h0
    rcases Nat.lt_or_ge g w.heap.size with h' | h'
    · exact h'
    · simp [World.cell?, Array.getElem?_eq_none h'] at this
  go_enter Try.func15, Try.ntmps15
  go_wp2
  refine wp_scope_jumps 0 (fun a' w' => ∃ (i h c f : Nat) (LL : List UInt8) (vo : Value) (u3 u4 u5 u7 u11 u12 u13 u14 u15 u16 u17 u18 u19 u20 u21 u22 u23 u24 u25 u26 u27 u28 u29 u30 u31 u32 u33 u34 u35 u36 u37 u38 u39 u40 u41 u42 u43 u44 u45 u46 u47 u48 u49 u50 : Value), a' = { tmps := #[.slice (some ⟨g, 0, none⟩) gs.length cp, .int .i64 8, .int .i64 5, u3, u4, u5, vo, u7, .int .i64 (c : Nat), .int .i64 (h : Nat), .int .i64 (i : Nat), u11, u12, u13, u14, u15, u16, u17, u18, u19, u20, u21, u22, u23, u24, u25, u26, u27, u28, u29, u30, u31, u32, u33, u34, u35, u36, u37, u38, u39, u40, u41, u42, u43, u44, u45, u46, u47, u48, u49, u50], defers := [] } ∧ i ≤ gs.length ∧ c ≤ 12 ∧ h < 2 ^ c ∧ Hid (LL.length * 5 + c = i * 8) ∧ Hid (c + 9 * (gs.length - i) + 1 ≤ f ∧ rgF 8 5 f (gs.drop i) LL h c = RES) ∧ Hid (w'.ownsRow w.heap.size 5 1 vo LL.length (bc LL)) ∧ Hid (Below w.heap.size w w')) (fun a' _ => (intOf (a'.tmps.getD 8 undef)).toNat + 9 * (gs.length - (intOf (a'.tmps.getD 10 undef)).toNat)) rfl ?_ ?_
  · by_cases hlt : 0 < gs.length
    · have hgl : g < w.heap.size := unhide hgl0 hlt
      have hbm := hsm gs[0] (List.getElem_mem hlt)
      have hcell := unhide HG 0 hlt
      have hF2 : Hid (8 + 9 * (gs.length - 1) + 1 ≤ (8 + 1) * gs.length + 1 - 1 ∧ rgF 8 5 ((8 + 1) * gs.length + 1 - 1) (gs.drop 1) [] gs[0].toNat 8 = RES) := by
        have q2 := unhide hst
        refine ⟨by omega, ?_⟩
        have hd : gs = gs[0] :: gs.drop 1 := by
          have := List.drop_eq_getElem_cons hlt
          rwa [List.drop_zero] at this
        have q3 : rgF 8 5 ((8 + 1) * gs.length + 1) (gs[0] :: gs.drop 1) [] 0 0 = RES := by rw [← hd]; exact q2
        rw [rgF_take 8 5 _ _ _ _ _ _ (by decide) (by omega), Nat.zero_mul, Nat.zero_add, Nat.zero_add] at q3
        exact q3
      have hor : bits .or .i64 0 ((gs[0].toNat : Nat) : Int) = ((gs[0].toNat : Nat) : Int) := by
        have := orj 8 0 gs[0].toNat (by decide) (by decide) hbm
        simpa using this
      have hl2 : (0 : Int) < ((gs.length : Nat) : Int) := by omega
      obtain ⟨hwb, hwc⟩ := wrapB gs[0]
      obtain ⟨bv, hbv⟩ : ∃ bv, bv = gs[0].toNat := ⟨_, rfl⟩
      rw [← hbv] at hbm hcell hF2 hor hwb hwc
      have Hbm := hide hbm
      clear hbm hbv
      go_wp2
      go_step3
      go_wp2
      go_region
      go_wp2
      go_step3
      refine ⟨rfl, 1, bv, 8, _, [], _, _, _, _, _, _, _, _, _, _, _, _, _, _, _, _, _, _, _, _, _, _, _, _, _, _, _, _, _, _, _, _, _, _, _, _, _, _, _, _, _, _, _, _, _, rfl, hlt, by decide, unhide Hbm, by show _ = _; simp, hF2, (unhide hown0).drew, ((Below.refl _ _).drew)⟩
    · have hz : gs = [] := List.eq_nil_of_length_eq_zero (by omega)
      subst hz
      have hR : RES = ([], 0, 0) := by
        have q2 := unhide hst
        rw [rgF_done 8 5 _ _ _ _ (by decide) (by omega)] at q2
        exact q2.symm
      have HR := hide hR
      clear hR hlt HG hsm hL hst hgl0
      go_wp2
      go_step3
      go_wp2
      simp only [Exit.jump]
      go_ret3
      refine ⟨.slice none 0 0, 0, ?_, ?_, ?_, Below.refl _ _⟩
      · rw [unhide HR]; rfl
      · rw [unhide HR]; rfl
      · rw [unhide HR]; exact unhide hown0
  · rintro a' w' ⟨i, h, c, f, LL, vo, u3, u4, u5, u7, u11, u12, u13, u14, u15, u16, u17, u18, u19, u20, u21, u22, u23, u24, u25, u26, u27, u28, u29, u30, u31, u32, u33, u34, u35, u36, u37, u38, u39, u40, u41, u42, u43, u44, u45, u46, u47, u48, u49, u50, rfl, hil, hc, hh, hLL, HF, HO, HB⟩
    have hz := (unhide HB).size
    obtain ⟨ao, cap, rfl⟩ := own_shape' (unhide HO)
    by_cases hct : 5 ≤ c
    · have hcc : c = 5 ∨ c = 6 ∨ c = 7 ∨ c = 8 ∨ c = 9 ∨ c = 10 ∨ c = 11 ∨ c = 12 := by omega
      rcases hcc with rfl | rfl | rfl | rfl | rfl | rfl | rfl | rfl
      · have hle : LL.length * 5 + 5 = i * 8 := unhide hLL
        have hln : LL.length ≤ 200000 := by omega
        have hv : h / 1 < 256 := by omega
        have hand : bits .and .i64 ((h : Nat) : Int) (0 : Int) = ((h % 1 : Nat) : Int) := andm 0 h (by decide) (by omega)
        have hvb : Hid (bc [UInt8.ofNat (h / 1)] = [.int .u8 ((h / 1 : Nat) : Int)]) := by
          show bc _ = _
          simp only [bc, List.map_cons, List.map_nil]
          rw [ofN_toN _ hv]
        have hdv : ((h : Nat) : Int) / 1 = ((h / 1 : Nat) : Int) := by omega
        have hwv := wrap256 (h / 1) hv
        have hml : h % 1 < 2 ^ 0 := Nat.mod_lt _ (by decide)
        have hF2 : Hid (0 + 9 * (gs.length - i) + 1 ≤ f - 1 ∧ rgF 8 5 (f - 1) (gs.drop i) (LL ++ [UInt8.ofNat (h / 1)]) (h % 1) 0 = RES) := by
          obtain ⟨q1, q2⟩ := unhide HF
          refine ⟨by omega, ?_⟩
          rw [rgF_emit 8 5 f _ _ _ _ hct (by omega)] at q2
          exact q2
        have hQ2 : Hid ((LL ++ [UInt8.ofNat (h / 1)]).length * 5 + 0 = i * 8) := by show _ = _; rw [List.length_append, List.length_singleton]; omega
        generalize hq : h / 1 = q at *
        generalize hm : h % 1 = m at *
        clear hq hm hle
        go_wp2_with (at_builtin; refine wpList_append_own _ rfl _ _ 30 rfl w.heap.size 5 i0 (.int .u8 0) 1 1 Try.undB hi hz0 hz1 hz2 rfl (by decide) _ _ _ rfl ((unhide HO).alloc _) ⟨w'.heap.size, 0, none⟩ 1 1 [.int .u8 (q : Nat)] rfl rfl (news_lit _ [_] _) ?p5 ?q5 ?r5 ?s5 ?_)
        case p5 => intro u hu; simp at hu; subst hu; rfl
        case q5 => unfold maxLen; omega
        case r5 => omega
        case s5 => simp; omega
        intro v' w2 hown2 hgrow2 _
        have hb2 : Below w.heap.size w w2 := ((unhide HB).alloc (by omega) _).grown hgrow2 (by simp; omega) (fun k hk => ((unhide HO).lt k hk).1)
        have ho3 : Hid (w2.ownsRow w.heap.size 5 1 v' (LL ++ [UInt8.ofNat q]).length (bc (LL ++ [UInt8.ofNat q]))) := by
          show World.ownsRow _ _ _ _ _ _ _
          rw [bc_append, List.length_append, unhide hvb]
          exact hown2
        have HB2 := hide hb2
        obtain ⟨ao', cap', rfl⟩ := own_shape' hown2
        clear hown2 hgrow2 hb2 HO HB
        go_wp2
        go_step3
        refine ⟨rfl, ⟨i, m, 0, f - 1, LL ++ [UInt8.ofNat q], _, _, _, _, _, _, _, _, _, _, _, _, _, _, _, _, _, _, _, _, _, _, _, _, _, _, _, _, _, _, _, _, _, _, _, _, _, _, _, _, _, _, _, _, _, rfl, hil, by decide, hml, hQ2, hF2, ho3, HB2⟩, ?_⟩
        simp [intOf]
      · have hle : LL.length * 5 + 6 = i * 8 := unhide hLL
        have hln : LL.length ≤ 200000 := by omega
        have hv : h / 2 < 256 := by omega
        have hand : bits .and .i64 ((h : Nat) : Int) (1 : Int) = ((h % 2 : Nat) : Int) := andm 1 h (by decide) (by omega)
        have hvb : Hid (bc [UInt8.ofNat (h / 2)] = [.int .u8 ((h / 2 : Nat) : Int)]) := by
          show bc _ = _
          simp only [bc, List.map_cons, List.map_nil]
          rw [ofN_toN _ hv]
        have hdv : ((h : Nat) : Int) / 2 = ((h / 2 : Nat) : Int) := by omega
        have hwv := wrap256 (h / 2) hv
        have hml : h % 2 < 2 ^ 1 := Nat.mod_lt _ (by decide)
        have hF2 : Hid (1 + 9 * (gs.length - i) + 1 ≤ f - 1 ∧ rgF 8 5 (f - 1) (gs.drop i) (LL ++ [UInt8.ofNat (h / 2)]) (h % 2) 1 = RES) := by
          obtain ⟨q1, q2⟩ := unhide HF
          refine ⟨by omega, ?_⟩
          rw [rgF_emit 8 5 f _ _ _ _ hct (by omega)] at q2
          exact q2
        have hQ2 : Hid ((LL ++ [UInt8.ofNat (h / 2)]).length * 5 + 1 = i * 8) := by show _ = _; rw [List.length_append, List.length_singleton]; omega
        generalize hq : h / 2 = q at *
        generalize hm : h % 2 = m at *
        clear hq hm hle
        go_wp2_with (at_builtin; refine wpList_append_own _ rfl _ _ 30 rfl w.heap.size 5 i0 (.int .u8 0) 1 1 Try.undB hi hz0 hz1 hz2 rfl (by decide) _ _ _ rfl ((unhide HO).alloc _) ⟨w'.heap.size, 0, none⟩ 1 1 [.int .u8 (q : Nat)] rfl rfl (news_lit _ [_] _) ?p6 ?q6 ?r6 ?s6 ?_)
        case p6 => intro u hu; simp at hu; subst hu; rfl
        case q6 => unfold maxLen; omega
        case r6 => omega
        case s6 => simp; omega
        intro v' w2 hown2 hgrow2 _
        have hb2 : Below w.heap.size w w2 := ((unhide HB).alloc (by omega) _).grown hgrow2 (by simp; omega) (fun k hk => ((unhide HO).lt k hk).1)
        have ho3 : Hid (w2.ownsRow w.heap.size 5 1 v' (LL ++ [UInt8.ofNat q]).length (bc (LL ++ [UInt8.ofNat q]))) := by
          show World.ownsRow _ _ _ _ _ _ _
          rw [bc_append, List.length_append, unhide hvb]
          exact hown2
        have HB2 := hide hb2
        obtain ⟨ao', cap', rfl⟩ := own_shape' hown2
        clear hown2 hgrow2 hb2 HO HB
        go_wp2
        go_step3
        refine ⟨rfl, ⟨i, m, 1, f - 1, LL ++ [UInt8.ofNat q], _, _, _, _, _, _, _, _, _, _, _, _, _, _, _, _, _, _, _, _, _, _, _, _, _, _, _, _, _, _, _, _, _, _, _, _, _, _, _, _, _, _, _, _, _, rfl, hil, by decide, hml, hQ2, hF2, ho3, HB2⟩, ?_⟩
        simp [intOf]
      · have hle : LL.length * 5 + 7 = i * 8 := unhide hLL
        have hln : LL.length ≤ 200000 := by omega
        have hv : h / 4 < 256 := by omega
        have hand : bits .and .i64 ((h : Nat) : Int) (3 : Int) = ((h % 4 : Nat) : Int) := andm 2 h (by decide) (by omega)
        have hvb : Hid (bc [UInt8.ofNat (h / 4)] = [.int .u8 ((h / 4 : Nat) : Int)]) := by
          show bc _ = _
          simp only [bc, List.map_cons, List.map_nil]
          rw [ofN_toN _ hv]
        have hdv : ((h : Nat) : Int) / 4 = ((h / 4 : Nat) : Int) := by omega
        have hwv := wrap256 (h / 4) hv
        have hml : h % 4 < 2 ^ 2 := Nat.mod_lt _ (by decide)
        have hF2 : Hid (2 + 9 * (gs.length - i) + 1 ≤ f - 1 ∧ rgF 8 5 (f - 1) (gs.drop i) (LL ++ [UInt8.ofNat (h / 4)]) (h % 4) 2 = RES) := by
          obtain ⟨q1, q2⟩ := unhide HF
          refine ⟨by omega, ?_⟩
          rw [rgF_emit 8 5 f _ _ _ _ hct (by omega)] at q2
          exact q2
        have hQ2 : Hid ((LL ++ [UInt8.ofNat (h / 4)]).length * 5 + 2 = i * 8) := by show _ = _; rw [List.length_append, List.length_singleton]; omega
        generalize hq : h / 4 = q at *
        generalize hm : h % 4 = m at *
        clear hq hm hle
        go_wp2_with (at_builtin; refine wpList_append_own _ rfl _ _ 30 rfl w.heap.size 5 i0 (.int .u8 0) 1 1 Try.undB hi hz0 hz1 hz2 rfl (by decide) _ _ _ rfl ((unhide HO).alloc _) ⟨w'.heap.size, 0, none⟩ 1 1 [.int .u8 (q : Nat)] rfl rfl (news_lit _ [_] _) ?p7 ?q7 ?r7 ?s7 ?_)
        case p7 => intro u hu; simp at hu; subst hu; rfl
        case q7 => unfold maxLen; omega
        case r7 => omega
        case s7 => simp; omega
        intro v' w2 hown2 hgrow2 _
        have hb2 : Below w.heap.size w w2 := ((unhide HB).alloc (by omega) _).grown hgrow2 (by simp; omega) (fun k hk => ((unhide HO).lt k hk).1)
        have ho3 : Hid (w2.ownsRow w.heap.size 5 1 v' (LL ++ [UInt8.ofNat q]).length (bc (LL ++ [UInt8.ofNat q]))) := by
          show World.ownsRow _ _ _ _ _ _ _
          rw [bc_append, List.length_append, unhide hvb]
          exact hown2
        have HB2 := hide hb2
        obtain ⟨ao', cap', rfl⟩ := own_shape' hown2
        clear hown2 hgrow2 hb2 HO HB
        go_wp2
        go_step3
        refine ⟨rfl, ⟨i, m, 2, f - 1, LL ++ [UInt8.ofNat q], _, _, _, _, _, _, _, _, _, _, _, _, _, _, _, _, _, _, _, _, _, _, _, _, _, _, _, _, _, _, _, _, _, _, _, _, _, _, _, _, _, _, _, _, _, rfl, hil, by decide, hml, hQ2, hF2, ho3, HB2⟩, ?_⟩
        simp [intOf]
      · have hle : LL.length * 5 + 8 = i * 8 := unhide hLL
        have hln : LL.length ≤ 200000 := by omega
        have hv : h / 8 < 256 := by omega
        have hand : bits .and .i64 ((h : Nat) : Int) (7 : Int) = ((h % 8 : Nat) : Int) := andm 3 h (by decide) (by omega)
        have hvb : Hid (bc [UInt8.ofNat (h / 8)] = [.int .u8 ((h / 8 : Nat) : Int)]) := by
          show bc _ = _
          simp only [bc, List.map_cons, List.map_nil]
          rw [ofN_toN _ hv]
        have hdv : ((h : Nat) : Int) / 8 = ((h / 8 : Nat) : Int) := by omega
        have hwv := wrap256 (h / 8) hv
        have hml : h % 8 < 2 ^ 3 := Nat.mod_lt _ (by decide)
        have hF2 : Hid (3 + 9 * (gs.length - i) + 1 ≤ f - 1 ∧ rgF 8 5 (f - 1) (gs.drop i) (LL ++ [UInt8.ofNat (h / 8)]) (h % 8) 3 = RES) := by
          obtain ⟨q1, q2⟩ := unhide HF
          refine ⟨by omega, ?_⟩
          rw [rgF_emit 8 5 f _ _ _ _ hct (by omega)] at q2
          exact q2
        have hQ2 : Hid ((LL ++ [UInt8.ofNat (h / 8)]).length * 5 + 3 = i * 8) := by show _ = _; rw [List.length_append, List.length_singleton]; omega
        generalize hq : h / 8 = q at *
        generalize hm : h % 8 = m at *
        clear hq hm hle
        go_wp2_with (at_builtin; refine wpList_append_own _ rfl _ _ 30 rfl w.heap.size 5 i0 (.int .u8 0) 1 1 Try.undB hi hz0 hz1 hz2 rfl (by decide) _ _ _ rfl ((unhide HO).alloc _) ⟨w'.heap.size, 0, none⟩ 1 1 [.int .u8 (q : Nat)] rfl rfl (news_lit _ [_] _) ?p8 ?q8 ?r8 ?s8 ?_)
        case p8 => intro u hu; simp at hu; subst hu; rfl
        case q8 => unfold maxLen; omega
        case r8 => omega
        case s8 => simp; omega
        intro v' w2 hown2 hgrow2 _
        have hb2 : Below w.heap.size w w2 := ((unhide HB).alloc (by omega) _).grown hgrow2 (by simp; omega) (fun k hk => ((unhide HO).lt k hk).1)
        have ho3 : Hid (w2.ownsRow w.heap.size 5 1 v' (LL ++ [UInt8.ofNat q]).length (bc (LL ++ [UInt8.ofNat q]))) := by
          show World.ownsRow _ _ _ _ _ _ _
          rw [bc_append, List.length_append, unhide hvb]
          exact hown2
        have HB2 := hide hb2
        obtain ⟨ao', cap', rfl⟩ := own_shape' hown2
        clear hown2 hgrow2 hb2 HO HB
        go_wp2
        go_step3
        refine ⟨rfl, ⟨i, m, 3, f - 1, LL ++ [UInt8.ofNat q], _, _, _, _, _, _, _, _, _, _, _, _, _, _, _, _, _, _, _, _, _, _, _, _, _, _, _, _, _, _, _, _, _, _, _, _, _, _, _, _, _, _, _, _, _, rfl, hil, by decide, hml, hQ2, hF2, ho3, HB2⟩, ?_⟩
        simp [intOf]
      · have hle : LL.length * 5 + 9 = i * 8 := unhide hLL
        have hln : LL.length ≤ 200000 := by omega
        have hv : h / 16 < 256 := by omega
        have hand : bits .and .i64 ((h : Nat) : Int) (15 : Int) = ((h % 16 : Nat) : Int) := andm 4 h (by decide) (by omega)
        have hvb : Hid (bc [UInt8.ofNat (h / 16)] = [.int .u8 ((h / 16 : Nat) : Int)]) := by
          show bc _ = _
          simp only [bc, List.map_cons, List.map_nil]
          rw [ofN_toN _ hv]
        have hdv : ((h : Nat) : Int) / 16 = ((h / 16 : Nat) : Int) := by omega
        have hwv := wrap256 (h / 16) hv
        have hml : h % 16 < 2 ^ 4 := Nat.mod_lt _ (by decide)
        have hF2 : Hid (4 + 9 * (gs.length - i) + 1 ≤ f - 1 ∧ rgF 8 5 (f - 1) (gs.drop i) (LL ++ [UInt8.ofNat (h / 16)]) (h % 16) 4 = RES) := by
          obtain ⟨q1, q2⟩ := unhide HF
          refine ⟨by omega, ?_⟩
          rw [rgF_emit 8 5 f _ _ _ _ hct (by omega)] at q2
          exact q2
        have hQ2 : Hid ((LL ++ [UInt8.ofNat (h / 16)]).length * 5 + 4 = i * 8) := by show _ = _; rw [List.length_append, List.length_singleton]; omega
        generalize hq : h / 16 = q at *
        generalize hm : h % 16 = m at *
        clear hq hm hle
        go_wp2_with (at_builtin; refine wpList_append_own _ rfl _ _ 30 rfl w.heap.size 5 i0 (.int .u8 0) 1 1 Try.undB hi hz0 hz1 hz2 rfl (by decide) _ _ _ rfl ((unhide HO).alloc _) ⟨w'.heap.size, 0, none⟩ 1 1 [.int .u8 (q : Nat)] rfl rfl (news_lit _ [_] _) ?p9 ?q9 ?r9 ?s9 ?_)
        case p9 => intro u hu; simp at hu; subst hu; rfl
        case q9 => unfold maxLen; omega
        case r9 => omega
        case s9 => simp; omega
        intro v' w2 hown2 hgrow2 _
        have hb2 : Below w.heap.size w w2 := ((unhide HB).alloc (by omega) _).grown hgrow2 (by simp; omega) (fun k hk => ((unhide HO).lt k hk).1)
        have ho3 : Hid (w2.ownsRow w.heap.size 5 1 v' (LL ++ [UInt8.ofNat q]).length (bc (LL ++ [UInt8.ofNat q]))) := by
          show World.ownsRow _ _ _ _ _ _ _
          rw [bc_append, List.length_append, unhide hvb]
          exact hown2
        have HB2 := hide hb2
        obtain ⟨ao', cap', rfl⟩ := own_shape' hown2
        clear hown2 hgrow2 hb2 HO HB
        go_wp2
        go_step3
        refine ⟨rfl, ⟨i, m, 4, f - 1, LL ++ [UInt8.ofNat q], _, _, _, _, _, _, _, _, _, _, _, _, _, _, _, _, _, _, _, _, _, _, _, _, _, _, _, _, _, _, _, _, _, _, _, _, _, _, _, _, _, _, _, _, _, rfl, hil, by decide, hml, hQ2, hF2, ho3, HB2⟩, ?_⟩
        simp [intOf]
      · have hle : LL.length * 5 + 10 = i * 8 := unhide hLL
        have hln : LL.length ≤ 200000 := by omega
        have hv : h / 32 < 256 := by omega
        have hand : bits .and .i64 ((h : Nat) : Int) (31 : Int) = ((h % 32 : Nat) : Int) := andm 5 h (by decide) (by omega)
        have hvb : Hid (bc [UInt8.ofNat (h / 32)] = [.int .u8 ((h / 32 : Nat) : Int)]) := by
          show bc _ = _
          simp only [bc, List.map_cons, List.map_nil]
          rw [ofN_toN _ hv]
        have hdv : ((h : Nat) : Int) / 32 = ((h / 32 : Nat) : Int) := by omega
        have hwv := wrap256 (h / 32) hv
        have hml : h % 32 < 2 ^ 5 := Nat.mod_lt _ (by decide)
        have hF2 : Hid (5 + 9 * (gs.length - i) + 1 ≤ f - 1 ∧ rgF 8 5 (f - 1) (gs.drop i) (LL ++ [UInt8.ofNat (h / 32)]) (h % 32) 5 = RES) := by
          obtain ⟨q1, q2⟩ := unhide HF
          refine ⟨by omega, ?_⟩
          rw [rgF_emit 8 5 f _ _ _ _ hct (by omega)] at q2
          exact q2
        have hQ2 : Hid ((LL ++ [UInt8.ofNat (h / 32)]).length * 5 + 5 = i * 8) := by show _ = _; rw [List.length_append, List.length_singleton]; omega
        generalize hq : h / 32 = q at *
        generalize hm : h % 32 = m at *
        clear hq hm hle
        go_wp2_with (at_builtin; refine wpList_append_own _ rfl _ _ 30 rfl w.heap.size 5 i0 (.int .u8 0) 1 1 Try.undB hi hz0 hz1 hz2 rfl (by decide) _ _ _ rfl ((unhide HO).alloc _) ⟨w'.heap.size, 0, none⟩ 1 1 [.int .u8 (q : Nat)] rfl rfl (news_lit _ [_] _) ?p10 ?q10 ?r10 ?s10 ?_)
        case p10 => intro u hu; simp at hu; subst hu; rfl
        case q10 => unfold maxLen; omega
        case r10 => omega
        case s10 => simp; omega
        intro v' w2 hown2 hgrow2 _
        have hb2 : Below w.heap.size w w2 := ((unhide HB).alloc (by omega) _).grown hgrow2 (by simp; omega) (fun k hk => ((unhide HO).lt k hk).1)
        have ho3 : Hid (w2.ownsRow w.heap.size 5 1 v' (LL ++ [UInt8.ofNat q]).length (bc (LL ++ [UInt8.ofNat q]))) := by
          show World.ownsRow _ _ _ _ _ _ _
          rw [bc_append, List.length_append, unhide hvb]
          exact hown2
        have HB2 := hide hb2
        obtain ⟨ao', cap', rfl⟩ := own_shape' hown2
        clear hown2 hgrow2 hb2 HO HB
        go_wp2
        go_step3
        refine ⟨rfl, ⟨i, m, 5, f - 1, LL ++ [UInt8.ofNat q], _, _, _, _, _, _, _, _, _, _, _, _, _, _, _, _, _, _, _, _, _, _, _, _, _, _, _, _, _, _, _, _, _, _, _, _, _, _, _, _, _, _, _, _, _, rfl, hil, by decide, hml, hQ2, hF2, ho3, HB2⟩, ?_⟩
        simp [intOf]
      · have hle : LL.length * 5 + 11 = i * 8 := unhide hLL
        have hln : LL.length ≤ 200000 := by omega
        have hv : h / 64 < 256 := by omega
        have hand : bits .and .i64 ((h : Nat) : Int) (63 : Int) = ((h % 64 : Nat) : Int) := andm 6 h (by decide) (by omega)
        have hvb : Hid (bc [UInt8.ofNat (h / 64)] = [.int .u8 ((h / 64 : Nat) : Int)]) := by
          show bc _ = _
          simp only [bc, List.map_cons, List.map_nil]
          rw [ofN_toN _ hv]
        have hdv : ((h : Nat) : Int) / 64 = ((h / 64 : Nat) : Int) := by omega
        have hwv := wrap256 (h / 64) hv
        have hml : h % 64 < 2 ^ 6 := Nat.mod_lt _ (by decide)
        have hF2 : Hid (6 + 9 * (gs.length - i) + 1 ≤ f - 1 ∧ rgF 8 5 (f - 1) (gs.drop i) (LL ++ [UInt8.ofNat (h / 64)]) (h % 64) 6 = RES) := by
          obtain ⟨q1, q2⟩ := unhide HF
          refine ⟨by omega, ?_⟩
          rw [rgF_emit 8 5 f _ _ _ _ hct (by omega)] at q2
          exact q2
        have hQ2 : Hid ((LL ++ [UInt8.ofNat (h / 64)]).length * 5 + 6 = i * 8) := by show _ = _; rw [List.length_append, List.length_singleton]; omega
        generalize hq : h / 64 = q at *
        generalize hm : h % 64 = m at *
        clear hq hm hle
        go_wp2_with (at_builtin; refine wpList_append_own _ rfl _ _ 30 rfl w.heap.size 5 i0 (.int .u8 0) 1 1 Try.undB hi hz0 hz1 hz2 rfl (by decide) _ _ _ rfl ((unhide HO).alloc _) ⟨w'.heap.size, 0, none⟩ 1 1 [.int .u8 (q : Nat)] rfl rfl (news_lit _ [_] _) ?p11 ?q11 ?r11 ?s11 ?_)
        case p11 => intro u hu; simp at hu; subst hu; rfl
        case q11 => unfold maxLen; omega
        case r11 => omega
        case s11 => simp; omega
        intro v' w2 hown2 hgrow2 _
        have hb2 : Below w.heap.size w w2 := ((unhide HB).alloc (by omega) _).grown hgrow2 (by simp; omega) (fun k hk => ((unhide HO).lt k hk).1)
        have ho3 : Hid (w2.ownsRow w.heap.size 5 1 v' (LL ++ [UInt8.ofNat q]).length (bc (LL ++ [UInt8.ofNat q]))) := by
          show World.ownsRow _ _ _ _ _ _ _
          rw [bc_append, List.length_append, unhide hvb]
          exact hown2
        have HB2 := hide hb2
        obtain ⟨ao', cap', rfl⟩ := own_shape' hown2
        clear hown2 hgrow2 hb2 HO HB
        go_wp2
        go_step3
        refine ⟨rfl, ⟨i, m, 6, f - 1, LL ++ [UInt8.ofNat q], _, _, _, _, _, _, _, _, _, _, _, _, _, _, _, _, _, _, _, _, _, _, _, _, _, _, _, _, _, _, _, _, _, _, _, _, _, _, _, _, _, _, _, _, _, rfl, hil, by decide, hml, hQ2, hF2, ho3, HB2⟩, ?_⟩
        simp [intOf]
      · have hle : LL.length * 5 + 12 = i * 8 := unhide hLL
        have hln : LL.length ≤ 200000 := by omega
        have hv : h / 128 < 256 := by omega
        have hand : bits .and .i64 ((h : Nat) : Int) (127 : Int) = ((h % 128 : Nat) : Int) := andm 7 h (by decide) (by omega)
        have hvb : Hid (bc [UInt8.ofNat (h / 128)] = [.int .u8 ((h / 128 : Nat) : Int)]) := by
          show bc _ = _
          simp only [bc, List.map_cons, List.map_nil]
          rw [ofN_toN _ hv]
        have hdv : ((h : Nat) : Int) / 128 = ((h / 128 : Nat) : Int) := by omega
        have hwv := wrap256 (h / 128) hv
        have hml : h % 128 < 2 ^ 7 := Nat.mod_lt _ (by decide)
        have hF2 : Hid (7 + 9 * (gs.length - i) + 1 ≤ f - 1 ∧ rgF 8 5 (f - 1) (gs.drop i) (LL ++ [UInt8.ofNat (h / 128)]) (h % 128) 7 = RES) := by
          obtain ⟨q1, q2⟩ := unhide HF
          refine ⟨by omega, ?_⟩
          rw [rgF_emit 8 5 f _ _ _ _ hct (by omega)] at q2
          exact q2
        have hQ2 : Hid ((LL ++ [UInt8.ofNat (h / 128)]).length * 5 + 7 = i * 8) := by show _ = _; rw [List.length_append, List.length_singleton]; omega
        generalize hq : h / 128 = q at *
        generalize hm : h % 128 = m at *
        clear hq hm hle
        go_wp2_with (at_builtin; refine wpList_append_own _ rfl _ _ 30 rfl w.heap.size 5 i0 (.int .u8 0) 1 1 Try.undB hi hz0 hz1 hz2 rfl (by decide) _ _ _ rfl ((unhide HO).alloc _) ⟨w'.heap.size, 0, none⟩ 1 1 [.int .u8 (q : Nat)] rfl rfl (news_lit _ [_] _) ?p12 ?q12 ?r12 ?s12 ?_)
        case p12 => intro u hu; simp at hu; subst hu; rfl
        case q12 => unfold maxLen; omega
        case r12 => omega
        case s12 => simp; omega
        intro v' w2 hown2 hgrow2 _
        have hb2 : Below w.heap.size w w2 := ((unhide HB).alloc (by omega) _).grown hgrow2 (by simp; omega) (fun k hk => ((unhide HO).lt k hk).1)
        have ho3 : Hid (w2.ownsRow w.heap.size 5 1 v' (LL ++ [UInt8.ofNat q]).length (bc (LL ++ [UInt8.ofNat q]))) := by
          show World.ownsRow _ _ _ _ _ _ _
          rw [bc_append, List.length_append, unhide hvb]
          exact hown2
        have HB2 := hide hb2
        obtain ⟨ao', cap', rfl⟩ := own_shape' hown2
        clear hown2 hgrow2 hb2 HO HB
        go_wp2
        go_step3
        refine ⟨rfl, ⟨i, m, 7, f - 1, LL ++ [UInt8.ofNat q], _, _, _, _, _, _, _, _, _, _, _, _, _, _, _, _, _, _, _, _, _, _, _, _, _, _, _, _, _, _, _, _, _, _, _, _, _, _, _, _, _, _, _, _, _, rfl, hil, by decide, hml, hQ2, hF2, ho3, HB2⟩, ?_⟩
        simp [intOf]
    · have hcd : decide (5 ≤ ((c : Nat) : Int)) = false := decide_eq_false (by omega)
      by_cases hlt : i < gs.length
      · have hgl : g < w.heap.size := unhide hgl0 (by omega)
        have hbm := hsm gs[i] (List.getElem_mem hlt)
        have hcell : w'.cell? ⟨g, i, none⟩ = some (.int .u8 (gs[i].toNat : Nat)) := by
          rw [(unhide HB).cell hgl]; exact unhide HG i hlt
        have hF2 : Hid (c + 8 + 9 * (gs.length - (i + 1)) + 1 ≤ f - 1 ∧ rgF 8 5 (f - 1) (gs.drop (i + 1)) LL (h * 256 + gs[i].toNat) (c + 8) = RES) := by
          obtain ⟨q1, q2⟩ := unhide HF
          refine ⟨by omega, ?_⟩
          rw [List.drop_eq_getElem_cons hlt, rgF_take 8 5 f _ _ _ _ _ hct (by omega)] at q2
          exact q2
        have hh2 : h * 256 + gs[i].toNat < 2 ^ (c + 8) := by
          rw [Nat.pow_add, show 2 ^ 8 = 256 from rfl]
          have := Nat.mul_le_mul_right 256 (show h + 1 ≤ 2 ^ c from hh)
          have hb8 : gs[i].toNat < 256 := hbm
          omega
        have hhl : h < 4096 := Nat.lt_of_lt_of_le hh (Nat.le_trans (Nat.pow_le_pow_right (by decide) hc) (by decide))
        have hor : bits .or .i64 (((h : Nat) : Int) * 256) ((gs[i].toNat : Nat) : Int) = ((h * 256 + gs[i].toNat : Nat) : Int) := orj 8 h gs[i].toNat (by decide) hhl hbm
        have hQ2 : Hid (LL.length * 5 + (c + 8) = (i + 1) * 8) := by show _ = _; have := unhide hLL; omega
        have hw1 : IntKind.i64.wrap (((h : Nat) : Int) * 256) = ((h : Nat) : Int) * 256 := wrapH h 256 hhl (by decide)
        have hil2 : ((i : Nat) : Int) < ((gs.length : Nat) : Int) := by omega
        obtain ⟨hwb, hwc⟩ := wrapB gs[i]
        obtain ⟨h2, hh2e⟩ : ∃ h2, h2 = h * 256 + gs[i].toNat := ⟨_, rfl⟩
        rw [← hh2e] at hF2 hh2 hor
        clear hh2e hbm hh
        generalize gs[i].toNat = bv at *
        have HH2 := hide hh2
        have Hct := hide hct
        clear hh2 hct
        go_wp2
        go_region
        go_wp2
        go_step3
        refine ⟨rfl, ⟨i + 1, h2, c + 8, f - 1, LL, _, _, _, _, _, _, _, _, _, _, _, _, _, _, _, _, _, _, _, _, _, _, _, _, _, _, _, _, _, _, _, _, _, _, _, _, _, _, _, _, _, _, _, _, _, rfl, by omega, by have := unhide Hct; omega, unhide HH2, hQ2, hF2, (unhide HO).drew, (unhide HB).drew⟩, ?_⟩
        simp [intOf]; omega
      · have hie : i = gs.length := by omega
        subst hie
        have hR : RES = (LL, h, c) := by
          obtain ⟨q1, q2⟩ := unhide HF
          rw [List.drop_of_length_le (Nat.le_refl _), rgF_done 8 5 f _ _ _ hct (by omega)] at q2
          exact q2.symm
        have HR := hide hR
        have hhb : h < 256 := Nat.lt_of_lt_of_le hh (Nat.le_trans (Nat.pow_le_pow_right (by decide) (show c ≤ 8 by omega)) (by decide))
        have hwv := wrap256 h hhb
        clear hR hct hh
        go_wp2
        simp only [Exit.jump]
        go_ret3
        refine ⟨.slice ao LL.length cap, h, ?_, ?_, ?_, unhide HB⟩
        · rw [unhide HR]; rfl
        · rw [unhide HR]; rfl
        · rw [unhide HR]; exact unhide HO

set_option maxRecDepth 100000 in
set_option maxHeartbeats 2000000 in
theorem regroup58 (gs : List UInt8) (g cp : Nat) (w : World) (hL : gs.length ≤ 100000) (hg : ∀ j (hj : j < gs.length), w.cell? ⟨g, j, none⟩ = some (.int .u8 (gs[j].toNat : Nat))) (hsm : ∀ b ∈ gs, b.toNat < 2 ^ 5) :
    Calls Try.prog 15 #[.slice (some ⟨g, 0, none⟩) gs.length cp, .int .i64 5, .int .i64 8] w fun e w' => ∃ (vo : Value) (h : Nat), e = .returned (.tuple #[vo, .int .u8 (h : Nat), .int .i64 ((rgA 5 8 gs).2.2 : Nat)]) ∧ Hid (h = (rgA 5 8 gs).2.1) ∧ Hid (w'.ownsRow w.heap.size 5 1 vo (rgA 5 8 gs).1.length (bc (rgA 5 8 gs).1)) ∧ Below w.heap.size w w' := by
  obtain ⟨i0, hi, hz0, hz1, hz2⟩ := info_parts Try.infoU
  have hown0 : Hid (w.ownsRow w.heap.size 5 1 (.slice none 0 0) 0 (bc [])) := World.ownsRow_nil w _ _ _
  have hst : Hid (rgF 5 8 ((5 + 1) * gs.length + 1) gs [] 0 0 = rgA 5 8 gs) := rfl
  generalize rgA 5 8 gs = RES at *
  have HG := hide hg
  clear hg
  have hgl0 : Hid (0 < gs.length → g < w.heap.size) := fun h0 => by
    have := unhide HG 0 h0
    rcases Nat.lt_or_ge g w.heap.size with h' | h'
    · exact h'
    · simp [World.cell?, Array.getElem?_eq_none h'] at this
  go_enter Try.func15, Try.ntmps15
  go_wp2
  refine wp_scope_jumps 0 (fun a' w' => ∃ (i h c f : Nat) (LL : List UInt8) (vo : Value) (u3 u4 u5 u7 u11 u12 u13 u14 u15 u16 u17 u18 u19 u20 u21 u22 u23 u24 u25 u26 u27 u28 u29 u30 u31 u32 u33 u34 u35 u36 u37 u38 u39 u40 u41 u42 u43 u44 u45 u46 u47 u48 u49 u50 : Value), a' = { tmps := #[.slice (some ⟨g, 0, none⟩) gs.length cp, .int .i64 5, .int .i64 8, u3, u4, u5, vo, u7, .int .i64 (c : Nat), .int .i64 (h : Nat), .int .i64 (i : Nat), u11, u12, u13, u14, u15, u16, u17, u18, u19, u20, u21, u22, u23, u24, u25, u26, u27, u28, u29, u30, u31, u32, u33, u34, u35, u36, u37, u38, u39, u40, u41, u42, u43, u44, u45, u46, u47, u48, u49, u50], defers := [] } ∧ i ≤ gs.length ∧ c ≤ 12 ∧ h < 2 ^ c ∧ Hid (LL.length * 8 + c = i * 5) ∧ Hid (c + 6 * (gs.length - i) + 1 ≤ f ∧ rgF 5 8 f (gs.drop i) LL h c = RES) ∧ Hid (w'.ownsRow w.heap.size 5 1 vo LL.length (bc LL)) ∧ Hid (Below w.heap.size w w')) (fun a' _ => (intOf (a'.tmps.getD 8 undef)).toNat + 6 * (gs.length - (intOf (a'.tmps.getD 10 undef)).toNat)) rfl ?_ ?_
  · by_cases hlt : 0 < gs.length
    · have hgl : g < w.heap.size := unhide hgl0 hlt
      have hbm := hsm gs[0] (List.getElem_mem hlt)
      have hcell := unhide HG 0 hlt
      have hF2 : Hid (5 + 6 * (gs.length - 1) + 1 ≤ (5 + 1) * gs.length + 1 - 1 ∧ rgF 5 8 ((5 + 1) * gs.length + 1 - 1) (gs.drop 1) [] gs[0].toNat 5 = RES) := by
        have q2 := unhide hst
        refine ⟨by omega, ?_⟩
        have hd : gs = gs[0] :: gs.drop 1 := by
          have := List.drop_eq_getElem_cons hlt
          rwa [List.drop_zero] at this
        have q3 : rgF 5 8 ((5 + 1) * gs.length + 1) (gs[0] :: gs.drop 1) [] 0 0 = RES := by rw [← hd]; exact q2
        rw [rgF_take 5 8 _ _ _ _ _ _ (by decide) (by omega), Nat.zero_mul, Nat.zero_add, Nat.zero_add] at q3
        exact q3
      have hor : bits .or .i64 0 ((gs[0].toNat : Nat) : Int) = ((gs[0].toNat : Nat) : Int) := by
        have := orj 5 0 gs[0].toNat (by decide) (by decide) hbm
        simpa using this
      have hl2 : (0 : Int) < ((gs.length : Nat) : Int) := by omega
      obtain ⟨hwb, hwc⟩ := wrapB gs[0]
      obtain ⟨bv, hbv⟩ : ∃ bv, bv = gs[0].toNat := ⟨_, rfl⟩
      rw [← hbv] at hbm hcell hF2 hor hwb hwc
      have Hbm := hide hbm
      clear hbm hbv
      go_wp2
      go_step3
      go_wp2
      go_region
      go_wp2
      go_step3
      refine ⟨rfl, 1, bv, 5, _, [], _, _, _, _, _, _, _, _, _, _, _, _, _, _, _, _, _, _, _, _, _, _, _, _, _, _, _, _, _, _, _, _, _, _, _, _, _, _, _, _, _, _, _, _, _, rfl, hlt, by decide, unhide Hbm, by show _ = _; simp, hF2, (unhide hown0).drew, ((Below.refl _ _).drew)⟩
    · have hz : gs = [] := List.eq_nil_of_length_eq_zero (by omega)
      subst hz
      have hR : RES = ([], 0, 0) := by
        have q2 := unhide hst
        rw [rgF_done 5 8 _ _ _ _ (by decide) (by omega)] at q2
        exact q2.symm
      have HR := hide hR
      clear hR hlt HG hsm hL hst hgl0
      go_wp2
      go_step3
      go_wp2
      simp only [Exit.jump]
      go_ret3
      refine ⟨.slice none 0 0, 0, ?_, ?_, ?_, Below.refl _ _⟩
      · rw [unhide HR]; rfl
      · rw [unhide HR]; rfl
      · rw [unhide HR]; exact unhide hown0
  · rintro a' w' ⟨i, h, c, f, LL, vo, u3, u4, u5, u7, u11, u12, u13, u14, u15, u16, u17, u18, u19, u20, u21, u22, u23, u24, u25, u26, u27, u28, u29, u30, u31, u32, u33, u34, u35, u36, u37, u38, u39, u40, u41, u42, u43, u44, u45, u46, u47, u48, u49, u50, rfl, hil, hc, hh, hLL, HF, HO, HB⟩
    have hz := (unhide HB).size
    obtain ⟨ao, cap, rfl⟩ := own_shape' (unhide HO)
    by_cases hct : 8 ≤ c
    · have hcc : c = 8 ∨ c = 9 ∨ c = 10 ∨ c = 11 ∨ c = 12 := by omega
      rcases hcc with rfl | rfl | rfl | rfl | rfl
      · have hle : LL.length * 8 + 8 = i * 5 := unhide hLL
        have hln : LL.length ≤ 200000 := by omega
        have hv : h / 1 < 256 := by omega
        have hand : bits .and .i64 ((h : Nat) : Int) (0 : Int) = ((h % 1 : Nat) : Int) := andm 0 h (by decide) (by omega)
        have hvb : Hid (bc [UInt8.ofNat (h / 1)] = [.int .u8 ((h / 1 : Nat) : Int)]) := by
          show bc _ = _
          simp only [bc, List.map_cons, List.map_nil]
          rw [ofN_toN _ hv]
        have hdv : ((h : Nat) : Int) / 1 = ((h / 1 : Nat) : Int) := by omega
        have hwv := wrap256 (h / 1) hv
        have hml : h % 1 < 2 ^ 0 := Nat.mod_lt _ (by decide)
        have hF2 : Hid (0 + 6 * (gs.length - i) + 1 ≤ f - 1 ∧ rgF 5 8 (f - 1) (gs.drop i) (LL ++ [UInt8.ofNat (h / 1)]) (h % 1) 0 = RES) := by
          obtain ⟨q1, q2⟩ := unhide HF
          refine ⟨by omega, ?_⟩
          rw [rgF_emit 5 8 f _ _ _ _ hct (by omega)] at q2
          exact q2
        have hQ2 : Hid ((LL ++ [UInt8.ofNat (h / 1)]).length * 8 + 0 = i * 5) := by show _ = _; rw [List.length_append, List.length_singleton]; omega
        generalize hq : h / 1 = q at *
        generalize hm : h % 1 = m at *
        clear hq hm hle
        go_wp2_with (at_builtin; refine wpList_append_own _ rfl _ _ 30 rfl w.heap.size 5 i0 (.int .u8 0) 1 1 Try.undB hi hz0 hz1 hz2 rfl (by decide) _ _ _ rfl ((unhide HO).alloc _) ⟨w'.heap.size, 0, none⟩ 1 1 [.int .u8 (q : Nat)] rfl rfl (news_lit _ [_] _) ?p8 ?q8 ?r8 ?s8 ?_)
        case p8 => intro u hu; simp at hu; subst hu; rfl
        case q8 => unfold maxLen; omega
        case r8 => omega
        case s8 => simp; omega
        intro v' w2 hown2 hgrow2 _
        have hb2 : Below w.heap.size w w2 := ((unhide HB).alloc (by omega) _).grown hgrow2 (by simp; omega) (fun k hk => ((unhide HO).lt k hk).1)
        have ho3 : Hid (w2.ownsRow w.heap.size 5 1 v' (LL ++ [UInt8.ofNat q]).length (bc (LL ++ [UInt8.ofNat q]))) := by
          show World.ownsRow _ _ _ _ _ _ _
          rw [bc_append, List.length_append, unhide hvb]
          exact hown2
        have HB2 := hide hb2
        obtain ⟨ao', cap', rfl⟩ := own_shape' hown2
        clear hown2 hgrow2 hb2 HO HB
        go_wp2
        go_step3
        refine ⟨rfl, ⟨i, m, 0, f - 1, LL ++ [UInt8.ofNat q], _, _, _, _, _, _, _, _, _, _, _, _, _, _, _, _, _, _, _, _, _, _, _, _, _, _, _, _, _, _, _, _, _, _, _, _, _, _, _, _, _, _, _, _, _, rfl, hil, by decide, hml, hQ2, hF2, ho3, HB2⟩, ?_⟩
        simp [intOf]
      · have hle : LL.length * 8 + 9 = i * 5 := unhide hLL
        have hln : LL.length ≤ 200000 := by omega
        have hv : h / 2 < 256 := by omega
        have hand : bits .and .i64 ((h : Nat) : Int) (1 : Int) = ((h % 2 : Nat) : Int) := andm 1 h (by decide) (by omega)
        have hvb : Hid (bc [UInt8.ofNat (h / 2)] = [.int .u8 ((h / 2 : Nat) : Int)]) := by
          show bc _ = _
          simp only [bc, List.map_cons, List.map_nil]
          rw [ofN_toN _ hv]
        have hdv : ((h : Nat) : Int) / 2 = ((h / 2 : Nat) : Int) := by omega
        have hwv := wrap256 (h / 2) hv
        have hml : h % 2 < 2 ^ 1 := Nat.mod_lt _ (by decide)
        have hF2 : Hid (1 + 6 * (gs.length - i) + 1 ≤ f - 1 ∧ rgF 5 8 (f - 1) (gs.drop i) (LL ++ [UInt8.ofNat (h / 2)]) (h % 2) 1 = RES) := by
          obtain ⟨q1, q2⟩ := unhide HF
          refine ⟨by omega, ?_⟩
          rw [rgF_emit 5 8 f _ _ _ _ hct (by omega)] at q2
          exact q2
        have hQ2 : Hid ((LL ++ [UInt8.ofNat (h / 2)]).length * 8 + 1 = i * 5) := by show _ = _; rw [List.length_append, List.length_singleton]; omega
        generalize hq : h / 2 = q at *
        generalize hm : h % 2 = m at *
        clear hq hm hle
        go_wp2_with (at_builtin; refine wpList_append_own _ rfl _ _ 30 rfl w.heap.size 5 i0 (.int .u8 0) 1 1 Try.undB hi hz0 hz1 hz2 rfl (by decide) _ _ _ rfl ((unhide HO).alloc _) ⟨w'.heap.size, 0, none⟩ 1 1 [.int .u8 (q : Nat)] rfl rfl (news_lit _ [_] _) ?p9 ?q9 ?r9 ?s9 ?_)
        case p9 => intro u hu; simp at hu; subst hu; rfl
        case q9 => unfold maxLen; omega
        case r9 => omega
        case s9 => simp; omega
        intro v' w2 hown2 hgrow2 _
        have hb2 : Below w.heap.size w w2 := ((unhide HB).alloc (by omega) _).grown hgrow2 (by simp; omega) (fun k hk => ((unhide HO).lt k hk).1)
        have ho3 : Hid (w2.ownsRow w.heap.size 5 1 v' (LL ++ [UInt8.ofNat q]).length (bc (LL ++ [UInt8.ofNat q]))) := by
          show World.ownsRow _ _ _ _ _ _ _
          rw [bc_append, List.length_append, unhide hvb]
          exact hown2
        have HB2 := hide hb2
        obtain ⟨ao', cap', rfl⟩ := own_shape' hown2
        clear hown2 hgrow2 hb2 HO HB
        go_wp2
        go_step3
        refine ⟨rfl, ⟨i, m, 1, f - 1, LL ++ [UInt8.ofNat q], _, _, _, _, _, _, _, _, _, _, _, _, _, _, _, _, _, _, _, _, _, _, _, _, _, _, _, _, _, _, _, _, _, _, _, _, _, _, _, _, _, _, _, _, _, rfl, hil, by decide, hml, hQ2, hF2, ho3, HB2⟩, ?_⟩
        simp [intOf]
      · have hle : LL.length * 8 + 10 = i * 5 := unhide hLL
        have hln : LL.length ≤ 200000 := by omega
        have hv : h / 4 < 256 := by omega
        have hand : bits .and .i64 ((h : Nat) : Int) (3 : Int) = ((h % 4 : Nat) : Int) := andm 2 h (by decide) (by omega)
        have hvb : Hid (bc [UInt8.ofNat (h / 4)] = [.int .u8 ((h / 4 : Nat) : Int)]) := by
          show bc _ = _
          simp only [bc, List.map_cons, List.map_nil]
          rw [ofN_toN _ hv]
        have hdv : ((h : Nat) : Int) / 4 = ((h / 4 : Nat) : Int) := by omega
        have hwv := wrap256 (h / 4) hv
        have hml : h % 4 < 2 ^ 2 := Nat.mod_lt _ (by decide)
        have hF2 : Hid (2 + 6 * (gs.length - i) + 1 ≤ f - 1 ∧ rgF 5 8 (f - 1) (gs.drop i) (LL ++ [UInt8.ofNat (h / 4)]) (h % 4) 2 = RES) := by
          obtain ⟨q1, q2⟩ := unhide HF
          refine ⟨by omega, ?_⟩
          rw [rgF_emit 5 8 f _ _ _ _ hct (by omega)] at q2
          exact q2
        have hQ2 : Hid ((LL ++ [UInt8.ofNat (h / 4)]).length * 8 + 2 = i * 5) := by show _ = _; rw [List.length_append, List.length_singleton]; omega
        generalize hq : h / 4 = q at *
        generalize hm : h % 4 = m at *
        clear hq hm hle
        go_wp2_with (at_builtin; refine wpList_append_own _ rfl _ _ 30 rfl w.heap.size 5 i0 (.int .u8 0) 1 1 Try.undB hi hz0 hz1 hz2 rfl (by decide) _ _ _ rfl ((unhide HO).alloc _) ⟨w'.heap.size, 0, none⟩ 1 1 [.int .u8 (q : Nat)] rfl rfl (news_lit _ [_] _) ?p10 ?q10 ?r10 ?s10 ?_)
        case p10 => intro u hu; simp at hu; subst hu; rfl
        case q10 => unfold maxLen; omega
        case r10 => omega
        case s10 => simp; omega
        intro v' w2 hown2 hgrow2 _
        have hb2 : Below w.heap.size w w2 := ((unhide HB).alloc (by omega) _).grown hgrow2 (by simp; omega) (fun k hk => ((unhide HO).lt k hk).1)
        have ho3 : Hid (w2.ownsRow w.heap.size 5 1 v' (LL ++ [UInt8.ofNat q]).length (bc (LL ++ [UInt8.ofNat q]))) := by
          show World.ownsRow _ _ _ _ _ _ _
          rw [bc_append, List.length_append, unhide hvb]
          exact hown2
        have HB2 := hide hb2
        obtain ⟨ao', cap', rfl⟩ := own_shape' hown2
        clear hown2 hgrow2 hb2 HO HB
        go_wp2
        go_step3
        refine ⟨rfl, ⟨i, m, 2, f - 1, LL ++ [UInt8.ofNat q], _, _, _, _, _, _, _, _, _, _, _, _, _, _, _, _, _, _, _, _, _, _, _, _, _, _, _, _, _, _, _, _, _, _, _, _, _, _, _, _, _, _, _, _, _, rfl, hil, by decide, hml, hQ2, hF2, ho3, HB2⟩, ?_⟩
        simp [intOf]
      · have hle : LL.length * 8 + 11 = i * 5 := unhide hLL
        have hln : LL.length ≤ 200000 := by omega
        have hv : h / 8 < 256 := by omega
        have hand : bits .and .i64 ((h : Nat) : Int) (7 : Int) = ((h % 8 : Nat) : Int) := andm 3 h (by decide) (by omega)
        have hvb : Hid (bc [UInt8.ofNat (h / 8)] = [.int .u8 ((h / 8 : Nat) : Int)]) := by
          show bc _ = _
          simp only [bc, List.map_cons, List.map_nil]
          rw [ofN_toN _ hv]
        have hdv : ((h : Nat) : Int) / 8 = ((h / 8 : Nat) : Int) := by omega
        have hwv := wrap256 (h / 8) hv
        have hml : h % 8 < 2 ^ 3 := Nat.mod_lt _ (by decide)
        have hF2 : Hid (3 + 6 * (gs.length - i) + 1 ≤ f - 1 ∧ rgF 5 8 (f - 1) (gs.drop i) (LL ++ [UInt8.ofNat (h / 8)]) (h % 8) 3 = RES) := by
          obtain ⟨q1, q2⟩ := unhide HF
          refine ⟨by omega, ?_⟩
          rw [rgF_emit 5 8 f _ _ _ _ hct (by omega)] at q2
          exact q2
        have hQ2 : Hid ((LL ++ [UInt8.ofNat (h / 8)]).length * 8 + 3 = i * 5) := by show _ = _; rw [List.length_append, List.length_singleton]; omega
        generalize hq : h / 8 = q at *
        generalize hm : h % 8 = m at *
        clear hq hm hle
        go_wp2_with (at_builtin; refine wpList_append_own _ rfl _ _ 30 rfl w.heap.size 5 i0 (.int .u8 0) 1 1 Try.undB hi hz0 hz1 hz2 rfl (by decide) _ _ _ rfl ((unhide HO).alloc _) ⟨w'.heap.size, 0, none⟩ 1 1 [.int .u8 (q : Nat)] rfl rfl (news_lit _ [_] _) ?p11 ?q11 ?r11 ?s11 ?_)
        case p11 => intro u hu; simp at hu; subst hu; rfl
        case q11 => unfold maxLen; omega
        case r11 => omega
        case s11 => simp; omega
        intro v' w2 hown2 hgrow2 _
        have hb2 : Below w.heap.size w w2 := ((unhide HB).alloc (by omega) _).grown hgrow2 (by simp; omega) (fun k hk => ((unhide HO).lt k hk).1)
        have ho3 : Hid (w2.ownsRow w.heap.size 5 1 v' (LL ++ [UInt8.ofNat q]).length (bc (LL ++ [UInt8.ofNat q]))) := by
          show World.ownsRow _ _ _ _ _ _ _
          rw [bc_append, List.length_append, unhide hvb]
          exact hown2
        have HB2 := hide hb2
        obtain ⟨ao', cap', rfl⟩ := own_shape' hown2
        clear hown2 hgrow2 hb2 HO HB
        go_wp2
        go_step3
        refine ⟨rfl, ⟨i, m, 3, f - 1, LL ++ [UInt8.ofNat q], _, _, _, _, _, _, _, _, _, _, _, _, _, _, _, _, _, _, _, _, _, _, _, _, _, _, _, _, _, _, _, _, _, _, _, _, _, _, _, _, _, _, _, _, _, rfl, hil, by decide, hml, hQ2, hF2, ho3, HB2⟩, ?_⟩
        simp [intOf]
      · have hle : LL.length * 8 + 12 = i * 5 := unhide hLL
        have hln : LL.length ≤ 200000 := by omega
        have hv : h / 16 < 256 := by omega
        have hand : bits .and .i64 ((h : Nat) : Int) (15 : Int) = ((h % 16 : Nat) : Int) := andm 4 h (by decide) (by omega)
        have hvb : Hid (bc [UInt8.ofNat (h / 16)] = [.int .u8 ((h / 16 : Nat) : Int)]) := by
          show bc _ = _
          simp only [bc, List.map_cons, List.map_nil]
          rw [ofN_toN _ hv]
        have hdv : ((h : Nat) : Int) / 16 = ((h / 16 : Nat) : Int) := by omega
        have hwv := wrap256 (h / 16) hv
        have hml : h % 16 < 2 ^ 4 := Nat.mod_lt _ (by decide)
        have hF2 : Hid (4 + 6 * (gs.length - i) + 1 ≤ f - 1 ∧ rgF 5 8 (f - 1) (gs.drop i) (LL ++ [UInt8.ofNat (h / 16)]) (h % 16) 4 = RES) := by
          obtain ⟨q1, q2⟩ := unhide HF
          refine ⟨by omega, ?_⟩
          rw [rgF_emit 5 8 f _ _ _ _ hct (by omega)] at q2
          exact q2
        have hQ2 : Hid ((LL ++ [UInt8.ofNat (h / 16)]).length * 8 + 4 = i * 5) := by show _ = _; rw [List.length_append, List.length_singleton]; omega
        generalize hq : h / 16 = q at *
        generalize hm : h % 16 = m at *
        clear hq hm hle
        go_wp2_with (at_builtin; refine wpList_append_own _ rfl _ _ 30 rfl w.heap.size 5 i0 (.int .u8 0) 1 1 Try.undB hi hz0 hz1 hz2 rfl (by decide) _ _ _ rfl ((unhide HO).alloc _) ⟨w'.heap.size, 0, none⟩ 1 1 [.int .u8 (q : Nat)] rfl rfl (news_lit _ [_] _) ?p12 ?q12 ?r12 ?s12 ?_)
        case p12 => intro u hu; simp at hu; subst hu; rfl
        case q12 => unfold maxLen; omega
        case r12 => omega
        case s12 => simp; omega
        intro v' w2 hown2 hgrow2 _
        have hb2 : Below w.heap.size w w2 := ((unhide HB).alloc (by omega) _).grown hgrow2 (by simp; omega) (fun k hk => ((unhide HO).lt k hk).1)
        have ho3 : Hid (w2.ownsRow w.heap.size 5 1 v' (LL ++ [UInt8.ofNat q]).length (bc (LL ++ [UInt8.ofNat q]))) := by
          show World.ownsRow _ _ _ _ _ _ _
          rw [bc_append, List.length_append, unhide hvb]
          exact hown2
        have HB2 := hide hb2
        obtain ⟨ao', cap', rfl⟩ := own_shape' hown2
        clear hown2 hgrow2 hb2 HO HB
        go_wp2
        go_step3
        refine ⟨rfl, ⟨i, m, 4, f - 1, LL ++ [UInt8.ofNat q], _, _, _, _, _, _, _, _, _, _, _, _, _, _, _, _, _, _, _, _, _, _, _, _, _, _, _, _, _, _, _, _, _, _, _, _, _, _, _, _, _, _, _, _, _, rfl, hil, by decide, hml, hQ2, hF2, ho3, HB2⟩, ?_⟩
        simp [intOf]
    · have hcd : decide (8 ≤ ((c : Nat) : Int)) = false := decide_eq_false (by omega)
      by_cases hlt : i < gs.length
      · have hgl : g < w.heap.size := unhide hgl0 (by omega)
        have hbm := hsm gs[i] (List.getElem_mem hlt)
        have hcell : w'.cell? ⟨g, i, none⟩ = some (.int .u8 (gs[i].toNat : Nat)) := by
          rw [(unhide HB).cell hgl]; exact unhide HG i hlt
        have hF2 : Hid (c + 5 + 6 * (gs.length - (i + 1)) + 1 ≤ f - 1 ∧ rgF 5 8 (f - 1) (gs.drop (i + 1)) LL (h * 32 + gs[i].toNat) (c + 5) = RES) := by
          obtain ⟨q1, q2⟩ := unhide HF
          refine ⟨by omega, ?_⟩
          rw [List.drop_eq_getElem_cons hlt, rgF_take 5 8 f _ _ _ _ _ hct (by omega)] at q2
          exact q2
        have hh2 : h * 32 + gs[i].toNat < 2 ^ (c + 5) := by
          rw [Nat.pow_add, show 2 ^ 5 = 32 from rfl]
          have := Nat.mul_le_mul_right 32 (show h + 1 ≤ 2 ^ c from hh)
          have hb8 : gs[i].toNat < 32 := hbm
          omega
        have hhl : h < 4096 := Nat.lt_of_lt_of_le hh (Nat.le_trans (Nat.pow_le_pow_right (by decide) hc) (by decide))
        have hor : bits .or .i64 (((h : Nat) : Int) * 32) ((gs[i].toNat : Nat) : Int) = ((h * 32 + gs[i].toNat : Nat) : Int) := orj 5 h gs[i].toNat (by decide) hhl hbm
        have hQ2 : Hid (LL.length * 8 + (c + 5) = (i + 1) * 5) := by show _ = _; have := unhide hLL; omega
        have hw1 : IntKind.i64.wrap (((h : Nat) : Int) * 32) = ((h : Nat) : Int) * 32 := wrapH h 32 hhl (by decide)
        have hil2 : ((i : Nat) : Int) < ((gs.length : Nat) : Int) := by omega
        obtain ⟨hwb, hwc⟩ := wrapB gs[i]
        obtain ⟨h2, hh2e⟩ : ∃ h2, h2 = h * 32 + gs[i].toNat := ⟨_, rfl⟩
        rw [← hh2e] at hF2 hh2 hor
        clear hh2e hbm hh
        generalize gs[i].toNat = bv at *
        have HH2 := hide hh2
        have Hct := hide hct
        clear hh2 hct
        go_wp2
        go_region
        go_wp2
        go_step3
        refine ⟨rfl, ⟨i + 1, h2, c + 5, f - 1, LL, _, _, _, _, _, _, _, _, _, _, _, _, _, _, _, _, _, _, _, _, _, _, _, _, _, _, _, _, _, _, _, _, _, _, _, _, _, _, _, _, _, _, _, _, _, rfl, by omega, by have := unhide Hct; omega, unhide HH2, hQ2, hF2, (unhide HO).drew, (unhide HB).drew⟩, ?_⟩
        simp [intOf]; omega
      · have hie : i = gs.length := by omega
        subst hie
        have hR : RES = (LL, h, c) := by
          obtain ⟨q1, q2⟩ := unhide HF
          rw [List.drop_of_length_le (Nat.le_refl _), rgF_done 5 8 f _ _ _ hct (by omega)] at q2
          exact q2.symm
        have HR := hide hR
        have hhb : h < 256 := Nat.lt_of_lt_of_le hh (Nat.le_trans (Nat.pow_le_pow_right (by decide) (show c ≤ 8 by omega)) (by decide))
        have hwv := wrap256 h hhb
        clear hR hct hh
        go_wp2
        simp only [Exit.jump]
        go_ret3
        refine ⟨.slice ao LL.length cap, h, ?_, ?_, ?_, unhide HB⟩
        · rw [unhide HR]; rfl
        · rw [unhide HR]; rfl
        · rw [unhide HR]; exact unhide HO

end Go.Proofs.Ytgcfmgkhbenooaa

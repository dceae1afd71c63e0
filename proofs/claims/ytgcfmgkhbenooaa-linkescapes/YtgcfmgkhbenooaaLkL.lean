/- Contract of the document's Unbase32. -/
import Derived.Test.YtgcfmgkhbenooaaLkK
namespace Go.Proofs.Ytgcfmgkhbenooaa
open Go.RowKit
set_option linter.unusedVariables false

theorem step58 (f : Nat) (g : UInt8) (gs out : List UInt8) (h c : Nat) (hc : c < 8) (hf : 2 ≤ f) (hlt : c + 5 < 8) : rgF 5 8 f (g :: gs) out h c = rgF 5 8 (f - 1) gs out (32 * h + g.toNat) (c + 5) := by
  rw [rgF_take 5 8 f g gs out h c (by omega) (by omega), show h * 2 ^ 5 + g.toNat = 32 * h + g.toNat by omega]
theorem step58e (f : Nat) (g : UInt8) (gs out : List UInt8) (h c : Nat) (hc : c < 8) (hf : 2 ≤ f) (hlt : ¬ c + 5 < 8) : rgF 5 8 f (g :: gs) out h c = rgF 5 8 (f - 2) gs (out ++ [UInt8.ofNat ((32 * h + g.toNat) / 2 ^ (c - 3))]) ((32 * h + g.toNat) % 2 ^ (c - 3)) (c - 3) := by
  rw [rgF_take 5 8 f g gs out h c (by omega) (by omega), rgF_emit 5 8 _ gs out _ _ (by omega) (by omega), show h * 2 ^ 5 + g.toNat = 32 * h + g.toNat by omega, show c + 5 - 8 = c - 3 by omega, show f - 1 - 1 = f - 2 by omega]
theorem lt58 (h c g : Nat) (hh : h < 2 ^ c) (hg : g < 32) : 32 * h + g < 2 ^ (c + 5) := by
  rw [Nat.pow_add, show (2 ^ 5 : Nat) = 32 from rfl]
  have := Nat.mul_le_mul_right 32 (show h + 1 ≤ 2 ^ c from hh)
  omega
theorem un32_done (t : List UInt8) (h : allL t) (LL : List UInt8) (hh c : Nat) (hr : rgA 5 8 (grpL t) = (LL, hh, c)) : un32 t = if b32 LL = t then (LL, 0) else ([], 3) := by
  have hs := un32_same t h
  unfold un32
  rw [(isL_iff t).2 h]
  rw [hr] at hs ⊢
  dsimp only at hs ⊢
  by_cases e : b32 LL = t
  · rw [if_pos e, if_pos ⟨rfl, hs.1 e⟩]
  · rw [if_neg e, if_neg (fun q => e (hs.2 q.2))]

set_option maxRecDepth 100000 in
set_option maxHeartbeats 2000000 in
theorem dunbase32_any (t : List UInt8) (w : World) (hl : t.length ≤ 20000) : Calls Try.prog 7 #[.string (bs t)] w fun e w' => e = .returned (.tuple #[.string (bs (un32 t).1), .int .i64 (un32 t).2]) ∧ Below w.heap.size w w' := by
  obtain ⟨i0, hi, hz0, hz1, hz2⟩ := info_parts Try.infoU
  have hown0 : Hid (w.ownsRow w.heap.size 5 1 (.slice none 0 0) 0 (bc [])) := World.ownsRow_nil w _ _ _
  have hbs := bs_size t
  have hoff := hide (fun k h hn => un32_off t k h hn)
  have hdone := hide (fun h LL hh c => un32_done t h LL hh c)
  have hst : Hid (rgF 5 8 (6 * t.length + 1) (grpL t) [] 0 0 = rgA 5 8 (grpL t)) := by show _ = rgF _ _ _ _ _ _ _; simp [grpL]
  generalize un32 t = RES at *
  generalize hRG : rgA 5 8 (grpL t) = RG at *
  have HRG := hide hRG
  clear hRG
  obtain ⟨n, hn⟩ : ∃ n, n = t.length := ⟨_, rfl⟩
  rw [← hn] at hbs hl hst
  have Hn := hide hn
  clear hn
  go_enter Try.func7, Try.ntmps7
  go_wp2
  go_loopw [4, 5, 6, 7] (fun v bv hv i wr => ∃ (k h c f : Nat) (LL : List UInt8), k ≤ n ∧ i = .int .i64 (k : Nat) ∧ bv = .int .i64 (h : Nat) ∧ hv = .int .i64 (c : Nat) ∧ c < 8 ∧ h < 2 ^ c ∧ LL.length * 8 + c = 5 * k ∧ Hid (∀ j (h : j < t.length), j < k → numL t[j].toNat ≠ 32) ∧ Hid (c + 6 * (n - k) + 1 ≤ f ∧ rgF 5 8 f ((grpL t).drop k) LL h c = RG) ∧ Hid (wr.ownsRow w.heap.size 5 1 v LL.length (bc LL)) ∧ Hid (Below w.heap.size w wr)) (fun _ _ _ i _ => n - (intOf i).toNat)
  case atStart => exact ⟨0, 0, 0, _, [], Nat.zero_le _, rfl, rfl, rfl, by decide, by decide, rfl, fun j h h0 => absurd h0 (Nat.not_lt_zero _), ⟨by omega, unhide hst⟩, hown0, Below.refl _ _⟩
  case round =>
    clear hown0 hst
    obtain ⟨k, h, c, f, LL, hk, rfl, rfl, rfl, hc, hh, hLL, HA, HF, HO, HB⟩ := hrel
    have hz := (unhide HB).size
    obtain ⟨ao, cap, rfl⟩ := own_shape' (unhide HO)
    have hh7 : h < 128 := Nat.lt_of_lt_of_le hh (Nat.le_trans (Nat.pow_le_pow_right (by decide) (show c ≤ 7 by omega)) (by decide))
    obtain ⟨m, hm⟩ : ∃ m, m = LL.length := ⟨_, rfl⟩
    rw [← hm] at hLL HO ⊢
    have Hm := hide hm
    clear hm
    by_cases hlt : k < n
    · have hkt : k < t.length := by rw [← unhide Hn]; exact hlt
      have hix := run_index_bs (P := Try.prog) 9 t k hkt (by kernel_rfl)
      have hnx := hide (fun w => number_any t[k].toNat t[k].toNat_lt w)
      have hlk : (((k : Nat) : Int) < ((n : Nat) : Int)) := by omega
      have hle := numL_le t[k].toNat
      by_cases h32 : numL t[k].toNat = 32
      · have hr : Hid (RES = ([], 3)) := unhide hoff k hkt h32
        rw [h32] at hnx
        clear h32 hle
        generalize t[k].toNat = tv at *
        go_wp2_with fail
        refine (unhide hnx _).mono ?_
        rintro e w' ⟨rfl, rfl⟩
        go_wp2
        go_ret2
        exact ⟨by rw [unhide hr]; rfl, unhide HB⟩
      · have hA2 : Hid (∀ j (h : j < t.length), j < k + 1 → numL t[j].toNat ≠ 32) := fun j h hj => by
          by_cases e : j = k
          · subst e; exact h32
          · exact unhide HA j h (by omega)
        have hdr : (grpL t).drop k = UInt8.ofNat (numL t[k].toNat) :: (grpL t).drop (k + 1) := by
          rw [List.drop_eq_getElem_cons (by simpa [grpL] using hkt)]
          simp [grpL]
        have hgn : (UInt8.ofNat (numL t[k].toNat)).toNat = numL t[k].toNat := ofN_toN _ (by omega)
        have hF := unhide HF
        rw [hdr] at hF
        have hne : (((numL t[k].toNat : Nat) : Int) == 32) = false := by simp; omega
        have hne2 : decide (((numL t[k].toNat : Nat) : Int) = 32) = false := decide_eq_false (by omega)
        by_cases hc5 : c + 5 < 8
        · have hF2 : Hid (c + 5 + 6 * (n - (k + 1)) + 1 ≤ f - 1 ∧ rgF 5 8 (f - 1) ((grpL t).drop (k + 1)) LL (32 * h + numL t[k].toNat) (c + 5) = RG) := by
            refine ⟨by omega, ?_⟩
            have := hF.2
            rw [step58 f _ _ LL h c hc (by omega) hc5, hgn] at this
            exact this
          have hh2 := hide (lt58 h c (numL t[k].toNat) hh (by omega))
          have q8 : ¬ (8 : Int) ≤ ((c : Nat) : Int) + 5 := by omega
          clear hF hdr hgn h32 HF HA hh
          generalize numL t[k].toNat = g at *
          generalize t[k].toNat = tv at *
          go_wp2_with fail
          refine (unhide hnx _).mono ?_
          rintro e w' ⟨rfl, rfl⟩
          go_wp2_with fail
          refine (unhide hnx _).mono ?_
          rintro e w' ⟨rfl, rfl⟩
          go_wp2
          go_roundw
          case rel => exact ⟨k + 1, 32 * h + g, c + 5, f - 1, LL, by omega, by go_num, by go_num, by go_num, by omega, unhide hh2, by rw [← unhide Hm]; omega, hA2, hF2, by rw [← unhide Hm]; exact HO, HB⟩
          case measure => simp [intOf]; omega
        · have hF2 : Hid (c - 3 + 6 * (n - (k + 1)) + 1 ≤ f - 2 ∧ rgF 5 8 (f - 2) ((grpL t).drop (k + 1)) (LL ++ [UInt8.ofNat ((32 * h + numL t[k].toNat) / 2 ^ (c - 3))]) ((32 * h + numL t[k].toNat) % 2 ^ (c - 3)) (c - 3) = RG) := by
            refine ⟨by omega, ?_⟩
            have := hF.2
            rw [step58e f _ _ LL h c hc (by omega) hc5, hgn] at this
            exact this
          have q8 : (8 : Int) ≤ ((c : Nat) : Int) + 5 := by omega
          have hP0 := Nat.two_pow_pos (c - 3)
          have hP16 : 2 ^ (c - 3) ≤ 16 := Nat.le_trans (Nat.pow_le_pow_right (by decide) (show c - 3 ≤ 4 by omega)) (by decide)
          have hB : (32 * h + numL t[k].toNat) / 2 ^ (c - 3) < 256 := by
            have := lt58 h c (numL t[k].toNat) hh (by omega)
            rw [Nat.div_lt_iff_lt_mul hP0, show (256 : Nat) = 2 ^ 8 from rfl, ← Nat.pow_add, show 8 + (c - 3) = c + 5 by omega]; exact this
          have hM : (32 * h + numL t[k].toNat) % 2 ^ (c - 3) < 2 ^ (c - 3) := Nat.mod_lt _ hP0
          have hMs : (32 * h + numL t[k].toNat) % 2 ^ (c - 3) ≤ 16 := by omega
          have hbc : Hid (bc [UInt8.ofNat ((32 * h + numL t[k].toNat) / 2 ^ (c - 3))] = [.int .u8 (((32 * h + numL t[k].toNat) / 2 ^ (c - 3) : Nat) : Int)]) := by
            show bc _ = _
            simp only [bc, List.map_cons, List.map_nil]
            rw [ofN_toN _ hB]
          have hdq : (32 * ((h : Nat) : Int) + ((numL t[k].toNat : Nat) : Int)).tdiv ((2 ^ (c - 3) : Nat) : Int) = (((32 * h + numL t[k].toNat) / 2 ^ (c - 3) : Nat) : Int) := rfl
          have hdm : (32 * ((h : Nat) : Int) + ((numL t[k].toNat : Nat) : Int)).tmod ((2 ^ (c - 3) : Nat) : Int) = (((32 * h + numL t[k].toNat) % 2 ^ (c - 3) : Nat) : Int) := rfl
          have hwB := wrap256 _ hB
          have HM := hide hM
          obtain ⟨c', hc'⟩ : ∃ c', c' = c - 3 := ⟨_, rfl⟩
          have hcz : ((c : Nat) : Int) + 5 - 8 = ((c' : Nat) : Int) := by omega
          have hc4 : c' ≤ 4 := by omega
          rw [← hc'] at hF2 hP0 hP16 hB HM hMs hbc hdq hdm hwB
          clear hF hdr hgn h32 HF HA hh hM
          generalize hPP : 2 ^ c' = P at *
          have HP := hide hPP
          clear hPP
          generalize (32 * h + numL t[k].toNat) / P = Bv at *
          generalize (32 * h + numL t[k].toNat) % P = Mv at *
          generalize numL t[k].toNat = g at *
          generalize t[k].toNat = tv at *
          have hLm : Hid (m * 8 + 8 + c' = 5 * (k + 1)) := by show _ = _; omega
          clear hc'
          go_wp2_with fail
          refine (unhide hnx _).mono ?_
          rintro e w' ⟨rfl, rfl⟩
          go_wp2_with fail
          refine (unhide hnx _).mono ?_
          rintro e w' ⟨rfl, rfl⟩
          go_wp2
          go_loopw [8, 9] (fun pv jv wr2 => ∃ (j : Nat), j ≤ c' ∧ jv = .int .i64 (j : Nat) ∧ pv = .int .i64 ((2 ^ j : Nat) : Int) ∧ wr = wr2) (fun _ i _ => c' - (intOf i).toNat)
          case atStart => exact ⟨0, Nat.zero_le _, rfl, rfl, rfl⟩
          case round =>
            obtain ⟨j, hj, rfl, rfl, rfl⟩ := hrel
            by_cases hjc : j < c'
            · have q1 : ((j : Nat) : Int) < ((c' : Nat) : Int) := by omega
              have hp2 : Hid (2 ^ (j + 1) = 2 * 2 ^ j) := by show (2 : Nat) ^ (j + 1) = _; rw [Nat.pow_succ]; omega
              have hp3 : 2 ^ j ≤ 16 := Nat.le_trans (Nat.pow_le_pow_right (by decide) (show j ≤ 4 by omega)) (by decide)
              generalize hQ : 2 ^ j = Q at *
              clear hQ
              go_wp2
              go_roundw
              case rel => exact ⟨j + 1, by omega, by go_num, by rw [unhide hp2]; go_num, by first | rfl | trivial⟩
              case measure => simp [intOf]; omega
            · have q1 : ¬ ((j : Nat) : Int) < ((c' : Nat) : Int) := by omega
              have hjj : j = c' := by omega
              subst hjj
              rw [unhide HP]
              have hPi : ¬ ((P : Nat) : Int) = 0 := by omega
              clear hjc hj
              go_wp2_with (at_builtin; refine wpList_append_own _ rfl _ _ 30 rfl w.heap.size 5 i0 (.int .u8 0) 1 1 Try.undB hi hz0 hz1 hz2 rfl (by decide) _ _ _ rfl ((unhide HO).alloc _) ⟨wr.heap.size, 0, none⟩ 1 1 [.int .u8 ((Bv : Nat) : Int)] rfl rfl (news_lit _ [_] _) ?c2 ?c3 ?c4 ?c5 ?_)
              case c2 => first | rfl | (intro u hu; simp at hu; subst hu; rfl)
              case c3 => unfold maxLen; omega
              case c4 => omega
              case c5 => first | omega | (simp; omega)
              intro v' w2 hown2 hgrow2 _
              have HB2 : Hid (Below w.heap.size w w2) := ((unhide HB).alloc (by omega) _).grown hgrow2 (by simp; omega) (fun k hk => ((unhide HO).lt k hk).1)
              have ho3 : Hid (w2.ownsRow w.heap.size 5 1 v' (LL ++ [UInt8.ofNat Bv]).length (bc (LL ++ [UInt8.ofNat Bv]))) := by
                show World.ownsRow _ _ _ _ _ _ _
                rw [bc_append, List.length_append, ← unhide Hm, unhide hbc]
                exact hown2
              obtain ⟨ao', cap', rfl⟩ := own_shape' hown2
              clear hown2 hgrow2 HO HB
              go_wp2
              go_roundw
              case rel => exact ⟨k + 1, Mv, j, f - 2, LL ++ [UInt8.ofNat Bv], by omega, by go_num, by go_num, by go_num, by omega, by rw [unhide HP]; exact unhide HM, by rw [List.length_append, List.length_singleton, ← unhide Hm]; have := unhide hLm; omega, hA2, hF2, ho3, HB2⟩
              case measure => simp [intOf]; omega
    · have hke : k = n := by omega
      subst hke
      have hL : allL t := fun c hc => by
        obtain ⟨j, hj, rfl⟩ := List.getElem_of_mem hc
        exact unhide HA j hj (by rw [unhide Hn]; exact hj)
      have hRR : RG = (LL, h, c) := by
        rw [← (unhide HF).2, List.drop_of_length_le (by rw [unhide Hn]; simp [grpL]), rgF_done 5 8 f LL h c (by omega) (by have := (unhide HF).1; omega)]
      have hres := unhide hdone hL LL h c hRR
      have hcv0 := hide (fun (w' : World) (h : w'.ownsRow w.heap.size 5 1 (.slice ao m cap) m (bc LL)) => run_string_own (P := Try.prog) 30 9 Try.undB (by kernel_rfl) (by kernel_rfl) h)
      have hcv := unhide hcv0 _ (unhide HO)
      have hd32 := hide (fun w => dbase32_any LL w (by rw [← unhide Hm]; omega))
      have q1 : ¬ ((k : Nat) : Int) < ((k : Nat) : Int) := by omega
      rw [show (⟨LL.toArray⟩ : ByteArray) = bs LL from rfl] at hcv
      by_cases heq : b32 LL = t
      · rw [if_pos heq] at hres
        have hr := hide hres
        rw [heq] at hd32
        generalize hSS : bs LL = SS at *
        have HSS := hide hSS
        clear hRR heq HA hL hoff hdone hres hSS
        go_wp2_with fail
        refine (unhide hd32 _).mono ?_
        rintro e w' ⟨rfl, rfl⟩
        go_wp2
        go_ret2
        exact ⟨by rw [unhide hr]; show _ = Ending.returned (.tuple #[.string (bs LL), _]); rw [unhide HSS]; rfl, unhide HB⟩
      · rw [if_neg heq] at hres
        have hr := hide hres
        have hq : ((bs (b32 LL)).toList == (bs t).toList) = false := by
          rw [ByteArray.toList_eq, ByteArray.toList_eq]
          simpa [bs] using heq
        generalize bs (b32 LL) = EB at *
        generalize hSS : bs LL = SS at *
        clear hRR heq HA hL hoff hdone hres hSS
        go_wp2_with fail
        refine (unhide hd32 _).mono ?_
        rintro e w' ⟨rfl, rfl⟩
        go_wp2
        go_ret2
        exact ⟨by rw [unhide hr]; rfl, unhide HB⟩

end Go.Proofs.Ytgcfmgkhbenooaa

/- Contracts of block's Cut, and of the document's. -/
import Derived.Test.YtcpkjnfppglpoaaBlA
import Derived.Test.YtcpkjnfppglpoaaCopy
namespace Go.Proofs.Ytcpkjnfppglpoaa
open Go.RowKit
set_option linter.unusedVariables false

theorem own_below2 {w w' : World} {base n size : Nat} {e : TypeId} {v : Value} {xs : List Value} (h : w.ownsRow base e size v n xs) (hb : Below w.heap.size w w') : w'.ownsRow base e size v n xs := by
  refine ⟨h.1, ?_⟩
  rcases h.2 with h2 | ⟨g, cap, cur, hv, hg, hh, r⟩
  · exact .inl h2
  · exact .inr ⟨g, cap, cur, hv, hg, (hb.block g (lt_of_block hh)).trans hh, r⟩
theorem own_whole {w : World} {base g n : Nat} {e : TypeId} {xs : List Value} (h : w.ownsRow base e 1 (.slice (some ⟨g, 0, none⟩) n n) n xs) : w.heap[g]? = some (.cells xs.toArray e (0, 0)) := by
  rcases h.2 with ⟨h', _⟩ | ⟨g', cap', cur, h', _, hg, _, _, hs, ht⟩
  · cases h'
  · cases h'
    rw [Nat.mul_one, List.take_of_length_le (by simp; omega)] at ht
    rw [← ht]
    exact hg
/-- the first bytes, up to a size, with bytes 0 behind them -/
def pieceL (s : By) (size : Nat) : By := s.take size ++ List.replicate (size - s.length) 0
theorem pieceL_length (s : By) (size : Nat) : (pieceL s size).length = size := by
  unfold pieceL
  rw [List.length_append, List.length_take, List.length_replicate]
  omega
theorem piece_copied (t : By) (m : Nat) : (bc (List.replicate m 0)).take 0 ++ bc (t.take (Nat.min t.length m)) ++ (bc (List.replicate m 0)).drop (0 + Nat.min t.length m) = bc (pieceL t m) := by
  unfold pieceL
  rw [List.take_zero, List.nil_append, bc_append, Nat.zero_add]
  congr 1
  · congr 1
    rcases Nat.le_total t.length m with h | h
    · rw [show Nat.min t.length m = t.length from Nat.min_eq_left h, List.take_of_length_le (Nat.le_refl _), List.take_of_length_le h]
    · rw [show Nat.min t.length m = m from Nat.min_eq_right h]
  · unfold bc
    rw [← List.map_drop, List.drop_replicate]
    congr 2
    rcases Nat.le_total t.length m with h | h
    · rw [show Nat.min t.length m = t.length from Nat.min_eq_left h]
    · rw [show Nat.min t.length m = m from Nat.min_eq_right h]; omega
theorem below_setRow {B : Nat} {x w : World} (h : Below B x w) (g : Nat) (cs : Array Value) (hg : B ≤ g) : Below B x (w.setRow g cs) := by
  refine ⟨h.os, h.tape, h.output, ?_, fun k hk => ?_⟩
  · refine Nat.le_trans h.size ?_
    simp [World.setRow]
  · rw [← h.block k hk]
    simp only [World.setRow, Array.getElem?_modify]
    rw [if_neg (by omega)]
set_option maxHeartbeats 1000000 in
theorem piece_any (t : By) (m : Nat) (w : World) (h1 : 1 ≤ m) (h2 : m ≤ 64) (ht : t.length ≤ 1000000) :
    Calls Try.prog 26 #[.string (bs t), .int .i64 m] w fun e w' => e = .returned (.string (bs (pieceL t m))) ∧ Below w.heap.size w w' := by
  obtain ⟨i0, hi, hz0, hz1, hz2⟩ := info_parts Try.infoU
  have hsz : (Try.prog.info? 5).map (·.size) = some 1 := by kernel_rfl
  have hbs := hide (bs_size t)
  have HL : Hid ((bs t).data.toList = t) := rfl
  have HC := hide (piece_copied t m)
  have HP := hide (pieceL_length t m)
  generalize bs t = S at *
  generalize hR : bs (pieceL t m) = R
  have HR := hide hR
  clear hR
  go_enter Try.func26, Try.ntmps26
  go_wp2_with (at_make; refine wpList_make_full _ rfl _ _ 45 rfl w.heap.size 5 i0 (.int .u8 0) 1 Try.undB hi hz0 hz1 .i64 .i64 _ _ m rfl rfl rfl rfl ?c2 ?c3 ?c4 ?_)
  case c2 => rw [hz2]; omega
  case c3 => unfold maxLen; omega
  case c4 => exact Nat.le_refl _
  intro w1 hown hgrow
  have hb1 := hide ((Below.refl _ _).grown hgrow (Nat.le_refl _) (by intro k hk; cases hk))
  rw [made_bytes] at hown
  have hg := hide (own_whole hown)
  clear hown hgrow
  have hcp := run_copy_string (P := Try.prog) w1 45 9 3 5 w.heap.size 0 m m S (bc (List.replicate m 0)) 5 Try.undB hsz (unhide hg) (Nat.min t.length m) (by rw [unhide hbs]) (by rw [bc_length, List.length_replicate]; have : Nat.min t.length m ≤ m := Nat.min_le_right t.length m; omega)
  rw [unhide HL, unhide HC] at hcp
  generalize hw2' : w1.setRow w.heap.size (bc (pieceL t m)).toArray = w2 at hcp
  have hbw : Bw w2 w.heap.size (pieceL t m) := by
    rw [← hw2']
    refine ⟨_, (0, 0), setRow_heap w1 _ _ _ _ _ (unhide hg), ?_, .inl rfl⟩
    rw [List.take_of_length_le (by simp [bc_length])]
  have HB : Hid (Below w.heap.size w w2) := by
    rw [← hw2']
    exact below_setRow (unhide hb1) _ _ (Nat.le_refl _)
  have hcv := hbw.string (cap := m)
  rw [unhide HP, unhide HR] at hcv
  clear hw2' hbw
  unfold goInt at hcp
  go_wp2
  go_ret
  exact ⟨rfl, unhide HB⟩

/-- a file's first k blocks -/
def cutL (f : By) (s k : Nat) : List By := (List.range k).map fun i => pieceL (f.drop (i * s)) s
theorem cutL_length (f : By) (s k : Nat) : (cutL f s k).length = k := by simp [cutL]
theorem cutL_succ (f : By) (s k : Nat) : cutL f s (k + 1) = cutL f s k ++ [pieceL (f.drop (k * s)) s] := by simp [cutL, List.range_succ]
/-- Cut's error -/
def cutE (f : By) (size : Int) : Int := if may size = false ∨ f = [] then 1 else if countN f.length size = 0 then 2 else 0
theorem cutE_zero {f : By} {size : Int} (h : cutE f size = 0) : ∃ s : Nat, size = s ∧ 1 ≤ s ∧ s ≤ 64 ∧ 1 ≤ f.length ∧ f.length ≤ 4096 ∧ countN f.length s = (f.length + s - 1) / s ∧ 1 ≤ countN f.length s ∧ countN f.length s ≤ 96 := by
  unfold cutE at h
  split at h
  · cases h
  · split at h
    · cases h
    · rename_i h1 h2
      obtain ⟨l, s, e1, rfl, a, b, c, d, e⟩ := countN_pos h2
      have := countN_le f.length s
      have e1' : f.length = l := by omega
      subst e1'
      exact ⟨s, rfl, c, d, by omega, by omega, e, by omega, this⟩
/-- what Cut answers -/
def cutR (f : By) (size : Int) : List By := if cutE f size = 0 then cutL f size.toNat (countN f.length size) else []
theorem made_strs (n : Nat) : (madeCells #[Value.string ⟨#[]⟩] n).toList = sc (List.replicate n []) := by
  rw [toList_madeCells_one]
  rw [sc, List.map_replicate]
  rfl
theorem sc_set (T : List By) (k : Nat) (t : By) : (sc T).set k (.string (bs t)) = sc (T.set k t) := by simp [sc, List.map_set]
theorem slice_bs (f : By) (j : Nat) : (bs f).extract j f.length = bs (f.drop j) := by
  rw [← bs_size f]
  have h : ((bs f).extract j (bs f).size).data.toList = f.drop j := by
    rw [ByteArray.data_extract]
    simp [bs, ByteArray.size]
    exact List.take_of_length_le (by rw [List.length_drop]; exact Nat.le_refl _)
  rw [← h]
  rfl

theorem cut_step {T : List By} {k n : Nat} {t : By} (hT : T.length = k) (h : k < n) : (T ++ List.replicate (n - k) []).set k t = T ++ [t] ++ List.replicate (n - (k + 1)) [] := by
  rw [List.set_append_right _ _ (by omega), hT, Nat.sub_self, show n - k = (n - (k + 1)) + 1 by omega, List.replicate_succ, List.set_cons_zero, List.append_assoc]
  rfl
set_option maxHeartbeats 2000000 in
theorem cut_any (f : By) (size : Int) (w : World) (hf : f.length ≤ 6000) :
    Calls Try.prog 9 #[.string (bs f), .int .i64 size] w fun e w' => ∃ v, e = .returned (.tuple #[v, .int .i64 (cutE f size)]) ∧ OwnS w' w.heap.size v (cutR f size) ∧ Below w.heap.size w w' := by
  have hm := hide (isSize_any size)
  have hbs := bs_size f
  have hc := hide (count_any f.length size)
  by_cases he : cutE f size = 0
  · obtain ⟨s, rfl, s1, s2, s3, s4, s5, s6, s7⟩ := cutE_zero he
    have hr : cutR f s = cutL f s (countN f.length s) := by unfold cutR; rw [if_pos he]; rfl
    rw [hr, he]
    rw [may_iff.2 (by omega)] at hm
    have HS5 := hide s5
    clear he hr s5
    generalize countN f.length s = n at *
    have ht : (bs f).toList.isEmpty = false := by
      rw [ByteArray.toList_eq, bs_list]
      cases f with
      | nil => simp at s3
      | cons x l => rfl
    obtain ⟨i0, hi, hz0, hz1, hz2⟩ := info_parts Try.infoS
    have hx : (bs f).size = f.length := hbs
    go_enter Try.func9, Try.ntmps9
    go_wp2_with (first | (go_at_call 25; refine (unhide hm _).mono ?_; rintro e w1 ⟨rfl, rfl⟩) | (go_at_call 12; refine (unhide hc _).mono ?_; rintro e w1 ⟨rfl, rfl⟩) | (at_make; refine wpList_make_full _ rfl _ _ 23 rfl w.heap.size 9 i0 (.string ⟨#[]⟩) 1 Try.undS hi hz0 hz1 .i64 .i64 _ _ n rfl rfl rfl rfl ?c2 ?c3 ?c4 ?_))
    case c2 => rw [hz2]; omega
    case c3 => unfold maxLen; omega
    case c4 => exact Nat.le_refl _
    intro w1 hown hgrow
    have hb1 := hide ((Below.refl _ _).grown hgrow (Nat.le_refl _) (by intro k hk; cases hk))
    rw [made_strs] at hown
    have HO1 := hide hown
    clear hown hgrow
    go_wp2
    go_loopw [25] (fun i wr => ∃ k : Nat, k ≤ n ∧ i = .int .i64 k ∧ wr.ownsRow w.heap.size 9 1 (.slice (some ⟨w.heap.size, 0, none⟩) n n) n (sc (cutL f s k ++ List.replicate (n - k) [])) ∧ Below w.heap.size w wr) (fun i _ => n - (intOf i).toNat)
    case atStart => exact ⟨0, Nat.zero_le _, rfl, unhide HO1, unhide hb1⟩
    case round =>
      obtain ⟨k, hk, rfl, hown, hb⟩ := hrel
      have HO := hide hown
      have HB := hide hb
      have hz := hb.size
      clear hown hb HO1 hb1
      by_cases hlt : k < n
      · have q1 : (k : Int) < n := by omega
        have hks : k * s < f.length := by rw [ceil_lt f.length s k s1 s3, ← unhide HS5]; exact hlt
        have hpc := hide (fun w => piece_any (f.drop (k * s)) s w s1 s2 (by rw [List.length_drop]; omega))
        have HD := hide (slice_bs f (k * s))
        have HQ := hide (cutL_succ f s k)
        have wr1 : (k : Int) * s = ((k * s : Nat) : Int) := by simp
        generalize k * s = j at *
        rw [← unhide HD] at hpc
        go_wp2_with fail
        refine (unhide hpc _).mono ?_
        rintro e w2 ⟨rfl, b2⟩
        have ho2 := own_below2 (unhide HO) b2
        have hb2 := (unhide HB).trans (b2.mono hz)
        have hfz := ho2.frozenAt k
        obtain ⟨u, hce⟩ : ∃ u, w2.cell? ⟨w.heap.size, k, none⟩ = some u := ⟨_, (ho2.cellAt k (by omega)).trans (sc_get _ _ (by rw [List.length_append, cutL_length, List.length_replicate]; omega))⟩
        have hst := (ho2.stored k (.string (bs (pieceL (f.drop j) s)))).1
        have HS : Hid ((w2.setCell ⟨w.heap.size, k, none⟩ (.string (bs (pieceL (f.drop j) s)))).ownsRow w.heap.size 9 1 (.slice (some ⟨w.heap.size, 0, none⟩) n n) n (sc (cutL f s (k + 1) ++ List.replicate (n - (k + 1)) []))) := by
          show World.ownsRow _ _ _ _ _ _ _
          rw [sc_set, cut_step (cutL_length f s k) hlt] at hst
          rw [unhide HQ]
          exact hst
        have HB2 := hide (hb2.setCell (p := ⟨w.heap.size, k, none⟩) (Nat.le_refl _) (.string (bs (pieceL (f.drop j) s))))
        generalize bs (pieceL (f.drop j) s) = R at *
        clear hst ho2 hb2 b2 HO HB
        go_wp2
        go_roundw
        case rel => exact ⟨k + 1, by omega, by go_num, unhide HS, unhide HB2⟩
        case measure => simp [intOf]; omega
      · have hke : k = n := by omega
        subst hke
        have q1 : ¬ (k : Int) < k := by omega
        have ho2 : Hid (OwnS wr w.heap.size (.slice (some ⟨w.heap.size, 0, none⟩) k k) (cutL f s k)) := by
          have := unhide HO
          rw [Nat.sub_self, List.replicate_zero, List.append_nil] at this
          show World.ownsRow _ _ _ _ _ _ _
          rw [cutL_length]
          exact this
        clear HO
        go_wp2
        go_ret2
        exact ⟨_, rfl, unhide ho2, unhide HB⟩
  · have hr : cutR f size = [] := by unfold cutR; rw [if_neg he]
    rw [hr]
    cases hM : may size with
    | false =>
      have e1 : cutE f size = 1 := by unfold cutE; rw [if_pos (.inl hM)]
      rw [e1]
      rw [hM] at hm
      clear he hr e1
      go_enter Try.func9, Try.ntmps9
      go_wp2_with (go_at_call 25; refine (unhide hm _).mono ?_; rintro e w1 ⟨rfl, rfl⟩)
      go_ret2
      exact ⟨_, rfl, World.ownsRow_nil _ _ _ _, Below.refl _ _⟩
    | true =>
      rw [hM] at hm
      cases f with
      | nil =>
        have e1 : cutE [] size = 1 := by unfold cutE; rw [if_pos (.inr rfl)]
        rw [e1]
        have ht : (bs []).toList.isEmpty = true := by rw [ByteArray.toList_eq, bs_list]; rfl
        clear he hr e1 hc
        go_enter Try.func9, Try.ntmps9
        go_wp2_with (go_at_call 25; refine (unhide hm _).mono ?_; rintro e w1 ⟨rfl, rfl⟩)
        go_ret2
        exact ⟨_, rfl, World.ownsRow_nil _ _ _ _, Below.refl _ _⟩
      | cons x l =>
        have e0 : countN (x :: l).length size = 0 := by
          unfold cutE at he
          rw [if_neg (by rw [hM]; simp)] at he
          by_cases h : countN (x :: l).length size = 0
          · exact h
          · rw [if_neg h] at he; exact absurd rfl he
        have e1 : cutE (x :: l) size = 2 := by unfold cutE; rw [if_neg (by rw [hM]; simp), if_pos e0]
        rw [e1]
        rw [e0] at hc
        have ht : (bs (x :: l)).toList.isEmpty = false := by rw [ByteArray.toList_eq, bs_list]; rfl
        generalize (x :: l).length = n at *
        generalize bs (x :: l) = F at *
        clear he hr e1 e0
        go_enter Try.func9, Try.ntmps9
        go_wp2_with (first | (go_at_call 25; refine (unhide hm _).mono ?_; rintro e w1 ⟨rfl, rfl⟩) | (go_at_call 12; refine (unhide hc _).mono ?_; rintro e w1 ⟨rfl, rfl⟩))
        go_ret2
        exact ⟨_, rfl, World.ownsRow_nil _ _ _ _, Below.refl _ _⟩
end Go.Proofs.Ytcpkjnfppglpoaa

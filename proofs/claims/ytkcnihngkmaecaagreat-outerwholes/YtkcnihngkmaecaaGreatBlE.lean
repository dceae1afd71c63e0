
/- Contracts of block's Sum and the document's; areOf, Is; the law's few. -/
import Derived.Test.YtkcnihngkmaecaaGreatBlD
namespace Go.Proofs.YtkcnihngkmaecaaGreat
open Go.RowKit
set_option linter.unusedVariables false

/-- are all of one size, and may it be? -/
def allOf (ss : List By) (size : Int) : Prop := ∀ s ∈ ss, (s.length : Int) = size
instance (ss : List By) (size : Int) : Decidable (allOf ss size) := inferInstanceAs (Decidable (∀ s ∈ ss, (s.length : Int) = size))
def ofB (ss : List By) (size : Int) : Bool := decide (allOf ss size) && may size
theorem allOf_snoc {ss : List By} {size : Int} {k : Nat} (hk : k < ss.length) (h : allOf (ss.take k) size) (h1 : (ss[k].length : Int) = size) : allOf (ss.take (k + 1)) size := by
  intro s hs
  rw [List.take_succ_eq_append_getElem hk, List.mem_append] at hs
  rcases hs with hs | hs
  · exact h s hs
  · simp at hs; rw [hs]; exact h1
set_option maxHeartbeats 1000000 in
theorem areOf_any (ss : List By) (a0 : Option Addr) (c : Nat) (size : Int) (w : World) (hT : Txts w a0 ss) (h2 : ss.length ≤ 100000) (h3 : ∀ s ∈ ss, s.length ≤ 100000) :
    Calls Tryz.prog 72 #[.slice a0 ss.length c, .int .i64 size] w fun e w' => e = .returned (.bool (ofB ss size)) ∧ w = w' := by
  have HT := hide hT
  have H3 := hide h3
  have hm := hide (isSize_any size)
  have HE : Hid (ofB ss size = (decide (allOf ss size) && may size)) := rfl
  generalize ofB ss size = E at *
  generalize hn : ss.length = n at *
  have HN := hide hn
  clear hT h3 hn
  go_enter Tryz.func72, Tryz.ntmps72
  go_wp2_with fail
  go_loopw [9] (fun i wr => w = wr ∧ ∃ k : Nat, k ≤ n ∧ i = .int .i64 k ∧ allOf (ss.take k) size) (fun i _ => n - (intOf i).toNat)
  case atStart => exact ⟨rfl, 0, Nat.zero_le _, rfl, fun s hs => by simp at hs⟩
  case round =>
    obtain ⟨rfl, k, hk, rfl, ha⟩ := hrel
    by_cases hlt : k < n
    · have hlt' : k < ss.length := by rw [unhide HN]; exact hlt
      obtain ⟨g, o, rfl, hc0⟩ := unhide HT k hlt'
      have q2 : (k : Int) < n := by omega
      have hB := bs_size ss[k]
      have hB2 := unhide H3 ss[k] (List.getElem_mem hlt')
      by_cases hl : (ss[k].length : Int) = size
      · have HA := hide (allOf_snoc hlt' ha hl)
        have q3 : ((bs ss[k]).size : Int) = size := by omega
        generalize bs ss[k] = B at *
        clear ha hB2 hB hl hlt'
        go_wp2
        go_roundw
        case rel => exact ⟨trivial, k + 1, by omega, by go_num, unhide HA⟩
        case measure => simp [intOf]; omega
      · have he : E = false := by
          rw [unhide HE, decide_eq_false (fun h => hl (h _ (List.getElem_mem hlt')))]; rfl
        subst he
        have q3 : ¬ ((bs ss[k]).size : Int) = size := by omega
        generalize bs ss[k] = B at *
        clear ha hB2 hB hl hlt'
        go_wp2
        go_ret
        exact ⟨rfl, rfl⟩
    · have hkl : k = n := by omega
      subst hkl
      rw [← unhide HN, List.take_length] at ha
      have he : E = may size := by rw [unhide HE, decide_eq_true ha]; rfl
      subst he
      have q2 : ¬ (k : Int) < k := by omega
      clear ha
      go_wp2_with fail
      refine (unhide hm _).mono ?_
      rintro e w1 ⟨rfl, rfl⟩
      go_wp2
      go_ret
      exact ⟨rfl, rfl⟩

/-- the sum of blocks -/
def sumL (m : Nat) (ss : List By) : By := ss.foldl xorL (List.replicate m 0)
theorem sumL_snoc (m : Nat) (ss : List By) (k : Nat) (hk : k < ss.length) : sumL m (ss.take (k + 1)) = xorL (sumL m (ss.take k)) ss[k] := by
  unfold sumL
  rw [List.take_succ_eq_append_getElem hk, List.foldl_append]
  rfl
theorem sumL_len_aux (m : Nat) (ss : List By) : ∀ (a : By), a.length = m → (∀ s ∈ ss, s.length = m) → (ss.foldl xorL a).length = m := by
  induction ss with
  | nil => intro a ha _; exact ha
  | cons s ss ih =>
    intro a ha h
    rw [List.foldl_cons]
    exact ih _ (by rw [xorL_len a s (by rw [ha]; exact h s (by simp)), ha]) (fun t ht => h t (by simp [ht]))
theorem sumL_len (m : Nat) (ss : List By) (h : ∀ s ∈ ss, s.length = m) : (sumL m ss).length = m := sumL_len_aux m ss _ (by simp) h
def sumE (ss : List By) (size : Int) : Int := if ofB ss size = true then 0 else 1
def sumR (ss : List By) (size : Int) : By := if ofB ss size = true then sumL size.toNat ss else []
theorem ofB_iff {ss : List By} {size : Int} : ofB ss size = true ↔ allOf ss size ∧ 1 ≤ size ∧ size ≤ 64 := by
  unfold ofB
  rw [Bool.and_eq_true, decide_eq_true_iff, may_iff]

set_option maxHeartbeats 1000000 in
theorem bsum_any (ss : List By) (a0 : Option Addr) (c : Nat) (size : Int) (w : World) (hT : Txts w a0 ss) (h2 : ss.length ≤ 100000) (h3 : ∀ s ∈ ss, s.length ≤ 100000) :
    Calls Tryz.prog 55 #[.slice a0 ss.length c, .int .i64 size] w fun e w' => e = .returned (.tuple #[.string (bs (sumR ss size)), .int .i64 (sumE ss size)]) ∧ Below w.heap.size w w' := by
  have hof := hide (areOf_any ss a0 c size w hT h2 h3)
  unfold sumR sumE
  cases hO : ofB ss size with
  | false =>
    rw [hO] at hof
    rw [if_neg (by simp), if_neg (by simp)]
    clear hT h3 hO
    generalize ss.length = n at *
    go_enter Tryz.func55, Tryz.ntmps55
    go_wp2_with fail
    refine (unhide hof).mono ?_
    rintro e w1 ⟨rfl, rfl⟩
    go_wp2
    go_ret2
    exact ⟨rfl, Below.refl _ _⟩
  | true =>
    rw [hO] at hof
    rw [if_pos rfl, if_pos rfl]
    obtain ⟨hall, s1, s2⟩ := ofB_iff.1 hO
    obtain ⟨m, rfl⟩ : ∃ m : Nat, size = m := ⟨size.toNat, by omega⟩
    rw [Int.toNat_natCast]
    have HA : Hid (∀ s ∈ ss, s.length = m) := fun s hs => by have := hall s hs; omega
    have HT := hide hT
    clear hO h3 hall hT
    generalize hn : ss.length = n at *
    have HN := hide hn
    clear hn
    generalize hR : bs (sumL m ss) = R
    have HR := hide hR
    clear hR
    obtain ⟨i0, hi, hz0, hz1, hz2⟩ := info_parts Tryz.infoUb
    go_enter Tryz.func55, Tryz.ntmps55
    go_wp2_with fail
    refine (unhide hof).mono ?_
    rintro e w1 ⟨rfl, rfl⟩
    go_wp2_with (at_make; refine wpList_make_full _ rfl _ _ 88 rfl w.heap.size 5 i0 (.int .u8 0) 1 Tryz.undBb hi hz0 hz1 .i64 .i64 _ _ m rfl rfl rfl rfl ?c2 ?c3 ?c4 ?_)
    case c2 => rw [hz2]; omega
    case c3 => unfold maxLen; omega
    case c4 => exact Nat.le_refl _
    intro w1 hown hgrow
    have hb1 := hide ((Below.refl _ _).grown hgrow (Nat.le_refl _) (by intro k hk; cases hk))
    rw [made_bytes] at hown
    have hbw := hide (Bw.of_own hown)
    clear hown hgrow hof
    go_wp2
    go_loopw [17] (fun i wr => ∃ k : Nat, k ≤ n ∧ i = .int .i64 k ∧ Bw wr w.heap.size (sumL m (ss.take k)) ∧ Below w.heap.size w wr) (fun i _ => n - (intOf i).toNat)
    case atStart => exact ⟨0, Nat.zero_le _, rfl, unhide hbw, unhide hb1⟩
    case round =>
      clear hbw hb1
      obtain ⟨k, hk, rfl, hB, hb⟩ := hrel
      have HB := hide hb
      have hz := hb.size
      by_cases hlt : k < n
      · have q1 : (k : Int) < n := by omega
        have hlt' : k < ss.length := by rw [unhide HN]; exact hlt
        obtain ⟨g, o, rfl, hc0⟩ := unhide HT k hlt'
        have hc := cell_below hc0 hb
        have hsl : (sumL m (ss.take k)).length = m := sumL_len m _ (fun s hs => unhide HA s (List.mem_of_mem_take hs))
        have hl := unhide HA ss[k] (List.getElem_mem hlt')
        have hadd := hide (add_any w.heap.size m (sumL m (ss.take k)) ss[k] wr hB (by rw [hsl, hl]) (by omega))
        rw [hsl, ← sumL_snoc m ss k hlt'] at hadd
        generalize bs ss[k] = S at *
        clear hB hb hc0 hsl hl hlt'
        go_wp2_with fail
        refine (unhide hadd).mono ?_
        rintro e w2 ⟨rfl, hb2, hk2⟩
        have HB2 := hide ((unhide HB).trans (hk2.below w.heap.size (unhide HB).size (Nat.le_refl _)))
        have HBW := hide hb2
        clear hb2 hk2 hadd HB
        go_wp2
        go_roundw
        case rel => exact ⟨k + 1, by omega, by go_num, unhide HBW, unhide HB2⟩
        case measure => simp [intOf]; omega
      · have hkl : k = n := by omega
        subst hkl
        have q1 : ¬ (k : Int) < k := by omega
        rw [← unhide HN, List.take_length] at hB
        have hsl : (sumL m ss).length = m := sumL_len m _ (unhide HA)
        have hcv := hB.string (cap := m)
        rw [hsl, unhide HR] at hcv
        clear hB hb hsl
        go_wp2
        go_ret2
        exact ⟨rfl, unhide HB⟩

theorem is_any (s : By) (size : Int) (w : World) (hs : s.length ≤ 100000) : Calls Tryz.prog 62 #[.string (bs s), .int .i64 size] w fun e w' => e = .returned (.bool (may size && decide ((s.length : Int) = size))) ∧ w = w' := by
  have hm := hide (isSize_any size)
  have h1 := bs_size s
  generalize bs s = S at *
  generalize s.length = n at *
  cases hM : may size with
  | false =>
    rw [hM] at hm
    clear hM
    go_enter Tryz.func62, Tryz.ntmps62
    go_wp2_with (go_at_call 74; refine (unhide hm _).mono ?_; rintro e w1 ⟨rfl, rfl⟩)
    go_ret
    exact ⟨rfl, rfl⟩
  | true =>
    rw [hM] at hm
    clear hM
    by_cases h : (n : Int) = size
    · rw [decide_eq_true h]
      have h' : ((n : Int) == size) = true := by simp [h]
      clear h
      go_enter Tryz.func62, Tryz.ntmps62
      go_wp2_with (go_at_call 74; refine (unhide hm _).mono ?_; rintro e w1 ⟨rfl, rfl⟩)
      go_ret
      exact ⟨rfl, rfl⟩
    · rw [decide_eq_false h]
      have h' : ((n : Int) == size) = false := by simp [h]
      go_enter Tryz.func62, Tryz.ntmps62
      go_wp2_with (go_at_call 74; refine (unhide hm _).mono ?_; rintro e w1 ⟨rfl, rfl⟩)
      go_ret
      exact ⟨rfl, rfl⟩

/-- few texts, none long -/
def fewB (ss : List By) : Bool := decide (ss.length ≤ 120 ∧ ∀ s ∈ ss, s.length ≤ 200)
end Go.Proofs.YtkcnihngkmaecaaGreat

/- Mathematics of outer's Holds: the rules hold of a whole. Mathematics of outer's Holds: sums of wholes; a byte turned. The law's few. The law OuterHolds, walked: where the texts are too many or too long, and where there is no whole. The law OuterHolds, walked: the whole, its last text turned. -/
import Derived.Test.YtcdnpdmcijiffaaOuL
namespace Go.Proofs.Ytcdnpdmcijiffaa
open Go.RowKit
set_option linter.unusedVariables false

theorem xorL_self (a : By) : xorL a a = List.replicate a.length 0 := by
  unfold xorL
  induction a with
  | nil => rfl
  | cons x a ih =>
    rw [List.zipWith_cons_cons, ih, List.length_cons, List.replicate_succ, UInt8.xor_self]
theorem sumL_app (m : Nat) (T : List By) (s : By) : sumL m (T ++ [s]) = xorL (sumL m T) s := by simp [sumL]
theorem pres_all {m : Nat} (hm : 1 ≤ m) {T : List By} (h : ∀ s ∈ T, s.length = m) : pres T = T := by
  unfold pres
  rw [List.filter_eq_self]
  intro s hs
  have := h s hs
  simp
  intro e
  rw [e] at this
  simp at this
  omega
theorem sumR_all {m : Nat} (hm : 1 ≤ m) (hm2 : m ≤ 64) {T : List By} (h : ∀ s ∈ T, s.length = m) : sumR (pres T) (m : Int) = sumL m T := by
  rw [pres_all hm h]
  unfold sumR
  rw [if_pos (ofB_iff.2 ⟨fun s hs => by rw [h s hs], by omega, by omega⟩)]
  simp
theorem atN_all {m : Nat} {ss : List By} (h : ∀ s ∈ ss, s.length = m) {ns : List Nat} (hn : ∀ i ∈ ns, i < ss.length) : ∀ s ∈ atN ss ns, s.length = m := by
  intro s hs
  obtain ⟨i, hi, rfl⟩ := List.mem_map.1 hs
  have hl := hn i hi
  refine h _ ?_
  simp [List.getD, hl]
theorem absL_none {m : Nat} (hm : 1 ≤ m) {ss : List By} (h : ∀ s ∈ ss, s.length = m) {ns : List Nat} (hn : ∀ i ∈ ns, i < ss.length) : absL ss ns = [] := by
  unfold absL
  rw [List.filter_eq_nil_iff]
  intro i hi
  have hl := hn i hi
  have h1 := h (ss.getD i []) (by simp [List.getD, hl])
  simp only [decide_eq_true_eq]
  intro e
  rw [e] at h1
  simp at h1
  omega
theorem aux_of {sd n a q m : Nat} {ss : List By} (hl : ss.length = n) (hn : 1 ≤ n) (hm : 1 ≤ m) (hm2 : m ≤ 64) (h : ∀ s ∈ ss, s.length = m) (j : Nat) : sumR (pres (atN ss (memL sd a q j n))) ((ss.getD 0 []).length : Int) = sumL m (atN ss (memL sd a q j n)) := by
  have h0 : (ss.getD 0 []).length = m := h _ (by have : 0 < ss.length := by omega
                                                 simp [List.getD, this])
  rw [h0]
  exact sumR_all hm hm2 (atN_all h (fun i hi => by rw [hl]; exact memL_lt sd a q j n i hi))
theorem whole_all {sd n a q m : Nat} {ss : List By} (hl : ss.length = n) (hn : 1 ≤ n) (hm : 1 ≤ m) (hm2 : m ≤ 64) (h : ∀ s ∈ ss, s.length = m) : ∀ s ∈ ss ++ auxL sd n a q ss a, s.length = m := by
  intro s hs
  rcases List.mem_append.1 hs with hs | hs
  · exact h s hs
  · obtain ⟨j, _, rfl⟩ := List.mem_map.1 hs
    rw [aux_of hl hn hm hm2 h]
    exact sumL_len m _ (atN_all h (fun i hi => by rw [hl]; exact memL_lt sd a q j n i hi))
/-- what the rules ask, of blocks of one size -/
theorem holdsB_iff {sd n a q m : Nat} (k1 : sd ≤ 72057594037927935) (hn : 1 ≤ n) (hn2 : n ≤ 96) (ha : 1 ≤ a) (ha2 : a ≤ 64) (hq : 1 ≤ q) (hq2 : q ≤ 8) {x : List By} (hl : x.length = n + a) (hm : 1 ≤ m) (hm2 : m ≤ 64) (h : ∀ s ∈ x, s.length = m) :
    holdsB sd n a q x = true ↔ ∀ j, j < a → sumL m (atN x (ruL sd n a q j)) = List.replicate m 0 := by
  have h0 : (x.getD 0 []).length = m := h _ (by have : 0 < x.length := by omega
                                                simp [List.getD, this])
  have hP : plOk sd n a q = true := by unfold plOk; simp; omega
  have hA : alike x ((n : Int) + (a : Int)) = true := by
    unfold alike ofS
    rw [h0]
    simp only [Bool.and_eq_true, decide_eq_true_eq, List.all_eq_true]
    exact ⟨by omega, fun s hs => ⟨may_iff.2 ⟨by omega, by omega⟩, by rw [h s hs]⟩⟩
  unfold holdsB
  rw [hP, hA, h0, Bool.true_and, Bool.true_and]
  simp only [Int.toNat_natCast]
  unfold holdB
  rw [List.all_eq_true]
  have key : ∀ j, j < a → ((!(decide ((absL x (ruA sd n a q j)).length = 0) && decide (sumR (pres (atN x (ruA sd n a q j))) (m : Int) ≠ zeroL (m : Int)))) = true ↔ sumL m (atN x (ruL sd n a q j)) = List.replicate m 0) := by
    intro j hj
    have hr : ∀ i ∈ ruA sd n a q j, i < x.length := fun i hi => by rw [hl]; exact ruA_lt sd n a q j i hi
    rw [absL_none hm h hr, sumR_all hm hm2 (atN_all h hr), zeroL_nat m hm hm2, show ruA sd n a q j = ruL sd n a q j by unfold ruA; rw [if_pos hj]]
    simp
  constructor
  · intro hh j hj
    exact (key j hj).1 (hh j (List.mem_range.2 hj))
  · intro hh j hj
    exact (key j (List.mem_range.1 hj)).2 (hh j (List.mem_range.1 hj))
theorem atN_whole {sd n a q : Nat} {ss : List By} (hl : ss.length = n) {j : Nat} (hj : j < a) (X : Nat → By) : atN (ss ++ (List.range a).map X) (ruL sd n a q j) = atN ss (memL sd a q j n) ++ [X j] := by
  unfold ruL
  rw [atN_append]
  congr 1
  · unfold atN
    refine List.map_congr_left (fun i hi => ?_)
    have := memL_lt sd a q j n i hi
    simp [List.getD, List.getElem?_append_left (show i < ss.length by omega)]
  · simp [atN, List.getD, hl, hj]
theorem holds_whole {sd n a q m : Nat} (k1 : sd ≤ 72057594037927935) (hn : 1 ≤ n) (hn2 : n ≤ 96) (ha : 1 ≤ a) (ha2 : a ≤ 64) (hq : 1 ≤ q) (hq2 : q ≤ 8) {ss : List By} (hl : ss.length = n) (hm : 1 ≤ m) (hm2 : m ≤ 64) (h : ∀ s ∈ ss, s.length = m) :
    holdsB sd n a q (ss ++ auxL sd n a q ss a) = true := by
  refine (holdsB_iff k1 hn hn2 ha ha2 hq hq2 (by simp [auxL, hl]) hm hm2 (whole_all hl hn hm hm2 h)).2 (fun j hj => ?_)
  unfold auxL
  rw [atN_whole hl hj, sumL_app, aux_of hl hn hm hm2 h, xorL_self, sumL_len m _ (atN_all h (fun i hi => by rw [hl]; exact memL_lt sd a q j n i hi))]
/-! two wholes -/
theorem xorL_nil_zero : ∀ (a : By), xorL (List.replicate a.length 0) a = a
  | [] => rfl
  | x :: a => by
    rw [List.length_cons, List.replicate_succ]
    show (0 ^^^ x) :: xorL (List.replicate a.length 0) a = x :: a
    rw [xorL_nil_zero a, UInt8.zero_xor]
theorem xorL_assoc : ∀ (a b c : By), xorL (xorL a b) c = xorL a (xorL b c)
  | [], _, _ => by simp [xorL]
  | _ :: _, [], _ => by simp [xorL]
  | _ :: _, _ :: _, [] => by simp [xorL]
  | x :: a, y :: b, z :: c => by
    show ((x ^^^ y) ^^^ z) :: xorL (xorL a b) c = (x ^^^ (y ^^^ z)) :: xorL a (xorL b c)
    rw [xorL_assoc a b c, UInt8.xor_assoc]
theorem xorL_comm : ∀ (a b : By), xorL a b = xorL b a
  | [], b => by cases b <;> rfl
  | _ :: _, [] => rfl
  | x :: a, y :: b => by
    show (x ^^^ y) :: xorL a b = (y ^^^ x) :: xorL b a
    rw [xorL_comm a b, UInt8.xor_comm]
/-- sums of sums -/
theorem sumL_two (m : Nat) (x z : List By) : ∀ (ns : List Nat), sumL m (ns.map fun i => xorL (x.getD i []) (z.getD i [])) = xorL (sumL m (atN x ns)) (sumL m (atN z ns)) := by
  intro ns
  unfold sumL atN
  have : ∀ (ns : List Nat) (a b : By), (ns.map fun i => xorL (x.getD i []) (z.getD i [])).foldl xorL (xorL a b) = xorL ((ns.map fun i => x.getD i []).foldl xorL a) ((ns.map fun i => z.getD i []).foldl xorL b) := by
    intro ns
    induction ns with
    | nil => intro a b; rfl
    | cons i ns ih =>
      intro a b
      simp only [List.map_cons, List.foldl_cons]
      rw [← ih]
      congr 1
      rw [xorL_assoc, ← xorL_assoc b, xorL_comm b, xorL_assoc, ← xorL_assoc a]
  have h := this ns (List.replicate m 0) (List.replicate m 0)
  rw [← h]
  congr 1
  rw [xorL_self, List.length_replicate]
end Go.Proofs.Ytcdnpdmcijiffaa
namespace Go.Proofs.Ytcdnpdmcijiffaa
open Go.RowKit
set_option linter.unusedVariables false

theorem xorL_zero : ∀ (a b : By), a.length = b.length → xorL a b = List.replicate a.length 0 → a = b
  | [], [], _, _ => rfl
  | [], _ :: _, h, _ => by simp at h
  | _ :: _, [], h, _ => by simp at h
  | x :: a, y :: b, h, h2 => by
    rw [List.length_cons, List.replicate_succ] at h2
    have h3 : (x ^^^ y) :: xorL a b = 0 :: List.replicate a.length 0 := h2
    injection h3 with h4 h5
    rw [xorL_zero a b (by simpa using h) h5, UInt8.xor_eq_zero_iff.1 h4]
/-- the sums of two lists, place by place -/
def addLL (x z : List By) (k : Nat) : List By := (List.range k).map fun i => xorL (x.getD i []) (z.getD i [])
theorem addLL_succ (x z : List By) (k : Nat) : addLL x z (k + 1) = addLL x z k ++ [xorL (x.getD k []) (z.getD k [])] := by simp [addLL, List.range_succ]
theorem holds_sum {sd n a q m : Nat} (k1 : sd ≤ 72057594037927935) (hn : 1 ≤ n) (hn2 : n ≤ 96) (ha : 1 ≤ a) (ha2 : a ≤ 64) (hq : 1 ≤ q) (hq2 : q ≤ 8) {x z : List By} (hx : x.length = n + a) (hz : z.length = n + a) (hm : 1 ≤ m) (hm2 : m ≤ 64)
    (sx : ∀ s ∈ x, s.length = m) (sz : ∀ s ∈ z, s.length = m) (px : holdsB sd n a q x = true) (pz : holdsB sd n a q z = true) : holdsB sd n a q (addLL x z (n + a)) = true := by
  have hg : ∀ (x : List By), x.length = n + a → (∀ s ∈ x, s.length = m) → ∀ i, i < n + a → (x.getD i []).length = m := fun x hx sx i hi => sx _ (by simp [List.getD, show i < x.length by omega])
  have hy : ∀ s ∈ addLL x z (n + a), s.length = m := by
    intro s hs
    obtain ⟨i, hi, rfl⟩ := List.mem_map.1 hs
    have hi := List.mem_range.1 hi
    rw [xorL_length, hg x hx sx i hi, hg z hz sz i hi, Nat.min_self]
  refine (holdsB_iff k1 hn hn2 ha ha2 hq hq2 (by simp [addLL]) hm hm2 hy).2 (fun j hj => ?_)
  have e : atN (addLL x z (n + a)) (ruL sd n a q j) = (ruL sd n a q j).map fun i => xorL (x.getD i []) (z.getD i []) := by
    unfold atN
    refine List.map_congr_left (fun i hi => ?_)
    have := ruA_lt sd n a q j i (by unfold ruA; rw [if_pos hj]; exact hi)
    simp [addLL, List.getD, this]
  rw [e, sumL_two, (holdsB_iff k1 hn hn2 ha ha2 hq hq2 hx hm hm2 sx).1 px j hj, (holdsB_iff k1 hn hn2 ha ha2 hq hq2 hz hm hm2 sz).1 pz j hj, xorL_self, List.length_replicate]
theorem atN_last {sd n a q : Nat} {x : List By} {j : Nat} (t : By) (hx : x.length = n + a) (hj : j < a) : atN (x.set (n + j) t) (ruL sd n a q j) = atN x (memL sd a q j n) ++ [t] := by
  unfold ruL
  rw [atN_append]
  congr 1
  · unfold atN
    refine List.map_congr_left (fun i hi => ?_)
    have := memL_lt sd a q j n i hi
    simp [List.getD, List.getElem?_set_ne (show n + j ≠ i by omega)]
  · simp [atN, List.getD, show n + j < x.length by omega]
theorem holds_turned {sd n a q m : Nat} (k1 : sd ≤ 72057594037927935) (hn : 1 ≤ n) (hn2 : n ≤ 96) (ha : 1 ≤ a) (ha2 : a ≤ 64) (hq : 1 ≤ q) (hq2 : q ≤ 8) {x : List By} (hx : x.length = n + a) (hm : 1 ≤ m) (hm2 : m ≤ 64)
    (sx : ∀ s ∈ x, s.length = m) (px : holdsB sd n a q x = true) (t : By) (ht : t.length = m) (hne : t ≠ x.getD (n + a - 1) []) : holdsB sd n a q (x.set (n + a - 1) t) = false := by
  have hy : ∀ s ∈ x.set (n + a - 1) t, s.length = m := by
    intro s hs
    rcases List.mem_or_eq_of_mem_set hs with h | h
    · exact sx s h
    · rw [h]; exact ht
  rw [← Bool.not_eq_true]
  intro hh
  have h1 := (holdsB_iff k1 hn hn2 ha ha2 hq hq2 (by simp [hx]) hm hm2 hy).1 hh (a - 1) (by omega)
  have h2 := (holdsB_iff k1 hn hn2 ha ha2 hq hq2 hx hm hm2 sx).1 px (a - 1) (by omega)
  have hself : x = x.set (n + (a - 1)) (x.getD (n + (a - 1)) []) := by
    refine (List.ext_getElem (by simp) (fun i h1 h2 => ?_)).symm
    rw [List.getElem_set]
    split
    · rename_i e
      subst e
      simp [List.getD, h2]
    · rfl
  have hi : ∀ i ∈ memL sd a q (a - 1) n, i < x.length := fun i hi => by have := memL_lt sd a q (a - 1) n i hi; omega
  have hS := sumL_len m (atN x (memL sd a q (a - 1) n)) (atN_all sx hi)
  rw [show n + a - 1 = n + (a - 1) by omega] at h1 hne
  rw [atN_last t hx (by omega), sumL_app] at h1
  rw [hself, atN_last _ hx (by omega), sumL_app] at h2
  have hl : (x.getD (n + (a - 1)) []).length = m := sx _ (by simp [List.getD, show n + (a - 1) < x.length by omega])
  have e1 := xorL_zero _ t (by rw [hS, ht]) (by rw [hS]; exact h1)
  have e2 := xorL_zero _ (x.getD (n + (a - 1)) []) (by rw [hS, hl]) (by rw [hS]; exact h2)
  exact hne (e1.symm.trans e2)
end Go.Proofs.Ytcdnpdmcijiffaa
namespace Go.Proofs.Ytcdnpdmcijiffaa
open Go.RowKit
set_option linter.unusedVariables false

/-- few texts, none long -/
def fewO (ss : List By) : Bool := decide (ss.length ≤ 180 ∧ ∀ s ∈ ss, s.length ≤ 100)
set_option maxRecDepth 100000 in
set_option maxHeartbeats 1000000 in
theorem ofew_any (ss : List By) (a0 : Option Addr) (c : Nat) (w : World) (hT : Txts w a0 ss) (h2 : ss.length ≤ maxLen) (h3 : ∀ s ∈ ss, s.length ≤ maxLen) :
    Calls Try.prog 11 #[.slice a0 ss.length c] w fun e w' => e = .returned (.bool (fewO ss)) ∧ w = w' := by
  unfold maxLen at h2 h3
  by_cases h0 : ss.length ≤ 180
  · have HT := hide hT
    have H3 := hide h3
    have HE : Hid (fewO ss = decide (∀ s ∈ ss, s.length ≤ 100)) := by
      show _ = _
      unfold fewO
      simp [h0]
    generalize fewO ss = E at *
    generalize hn : ss.length = n at *
    have HN := hide hn
    have q1 : ¬ (180 : Int) < n := by omega
    clear hT h3 hn
    go_enter Try.func11, Try.ntmps11
    go_wp2_with fail
    go_loopw [3] (fun i wr => w = wr ∧ ∃ k : Nat, k ≤ n ∧ i = .int .i64 k ∧ ∀ s ∈ ss.take k, s.length ≤ 100) (fun i _ => n - (intOf i).toNat)
    case atStart => exact ⟨rfl, 0, Nat.zero_le _, rfl, by simp⟩
    case round =>
      obtain ⟨rfl, k, hk, rfl, ha⟩ := hrel
      by_cases hlt : k < n
      · have hlt' : k < ss.length := by rw [unhide HN]; exact hlt
        obtain ⟨g, o, rfl, hc0⟩ := unhide HT k hlt'
        have q2 : (k : Int) < n := by omega
        have hB := bs_size ss[k]
        have hB2 := unhide H3 ss[k] (List.getElem_mem hlt')
        by_cases hl' : ss[k].length ≤ 100
        · have HA : Hid (∀ s ∈ ss.take (k + 1), s.length ≤ 100) := by
            intro s hs
            rw [List.take_succ_eq_append_getElem hlt', List.mem_append] at hs
            rcases hs with hs | hs
            · exact ha s hs
            · simp at hs; rw [hs]; exact hl'
          have q3 : ¬ (100 : Int) < (bs ss[k]).size := by omega
          generalize bs ss[k] = B at *
          clear ha hB2 hB hl' hlt'
          go_wp2
          go_roundw
          case rel => exact ⟨trivial, k + 1, by omega, by go_num, unhide HA⟩
          case measure => simp [intOf]; omega
        · have he : E = false := by rw [unhide HE]; exact decide_eq_false (fun h => hl' (h _ (List.getElem_mem hlt')))
          subst he
          have q3 : (100 : Int) < (bs ss[k]).size := by omega
          generalize bs ss[k] = B at *
          clear ha hB2 hB hl' hlt'
          go_wp2
          go_ret
          exact ⟨rfl, rfl⟩
      · have hkl : k = n := by omega
        subst hkl
        rw [← unhide HN, List.take_length] at ha
        have he : E = true := by rw [unhide HE]; exact decide_eq_true ha
        subst he
        have q2 : ¬ (k : Int) < k := by omega
        clear ha
        go_wp2
        go_ret
        exact ⟨rfl, rfl⟩
  · have e : fewO ss = false := by unfold fewO; exact decide_eq_false (fun h => h0 h.1)
    rw [e]
    have q1 : (180 : Int) < ss.length := by omega
    clear e hT h3
    generalize ss.length = n at *
    go_enter Try.func11, Try.ntmps11
    go_wp2
    go_ret
    exact ⟨rfl, rfl⟩

end Go.Proofs.Ytcdnpdmcijiffaa
namespace Go.Proofs.Ytcdnpdmcijiffaa
open Go.RowKit
set_option linter.unusedVariables false
attribute [local go_sem] Oper.semAt_some

set_option maxRecDepth 100000 in
set_option maxHeartbeats 2000000 in
theorem outerHolds_few (sd n a q : Int) (A B : List By) (a0 b0 : Option Addr) (c d : Nat) (w : World) (hA : Txts w a0 A) (hB : Txts w b0 B) (h2 : A.length ≤ maxLen) (h3 : ∀ s ∈ A, s.length ≤ maxLen) (h4 : B.length ≤ maxLen) (h5 : ∀ s ∈ B, s.length ≤ maxLen)
    (hf : fewO A = false ∨ fewO B = false) :
    Calls Try.prog 4 #[plV sd n a q, .slice a0 A.length c, .slice b0 B.length d] w fun e w' => e = .returned (.bool true) ∧ Below w.heap.size w w' := by
  have haw := hide oawake_any
  have hb0 : Below w.heap.size w (w.alloc (.cells #[.int .i64 sd, .int .i64 n, .int .i64 a, .int .i64 q] 23)) := (Below.refl _ w).alloc (Nat.le_refl _) _
  have hfA := hide (ofew_any A a0 c _ (hA.below hb0) h2 h3)
  have hfB := hide (ofew_any B b0 d _ (hB.below hb0) h4 h5)
  have B0 := hide hb0
  unfold plV at *
  generalize A.length = lA at *
  generalize B.length = lB at *
  clear hb0 hA hB h3 h5
  cases hfa : fewO A with
  | false =>
    rw [hfa] at hfA
    clear hf hfB
    go_enter Try.func4, Try.ntmps4
    go_wp2_with fail
    refine (unhide hfA).mono ?_
    rintro e w1 ⟨rfl, rfl⟩
    go_wp2_with fail
    refine (unhide haw _).mono ?_
    rintro e w2 ⟨rfl, b2⟩
    have B2 := hide ((unhide B0).trans (b2.mono (unhide B0).size))
    clear b2
    go_wp2
    go_ret
    exact ⟨rfl, unhide B2⟩
  | true =>
    rw [hfa] at hfA hf
    have hfb : fewO B = false := by rcases hf with h | h; cases h; exact h
    rw [hfb] at hfB
    clear hf
    go_enter Try.func4, Try.ntmps4
    go_wp2_with fail
    refine (unhide hfA).mono ?_
    rintro e w1 ⟨rfl, rfl⟩
    go_wp2_with fail
    refine (unhide hfB).mono ?_
    rintro e w1 ⟨rfl, rfl⟩
    go_wp2_with fail
    refine (unhide haw _).mono ?_
    rintro e w2 ⟨rfl, b2⟩
    have B2 := hide ((unhide B0).trans (b2.mono (unhide B0).size))
    clear b2
    go_wp2
    go_ret
    exact ⟨rfl, unhide B2⟩
set_option maxRecDepth 100000 in
set_option maxHeartbeats 2000000 in
theorem outerHolds_no (sd n a q : Int) (A B : List By) (a0 b0 : Option Addr) (c d : Nat) (w : World) (hA : Txts w a0 A) (hB : Txts w b0 B) (h2 : A.length ≤ maxLen) (h3 : ∀ s ∈ A, s.length ≤ maxLen) (h4 : B.length ≤ maxLen) (h5 : ∀ s ∈ B, s.length ≤ maxLen)
    (hfa : fewO A = true) (hfb : fewO B = true) (hno : ¬ (plOk sd n a q = true ∧ alike A n = true)) :
    Calls Try.prog 4 #[plV sd n a q, .slice a0 A.length c, .slice b0 B.length d] w fun e w' => e = .returned (.bool true) ∧ Below w.heap.size w w' := by
  have haw := hide oawake_any
  have hb0 : Below w.heap.size w (w.alloc (.cells #[.int .i64 sd, .int .i64 n, .int .i64 a, .int .i64 q] 23)) := (Below.refl _ w).alloc (Nat.le_refl _) _
  have hfA := hide (ofew_any A a0 c _ (hA.below hb0) h2 h3)
  have hfB := hide (ofew_any B b0 d _ (hB.below hb0) h4 h5)
  have hF : A.length ≤ 180 ∧ ∀ s ∈ A, s.length ≤ 100 := by
    unfold fewO at hfa
    exact of_decide_eq_true hfa
  have hwh := hide (whole_any sd n a q A a0 c _ (hA.below hb0) (by omega) (fun s hs => by have := hF.2 s hs; omega))
  have e1 : whE sd n a q A = 1 := by unfold whE; rw [if_neg hno]
  have e2 : whR sd n a q A = [] := by unfold whR; rw [if_neg hno]
  rw [e1, e2] at hwh
  rw [hfa] at hfA
  rw [hfb] at hfB
  have B0 := hide hb0
  obtain ⟨c0, c1, c2, c3⟩ := plan_cells w sd n a q _ (Below.refl _ _)
  unfold plV at *
  generalize A.length = lA at *
  generalize B.length = lB at *
  clear hb0 hA hB h3 h5 hno hF e1 e2
  go_enter Try.func4, Try.ntmps4
  go_wp2_with fail
  refine (unhide hfA).mono ?_
  rintro e w1 ⟨rfl, rfl⟩
  go_wp2_with fail
  refine (unhide hfB).mono ?_
  rintro e w1 ⟨rfl, rfl⟩
  go_wp2_with fail
  refine (unhide hwh).mono ?_
  rintro e w2 ⟨v, rfl, hO, b2⟩
  obtain ⟨x0, xc, rfl, _, _, _⟩ := hO.txts
  have B2 := hide ((unhide B0).trans (b2.mono (unhide B0).size))
  clear b2 hO
  go_wp2_with fail
  refine (unhide haw _).mono ?_
  rintro e w3 ⟨rfl, b3⟩
  have B3 := hide ((unhide B2).trans (b3.mono (unhide B2).size))
  clear b3
  go_wp2
  go_ret
  exact ⟨rfl, unhide B3⟩
end Go.Proofs.Ytcdnpdmcijiffaa
namespace Go.Proofs.Ytcdnpdmcijiffaa
open Go.RowKit
set_option linter.unusedVariables false
attribute [local go_sem] Oper.semAt_some

/-- what is known of a whole -/
structure Whl (sd n a q : Int) (X : List By) (m : Nat) : Prop where
  m1 : 1 ≤ m
  m64 : m ≤ 64
  n1 : 1 ≤ n ∧ n ≤ 96
  a1 : 1 ≤ a ∧ a ≤ 64
  len : X.length = n.toNat + a.toNat
  siz : ∀ s ∈ X, s.length = m
  hol : holdsB sd n a q X = true
  tur : ∀ t : By, t.length = m → t ≠ X.getD (n.toNat + a.toNat - 1) [] → holdsB sd n a q (X.set (n.toNat + a.toNat - 1) t) = false
theorem whl_of {sd n a q : Int} {A : List By} (hP : plOk sd n a q = true) (hA : alike A n = true) : ∃ m, Whl sd n a q (whR sd n a q A) m ∧ whE sd n a q A = 0 := by
  have e1 : whE sd n a q A = 0 := by unfold whE; rw [if_pos ⟨hP, hA⟩]
  have e2 : whR sd n a q A = A ++ auxL sd.toNat n.toNat a.toNat q.toNat A a.toNat := by unfold whR; rw [if_pos ⟨hP, hA⟩]
  rw [e2]
  unfold plOk at hP
  simp only [Bool.and_eq_true, decide_eq_true_eq] at hP
  obtain ⟨⟨⟨p1, p2⟩, p3⟩, p4⟩ := hP
  unfold alike ofS at hA
  simp only [Bool.and_eq_true, decide_eq_true_eq, List.all_eq_true] at hA
  obtain ⟨h1, h2⟩ := hA
  have hl : A.length = n.toNat := by omega
  have h0 := h2 (A.getD 0 []) (by simp [List.getD, show 0 < A.length by omega])
  obtain ⟨m1, m2⟩ := may_iff.1 h0.1
  have hs : ∀ s ∈ A, s.length = (A.getD 0 []).length := fun s hs => by have := (h2 s hs).2; omega
  generalize (A.getD 0 []).length = m at *
  have k1 : sd.toNat ≤ 72057594037927935 := by omega
  have hX := whole_all (sd := sd.toNat) (a := a.toNat) (q := q.toNat) (n := n.toNat) (m := m) hl (by omega) (by omega) (by omega) hs
  have hH := holds_whole (sd := sd.toNat) (n := n.toNat) (a := a.toNat) (q := q.toNat) (m := m) k1 (by omega) (by omega) (by omega) (by omega) (by omega) (by omega) hl (by omega) (by omega) hs
  have hXl : (A ++ auxL sd.toNat n.toNat a.toNat q.toNat A a.toNat).length = n.toNat + a.toNat := by simp [auxL, hl]
  have hT := fun t ht hne => holds_turned (sd := sd.toNat) (n := n.toNat) (a := a.toNat) (q := q.toNat) (m := m) k1 (by omega) (by omega) (by omega) (by omega) (by omega) (by omega) hXl (by omega) (by omega) hX hH t ht hne
  rw [Int.toNat_of_nonneg (by omega), Int.toNat_of_nonneg (by omega), Int.toNat_of_nonneg (by omega), Int.toNat_of_nonneg (by omega)] at hH
  refine ⟨m, ⟨by omega, by omega, p2, p3, hXl, hX, hH, fun t ht hne => ?_⟩, e1⟩
  have := hT t ht hne
  rw [Int.toNat_of_nonneg (by omega), Int.toNat_of_nonneg (by omega), Int.toNat_of_nonneg (by omega), Int.toNat_of_nonneg (by omega)] at this
  exact this
theorem whl_sum {sd n a q : Int} {X Z : List By} {m : Nat} (hP : plOk sd n a q = true) (hX : Whl sd n a q X m) (hZ : Whl sd n a q Z m) : holdsB sd n a q (addLL X Z (n.toNat + a.toNat)) = true := by
  unfold plOk at hP
  simp only [Bool.and_eq_true, decide_eq_true_eq] at hP
  obtain ⟨⟨⟨p1, p2⟩, p3⟩, p4⟩ := hP
  have e1 := hX.hol
  have e2 := hZ.hol
  have h1 : ∀ Y : List By, holdsB sd n a q Y = holdsB (sd.toNat : Int) (n.toNat : Int) (a.toNat : Int) (q.toNat : Int) Y := fun Y => by
    rw [Int.toNat_of_nonneg (by omega), Int.toNat_of_nonneg (by omega), Int.toNat_of_nonneg (by omega), Int.toNat_of_nonneg (by omega)]
  rw [h1] at e1 e2 ⊢
  exact holds_sum (by omega) (by omega) (by omega) (by omega) (by omega) (by omega) (by omega) hX.len hZ.len hX.m1 hX.m64 hX.siz hZ.siz e1 e2
theorem own_some {w : World} {base : Nat} {v : Value} {T : List By} (h : OwnS w base v T) (h0 : 0 < T.length) : ∃ g c, v = .slice (some ⟨g, 0, none⟩) T.length c := by
  rcases (show World.ownsRow _ _ _ _ _ _ _ from h).2 with ⟨_, h1⟩ | ⟨g, cap, cur, h1, _⟩
  · omega
  · exact ⟨g, cap, h1⟩
theorem turn_ne (y : UInt8) (t : By) : (y ^^^ 1) :: t ≠ y :: t := by
  intro e
  injection e with h _
  have h2 : (y ^^^ (1 : UInt8)) ^^^ y = y ^^^ y := by rw [h]
  rw [UInt8.xor_self, UInt8.xor_comm, ← UInt8.xor_assoc, UInt8.xor_self, UInt8.zero_xor] at h2
  exact absurd h2 (by decide)
set_option maxRecDepth 100000 in
set_option maxHeartbeats 2000000 in
theorem outerHolds_yes (sd n a q : Int) (A B : List By) (a0 b0 : Option Addr) (c d : Nat) (w : World) (hA : Txts w a0 A) (hB : Txts w b0 B) (h2 : A.length ≤ maxLen) (h3 : ∀ s ∈ A, s.length ≤ maxLen) (h4 : B.length ≤ maxLen) (h5 : ∀ s ∈ B, s.length ≤ maxLen)
    (hfa : fewO A = true) (hfb : fewO B = true) (hP : plOk sd n a q = true) (hAl : alike A n = true) :
    Calls Try.prog 4 #[plV sd n a q, .slice a0 A.length c, .slice b0 B.length d] w fun e w' => e = .returned (.bool true) ∧ Below w.heap.size w w' := by
  have haw := hide oawake_any
  have hpc := hide (plan_cells w sd n a q)
  have hb0 : Below w.heap.size w (w.alloc (.cells #[.int .i64 sd, .int .i64 n, .int .i64 a, .int .i64 q] 23)) := (Below.refl _ w).alloc (Nat.le_refl _) _
  have hfA := hide (ofew_any A a0 c _ (hA.below hb0) h2 h3)
  have hfB := hide (ofew_any B b0 d _ (hB.below hb0) h4 h5)
  have hFA : A.length ≤ 180 ∧ ∀ s ∈ A, s.length ≤ 100 := by
    unfold fewO at hfa
    exact of_decide_eq_true hfa
  have hFB : B.length ≤ 180 ∧ ∀ s ∈ B, s.length ≤ 100 := by
    unfold fewO at hfb
    exact of_decide_eq_true hfb
  have hwh := hide (whole_any sd n a q A a0 c _ (hA.below hb0) (by omega) (fun s hs => by have := hFA.2 s hs; omega))
  obtain ⟨m, hX, eX⟩ := whl_of hP hAl
  rw [hfa] at hfA
  rw [hfb] at hfB
  rw [eX] at hwh
  generalize whR sd n a q A = X at *
  have HX := hide hX
  have hXl := hX.len
  have hn := hX.n1
  have ha := hX.a1
  have hwhB : Hid (∀ W, Below w.heap.size w W → Calls Try.prog 12 #[plV sd n a q, .slice b0 B.length d] W fun e w' => ∃ v, e = .returned (.tuple #[v, .int .i64 (whE sd n a q B)]) ∧ OwnS w' W.heap.size v (whR sd n a q B) ∧ Below W.heap.size W w') := fun W hW => whole_any sd n a q B b0 d W (hB.below hW) (by omega) (fun s hs => by have := hFB.2 s hs; omega)
  have hho : Hid (∀ (Y : List By) (y0 : Option Addr) (yc : Nat) W, Txts W y0 Y → Y.length ≤ 100000 → (∀ s ∈ Y, s.length ≤ 100000) → Calls Try.prog 13 #[plV sd n a q, .slice y0 Y.length yc] W fun e w' => e = .returned (.bool (holdsB sd n a q Y)) ∧ Below W.heap.size W w') := fun Y y0 yc W hY h1 h2 => Holds_any sd n a q Y y0 yc W hY h1 h2
  have B0 := hide hb0
  obtain ⟨i0, hi0, hz0, hz1, hz2⟩ : ∃ i, Try.prog.info? 9 = some i ∧ i.zero = some (.string ⟨#[]⟩) ∧ i.size = 1 ∧ i.bytes = 16 := by
    have h := Try.infoS
    cases hh : Try.prog.info? 9 with
    | none => rw [hh] at h; cases h
    | some i =>
      rw [hh] at h
      simp only [Option.map_some, Option.some.injEq, Prod.mk.injEq] at h
      exact ⟨i, rfl, h.1, h.2.1, h.2.2⟩
  generalize hL : n.toNat + a.toNat = L at *
  have hL2 : 2 ≤ L := by omega
  have hL160 : L ≤ 160 := by omega
  have hPl := hide hP
  unfold plV at *
  generalize A.length = lA at *
  generalize B.length = lB at *
  have HL := hide hL
  have HXl := hide hXl
  clear hb0 hA hB h3 h5 hFA hFB hX hfa hfb hAl hL hP hn ha
  obtain ⟨c0, c1, c2, c3⟩ := unhide hpc _ (Below.refl _ _)
  go_enter Try.func4, Try.ntmps4
  go_wp2_with fail
  refine (unhide hfA).mono ?_
  rintro e w1 ⟨rfl, rfl⟩
  go_wp2_with fail
  refine (unhide hfB).mono ?_
  rintro e w1 ⟨rfl, rfl⟩
  go_wp2_with fail
  refine (unhide hwh).mono ?_
  rintro e w2 ⟨v2, rfl, hO2, b2⟩
  obtain ⟨gx, cx, rfl⟩ := own_some hO2 (by omega)
  obtain ⟨_, _, e2, hTx, hcx, hcm⟩ := hO2.txts
  simp only [Value.slice.injEq, true_and] at e2
  obtain ⟨rfl, rfl⟩ := e2
  have PB2 := hide b2
  have B2 := hide ((unhide B0).trans (b2.mono (unhide B0).size))
  have HTX := hide hTx
  rw [hXl]
  obtain ⟨c0, c1, c2, c3⟩ := unhide hpc _ b2
  clear b2 hO2 hTx
  go_wp2_with fail
  have hh2 := hide (unhide hho X (some ⟨gx, 0, none⟩) cx w2 (unhide HTX) (by omega) (fun s hs => by have := (unhide HX).siz s hs; have := (unhide HX).m64; omega))
  rw [hXl, (unhide HX).hol] at hh2
  refine (unhide hh2).mono ?_
  rintro e w3 ⟨rfl, b3⟩
  have PB3 := hide ((unhide PB2).trans (b3.mono (unhide PB2).size))
  have B3 := hide ((unhide B2).trans (b3.mono (unhide B2).size))
  have HT3 := hide ((unhide HTX).below b3)
  clear b3 c0 c1 c2 c3 hXl
  obtain ⟨p, hp⟩ : ∃ p, L = p + 1 := ⟨L - 1, by omega⟩
  have hpi : (L : Int) - 1 = (p : Int) := by omega
  have HP := hide hp
  have hnews : ∀ (j : Nat) u, (sc X)[j]? = some u → (w3.alloc (.cells #[] 9)).cell? ((⟨gx, 0, none⟩ : Addr).add j) = some u := fun j u hj => by
    have hjl : j < X.length := by
      rcases Nat.lt_or_ge j X.length with h | h
      · exact h
      · rw [List.getElem?_eq_none (by rw [sc_length]; exact h)] at hj; cases hj
    obtain ⟨g', o', e, h⟩ := ((unhide HT3).below ((Below.refl _ w3).alloc (Nat.le_refl _) (.cells #[] 9))) j hjl
    simp only [Option.some.injEq, Addr.mk.injEq, and_true] at e
    obtain ⟨rfl, rfl⟩ := e
    rw [sc_get X j hjl] at hj
    rw [show (⟨gx, 0, none⟩ : Addr).add j = ⟨gx, j, none⟩ by unfold Addr.add; split <;> simp_all]
    rw [Nat.zero_add] at h
    exact h.trans hj
  have HNW := hide hnews
  have hscl : (sc X).length = L * 1 := by rw [sc_length, unhide HXl]; omega
  have HSC := hide hscl
  have hlit := hide (World.ownsRow_lit (base := w3.heap.size) (e := 9) (size := 1) w3 #[] 0 (Nat.le_refl _) (by unfold maxLen; omega) rfl)
  clear hnews hscl hp
  go_wp2_with (at_builtin; refine wpList_append_own _ rfl _ _ 34 rfl w3.heap.size 9 i0 _ 1 16 Try.undS hi0 hz0 hz1 hz2 rfl (by decide) _ _ _ rfl (unhide hlit) ⟨gx, 0, none⟩ L cx (sc X) rfl (unhide HSC) (unhide HNW) ?d2 ?d3 ?d4 ?d5 ?_)
  case d2 => exact sc_one X
  case d3 => unfold maxLen; omega
  case d4 => omega
  case d5 => simp
  intro v4 w4 hown4 hgrow4 _
  have hO4 : OwnS w4 w3.heap.size v4 X := by
    show World.ownsRow _ _ _ _ _ _ _
    rw [unhide HXl]
    simpa using hown4
  have b4 : Below w3.heap.size w3 w4 := ((Below.refl _ w3).alloc (Nat.le_refl _) _).grown hgrow4 (by simp) (fun k hk => by
    have := (unhide hlit).lt k hk
    exact this.1)
  obtain ⟨gy, cy, rfl⟩ := own_some hO4 (by rw [unhide HXl]; omega)
  have hO4' : w4.ownsRow w3.heap.size 9 1 (.slice (some ⟨gy, 0, none⟩) X.length cy) X.length (sc X) := hO4
  have hpX : p < X.length := by rw [unhide HXl, unhide HP]; omega
  have cp := (hO4'.cellAt p (by omega)).trans (sc_get X p hpX)
  have hsm : X[p].length = m := (unhide HX).siz _ (List.getElem_mem hpX)
  have hm1 := (unhide HX).m1
  have hm64 := (unhide HX).m64
  have hXp : X.getD (n.toNat + a.toNat - 1) [] = X[p] := by
    rw [unhide HL, unhide HP, Nat.add_sub_cancel]
    simp [List.getD, hpX]
  obtain ⟨y, t, hyt⟩ : ∃ y t, X[p] = y :: t := by
    cases h : X[p] with
    | nil => rw [h] at hsm; simp at hsm; omega
    | cons y t => exact ⟨y, t, rfl⟩
  have c6' := sc_get X p hpX
  rw [hyt] at cp hsm hXp c6'
  have hsm2 : ((y ^^^ 1) :: t).length = m := by simpa using hsm
  have htur := hide ((unhide HX).tur ((y ^^^ 1) :: t) hsm2 (by rw [hXp]; exact turn_ne y t))
  obtain ⟨cap5, w5, hcv, hbw, b5⟩ := run_bytes w4 (y :: t)
  have hk5 : w5.ownsRow w3.heap.size 9 1 (.slice (some ⟨gy, 0, none⟩) X.length cy) X.length (sc X) := own_below2 hO4' b5
  have hgy := (hO4'.lt gy rfl)
  have d0 : w5.cell? ⟨w4.heap.size, 0, none⟩ = some (.int .u8 (y.toNat : Int)) := hbw.cell 0 (by simp)
  have f0 := hbw.free 0 (by simp)
  have hxor : bits .xor .u8 (y.toNat : Int) 1 = ((y ^^^ 1).toNat : Int) := xor8 _ 1
  have hb6 := hbw.set 0 ((y ^^^ 1).toNat : Int) (by omega) (by have := (y ^^^ 1).toNat_lt; omega)
  rw [byteOf_nat, List.set_cons_zero] at hb6
  have hcv6 := hb6.string (cap := cap5)
  have hk6 : (w5.setCell ⟨w4.heap.size, 0, none⟩ (.int .u8 ((y ^^^ 1).toNat : Int))).ownsRow w3.heap.size 9 1 (.slice (some ⟨gy, 0, none⟩) X.length cy) X.length (sc X) := ownsRow_setCell_other hk5 (by simp [Value.ownBlock]; omega) _
  have f6 := hk6.frozenAt p
  have c6 := (hk6.cellAt p (by omega)).trans c6'
  have hst := (hk6.stored p (.string (bs ((y ^^^ 1) :: t)))).1
  have hset : (sc X).set p (.string (bs ((y ^^^ 1) :: t))) = sc (X.set p ((y ^^^ 1) :: t)) := by
    unfold sc
    rw [List.map_set]
  rw [hset] at hst
  have hb7 : Below w3.heap.size w3 ((w5.setCell ⟨w4.heap.size, 0, none⟩ (.int .u8 ((y ^^^ 1).toNat : Int))).setCell ⟨gy, p, none⟩ (.string (bs ((y ^^^ 1) :: t)))) := ((b4.trans (b5.mono b4.size)).setCell (p := ⟨w4.heap.size, 0, none⟩) b4.size _).setCell (p := ⟨gy, p, none⟩) hgy.1 _
  have hn0 : n.toNat + a.toNat - 1 = p := by rw [unhide HL, unhide HP]; omega
  rw [hn0] at htur
  have hTy : Txts ((w5.setCell ⟨w4.heap.size, 0, none⟩ (.int .u8 ((y ^^^ 1).toNat : Int))).setCell ⟨gy, p, none⟩ (.string (bs ((y ^^^ 1) :: t)))) (some ⟨gy, 0, none⟩) (X.set p ((y ^^^ 1) :: t)) := by
    have hOy : OwnS ((w5.setCell ⟨w4.heap.size, 0, none⟩ (.int .u8 ((y ^^^ 1).toNat : Int))).setCell ⟨gy, p, none⟩ (.string (bs ((y ^^^ 1) :: t)))) w3.heap.size (.slice (some ⟨gy, 0, none⟩) X.length cy) (X.set p ((y ^^^ 1) :: t)) := by
      show World.ownsRow _ _ _ _ _ _ _
      rw [List.length_set]
      exact hst
    obtain ⟨x0, xc, e, hx, _⟩ := hOy.txts
    simp only [List.length_set, Value.slice.injEq, true_and] at e
    rw [e.1]
    exact hx
  have hhy := hide (unhide hho _ (some ⟨gy, 0, none⟩) cy _ hTy (by rw [List.length_set, unhide HXl]; omega) (fun s hs => by
    rcases List.mem_or_eq_of_mem_set hs with h | h
    · have := (unhide HX).siz s h; omega
    · rw [h]; omega))
  rw [unhide htur, List.length_set, unhide HXl] at hhy
  have HB7 := hide hb7
  have PB7 := hide ((unhide PB3).trans (hb7.mono (unhide PB3).size))
  obtain ⟨p0, p1, p2, p3⟩ := unhide hpc _ (unhide PB7)
  have PB5 := hide ((unhide PB3).trans ((b4.trans (b5.mono b4.size)).mono (unhide PB3).size))
  obtain ⟨o0, o1, o2, o3⟩ := unhide hpc _ (unhide PB5)
  have hws3 := (unhide PB3).size
  have hw0 : w.heap.size < w3.heap.size := by simp at hws3; omega
  have ne1 : ¬ w.heap.size = gy := by omega
  have ne2 : ¬ w.heap.size = w4.heap.size := by have := b4.size; omega
  have ne3 : ¬ gy = w.heap.size := by omega
  have ne4 : ¬ w4.heap.size = w.heap.size := by have := b4.size; omega
  rw [unhide HXl]
  rw [hsm] at hcv
  rw [hsm2] at hcv6
  generalize bs (y :: t) = S1 at *
  generalize bs ((y ^^^ 1) :: t) = S2 at *
  generalize y ^^^ 1 = x1 at *
  have q1 : (p : Int) < L := by have := unhide HP; omega
  have hm0 : ¬ (m : Int) = 0 := by omega
  have hm0' : 0 < m := by omega
  clear hown4 hgrow4 hO4 hO4' b4 b5 hbw hb6 hk5 hk6 hst hset hb7 hTy hXp hsm hsm2 HNW hlit hn0 htur hyt c6' hpX
  go_wp2_with fail
  refine (unhide hhy).mono ?_
  rintro e w8 ⟨rfl, b8⟩
  have HB8 := hide ((unhide HB7).trans (b8.mono (unhide HB7).size))
  have PB8 := hide ((unhide PB7).trans (b8.mono (unhide PB7).size))
  have HT8 := hide ((unhide HT3).below (unhide HB8))
  have B8 := hide ((unhide B3).trans ((unhide HB8).mono (unhide B3).size))
  clear b8 HB7 PB7 p0 p1 p2 p3 o0 o1 o2 o3 PB5 cp d0 f0 f6 c6 hcv hcv6 hxor ne1 ne2 ne3 ne4 hhy hgy
  obtain ⟨c0, c1, c2, c3⟩ := unhide hpc _ (unhide PB8)
  have hwb := hide (unhide hwhB w8 (unhide B8))
  by_cases hok : alike B n = true
  · obtain ⟨mz, hZ, eZ⟩ := whl_of (unhide hPl) hok
    rw [eZ] at hwb
    generalize whR sd n a q B = Z at *
    have HZ := hide hZ
    have hZl : Z.length = L := hZ.len.trans (unhide HL)
    have hZm := hZ.m64
    have hXm := (unhide HX).m64
    clear hZ hok
    go_wp2_with fail
    refine (unhide hwb).mono ?_
    rintro e w9 ⟨v9, rfl, hO9, b9⟩
    obtain ⟨gz, cz, rfl⟩ := own_some hO9 (by omega)
    obtain ⟨_, _, e9, hTz, _, _⟩ := hO9.txts
    simp only [Value.slice.injEq, true_and] at e9
    obtain ⟨rfl, rfl⟩ := e9
    rw [hZl]
    have HTZ := hide hTz
    have B9 := hide ((unhide B8).trans (b9.mono (unhide B8).size))
    have PB9 := hide ((unhide PB8).trans (b9.mono (unhide PB8).size))
    have HT9 := hide ((unhide HT8).below b9)
    have hX0 : 0 < X.length := by rw [unhide HXl]; omega
    have hZ0 : 0 < Z.length := by omega
    obtain ⟨_, _, ex, x0⟩ := unhide HT9 0 hX0
    simp only [Option.some.injEq, Addr.mk.injEq, and_true] at ex
    obtain ⟨rfl, rfl⟩ := ex
    obtain ⟨_, _, ez, z0⟩ := unhide HTZ 0 hZ0
    simp only [Option.some.injEq, Addr.mk.injEq, and_true] at ez
    obtain ⟨rfl, rfl⟩ := ez
    have sx : (bs X[0]).size = m := by rw [bs_size]; exact (unhide HX).siz _ (List.getElem_mem hX0)
    have sz : (bs Z[0]).size = mz := by rw [bs_size]; exact (unhide HZ).siz _ (List.getElem_mem hZ0)
    have HZl := hide hZl
    generalize bs X[0] = SX at *
    generalize bs Z[0] = SZ at *
    rw [Nat.add_zero] at x0 z0
    have hL0 : 0 < L := by omega
    have hL0' : ¬ (L : Int) = 0 := by omega
    clear hTz b9 hO9 hX0 hZ0 hZl
    by_cases hmm : mz = m
    · have d1 : ((SZ.size : Int) == (SX.size : Int)) = true := by simp; omega
      have d2 : SZ.size = SX.size := by omega
      have HD := hide d2
      have HMM := hide hmm
      clear d2 sx sz hmm
      go_wp2
      have d3 : ((SZ.size : Int) != (SX.size : Int)) = false := by have := unhide HD; simp; omega
      have d4 : ((0 : Int) != 0) = false := rfl
      go_big_quiet (fail)
      have HB0 : Hid (Below w9.heap.size w9 (w9.drewN nq)) := ⟨rfl, rfl, rfl, Nat.le_refl _, fun _ _ => rfl⟩
      clear x0 z0 d1 d3 d4
      go_wp2_with fail
      go_loopw [14, 15] (fun v u wr => ∃ k : Nat, k ≤ L ∧ u = .int .i64 k ∧ OwnS wr w9.heap.size v (addLL X Z k) ∧ Below w9.heap.size w9 wr) (fun _ u _ => L - (intOf u).toNat)
      case atStart => exact ⟨0, by omega, rfl, World.ownsRow_nil _ _ _ _, unhide HB0⟩
      case round =>
        obtain ⟨k, hk, rfl, hO, hW⟩ := hrel
        have hal : (addLL X Z k).length = k := by simp [addLL]
        obtain ⟨ao, cap, rfl⟩ := own_shape' (show World.ownsRow _ _ _ _ _ _ _ from hO)
        rw [hal]
        by_cases hlt : k < L
        · have hkX : k < X.length := by rw [unhide HXl]; exact hlt
          have hkZ : k < Z.length := by rw [unhide HZl]; exact hlt
          obtain ⟨_, _, ex, x0⟩ := ((unhide HT9).below hW) k hkX
          simp only [Option.some.injEq, Addr.mk.injEq, and_true] at ex
          obtain ⟨rfl, rfl⟩ := ex
          obtain ⟨_, _, ez, z0⟩ := ((unhide HTZ).below hW) k hkZ
          simp only [Option.some.injEq, Addr.mk.injEq, and_true] at ez
          obtain ⟨rfl, rfl⟩ := ez
          rw [Nat.zero_add] at x0 z0
          have lx : X[k].length = m := (unhide HX).siz _ (List.getElem_mem hkX)
          have lz : Z[k].length = m := by rw [(unhide HZ).siz _ (List.getElem_mem hkZ)]; exact unhide HMM
          have hxor : Hid (∀ Y : Gb wr, Calls Try.prog 14 #[.string (bs X[k]), .string (bs Z[k])] Y.w fun e w' => e = .returned (.tuple #[.string (bs (xorL X[k] Z[k])), .int .i64 0]) ∧ Below Y.w.heap.size Y.w w') := fun Y => by
            have h := xor_any X[k] Z[k] Y.w (by omega) (by omega)
            have e1 : xorR X[k] Z[k] = xorL X[k] Z[k] := by unfold xorR; rw [if_pos (by rw [lx, lz])]
            have e2 : xorE X[k] Z[k] = 0 := by unfold xorE; rw [if_pos (by rw [lx, lz])]
            rwa [e1, e2] at h
          have HS : Hid (addLL X Z (k + 1) = addLL X Z k ++ [xorL X[k] Z[k]]) := by
            show _ = _
            rw [addLL_succ]
            simp [List.getD, hkX, hkZ]
          have q5 : (k : Int) < L := by omega
          have HO := hide hO
          have HW := hide hW
          have hzw := hW.size
          generalize bs X[k] = Sx at *
          generalize bs Z[k] = Sz at *
          generalize hS0 : xorL X[k] Z[k] = S0 at *
          clear hO hW lx lz hkX hkZ hS0
          go_wp2_with fail
          have hne := gb_ne wr
          have e0 : ∀ y : Gb wr, y.w.cell? ⟨gx, k, none⟩ = _ := fun y => gb_cell x0 y
          have e0' : ∀ y : Gb wr, y.w.cell? ⟨gz, k, none⟩ = _ := fun y => gb_cell z0 y
          refine wp_region_gr (fun x => Below wr.heap.size wr x) (by kernel_rfl) (by kernel_rfl) (gb_start wr) ?_
          repeat (go_big_quiet_step ((go_at_call 14; exact gb_call (unhide hxor _))))
          refine wpQuiet_nil ?_
          rintro w7 ⟨⟨w7', b7⟩, rfl⟩
          have HO7 := hide (own_below2 (show World.ownsRow _ _ _ _ _ _ _ from unhide HO) b7)
          rw [hal] at HO7
          have HW7 := hide ((unhide HW).trans (b7.mono hzw))
          have hz7 := (unhide HW7).size
          clear b7 e0 e0' hne x0 z0 HO HW
          go_wp2_with (at_builtin; (refine wpList_append_own _ rfl _ _ 34 rfl w9.heap.size 9 i0 _ 1 16 Try.undS hi0 hz0 hz1 hz2 rfl (by decide) _ _ _ rfl ((unhide HO7).alloc _) ⟨w7.heap.size, 0, none⟩ 1 1 [.string (bs S0)] rfl rfl (news_lit _ [_] _) ?d2 ?d3 ?d4 ?d5 ?_))
          case d2 => first | rfl | (intro u hu; simp at hu; subst hu; rfl)
          case d3 => unfold maxLen; omega
          case d4 => omega
          case d5 => first | omega | (simp; omega)
          intro v' w3' hown' hgrow' _
          have hb' := hide ((((unhide HW7).alloc (by omega) _)).grown hgrow' (by simp; omega) (fun k hk => (((unhide HO7).lt k hk).1)))
          have ho2 : Hid (OwnS w3' w9.heap.size v' (addLL X Z (k + 1))) := by
            rw [unhide HS]
            refine OwnS.more ?_
            rw [hal]
            exact hown'
          obtain ⟨ao', cap', rfl⟩ := own_shape' hown'
          clear hown' hgrow' HO7 HW7
          go_wp2
          go_roundw
          case rel => exact ⟨k + 1, by omega, by go_num, unhide ho2, unhide hb'⟩
          case measure => simp [intOf]; omega
        · have hkl : k = L := by omega
          subst hkl
          have q5 : ¬ (k : Int) < k := by omega
          obtain ⟨s0, sc0, es, hTs, _, _⟩ := hO.txts
          rw [hal] at es
          simp only [Value.slice.injEq, true_and] at es
          obtain ⟨rfl, rfl⟩ := es
          have HTS := hide hTs
          have HW := hide hW
          have B10 := hide ((unhide B9).trans (hW.mono (unhide B9).size))
          have PB10 := hide ((unhide PB9).trans (hW.mono (unhide PB9).size))
          have hsum : holdsB sd n a q (addLL X Z k) = true := by
            have hZ' := unhide HZ
            rw [unhide HMM] at hZ'
            have := whl_sum (unhide hPl) (unhide HX) hZ'
            rwa [unhide HL] at this
          have hsz : ∀ s ∈ addLL X Z k, s.length ≤ 100000 := fun s hs => by
            obtain ⟨i, hi, rfl⟩ := List.mem_map.1 hs
            have hi := List.mem_range.1 hi
            have h1 : (X.getD i []).length = m := (unhide HX).siz _ (by simp [List.getD, show i < X.length by rw [unhide HXl]; exact hi])
            rw [xorL_length]
            omega
          have HSZ := hide hsz
          have HSM := hide hsum
          clear hTs hW hO hsum hsz
          go_wp2_with fail
          refine (unhide haw _).mono ?_
          rintro e w11 ⟨rfl, b11⟩
          have B11 := hide ((unhide B10).trans (b11.mono (unhide B10).size))
          obtain ⟨c0, c1, c2, c3⟩ := unhide hpc _ ((unhide PB10).trans (b11.mono (unhide PB10).size))
          have hh := hide (unhide hho (addLL X Z k) ao cap w11 ((unhide HTS).below b11) (by omega) (unhide HSZ))
          rw [unhide HSM, hal] at hh
          clear b11
          go_wp2_with fail
          refine (unhide hh).mono ?_
          rintro e w12 ⟨rfl, b12⟩
          have B12 := hide ((unhide B11).trans (b12.mono (unhide B11).size))
          clear b12
          go_wp2
          go_ret
          exact ⟨rfl, unhide B12⟩
    · have d1 : ((SZ.size : Int) == (SX.size : Int)) = false := by simp; omega
      have d2 : ¬ SZ.size = SX.size := by omega
      clear sx sz hmm
      go_wp2
      go_big_quiet (fail)
      go_wp2_with fail
      refine (unhide haw _).mono ?_
      rintro e w10 ⟨rfl, b10⟩
      have B10 := hide ((below_drawn (unhide B9) _).trans (b10.mono (unhide B9).size))
      clear b10
      go_wp2
      go_ret
      exact ⟨rfl, unhide B10⟩
  · have e1 : whE sd n a q B = 1 := by unfold whE; rw [if_neg (fun h => hok h.2)]
    have e2 : whR sd n a q B = [] := by unfold whR; rw [if_neg (fun h => hok h.2)]
    rw [e1, e2] at hwb
    clear hok e1 e2
    go_wp2_with fail
    refine (unhide hwb).mono ?_
    rintro e w9 ⟨v9, rfl, hO9, b9⟩
    obtain ⟨z0, zc, rfl, _⟩ := hO9.txts
    have B9 := hide ((unhide B8).trans (b9.mono (unhide B8).size))
    clear hO9 b9
    rw [List.length_nil]
    go_wp2
    go_big_quiet (fail)
    go_wp2_with fail
    refine (unhide haw _).mono ?_
    rintro e w10 ⟨rfl, b10⟩
    have B10 := hide ((below_drawn (unhide B9) _).trans (b10.mono (unhide B9).size))
    clear b10
    go_wp2
    go_ret
    exact ⟨rfl, unhide B10⟩
theorem outerHolds_any (sd n a q : Int) (A : List By) (a0 : Option Addr) (c : Nat) (B : List By) (b0 : Option Addr) (d : Nat) (w : World) (hA : Txts w a0 A) (hB : Txts w b0 B) (kA : TxtsOk A c) (kB : TxtsOk B d) :
    Calls Try.prog 4 #[plV sd n a q, .slice a0 A.length c, .slice b0 B.length d] w fun e w' => e = .returned (.bool true) ∧ Below w.heap.size w w' := by
  have h2 : A.length ≤ maxLen := by have := kA.1; have := kA.2.1; omega
  have h4 : B.length ≤ maxLen := by have := kB.1; have := kB.2.1; omega
  by_cases hf : fewO A = true ∧ fewO B = true
  · by_cases hk : plOk sd n a q = true ∧ alike A n = true
    · exact outerHolds_yes sd n a q A B a0 b0 c d w hA hB h2 kA.2.2 h4 kB.2.2 hf.1 hf.2 hk.1 hk.2
    · exact outerHolds_no sd n a q A B a0 b0 c d w hA hB h2 kA.2.2 h4 kB.2.2 hf.1 hf.2 hk
  · refine outerHolds_few sd n a q A B a0 b0 c d w hA hB h2 kA.2.2 h4 kB.2.2 ?_
    cases h : fewO A with
    | false => exact .inl rfl
    | true =>
      cases h' : fewO B with
      | false => exact .inr rfl
      | true => exact absurd ⟨h, h'⟩ hf
theorem outerHolds_law (sd n a q : Int) (a0 : Option Addr) (A : List By) (c : Nat) (b0 : Option Addr) (B : List By) (d : Nat) (w : World) (h1 : (Lit.int .i64 sd).wf = true) (h2 : (Lit.int .i64 n).wf = true) (h3 : (Lit.int .i64 a).wf = true) (h4 : (Lit.int .i64 q).wf = true) (hA : Txts w a0 A) (kA : TxtsOk A c) (hB : Txts w b0 B) (kB : TxtsOk B d) :
    Calls Try.prog 4 #[plV sd n a q, .slice a0 A.length c, .slice b0 B.length d] w fun e w' => e = .returned (.bool true) ∧ Below w.heap.size w w' := outerHolds_any sd n a q A a0 c B b0 d w hA hB kA kB
end Go.Proofs.Ytcdnpdmcijiffaa

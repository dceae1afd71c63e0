/- gauss: rows that may be as lines; eliminate of lines of the call's own; reduced. -/
import Derived.Test.YtpcndjnhpjhjkaaDoorGaF
namespace Go.Proofs.YtpcndjnhpjhjkaaDoor
open Go.RowKit
set_option linter.unusedVariables false
attribute [local go_sem] Oper.semAt_some

/-! rows of numbers -/
theorem rowN_fold : ∀ (ns : List Nat) (r i : Nat), (ns.foldl (fun r i => r ||| 2 ^ i) r).testBit i = (r.testBit i || decide (i ∈ ns))
  | [], r, i => by simp
  | x :: ns, r, i => by
    rw [List.foldl_cons, rowN_fold ns, Nat.testBit_or, Nat.testBit_two_pow, Bool.or_assoc]
    congr 1
    by_cases e : x = i
    · simp [e]
    · have e2 : ¬ i = x := fun h => e h.symm
      simp [e, e2]
theorem rowN_bit (ns : List Nat) (i : Nat) : (rowN ns).testBit i = decide (i ∈ ns) := by
  unfold rowN
  rw [rowN_fold]
  simp
theorem rowN_lt (ns : List Nat) (n : Nat) (h : ∀ x ∈ ns, x < n) : rowN ns < 2 ^ n := by
  apply Nat.lt_pow_two_of_testBit
  intro i hi
  rw [rowN_bit]
  simp
  intro hm
  have := h i hm
  omega
/-- the numbers of a row, rising -/
def numsR (n r : Nat) : List Nat := (List.range n).filter fun i => r.testBit i
theorem isR_nums (n : Nat) : ∀ (r : List Int) (least : Nat), isR n least r = true → ∃ ns : List Nat, r = zs ns ∧ (∀ x ∈ ns, least ≤ x ∧ x < n) ∧ ns.Pairwise (· < ·)
  | [], _, _ => ⟨[], rfl, by simp, List.Pairwise.nil⟩
  | i :: r, least, h => by
    unfold isR at h
    split at h
    · cases h
    · split at h
      · cases h
      · rename_i h1 h2
        obtain ⟨j, rfl⟩ : ∃ j : Nat, i = (j : Int) := ⟨i.toNat, by omega⟩
        obtain ⟨ns, e, ha, hp⟩ := isR_nums n r (j + 1) (by rw [← h]; rfl)
        refine ⟨j :: ns, by rw [e]; rfl, fun x hx => ?_, List.pairwise_cons.2 ⟨fun x hx => ?_, hp⟩⟩
        · rcases List.mem_cons.1 hx with e | e
          · rw [e]; omega
          · have := ha x e; omega
        · have := ha x hx; omega
theorem sorted_nums {n : Nat} {ns : List Nat} (h : ∀ x ∈ ns, x < n) (hp : ns.Pairwise (· < ·)) : ns = numsR n (rowN ns) := by
  refine eq_of_ord (fun x : Nat => x) _ _ hp ?_ (fun x => ?_)
  · exact List.Pairwise.filter _ List.pairwise_lt_range
  · unfold numsR
    rw [List.mem_filter, List.mem_range, rowN_bit]
    simp
    exact fun hx => h x hx
theorem numsR_len (n r : Nat) : (numsR n r).length ≤ n := by
  unfold numsR
  have := List.length_filter_le (fun i => r.testBit i) (List.range n)
  simpa using this
/-- what is known of rows that may be -/
structure Rws (n : Nat) (Rs : List (List Int)) (R : List (List Nat)) : Prop where
  eq : Rs = R.map zs
  lt : ∀ r ∈ R, ∀ x ∈ r, x < n
  ord : ∀ r ∈ R, r.Pairwise (· < ·)
  n160 : n ≤ 160
  m400 : R.length ≤ 400
theorem rws_list (n : Nat) : ∀ (Rs : List (List Int)), Rs.all (isR n 0) = true → ∃ R : List (List Nat), Rs = R.map zs ∧ (∀ r ∈ R, ∀ x ∈ r, x < n) ∧ ∀ r ∈ R, r.Pairwise (· < ·)
  | [], _ => ⟨[], rfl, by simp, by simp⟩
  | r :: Rs, h => by
    rw [List.all_cons, Bool.and_eq_true] at h
    obtain ⟨R, e, h1, h2⟩ := rws_list n Rs h.2
    obtain ⟨ns, e', h3, h4⟩ := isR_nums n r 0 h.1
    refine ⟨ns :: R, by rw [e, e']; rfl, fun x hx => ?_, fun x hx => ?_⟩
    · rcases List.mem_cons.1 hx with rfl | hx
      · exact fun y hy => (h3 y hy).2
      · exact h1 x hx
    · rcases List.mem_cons.1 hx with rfl | hx
      · exact h4
      · exact h2 x hx
theorem may_rws {n : Int} {Rs : List (List Int)} (h : mayB n Rs = true) : ∃ (k : Nat) (R : List (List Nat)), n = (k : Int) ∧ Rws k Rs R := by
  unfold mayB at h
  rw [Bool.and_eq_true, decide_eq_true_eq] at h
  obtain ⟨⟨h1, h2, h3⟩, h4⟩ := h
  obtain ⟨k, rfl⟩ : ∃ k : Nat, n = (k : Int) := ⟨n.toNat, by omega⟩
  obtain ⟨R, e, h5, h6⟩ := rws_list k Rs h4
  exact ⟨k, R, rfl, e, h5, h6, by omega, by rw [e, List.length_map] at h3; exact h3⟩
theorem pair_isR (n : Nat) : ∀ (ns : List Nat) (least : Nat), (∀ x ∈ ns, least ≤ x ∧ x < n) → ns.Pairwise (· < ·) → isR n least (zs ns) = true
  | [], _, _, _ => rfl
  | x :: ns, least, h, hp => by
    obtain ⟨p1, p2⟩ := List.pairwise_cons.1 hp
    have hx := h x (by simp)
    show isR n least ((x : Int) :: zs ns) = true
    unfold isR
    rw [if_neg (by omega), if_neg (by omega)]
    exact pair_isR n ns (x + 1) (fun y hy => by have := p1 y hy; have := h y (by simp [hy]); omega) p2
theorem rws_may {n : Nat} {Rs : List (List Int)} {R : List (List Nat)} (h : Rws n Rs R) : mayB n Rs = true := by
  unfold mayB
  rw [Bool.and_eq_true, decide_eq_true_eq, List.all_eq_true]
  have := h.n160
  have := h.m400
  refine ⟨⟨by omega, by omega, by rw [h.eq, List.length_map]; omega⟩, fun r hr => ?_⟩
  rw [h.eq] at hr
  obtain ⟨ns, hns, rfl⟩ := List.mem_map.1 hr
  exact pair_isR n ns 0 (fun x hx => ⟨Nat.zero_le _, h.lt ns hns x hx⟩) (h.ord ns hns)
/-- rows as lines -/
def gL (R : List (List Nat)) : List Ln := R.map fun r => (rowN r, [])
theorem gL_szd (R : List (List Nat)) : Szd 0 (gL R) := fun x hx => by
  obtain ⟨r, _, rfl⟩ := List.mem_map.1 hx
  rfl
theorem Rws.bd {n : Nat} {Rs : List (List Int)} {R : List (List Nat)} (h : Rws n Rs R) : ∀ x ∈ gL R, x.1 < 2 ^ n := fun x hx => by
  obtain ⟨r, hr, rfl⟩ := List.mem_map.1 hx
  exact rowN_lt r n (h.lt r hr)
/-! eliminate -/
theorem lnB_own {w : World} {base g cap : Nat} {L : List Ln} (h : w.ownsRow base 70 4 (.slice (some ⟨g, 0, none⟩) L.length cap) L.length (lc L)) : LnB w base g L ∧ L.length ≤ cap ∧ cap ≤ maxLen := by
  have hk := h
  rcases h.2 with ⟨h1, _⟩ | ⟨g', cap', cur, h1, h2, h3, h4, h5, h6, h7⟩
  · cases h1
  · simp only [Value.slice.injEq, Option.some.injEq, Addr.mk.injEq, and_true, true_and] at h1
    obtain ⟨rfl, rfl⟩ := h1
    refine ⟨⟨⟨cur, h3⟩, h2, fun t ht j hj => ?_⟩, h4, h5⟩
    rw [hk.cellAt (t * 4 + j) (by omega), lc_get L t j ht hj]
set_option maxRecDepth 100000 in
set_option maxHeartbeats 1000000 in
theorem elim_nil (n : Nat) (hn : n ≤ 160) (w : World) :
    Calls Tryd.prog 39 #[.int .i64 n, .slice none 0 0] w fun e w' => e = .returned (.tuple #[.slice none 0 0, .slice none 0 0]) ∧ Below w.heap.size w w' := by
  have hmf : ∀ (fn : Fn) (first cap : Array Value) (w : World), (Instr.makeFunc fn first cap).run Tryd.prog w = .ok (.func fn first cap) w := fun _ _ _ _ => rfl
  go_enter Tryd.func39, Tryd.ntmps39
  go_wp2_with fail
  go_loopw [6, 10] (fun v u wr => ∃ i : Nat, i ≤ n ∧ v = .int .i64 0 ∧ u = .int .i64 i ∧ Below w.heap.size w wr) (fun _ u _ => n - (intOf u).toNat)
  case atStart => exact ⟨0, by omega, rfl, rfl, Below.refl _ _⟩
  case round =>
    obtain ⟨i, hi, rfl, rfl, hB⟩ := hrel
    by_cases hlt : i < n
    · have q1 : (i : Int) < n := by omega
      have hb4 : Below wr.heap.size wr (wr.alloc (.cells #[.int .i64 (i : Int)] 3)) := (Below.refl _ _).alloc (Nat.le_refl _) _
      have hcell : (wr.alloc (.cells #[.int .i64 (i : Int)] 3)).cell? ⟨wr.heap.size, 0, none⟩ = some (.int .i64 (i : Int)) := by rw [cell_of_row _ _ _ _ _ (0, 0) (heap_alloc_new _ _)]; rfl
      have hix : Hid (∀ a0 c, Calls Tryd.prog 52 #[.slice a0 0 c, .func (.func 53) #[] #[.pointer (some ⟨wr.heap.size, 0, none⟩)]] (wr.alloc (.cells #[.int .i64 (i : Int)] 3)) fun e w' => e = .returned (.int .i64 (-1)) ∧ Below (wr.alloc (.cells #[.int .i64 (i : Int)] 3)).heap.size (wr.alloc (.cells #[.int .i64 (i : Int)] 3)) w') := fun a0 c => gindex_any [] a0 c i (by omega) wr.heap.size _ (by simp) hcell (fun t ht => absurd ht (by simp))
      have HB4 := hide hb4
      have HB := hide hB
      clear hb4 hcell hB
      go_wp2_with fail
      refine (unhide hix _ _).mono ?_
      rintro e w1 ⟨rfl, b1⟩
      have HB5 := hide ((unhide HB).trans (((unhide HB4).trans (b1.mono (unhide HB4).size)).mono (unhide HB).size))
      clear b1
      go_wp2
      go_roundw
      case rel => exact ⟨i + 1, by omega, rfl, by go_num, unhide HB5⟩
      case measure => simp [intOf]; omega
    · have hin : i = n := by omega
      subst hin
      have q1 : ¬ (i : Int) < i := by omega
      have HB := hide hB
      clear hB
      go_wp2
      go_quiet (fail)
      go_wp2
      go_ret2
      exact ⟨rfl, below_drawn (unhide HB) _⟩
theorem elN_nil : ∀ n, elN [] n = ([], 0)
  | 0 => rfl
  | n + 1 => by unfold elN; rw [elN_nil n]; rfl
theorem elim_own (L : List Ln) (m base n : Nat) (v : Value) (hm : m ≤ 100000) (hs : Szd m L) (hN : L.length ≤ 100000) (hn : n ≤ 160) (hbd : ∀ x ∈ L, x.1 < 2 ^ n) (w : World) (hb : base ≤ w.heap.size) (hO : w.ownsRow base 70 4 v L.length (lc L)) :
    Calls Tryd.prog 39 #[.int .i64 n, v] w fun e w' => ∃ a1 a2 : Option Addr, ∃ c1 c2 : Nat, e = .returned (.tuple #[.slice a1 (kep L n).length c1, .slice a2 (res L n).length c2]) ∧ LinesA w' a1 (kep L n) ∧ LinesA w' a2 (res L n) ∧ Below base w w' := by
  have hO2 := hO
  rcases hO.2 with ⟨h1, h2⟩ | ⟨g, cap, cur, h1, h2, _⟩
  · obtain rfl := List.eq_nil_of_length_eq_zero h2
    subst h1
    refine (elim_nil n hn w).mono fun e w' ⟨he, hB⟩ => ?_
    have hk : kep [] n = [] := by unfold kep; rw [elN_nil]; rfl
    have hr : res [] n = [] := by unfold res; rw [elN_nil]; rfl
    rw [hk, hr]
    exact ⟨none, none, 0, 0, he, fun t ht => absurd ht (by simp), fun t ht => absurd ht (by simp), hB.mono hb⟩
  · subst h1
    obtain ⟨hL, hc, hcm⟩ := lnB_own hO2
    refine (elim_any L m base g cap n hm hs hN hc hcm hn hbd h2 w hL).mono fun e w' ⟨a1, a2, c1, c2, he, l1, l2, hK⟩ => ?_
    exact ⟨a1, a2, c1, c2, he, l1, l2, hK.below base hb h2⟩
end Go.Proofs.YtpcndjnhpjhjkaaDoor

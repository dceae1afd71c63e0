/- gauss's rows: rowOf. -/
import Derived.Test.YtpcndjnhpjhjkaaDoorGaA
import Derived.Test.YtpcndjnhpjhjkaaDoorTxtI
namespace Go.Proofs.YtpcndjnhpjhjkaaDoor
open Go.RowKit
set_option linter.unusedVariables false
attribute [local go_sem] Oper.semAt_some

/-- numbers as integers -/
def zs (ns : List Nat) : List Int := ns.map fun (z : Nat) => (z : Int)
theorem zs_length (ns : List Nat) : (zs ns).length = ns.length := by simp [zs]
theorem zs_get (ns : List Nat) (i : Nat) (h : i < ns.length) : (zs ns)[i]'(by rw [zs_length]; exact h) = (ns[i] : Int) := by simp [zs]
/-- the row of some numbers -/
def rowN (ns : List Nat) : Nat := ns.foldl (fun r i => r ||| 2 ^ i) 0
theorem rowN_snoc (ns : List Nat) (i : Nat) : rowN (ns ++ [i]) = rowN ns ||| 2 ^ i := by simp [rowN]
theorem wd_or (R i k : Nat) : wd (R ||| 2 ^ i) k = if i / 64 = k then wd R k ||| 2 ^ (i % 64) else wd R k := by
  apply Nat.eq_of_testBit_eq
  intro j
  unfold wd
  rw [Nat.testBit_mod_two_pow, Nat.testBit_div_two_pow, Nat.testBit_or, Nat.testBit_two_pow]
  split
  · rename_i e
    rw [Nat.testBit_or, Nat.testBit_mod_two_pow, Nat.testBit_div_two_pow, Nat.testBit_two_pow]
    by_cases hj : j < 64
    · simp [hj]
      congr 1
      simp; omega
    · simp [hj]; omega
  · rename_i e
    rw [Nat.testBit_mod_two_pow, Nat.testBit_div_two_pow]
    by_cases hj : j < 64
    · simp [hj]
      intro h; omega
    · simp [hj]
theorem bits_or1 (x s : Nat) (h : x < 2 ^ 64) (hs : s < 64) : bits .or .u64 (x : Int) (IntKind.u64.wrap (2 ^ s)) = ((x ||| 2 ^ s : Nat) : Int) := by
  have h2 : 2 ^ s < 2 ^ 64 := Nat.pow_lt_pow_right (by decide) hs
  have e : IntKind.u64.wrap (2 ^ s) = ((2 ^ s : Nat) : Int) := by
    simp [IntKind.wrap, IntKind.bits, IntKind.signed]
    rw [show (2 : Int) ^ s = ((2 ^ s : Nat) : Int) by simp]
    generalize 2 ^ s = P at *
    omega
  rw [e]
  exact bits_or_u64_nat x (2 ^ s) h h2
set_option maxRecDepth 100000 in
set_option maxHeartbeats 1000000 in
theorem rowOf_any (ns : List Nat) (a0 : Option Addr) (c : Nat) (hn : ∀ x ∈ ns, x < 192) (hk : ns.length ≤ 100000) (w : World) (hI : Ints w a0 (zs ns)) :
    Calls Tryd.prog 38 #[.slice a0 ns.length c] w fun e w' => e = .returned (rowV (rowN ns)) ∧ Below w.heap.size w w' := by
  have HI := hide hI
  have HN := hide hn
  generalize hL : ns.length = n at *
  have HL := hide hL
  clear hI hn hL
  unfold rowV
  go_enter Tryd.func38, Tryd.ntmps38
  go_wp2_with fail
  go_loopw [8] (fun v wr => ∃ k : Nat, k ≤ n ∧ v = .int .i64 k ∧ wr.heap[w.heap.size + 1]? = some (.cells #[.int .u64 (wd (rowN (ns.take k)) 0), .int .u64 (wd (rowN (ns.take k)) 1), .int .u64 (wd (rowN (ns.take k)) 2)] 68 (0, 0)) ∧ wr.heap[w.heap.size]? = some (.cells #[.int .u64 0, .int .u64 0, .int .u64 0] 68 (0, 0)) ∧ Below w.heap.size w wr) (fun v _ => n - (intOf v).toNat)
  case atStart =>
    have hw0 : ∀ k, ((wd (rowN (ns.take 0)) k : Nat) : Int) = 0 := fun k => by simp [rowN, wd]
    exact ⟨0, by omega, rfl, by rw [hw0, hw0, hw0]; exact heap_alloc2_new _ _ _, heap_alloc2_old _ _ _, ((Below.refl _ _).alloc (Nat.le_refl _) _).alloc (by simp) _⟩
  case round =>
    obtain ⟨k, hk, rfl, h1, h3, hb⟩ := hrel
    by_cases hlt : k < n
    · have hlt' : k < ns.length := by rw [unhide HL]; exact hlt
      obtain ⟨g, o, rfl, c0⟩ := unhide HI k (by rw [zs_length]; exact hlt')
      rw [zs_get ns k hlt'] at c0
      have ci := cell_below c0 hb
      have hi := unhide HN ns[k] (List.getElem_mem hlt')
      have HT : Hid (rowN (ns.take (k + 1)) = rowN (ns.take k) ||| 2 ^ ns[k]) := by
        show _ = _
        rw [List.take_succ_eq_append_getElem hlt', rowN_snoc]
      generalize ns[k] = i at *
      obtain ⟨R', hR'⟩ : ∃ R', R' = rowN (ns.take (k + 1)) := ⟨_, rfl⟩
      rw [← hR'] at HT
      have HR' := hide hR'
      clear hR'
      generalize rowN (ns.take k) = R at *
      have b0 := bits_or1 (wd R (i / 64)) (i % 64) (wd_lt _ _) (by omega)
      have t1 : (i : Int).tdiv 64 = ((i / 64 : Nat) : Int) := by rw [Int.tdiv_eq_ediv_of_nonneg (by omega)]; omega
      have t2 : (i : Int).tmod 64 = ((i % 64 : Nat) : Int) := by rw [Int.tmod_eq_emod_of_nonneg (by omega)]; omega
      have hs : i % 64 < 64 := by omega
      have q1 : (k : Int) < n := by omega
      have hq : i / 64 < 3 := by omega
      have HR : Hid (∀ k, wd R' k = if i / 64 = k then wd R k ||| 2 ^ (i % 64) else wd R k) := fun k => by rw [unhide HT]; exact wd_or R i k
      generalize i / 64 = q at *
      generalize i % 64 = s at *
      have HB := hide hb
      clear c0 HI HN HL hb
      have hr0 := unhide HR 0
      have hr1 := unhide HR 1
      have hr2 := unhide HR 2
      clear HR HT
      obtain rfl | rfl | rfl : q = 0 ∨ q = 1 ∨ q = 2 := by omega
      · have f1 := frozen_of_row wr (w.heap.size + 1) 0 _ _ h1
        have c1 := cell_of_row _ _ 0 _ _ _ h1
        have H1 : Hid ((wr.setCell ⟨w.heap.size + 1, 0, none⟩ (.int .u64 (wd R 0 ||| 2 ^ s : Nat))).heap[w.heap.size + 1]? = some (.cells #[.int .u64 (wd R' 0), .int .u64 (wd R' 1), .int .u64 (wd R' 2)] 68 (0, 0))) := by
          show _ = _
          rw [heap_setCell_same _ _ _ _ _ _ h1, hr0, hr1, hr2]; rfl
        have H3 : Hid ((wr.setCell ⟨w.heap.size + 1, 0, none⟩ (.int .u64 (wd R 0 ||| 2 ^ s : Nat))).heap[w.heap.size]? = some (.cells #[.int .u64 0, .int .u64 0, .int .u64 0] 68 (0, 0))) := by
          show _ = _
          rw [Below.heap_setCell _ _ _ _ (by simp)]; exact h3
        simp at c1
        generalize wd R 0 ||| 2 ^ s = z at *
        clear h1 h3 hr0 hr1 hr2
        go_wp2
        go_region
        go_wp2
        go_roundw
        case rel => exact ⟨k + 1, by omega, by go_num, by rw [← unhide HR']; exact unhide H1, unhide H3, (below_drawn (unhide HB) 1).setCell (Nat.le_succ _) _⟩
        case measure => simp [intOf]; omega
      · have f1 := frozen_of_row wr (w.heap.size + 1) 1 _ _ h1
        have c1 := cell_of_row _ _ 1 _ _ _ h1
        have H1 : Hid ((wr.setCell ⟨w.heap.size + 1, 1, none⟩ (.int .u64 (wd R 1 ||| 2 ^ s : Nat))).heap[w.heap.size + 1]? = some (.cells #[.int .u64 (wd R' 0), .int .u64 (wd R' 1), .int .u64 (wd R' 2)] 68 (0, 0))) := by
          show _ = _
          rw [heap_setCell_same _ _ _ _ _ _ h1, hr0, hr1, hr2]; rfl
        have H3 : Hid ((wr.setCell ⟨w.heap.size + 1, 1, none⟩ (.int .u64 (wd R 1 ||| 2 ^ s : Nat))).heap[w.heap.size]? = some (.cells #[.int .u64 0, .int .u64 0, .int .u64 0] 68 (0, 0))) := by
          show _ = _
          rw [Below.heap_setCell _ _ _ _ (by simp)]; exact h3
        simp at c1
        generalize wd R 1 ||| 2 ^ s = z at *
        clear h1 h3 hr0 hr1 hr2
        go_wp2
        go_region
        go_wp2
        go_roundw
        case rel => exact ⟨k + 1, by omega, by go_num, by rw [← unhide HR']; exact unhide H1, unhide H3, (below_drawn (unhide HB) 1).setCell (Nat.le_succ _) _⟩
        case measure => simp [intOf]; omega
      · have f1 := frozen_of_row wr (w.heap.size + 1) 2 _ _ h1
        have c1 := cell_of_row _ _ 2 _ _ _ h1
        have H1 : Hid ((wr.setCell ⟨w.heap.size + 1, 2, none⟩ (.int .u64 (wd R 2 ||| 2 ^ s : Nat))).heap[w.heap.size + 1]? = some (.cells #[.int .u64 (wd R' 0), .int .u64 (wd R' 1), .int .u64 (wd R' 2)] 68 (0, 0))) := by
          show _ = _
          rw [heap_setCell_same _ _ _ _ _ _ h1, hr0, hr1, hr2]; rfl
        have H3 : Hid ((wr.setCell ⟨w.heap.size + 1, 2, none⟩ (.int .u64 (wd R 2 ||| 2 ^ s : Nat))).heap[w.heap.size]? = some (.cells #[.int .u64 0, .int .u64 0, .int .u64 0] 68 (0, 0))) := by
          show _ = _
          rw [Below.heap_setCell _ _ _ _ (by simp)]; exact h3
        simp at c1
        generalize wd R 2 ||| 2 ^ s = z at *
        clear h1 h3 hr0 hr1 hr2
        go_wp2
        go_region
        go_wp2
        go_roundw
        case rel => exact ⟨k + 1, by omega, by go_num, by rw [← unhide HR']; exact unhide H1, unhide H3, (below_drawn (unhide HB) 1).setCell (Nat.le_succ _) _⟩
        case measure => simp [intOf]; omega
    · have hkn : k = n := by omega
      subst hkn
      rw [← unhide HL, List.take_length] at h1
      have q1 : ¬ (k : Int) < k := by omega
      have HB := hide hb
      have hth : wr.there w.heap.size 0 3 := fun j hj => by
        have e := cell_of_row _ _ j _ _ _ h3
        rw [Nat.zero_add, e]
        exact ⟨by obtain rfl | rfl | rfl : j = 0 ∨ j = 1 ∨ j = 2 := by omega
                  all_goals rfl, frozen_of_row wr _ j _ _ h3⟩
      clear h3 hb HI HN
      have hS1 : (#[.int .u64 (wd (rowN ns) 0), .int .u64 (wd (rowN ns) 1), .int .u64 (wd (rowN ns) 2)] : Array Value).size = 3 := rfl
      have hS2 : (#[.int .u64 (wd (rowN ns) 0), .int .u64 (wd (rowN ns) 1), .int .u64 (wd (rowN ns) 2)] : Array Value).all (·.oneCell') = true := by simp [Value.oneCell']
      generalize hSe : (#[.int .u64 (wd (rowN ns) 0), .int .u64 (wd (rowN ns) 1), .int .u64 (wd (rowN ns) 2)] : Array Value) = S at *
      have HSE := hide hSe
      clear hSe
      have hi2 : Hid ((Tryd.prog.info? 68).map (·.size) = some S.size) := by show _ = _; rw [hS1]; kernel_rfl
      have ht3 : Hid (wr.there w.heap.size 0 S.size) := by show World.there _ _ _ _; rw [hS1]; exact hth
      have HS1 := hide hS1
      clear hS1
      go_wp2_with (first | (refine wpList_load_row rfl 68 (.tmp 3) rfl (w.heap.size + 1) rfl 68 S (0, 0) _ h1 Tryd.underlying68 rfl (unhide hi2) ?_) | (refine wpList_store_mid rfl 68 (.tmp 2) (.tmp 22) rfl w.heap.size 0 S rfl rfl (unhide ht3) (unhide hi2) hS2 ?_))
      refine bodyPost_ret (v := .agg S) ?_ rfl ⟨by rw [unhide HSE], below_setCells2 (by omega) _ _ _ (unhide HB)⟩
      refine results_cell_mid (P := Tryd.prog) (fn := Tryd.f38) (p := 2) (ty := 68) (by kernel_rfl) _ (wr.setCells w.heap.size 0 S.toList) w.heap.size 0 S.toList _ (by rfl) (World.rangeAt_setCells_same _ _ _ _ (by rw [Array.length_toList]; exact unhide ht3)) Tryd.underlying68 rfl (by rw [Array.length_toList]; exact unhide hi2)
end Go.Proofs.YtpcndjnhpjhjkaaDoor

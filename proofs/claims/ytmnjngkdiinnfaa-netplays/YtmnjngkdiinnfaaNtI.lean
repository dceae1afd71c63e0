/- NetFull. -/
import Derived.Test.YtmnjngkdiinnfaaNtG
namespace Go.Proofs.Ytmnjngkdiinnfaa
open Go.RowKit
set_option linter.unusedVariables false
attribute [local go_sem] Oper.semAt_some

theorem ret_cell {fn : Func} {p : Tmp} {ty : TypeId} {a : Act} {w : World} {R : Ending → World → Prop} (h : fn.results = #[.cell p ty]) (g : Nat) (t : TypeId) (cs : Array Value) (fr : Nat × Nat) (fs : Array Field)
    (hp : a.tmps.getD p undef = .pointer (some ⟨g, 0, none⟩)) (hg : w.heap[g]? = some (.cells cs t fr)) (hdf : a.defers = [])
    (hu : Try.prog.underlying ty = some (.struct fs)) (hi : (Try.prog.info? ty).map (·.size) = some cs.size) (hR : R (.returned (.agg cs)) w) :
    bodyPost Try.prog fn R .ret a w := bodyPost_ret (results_cell_row h _ w g t cs fr _ hp hg hu rfl hi) hdf hR
/-- the datagram of a number -/
def gmI (i : Int) : Mg := ⟨0, 1 + i % 15, 1 + (i + 1) % 15, ⟨#[120]⟩⟩
theorem gmI_may (i : Int) (h : 0 ≤ i) : mayG (gmI i).fr (gmI i).to (gmI i).tx.size = true := by
  unfold mayG gmI
  simp only [Bool.and_eq_true, decide_eq_true_eq]
  refine ⟨by omega, by omega, by omega, ?_⟩
  show ((1 : Nat) : Int) ≤ 400
  omega
set_option maxRecDepth 100000 in
theorem gram_any (i : Int) (h0 : 0 ≤ i) (h1 : i ≤ 1000000) (w : World) : Calls Try.prog 27 #[.int .i64 i] w fun e w' => e = .returned (gmV (gmI i)) ∧ Below w.heap.size w w' := by
  have hu : i.tmod 15 = i % 15 := Int.tmod_eq_emod_of_nonneg h0
  have hv : (i + 1).tmod 15 = (i + 1) % 15 := Int.tmod_eq_emod_of_nonneg (by omega)
  have u0 : 0 ≤ i % 15 ∧ i % 15 < 15 := by omega
  have v0 : 0 ≤ (i + 1) % 15 ∧ (i + 1) % 15 < 15 := by omega
  have HZ := hide (heap_alloc_new w (.cells (gmC zM) 30))
  have HG := hide (newGm w zM (gmI i))
  have HI := hide (gm_info (gmI i))
  have HA := hide (gm_all (gmI i))
  unfold gmI at HG HI HA ⊢
  generalize i % 15 = u at *
  generalize (i + 1) % 15 = v at *
  go_enter Try.func27, Try.ntmps27
  go_wp2_with (refine wpList_store_row_to rfl 30 (.tmp 2) (.tmp 10) rfl w.heap.size (gmC ⟨0, 1 + u, 1 + v, ⟨#[120]⟩⟩) rfl rfl 30 (gmC zM) (unhide HZ) (unhide HI) rfl (unhide HA) (NewGm w ⟨0, 1 + u, 1 + v, ⟨#[120]⟩⟩) (unhide HG) ?_)
  intro w1 hh
  have H1 := hide hh
  clear hh
  go_wp2
  exact ret_cell (p := 2) (ty := 30) (by kernel_rfl) w.heap.size 30 (gmC ⟨0, 1 + u, 1 + v, ⟨#[120]⟩⟩) (0, 0) _ rfl (unhide H1).blk rfl Try.underlying30 (unhide HI) ⟨rfl, (unhide H1).be⟩
/-- as many have been sent -/
def gL (n : Nat) : List Mg := (List.range n).map fun j : Nat => { gmI j with id := (j : Int) + 1 }
theorem gL_len (n : Nat) : (gL n).length = n := by simp [gL]
theorem gL_succ (n : Nat) : gL (n + 1) = gL n ++ [{ gmI n with id := (n : Int) + 1 }] := by simp [gL, List.range_succ]
theorem gL_get (n j : Nat) (h : j < n) : (gL n)[j]? = some { gmI j with id := (j : Int) + 1 } := by simp [gL, h]
theorem gL_find (n j : Nat) (h : j < n) : fM (gL n) ((j : Int) + 1) = some { gmI j with id := (j : Int) + 1 } := by
  unfold fM
  rw [List.find?_eq_some_iff_getElem]
  refine ⟨by simp, j, by rw [gL_len]; exact h, ?_, fun k hk => ?_⟩
  · have := gL_get n j h
    rw [List.getElem?_eq_getElem (by rw [gL_len]; exact h)] at this
    exact Option.some.inj this
  · have h2 := gL_get n k (by omega)
    rw [List.getElem?_eq_getElem (by rw [gL_len]; omega)] at h2
    rw [Option.some.inj h2]
    simp
    omega
theorem gL_nth (n j : Nat) (h : j < n) : nthI (gL n) j = (j : Int) + 1 := by
  unfold nthI
  have hne : ¬ ((j : Int) < 0 ∨ gL n = []) := by
    rintro (h1 | h1)
    · omega
    · have := gL_len n
      rw [h1] at this
      simp at this
      omega
  rw [if_neg hne, gL_len, Int.tmod_eq_emod_of_nonneg (by omega), Int.emod_eq_of_lt (by omega) (by omega), Int.toNat_natCast, List.getD_eq_getElem?_getD, List.getElem?_map, gL_get n j h]
  rfl
theorem tw_some {room last : Int} {rs : List Mg} {k : Int} (hg : ∀ r ∈ rs, mayG r.fr r.to r.tx.size = true) (hf : (fM rs k).isSome = true) (hl : (rs.length : Int) < room) :
    twI room last rs k = last + 1 ∧ twE room rs k = 0 ∧ twT room last rs k = last + 1 ∧ (twL room last rs k).length = rs.length + 1 := by
  obtain ⟨x, hx⟩ := Option.isSome_iff_exists.1 hf
  have hm := hg x (fM_some hx).1
  unfold twI twE twT twL sndI sndE sndT sndL tkG
  rw [if_pos hf, if_pos hf, if_pos hf, if_pos hf, hx]
  simp only [Option.getD_some]
  rw [if_pos ⟨hm, hl⟩, if_pos hm, if_pos hl, if_pos ⟨hm, hl⟩, if_pos ⟨hm, hl⟩]
  simp
theorem tw_full {room last : Int} {rs : List Mg} {k : Int} (hg : ∀ r ∈ rs, mayG r.fr r.to r.tx.size = true) (hf : (fM rs k).isSome = true) (hl : (rs.length : Int) = room) :
    twI room last rs k = 0 ∧ twE room rs k = 6 ∧ twT room last rs k = last ∧ twL room last rs k = rs := by
  obtain ⟨x, hx⟩ := Option.isSome_iff_exists.1 hf
  have hm := hg x (fM_some hx).1
  have hn : ¬ (rs.length : Int) < room := by omega
  unfold twI twE twT twL sndI sndE sndT sndL tkG
  rw [if_pos hf, if_pos hf, if_pos hf, if_pos hf, hx]
  simp only [Option.getD_some]
  rw [if_neg (fun h => hn h.2), if_pos hm, if_neg hn, if_neg (fun h => hn h.2), if_neg (fun h => hn h.2)]
  exact ⟨rfl, rfl, rfl, rfl⟩
theorem gL_good (n : Nat) : ∀ r ∈ gL n, mayG r.fr r.to r.tx.size = true := by
  intro r hr
  unfold gL at hr
  obtain ⟨j, _, rfl⟩ := List.mem_map.1 hr
  exact gmI_may j (by omega)
theorem gL_pw (n : Nat) : (gL n).Pairwise fun a b => a.id < b.id := by
  unfold gL
  rw [List.pairwise_map]
  exact List.pairwise_lt_range.imp (fun h => by simp only; omega)
theorem gsend (R i : Nat) (h : i < R) : sndI R i (gL i) (gmI i) = (i : Int) + 1 ∧ sndE R (gL i) (gmI i) = 0 ∧ sndT R i (gL i) (gmI i) = (i : Int) + 1 ∧ sndL R i (gL i) (gmI i) = gL (i + 1) := by
  have hm := gmI_may i (by omega)
  have hl : ((gL i).length : Int) < R := by rw [gL_len]; omega
  unfold sndI sndE sndT sndL
  rw [if_pos ⟨hm, hl⟩, if_pos hm, if_pos hl, if_pos ⟨hm, hl⟩, if_pos ⟨hm, hl⟩, gL_succ]
  exact ⟨rfl, rfl, rfl, rfl⟩
theorem gfull (R : Nat) (last : Int) (rs : List Mg) (hl : rs.length = R) : sndI R last rs (gmI 0) = 0 ∧ sndE R rs (gmI 0) = 6 ∧ sndT R last rs (gmI 0) = last ∧ sndL R last rs (gmI 0) = rs := by
  have hm := gmI_may 0 (by omega)
  have hn : ¬ (rs.length : Int) < R := by omega
  unfold sndI sndE sndT sndL
  rw [if_neg (fun h => hn h.2), if_pos hm, if_neg hn, if_neg (fun h => hn h.2), if_neg (fun h => hn h.2)]
  exact ⟨rfl, rfl, rfl, rfl⟩
/-- what is left when one is taken -/
theorem gL_less (n j : Nat) (h : j < n) : (tkL (gL n) ((j : Int) + 1)).length + 1 = n := by
  unfold tkL
  have h1 := filter_one_less (gL n) (gL_pw n) ((j : Int) + 1)
  have h2 : (gL n).any (fun r => decide (r.id = (j : Int) + 1)) = true := by
    rw [List.any_eq_true]
    exact ⟨_, (fM_some (gL_find n j h)).1, by simp⟩
  rw [h2, gL_len, if_pos rfl] at h1
  exact h1
/-- the first of some is there -/
theorem nth0_some {rs : List Mg} (h : rs ≠ []) : (fM rs (nthI rs 0)).isSome = true := by
  cases rs with
  | nil => exact absurd rfl h
  | cons a l =>
    have : nthI (a :: l) 0 = a.id := by
      unfold nthI
      rw [if_neg (by rintro (h1 | h1); omega; exact absurd h1 (by simp))]
      simp
    rw [this]
    simp [fM]
end Go.Proofs.Ytmnjngkdiinnfaa

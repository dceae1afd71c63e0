/- What gets known is fixed: mathematics; rows put to rows. -/
import Derived.Test.YtfihpmhobjjaaaaPoA
import Derived.Test.YtfihpmhobjjaaaaGaN
namespace Go.Proofs.Ytfihpmhobjjaaaa
open Go.RowKit
set_option linter.unusedVariables false
attribute [local go_sem] Oper.semAt_some

theorem rowN_cons {j : Nat} {l : List Nat} (h : j ∉ l) : rowN (j :: l) = rowN l ^^^ 2 ^ j := by
  apply Nat.eq_of_testBit_eq
  intro i
  rw [Nat.testBit_xor, rowN_bit, rowN_bit, Nat.testBit_two_pow]
  by_cases e : j = i
  · subst e
    simp [h]
  · have e' : ¬ i = j := fun x => e x.symm
    simp [e, e']
theorem rowN_erase {p : Nat} {r : List Nat} (hn : r.Nodup) (hp : p ∈ r) : rowN r ^^^ rowN (r.erase p) = 2 ^ p := by
  apply Nat.eq_of_testBit_eq
  intro i
  rw [Nat.testBit_xor, rowN_bit, rowN_bit, Nat.testBit_two_pow]
  by_cases e : p = i
  · subst e
    have : p ∉ r.erase p := fun h => (hn.mem_erase_iff.1 h).1 rfl
    simp [hp, this]
  · by_cases hi : i ∈ r
    · have : i ∈ r.erase p := hn.mem_erase_iff.2 ⟨fun x => e x.symm, hi⟩
      simp [hi, this, e]
    · have : i ∉ r.erase p := fun h => hi (List.mem_of_mem_erase h)
      simp [hi, this, e]
/-- a row without data -/
def ln0 (x : Nat) : Ln := (x, [])
theorem addV_ln0 (x y : Nat) : addV (ln0 x) (ln0 y) = ln0 (x ^^^ y) := rfl
theorem spn_row {A : List Ln} (sA : Szd 0 A) : ∀ (l : List Nat), l.Nodup → (∀ j ∈ l, Spn 0 A (ln0 (2 ^ j))) → Spn 0 A (ln0 (rowN l))
  | [], _, _ => Spn.zero
  | j :: l, hn, h => by
    rw [List.nodup_cons] at hn
    rw [rowN_cons hn.1, ← addV_ln0]
    exact (spn_row sA l hn.2 (fun i hi => h i (by simp [hi]))).sum sA (h j (by simp))
theorem spn_step {A : List Ln} (sA : Szd 0 A) {r : List Nat} {p : Nat} (hn : r.Nodup) (hp : p ∈ r) (hr : Spn 0 A (ln0 (rowN r))) (h : ∀ j ∈ r, j ≠ p → Spn 0 A (ln0 (2 ^ j))) : Spn 0 A (ln0 (2 ^ p)) := by
  rw [← rowN_erase hn hp, ← addV_ln0]
  exact hr.sum sA (spn_row sA _ (hn.erase p) (fun j hj => h j (List.mem_of_mem_erase hj) (hn.mem_erase_iff.1 hj).1))
theorem peel_spn {A : List Ln} (sA : Szd 0 A) {R : List (List Nat)} (hN : ∀ r ∈ R, r.Nodup) (hR : ∀ r ∈ R, Spn 0 A (ln0 (rowN r))) : ∀ (f : Nat) (S : Nat → Bool), (∀ j, S j = true → Spn 0 A (ln0 (2 ^ j))) → ∀ j, (peelF f S R).2 j = true → Spn 0 A (ln0 (2 ^ j)) := by
  intro f
  induction f with
  | zero => intro S h j hj; exact h j hj
  | succ f ih =>
    intro S hS j hj
    cases h : ripe1 S 0 R with
    | none => rw [peelF_none h] at hj; exact hS j hj
    | some p =>
      rw [peelF_some h] at hj
      refine ih (mkS S p.2) (fun i hi => ?_) j hj
      rcases mkS_cases hi with rfl | hi
      · obtain ⟨t, h1, h2, h3⟩ := ripe1_some h
        obtain ⟨a, b, c⟩ := lstN_some h3
        refine spn_step sA (hN _ (List.getElem_mem h2)) a (hR _ (List.getElem_mem h2)) (fun k hk hne => ?_)
        cases hk2 : S k with
        | true => exact hS k hk2
        | false => exact absurd (c k hk hk2) hne
      · exact hS i hi
theorem mem_fixN {K : List Ln} {t : Nat} : t ∈ fixN K ↔ ∃ x ∈ K, x.1 ≠ 0 ∧ x.1 = 2 ^ fb x.1 ∧ fb x.1 = t := by
  unfold fixN
  rw [List.mem_map]
  constructor
  · rintro ⟨x, hx, rfl⟩
    rw [List.mem_filter] at hx
    have := hx.2
    unfold onlyB at this
    rw [decide_eq_true_eq] at this
    exact ⟨x, hx.1, this.1, this.2, rfl⟩
  · rintro ⟨x, hx, h1, h2, rfl⟩
    exact ⟨x, by rw [List.mem_filter]; exact ⟨hx, by unfold onlyB; exact decide_eq_true ⟨h1, h2⟩⟩, rfl⟩
theorem fix_spn {n : Nat} {A : List Ln} (hn : n ≤ 200) (sA : Szd 0 A) (bA : ∀ x ∈ A, x.1 < 2 ^ n) {t : Nat} (h : Spn 0 A (ln0 (2 ^ t))) : t ∈ fixN (kep A n) := by
  obtain ⟨k1, k2, _⟩ := kep_rd hn sA bA
  have hs := ((kep_same hn sA bA (nocontra0 sA)).1 _).1 h
  have hm := k1.single k2 hs rfl
  have hb : (2 : Nat) ^ t < 2 ^ 200 := k1.bd _ hm
  have hf : fb (2 ^ t) = t := fb_eq hb (by rw [Nat.testBit_two_pow]; simp) (fun i hi => by rw [Nat.testBit_two_pow]; simp; omega)
  refine mem_fixN.2 ⟨_, hm, Nat.ne_of_gt (Nat.two_pow_pos t), ?_, hf⟩
  show 2 ^ t = 2 ^ fb (2 ^ t)
  rw [hf]
/-- rows, and a row for each one that is known -/
def moreR (R : List (List Nat)) (K : List Nat) : List (List Nat) := R ++ K.map fun i => [i]
theorem Pl.more {n : Nat} {R : List (List Nat)} {K : List Nat} (h : Pl n R K) (h2 : R.length ≤ 200) : Rws n ((moreR R K).map zs) (moreR R K) := by
  refine ⟨rfl, fun r hr x hx => ?_, fun r hr => ?_, h.n160, ?_⟩
  · unfold moreR at hr
    rcases List.mem_append.1 hr with hr | hr
    · exact h.lt r hr x hx
    · obtain ⟨i, hi, rfl⟩ := List.mem_map.1 hr
      simp at hx
      rw [hx]
      exact h.klt i hi
  · unfold moreR at hr
    rcases List.mem_append.1 hr with hr | hr
    · exact h.ord r hr
    · obtain ⟨i, hi, rfl⟩ := List.mem_map.1 hr
      simp
  · have h1 := h.klen
    have h3 := h.n160
    unfold moreR
    rw [List.length_append, List.length_map]
    omega
theorem known_fixed {n : Nat} {R : List (List Nat)} {K : List Nat} (h : Pl n R K) (h2 : R.length ≤ 200) (i : Nat) (hi : i ∈ knN n R K) : i ∈ fixN (kep (gL (moreR R K)) n) := by
  have h160 := h.n160
  have sA := gL_szd (moreR R K)
  refine fix_spn (by omega) sA (h.more h2).bd ?_
  refine peel_spn sA h.nodup (fun r hr => ?_) n (inS K) (fun j hj => ?_) i (mem_knN.1 hi).2
  · exact Spn.mem sA (List.mem_map.2 ⟨r, by unfold moreR; exact List.mem_append_left _ hr, rfl⟩)
  · have hj' : j ∈ K := by simpa [inS] using hj
    refine Spn.mem sA (List.mem_map.2 ⟨[j], by unfold moreR; exact List.mem_append_right _ (List.mem_map.2 ⟨j, hj', rfl⟩), ?_⟩)
    show (rowN [j], []) = (2 ^ j, [])
    simp [rowN]
theorem run_append_empty {P : Program} {w : World} (base : Nat) (t ty e : TypeId) (i : TypeInfo) (size : Nat) (ht : P.underlying t = some (.slice e)) (hi : P.info? e = some i)
    (v : Value) (n : Nat) (xs : List Value) (hown : w.ownsRow base e size v n xs) (a0 : Option Addr) (c : Nat) :
    (Builtin.append_ #[t, t] ty #[v, .slice a0 0 c]).run P w = .ok v w := by
  cases a0 with
  | none =>
    rcases hown.2 with ⟨rfl, rfl⟩ | ⟨g, cap, cur, rfl, _, _, hnc, _⟩
    · simp [Builtin.append_, run_underlying ht, sizeOf, typeInfo, hi, Builtin.lenOf, Builtin.firstCells]
    · simp [Builtin.append_, run_underlying ht, sizeOf, typeInfo, hi, Builtin.lenOf, Builtin.firstCells, hnc, storeCells]
  | some ad =>
    have hl : ∀ w : World, (loadCells ad 0).run P w = .ok #[] w := fun w => by
      have := run_loadCells_list (P := P) w ad [] (fun j u h => by simp at h)
      simpa using this
    rcases hown.2 with ⟨rfl, rfl⟩ | ⟨g, cap, cur, rfl, _, _, hnc, _⟩
    · simp [Builtin.append_, run_underlying ht, sizeOf, typeInfo, hi, Builtin.lenOf, Builtin.firstCells, hl]
    · simp [Builtin.append_, run_underlying ht, sizeOf, typeInfo, hi, Builtin.lenOf, Builtin.firstCells, hnc, storeCells, hl]
theorem Try.infoIx : (Try.prog.info? 23).map (fun i => (i.zero, i.size, i.bytes)) = some (some (.slice none 0 0), 1, 24) := by kernel_rfl
theorem Try.undIx : Try.prog.underlying 22 = some (.slice 23) := by kernel_rfl
/-- all rows, put to an empty row of the call's own -/
theorem append_rows (w W : World) (a0 : Option Addr) (c : Nat) (Rs : List (List Int)) (hm : Rs.length ≤ 1000) (hI : RowsK w a0 Rs) (hb : Below w.heap.size w W) (ty : TypeId) :
    ∃ V v' w', (Builtin.append_ #[22, 22] ty #[.slice (some ⟨W.heap.size, 0, none⟩) 0 0, .slice a0 Rs.length c]).run Try.prog (W.alloc (.cells #[] 23)) = .ok v' w' ∧ w'.ownsRow W.heap.size 23 1 v' Rs.length ((List.range Rs.length).map V) ∧ RowV w Rs V ∧ Below W.heap.size W w' := by
  obtain ⟨i0, hi0, hz0, hz1, hz2⟩ := info_parts Try.infoIx
  have hown : (W.alloc (.cells #[] 23)).ownsRow W.heap.size 23 1 (.slice (some ⟨W.heap.size, 0, none⟩) 0 0) 0 [] := World.ownsRow_lit W #[] 0 (Nat.le_refl _) (by unfold maxLen; omega) rfl
  have hbA : Below W.heap.size W (W.alloc (.cells #[] 23)) := (Below.refl _ _).alloc (Nat.le_refl _) _
  rcases Nat.eq_zero_or_pos Rs.length with h0 | h0
  · refine ⟨fun _ => undef, _, _, by rw [h0]; exact run_append_empty W.heap.size _ _ _ i0 1 Try.undIx hi0 _ 0 [] hown a0 c, ?_, ⟨fun i hi => absurd hi (by omega)⟩, hbA⟩
    rw [h0]
    exact hown
  · obtain ⟨g, o, V, rfl, hV0, hV⟩ := rowV_of hI h0
    obtain ⟨g', cap, w', hr, h1, h2, h3, h4⟩ := run_append_lies (P := Try.prog) (W.alloc (.cells #[] 23)) 22 ty W.heap.size 23 i0 (.slice none 0 0) 1 24 Try.undIx hi0 hz0 hz1 hz2 rfl (by decide) _ 0 [] hown ⟨g, o, none⟩ Rs.length c ((List.range Rs.length).map V) (by simp) (fun j u hu => by
      rw [Addr.add_mid]
      have hj : j < Rs.length := by
        rcases Nat.lt_or_ge j Rs.length with h | h
        · exact h
        · rw [List.getElem?_eq_none (by simpa using h)] at hu; cases hu
      have : V j = u := by simpa [hj] using hu
      rw [← this]
      exact cell_below (hV0 j hj) (hb.trans (hbA.mono hb.size))) (fun u hu => by
      obtain ⟨i, hi, rfl⟩ := List.mem_map.1 hu
      obtain ⟨b, c, e, _⟩ := hV.is i (List.mem_range.1 hi)
      rw [e]
      rfl) h0 (by unfold maxLen; omega) (by omega) (by simp) _ rfl
    rw [Nat.zero_add] at hr h1
    exact ⟨V, _, w', hr, by simpa using h1, hV, hbA.trans (((Below.refl W.heap.size _)).grown h2 (by simp) (fun q hq => (hown.lt q hq).1))⟩
end Go.Proofs.Ytfihpmhobjjaaaa

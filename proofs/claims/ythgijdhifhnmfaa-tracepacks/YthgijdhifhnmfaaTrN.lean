/- trace: mathematics: what is unpacked, packed again. -/
import Derived.Test.YthgijdhifhnmfaaTrM
namespace Go.Proofs.Ythgijdhifhnmfaa
open Go.RowKit
set_option linter.unusedVariables false

theorem byteOf_nat (a : UInt8) : byteOf (a.toNat : Int) = a := by
  unfold byteOf
  simp
theorem putB_getV1 (a : UInt8) : putB (getV [a]) 1 = [a] := by
  have e : getV [a] = (a.toNat : Int) := by simp [getV]
  have ha := a.toNat_lt
  show [byteAt (getV [a]) 0] = [a]
  unfold byteAt
  rw [e, show (a.toNat : Int) / 2 ^ (8 * 0) % 256 = a.toNat by simp; omega, byteOf_nat]
theorem putB_getV2 (a b : UInt8) : putB (getV [a, b]) 2 = [a, b] := by
  have e : getV [a, b] = (a.toNat : Int) * 256 + b.toNat := by simp [getV]
  have ha := a.toNat_lt
  have hb := b.toNat_lt
  show [byteAt (getV [a, b]) 1, byteAt (getV [a, b]) 0] = [a, b]
  unfold byteAt
  rw [e, show ((a.toNat : Int) * 256 + b.toNat) / 2 ^ (8 * 0) % 256 = b.toNat by simp; omega, show ((a.toNat : Int) * 256 + b.toNat) / 2 ^ (8 * 1) % 256 = a.toNat by show ((a.toNat : Int) * 256 + b.toNat) / 256 % 256 = a.toNat; omega, byteOf_nat, byteOf_nat]
theorem putB_getV (l : By) (k : Nat) (hk : k = 1 ∨ k = 2) (h : l.length = k) : putB (getV l) k = l := by
  rcases hk with rfl | rfl
  · match l, h with
    | [a], _ => exact putB_getV1 a
  · match l, h with
    | [a, b], _ => exact putB_getV2 a b
theorem raw_inv (p : Rd) (n : Int) (h : (raw p n).2.2 = 0) : p.2 = 0 ∧ 0 ≤ n ∧ p.1.data.toList = (raw p n).1.data.toList ++ (raw p n).2.1.data.toList ∧ ((raw p n).1.size : Int) = n := by
  obtain ⟨s, e⟩ := p
  by_cases he : e = 0
  · subst he
    by_cases hn : n < 0
    · exfalso
      unfold raw at h
      dsimp only at h
      rw [if_neg (by simp), if_pos hn] at h
      cases h
    · obtain ⟨k, rfl⟩ : ∃ k : Nat, n = k := ⟨n.toNat, by omega⟩
      by_cases hs : s.size < k
      · exfalso
        unfold raw at h
        dsimp only at h
        rw [if_neg (by simp), if_neg hn, if_pos (by omega)] at h
        cases h
      · have hL : s.data.toList.length = s.size := by simp
        have hr := raw_ok s.data.toList k (by omega)
        rw [bs_of] at hr
        rw [hr]
        refine ⟨rfl, by omega, ?_, ?_⟩
        · dsimp only
          rw [bs_list, bs_list, List.take_append_drop]
        · dsimp only
          rw [bs_size, List.length_take]
          omega
  · exfalso
    unfold raw at h
    dsimp only at h
    rw [if_pos he] at h
    exact he h
theorem num_inv (p : Rd) (k : Nat) (hk : k = 1 ∨ k = 2) (h : (num p (k : Nat)).2.2 = 0) : p.2 = 0 ∧ p.1.data.toList = putB (num p (k : Nat)).1 k ++ (num p (k : Nat)).2.1.data.toList := by
  obtain ⟨s, e⟩ := p
  by_cases he : e = 0
  · subst he
    have hL : s.data.toList.length = s.size := by simp
    by_cases hs : s.size < k
    · exfalso
      unfold num at h
      dsimp only at h
      rw [if_neg (by simp), if_neg (by omega)] at h
      dsimp only at h
      unfold raw at h
      dsimp only at h
      rw [if_neg (by simp), if_neg (by omega), if_pos (by omega)] at h
      cases h
    · have hr := num_ok s.data.toList k (by omega) (by omega) (by omega)
      rw [bs_of] at hr
      rw [hr]
      refine ⟨rfl, ?_⟩
      dsimp only
      rw [bs_list, putB_getV _ k hk (by rw [List.length_take]; omega), List.take_append_drop]
  · exfalso
    unfold num at h
    dsimp only at h
    rw [if_pos he] at h
    exact he h
theorem upE_inv (p : Rd) (e : Ev) (h : (upE p).1 = some e) (h0 : (upE p).2.2 = 0) : p.2 = 0 ∧ p.1.data.toList = encE e ++ (upE p).2.1.data.toList := by
  have i1 := num_inv p 1 (.inl rfl)
  have i2 := num_inv (num p 1).2 2 (.inr rfl)
  rw [show ((1 : Nat) : Int) = 1 from rfl] at i1
  rw [show ((2 : Nat) : Int) = 2 from rfl] at i2
  unfold upE at h h0 ⊢
  by_cases h1 : (num p 1).1 = 1
  · rw [if_pos h1] at h h0 ⊢
    dsimp only at h h0 ⊢
    have i3 := num_inv (num (num p 1).2 2).2 2 (.inr rfl)
    rw [show ((2 : Nat) : Int) = 2 from rfl] at i3
    unfold text at h h0 ⊢
    obtain ⟨r1, r2, r3, r4⟩ := raw_inv _ _ h0
    obtain ⟨c1, c2⟩ := i3 r1
    obtain ⟨b1, b2⟩ := i2 c1
    obtain ⟨a1, a2⟩ := i1 b1
    refine ⟨a1, ?_⟩
    simp only [Option.some.injEq] at h
    subst h
    unfold encE
    dsimp only
    rw [if_pos rfl, r4, a2, b2, c2, r3, h1]
    simp [List.append_assoc]
  · rw [if_neg h1] at h h0 ⊢
    by_cases h23 : (num p 1).1 = 2 ∨ (num p 1).1 = 3
    · rw [if_pos h23] at h h0 ⊢
      dsimp only at h h0 ⊢
      obtain ⟨b1, b2⟩ := i2 h0
      obtain ⟨a1, a2⟩ := i1 b1
      refine ⟨a1, ?_⟩
      simp only [Option.some.injEq] at h
      subst h
      unfold encE
      dsimp only
      rw [if_neg h1, a2, b2]
      simp [List.append_assoc]
    · rw [if_neg h23] at h
      cases h
theorem ups_inv (p0 : Rd) : ∀ (k : Nat) (l : List Ev) (p : Rd), ups p0 k = some (l, p) → l.length = k ∧ (p.2 = 0 → p0.2 = 0 ∧ p0.1.data.toList = l.flatMap encE ++ p.1.data.toList) := by
  intro k
  induction k with
  | zero =>
    intro l p h
    have : ([], p0) = (l, p) := by simpa [ups] using h
    simp only [Prod.mk.injEq] at this
    obtain ⟨rfl, rfl⟩ := this
    exact ⟨rfl, fun h => ⟨h, by simp⟩⟩
  | succ k ih =>
    intro l p h
    cases hu : ups p0 k with
    | none =>
      have := ups_none hu 1
      rw [h] at this
      cases this
    | some x =>
      obtain ⟨l', p'⟩ := x
      obtain ⟨i1, i2⟩ := ih l' p' hu
      rw [ups_step hu] at h
      cases he : (upE p').1 with
      | none => rw [he] at h; cases h
      | some e =>
        rw [he] at h
        simp only [Option.some.injEq, Prod.mk.injEq] at h
        obtain ⟨rfl, rfl⟩ := h
        refine ⟨by simp [i1], fun h0 => ?_⟩
        obtain ⟨j1, j2⟩ := upE_inv p' e he h0
        obtain ⟨k1, k2⟩ := i2 j1
        refine ⟨k1, ?_⟩
        rw [k2, j2, List.flatMap_append]
        simp [List.append_assoc]
theorem unp_inv (s : ByteArray) (m : List Ev) (h : unp s = some m) : chkB m = true ∧ s.data.toList = hd m.length ++ m.flatMap encE := by
  unfold unp at h
  cases hu : ups (cnt s).2 (cnt s).1.toNat with
  | none => rw [hu] at h; cases h
  | some x =>
    obtain ⟨l, p⟩ := x
    rw [hu] at h
    dsimp only at h
    by_cases hc : begB s = true ∧ atEnd p = 0 ∧ chkB l = true
    · rw [if_pos hc, Option.some.injEq] at h
      subst h
      obtain ⟨hb, he, hk⟩ := hc
      refine ⟨hk, ?_⟩
      have hp : p.2 = 0 ∧ p.1.size = 0 := by
        unfold atEnd at he
        by_cases h0 : p.2 = 0 ∧ 0 < p.1.size
        · rw [if_pos h0] at he
          cases he
        · rw [if_neg h0] at he
          refine ⟨he, ?_⟩
          have : ¬ 0 < p.1.size := fun hh => h0 ⟨he, hh⟩
          omega
      obtain ⟨i1, i2⟩ := ups_inv _ _ _ _ hu
      obtain ⟨j1, j2⟩ := i2 hp.1
      have hpe : p.1.data.toList = [] := by
        have : p.1.data.toList.length = p.1.size := by simp
        exact List.eq_nil_of_length_eq_zero (by omega)
      have n1 := num_inv (raw (s, 0) 4).2 2 (.inr rfl) j1
      rw [show ((2 : Nat) : Int) = 2 from rfl] at n1
      obtain ⟨r1, r2, r3, r4⟩ := raw_inv (s, 0) 4 n1.1
      have hcb := num_bounds (raw (s, 0) 4).2 2 (.inr rfl)
      have hbg : (raw (s, 0) 4).1.data.toList = [116, 114, 99, 49] := by
        unfold begB at hb
        rw [ByteArray.toList_eq] at hb
        simpa using hb
      have hcn : (num (raw (s, 0) 4).2 2).1 = (l.length : Int) := by
        have : (cnt s).1 = (num (raw (s, 0) 4).2 2).1 := rfl
        rw [i1, this]
        omega
      have hj : (num (raw (s, 0) 4).2 2).2.1.data.toList = l.flatMap encE := by
        have : (cnt s).2 = (num (raw (s, 0) 4).2 2).2 := rfl
        rw [← this, j2, hpe, List.append_nil]
      dsimp only at r3
      rw [r3, hbg, n1.2, hcn, hj]
      unfold hd
      rw [List.append_assoc]
    · rw [if_neg hc] at h
      cases h
theorem pk_unp (s : ByteArray) (m : List Ev) (h : unp s = some m) (hs : s.size ≤ 10000) : pkS m m.length = (s.data.toList, 0) := by
  obtain ⟨h1, h2⟩ := unp_inv s m h
  have hl : s.data.toList.length = s.size := by simp
  unfold chkB at h1
  rw [Bool.and_eq_true] at h1
  have hn := of_decide_eq_true h1.1
  have := congrArg List.length h2
  rw [List.length_append, hd_len] at this
  rw [pkS_ok m m.length (by omega) (List.all_eq_true.1 h1.2) (by omega), ← h2]
end Go.Proofs.Ythgijdhifhnmfaa

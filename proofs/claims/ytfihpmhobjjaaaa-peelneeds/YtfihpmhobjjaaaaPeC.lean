/- peel's last: the number of a row that alone is not known. -/
import Derived.Test.YtfihpmhobjjaaaaPeB
namespace Go.Proofs.Ytfihpmhobjjaaaa
open Go.RowKit
set_option linter.unusedVariables false
attribute [local go_sem] Oper.semAt_some

theorem Ints.drop {w : World} {g o : Nat} {l : List Int} (h : Ints w (some ⟨g, o, none⟩) l) (k : Nat) : Ints w (some ⟨g, o + k, none⟩) (l.drop k) := fun i hi => by
  have hi' : k + i < l.length := by rw [List.length_drop] at hi; omega
  obtain ⟨g', o', e, h2⟩ := h (k + i) hi'
  simp only [Option.some.injEq, Addr.mk.injEq] at e
  obtain ⟨rfl, rfl, _⟩ := e
  refine ⟨g, o + k, rfl, ?_⟩
  rw [List.getElem_drop, ← h2, Nat.add_assoc]
/-- what the program's last answers -/
def lastI (S : Nat → Bool) (r : List Nat) : Nat := (lstN S r).getD 0
theorem unk_idx {S : Nat → Bool} : ∀ {r : List Nat} {k : Nat}, r.findIdx? (fun i => !S i) = some k → ∃ h : k < r.length, unk S r = r[k] :: unk S (r.drop (k + 1))
  | [], k, h => by simp at h
  | x :: r, k, h => by
    rw [List.findIdx?_cons] at h
    cases hx : S x with
    | false =>
      rw [hx] at h
      simp at h
      subst h
      exact ⟨by simp, by simp [unk, hx]⟩
    | true =>
      rw [hx] at h
      simp at h
      obtain ⟨a, ha, rfl⟩ := h
      obtain ⟨h1, h2⟩ := unk_idx ha
      refine ⟨by simpa using h1, ?_⟩
      have e : unk S (x :: r) = unk S r := by simp [unk, hx]
      rw [e, h2]
      simp
theorem unk_none {S : Nat → Bool} {r : List Nat} (h : r.findIdx? (fun i => !S i) = none) : unk S r = [] := by
  rw [List.findIdx?_eq_none_iff] at h
  unfold unk
  rw [List.filter_eq_nil_iff]
  intro a ha
  rw [h a ha]
  simp
theorem any_unk {S : Nat → Bool} {r : List Nat} : r.any (fun i => !S i) = !(unk S r).isEmpty := by
  unfold unk
  induction r with
  | nil => rfl
  | cons x r ih =>
    rw [List.any_cons, ih, List.filter_cons]
    cases S x <;> simp
set_option maxRecDepth 100000 in
set_option maxHeartbeats 1000000 in
theorem last_any (r : List Nat) (a0 : Option Addr) (c g : Nat) (S : Nat → Bool) (hr : ∀ x ∈ r, x < 160) (hk : r.length ≤ maxLen) (hc : r.length ≤ c) (hcm : c ≤ maxLen) (w : World) (hI : Ints w a0 (zs r)) (hM : MkAt w g S) :
    Calls Try.prog 30 #[.slice a0 r.length c, .pointer (some ⟨g, 0, none⟩)] w fun e w' => e = .returned (.tuple #[.int .i64 (lastI S r : Nat), .bool (lstN S r).isSome]) ∧ Below w.heap.size w w' := by
  have hw1 : Below w.heap.size w (w.alloc (.cells #[.pointer (some ⟨g, 0, none⟩)] 50)) := (Below.refl _ w).alloc (Nat.le_refl _) _
  have hI1 := hI.below hw1
  have hM1 := hM.kept hw1
  have cb : (w.alloc (.cells #[.pointer (some ⟨g, 0, none⟩)] 50)).cell? ⟨w.heap.size, 0, none⟩ = some (.pointer (some ⟨g, 0, none⟩)) := by
    rw [cell_of_row _ _ 0 _ _ _ (heap_alloc_new _ _)]
    rfl
  have hix := hide (iindex1_any r (fun i => !S i) (.pointer (some ⟨w.heap.size, 0, none⟩)) a0 c _ hk hI1 (fun x hx => last1_any x (hr x hx) _ g S _ cb hM1))
  have HW1 := hide hw1
  unfold maxLen at hk hcm
  cases hf : r.findIdx? (fun i => !S i) with
  | none =>
    have e1 : idxP r (fun i => !S i) = -1 := by unfold idxP; rw [hf]
    have e2 : lstN S r = none := by unfold lstN; rw [unk_none hf]; rfl
    rw [e1] at hix
    unfold lastI
    rw [e2]
    generalize r.length = n at *
    clear hI hM hI1 hM1 hw1 e1 e2 hf cb
    go_enter Try.func30, Try.ntmps30
    go_wp2_with fail
    refine (unhide hix).mono ?_
    rintro e w1 ⟨rfl, rfl⟩
    go_wp2
    go_ret2
    exact ⟨rfl, unhide HW1⟩
  | some k =>
    obtain ⟨h1, h2⟩ := unk_idx hf
    have e1 : idxP r (fun i => !S i) = (k : Int) := by unfold idxP; rw [hf]
    rw [e1] at hix
    obtain ⟨gg, o, rfl, c0⟩ := hI1 k (by rw [zs_length]; exact h1)
    rw [zs_get r k h1] at c0
    have hcon : Hid (∀ (A : Addr) (C : Nat), A = ⟨gg, o + (k + 1), none⟩ ∨ c = k + 1 → Calls Try.prog 43 #[.slice (some A) (r.drop (k + 1)).length C, .func (.func 44) #[] #[.pointer (some ⟨w.heap.size, 0, none⟩)]] (w.alloc (.cells #[.pointer (some ⟨g, 0, none⟩)] 50)) fun e w' => e = .returned (.bool ((r.drop (k + 1)).any (fun i => !S i))) ∧ (w.alloc (.cells #[.pointer (some ⟨g, 0, none⟩)] 50)) = w') := fun A C hA =>
      icontains_any (r.drop (k + 1)) (fun i => !S i) (.pointer (some ⟨w.heap.size, 0, none⟩)) (some A) C _ (by unfold maxLen; rw [List.length_drop]; omega) (by
        rcases hA with rfl | hA
        · have := hI1.drop (k + 1)
          unfold zs at *
          rwa [← List.map_drop] at this
        · have : r.drop (k + 1) = [] := List.drop_of_length_le (by omega)
          rw [this]
          intro i hi
          simp [zs] at hi) (fun x hx => last2_any x (hr x (List.mem_of_mem_drop hx)) _ g S _ cb hM1)
    rw [List.length_drop, any_unk] at hcon
    have e3 : lstN S r = if (unk S (r.drop (k + 1))).isEmpty then some r[k] else none := by
      unfold lstN
      rw [h2]
      cases unk S (r.drop (k + 1)) <;> rfl
    unfold lastI
    rw [e3]
    cases hu : (unk S (r.drop (k + 1))).isEmpty with
    | true =>
      rw [hu] at hcon
      simp only [Bool.not_true, if_true, Option.getD_some, Option.isSome_some] at hcon ⊢
      generalize r[k] = y at *
      generalize r.length = n at *
      have q0 : ¬ ((k : Int) < 0) := by omega
      have q1 : (k : Int) < n := by omega
      have q2 : (k : Int) + 1 ≤ n := by omega
      have q3 : (n : Int) ≤ c := by omega
      have d0 : decide ((k : Int) < 0) = false := decide_eq_false q0
      clear hI hM hI1 hM1 hw1 e1 e3 hf cb hu h2
      go_enter Try.func30, Try.ntmps30
      go_wp2_with fail
      refine (unhide hix).mono ?_
      rintro e w1 ⟨rfl, rfl⟩
      go_wp2_with fail
      case inl h =>
        refine (unhide hcon _ _ (.inr h)).mono ?_
        rintro e w1 ⟨rfl, rfl⟩
        go_wp2
        go_ret2
        exact ⟨rfl, unhide HW1⟩
      case inr =>
        refine (unhide hcon _ _ (.inl rfl)).mono ?_
        rintro e w1 ⟨rfl, rfl⟩
        go_wp2
        go_ret2
        exact ⟨rfl, unhide HW1⟩
    | false =>
      rw [hu] at hcon
      simp only [Bool.not_false, Bool.false_eq_true, if_false, Option.getD_none, Option.isSome_none] at hcon ⊢
      generalize r[k] = y at *
      generalize r.length = n at *
      have q0 : ¬ ((k : Int) < 0) := by omega
      have q1 : (k : Int) < n := by omega
      have q2 : (k : Int) + 1 ≤ n := by omega
      have q3 : (n : Int) ≤ c := by omega
      have d0 : decide ((k : Int) < 0) = false := decide_eq_false q0
      clear hI hM hI1 hM1 hw1 e1 e3 hf cb hu h2
      go_enter Try.func30, Try.ntmps30
      go_wp2_with fail
      refine (unhide hix).mono ?_
      rintro e w1 ⟨rfl, rfl⟩
      go_wp2_with fail
      case inl h =>
        refine (unhide hcon _ _ (.inr h)).mono ?_
        rintro e w1 ⟨rfl, rfl⟩
        go_wp2
        go_ret2
        exact ⟨rfl, unhide HW1⟩
      case inr =>
        refine (unhide hcon _ _ (.inl rfl)).mono ?_
        rintro e w1 ⟨rfl, rfl⟩
        go_wp2
        go_ret2
        exact ⟨rfl, unhide HW1⟩
end Go.Proofs.Ytfihpmhobjjaaaa

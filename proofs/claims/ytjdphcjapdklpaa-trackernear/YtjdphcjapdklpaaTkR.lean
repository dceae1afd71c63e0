/- tracker: few, of any row of acts. -/
import Derived.Test.YtjdphcjapdklpaaTkP
import Derived.Test.YtjdphcjapdklpaaOpenTb
namespace Go.Proofs.Ytjdphcjapdklpaa
open Go.RowKit
set_option linter.unusedVariables false
attribute [local go_sem] Oper.semAt_some

/-- no more acts than the law goes through, of short names -/
def fewA (l : List Ta) : Prop := l.length ≤ 60 ∧ ∀ p ∈ l, p.n.nm.length ≤ 100
set_option maxRecDepth 100000 in
set_option maxHeartbeats 2000000 in
theorem few_any (a0 : Option Addr) (l : List Ta) (c : Nat) (s t : ByteArray) (ax ay k now : Int) (w : World) (hA : TasAt w a0 l) (hO : TasOk l c) : Calls Try.prog 11 #[.slice a0 l.length c, .agg #[.string s, .string t, .int .i64 ax, .int .i64 ay, .int .i64 k, .int .i64 now]] w fun e w' => ∃ B, e = .returned (.bool B) ∧ (B = true → fewA l ∧ s.size ≤ 100 ∧ t.size ≤ 100) ∧ Below w.heap.size w w' := by
  have hb : Below w.heap.size w (w.alloc (.cells #[.string s, .string t, .int .i64 ax, .int .i64 ay, .int .i64 k, .int .i64 now] 37)) := (Below.refl _ w).alloc (Nat.le_refl _) _
  have h0 := heap_alloc_new w (.cells #[.string s, .string t, .int .i64 ax, .int .i64 ay, .int .i64 k, .int .i64 now] 37)
  obtain ⟨W1, hW⟩ : ∃ W, W = w.alloc (.cells #[.string s, .string t, .int .i64 ax, .int .i64 ay, .int .i64 k, .int .i64 now] 37) := ⟨_, rfl⟩
  rw [← hW] at hb h0
  have HT := hide (hA.up hb)
  have hln : l.length ≤ maxLen := Nat.le_trans hO.1 hO.2.1
  unfold maxLen at hln
  have d0 : W1.cell? ⟨w.heap.size, 0, none⟩ = some (.string s) := cell_of_row _ _ 0 _ _ _ h0
  have d1 : W1.cell? ⟨w.heap.size, 1, none⟩ = some (.string t) := cell_of_row _ _ 1 _ _ _ h0
  have HW := hide hW
  have HB := hide hb
  clear hA hO h0 hW hb
  obtain ⟨n, hn⟩ : ∃ n, n = l.length := ⟨_, rfl⟩
  rw [← hn] at hln ⊢
  have HN := hide hn
  clear hn
  obtain ⟨P, hP⟩ : ∃ P : Bool → Prop, P = fun B => B = true → fewA l ∧ s.size ≤ 100 ∧ t.size ≤ 100 := ⟨_, rfl⟩
  suffices hS : Calls Try.prog 11 #[.slice a0 n c, .agg #[.string s, .string t, .int .i64 ax, .int .i64 ay, .int .i64 k, .int .i64 now]] w fun e w' => (P true ∧ e = .returned (.bool true) ∨ P false ∧ e = .returned (.bool false)) ∧ Below w.heap.size w w' by
    refine hS.mono ?_
    rintro e w' ⟨h | h, hb⟩
    · exact ⟨true, h.2, by rw [hP] at h; exact h.1, hb⟩
    · exact ⟨false, h.2, by rw [hP] at h; exact h.1, hb⟩
  have HPF : Hid (P false) := by show P false; rw [hP]; intro h; cases h
  have HPT : Hid (n ≤ 60 → (∀ j (h : j < l.length), j < n → (l[j]).n.nm.length ≤ 100) → s.size ≤ 100 → t.size ≤ 100 → P true) := fun h1 h2 h3 h4 => by
    rw [hP]
    intro _
    refine ⟨⟨by rw [← unhide HN]; exact h1, fun p hp => ?_⟩, h3, h4⟩
    obtain ⟨j, hj, rfl⟩ := List.getElem_of_mem hp
    exact h2 j hj (by rw [unhide HN]; exact hj)
  clear hP
  go_enter Try.func11, Try.ntmps11
  go_wp2_with fail
  rw [← unhide HW]
  clear HW
  go_loopw [5] (fun kv wr => ∃ i : Nat, i ≤ n ∧ i ≤ 60 ∧ kv = .int .i64 i ∧ Hid (∀ j (h : j < l.length), j < i → (l[j]).n.nm.length ≤ 100) ∧ W1 = wr) (fun kv _ => n - (intOf kv).toNat)
  case atStart => exact ⟨0, by omega, by omega, rfl, fun j h hj => absurd hj (Nat.not_lt_zero _), rfl⟩
  case round =>
    obtain ⟨i, hi, hi6, rfl, HS, rfl⟩ := hrel
    by_cases hlt : i < n
    · have q1 : (i : Int) < n := by omega
      by_cases h60 : i < 60
      · have q2 : ¬ (60 : Int) ≤ i := by omega
        have q2' : ¬ 60 ≤ i := by omega
        have hlt' : i < l.length := by rw [← unhide HN]; exact hlt
        obtain ⟨g, o, rfl, hg, hr⟩ := unhide HT i _ (List.getElem?_eq_getElem hlt')
        have hc : W1.cell? ⟨g, o + i * 7 + 2, none⟩ = some (.string (bs l[i].n.nm)) := hr 2 _ rfl
        have hsz := bs_size l[i].n.nm
        by_cases h1 : l[i].n.nm.length ≤ 100
        · have HS2 : Hid (∀ j (h : j < l.length), j < i + 1 → (l[j]).n.nm.length ≤ 100) := fun j h hj => by
            by_cases e : j = i
            · subst e; exact h1
            · exact unhide HS j h (by omega)
          generalize bs l[i].n.nm = nm at *
          rw [← hsz] at h1
          have h2 : ¬ (100 : Int) < nm.size := by omega
          have h2' : ¬ 100 < nm.size := by omega
          clear hr hsz hlt'
          go_wp2
          go_roundw
          case rel => exact ⟨i + 1, by omega, by omega, by go_num, HS2, by trivial⟩
          case measure => simp [intOf]; omega
        · generalize bs l[i].n.nm = nm at *
          rw [← hsz] at h1
          have h2 : (100 : Int) < nm.size := by omega
          have h2' : 100 < nm.size := by omega
          clear hr hsz hlt'
          go_wp2
          go_ret
          exact ⟨.inr ⟨unhide HPF, rfl⟩, unhide HB⟩
      · have q2 : (60 : Int) ≤ i := by omega
        have q2' : 60 ≤ i := by omega
        go_wp2
        go_ret
        exact ⟨.inr ⟨unhide HPF, rfl⟩, unhide HB⟩
    · have hin : i = n := by omega
      subst hin
      have q1 : ¬ (i : Int) < i := by omega
      by_cases h1 : (s.size : Int) ≤ 100
      · have g1 : decide ((s.size : Int) ≤ 100) = true := decide_eq_true h1
        have g1n : decide (s.size ≤ 100) = true := decide_eq_true (by omega)
        by_cases h2 : (t.size : Int) ≤ 100
        · go_wp2
          go_ret
          exact ⟨.inl ⟨unhide HPT (by omega) (unhide HS) (by omega) (by omega), rfl⟩, unhide HB⟩
        · have g2 : decide ((t.size : Int) ≤ 100) = false := decide_eq_false h2
          have g2n : decide (t.size ≤ 100) = false := decide_eq_false (by omega)
          go_wp2
          go_ret
          exact ⟨.inr ⟨unhide HPF, rfl⟩, unhide HB⟩
      · have g1 : decide ((s.size : Int) ≤ 100) = false := decide_eq_false h1
        have g1n : decide (s.size ≤ 100) = false := decide_eq_false (by omega)
        go_wp2
        go_ret
        exact ⟨.inr ⟨unhide HPF, rfl⟩, unhide HB⟩
end Go.Proofs.Ytjdphcjapdklpaa

/- store: pick, at each closure that it is handed. -/
import Derived.Test.YtgomnmhjkjahlaaStC
import Derived.Maps.AppendAt
namespace Go.Proofs.Ytgomnmhjkjahlaa
open Go.RowKit
set_option linter.unusedVariables false
attribute [local go_sem] Oper.semAt_some

theorem asc_ext : ∀ (a b : List Int), a.Pairwise (· < ·) → b.Pairwise (· < ·) → (∀ k, k ∈ a ↔ k ∈ b) → a = b
  | [], [], _, _, _ => rfl
  | [], y :: b, _, _, h => absurd ((h y).2 (by simp)) (by simp)
  | x :: a, [], _, _, h => absurd ((h x).1 (by simp)) (by simp)
  | x :: a, y :: b, ha, hb, h => by
    rw [List.pairwise_cons] at ha hb
    have e : x = y := by
      have h1 := (h x).1 (by simp)
      have h2 := (h y).2 (by simp)
      rw [List.mem_cons] at h1 h2
      rcases h1 with h1 | h1
      · exact h1
      · rcases h2 with h2 | h2
        · exact h2.symm
        · have := ha.1 y h2
          have := hb.1 x h1
          omega
    subst e
    rw [asc_ext a b ha.2 hb.2 (fun k => ⟨fun hk => by
      have := (h k).1 (List.mem_cons_of_mem _ hk)
      rw [List.mem_cons] at this
      rcases this with e | e
      · have := ha.1 k hk; omega
      · exact e, fun hk => by
      have := (h k).2 (List.mem_cons_of_mem _ hk)
      rw [List.mem_cons] at this
      rcases this with e | e
      · have := hb.1 k hk; omega
      · exact e⟩)]
theorem asc_sort (got want : List Int) (hn : got.Nodup) (hw : want.Pairwise (· < ·)) (h : ∀ k, k ∈ got ↔ k ∈ want) : got.mergeSort (fun x y => decide (x ≤ y)) = want := by
  apply asc_ext _ _ _ hw
  · intro k
    rw [(List.mergeSort_perm got _).mem_iff]
    exact h k
  · have h1 : (got.mergeSort fun x y => decide (x ≤ y)).Pairwise (fun x y => decide (x ≤ y) = true) := List.pairwise_mergeSort (fun a b c h1 h2 => by simp at h1 h2 ⊢; omega) (fun a b => by simp; omega) got
    have h2 : (got.mergeSort fun x y => decide (x ≤ y)).Nodup := ((List.mergeSort_perm got _).nodup_iff).2 hn
    exact List.Pairwise.imp₂ (fun a b h3 h4 => by simp at h3; omega) h1 h2
theorem ids_up (rs : List Raw) (P : Raw → Bool) (h : rs.Pairwise fun a b => a.id < b.id) : ((rs.filter P).map Raw.id).Pairwise (· < ·) := by
  rw [List.pairwise_map]
  exact h.sublist List.filter_sublist
theorem Try.infoI2 : (Try.prog.info? 3).map (fun i => (i.zero, i.size, i.bytes)) = some (some (.int .i64 0), 1, 8) := by kernel_rfl
theorem below_of_grown {w w' : World} {r : Nat} {x : World} (h : Below x.heap.size x w) (hg : w.grownBy w' (some r)) (hr : x.heap.size ≤ r) : Below x.heap.size x w' :=
  h.grown hg h.size (fun k hk => by cases hk; exact hr)
/-- what the ids that were gathered have to do with what is still to come -/
theorem got_step {rs : List Raw} {P : Raw → Bool} {left : Lit → Bool} {got : List Int} (hup : rs.Pairwise fun a b => a.id < b.id) (hmem : ∀ k, k ∈ got ↔ ∃ r ∈ rs, r.id = k ∧ left (kI k) = false ∧ P r = true) {x : Raw} (hx : x ∈ rs) (hl : left (kI x.id) = true) :
    x.id ∉ got ∧ (P x = true → ∀ k, k ∈ got ++ [x.id] ↔ ∃ r ∈ rs, r.id = k ∧ (left (kI k) && !(kI k).sameKey (kI x.id)) = false ∧ P r = true) ∧ (P x = false → ∀ k, k ∈ got ↔ ∃ r ∈ rs, r.id = k ∧ (left (kI k) && !(kI k).sameKey (kI x.id)) = false ∧ P r = true) := by
  have huniq : ∀ r ∈ rs, r.id = x.id → r = x := by
    intro r hr e
    have hne : rs.Pairwise fun a b => a.id ≠ b.id := hup.imp (fun h => by omega)
    apply Classical.byContradiction
    intro hc
    obtain ⟨i, hi, rfl⟩ := List.getElem_of_mem hr
    obtain ⟨j, hj, rfl⟩ := List.getElem_of_mem hx
    rw [List.pairwise_iff_getElem] at hne
    rcases Nat.lt_trichotomy i j with h | h | h
    · exact hne i j hi hj h e
    · subst h; exact hc rfl
    · exact hne j i hj hi h e.symm
  have hsame : ∀ k : Int, (kI k).sameKey (kI x.id) = decide (k = x.id) := fun k => by
    by_cases e : k = x.id
    · subst e; simp [WideAt.sameKey_self (show WideAt.IsKeyLit (kI x.id) from trivial)]
    · rw [Maps.sameKey_ne (kI_ne e), decide_eq_false e]
  refine ⟨fun h => ?_, fun hP k => ?_, fun hP k => ?_⟩
  · obtain ⟨r, hr, e, hl2, _⟩ := (hmem x.id).1 h
    rw [hl] at hl2
    cases hl2
  · rw [List.mem_append, hmem]
    simp only [hsame]
    by_cases e : k = x.id
    · subst e
      simp
      exact ⟨x, hx, rfl, hP⟩
    · simp [e]
  · rw [hmem]
    simp only [hsame]
    by_cases e : k = x.id
    · subst e
      simp [hl]
      intro r hr e2
      rw [huniq r hr e2]
      exact hP
    · simp [e]

set_option maxRecDepth 100000 in
set_option maxHeartbeats 2000000 in
theorem pick_all (p : Nat) (room last : Int) (b n : Nat) (D : DataW Value) (rs : List Raw) (P : Raw → Bool) (hD : MapIs D rs) (w : World) (hblk : w.heap[p]? = some (.cells #[.int .i64 room, .int .i64 last, .map (some b)] 69 (0, 0))) (hM : StMap w b n D) (hup : rs.Pairwise fun a b => a.id < b.id) (hlen : rs.length ≤ 1000)
    (hcl : ∀ r ∈ rs, ∀ W, Below w.heap.size w W → Calls Try.prog 38 #[rawV r] W fun e w' => e = .returned (.bool (P r)) ∧ Below W.heap.size W w') :
    Calls Try.prog 37 #[.pointer (some ⟨p, 0, none⟩), .func (.func 38) #[] #[]] w fun e w' => ∃ a0 c, e = .returned (.slice a0 (rs.filter P).length c) ∧ Ints w' a0 ((rs.filter P).map Raw.id) ∧ (∀ a, a0 = some a → w.heap.size ≤ a.block) ∧ Below w.heap.size w w' := by
  obtain ⟨i0, hi0, hz0, hz1, hz2⟩ := info_parts Try.infoI
  have hc2 : w.cell? ⟨p, 2, none⟩ = some (.map (some b)) := by rw [cell_of_row _ _ 2 _ _ (0, 0) hblk]; rfl
  have HCL := hide hcl
  have HUP := hide hup
  have HD := hide hD
  have HM := hide hM
  clear hcl hup hD hM hblk
  go_enter Try.func37, Try.ntmps37
  go_wp2_with (at_range; refine wpList_range_own _ rfl _ 67 rfl 3 34 keyed Try.underlying67 stR b n D rfl (unhide HM) ?_; intro w0 hrg0 hg0 hs0)
  have hb0 : Below w.heap.size w w0 := (Below.refl _ _).grown hg0 (Nat.le_refl _) (fun k hk => by cases hk)
  have HRG0 := hide hrg0
  have HB0 := hide hb0
  have HS0 := hide hs0
  clear hrg0 hb0 hg0 hs0 hc2
  go_frame
  go_loopw [5] (fun v wr => ∃ left cnt got, StRg wr b w.heap.size n D left cnt ∧ OwnI wr (w.heap.size + 1) v got ∧ got.Nodup ∧ (∀ k, k ∈ got ↔ ∃ r ∈ rs, r.id = k ∧ left (kI k) = false ∧ P r = true) ∧ got.length + cnt ≤ rs.length ∧ Below w.heap.size w wr ∧ w.heap.size + 1 ≤ wr.heap.size) (fun _ wr => wr.rangeLeft b w.heap.size)
  case atStart =>
    refine ⟨_, _, [], unhide HRG0, World.ownsRow_nil _ _ _ _, List.nodup_nil, fun k => ⟨fun h => absurd h (by simp), ?_⟩, by rw [(unhide HD).size]; simp, unhide HB0, by rw [unhide HS0]; exact Nat.le_refl _⟩
    rintro ⟨r, hr, rfl, hl, _⟩
    rw [(unhide HD).hs, List.any_eq_false] at hl
    exact absurd (decide_eq_true (rfl : r.id = r.id)) (hl r hr)
  case round =>
    clear HRG0 HB0 HS0
    obtain ⟨left, cnt, got, hrg, hown, hnd, hmem, hcnt, hB, hsz⟩ := hrel
    obtain ⟨ao, cp, rfl, hI0, _, _⟩ := hown.ints
    have HRG := hide hrg
    have HOWN := hide hown
    have HND := hide hnd
    have HMEM := hide hmem
    have HB := hide hB
    have HLE := hide hrg.left_eq
    clear hrg hown hnd hmem hB hI0
    generalize hgl : got.length = gl at *
    have HGL := hide hgl
    clear hgl
    go_wp2_with (at_next; refine wpList_next_st _ rfl _ rfl b w.heap.size n D rs (unhide HD) left cnt rfl (unhide HRG) ?_ ?_)
    · intro hc0 hl0
      have HL0 := hide hl0
      clear hl0
      have hso := hide (sort_own wr (w.heap.size + 1) (.slice ao gl cp) got (unhide HOWN) (by have := unhide HGL; omega))
      go_wp2_with fail
      refine (unhide hso).mono ?_
      rintro e w2 ⟨rfl, ⟨a1, c1, he, hI⟩, hb2⟩
      have hsort := asc_sort got ((rs.filter P).map Raw.id) (unhide HND) (ids_up rs P (unhide HUP)) (fun k => by
        rw [unhide HMEM k, List.mem_map]
        constructor
        · rintro ⟨r, hr, e, _, hp⟩
          exact ⟨r, List.mem_filter.2 ⟨hr, hp⟩, e⟩
        · rintro ⟨r, hr, e⟩
          rw [List.mem_filter] at hr
          exact ⟨r, hr.1, e, unhide HL0 _, hr.2⟩)
      have hlen2 : (rs.filter P).length = gl := by
        have := congrArg List.length hsort
        rw [List.length_mergeSort, unhide HGL, List.length_map] at this
        exact this.symm
      rw [hsort] at hI
      have HI := hide hI
      have HL2 := hide hlen2
      have HB2 := hide ((unhide HB).trans (hb2.mono (by omega)))
      simp only [Value.slice.injEq] at he
      obtain ⟨rfl, hq, rfl⟩ := he
      clear hq
      clear hI hlen2 hsort hb2 hso
      go_wp2
      go_ret
      exact ⟨ao, cp, by rw [unhide HL2]; rfl, unhide HI, fun a ha => by have := (show World.ownsRow _ _ _ _ _ _ _ from unhide HOWN).lt a.block (by rw [ha]; rfl); omega, unhide HB2⟩
    · intro x w1 cnt1 hx hlx hrg1 hlt hg1 hs1 hen
      obtain ⟨hg0', hyes, hno⟩ := got_step (unhide HUP) (unhide HMEM) hx hlx
      have hB1 : Below w.heap.size w w1 := (unhide HB).grown hg1 (by omega) (fun k hk => by cases hk; exact Nat.le_refl _)
      have hown1 : OwnI w1 (w.heap.size + 1) (.slice ao gl cp) got := by
        have h := (show World.ownsRow _ _ _ _ _ _ _ from unhide HOWN)
        have h2 := h.kept hg1 (by
          cases ho : (Value.slice ao gl cp).ownBlock with
          | none => exact .inl rfl
          | some q => exact .inr (fun e => by
              have h3 := h.lt q ho
              simp only [Option.some.injEq] at e
              omega))
        exact h2
      have HG0 := hide hg0'
      have HYES := hide hyes
      have HNO := hide hno
      have HB1 := hide hB1
      have HOWN1 := hide hown1
      have HRG1 := hide hrg1
      have hsz1 : w.heap.size + 1 ≤ w1.heap.size := by omega
      have hcl1 := hide (fun W hb => unhide HCL x hx W hb)
      clear hg0' hyes hno hB1 hown1 hrg1 hg1 HOWN HB HRG hlx
      cases hP : P x with
      | true =>
        rw [hP] at hcl1
        have HYES := hide (unhide HYES hP)
        go_wp2_with fail
        refine (unhide hcl1 _ ((unhide HB1).alloc (by omega) _)).mono ?_
        rintro e w2 ⟨rfl, hb2⟩
        have hB2 := hide ((((unhide HB1).alloc (by omega) (.cells #[.int .i64 x.id, .int .i64 x.peer, .int .i64 x.mode, .int .i64 x.seed, .string x.hv, .slice x.a0 x.idx.length x.cap, .string x.dt] 34)).trans (hb2.mono (by simp; omega))))
        have hRG2 := hide (((unhide HRG1).alloc (.cells #[.int .i64 x.id, .int .i64 x.peer, .int .i64 x.mode, .int .i64 x.seed, .string x.hv, .slice x.a0 x.idx.length x.cap, .string x.dt] 34)).kept (w' := w2) (row := none) ⟨hb2.os, hb2.tape, hb2.output, hb2.size, fun i hi _ => hb2.block i hi⟩ (by simp) (by simp))
        have hOW2 : Hid (w2.ownsRow (w.heap.size + 1) 3 1 (.slice ao gl cp) gl (ic got)) := by
          have h := (show World.ownsRow _ _ _ _ _ _ _ from unhide HOWN1)
          rw [unhide HGL] at h
          exact (h.alloc (.cells #[.int .i64 x.id, .int .i64 x.peer, .int .i64 x.mode, .int .i64 x.seed, .string x.hv, .slice x.a0 x.idx.length x.cap, .string x.dt] 34)).kept (w' := w2) (row := none) ⟨hb2.os, hb2.tape, hb2.output, hb2.size, fun i hi _ => hb2.block i hi⟩ (by cases (Value.slice ao gl cp).ownBlock <;> simp)
        have hsz2 : w.heap.size + 1 < w2.heap.size := by have := hb2.size; simp at this; omega
        clear hb2 HB1 HRG1 HOWN1 hcl1 hen
        go_wp2_with (at_builtin; refine wpList_append_own _ rfl _ _ 32 rfl (w.heap.size + 1) 3 i0 (.int .i64 0) 1 8 Try.undI hi0 hz0 hz1 hz2 rfl (by decide) _ _ _ rfl ((unhide hOW2).alloc _) ⟨w2.heap.size, 0, none⟩ 1 1 [.int .i64 x.id] rfl rfl (cell_one_new _ _ _) ?d2 ?d3 ?d4 ?d5 ?_)
        case d2 => intro u hu; simp at hu; subst hu; rfl
        case d3 => unfold maxLen; omega
        case d4 => omega
        case d5 => simp; omega
        intro v' w3 hown3 hgrow _
        have hB3 := hide (((unhide hB2).alloc (by omega) (.cells #[.int .i64 x.id] 3)).grown hgrow (by simp; omega) (fun k hk => by have := ((unhide hOW2).alloc (.cells #[.int .i64 x.id] 3)).lt k hk; omega))
        have hRG3 := hide (((unhide hRG2).alloc (.cells #[.int .i64 x.id] 3)).kept hgrow (fun e => by
            have h1 := (unhide hRG2).owns
            obtain ⟨es, cl, hbb, _⟩ := h1
            rcases (unhide hOW2).2 with ⟨h2, _⟩ | ⟨g, cap, cur, h2, _, hg, _⟩
            · simp only [Value.slice.injEq] at h2; obtain ⟨rfl, _⟩ := h2; simp [Value.ownBlock] at e
            · simp only [Value.slice.injEq] at h2; obtain ⟨rfl, _⟩ := h2; simp [Value.ownBlock] at e; subst e; rw [hbb] at hg; cases hg) (fun e => by
            have := ((unhide hOW2).alloc (.cells #[.int .i64 x.id] 3)).lt _ e.symm
            omega))
        have hOW3 : Hid (OwnI w3 (w.heap.size + 1) v' (got ++ [x.id])) := by
          show World.ownsRow _ _ _ _ _ _ _
          rw [ic_append, List.length_append, unhide HGL]
          exact hown3
        have hsz3 : w.heap.size + 1 ≤ w3.heap.size := by have := hgrow.size; simp at this; omega
        obtain ⟨a3, c3, rfl, _⟩ := (unhide hOW3).ints
        have HND3 : Hid ((got ++ [x.id]).Nodup) := by
          show List.Nodup _
          rw [List.nodup_append]
          refine ⟨unhide HND, by simp, fun a ha c hc => ?_⟩
          simp at hc
          subst hc
          rintro rfl
          exact unhide HG0 ha
        clear hown3 hgrow hB2 hRG2 hOW2
        go_wp2
        go_roundw
        case rel => exact ⟨_, cnt1, got ++ [x.id], unhide hRG3, unhide hOW3, unhide HND3, unhide HYES, by rw [List.length_append, unhide HGL]; simp; omega, unhide hB3, hsz3⟩
        case measure => rw [(unhide hRG3).left_eq, unhide HLE]; exact hlt
      | false =>
        rw [hP] at hcl1
        have HNO := hide (unhide HNO hP)
        go_wp2_with fail
        refine (unhide hcl1 _ ((unhide HB1).alloc (by omega) _)).mono ?_
        rintro e w2 ⟨rfl, hb2⟩
        have hB2 := hide ((((unhide HB1).alloc (by omega) (.cells #[.int .i64 x.id, .int .i64 x.peer, .int .i64 x.mode, .int .i64 x.seed, .string x.hv, .slice x.a0 x.idx.length x.cap, .string x.dt] 34)).trans (hb2.mono (by simp; omega))))
        have hRG2 := hide (((unhide HRG1).alloc (.cells #[.int .i64 x.id, .int .i64 x.peer, .int .i64 x.mode, .int .i64 x.seed, .string x.hv, .slice x.a0 x.idx.length x.cap, .string x.dt] 34)).kept (w' := w2) (row := none) ⟨hb2.os, hb2.tape, hb2.output, hb2.size, fun i hi _ => hb2.block i hi⟩ (by simp) (by simp))
        have hOW2 : Hid (OwnI w2 (w.heap.size + 1) (.slice ao gl cp) got) := by
          have h := (show World.ownsRow _ _ _ _ _ _ _ from unhide HOWN1)
          exact (h.alloc (.cells #[.int .i64 x.id, .int .i64 x.peer, .int .i64 x.mode, .int .i64 x.seed, .string x.hv, .slice x.a0 x.idx.length x.cap, .string x.dt] 34)).kept (w' := w2) (row := none) ⟨hb2.os, hb2.tape, hb2.output, hb2.size, fun i hi _ => hb2.block i hi⟩ (by cases (Value.slice ao gl cp).ownBlock <;> simp)
        have hsz2 : w.heap.size + 1 ≤ w2.heap.size := by have := hb2.size; simp at this; omega
        clear hb2 HB1 HRG1 HOWN1 hcl1 hen
        go_wp2
        go_roundw
        case rel => exact ⟨_, cnt1, got, unhide hRG2, unhide hOW2, unhide HND, unhide HNO, by have := unhide HGL; omega, unhide hB2, hsz2⟩
        case measure => rw [(unhide hRG2).left_eq, unhide HLE]; exact hlt

set_option maxRecDepth 100000 in
set_option maxHeartbeats 2000000 in
theorem pick_of (g : Nat) (p : Nat) (room last : Int) (b n : Nat) (D : DataW Value) (rs : List Raw) (P : Raw → Bool) (hD : MapIs D rs) (w : World) (hblk : w.heap[p]? = some (.cells #[.int .i64 room, .int .i64 last, .map (some b)] 69 (0, 0))) (hM : StMap w b n D) (hup : rs.Pairwise fun a b => a.id < b.id) (hlen : rs.length ≤ 1000)
    (hcl : ∀ r ∈ rs, ∀ W, Below w.heap.size w W → Calls Try.prog 39 #[rawV r, .pointer (some ⟨g, 0, none⟩)] W fun e w' => e = .returned (.bool (P r)) ∧ Below W.heap.size W w') :
    Calls Try.prog 37 #[.pointer (some ⟨p, 0, none⟩), .func (.func 39) #[] #[.pointer (some ⟨g, 0, none⟩)]] w fun e w' => ∃ a0 c, e = .returned (.slice a0 (rs.filter P).length c) ∧ Ints w' a0 ((rs.filter P).map Raw.id) ∧ (∀ a, a0 = some a → w.heap.size ≤ a.block) ∧ Below w.heap.size w w' := by
  obtain ⟨i0, hi0, hz0, hz1, hz2⟩ := info_parts Try.infoI
  have hc2 : w.cell? ⟨p, 2, none⟩ = some (.map (some b)) := by rw [cell_of_row _ _ 2 _ _ (0, 0) hblk]; rfl
  have HCL := hide hcl
  have HUP := hide hup
  have HD := hide hD
  have HM := hide hM
  clear hcl hup hD hM hblk
  go_enter Try.func37, Try.ntmps37
  go_wp2_with (at_range; refine wpList_range_own _ rfl _ 67 rfl 3 34 keyed Try.underlying67 stR b n D rfl (unhide HM) ?_; intro w0 hrg0 hg0 hs0)
  have hb0 : Below w.heap.size w w0 := (Below.refl _ _).grown hg0 (Nat.le_refl _) (fun k hk => by cases hk)
  have HRG0 := hide hrg0
  have HB0 := hide hb0
  have HS0 := hide hs0
  clear hrg0 hb0 hg0 hs0 hc2
  go_frame
  go_loopw [5] (fun v wr => ∃ left cnt got, StRg wr b w.heap.size n D left cnt ∧ OwnI wr (w.heap.size + 1) v got ∧ got.Nodup ∧ (∀ k, k ∈ got ↔ ∃ r ∈ rs, r.id = k ∧ left (kI k) = false ∧ P r = true) ∧ got.length + cnt ≤ rs.length ∧ Below w.heap.size w wr ∧ w.heap.size + 1 ≤ wr.heap.size) (fun _ wr => wr.rangeLeft b w.heap.size)
  case atStart =>
    refine ⟨_, _, [], unhide HRG0, World.ownsRow_nil _ _ _ _, List.nodup_nil, fun k => ⟨fun h => absurd h (by simp), ?_⟩, by rw [(unhide HD).size]; simp, unhide HB0, by rw [unhide HS0]; exact Nat.le_refl _⟩
    rintro ⟨r, hr, rfl, hl, _⟩
    rw [(unhide HD).hs, List.any_eq_false] at hl
    exact absurd (decide_eq_true (rfl : r.id = r.id)) (hl r hr)
  case round =>
    clear HRG0 HB0 HS0
    obtain ⟨left, cnt, got, hrg, hown, hnd, hmem, hcnt, hB, hsz⟩ := hrel
    obtain ⟨ao, cp, rfl, hI0, _, _⟩ := hown.ints
    have HRG := hide hrg
    have HOWN := hide hown
    have HND := hide hnd
    have HMEM := hide hmem
    have HB := hide hB
    have HLE := hide hrg.left_eq
    clear hrg hown hnd hmem hB hI0
    generalize hgl : got.length = gl at *
    have HGL := hide hgl
    clear hgl
    go_wp2_with (at_next; refine wpList_next_st _ rfl _ rfl b w.heap.size n D rs (unhide HD) left cnt rfl (unhide HRG) ?_ ?_)
    · intro hc0 hl0
      have HL0 := hide hl0
      clear hl0
      have hso := hide (sort_own wr (w.heap.size + 1) (.slice ao gl cp) got (unhide HOWN) (by have := unhide HGL; omega))
      go_wp2_with fail
      refine (unhide hso).mono ?_
      rintro e w2 ⟨rfl, ⟨a1, c1, he, hI⟩, hb2⟩
      have hsort := asc_sort got ((rs.filter P).map Raw.id) (unhide HND) (ids_up rs P (unhide HUP)) (fun k => by
        rw [unhide HMEM k, List.mem_map]
        constructor
        · rintro ⟨r, hr, e, _, hp⟩
          exact ⟨r, List.mem_filter.2 ⟨hr, hp⟩, e⟩
        · rintro ⟨r, hr, e⟩
          rw [List.mem_filter] at hr
          exact ⟨r, hr.1, e, unhide HL0 _, hr.2⟩)
      have hlen2 : (rs.filter P).length = gl := by
        have := congrArg List.length hsort
        rw [List.length_mergeSort, unhide HGL, List.length_map] at this
        exact this.symm
      rw [hsort] at hI
      have HI := hide hI
      have HL2 := hide hlen2
      have HB2 := hide ((unhide HB).trans (hb2.mono (by omega)))
      simp only [Value.slice.injEq] at he
      obtain ⟨rfl, hq, rfl⟩ := he
      clear hq
      clear hI hlen2 hsort hb2 hso
      go_wp2
      go_ret
      exact ⟨ao, cp, by rw [unhide HL2]; rfl, unhide HI, fun a ha => by have := (show World.ownsRow _ _ _ _ _ _ _ from unhide HOWN).lt a.block (by rw [ha]; rfl); omega, unhide HB2⟩
    · intro x w1 cnt1 hx hlx hrg1 hlt hg1 hs1 hen
      obtain ⟨hg0', hyes, hno⟩ := got_step (unhide HUP) (unhide HMEM) hx hlx
      have hB1 : Below w.heap.size w w1 := (unhide HB).grown hg1 (by omega) (fun k hk => by cases hk; exact Nat.le_refl _)
      have hown1 : OwnI w1 (w.heap.size + 1) (.slice ao gl cp) got := by
        have h := (show World.ownsRow _ _ _ _ _ _ _ from unhide HOWN)
        have h2 := h.kept hg1 (by
          cases ho : (Value.slice ao gl cp).ownBlock with
          | none => exact .inl rfl
          | some q => exact .inr (fun e => by
              have h3 := h.lt q ho
              simp only [Option.some.injEq] at e
              omega))
        exact h2
      have HG0 := hide hg0'
      have HYES := hide hyes
      have HNO := hide hno
      have HB1 := hide hB1
      have HOWN1 := hide hown1
      have HRG1 := hide hrg1
      have hsz1 : w.heap.size + 1 ≤ w1.heap.size := by omega
      have hcl1 := hide (fun W hb => unhide HCL x hx W hb)
      clear hg0' hyes hno hB1 hown1 hrg1 hg1 HOWN HB HRG hlx
      cases hP : P x with
      | true =>
        rw [hP] at hcl1
        have HYES := hide (unhide HYES hP)
        go_wp2_with fail
        refine (unhide hcl1 _ ((unhide HB1).alloc (by omega) _)).mono ?_
        rintro e w2 ⟨rfl, hb2⟩
        have hB2 := hide ((((unhide HB1).alloc (by omega) (.cells #[.int .i64 x.id, .int .i64 x.peer, .int .i64 x.mode, .int .i64 x.seed, .string x.hv, .slice x.a0 x.idx.length x.cap, .string x.dt] 34)).trans (hb2.mono (by simp; omega))))
        have hRG2 := hide (((unhide HRG1).alloc (.cells #[.int .i64 x.id, .int .i64 x.peer, .int .i64 x.mode, .int .i64 x.seed, .string x.hv, .slice x.a0 x.idx.length x.cap, .string x.dt] 34)).kept (w' := w2) (row := none) ⟨hb2.os, hb2.tape, hb2.output, hb2.size, fun i hi _ => hb2.block i hi⟩ (by simp) (by simp))
        have hOW2 : Hid (w2.ownsRow (w.heap.size + 1) 3 1 (.slice ao gl cp) gl (ic got)) := by
          have h := (show World.ownsRow _ _ _ _ _ _ _ from unhide HOWN1)
          rw [unhide HGL] at h
          exact (h.alloc (.cells #[.int .i64 x.id, .int .i64 x.peer, .int .i64 x.mode, .int .i64 x.seed, .string x.hv, .slice x.a0 x.idx.length x.cap, .string x.dt] 34)).kept (w' := w2) (row := none) ⟨hb2.os, hb2.tape, hb2.output, hb2.size, fun i hi _ => hb2.block i hi⟩ (by cases (Value.slice ao gl cp).ownBlock <;> simp)
        have hsz2 : w.heap.size + 1 < w2.heap.size := by have := hb2.size; simp at this; omega
        clear hb2 HB1 HRG1 HOWN1 hcl1 hen
        go_wp2_with (at_builtin; refine wpList_append_own _ rfl _ _ 32 rfl (w.heap.size + 1) 3 i0 (.int .i64 0) 1 8 Try.undI hi0 hz0 hz1 hz2 rfl (by decide) _ _ _ rfl ((unhide hOW2).alloc _) ⟨w2.heap.size, 0, none⟩ 1 1 [.int .i64 x.id] rfl rfl (cell_one_new _ _ _) ?d2 ?d3 ?d4 ?d5 ?_)
        case d2 => intro u hu; simp at hu; subst hu; rfl
        case d3 => unfold maxLen; omega
        case d4 => omega
        case d5 => simp; omega
        intro v' w3 hown3 hgrow _
        have hB3 := hide (((unhide hB2).alloc (by omega) (.cells #[.int .i64 x.id] 3)).grown hgrow (by simp; omega) (fun k hk => by have := ((unhide hOW2).alloc (.cells #[.int .i64 x.id] 3)).lt k hk; omega))
        have hRG3 := hide (((unhide hRG2).alloc (.cells #[.int .i64 x.id] 3)).kept hgrow (fun e => by
            have h1 := (unhide hRG2).owns
            obtain ⟨es, cl, hbb, _⟩ := h1
            rcases (unhide hOW2).2 with ⟨h2, _⟩ | ⟨g, cap, cur, h2, _, hg, _⟩
            · simp only [Value.slice.injEq] at h2; obtain ⟨rfl, _⟩ := h2; simp [Value.ownBlock] at e
            · simp only [Value.slice.injEq] at h2; obtain ⟨rfl, _⟩ := h2; simp [Value.ownBlock] at e; subst e; rw [hbb] at hg; cases hg) (fun e => by
            have := ((unhide hOW2).alloc (.cells #[.int .i64 x.id] 3)).lt _ e.symm
            omega))
        have hOW3 : Hid (OwnI w3 (w.heap.size + 1) v' (got ++ [x.id])) := by
          show World.ownsRow _ _ _ _ _ _ _
          rw [ic_append, List.length_append, unhide HGL]
          exact hown3
        have hsz3 : w.heap.size + 1 ≤ w3.heap.size := by have := hgrow.size; simp at this; omega
        obtain ⟨a3, c3, rfl, _⟩ := (unhide hOW3).ints
        have HND3 : Hid ((got ++ [x.id]).Nodup) := by
          show List.Nodup _
          rw [List.nodup_append]
          refine ⟨unhide HND, by simp, fun a ha c hc => ?_⟩
          simp at hc
          subst hc
          rintro rfl
          exact unhide HG0 ha
        clear hown3 hgrow hB2 hRG2 hOW2
        go_wp2
        go_roundw
        case rel => exact ⟨_, cnt1, got ++ [x.id], unhide hRG3, unhide hOW3, unhide HND3, unhide HYES, by rw [List.length_append, unhide HGL]; simp; omega, unhide hB3, hsz3⟩
        case measure => rw [(unhide hRG3).left_eq, unhide HLE]; exact hlt
      | false =>
        rw [hP] at hcl1
        have HNO := hide (unhide HNO hP)
        go_wp2_with fail
        refine (unhide hcl1 _ ((unhide HB1).alloc (by omega) _)).mono ?_
        rintro e w2 ⟨rfl, hb2⟩
        have hB2 := hide ((((unhide HB1).alloc (by omega) (.cells #[.int .i64 x.id, .int .i64 x.peer, .int .i64 x.mode, .int .i64 x.seed, .string x.hv, .slice x.a0 x.idx.length x.cap, .string x.dt] 34)).trans (hb2.mono (by simp; omega))))
        have hRG2 := hide (((unhide HRG1).alloc (.cells #[.int .i64 x.id, .int .i64 x.peer, .int .i64 x.mode, .int .i64 x.seed, .string x.hv, .slice x.a0 x.idx.length x.cap, .string x.dt] 34)).kept (w' := w2) (row := none) ⟨hb2.os, hb2.tape, hb2.output, hb2.size, fun i hi _ => hb2.block i hi⟩ (by simp) (by simp))
        have hOW2 : Hid (OwnI w2 (w.heap.size + 1) (.slice ao gl cp) got) := by
          have h := (show World.ownsRow _ _ _ _ _ _ _ from unhide HOWN1)
          exact (h.alloc (.cells #[.int .i64 x.id, .int .i64 x.peer, .int .i64 x.mode, .int .i64 x.seed, .string x.hv, .slice x.a0 x.idx.length x.cap, .string x.dt] 34)).kept (w' := w2) (row := none) ⟨hb2.os, hb2.tape, hb2.output, hb2.size, fun i hi _ => hb2.block i hi⟩ (by cases (Value.slice ao gl cp).ownBlock <;> simp)
        have hsz2 : w.heap.size + 1 ≤ w2.heap.size := by have := hb2.size; simp at this; omega
        clear hb2 HB1 HRG1 HOWN1 hcl1 hen
        go_wp2
        go_roundw
        case rel => exact ⟨_, cnt1, got, unhide hRG2, unhide hOW2, unhide HND, unhide HNO, by have := unhide HGL; omega, unhide hB2, hsz2⟩
        case measure => rw [(unhide hRG2).left_eq, unhide HLE]; exact hlt

set_option maxRecDepth 100000 in
set_option maxHeartbeats 2000000 in
theorem pick_with (g : Nat) (p : Nat) (room last : Int) (b n : Nat) (D : DataW Value) (rs : List Raw) (P : Raw → Bool) (hD : MapIs D rs) (w : World) (hblk : w.heap[p]? = some (.cells #[.int .i64 room, .int .i64 last, .map (some b)] 69 (0, 0))) (hM : StMap w b n D) (hup : rs.Pairwise fun a b => a.id < b.id) (hlen : rs.length ≤ 1000)
    (hcl : ∀ r ∈ rs, ∀ W, Below w.heap.size w W → Calls Try.prog 40 #[rawV r, .pointer (some ⟨g, 0, none⟩)] W fun e w' => e = .returned (.bool (P r)) ∧ Below W.heap.size W w') :
    Calls Try.prog 37 #[.pointer (some ⟨p, 0, none⟩), .func (.func 40) #[] #[.pointer (some ⟨g, 0, none⟩)]] w fun e w' => ∃ a0 c, e = .returned (.slice a0 (rs.filter P).length c) ∧ Ints w' a0 ((rs.filter P).map Raw.id) ∧ (∀ a, a0 = some a → w.heap.size ≤ a.block) ∧ Below w.heap.size w w' := by
  obtain ⟨i0, hi0, hz0, hz1, hz2⟩ := info_parts Try.infoI
  have hc2 : w.cell? ⟨p, 2, none⟩ = some (.map (some b)) := by rw [cell_of_row _ _ 2 _ _ (0, 0) hblk]; rfl
  have HCL := hide hcl
  have HUP := hide hup
  have HD := hide hD
  have HM := hide hM
  clear hcl hup hD hM hblk
  go_enter Try.func37, Try.ntmps37
  go_wp2_with (at_range; refine wpList_range_own _ rfl _ 67 rfl 3 34 keyed Try.underlying67 stR b n D rfl (unhide HM) ?_; intro w0 hrg0 hg0 hs0)
  have hb0 : Below w.heap.size w w0 := (Below.refl _ _).grown hg0 (Nat.le_refl _) (fun k hk => by cases hk)
  have HRG0 := hide hrg0
  have HB0 := hide hb0
  have HS0 := hide hs0
  clear hrg0 hb0 hg0 hs0 hc2
  go_frame
  go_loopw [5] (fun v wr => ∃ left cnt got, StRg wr b w.heap.size n D left cnt ∧ OwnI wr (w.heap.size + 1) v got ∧ got.Nodup ∧ (∀ k, k ∈ got ↔ ∃ r ∈ rs, r.id = k ∧ left (kI k) = false ∧ P r = true) ∧ got.length + cnt ≤ rs.length ∧ Below w.heap.size w wr ∧ w.heap.size + 1 ≤ wr.heap.size) (fun _ wr => wr.rangeLeft b w.heap.size)
  case atStart =>
    refine ⟨_, _, [], unhide HRG0, World.ownsRow_nil _ _ _ _, List.nodup_nil, fun k => ⟨fun h => absurd h (by simp), ?_⟩, by rw [(unhide HD).size]; simp, unhide HB0, by rw [unhide HS0]; exact Nat.le_refl _⟩
    rintro ⟨r, hr, rfl, hl, _⟩
    rw [(unhide HD).hs, List.any_eq_false] at hl
    exact absurd (decide_eq_true (rfl : r.id = r.id)) (hl r hr)
  case round =>
    clear HRG0 HB0 HS0
    obtain ⟨left, cnt, got, hrg, hown, hnd, hmem, hcnt, hB, hsz⟩ := hrel
    obtain ⟨ao, cp, rfl, hI0, _, _⟩ := hown.ints
    have HRG := hide hrg
    have HOWN := hide hown
    have HND := hide hnd
    have HMEM := hide hmem
    have HB := hide hB
    have HLE := hide hrg.left_eq
    clear hrg hown hnd hmem hB hI0
    generalize hgl : got.length = gl at *
    have HGL := hide hgl
    clear hgl
    go_wp2_with (at_next; refine wpList_next_st _ rfl _ rfl b w.heap.size n D rs (unhide HD) left cnt rfl (unhide HRG) ?_ ?_)
    · intro hc0 hl0
      have HL0 := hide hl0
      clear hl0
      have hso := hide (sort_own wr (w.heap.size + 1) (.slice ao gl cp) got (unhide HOWN) (by have := unhide HGL; omega))
      go_wp2_with fail
      refine (unhide hso).mono ?_
      rintro e w2 ⟨rfl, ⟨a1, c1, he, hI⟩, hb2⟩
      have hsort := asc_sort got ((rs.filter P).map Raw.id) (unhide HND) (ids_up rs P (unhide HUP)) (fun k => by
        rw [unhide HMEM k, List.mem_map]
        constructor
        · rintro ⟨r, hr, e, _, hp⟩
          exact ⟨r, List.mem_filter.2 ⟨hr, hp⟩, e⟩
        · rintro ⟨r, hr, e⟩
          rw [List.mem_filter] at hr
          exact ⟨r, hr.1, e, unhide HL0 _, hr.2⟩)
      have hlen2 : (rs.filter P).length = gl := by
        have := congrArg List.length hsort
        rw [List.length_mergeSort, unhide HGL, List.length_map] at this
        exact this.symm
      rw [hsort] at hI
      have HI := hide hI
      have HL2 := hide hlen2
      have HB2 := hide ((unhide HB).trans (hb2.mono (by omega)))
      simp only [Value.slice.injEq] at he
      obtain ⟨rfl, hq, rfl⟩ := he
      clear hq
      clear hI hlen2 hsort hb2 hso
      go_wp2
      go_ret
      exact ⟨ao, cp, by rw [unhide HL2]; rfl, unhide HI, fun a ha => by have := (show World.ownsRow _ _ _ _ _ _ _ from unhide HOWN).lt a.block (by rw [ha]; rfl); omega, unhide HB2⟩
    · intro x w1 cnt1 hx hlx hrg1 hlt hg1 hs1 hen
      obtain ⟨hg0', hyes, hno⟩ := got_step (unhide HUP) (unhide HMEM) hx hlx
      have hB1 : Below w.heap.size w w1 := (unhide HB).grown hg1 (by omega) (fun k hk => by cases hk; exact Nat.le_refl _)
      have hown1 : OwnI w1 (w.heap.size + 1) (.slice ao gl cp) got := by
        have h := (show World.ownsRow _ _ _ _ _ _ _ from unhide HOWN)
        have h2 := h.kept hg1 (by
          cases ho : (Value.slice ao gl cp).ownBlock with
          | none => exact .inl rfl
          | some q => exact .inr (fun e => by
              have h3 := h.lt q ho
              simp only [Option.some.injEq] at e
              omega))
        exact h2
      have HG0 := hide hg0'
      have HYES := hide hyes
      have HNO := hide hno
      have HB1 := hide hB1
      have HOWN1 := hide hown1
      have HRG1 := hide hrg1
      have hsz1 : w.heap.size + 1 ≤ w1.heap.size := by omega
      have hcl1 := hide (fun W hb => unhide HCL x hx W hb)
      clear hg0' hyes hno hB1 hown1 hrg1 hg1 HOWN HB HRG hlx
      cases hP : P x with
      | true =>
        rw [hP] at hcl1
        have HYES := hide (unhide HYES hP)
        go_wp2_with fail
        refine (unhide hcl1 _ ((unhide HB1).alloc (by omega) _)).mono ?_
        rintro e w2 ⟨rfl, hb2⟩
        have hB2 := hide ((((unhide HB1).alloc (by omega) (.cells #[.int .i64 x.id, .int .i64 x.peer, .int .i64 x.mode, .int .i64 x.seed, .string x.hv, .slice x.a0 x.idx.length x.cap, .string x.dt] 34)).trans (hb2.mono (by simp; omega))))
        have hRG2 := hide (((unhide HRG1).alloc (.cells #[.int .i64 x.id, .int .i64 x.peer, .int .i64 x.mode, .int .i64 x.seed, .string x.hv, .slice x.a0 x.idx.length x.cap, .string x.dt] 34)).kept (w' := w2) (row := none) ⟨hb2.os, hb2.tape, hb2.output, hb2.size, fun i hi _ => hb2.block i hi⟩ (by simp) (by simp))
        have hOW2 : Hid (w2.ownsRow (w.heap.size + 1) 3 1 (.slice ao gl cp) gl (ic got)) := by
          have h := (show World.ownsRow _ _ _ _ _ _ _ from unhide HOWN1)
          rw [unhide HGL] at h
          exact (h.alloc (.cells #[.int .i64 x.id, .int .i64 x.peer, .int .i64 x.mode, .int .i64 x.seed, .string x.hv, .slice x.a0 x.idx.length x.cap, .string x.dt] 34)).kept (w' := w2) (row := none) ⟨hb2.os, hb2.tape, hb2.output, hb2.size, fun i hi _ => hb2.block i hi⟩ (by cases (Value.slice ao gl cp).ownBlock <;> simp)
        have hsz2 : w.heap.size + 1 < w2.heap.size := by have := hb2.size; simp at this; omega
        clear hb2 HB1 HRG1 HOWN1 hcl1 hen
        go_wp2_with (at_builtin; refine wpList_append_own _ rfl _ _ 32 rfl (w.heap.size + 1) 3 i0 (.int .i64 0) 1 8 Try.undI hi0 hz0 hz1 hz2 rfl (by decide) _ _ _ rfl ((unhide hOW2).alloc _) ⟨w2.heap.size, 0, none⟩ 1 1 [.int .i64 x.id] rfl rfl (cell_one_new _ _ _) ?d2 ?d3 ?d4 ?d5 ?_)
        case d2 => intro u hu; simp at hu; subst hu; rfl
        case d3 => unfold maxLen; omega
        case d4 => omega
        case d5 => simp; omega
        intro v' w3 hown3 hgrow _
        have hB3 := hide (((unhide hB2).alloc (by omega) (.cells #[.int .i64 x.id] 3)).grown hgrow (by simp; omega) (fun k hk => by have := ((unhide hOW2).alloc (.cells #[.int .i64 x.id] 3)).lt k hk; omega))
        have hRG3 := hide (((unhide hRG2).alloc (.cells #[.int .i64 x.id] 3)).kept hgrow (fun e => by
            have h1 := (unhide hRG2).owns
            obtain ⟨es, cl, hbb, _⟩ := h1
            rcases (unhide hOW2).2 with ⟨h2, _⟩ | ⟨g, cap, cur, h2, _, hg, _⟩
            · simp only [Value.slice.injEq] at h2; obtain ⟨rfl, _⟩ := h2; simp [Value.ownBlock] at e
            · simp only [Value.slice.injEq] at h2; obtain ⟨rfl, _⟩ := h2; simp [Value.ownBlock] at e; subst e; rw [hbb] at hg; cases hg) (fun e => by
            have := ((unhide hOW2).alloc (.cells #[.int .i64 x.id] 3)).lt _ e.symm
            omega))
        have hOW3 : Hid (OwnI w3 (w.heap.size + 1) v' (got ++ [x.id])) := by
          show World.ownsRow _ _ _ _ _ _ _
          rw [ic_append, List.length_append, unhide HGL]
          exact hown3
        have hsz3 : w.heap.size + 1 ≤ w3.heap.size := by have := hgrow.size; simp at this; omega
        obtain ⟨a3, c3, rfl, _⟩ := (unhide hOW3).ints
        have HND3 : Hid ((got ++ [x.id]).Nodup) := by
          show List.Nodup _
          rw [List.nodup_append]
          refine ⟨unhide HND, by simp, fun a ha c hc => ?_⟩
          simp at hc
          subst hc
          rintro rfl
          exact unhide HG0 ha
        clear hown3 hgrow hB2 hRG2 hOW2
        go_wp2
        go_roundw
        case rel => exact ⟨_, cnt1, got ++ [x.id], unhide hRG3, unhide hOW3, unhide HND3, unhide HYES, by rw [List.length_append, unhide HGL]; simp; omega, unhide hB3, hsz3⟩
        case measure => rw [(unhide hRG3).left_eq, unhide HLE]; exact hlt
      | false =>
        rw [hP] at hcl1
        have HNO := hide (unhide HNO hP)
        go_wp2_with fail
        refine (unhide hcl1 _ ((unhide HB1).alloc (by omega) _)).mono ?_
        rintro e w2 ⟨rfl, hb2⟩
        have hB2 := hide ((((unhide HB1).alloc (by omega) (.cells #[.int .i64 x.id, .int .i64 x.peer, .int .i64 x.mode, .int .i64 x.seed, .string x.hv, .slice x.a0 x.idx.length x.cap, .string x.dt] 34)).trans (hb2.mono (by simp; omega))))
        have hRG2 := hide (((unhide HRG1).alloc (.cells #[.int .i64 x.id, .int .i64 x.peer, .int .i64 x.mode, .int .i64 x.seed, .string x.hv, .slice x.a0 x.idx.length x.cap, .string x.dt] 34)).kept (w' := w2) (row := none) ⟨hb2.os, hb2.tape, hb2.output, hb2.size, fun i hi _ => hb2.block i hi⟩ (by simp) (by simp))
        have hOW2 : Hid (OwnI w2 (w.heap.size + 1) (.slice ao gl cp) got) := by
          have h := (show World.ownsRow _ _ _ _ _ _ _ from unhide HOWN1)
          exact (h.alloc (.cells #[.int .i64 x.id, .int .i64 x.peer, .int .i64 x.mode, .int .i64 x.seed, .string x.hv, .slice x.a0 x.idx.length x.cap, .string x.dt] 34)).kept (w' := w2) (row := none) ⟨hb2.os, hb2.tape, hb2.output, hb2.size, fun i hi _ => hb2.block i hi⟩ (by cases (Value.slice ao gl cp).ownBlock <;> simp)
        have hsz2 : w.heap.size + 1 ≤ w2.heap.size := by have := hb2.size; simp at this; omega
        clear hb2 HB1 HRG1 HOWN1 hcl1 hen
        go_wp2
        go_roundw
        case rel => exact ⟨_, cnt1, got, unhide hRG2, unhide hOW2, unhide HND, unhide HNO, by have := unhide HGL; omega, unhide hB2, hsz2⟩
        case measure => rw [(unhide hRG2).left_eq, unhide HLE]; exact hlt

set_option maxRecDepth 100000 in
set_option maxHeartbeats 2000000 in
theorem pick_has (g h : Nat) (p : Nat) (room last : Int) (b n : Nat) (D : DataW Value) (rs : List Raw) (P : Raw → Bool) (hD : MapIs D rs) (w : World) (hblk : w.heap[p]? = some (.cells #[.int .i64 room, .int .i64 last, .map (some b)] 69 (0, 0))) (hM : StMap w b n D) (hup : rs.Pairwise fun a b => a.id < b.id) (hlen : rs.length ≤ 1000)
    (hcl : ∀ r ∈ rs, ∀ W, Below w.heap.size w W → Calls Try.prog 45 #[rawV r, .pointer (some ⟨g, 0, none⟩), .pointer (some ⟨h, 0, none⟩)] W fun e w' => e = .returned (.bool (P r)) ∧ Below W.heap.size W w') :
    Calls Try.prog 37 #[.pointer (some ⟨p, 0, none⟩), .func (.func 45) #[] #[.pointer (some ⟨g, 0, none⟩), .pointer (some ⟨h, 0, none⟩)]] w fun e w' => ∃ a0 c, e = .returned (.slice a0 (rs.filter P).length c) ∧ Ints w' a0 ((rs.filter P).map Raw.id) ∧ (∀ a, a0 = some a → w.heap.size ≤ a.block) ∧ Below w.heap.size w w' := by
  obtain ⟨i0, hi0, hz0, hz1, hz2⟩ := info_parts Try.infoI
  have hc2 : w.cell? ⟨p, 2, none⟩ = some (.map (some b)) := by rw [cell_of_row _ _ 2 _ _ (0, 0) hblk]; rfl
  have HCL := hide hcl
  have HUP := hide hup
  have HD := hide hD
  have HM := hide hM
  clear hcl hup hD hM hblk
  go_enter Try.func37, Try.ntmps37
  go_wp2_with (at_range; refine wpList_range_own _ rfl _ 67 rfl 3 34 keyed Try.underlying67 stR b n D rfl (unhide HM) ?_; intro w0 hrg0 hg0 hs0)
  have hb0 : Below w.heap.size w w0 := (Below.refl _ _).grown hg0 (Nat.le_refl _) (fun k hk => by cases hk)
  have HRG0 := hide hrg0
  have HB0 := hide hb0
  have HS0 := hide hs0
  clear hrg0 hb0 hg0 hs0 hc2
  go_frame
  go_loopw [5] (fun v wr => ∃ left cnt got, StRg wr b w.heap.size n D left cnt ∧ OwnI wr (w.heap.size + 1) v got ∧ got.Nodup ∧ (∀ k, k ∈ got ↔ ∃ r ∈ rs, r.id = k ∧ left (kI k) = false ∧ P r = true) ∧ got.length + cnt ≤ rs.length ∧ Below w.heap.size w wr ∧ w.heap.size + 1 ≤ wr.heap.size) (fun _ wr => wr.rangeLeft b w.heap.size)
  case atStart =>
    refine ⟨_, _, [], unhide HRG0, World.ownsRow_nil _ _ _ _, List.nodup_nil, fun k => ⟨fun h => absurd h (by simp), ?_⟩, by rw [(unhide HD).size]; simp, unhide HB0, by rw [unhide HS0]; exact Nat.le_refl _⟩
    rintro ⟨r, hr, rfl, hl, _⟩
    rw [(unhide HD).hs, List.any_eq_false] at hl
    exact absurd (decide_eq_true (rfl : r.id = r.id)) (hl r hr)
  case round =>
    clear HRG0 HB0 HS0
    obtain ⟨left, cnt, got, hrg, hown, hnd, hmem, hcnt, hB, hsz⟩ := hrel
    obtain ⟨ao, cp, rfl, hI0, _, _⟩ := hown.ints
    have HRG := hide hrg
    have HOWN := hide hown
    have HND := hide hnd
    have HMEM := hide hmem
    have HB := hide hB
    have HLE := hide hrg.left_eq
    clear hrg hown hnd hmem hB hI0
    generalize hgl : got.length = gl at *
    have HGL := hide hgl
    clear hgl
    go_wp2_with (at_next; refine wpList_next_st _ rfl _ rfl b w.heap.size n D rs (unhide HD) left cnt rfl (unhide HRG) ?_ ?_)
    · intro hc0 hl0
      have HL0 := hide hl0
      clear hl0
      have hso := hide (sort_own wr (w.heap.size + 1) (.slice ao gl cp) got (unhide HOWN) (by have := unhide HGL; omega))
      go_wp2_with fail
      refine (unhide hso).mono ?_
      rintro e w2 ⟨rfl, ⟨a1, c1, he, hI⟩, hb2⟩
      have hsort := asc_sort got ((rs.filter P).map Raw.id) (unhide HND) (ids_up rs P (unhide HUP)) (fun k => by
        rw [unhide HMEM k, List.mem_map]
        constructor
        · rintro ⟨r, hr, e, _, hp⟩
          exact ⟨r, List.mem_filter.2 ⟨hr, hp⟩, e⟩
        · rintro ⟨r, hr, e⟩
          rw [List.mem_filter] at hr
          exact ⟨r, hr.1, e, unhide HL0 _, hr.2⟩)
      have hlen2 : (rs.filter P).length = gl := by
        have := congrArg List.length hsort
        rw [List.length_mergeSort, unhide HGL, List.length_map] at this
        exact this.symm
      rw [hsort] at hI
      have HI := hide hI
      have HL2 := hide hlen2
      have HB2 := hide ((unhide HB).trans (hb2.mono (by omega)))
      simp only [Value.slice.injEq] at he
      obtain ⟨rfl, hq, rfl⟩ := he
      clear hq
      clear hI hlen2 hsort hb2 hso
      go_wp2
      go_ret
      exact ⟨ao, cp, by rw [unhide HL2]; rfl, unhide HI, fun a ha => by have := (show World.ownsRow _ _ _ _ _ _ _ from unhide HOWN).lt a.block (by rw [ha]; rfl); omega, unhide HB2⟩
    · intro x w1 cnt1 hx hlx hrg1 hlt hg1 hs1 hen
      obtain ⟨hg0', hyes, hno⟩ := got_step (unhide HUP) (unhide HMEM) hx hlx
      have hB1 : Below w.heap.size w w1 := (unhide HB).grown hg1 (by omega) (fun k hk => by cases hk; exact Nat.le_refl _)
      have hown1 : OwnI w1 (w.heap.size + 1) (.slice ao gl cp) got := by
        have h := (show World.ownsRow _ _ _ _ _ _ _ from unhide HOWN)
        have h2 := h.kept hg1 (by
          cases ho : (Value.slice ao gl cp).ownBlock with
          | none => exact .inl rfl
          | some q => exact .inr (fun e => by
              have h3 := h.lt q ho
              simp only [Option.some.injEq] at e
              omega))
        exact h2
      have HG0 := hide hg0'
      have HYES := hide hyes
      have HNO := hide hno
      have HB1 := hide hB1
      have HOWN1 := hide hown1
      have HRG1 := hide hrg1
      have hsz1 : w.heap.size + 1 ≤ w1.heap.size := by omega
      have hcl1 := hide (fun W hb => unhide HCL x hx W hb)
      clear hg0' hyes hno hB1 hown1 hrg1 hg1 HOWN HB HRG hlx
      cases hP : P x with
      | true =>
        rw [hP] at hcl1
        have HYES := hide (unhide HYES hP)
        go_wp2_with fail
        refine (unhide hcl1 _ ((unhide HB1).alloc (by omega) _)).mono ?_
        rintro e w2 ⟨rfl, hb2⟩
        have hB2 := hide ((((unhide HB1).alloc (by omega) (.cells #[.int .i64 x.id, .int .i64 x.peer, .int .i64 x.mode, .int .i64 x.seed, .string x.hv, .slice x.a0 x.idx.length x.cap, .string x.dt] 34)).trans (hb2.mono (by simp; omega))))
        have hRG2 := hide (((unhide HRG1).alloc (.cells #[.int .i64 x.id, .int .i64 x.peer, .int .i64 x.mode, .int .i64 x.seed, .string x.hv, .slice x.a0 x.idx.length x.cap, .string x.dt] 34)).kept (w' := w2) (row := none) ⟨hb2.os, hb2.tape, hb2.output, hb2.size, fun i hi _ => hb2.block i hi⟩ (by simp) (by simp))
        have hOW2 : Hid (w2.ownsRow (w.heap.size + 1) 3 1 (.slice ao gl cp) gl (ic got)) := by
          have h := (show World.ownsRow _ _ _ _ _ _ _ from unhide HOWN1)
          rw [unhide HGL] at h
          exact (h.alloc (.cells #[.int .i64 x.id, .int .i64 x.peer, .int .i64 x.mode, .int .i64 x.seed, .string x.hv, .slice x.a0 x.idx.length x.cap, .string x.dt] 34)).kept (w' := w2) (row := none) ⟨hb2.os, hb2.tape, hb2.output, hb2.size, fun i hi _ => hb2.block i hi⟩ (by cases (Value.slice ao gl cp).ownBlock <;> simp)
        have hsz2 : w.heap.size + 1 < w2.heap.size := by have := hb2.size; simp at this; omega
        clear hb2 HB1 HRG1 HOWN1 hcl1 hen
        go_wp2_with (at_builtin; refine wpList_append_own _ rfl _ _ 32 rfl (w.heap.size + 1) 3 i0 (.int .i64 0) 1 8 Try.undI hi0 hz0 hz1 hz2 rfl (by decide) _ _ _ rfl ((unhide hOW2).alloc _) ⟨w2.heap.size, 0, none⟩ 1 1 [.int .i64 x.id] rfl rfl (cell_one_new _ _ _) ?d2 ?d3 ?d4 ?d5 ?_)
        case d2 => intro u hu; simp at hu; subst hu; rfl
        case d3 => unfold maxLen; omega
        case d4 => omega
        case d5 => simp; omega
        intro v' w3 hown3 hgrow _
        have hB3 := hide (((unhide hB2).alloc (by omega) (.cells #[.int .i64 x.id] 3)).grown hgrow (by simp; omega) (fun k hk => by have := ((unhide hOW2).alloc (.cells #[.int .i64 x.id] 3)).lt k hk; omega))
        have hRG3 := hide (((unhide hRG2).alloc (.cells #[.int .i64 x.id] 3)).kept hgrow (fun e => by
            have h1 := (unhide hRG2).owns
            obtain ⟨es, cl, hbb, _⟩ := h1
            rcases (unhide hOW2).2 with ⟨h2, _⟩ | ⟨g, cap, cur, h2, _, hg, _⟩
            · simp only [Value.slice.injEq] at h2; obtain ⟨rfl, _⟩ := h2; simp [Value.ownBlock] at e
            · simp only [Value.slice.injEq] at h2; obtain ⟨rfl, _⟩ := h2; simp [Value.ownBlock] at e; subst e; rw [hbb] at hg; cases hg) (fun e => by
            have := ((unhide hOW2).alloc (.cells #[.int .i64 x.id] 3)).lt _ e.symm
            omega))
        have hOW3 : Hid (OwnI w3 (w.heap.size + 1) v' (got ++ [x.id])) := by
          show World.ownsRow _ _ _ _ _ _ _
          rw [ic_append, List.length_append, unhide HGL]
          exact hown3
        have hsz3 : w.heap.size + 1 ≤ w3.heap.size := by have := hgrow.size; simp at this; omega
        obtain ⟨a3, c3, rfl, _⟩ := (unhide hOW3).ints
        have HND3 : Hid ((got ++ [x.id]).Nodup) := by
          show List.Nodup _
          rw [List.nodup_append]
          refine ⟨unhide HND, by simp, fun a ha c hc => ?_⟩
          simp at hc
          subst hc
          rintro rfl
          exact unhide HG0 ha
        clear hown3 hgrow hB2 hRG2 hOW2
        go_wp2
        go_roundw
        case rel => exact ⟨_, cnt1, got ++ [x.id], unhide hRG3, unhide hOW3, unhide HND3, unhide HYES, by rw [List.length_append, unhide HGL]; simp; omega, unhide hB3, hsz3⟩
        case measure => rw [(unhide hRG3).left_eq, unhide HLE]; exact hlt
      | false =>
        rw [hP] at hcl1
        have HNO := hide (unhide HNO hP)
        go_wp2_with fail
        refine (unhide hcl1 _ ((unhide HB1).alloc (by omega) _)).mono ?_
        rintro e w2 ⟨rfl, hb2⟩
        have hB2 := hide ((((unhide HB1).alloc (by omega) (.cells #[.int .i64 x.id, .int .i64 x.peer, .int .i64 x.mode, .int .i64 x.seed, .string x.hv, .slice x.a0 x.idx.length x.cap, .string x.dt] 34)).trans (hb2.mono (by simp; omega))))
        have hRG2 := hide (((unhide HRG1).alloc (.cells #[.int .i64 x.id, .int .i64 x.peer, .int .i64 x.mode, .int .i64 x.seed, .string x.hv, .slice x.a0 x.idx.length x.cap, .string x.dt] 34)).kept (w' := w2) (row := none) ⟨hb2.os, hb2.tape, hb2.output, hb2.size, fun i hi _ => hb2.block i hi⟩ (by simp) (by simp))
        have hOW2 : Hid (OwnI w2 (w.heap.size + 1) (.slice ao gl cp) got) := by
          have h := (show World.ownsRow _ _ _ _ _ _ _ from unhide HOWN1)
          exact (h.alloc (.cells #[.int .i64 x.id, .int .i64 x.peer, .int .i64 x.mode, .int .i64 x.seed, .string x.hv, .slice x.a0 x.idx.length x.cap, .string x.dt] 34)).kept (w' := w2) (row := none) ⟨hb2.os, hb2.tape, hb2.output, hb2.size, fun i hi _ => hb2.block i hi⟩ (by cases (Value.slice ao gl cp).ownBlock <;> simp)
        have hsz2 : w.heap.size + 1 ≤ w2.heap.size := by have := hb2.size; simp at this; omega
        clear hb2 HB1 HRG1 HOWN1 hcl1 hen
        go_wp2
        go_roundw
        case rel => exact ⟨_, cnt1, got, unhide hRG2, unhide hOW2, unhide HND, unhide HNO, by have := unhide HGL; omega, unhide hB2, hsz2⟩
        case measure => rw [(unhide hRG2).left_eq, unhide HLE]; exact hlt
end Go.Proofs.Ytgomnmhjkjahlaa

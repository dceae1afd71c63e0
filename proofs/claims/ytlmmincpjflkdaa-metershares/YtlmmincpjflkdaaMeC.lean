/- meter: Weigh, Add, Waits, Credit. -/
import Derived.Test.YtlmmincpjflkdaaMeB
namespace Go.Proofs.Ytlmmincpjflkdaa
open Go.RowKit
set_option linter.unusedVariables false
attribute [local go_sem] Oper.semAt_some

set_option maxRecDepth 100000 in
theorem weigh_bad (b : Nat) (p n : Int) (w : World) (h : ¬ (1 ≤ p ∧ p ≤ 15 ∧ 0 ≤ n ∧ n ≤ 16)) :
    Calls Try.prog 7 #[.pointer (some ⟨b, 0, none⟩), .int .i64 p, .int .i64 n] w fun e w' => e = .returned (.int .i64 1) ∧ w = w' := by
  by_cases h1 : 1 ≤ p ∧ p ≤ 15
  · obtain ⟨k, rfl⟩ := Int.eq_ofNat_of_zero_le (show 0 ≤ p by omega)
    have g1 := hide (queue_yes b k w (by omega))
    have g2 := hide (isFrom_no 0 n 16 w (fun h2 => h ⟨h1.1, h1.2, h2.1, h2.2⟩))
    clear h h1
    go_enter Try.func7, Try.ntmps7
    go_wp2_with fail
    refine (unhide g1).mono ?_
    rintro e w1 ⟨rfl, rfl⟩
    go_wp2_with fail
    refine (unhide g2).mono ?_
    rintro e w1 ⟨rfl, rfl⟩
    go_wp2
    go_ret
    exact ⟨rfl, rfl⟩
  · have g1 := hide (queue_no b p w h1)
    clear h h1
    go_enter Try.func7, Try.ntmps7
    go_wp2_with fail
    refine (unhide g1).mono ?_
    rintro e w1 ⟨rfl, rfl⟩
    go_wp2
    go_ret
    exact ⟨rfl, rfl⟩
theorem wpList_store_mid_to {P : Program} {ops : Array Oper} {rest : List Oper} {o : Oper} {a : Act} {w : World} {Q : Exit → Act → World → Prop} (hgd : o.guard = none) (ty : TypeId) (x y : Operand) (ho : o.op = .store ty x y)
    (b p : Nat) (cells : Array Value) (hx : a.eval x = .pointer (some ⟨b, p, none⟩)) (hy : a.eval y = .agg cells)
    (ht : w.there b p cells.size) (hi : (P.info? ty).map (·.size) = some cells.size) (h1 : cells.all (·.oneCell') = true) (G : World → Prop) (hG : G (w.setCells b p cells.toList))
    (h : ∀ w', G w' → wpList P ops Q rest (a.put o.dst undef) w') : wpList P ops Q (o :: rest) a w :=
  wpList_store_mid hgd ty x y ho b p cells hx hy ht hi h1 (h _ hG)
theorem ShAt.clear {w : World} {B b : Nat} {q : Int} {f : Nat → Qu} {V : Nat → Value} (h : ShAt w B b q f V) (p : Nat) (hp : p < 16) :
    ShAt (w.setCells b (1 + p * 3) [.int .i64 0, .int .i64 0, .slice none 0 0]) B b q (qup f p ⟨0, 0, []⟩) (qup V p (.slice none 0 0)) ∧ ShStep w (w.setCells b (1 + p * 3) [.int .i64 0, .int .i64 0, .slice none 0 0]) b V (qup V p (.slice none 0 0)) := by
  have s3 := ((h.setW p hp 0).setC p hp 0).setV p hp (.slice none 0 0) [] (World.ownsRow_nil _ _ _ _) (fun k _ _ => .inl rfl)
  refine ⟨s3.fun_ext (fun k hk => ?_), ?_⟩
  · by_cases e : k = p
    · subst e
      simp [qup]
    · simp [qup, e]
  · have t := (((ShStep.set (b := b) (j := 1 + p * 3) (V := V) (w := w) (.int .i64 0)).trans (ShStep.set (j := 1 + p * 3 + 1) (.int .i64 0))).trans (ShStep.set (j := 1 + p * 3 + 2) (.slice none 0 0)))
    refine ⟨t.os, t.tape, t.output, t.size, t.block, fun k hk => ?_⟩
    by_cases e : k = p
    · subst e
      rw [qup_same]
      exact .inr (fun z hz => by simp [Value.ownBlock] at hz)
    · rw [qup_other V p _ e]
      exact .inl rfl
/-- a queue of another weight -/
def weighQ (x : Qu) (n : Int) : Qu := if n = 0 then ⟨0, 0, []⟩ else ⟨n, x.c, x.l⟩
set_option maxRecDepth 100000 in
set_option maxHeartbeats 1000000 in
theorem weigh_ok (B b p : Nat) (n q : Int) (f : Nat → Qu) (V : Nat → Value) (w : World) (hp : 1 ≤ p ∧ p ≤ 15) (hn : 0 ≤ n ∧ n ≤ 16) (hS : ShAt w B b q f V) :
    Calls Try.prog 7 #[.pointer (some ⟨b, 0, none⟩), .int .i64 p, .int .i64 n] w fun e w' => e = .returned (.int .i64 0) ∧ ∃ V', ShAt w' B b q (qup f p (weighQ (f p) n)) V' ∧ ShStep w w' b V V' := by
  have g1 := hide (queue_yes b p w hp)
  have g2 := hide (isFrom_yes 0 n 16 w hn)
  have hp16 : p < 16 := by omega
  have c0 := hS.wt p hp16
  have f0 := hS.free (1 + p * 3)
  have HS := hide hS
  unfold weighQ
  by_cases q0 : n = 0
  · subst q0
    rw [if_pos rfl]
    have ht : w.there b (1 + p * 3) 3 := by
      intro j hj
      refine ⟨?_, hS.free _⟩
      rcases (show j = 0 ∨ j = 1 ∨ j = 2 by omega) with rfl | rfl | rfl
      · show (w.cell? ⟨b, 1 + p * 3, none⟩).isSome = true
        rw [hS.wt p hp16]; rfl
      · rw [hS.cr p hp16]; rfl
      · rw [hS.vs p hp16]; rfl
    have HT := hide ht
    have HC := hide (hS.clear p hp16)
    clear ht hS c0 f0
    go_enter Try.func7, Try.ntmps7
    go_wp2_with fail
    refine (unhide g1).mono ?_
    rintro e w1 ⟨rfl, rfl⟩
    go_wp2_with fail
    refine (unhide g2).mono ?_
    rintro e w1 ⟨rfl, rfl⟩
    go_wp2_with (refine wpList_store_mid_to rfl 51 (.tmp 22) (.tmp 21) rfl b (1 + p * 3) #[.int .i64 0, .int .i64 0, .slice none 0 0] rfl rfl (unhide HT) (by kernel_rfl) (by simp [Value.oneCell']) (fun z => ShAt z B b q (qup f p ⟨0, 0, []⟩) (qup V p (.slice none 0 0)) ∧ ShStep w z b V (qup V p (.slice none 0 0))) (unhide HC) ?_)
    intro w3 s3 t3
    have c3 := s3.wt p hp16
    rw [qup_same] at c3
    have f3 := s3.free (1 + p * 3)
    have S4 := hide (s3.setW p hp16 0)
    have ST := hide t3
    clear s3 t3 HC HT
    go_wp2
    go_ret
    refine ⟨rfl, _, (unhide S4).fun_ext (fun k hk => ?_), (unhide ST).trans (ShStep.set _)⟩
    by_cases e : k = p
    · subst e
      simp [qup]
    · simp [qup, e]
  · rw [if_neg q0]
    have q1 : (n == 0) = false := by simpa using q0
    clear hS
    go_enter Try.func7, Try.ntmps7
    go_wp2_with fail
    refine (unhide g1).mono ?_
    rintro e w1 ⟨rfl, rfl⟩
    go_wp2_with fail
    refine (unhide g2).mono ?_
    rintro e w1 ⟨rfl, rfl⟩
    go_wp2
    go_ret
    exact ⟨rfl, _, (unhide HS).setW p hp16 n, ShStep.set _⟩
/-- how many sizes of a peer wait, and its credit -/
def waitsN (f : Nat → Qu) (p : Int) : Int := if 1 ≤ p ∧ p ≤ 15 then ((f p.toNat).l.length : Int) else 0
def creditN (f : Nat → Qu) (p : Int) : Int := if 1 ≤ p ∧ p ≤ 15 then (f p.toNat).c else 0
theorem OwnI.slice {w : World} {B : Nat} {v : Value} {l : List Int} (h : OwnI w B v l) : ∃ a0 c, v = .slice a0 l.length c := by
  obtain ⟨a0, c, h1, _⟩ := h.ints
  exact ⟨a0, c, h1⟩
set_option maxRecDepth 100000 in
theorem waits_any (B b : Nat) (p q : Int) (f : Nat → Qu) (V : Nat → Value) (w : World) (hS : ShAt w B b q f V) :
    Calls Try.prog 14 #[.pointer (some ⟨b, 0, none⟩), .int .i64 p] w fun e w' => e = .returned (.int .i64 (waitsN f p)) ∧ w = w' := by
  unfold waitsN
  by_cases h1 : 1 ≤ p ∧ p ≤ 15
  · rw [if_pos h1]
    obtain ⟨k, rfl⟩ := Int.eq_ofNat_of_zero_le (show 0 ≤ p by omega)
    have g1 := hide (queue_yes b k w (by omega))
    obtain ⟨a0, c, hv⟩ := (hS.own k (by omega)).slice
    have c0 := hS.vs k (by omega)
    rw [hv] at c0
    rw [Int.toNat_natCast]
    generalize (f k).l.length = m at *
    clear hS hv h1
    go_enter Try.func14, Try.ntmps14
    go_wp2_with fail
    refine (unhide g1).mono ?_
    rintro e w1 ⟨rfl, rfl⟩
    go_wp2
    go_ret
    exact ⟨rfl, rfl⟩
  · rw [if_neg h1]
    have g1 := hide (queue_no b p w h1)
    clear hS h1
    go_enter Try.func14, Try.ntmps14
    go_wp2_with fail
    refine (unhide g1).mono ?_
    rintro e w1 ⟨rfl, rfl⟩
    go_wp2
    go_ret
    exact ⟨rfl, rfl⟩
set_option maxRecDepth 100000 in
theorem credit_any (B b : Nat) (p q : Int) (f : Nat → Qu) (V : Nat → Value) (w : World) (hS : ShAt w B b q f V) :
    Calls Try.prog 15 #[.pointer (some ⟨b, 0, none⟩), .int .i64 p] w fun e w' => e = .returned (.int .i64 (creditN f p)) ∧ w = w' := by
  unfold creditN
  by_cases h1 : 1 ≤ p ∧ p ≤ 15
  · rw [if_pos h1]
    obtain ⟨k, rfl⟩ := Int.eq_ofNat_of_zero_le (show 0 ≤ p by omega)
    have g1 := hide (queue_yes b k w (by omega))
    have c0 := hS.cr k (by omega)
    rw [Int.toNat_natCast]
    generalize (f k).c = m at *
    clear hS h1
    go_enter Try.func15, Try.ntmps15
    go_wp2_with fail
    refine (unhide g1).mono ?_
    rintro e w1 ⟨rfl, rfl⟩
    go_wp2
    go_ret
    exact ⟨rfl, rfl⟩
  · rw [if_neg h1]
    have g1 := hide (queue_no b p w h1)
    clear hS h1
    go_enter Try.func15, Try.ntmps15
    go_wp2_with fail
    refine (unhide g1).mono ?_
    rintro e w1 ⟨rfl, rfl⟩
    go_wp2
    go_ret
    exact ⟨rfl, rfl⟩

theorem ShAt.grow {w w1 : World} {B b : Nat} {q : Int} {f : Nat → Qu} {V : Nat → Value} (h : ShAt w B b q f V) (p : Nat) (hp : p < 16) (hk : w1.heap[b]? = w.heap[b]?) (hr : ∀ k, k < 16 → k ≠ p → ∀ z, (V k).ownBlock = some z → w1.heap[z]? = w.heap[z]?)
    (v : Value) (l : List Int) (hv : OwnI w1 B v l) (hs : ∀ k, k < 16 → k ≠ p → v.ownBlock = none ∨ v.ownBlock ≠ (V k).ownBlock) :
    ShAt (w1.setCell ⟨b, 1 + p * 3 + 2, none⟩ v) B b q (qup f p ⟨(f p).w, (f p).c, l⟩) (qup V p v) where
  hb := h.hb
  blk := by
    obtain ⟨cs, hc⟩ := h.blk
    exact ⟨_, heap_setCell_same w1 b _ cs _ v (hk.trans hc)⟩
  c0 := by rw [cellB (by omega)]; exact (World.cell?_of_block hk).trans h.c0
  vs := fun k hk16 => by
    by_cases e : k = p
    · subst e
      rw [qup_same]
      exact World.cell?_setCell_same _ _ _ ((World.cell?_of_block hk).trans (h.vs k hk16))
    · rw [qup_other V p _ e, cellB (by omega)]
      exact (World.cell?_of_block hk).trans (h.vs k hk16)
  wt := fun k hk16 => by
    rw [cellB (by omega), (World.cell?_of_block hk).trans (h.wt k hk16)]
    by_cases e : k = p
    · subst e
      rw [qup_same]
    · rw [qup_other f p _ e]
  cr := fun k hk16 => by
    rw [cellB (by omega), (World.cell?_of_block hk).trans (h.cr k hk16)]
    by_cases e : k = p
    · subst e
      rw [qup_same]
    · rw [qup_other f p _ e]
  own := fun k hk16 => by
    obtain ⟨cs, hc⟩ := h.blk
    by_cases e : k = p
    · subst e
      rw [qup_same, qup_same]
      exact Go.ownsRow_setCell_other hv (hv.notB (hk.trans hc) (by decide)) _
    · rw [qup_other f p _ e, qup_other V p _ e]
      have ho : OwnI w1 B (V k) (f k).l := by
        have hw := h.own k hk16
        refine ⟨hw.1, ?_⟩
        rcases hw.2 with h1 | ⟨g, cap, cur, h1, h2, h3, h4⟩
        · exact .inl h1
        · exact .inr ⟨g, cap, cur, h1, h2, (hr k hk16 e g (by rw [h1]; rfl)).trans h3, h4⟩
      exact Go.ownsRow_setCell_other ho (ho.notB (hk.trans hc) (by decide)) _
  sep := fun k k' hk16 hk' hn => by
    by_cases e : k = p
    · subst e
      rw [qup_same, qup_other V k _ (fun e => hn e.symm)]
      exact hs k' hk' (fun e => hn e.symm)
    · rw [qup_other V p _ e]
      by_cases e' : k' = p
      · subst e'
        rw [qup_same]
        rcases hs k hk16 e with h1 | h1
        · rw [h1]
          cases hvk : (V k).ownBlock with
          | none => exact .inl rfl
          | some z => exact .inr (by simp)
        · exact .inr (fun e => h1 e.symm)
      · rw [qup_other V p _ e']
        exact h.sep k k' hk16 hk' hn
/-- what Add answers -/
def addE (f : Nat → Qu) (p s : Int) : Int := if ¬ (1 ≤ p ∧ p ≤ 15 ∧ 1 ≤ s ∧ s ≤ 65536) then 1 else if (f p.toNat).w = 0 then 4 else if 100 ≤ (f p.toNat).l.length then 6 else 0
/-- a queue with a size more -/
def addF (f : Nat → Qu) (p s : Int) : Nat → Qu := if addE f p s = 0 then qup f p.toNat ⟨(f p.toNat).w, (f p.toNat).c, (f p.toNat).l ++ [s]⟩ else f
set_option maxRecDepth 100000 in
set_option maxHeartbeats 1000000 in
theorem add_bad (B b : Nat) (p s q : Int) (f : Nat → Qu) (V : Nat → Value) (w : World) (hS : ShAt w B b q f V) (he : addE f p s ≠ 0) :
    Calls Try.prog 9 #[.pointer (some ⟨b, 0, none⟩), .int .i64 p, .int .i64 s] w fun e w' => e = .returned (.int .i64 (addE f p s)) ∧ w = w' := by
  unfold addE at he ⊢
  by_cases h1 : 1 ≤ p ∧ p ≤ 15
  · obtain ⟨k, rfl⟩ := Int.eq_ofNat_of_zero_le (show 0 ≤ p by omega)
    rw [Int.toNat_natCast] at he ⊢
    have g1 := hide (queue_yes b k w (by omega))
    by_cases h2 : 1 ≤ s ∧ s ≤ 65536
    · have g2 := hide (isFrom_yes 1 s 65536 w h2)
      rw [if_neg (by simp; omega)] at he ⊢
      have c0 := hS.wt k (by omega)
      obtain ⟨a0, c, hv⟩ := (hS.own k (by omega)).slice
      have c2 := hS.vs k (by omega)
      rw [hv] at c2
      generalize (f k).w = x at *
      generalize (f k).l.length = m at *
      clear hS hv h1 h2
      by_cases q0 : x = 0
      · subst q0
        rw [if_pos rfl] at he ⊢
        clear he
        go_enter Try.func9, Try.ntmps9
        go_wp2_with fail
        refine (unhide g1).mono ?_
        rintro e w1 ⟨rfl, rfl⟩
        go_wp2_with fail
        refine (unhide g2).mono ?_
        rintro e w1 ⟨rfl, rfl⟩
        go_wp2
        go_ret
        exact ⟨rfl, rfl⟩
      · rw [if_neg q0] at he ⊢
        have q1 : (x == 0) = false := by simpa using q0
        by_cases q2 : 100 ≤ m
        · rw [if_pos q2] at he ⊢
          clear he
          have q3 : (100 : Int) ≤ m := by omega
          go_enter Try.func9, Try.ntmps9
          go_wp2_with fail
          refine (unhide g1).mono ?_
          rintro e w1 ⟨rfl, rfl⟩
          go_wp2_with fail
          refine (unhide g2).mono ?_
          rintro e w1 ⟨rfl, rfl⟩
          go_wp2
          go_ret
          exact ⟨rfl, rfl⟩
        · rw [if_neg q2] at he
          exact absurd rfl he
    · have g2 := hide (isFrom_no 1 s 65536 w h2)
      rw [if_pos (by omega)]
      clear hS he h1 h2
      go_enter Try.func9, Try.ntmps9
      go_wp2_with fail
      refine (unhide g1).mono ?_
      rintro e w1 ⟨rfl, rfl⟩
      go_wp2_with fail
      refine (unhide g2).mono ?_
      rintro e w1 ⟨rfl, rfl⟩
      go_wp2
      go_ret
      exact ⟨rfl, rfl⟩
  · have g1 := hide (queue_no b p w h1)
    rw [if_pos (by omega)]
    clear hS he h1
    go_enter Try.func9, Try.ntmps9
    go_wp2_with fail
    refine (unhide g1).mono ?_
    rintro e w1 ⟨rfl, rfl⟩
    go_wp2
    go_ret
    exact ⟨rfl, rfl⟩
set_option maxRecDepth 100000 in
set_option maxHeartbeats 1000000 in
theorem add_ok (B b p : Nat) (s q : Int) (f : Nat → Qu) (V : Nat → Value) (w : World) (hS : ShAt w B b q f V) (hp : 1 ≤ p ∧ p ≤ 15) (hs : 1 ≤ s ∧ s ≤ 65536) (hw : (f p).w ≠ 0) (hl : (f p).l.length < 100) :
    Calls Try.prog 9 #[.pointer (some ⟨b, 0, none⟩), .int .i64 p, .int .i64 s] w fun e w' => e = .returned (.int .i64 0) ∧ ∃ V', ShAt w' B b q (qup f p ⟨(f p).w, (f p).c, (f p).l ++ [s]⟩) V' ∧ ShStep w w' b V V' := by
  have g1 := hide (queue_yes b p w hp)
  have g2 := hide (isFrom_yes 1 s 65536 w hs)
  have hp16 : p < 16 := by omega
  have c0 := hS.wt p hp16
  have c2 := hS.vs p hp16
  have f2 := hS.free (1 + p * 3 + 2)
  obtain ⟨a0, c, hv⟩ := (hS.own p hp16).slice
  have HO := hide (hS.own p hp16)
  rw [hv] at c2 HO
  have hw' : ((f p).w == 0) = false := by simpa using hw
  obtain ⟨i0, hi, hz0, hz1, hz2⟩ := info_parts Try.infoI
  have HS := hide hS
  have HV := hide hv
  generalize hx : (f p).w = x at *
  generalize hL : (f p).l = L at *
  generalize hm : L.length = m at *
  have q2 : ¬ (100 : Int) ≤ m := by omega
  have HL := hide hL
  have HX := hide hx
  have HM := hide hm
  have HO2 : Hid (w.ownsRow B 3 1 (.slice a0 m c) m (ic L)) := by
    have := unhide HO
    unfold OwnI at this
    rw [hm] at this
    exact this
  have hBw : B ≤ w.heap.size := Nat.le_trans hS.hb (Nat.le_of_lt hS.lt)
  have hbw : b < w.heap.size := hS.lt
  clear hS hv hL hx hm hw
  go_enter Try.func9, Try.ntmps9
  go_wp2_with fail
  refine (unhide g1).mono ?_
  rintro e w1 ⟨rfl, rfl⟩
  go_wp2_with fail
  refine (unhide g2).mono ?_
  rintro e w1 ⟨rfl, rfl⟩
  go_wp2_with (refine wpList_append_lies _ rfl (.tmp 36) (.tmp 38) 43 rfl B 3 i0 (.int .i64 0) 1 8 Try.undI hi hz0 hz1 hz2 rfl (by decide) (.slice a0 m c) m _ (by rfl) ((unhide HO2).alloc _) ⟨w.heap.size, 0, none⟩ 1 1 [.int .i64 s] (by rfl) (by rfl) (World.news_of_block (heap_alloc_new w _)) (by intro u hu; simp at hu; subst hu; rfl) (by decide) (by unfold maxLen; omega) (by omega) (by simp; omega) _ rfl ?_)
  intro g cap w1 hown hgrow hat hlt
  have hs0 := unhide HS
  have hv0 : V p = .slice a0 m c := unhide HV
  have hk : w1.heap[b]? = w.heap[b]? := (hgrow.block b (by simp; omega) (fun e => hs0.notB p hp16 (by rw [hv0]; exact e.symm))).trans (Below.heap_alloc _ _ _ hbw)
  have hrow : ∀ k, k < 16 → k ≠ p → ∀ z, (V k).ownBlock = some z → w1.heap[z]? = w.heap[z]? := by
    intro k hk16 hn z hz
    have hzl := (World.ownsRow.lt (show World.ownsRow _ _ _ _ _ _ _ from hs0.own k hk16) z hz).2
    refine (hgrow.block z (by simp; omega) (fun e => ?_)).trans (Below.heap_alloc _ _ _ hzl)
    rcases hs0.sep k p hk16 hp16 hn with h1 | h1
    · rw [h1] at hz; cases hz
    · exact h1 (by rw [hz, hv0]; exact e)
  have hnew : ∀ k, k < 16 → k ≠ p → (Value.slice (some ⟨g, 0, none⟩) (m + 1) cap).ownBlock = none ∨ (Value.slice (some ⟨g, 0, none⟩) (m + 1) cap).ownBlock ≠ (V k).ownBlock := by
    intro k hk16 hn
    right
    intro e
    have e' : some g = (V k).ownBlock := e
    rcases hat with h1 | h1
    · rcases hs0.sep k p hk16 hp16 hn with h2 | h2
      · rw [h2] at e'; cases e'
      · exact h2 (by rw [← e', hv0]; exact h1.symm)
    · have := (World.ownsRow.lt (show World.ownsRow _ _ _ _ _ _ _ from hs0.own k hk16) g e'.symm).2
      omega
  have hown' : OwnI w1 B (.slice (some ⟨g, 0, none⟩) (m + 1) cap) (L ++ [s]) := by
    unfold OwnI
    rw [ic_append, List.length_append, unhide HM]
    exact hown
  have S1 := hide (hs0.grow p hp16 hk hrow _ _ hown' hnew)
  have ST : Hid (ShStep w (w1.setCell ⟨b, 1 + p * 3 + 2, none⟩ (.slice (some ⟨g, 0, none⟩) (m + 1) cap)) b V (qup V p (.slice (some ⟨g, 0, none⟩) (m + 1) cap))) := by
    refine ⟨hgrow.os, hgrow.tape, hgrow.output, by have := hgrow.size; simp at this ⊢; omega, fun k hkl hn hv => ?_, fun k hk16 => ?_⟩
    · refine (Below.heap_setCell _ _ _ _ hn).trans ((hgrow.block k (by simp; omega) (fun e => hv p hp16 (by rw [hv0]; exact e.symm))).trans (Below.heap_alloc _ _ _ hkl))
    · by_cases e : k = p
      · subst e
        rw [qup_same]
        rcases hat with h1 | h1
        · left
          rw [hv0, h1]
          rfl
        · right
          intro z hz
          have : some g = some z := hz
          cases this
          omega
      · rw [qup_other V p _ e]
        exact .inl rfl
  have c3 : w1.cell? ⟨b, 1 + p * 3 + 2, none⟩ = some (.slice a0 m c) := (World.cell?_of_block hk).trans c2
  have f3 : w1.frozen? ⟨b, 1 + p * 3 + 2, none⟩ = false := (World.frozen?_of_block hk).trans f2
  have S2 : Hid (ShAt (w1.setCell ⟨b, 1 + p * 3 + 2, none⟩ (.slice (some ⟨g, 0, none⟩) (m + 1) cap)) B b q (qup f p ⟨x, (f p).c, L ++ [s]⟩) (qup V p (.slice (some ⟨g, 0, none⟩) (m + 1) cap))) := by
    rw [← unhide HX]
    exact unhide S1
  clear hown hgrow hat hlt hs0 hv0 hk hrow hnew hown' S1 c2 f2 c0 HO HO2
  go_wp2
  go_ret
  exact ⟨rfl, _, unhide S2, unhide ST⟩
theorem add_any (B b : Nat) (p s q : Int) (f : Nat → Qu) (V : Nat → Value) (w : World) (hS : ShAt w B b q f V) :
    Calls Try.prog 9 #[.pointer (some ⟨b, 0, none⟩), .int .i64 p, .int .i64 s] w fun e w' => e = .returned (.int .i64 (addE f p s)) ∧ ∃ V', ShAt w' B b q (addF f p s) V' ∧ ShStep w w' b V V' := by
  unfold addF
  by_cases he : addE f p s = 0
  · rw [if_pos he, he]
    unfold addE at he
    split at he
    · cases he
    · rename_i h1
      have h1' : 1 ≤ p ∧ p ≤ 15 ∧ 1 ≤ s ∧ s ≤ 65536 := by simpa using h1
      obtain ⟨k, rfl⟩ := Int.eq_ofNat_of_zero_le (show 0 ≤ p by omega)
      rw [Int.toNat_natCast] at he ⊢
      split at he
      · cases he
      · rename_i h2
        split at he
        · cases he
        · rename_i h3
          exact add_ok B b k s q f V w hS (by omega) (by omega) h2 (by omega)
  · rw [if_neg he]
    refine (add_bad B b p s q f V w hS he).mono ?_
    rintro e w1 ⟨rfl, rfl⟩
    exact ⟨rfl, V, hS, ShStep.refl _ _ _⟩
end Go.Proofs.Ytlmmincpjflkdaa

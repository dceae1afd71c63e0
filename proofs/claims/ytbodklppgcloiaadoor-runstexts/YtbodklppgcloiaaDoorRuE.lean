/- Contract of runs.gather, over whatever yields spans. -/
import Derived.Test.YtbodklppgcloiaaDoorRoR
import Derived.Test.YtbodklppgcloiaaDoorRfT
namespace Go.Proofs.YtbodklppgcloiaaDoor
open Go.RowKit Go.Shelf
set_option linter.unusedVariables false
attribute [local go_sem] Oper.semAt_some

/-- a span of whatever numbers as a value -/
def spI (x : Int × Int) : Value := .agg #[.int .i64 x.1, .int .i64 x.2]
/-- what gather asks of one span more -/
def gNext (n : Int) (e : Int) (x : Int × Int) : Bool := decide (e < x.1) && decide (x.1 < x.2) && decide (x.2 ≤ n)
def gEnd (l : List (Int × Int)) : Int := l.foldl (fun _ x => x.2) (-1)
theorem gEnd_snoc (l : List (Int × Int)) (x : Int × Int) : gEnd (l ++ [x]) = x.2 := by simp [gEnd]
/-- spans that are the runs of a set -/
def gOk (n : Int) (l : List (Int × Int)) : Prop := ∀ k x, l[k]? = some x → gNext n (gEnd (l.take k)) x = true
/-- the numbers of spans -/
def gNums (l : List (Int × Int)) : List Int := l.flatMap fun x => (List.range (x.2 - x.1).toNat).map fun (i : Nat) => x.1 + (i : Int)
theorem gNums_snoc (l : List (Int × Int)) (x : Int × Int) : gNums (l ++ [x]) = gNums l ++ (List.range (x.2 - x.1).toNat).map fun (i : Nat) => x.1 + (i : Int) := by simp [gNums]
theorem gOk_nil (n : Int) : gOk n [] := by intro k x h; simp at h
theorem gOk_snoc {n : Int} {l : List (Int × Int)} {x : Int × Int} (h : gOk n l) (hx : gNext n (gEnd l) x = true) : gOk n (l ++ [x]) := by
  intro k y hk
  rcases Nat.lt_or_ge k l.length with h1 | h1
  · rw [List.getElem?_append_left h1] at hk
    rw [List.take_append_of_le_length (by omega)]
    exact h k y hk
  · rw [List.getElem?_append_right h1] at hk
    have h2 : k = l.length := by
      rcases Nat.lt_or_ge (k - l.length) 1 with h3 | h3
      · omega
      · rw [List.getElem?_eq_none (by simpa using h3)] at hk; cases hk
    subst h2
    simp at hk
    subst hk
    rw [List.take_left]
    exact hx
theorem gOk_pre {n : Int} {l l' : List (Int × Int)} (h : gOk n l') (hp : l <+: l') : gOk n l := by
  obtain ⟨r, rfl⟩ := hp
  intro k x hk
  have h1 : k < l.length := (List.getElem?_eq_some_iff.1 hk).1
  have := h k x (by rw [List.getElem?_append_left h1]; exact hk)
  rwa [List.take_append_of_le_length (by omega)] at this
theorem gOk_last {n : Int} {l : List (Int × Int)} {x : Int × Int} (h : gOk n (l ++ [x])) : gNext n (gEnd l) x = true := by
  have := h l.length x (by simp)
  rwa [List.take_left] at this
theorem gNext_iff {n e : Int} {x : Int × Int} : gNext n e x = true ↔ e < x.1 ∧ x.1 < x.2 ∧ x.2 ≤ n := by
  unfold gNext
  rw [Bool.and_eq_true, Bool.and_eq_true, decide_eq_true_iff, decide_eq_true_iff, decide_eq_true_iff, and_assoc]
theorem gEnd_ge {n : Int} {l : List (Int × Int)} (h : gOk n l) : -1 ≤ gEnd l ∧ ((gNums l).length : Int) ≤ gEnd l + 1 ∧ (gEnd l ≤ n ∨ gEnd l = -1) := by
  have key : ∀ k, k ≤ l.length → -1 ≤ gEnd (l.take k) ∧ ((gNums (l.take k)).length : Int) ≤ gEnd (l.take k) + 1 ∧ (gEnd (l.take k) ≤ n ∨ gEnd (l.take k) = -1) := by
    intro k
    induction k with
    | zero => intro _; simp [gEnd, gNums]
    | succ k ih =>
      intro hk
      have h2 := ih (by omega)
      have h1 := gNext_iff.1 (h k l[k] (List.getElem?_eq_getElem (by omega)))
      rw [List.take_succ_eq_append_getElem (by omega), gEnd_snoc, gNums_snoc, List.length_append, List.length_map, List.length_range]
      omega
  have := key l.length (Nat.le_refl _)
  rwa [List.take_length] at this
theorem results_boxed2 {P : Program} {fn : Func} {p q : Tmp} {ty ty2 : TypeId} {Bp Bq : Nat} {v u : Value} (h : fn.results = #[.cell p ty, .cell q ty2]) (tmps : Array Value) (hp : tmps[p]?.getD undef = .pointer (some ⟨Bp, 0, none⟩)) (hq : tmps[q]?.getD undef = .pointer (some ⟨Bq, 0, none⟩))
    (w : World) (e1 : (loadVar ty ⟨Bp, 0, none⟩).run P w = .ok v w) (e2 : (loadVar ty2 ⟨Bq, 0, none⟩).run P w = .ok u w) : (results fn tmps).run P w = .ok (.tuple #[v, u]) w := by
  simp only [results, h]
  simp [Sem.run_bind, Result.andThen, hp, hq, asAddr, e1, e2]
theorem loadS (w : World) (B : Nat) (v : Value) (c : w.cell? ⟨B, 0, none⟩ = some v) : (loadVar 9 ⟨B, 0, none⟩).run Tryd.prog w = .ok v w := by
  simp [go_sem, loadVar, c]
theorem loadE (w : World) (B : Nat) (v : Value) (c : w.cell? ⟨B, 0, none⟩ = some v) : (loadVar 24 ⟨B, 0, none⟩).run Tryd.prog w = .ok v w := by
  simp [go_sem, loadVar, c]
/-- what a round of gather keeps -/
def KpG (n0 : Nat) (W W' : World) : Prop := ∀ k cs t fr, W.heap[k]? = some (.cells cs t fr) → (k < n0 ∨ (t ≠ 3 ∧ t ≠ 47)) → W'.heap[k]? = some (.cells cs t fr)
theorem kpG_t {n0 : Nat} {A B C : World} (h : KpG n0 A B) (k : KpG n0 B C) : KpG n0 A C := fun i cs t fr h1 h2 => k i cs t fr (h i cs t fr h1 h2) h2
theorem kpG_b {n0 : Nat} (W : World) (l : Nat) (o o' : Obj) (h : W.heap[l]? = some o) (hc : o.isCells = false) : KpG n0 W (W.putObj l o') := fun k cs t fr h1 _ => by
  have hne : k ≠ l := by
    rintro rfl
    rw [h] at h1; cases h1; cases hc
  exact (World.putObj_heap_other hne).trans h1
theorem kpG_below {n0 : Nat} {W W' : World} (h : Below W.heap.size W W') : KpG n0 W W' := fun k cs t fr h1 _ => (h.block k (lt_of_block h1)).trans h1
theorem kpG_set {n0 B : Nat} {W : World} {v u : Value} (hB : Boxed W B 3 v) (h0 : n0 ≤ B) : KpG n0 W (W.setCell ⟨B, 0, none⟩ u) := fun k cs t fr h1 h2 => by
  have hne : k ≠ B := by
    rintro rfl
    rcases h2 with h2 | ⟨h2, _⟩
    · omega
    · rw [show W.heap[k]? = _ from hB] at h1
      cases h1
      exact h2 rfl
  exact (Below.heap_setCell _ _ _ _ (fun e => hne e)).trans h1
theorem kpG_app {n0 base B n m : Nat} {W w1 : World} {v v' : Value} {xs ys : List Value} {tmp : Obj} (hv : Boxed W B 47 v) (hrow : W.ownsRow base 3 1 v n xs) (h0 : n0 ≤ B) (h1 : n0 ≤ base)
    (hall : ∀ b, some b ≠ v.ownBlock → b ≠ B → b < W.heap.size → (w1.setCell ⟨B, 0, none⟩ v').heap[b]? = W.heap[b]?) : KpG n0 W (w1.setCell ⟨B, 0, none⟩ v') := fun k cs t fr h2 h3 => by
  have hne : k ≠ B := by
    rintro rfl
    rcases h3 with h3 | ⟨_, h3⟩
    · omega
    · rw [show W.heap[k]? = _ from hv] at h2
      cases h2
      exact h3 rfl
  have hno : some k ≠ v.ownBlock := by
    intro e
    rcases hrow.2 with ⟨h', _⟩ | ⟨g, cap', cur, h', hg, hc, _⟩
    · rw [h'] at e; simp [Value.ownBlock] at e
    · rw [h'] at e
      simp [Value.ownBlock] at e
      subst e
      rcases h3 with h3 | ⟨h3, _⟩
      · omega
      · rw [hc] at h2
        cases h2
        exact h3 rfl
  exact (hall k hno hne (lt_of_block h2)).trans h2
theorem KpG.boxed {n0 B : Nat} {W W' : World} {t : TypeId} {v : Value} (h : KpG n0 W W') (hB : Boxed W B t v) (hb : B < n0) : Boxed W' B t v := h B _ _ _ hB (.inl hb)
/-- numbers as cells -/
def ics (l : List Int) : List Value := l.map fun x => .int .i64 x
theorem ics_append (a b : List Int) : ics (a ++ b) = ics a ++ ics b := by simp [ics]
theorem Tryd.undIs : Tryd.prog.underlying 47 = some (.slice 3) := by kernel_rfl
/-- what gather answers -/
def gatOk (n : Int) (l : List (Int × Int)) : Prop := (0 ≤ n ∧ n ≤ 160) ∧ gOk n l
open Classical in
noncomputable def gatE (n no : Int) (l : List (Int × Int)) : Int := if ¬ (0 ≤ n ∧ n ≤ 160) then 1 else if gOk n l then ofE n (gNums l) else no
open Classical in
noncomputable def gatR (n : Int) (l : List (Int × Int)) : By := if (0 ≤ n ∧ n ≤ 160) ∧ gOk n l then ofR n (gNums l) else []

theorem six_boxes (w : World) (n no : Int) : ∃ W0 : World, Boxed W0 w.heap.size 3 (.int .i64 n) ∧ Boxed W0 (w.heap.size + 1) 24 (.int .i64 no) ∧ Boxed W0 (w.heap.size + 1 + 1) 9 (.string ⟨#[]⟩) ∧ Boxed W0 (w.heap.size + 1 + 1 + 1) 24 (.int .i64 0) ∧
    Boxed W0 (w.heap.size + 1 + 1 + 1 + 1) 47 (.slice none 0 0) ∧ Boxed W0 (w.heap.size + 1 + 1 + 1 + 1 + 1) 3 (.int .i64 (-1)) ∧ W0.heap.size = w.heap.size + 1 + 1 + 1 + 1 + 1 + 1 ∧ Below w.heap.size w W0 ∧
    (((((w.alloc (.cells #[.int .i64 n] 3)).alloc (.cells #[.int .i64 no] 24)).alloc (.cells #[.string ⟨#[]⟩] 9)).alloc (.cells #[.int .i64 0] 24)).alloc (.cells #[.slice none 0 0] 47)).alloc (.cells #[.int .i64 (-1)] 3) = W0 := by
  refine ⟨_, ?_, ?_, ?_, ?_, ?_, ?_, ?_, ?_, rfl⟩
  · exact (((((Boxed.new w 3 (.int .i64 n)).alloc _).alloc _).alloc _).alloc _).alloc _
  · have := Boxed.new (w.alloc (.cells #[.int .i64 n] 3)) 24 (.int .i64 no)
    rw [World.size_alloc] at this
    exact (((this.alloc _).alloc _).alloc _).alloc _
  · have := Boxed.new ((w.alloc (.cells #[.int .i64 n] 3)).alloc (.cells #[.int .i64 no] 24)) 9 (.string ⟨#[]⟩)
    rw [World.size_alloc, World.size_alloc] at this
    exact ((this.alloc _).alloc _).alloc _
  · have := Boxed.new (((w.alloc (.cells #[.int .i64 n] 3)).alloc (.cells #[.int .i64 no] 24)).alloc (.cells #[.string ⟨#[]⟩] 9)) 24 (.int .i64 0)
    rw [World.size_alloc, World.size_alloc, World.size_alloc] at this
    exact (this.alloc _).alloc _
  · have := Boxed.new ((((w.alloc (.cells #[.int .i64 n] 3)).alloc (.cells #[.int .i64 no] 24)).alloc (.cells #[.string ⟨#[]⟩] 9)).alloc (.cells #[.int .i64 0] 24)) 47 (.slice none 0 0)
    rw [World.size_alloc, World.size_alloc, World.size_alloc, World.size_alloc] at this
    exact this.alloc _
  · have := Boxed.new (((((w.alloc (.cells #[.int .i64 n] 3)).alloc (.cells #[.int .i64 no] 24)).alloc (.cells #[.string ⟨#[]⟩] 9)).alloc (.cells #[.int .i64 0] 24)).alloc (.cells #[.slice none 0 0] 47)) 3 (.int .i64 (-1))
    rw [World.size_alloc, World.size_alloc, World.size_alloc, World.size_alloc, World.size_alloc] at this
    exact this
  · simp
  · exact ((((((Below.refl _ w).alloc (Nat.le_refl _) _).alloc (by simp) _).alloc (by simp; omega) _).alloc (by simp; omega) _).alloc (by simp; omega) _).alloc (by simp; omega) _
/-- a span in a block of its own -/
def SpanI (W : World) (B : Nat) (x : Int × Int) : Prop := W.heap[B]? = some (.cells #[.int .i64 x.1, .int .i64 x.2] 50 (0, 0))
theorem spanI_own {β : Type} (B : Nat) (f : β → Int × Int) : Own (fun s W => SpanI W B (f s)) := fun s X Y row hs hg hrow => by
  refine (hg.block B (lt_of_block hs) (fun e => ?_)).trans hs
  obtain ⟨o, ho, hc⟩ := hrow B e.symm
  rw [show X.heap[B]? = _ from hs] at ho
  cases ho
  cases hc
theorem stays_boxed {β : Type} {q : Obj → Prop} {n B : Nat} (h : B < n) (t : TypeId) (f : β → Value) : Stays q n (fun s W => Boxed W B t (f s)) := fun s A B' hs ht => ht.same hs (.inl h)
theorem stays_below {β : Type} {q : Obj → Prop} {n Z : Nat} {w : World} (h : Z ≤ n) (hz : Z ≤ w.heap.size) : Stays q n (fun (_ : β) W => Below Z w W) := fun s A B hs ht =>
  ⟨ht.os.trans hs.os, ht.tape.trans hs.tape, ht.output.trans hs.output, Nat.le_trans hs.size ht.size, fun k hk => by
    rcases ht.block k (by have := hs.size; omega) with h1 | ⟨h1, _⟩
    · exact h1.trans (hs.block k hk)
    · omega⟩
theorem stays_row {β : Type} {ty : TypeId} (hty : ty ≠ 3) {n base B : Nat} (h : B < n) (f : β → Nat) (g : β → List Value) : Stays (anyKind ty) n (fun s W => ∃ v, Boxed W B 47 v ∧ W.ownsRow base 3 1 v (f s) (g s) ∧ True) := by
  rintro s A B' ⟨v, hb, hr, _⟩ ht
  refine ⟨v, ht.same hb (.inl h), ⟨hr.1, ?_⟩, trivial⟩
  rcases hr.2 with h1 | ⟨g', cap, cur, h1, h2, h3, h4⟩
  · exact .inl h1
  · exact .inr ⟨g', cap, cur, h1, h2, ht.same h3 (.inr (by rintro (h | ⟨_, _, h⟩) <;> cases h; exact hty rfl)), h4⟩
set_option maxRecDepth 100000 in
set_option maxHeartbeats 8000000 in
theorem gather_any (ty : TypeId) (hty : ty ≠ 3) (gf : Nat) (lb : Array Value) (eg : ∀ args w, (callFunc gf args).run Tryd.prog w = .ok (.enter gf args) w) (xs : List (Int × Int)) (N : Nat) (n no : Int) (w : World)
    (hseq : ∀ W0, Below w.heap.size w W0 → SeqTurns ty Fence.wide 4 Tryd.prog gf lb (fun x : Int × Int => #[spI x]) (KpG w.heap.size) (fun ys => ys = xs) (fun pre => pre <+: xs) N W0) :
    Calls Tryd.prog 37 #[.int .i64 n, .func (.func gf) #[] lb, .int .i64 no] w fun e w' => e = .returned (.tuple #[.string (bs (gatR n xs)), .int .i64 (gatE n no xs)]) ∧ Below w.heap.size w w' := by
  obtain ⟨i0, hi, hz0, hzs, hz2⟩ := info_parts Tryd.infoI
  refine (callsIn_wide (n := 5)).1 ?_
  refine callsIn_of_wp_marks Tryd.func37 rfl trivial ?_ rfl
  simp only [Tryd.ntmps37, List.size_toArray, List.length_cons, List.length_nil, Nat.reduceAdd, Nat.reduceSub, Array.replicate_succ, Array.replicate_zero, List.push_toArray, List.append_toArray, List.nil_append, List.cons_append]
  by_cases hn : 0 ≤ n ∧ n ≤ 160
  · have q1 : ¬ n < 0 := by omega
    have q2 : ¬ 160 < n := by omega
    have HS := hide hseq
    clear hseq
    gi_wp2
    obtain ⟨W0, b0, b1, b2, b3, b4, b5, hsz, hB0, hW0⟩ := six_boxes w n no
    rw [hW0]
    clear hW0
    have hS := unhide HS W0 hB0
    clear HS
    generalize hZ : w.heap.size = Z at *
    have HZ := hide hZ
    clear hZ
    have HSZ := hide hsz
    refine wpIn_range_turns (ty := ty) rfl (by omega) (gf := gf) (lb := lb) rfl trivial eg hS kpG_t (fun W l o o' _ h h1 _ => kpG_b W l o o' h h1) (Below.refl _ _) (fun _ => rfl)
      (fun pre W => ((((Boxed W Z 3 (.int .i64 n) ∧ Boxed W (Z + 1) 24 (.int .i64 no)) ∧ (Boxed W (Z + 1 + 1) 9 (.string ⟨#[]⟩) ∧ Boxed W (Z + 1 + 1 + 1) 24 (.int .i64 0))) ∧ (Boxed W (Z + 1 + 1 + 1 + 1 + 1) 3 (.int .i64 (gEnd pre)) ∧ gOk n pre)) ∧ (∃ v, Boxed W (Z + 1 + 1 + 1 + 1) 47 v ∧ W.ownsRow W0.heap.size 3 1 v (gNums pre).length (ics (gNums pre)) ∧ True)) ∧ (Below Z w W ∧ W0.heap.size ≤ W.heap.size))
      (fun c pre W => (c = .ret ∧ ¬ gOk n pre) ∧ ((Boxed W (Z + 1 + 1) 9 (.string ⟨#[]⟩) ∧ Boxed W (Z + 1 + 1 + 1) 24 (.int .i64 no)) ∧ Below Z w W))
      (Stays.and (Stays.and (Stays.and (Stays.and (Stays.and (stays_boxed (by omega) _ _) (stays_boxed (by omega) _ _)) (Stays.and (stays_boxed (by omega) _ _) (stays_boxed (by omega) _ _))) (Stays.and (stays_boxed (by omega) _ (fun pre : List (Int × Int) => Value.int .i64 (gEnd pre))) (fun _ _ _ hs _ => hs)))
        (stays_row hty (by omega) (fun pre : List (Int × Int) => (gNums pre).length) (fun pre => ics (gNums pre)))) (Stays.and (stays_below (by omega) (Nat.le_of_eq (unhide HZ).symm)) (fun _ _ _ hs ht => Nat.le_trans hs ht.size)))
      (fun c => Stays.and (fun _ _ _ hs _ => hs) (Stays.and (Stays.and (stays_boxed (by omega) _ _) (stays_boxed (by omega) _ _)) (stays_below (by omega) (Nat.le_of_eq (unhide HZ).symm))))
      ⟨⟨⟨⟨⟨b0, b1⟩, b2, b3⟩, b5, gOk_nil n⟩, _, b4, World.ownsRow_nil _ _ _ _, trivial⟩, hB0, Nat.le_refl _⟩
      (fun x a' W => ∃ Bx, W0.heap.size ≤ Bx ∧ SpanI W Bx x ∧ a' = { tmps := #[.int .i64 n, .func (.func gf) #[] lb, .int .i64 no, .pointer (some ⟨Z, 0, none⟩), undef, .pointer (some ⟨Z + 1, 0, none⟩), .pointer (some ⟨Z + 1 + 1, 0, none⟩), .pointer (some ⟨Z + 1 + 1 + 1, 0, none⟩), .pointer (some ⟨Z + 1 + 1 + 1 + 1, 0, none⟩), .pointer (some ⟨Z + 1 + 1 + 1 + 1 + 1, 0, none⟩), .pointer (some ⟨Bx, 0, none⟩), undef, .int .i64 n, .bool false, .bool false, .int .i64 n, .bool false, .bool false, .func (.func gf) #[] lb, spI x, undef, undef, undef, undef, undef, undef, undef, undef, undef, undef, undef, undef, undef, undef, undef, undef, undef, undef, undef, undef, undef, undef, undef, undef, undef, undef, undef, undef, undef, undef, undef, undef, undef, undef, undef, undef, undef, undef, undef, undef, undef], defers := [] })
      (fun x a' _ X Y row hs hg hr => by obtain ⟨Bx, h1, h2, h3⟩ := hs; exact ⟨Bx, h1, spanI_own Bx (fun (_ : Unit) => x) () X Y row h2 hg (fun r e => (hr r e).2), h3⟩)
      ?assign ?body ?done ?stop
    case assign =>
      rintro l pre x W K hI hK
      obtain ⟨⟨⟨⟨⟨a0, a1⟩, a2, a3⟩, a5, hok⟩, v, a4, hrow, _⟩, hB, hz⟩ := hI
      clear hsz hS
      unfold spI
      gi_wp2
      refine hK _ _ ((KeepsOthers.alloc _ _).from _) (kpG_below ((Below.refl W.heap.size W).alloc (Nat.le_refl _) _)) ⟨⟨⟨⟨⟨a0.alloc _, a1.alloc _⟩, a2.alloc _, a3.alloc _⟩, a5.alloc _, hok⟩, v, a4.alloc _, hrow.alloc _, trivial⟩, hB.alloc (by have := unhide HSZ; omega) _, by simp; omega⟩ ⟨W.heap.size, hz, heap_alloc_new _ _, rfl⟩
    case body =>
      rintro l pre x a' W hl hr hI ⟨Bx, hBx, bX, rfl⟩ hlt
      obtain ⟨⟨⟨⟨⟨a0, a1⟩, a2, a3⟩, a5, hok⟩, v, a4, hrow, _⟩, hB, hz⟩ := hI
      obtain ⟨x1, x2⟩ := x
      have c0 : W.cell? ⟨Bx, 0, none⟩ = some (.int .i64 x1) := by rw [cell_of_row _ _ 0 _ _ (0, 0) bX]; rfl
      have c1 : W.cell? ⟨Bx, 1, none⟩ = some (.int .i64 x2) := by rw [cell_of_row _ _ 1 _ _ (0, 0) bX]; rfl
      have d0 := a0.cell
      have d1 := a1.cell
      have d2 := a2.cell
      have d3 := a3.cell
      have d5 := a5.cell
      have f2 := a2.frozen
      have f3 := a3.frozen
      have f5 := a5.frozen
      have hmx : Tryd.prog.follows .mixedOrders = true := by kernel_rfl
      by_cases hg : gNext n (gEnd pre) (x1, x2) = true
      · obtain ⟨g1, g2, g3⟩ := gNext_iff.1 hg
        simp only at g1 g2 g3
        have t1 : ¬ x1 ≤ gEnd pre := by omega
        have t2 : ¬ x2 ≤ x1 := by omega
        have t3 : ¬ n < x2 := by omega
        have HSN := hide (gOk_snoc hok hg)
        have hge := gEnd_ge hok
        obtain ⟨M, hM⟩ : ∃ M : Nat, x2 - x1 = M := ⟨(x2 - x1).toNat, by omega⟩
        have hx2 : x2 = x1 + M := by omega
        subst hx2
        have s1 : 0 ≤ x1 := by omega
        have s2 : x1 + M ≤ 160 := by omega
        have s3 : ((gNums pre).length : Int) ≤ 161 := by omega
        have hw1 : x1 + (M : Int) - x1 = M := by omega
        have e9 := unhide HSZ
        clear hge hg hM hS
        gi_wp2
        gi_loopw [43] (fun i wr => ∃ q : Nat, q ≤ M ∧ i = .int .i64 q ∧ (∃ v, Boxed wr (Z + 1 + 1 + 1 + 1) 47 v ∧ wr.ownsRow W0.heap.size 3 1 v (gNums pre ++ (List.range q).map fun (i : Nat) => x1 + (i : Int)).length (ics (gNums pre ++ (List.range q).map fun (i : Nat) => x1 + (i : Int)))) ∧
          (∀ b, b < W0.heap.size → b ≠ Z + 1 + 1 + 1 + 1 → wr.heap[b]? = W.heap[b]?) ∧ KeepsOthers W wr ∧ KpG Z W wr ∧ Below Z w wr ∧ W0.heap.size ≤ wr.heap.size) (fun i _ => M - (intOf i).toNat)
        case atStart => exact ⟨0, Nat.zero_le _, rfl, ⟨v, a4, by simpa using hrow⟩, fun _ _ _ => rfl, KeepsOthers.refl _, fun _ _ _ _ h _ => h, hB, hz⟩
        case round =>
          obtain ⟨q, hq, rfl, ⟨v', p4, hrow'⟩, hblk, hko, hkg, hB', hz'⟩ := hrel
          have bX' : SpanI wr Bx (x1, x1 + M) := hkg Bx _ _ _ bX (.inr ⟨by decide, by decide⟩)
          have c0' : wr.cell? ⟨Bx, 0, none⟩ = some (.int .i64 x1) := by rw [cell_of_row _ _ 0 _ _ (0, 0) bX']; rfl
          have c1' : wr.cell? ⟨Bx, 1, none⟩ = some (.int .i64 (x1 + M)) := by rw [cell_of_row _ _ 1 _ _ (0, 0) bX']; rfl
          have p0 : Boxed wr (Z + 1 + 1 + 1 + 1 + 1) 3 (.int .i64 (gEnd pre)) := (hblk _ (by omega) (by omega)).trans a5
          have cE := p0.cell
          have fE := p0.frozen
          have c4 := p4.cell
          obtain ⟨ao, cap, rfl⟩ := own_shape' hrow'
          by_cases hlt' : q < M
          · have i1 : (q : Int) < (M : Int) := by omega
            have hLen : ((gNums pre ++ (List.range q).map fun (i : Nat) => x1 + (i : Int)).length : Int) ≤ 400 := by
              rw [List.length_append, List.length_map, List.length_range]; omega
            have HROW := hide hrow'
            have HAP : Hid ((gNums pre ++ (List.range (q + 1)).map fun (i : Nat) => x1 + (i : Int)) = (gNums pre ++ (List.range q).map fun (i : Nat) => x1 + (i : Int)) ++ [x1 + (q : Int)]) := by
              show _ = _
              rw [List.range_succ, List.map_append, List.append_assoc]; rfl
            generalize (gNums pre ++ (List.range q).map fun (i : Nat) => x1 + (i : Int)) = LL at *
            have HN : Hid (∀ j u, [Value.int .i64 (x1 + (q : Int))][j]? = some u → (wr.alloc (.cells #[.int .i64 (x1 + (q : Int))] 3)).cell? ((⟨wr.heap.size, 0, none⟩ : Addr).add j) = some u) := news_lit wr [_] _
            clear hrow hrow'
            gi_wp2_with (gi_at_builtin; refine wpListIn_append_own _ rfl _ _ 47 rfl W0.heap.size 3 i0 (.int .i64 0) 1 8 Tryd.undIs hi hz0 hzs hz2 rfl (by decide) _ _ _ rfl ((unhide HROW).alloc _) ⟨wr.heap.size, 0, none⟩ 1 1 [.int .i64 (x1 + (q : Int))] rfl rfl (unhide HN) (by intro u hu; simp at hu; subst hu; rfl) (by unfold maxLen; omega) (by omega) (by simp; omega) ?_; intro v2 w1 hown' hgrow _; obtain ⟨ao2, cap2, rfl⟩ := own_shape' hown'; obtain ⟨f1, f2, f3, f4, f5, f6, f7, f8⟩ := boxed_appended p4 (by decide) (unhide HROW) hown' hgrow; have hc1 := f1.cell; have hf1 := f1.frozen)
            go_roundw
            case rel =>
              refine ⟨q + 1, by omega, by go_num, ⟨_, f2, ?_⟩, ?_, hko.trans f4, kpG_t hkg (kpG_app (tmp := .cells #[] 0) (n := LL.length) (m := 0) (ys := []) p4 (unhide HROW) (by omega) (by omega) f8), hB'.trans (f7 Z (by omega) (by omega) (by omega)), by simp; omega⟩
              · rw [unhide HAP, List.length_append, ics_append]
                exact f3
              · intro b h1 h2
                exact (f6 b h1 h2 (by omega)).trans (hblk b h1 h2)
            case measure => simp [intOf]; omega
          · have i1 : ¬ (q : Int) < (M : Int) := by omega
            have hqM : q = M := by omega
            subst hqM
            gi_wp2
            refine ⟨(hko.trans (KeepsOthers.setCell _ _ _)).from _, kpG_t hkg (kpG_set p0 (by omega)), ⟨⟨⟨⟨?_, ?_⟩, ?_, ?_⟩, ?_, unhide HSN⟩, .slice ao (gNums pre ++ (List.range q).map fun (i : Nat) => x1 + (i : Int)).length cap, ?_, ?_⟩, ?_, ?_⟩
            · exact Boxed.kept ((hblk _ (by omega) (by omega)).trans a0) (grownBy_setCell' _ _ _) (by simp; omega)
            · exact Boxed.kept ((hblk _ (by omega) (by omega)).trans a1) (grownBy_setCell' _ _ _) (by simp)
            · exact Boxed.kept ((hblk _ (by omega) (by omega)).trans a2) (grownBy_setCell' _ _ _) (by simp)
            · exact Boxed.kept ((hblk _ (by omega) (by omega)).trans a3) (grownBy_setCell' _ _ _) (by simp)
            · rw [gEnd_snoc]; exact p0.set _
            · exact p4.kept (grownBy_setCell' _ _ _) (by simp)
            · have hgn : gNums (pre ++ [(x1, x1 + (q : Int))]) = gNums pre ++ (List.range q).map fun (i : Nat) => x1 + (i : Int) := by
                rw [gNums_snoc]
                show _ ++ (List.range (x1 + (q : Int) - x1).toNat).map _ = _
                rw [hw1, Int.toNat_natCast]
              rw [hgn]
              have := hrow'.kept (grownBy_setCell' wr (Z + 1 + 1 + 1 + 1 + 1) (.int .i64 (x1 + (q : Int)))) (.inr (own_block_ge hrow' _ (by omega)).symm)
              simpa [e9] using this
            · exact hB'.setCell (p := ⟨Z + 1 + 1 + 1 + 1 + 1, 0, none⟩) (by simp; omega) _
            · simp; omega
      · have hbad : Hid (¬ gOk n (pre ++ [(x1, x2)])) := fun h => hg (gOk_last h)
        have hno : x1 ≤ gEnd pre ∨ (¬ x1 ≤ gEnd pre ∧ (x2 ≤ x1 ∨ (¬ x2 ≤ x1 ∧ n < x2))) := by
          by_cases t1 : x1 ≤ gEnd pre
          · exact .inl t1
          · refine .inr ⟨t1, ?_⟩
            by_cases t2 : x2 ≤ x1
            · exact .inl t2
            · refine .inr ⟨t2, ?_⟩
              rcases Int.lt_or_le n x2 with h | h
              · exact h
              · exact absurd (gNext_iff.2 ⟨by show _ < x1; omega, by show x1 < x2; omega, h⟩) hg
        clear hg
        generalize gEnd pre = en at *
        rcases hno with t1 | ⟨t1, t2 | ⟨t2, t3⟩⟩
        · gi_wp2
          refine wpIn_region_any hmx ?_
          change wpAnyIn _ _ _ _ _ _ _ _ _ (World.drew _)
          have a2d : Boxed W.drew (Z + 1 + 1) 9 (.string ⟨#[]⟩) := a2
          have a3d : Boxed W.drew (Z + 1 + 1 + 1) 24 (.int .i64 0) := a3
          refine wpAnyIn_ready (rs := [0, 1]) (by kernel_rfl) (by simp) ?_
          refine AllReadyIn.cons rfl (fun K hK => ?_) (AllReadyIn.cons rfl (fun K hK => ?_) AllReadyIn.nil)
          · go_simp
            refine hK _ _ ?_
            clear hK K
            refine wpAnyIn_ready (rs := [1]) (by kernel_rfl) (by simp) ?_
            refine AllReadyIn.cons rfl (fun K hK => ?_) AllReadyIn.nil
            go_simp
            refine hK _ _ ?_
            clear hK K
            refine wpAnyIn_ready (rs := [2]) (by kernel_rfl) (by simp) ?_
            refine AllReadyIn.cons rfl (fun K hK => ?_) AllReadyIn.nil
            go_simp
            refine hK _ _ ?_
            clear hK K
            refine wpAnyIn_done (by kernel_rfl) ?_ _
            gi_wp2
            refine ⟨((KeepsOthers.drew _).trans ((KeepsOthers.setCell _ _ _).trans (KeepsOthers.setCell _ _ _))).from _, ⟨rfl, unhide hbad⟩, ⟨?_, ?_⟩, ?_⟩
            · exact (a2d.set _).kept (grownBy_setCell' _ _ _) (by simp)
            · exact (a3d.kept (grownBy_setCell' _ _ _) (by simp)).set _
            · exact ((hB.drew).setCell (p := ⟨Z + 1 + 1, 0, none⟩) (by simp; omega) _).setCell (p := ⟨Z + 1 + 1 + 1, 0, none⟩) (by simp; omega) _
          · go_simp
            refine hK _ _ ?_
            clear hK K
            refine wpAnyIn_ready (rs := [0]) (by kernel_rfl) (by simp) ?_
            refine AllReadyIn.cons rfl (fun K hK => ?_) AllReadyIn.nil
            go_simp
            refine hK _ _ ?_
            clear hK K
            refine wpAnyIn_ready (rs := [2]) (by kernel_rfl) (by simp) ?_
            refine AllReadyIn.cons rfl (fun K hK => ?_) AllReadyIn.nil
            go_simp
            refine hK _ _ ?_
            clear hK K
            refine wpAnyIn_done (by kernel_rfl) ?_ _
            gi_wp2
            refine ⟨((KeepsOthers.drew _).trans ((KeepsOthers.setCell _ _ _).trans (KeepsOthers.setCell _ _ _))).from _, ⟨rfl, unhide hbad⟩, ⟨?_, ?_⟩, ?_⟩
            · exact (a2d.set _).kept (grownBy_setCell' _ _ _) (by simp)
            · exact (a3d.kept (grownBy_setCell' _ _ _) (by simp)).set _
            · exact ((hB.drew).setCell (p := ⟨Z + 1 + 1, 0, none⟩) (by simp; omega) _).setCell (p := ⟨Z + 1 + 1 + 1, 0, none⟩) (by simp; omega) _
        · gi_wp2
          refine wpIn_region_any hmx ?_
          change wpAnyIn _ _ _ _ _ _ _ _ _ (World.drew _)
          have a2d : Boxed W.drew (Z + 1 + 1) 9 (.string ⟨#[]⟩) := a2
          have a3d : Boxed W.drew (Z + 1 + 1 + 1) 24 (.int .i64 0) := a3
          refine wpAnyIn_ready (rs := [0, 1]) (by kernel_rfl) (by simp) ?_
          refine AllReadyIn.cons rfl (fun K hK => ?_) (AllReadyIn.cons rfl (fun K hK => ?_) AllReadyIn.nil)
          · go_simp
            refine hK _ _ ?_
            clear hK K
            refine wpAnyIn_ready (rs := [1]) (by kernel_rfl) (by simp) ?_
            refine AllReadyIn.cons rfl (fun K hK => ?_) AllReadyIn.nil
            go_simp
            refine hK _ _ ?_
            clear hK K
            refine wpAnyIn_ready (rs := [2]) (by kernel_rfl) (by simp) ?_
            refine AllReadyIn.cons rfl (fun K hK => ?_) AllReadyIn.nil
            go_simp
            refine hK _ _ ?_
            clear hK K
            refine wpAnyIn_done (by kernel_rfl) ?_ _
            gi_wp2
            refine ⟨((KeepsOthers.drew _).trans ((KeepsOthers.setCell _ _ _).trans (KeepsOthers.setCell _ _ _))).from _, ⟨rfl, unhide hbad⟩, ⟨?_, ?_⟩, ?_⟩
            · exact (a2d.set _).kept (grownBy_setCell' _ _ _) (by simp)
            · exact (a3d.kept (grownBy_setCell' _ _ _) (by simp)).set _
            · exact ((hB.drew).setCell (p := ⟨Z + 1 + 1, 0, none⟩) (by simp; omega) _).setCell (p := ⟨Z + 1 + 1 + 1, 0, none⟩) (by simp; omega) _
          · go_simp
            refine hK _ _ ?_
            clear hK K
            refine wpAnyIn_ready (rs := [0]) (by kernel_rfl) (by simp) ?_
            refine AllReadyIn.cons rfl (fun K hK => ?_) AllReadyIn.nil
            go_simp
            refine hK _ _ ?_
            clear hK K
            refine wpAnyIn_ready (rs := [2]) (by kernel_rfl) (by simp) ?_
            refine AllReadyIn.cons rfl (fun K hK => ?_) AllReadyIn.nil
            go_simp
            refine hK _ _ ?_
            clear hK K
            refine wpAnyIn_done (by kernel_rfl) ?_ _
            gi_wp2
            refine ⟨((KeepsOthers.drew _).trans ((KeepsOthers.setCell _ _ _).trans (KeepsOthers.setCell _ _ _))).from _, ⟨rfl, unhide hbad⟩, ⟨?_, ?_⟩, ?_⟩
            · exact (a2d.set _).kept (grownBy_setCell' _ _ _) (by simp)
            · exact (a3d.kept (grownBy_setCell' _ _ _) (by simp)).set _
            · exact ((hB.drew).setCell (p := ⟨Z + 1 + 1, 0, none⟩) (by simp; omega) _).setCell (p := ⟨Z + 1 + 1 + 1, 0, none⟩) (by simp; omega) _
        · gi_wp2
          refine wpIn_region_any hmx ?_
          change wpAnyIn _ _ _ _ _ _ _ _ _ (World.drew _)
          have a2d : Boxed W.drew (Z + 1 + 1) 9 (.string ⟨#[]⟩) := a2
          have a3d : Boxed W.drew (Z + 1 + 1 + 1) 24 (.int .i64 0) := a3
          refine wpAnyIn_ready (rs := [0, 1]) (by kernel_rfl) (by simp) ?_
          refine AllReadyIn.cons rfl (fun K hK => ?_) (AllReadyIn.cons rfl (fun K hK => ?_) AllReadyIn.nil)
          · go_simp
            refine hK _ _ ?_
            clear hK K
            refine wpAnyIn_ready (rs := [1]) (by kernel_rfl) (by simp) ?_
            refine AllReadyIn.cons rfl (fun K hK => ?_) AllReadyIn.nil
            go_simp
            refine hK _ _ ?_
            clear hK K
            refine wpAnyIn_ready (rs := [2]) (by kernel_rfl) (by simp) ?_
            refine AllReadyIn.cons rfl (fun K hK => ?_) AllReadyIn.nil
            go_simp
            refine hK _ _ ?_
            clear hK K
            refine wpAnyIn_done (by kernel_rfl) ?_ _
            gi_wp2
            refine ⟨((KeepsOthers.drew _).trans ((KeepsOthers.setCell _ _ _).trans (KeepsOthers.setCell _ _ _))).from _, ⟨rfl, unhide hbad⟩, ⟨?_, ?_⟩, ?_⟩
            · exact (a2d.set _).kept (grownBy_setCell' _ _ _) (by simp)
            · exact (a3d.kept (grownBy_setCell' _ _ _) (by simp)).set _
            · exact ((hB.drew).setCell (p := ⟨Z + 1 + 1, 0, none⟩) (by simp; omega) _).setCell (p := ⟨Z + 1 + 1 + 1, 0, none⟩) (by simp; omega) _
          · go_simp
            refine hK _ _ ?_
            clear hK K
            refine wpAnyIn_ready (rs := [0]) (by kernel_rfl) (by simp) ?_
            refine AllReadyIn.cons rfl (fun K hK => ?_) AllReadyIn.nil
            go_simp
            refine hK _ _ ?_
            clear hK K
            refine wpAnyIn_ready (rs := [2]) (by kernel_rfl) (by simp) ?_
            refine AllReadyIn.cons rfl (fun K hK => ?_) AllReadyIn.nil
            go_simp
            refine hK _ _ ?_
            clear hK K
            refine wpAnyIn_done (by kernel_rfl) ?_ _
            gi_wp2
            refine ⟨((KeepsOthers.drew _).trans ((KeepsOthers.setCell _ _ _).trans (KeepsOthers.setCell _ _ _))).from _, ⟨rfl, unhide hbad⟩, ⟨?_, ?_⟩, ?_⟩
            · exact (a2d.set _).kept (grownBy_setCell' _ _ _) (by simp)
            · exact (a3d.kept (grownBy_setCell' _ _ _) (by simp)).set _
            · exact ((hB.drew).setCell (p := ⟨Z + 1 + 1, 0, none⟩) (by simp; omega) _).setCell (p := ⟨Z + 1 + 1 + 1, 0, none⟩) (by simp; omega) _
    case done =>
      rintro D ys W hD rfl hI hK
      obtain ⟨⟨⟨⟨⟨a0, a1⟩, a2, a3⟩, a5, hok⟩, v, a4, hrow, _⟩, hB, hz⟩ := hI
      have hge := gEnd_ge hok
      have hown : OwnI W W0.heap.size v (gNums ys) := hrow
      obtain ⟨ad, c, rfl, hT, _⟩ := hown.ints
      have hof := hide (of_any n (gNums ys) ad c W hT (by omega))
      have hE : Hid (gatE n no ys = ofE n (gNums ys)) := by
        show _ = _
        unfold gatE
        rw [if_neg (fun h => h hn), if_pos hok]
      have hR : Hid (gatR n ys = ofR n (gNums ys)) := by
        show _ = _
        unfold gatR
        rw [if_pos ⟨hn, hok⟩]
      have d0 := a0.cell
      have d4 := a4.cell
      generalize (gNums ys).length = L at *
      generalize hOR : bs (ofR n (gNums ys)) = OR at *
      have HOR := hide hOR
      clear hOR
      generalize ofE n (gNums ys) = OE at *
      have HD := hide hD
      have HSS := hide hsz
      clear hge hT hD hsz hS
      gi_wp2_with (fail)
      refine ⟨trivial, ?_⟩
      refine (callsIn_wide.2 (unhide hof)).mono ?_
      rintro e w6 ⟨rfl, b6⟩
      have hK6 : w6.heap[D]? = some (.deferred (some [])) := (b6.block D (lt_of_block hK)).trans hK
      have a26 : Boxed w6 (Z + 1 + 1) 9 (.string ⟨#[]⟩) := (b6.block _ a2.lt).trans a2
      have a36 : Boxed w6 (Z + 1 + 1 + 1) 24 (.int .i64 0) := (b6.block _ a3.lt).trans a3
      have d2 := a26.cell
      have f2 := a26.frozen
      have d3 := a36.cell
      have f3 := a36.frozen
      have B6 := hide (hB.trans (b6.mono (by have := unhide HSS; omega)))
      clear b6
      gi_wp2
      have hK7 : ((w6.setCell ⟨Z + 1 + 1, 0, none⟩ (.string OR)).setCell ⟨Z + 1 + 1 + 1, 0, none⟩ (.int .i64 OE)).heap[D]? = some (.deferred (some [])) := ((KeepsOthers.setCell _ _ _).trans (KeepsOthers.setCell _ _ _)).same D _ hK6 rfl
      refine ⟨by simp, .inl ⟨_, _, rfl, run_takeDeferred hK7, ?_⟩⟩
      have e1 := unhide HD
      have e2 := unhide HSS
      have p2 : Boxed ((w6.setCell ⟨Z + 1 + 1, 0, none⟩ (.string OR)).setCell ⟨Z + 1 + 1 + 1, 0, none⟩ (.int .i64 OE)) (Z + 1 + 1) 9 (.string OR) := (a26.set _).kept (grownBy_setCell' _ _ _) (by simp)
      have p3 : Boxed ((w6.setCell ⟨Z + 1 + 1, 0, none⟩ (.string OR)).setCell ⟨Z + 1 + 1 + 1, 0, none⟩ (.int .i64 OE)) (Z + 1 + 1 + 1) 24 (.int .i64 OE) := (a36.kept (grownBy_setCell' _ _ _) (by simp)).set _
      have B7 : Below Z w ((w6.setCell ⟨Z + 1 + 1, 0, none⟩ (.string OR)).setCell ⟨Z + 1 + 1 + 1, 0, none⟩ (.int .i64 OE)) := ((unhide B6).setCell (p := ⟨Z + 1 + 1, 0, none⟩) (by simp; omega) _).setCell (p := ⟨Z + 1 + 1 + 1, 0, none⟩) (by simp; omega) _
      generalize (w6.setCell ⟨Z + 1 + 1, 0, none⟩ (.string OR)).setCell ⟨Z + 1 + 1 + 1, 0, none⟩ (.int .i64 OE) = W7 at *
      have p2' : Boxed (W7.putObj D (.deferred none)) (Z + 1 + 1) 9 (.string OR) := (World.putObj_heap_other (by omega)).trans p2
      have p3' : Boxed (W7.putObj D (.deferred none)) (Z + 1 + 1 + 1) 24 (.int .i64 OE) := (World.putObj_heap_other (by omega)).trans p3
      exact ⟨_, results_boxed2 rfl _ rfl rfl _ (loadS _ _ _ p2'.cell) (loadE _ _ _ p3'.cell), by rw [unhide hE, unhide hR, unhide HOR], by rw [unhide HZ]; exact B7.trans (belowK_b (w := w) (Nat.le_of_eq (unhide HZ).symm) W7 D _ _ (by have := unhide HZ; omega) hK7 rfl rfl)⟩
    case stop =>
      rintro D c pre W hD hpre ⟨⟨rfl, hbad⟩, ⟨a2, a3⟩, hB⟩ hK
      have hbad' : ¬ gOk n xs := fun h => hbad (gOk_pre h hpre)
      have hE : Hid (gatE n no xs = no) := by
        show _ = _
        unfold gatE
        rw [if_neg (fun h => h hn), if_neg hbad']
      have hR : Hid (gatR n xs = []) := by
        show _ = _
        unfold gatR
        rw [if_neg (fun h => hbad' h.2)]
      gi_wp2
      refine ⟨by simp, .inl ⟨_, _, rfl, run_takeDeferred hK, ?_⟩⟩
      have p2 : Boxed (W.putObj D (.deferred none)) (Z + 1 + 1) 9 (.string ⟨#[]⟩) := (World.putObj_heap_other (by omega)).trans a2
      have p3 : Boxed (W.putObj D (.deferred none)) (Z + 1 + 1 + 1) 24 (.int .i64 no) := (World.putObj_heap_other (by omega)).trans a3
      exact ⟨_, results_boxed2 rfl _ rfl rfl _ (loadS _ _ _ p2.cell) (loadE _ _ _ p3.cell), by rw [unhide hE, unhide hR]; rfl, by rw [unhide HZ]; exact hB.trans (belowK_b (w := w) (Nat.le_of_eq (unhide HZ).symm) W D _ _ (by have := unhide HZ; omega) hK rfl rfl)⟩
  · have q1 : n < 0 ∨ 160 < n := by omega
    have hE : Hid (gatE n no xs = 1) := by
      show _ = _
      unfold gatE
      rw [if_pos hn]
    have hR : Hid (gatR n xs = []) := by
      show _ = _
      unfold gatR
      rw [if_neg (fun h => hn h.1)]
    have hfin : Hid (Below w.heap.size w ((((w.alloc (.cells #[.int .i64 n] 3)).alloc (.cells #[.int .i64 no] 24)).alloc (.cells #[.string ⟨#[]⟩] 9)).alloc (.cells #[.int .i64 1] 24))) := ((((Below.refl _ w).alloc (Nat.le_refl _) _).alloc (by simp) _).alloc (by simp; omega) _).alloc (by simp; omega) _
    have hc1 : Hid (((((w.alloc (.cells #[.int .i64 n] 3)).alloc (.cells #[.int .i64 no] 24)).alloc (.cells #[.string ⟨#[]⟩] 9)).alloc (.cells #[.int .i64 1] 24)).cell? ⟨w.heap.size + 1 + 1, 0, none⟩ = some (.string ⟨#[]⟩)) := by
      have := Boxed.new ((w.alloc (.cells #[.int .i64 n] 3)).alloc (.cells #[.int .i64 no] 24)) 9 (.string ⟨#[]⟩)
      rw [World.size_alloc, World.size_alloc] at this
      exact (this.alloc _).cell
    have hc2 : Hid (((((w.alloc (.cells #[.int .i64 n] 3)).alloc (.cells #[.int .i64 no] 24)).alloc (.cells #[.string ⟨#[]⟩] 9)).alloc (.cells #[.int .i64 1] 24)).cell? ⟨w.heap.size + 1 + 1 + 1, 0, none⟩ = some (.int .i64 1)) := by
      have := Boxed.new (((w.alloc (.cells #[.int .i64 n] 3)).alloc (.cells #[.int .i64 no] 24)).alloc (.cells #[.string ⟨#[]⟩] 9)) 24 (.int .i64 1)
      rw [World.size_alloc, World.size_alloc, World.size_alloc] at this
      exact this.cell
    gi_wp2
    all_goals exact ⟨_, results_boxed2 rfl _ rfl rfl _ (loadS _ _ _ (unhide hc1)) (loadE _ _ _ (unhide hc2)), by rw [unhide hE, unhide hR]; rfl, unhide hfin⟩
end Go.Proofs.YtbodklppgcloiaaDoor

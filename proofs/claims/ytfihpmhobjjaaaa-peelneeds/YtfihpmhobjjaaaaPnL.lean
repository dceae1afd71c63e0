/- The document's Left, of any integers. -/
import Derived.Test.YtfihpmhobjjaaaaPdE
import Derived.Test.YtfihpmhobjjaaaaPnD
import Derived.Test.YtfihpmhobjjaaaaPnA
namespace Go.Proofs.Ytfihpmhobjjaaaa
open Go.RowKit
set_option linter.unusedVariables false
attribute [local go_sem] Oper.semAt_some

/-- rows of integers are kept -/
structure KI (w w' : World) : Prop where
  keep : ∀ (g : Nat) (cur : Array Value) (fr : Nat × Nat), w.heap[g]? = some (.cells cur 3 fr) → w'.heap[g]? = some (.cells cur 3 fr)
  size : w.heap.size ≤ w'.heap.size
theorem KI.refl (w : World) : KI w w := ⟨fun _ _ _ h => h, Nat.le_refl _⟩
theorem KI.trans {a b c : World} (h : KI a b) (k : KI b c) : KI a c := ⟨fun g cur fr x => k.keep g cur fr (h.keep g cur fr x), Nat.le_trans h.size k.size⟩
theorem KI.of_below {w w' : World} (h : Below w.heap.size w w') : KI w w' := ⟨fun g cur fr x => (h.block g (lt_of_block x)).trans x, h.size⟩
theorem KI.set {w : World} {g j : Nat} {cs : Array Value} {t : TypeId} {fr : Nat × Nat} (hg : w.heap[g]? = some (.cells cs t fr)) (ht : t ≠ 3) (v : Value) : KI w (w.setCell ⟨g, j, none⟩ v) := by
  refine ⟨fun g' cur fr' x => ?_, by simp⟩
  have hne : g' ≠ g := fun e => by
    subst e
    rw [hg] at x
    simp at x
    exact ht x.2.1
  have : (w.setCell ⟨g, j, none⟩ v).heap[g']? = w.heap[g']? := by
    exact heap_setCells_ne g [v] j w g' hne
  rw [this]
  exact x
theorem KI.grown {w w' : World} {base n size : Nat} {e : TypeId} {v : Value} {xs : List Value} (ho : w.ownsRow base e size v n xs) (he : e ≠ 3) (hg : w.grownBy w' v.ownBlock) (hs : w.heap.size ≤ w'.heap.size) : KI w w' := by
  refine ⟨fun g cur fr x => ?_, hs⟩
  rw [hg.block g (lt_of_block x) (fun hb => ?_)]
  · exact x
  · obtain ⟨c, hc⟩ := own_tyN ho hb.symm
    rw [x] at hc
    simp at hc
    exact he hc.2.1.symm
theorem own_ki {w w' : World} {base n size : Nat} {v : Value} {xs : List Value} (h : w.ownsRow base 3 size v n xs) (k : KI w w') : w'.ownsRow base 3 size v n xs := by
  refine ⟨h.1, ?_⟩
  rcases h.2 with h2 | ⟨g, cap, cur, h1, h2, h3, h4⟩
  · exact .inl h2
  · exact .inr ⟨g, cap, cur, h1, h2, k.keep _ _ _ h3, h4⟩
def restS (S : Int → Bool) (r : List Int) : List Int := r.filter fun x => !S x
theorem restS_take {S : Int → Bool} {r : List Int} {k : Nat} (h : k < r.length) : restS S (r.take (k + 1)) = restS S (r.take k) ++ if S r[k] = true then [] else [r[k]] := by
  unfold restS
  rw [List.take_succ_eq_append_getElem h, List.filter_append]
  congr 1
  cases hs : S r[k] <;> simp [hs]
theorem restS_len (S : Int → Bool) (r : List Int) : (restS S r).length ≤ r.length := List.length_filter_le _ _
/-- is a number known? -/
def inZ (K : List Int) : Int → Bool := fun x => decide (x ∈ K)
set_option maxRecDepth 100000 in
set_option maxHeartbeats 1000000 in
theorem drest_any (r K : List Int) (a0 k0 : Option Addr) (c kc : Nat) (hr : r.length ≤ 10000) (hk : K.length ≤ 10000) (w : World) (hI : Ints w a0 r) (hK : Ints w k0 K) :
    Calls Try.prog 31 #[.slice a0 r.length c, .slice k0 K.length kc] w fun e w' => ∃ v, e = .returned v ∧ w'.ownsRow w.heap.size 3 1 v (restS (inZ K) r).length (ic (restS (inZ K) r)) ∧ Below w.heap.size w w' := by
  obtain ⟨i0, hi0, hz0, hz1, hz2⟩ := info_parts Try.infoI
  have HI := hide hI
  have HH : Hid (∀ (W : World) (x : Int), Below w.heap.size w W → Calls Try.prog 22 #[.slice k0 K.length kc, .int .i64 x] W fun e w' => e = .returned (.bool (inZ K x)) ∧ W = w') := fun W x hb => ghas_any K x k0 kc (by unfold maxLen; omega) W (hK.below hb)
  generalize inZ K = S at *
  generalize K.length = l at *
  generalize hn : r.length = n at *
  have HN := hide hn
  clear hI hK hn
  go_enter Try.func31, Try.ntmps31
  go_wp2_with fail
  go_loopw [5, 6] (fun v u wr => ∃ k : Nat, k ≤ n ∧ u = .int .i64 k ∧ wr.ownsRow w.heap.size 3 1 v (restS S (r.take k)).length (ic (restS S (r.take k))) ∧ Below w.heap.size w wr) (fun _ u _ => n - (intOf u).toNat)
  case atStart => exact ⟨0, by omega, rfl, World.ownsRow_nil _ _ _ _, Below.refl _ _⟩
  case round =>
    obtain ⟨k, hk', rfl, hO, hB⟩ := hrel
    obtain ⟨ao, cp, rfl⟩ := own_shape2 hO
    have hbs := hB.size
    by_cases hlt : k < n
    · have hlt' : k < r.length := by rw [unhide HN]; exact hlt
      obtain ⟨g, o, rfl, c0⟩ := ((unhide HI).below hB) k hlt'
      have hh := hide (unhide HH wr r[k] hB)
      have q1 : (k : Int) < n := by omega
      have hle : (restS S (r.take k)).length ≤ 10000 := by
        have h2 := restS_len S (r.take k)
        rw [List.length_take] at h2
        omega
      have HT := hide (restS_take (S := S) hlt')
      generalize r[k] = y at *
      cases hs : S y with
      | true =>
        rw [hs] at HT hh
        simp only [if_true, List.append_nil] at HT
        have HX : Hid (wr.ownsRow w.heap.size 3 1 (.slice ao (restS S (r.take k)).length cp) (restS S (r.take (k + 1))).length (ic (restS S (r.take (k + 1)))) ∧ Below w.heap.size w wr) := by
          rw [unhide HT]
          exact ⟨hO, hB⟩
        generalize (restS S (r.take k)).length = dl at *
        clear hO hB hs HT hlt'
        go_wp2_with fail
        refine (unhide hh).mono ?_
        rintro e w1 ⟨rfl, rfl⟩
        go_wp2
        go_roundw
        case rel => exact ⟨k + 1, by omega, by go_num, unhide HX⟩
        case measure => simp [intOf]; omega
      | false =>
        rw [hs] at HT hh
        simp only [Bool.false_eq_true, if_false] at HT
        have HO := hide hO
        have HB := hide hB
        generalize hDe : restS S (r.take k) = D at *
        generalize hdl : D.length = dl at *
        have HDL := hide hdl
        clear hO hB hs hlt' hDe hdl
        go_wp2_with fail
        refine (unhide hh).mono ?_
        rintro e w1 ⟨rfl, rfl⟩
        go_wp2_with (at_builtin; refine wpList_append_own _ rfl _ _ 23 rfl w.heap.size 3 i0 (.int .i64 0) 1 8 Try.undI hi0 hz0 hz1 hz2 rfl (by decide) _ _ _ rfl ((unhide HO).alloc _) ⟨wr.heap.size, 0, none⟩ 1 1 [.int .i64 y] ?cx rfl ?cn ?c2 ?c3 ?c4 ?c5 ?_)
        case cn => exact news_lit wr [.int .i64 y] 3
        case c2 => intro u hu; simp at hu; rw [hu]; rfl
        case c3 => unfold maxLen; omega
        case c4 => omega
        case c5 => simp; omega
        all_goals try rfl
        intro v' w7 hown7 hgrow7 _
        obtain ⟨ao', cp', rfl⟩ := own_shape2 hown7
        have HB7 := hide ((unhide HB).trans (((Below.refl w.heap.size _).alloc (by omega) _).grown hgrow7 (by simp; omega) (fun q hq => ((unhide HO).lt q hq).1)))
        have HO7 : Hid (w7.ownsRow w.heap.size 3 1 (.slice ao' (dl + 1) cp') (restS S (r.take (k + 1))).length (ic (restS S (r.take (k + 1))))) := by
          show World.ownsRow _ _ _ _ _ _ _
          rw [unhide HT, List.length_append, unhide HDL, ic_append]
          exact hown7
        clear hown7 hgrow7 HO HB
        go_wp2
        go_roundw
        case rel => exact ⟨k + 1, by omega, by go_num, unhide HO7, unhide HB7⟩
        case measure => simp [intOf]; omega
    · have hkn : k = n := by omega
      subst hkn
      have q1 : ¬ (k : Int) < k := by omega
      rw [← unhide HN, List.take_length] at hO
      have HX : Hid (wr.ownsRow w.heap.size 3 1 (.slice ao (restS S (r.take k)).length cp) (restS S r).length (ic (restS S r)) ∧ Below w.heap.size w wr) := by
        rw [← unhide HN, List.take_length]
        exact ⟨hO, hB⟩
      generalize (restS S (r.take k)).length = dl at *
      clear hO hB
      go_wp2
      go_ret
      exact ⟨_, rfl, unhide HX⟩
/-- what is left of rows -/
def leftR (Rs : List (List Int)) (K : List Int) : List (List Int) := Rs.map (restS (inZ K))
theorem leftR_len (Rs : List (List Int)) (K : List Int) : (leftR Rs K).length = Rs.length := by simp [leftR]
/-- rows of the call's own: values of a row, and where they lead -/
def LfC (base : Nat) (wr : World) (L : Nat → List Int) (k : Nat) (Vs : List Value) : Prop := ∀ j, j < k → ∃ b c, Vs[j]? = some (.slice b (L j).length c) ∧ wr.ownsRow base 3 1 (.slice b (L j).length c) (L j).length (ic (L j))
theorem LfC.ki {base : Nat} {wr wr' : World} {L : Nat → List Int} {k : Nat} {Vs : List Value} (h : LfC base wr L k Vs) (hk : KI wr wr') : LfC base wr' L k Vs := fun j hj => by
  obtain ⟨b, c, h1, h2⟩ := h j hj
  exact ⟨b, c, h1, own_ki h2 hk⟩
theorem LfC.snoc {base : Nat} {wr : World} {L : Nat → List Int} {k : Nat} {Vs : List Value} (h : LfC base wr L k Vs) (hl : Vs.length = k) {b : Option Addr} {c : Nat} (hI : wr.ownsRow base 3 1 (.slice b (L k).length c) (L k).length (ic (L k))) : LfC base wr L (k + 1) (Vs ++ [.slice b (L k).length c]) := fun j hj => by
  by_cases e : j < k
  · obtain ⟨b', c', h1, h2⟩ := h j e
    exact ⟨b', c', by rw [List.getElem?_append_left (by omega)]; exact h1, h2⟩
  · obtain rfl : j = k := by omega
    exact ⟨b, c, by rw [List.getElem?_append_right (by omega), hl]; simp, hI⟩
def RowsV (w : World) (v : Value) (Rs : List (List Int)) : Prop := ∃ a c, v = .slice a Rs.length c ∧ RowsA w a Rs
theorem LfC.rows {base base' : Nat} {wr : World} {Ls : List (List Int)} {Vs : List Value} {v : Value} (h : LfC base wr (gtN Ls) Ls.length Vs) (hO : wr.ownsRow base' 23 1 v Ls.length Vs) : RowsV wr v Ls := by
  obtain ⟨a, c, rfl⟩ := own_shape2 hO
  refine ⟨a, c, rfl, fun j hj => ?_⟩
  obtain ⟨g, e⟩ : ∃ g, a = some ⟨g, 0, none⟩ := by
    rcases hO.2 with ⟨_, h⟩ | ⟨g, c', cur, h, _⟩
    · omega
    · simp only [Value.slice.injEq] at h
      exact ⟨g, h.1⟩
  subst e
  obtain ⟨b, cc, h1, h2⟩ := h j hj
  rw [gtR_getN Ls j hj] at h1 h2
  refine ⟨g, 0, rfl, b, cc, ?_, ?_⟩
  · rw [Nat.zero_add, hO.cellAt j (by omega)]
    exact h1
  · obtain ⟨a0, c', e, hi, _⟩ := OwnI.ints (l := Ls[j]) h2
    simp only [Value.slice.injEq] at e
    rw [e.1]
    exact hi
theorem gtR_left (Rs : List (List Int)) (K : List Int) (k : Nat) (h : k < Rs.length) : gtN (leftR Rs K) k = restS (inZ K) Rs[k] := by
  rw [gtR_getN _ _ (by rw [leftR_len]; exact h)]
  simp [leftR]
set_option maxRecDepth 100000 in
set_option maxHeartbeats 1000000 in
theorem dleft_any (Rs : List (List Int)) (K : List Int) (a0 k0 : Option Addr) (c kc : Nat) (hm : Rs.length ≤ 1000) (hl : ∀ r ∈ Rs, r.length ≤ 10000) (hk : K.length ≤ 10000) (w : World) (hI : RowsA w a0 Rs) (hK : Ints w k0 K) :
    Calls Try.prog 19 #[.slice a0 Rs.length c, .slice k0 K.length kc] w fun e w' => ∃ v, e = .returned v ∧ RowsV w' v (leftR Rs K) ∧ Below w.heap.size w w' := by
  obtain ⟨i0, hi0, hz0, hz1, hz2⟩ := info_parts Try.infoIxN
  have HI := hide hI
  have HR : Hid (∀ (W : World) (j : Nat) (hj : j < Rs.length) (b : Option Addr) (d : Nat), Below w.heap.size w W → Ints w b (gtN Rs j) → Calls Try.prog 31 #[.slice b (gtN Rs j).length d, .slice k0 K.length kc] W fun e w' => ∃ v, e = .returned v ∧ w'.ownsRow W.heap.size 3 1 v (gtN (leftR Rs K) j).length (ic (gtN (leftR Rs K) j)) ∧ Below W.heap.size W w') := fun W j hj b d hb hi => by
    rw [gtR_left Rs K j hj]
    rw [gtR_getN Rs j hj] at hi ⊢
    exact drest_any Rs[j] K b k0 d kc (hl _ (List.getElem_mem hj)) hk W (hi.below hb) (hK.below hb)
  have HLL := hide (leftR_len Rs K)
  generalize leftR Rs K = Ls at *
  generalize K.length = l at *
  generalize hn : Rs.length = m at *
  have HN := hide hn
  clear hI hK hl
  go_enter Try.func19, Try.ntmps19
  go_wp2_with fail
  go_loopw [5, 6] (fun v u wr => ∃ (k : Nat) (Vs : List Value), k ≤ m ∧ u = .int .i64 k ∧ wr.ownsRow w.heap.size 23 1 v k Vs ∧ LfC w.heap.size wr (gtN Ls) k Vs ∧ Below w.heap.size w wr) (fun _ u _ => m - (intOf u).toNat)
  case atStart => exact ⟨0, [], by omega, rfl, World.ownsRow_nil _ _ _ _, fun j hj => absurd hj (by omega), Below.refl _ _⟩
  case round =>
    obtain ⟨k, Vs, hk', rfl, hO, hC, hB⟩ := hrel
    obtain ⟨na, nc, rfl⟩ := own_shape2 hO
    have hbs := hB.size
    by_cases hlt : k < m
    · have hlt' : k < Rs.length := by rw [unhide HN]; exact hlt
      obtain ⟨g, o, rfl, b, cc, c0, hIk⟩ := unhide HI k hlt'
      rw [← gtR_getN Rs k hlt'] at c0 hIk
      have c1 := cell_below c0 hB
      have hr := hide (unhide HR wr k hlt b cc hB hIk)
      have q1 : (k : Int) < m := by omega
      have HO := hide hO
      have HB := hide hB
      have HC := hide hC
      have hvl : Vs.length = k := by have := hO.1; omega
      generalize (gtN Rs k).length = rl at *
      clear hO hB hC c0 hIk hlt'
      go_wp2_with fail
      refine (unhide hr).mono ?_
      rintro e w5 ⟨v5, rfl, hO5, b5⟩
      obtain ⟨ra, rc, rfl⟩ := own_shape2 hO5
      have HB5 := hide ((unhide HB).trans (b5.mono hbs))
      have HV5 := hide (own_below2 (unhide HO) b5)
      have HCN := hide (fun (W : World) (hki : KI w5 W) => (((unhide HC).ki (KI.of_below b5)).ki hki).snoc (c := rc) hvl (own_ki (own_mono hO5 hbs) hki))
      have hb5s := (unhide HB5).size
      generalize (gtN Ls k).length = lk at *
      clear hO5 b5 HO HB HC hr
      go_wp2_with (at_builtin; refine wpList_append_own _ rfl _ _ 22 rfl w.heap.size 23 i0 _ 1 24 Try.undIxN hi0 hz0 hz1 hz2 rfl (by decide) _ _ _ rfl ((unhide HV5).alloc _) ⟨w5.heap.size, 0, none⟩ 1 1 [.slice ra lk rc] rfl rfl (news_lit _ [_] _) ?d2 ?d3 ?d4 ?d5 ?_)
      case d2 => first | rfl | (intro u hu; simp at hu; rw [hu]; rfl)
      case d3 => unfold maxLen; omega
      case d4 => omega
      case d5 => first | omega | (simp; omega)
      all_goals try rfl
      intro v' w7 hown7 hgrow7 _
      obtain ⟨na7, nc7, rfl⟩ := own_shape2 hown7
      have hki7 : KI w5 w7 := (KI.of_below ((Below.refl _ _).alloc (Nat.le_refl _) _)).trans (KI.grown ((unhide HV5).alloc _) (by decide) hgrow7 hgrow7.size)
      have HC7 := hide (unhide HCN w7 hki7)
      have HB7 := hide ((unhide HB5).trans (((Below.refl w.heap.size _).alloc (by omega) _).grown hgrow7 (by first | omega | (simp; omega)) (fun q hq => ((unhide HV5).lt q hq).1)))
      have HO7 := hide hown7
      clear hown7 hgrow7 hki7
      go_wp2
      go_roundw
      case rel => exact ⟨k + 1, _, by omega, by go_num, unhide HO7, unhide HC7, unhide HB7⟩
      case measure => simp [intOf]; omega
    · have hkl : k = m := by omega
      subst hkl
      have q1 : ¬ (k : Int) < k := by omega
      have HX : Hid (RowsV wr (.slice na k nc) Ls ∧ Below w.heap.size w wr) := ⟨LfC.rows (by rw [unhide HLL]; exact hC) (by rw [unhide HLL]; exact hO), hB⟩
      clear hO hC hB
      go_wp2
      go_ret
      exact ⟨_, rfl, unhide HX⟩
end Go.Proofs.Ytfihpmhobjjaaaa

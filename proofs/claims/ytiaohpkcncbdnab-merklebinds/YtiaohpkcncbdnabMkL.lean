/- Levels in memory; contracts of merkle's partner, above. -/
import Derived.Test.YtiaohpkcncbdnabMkJ
import Derived.Deep.RegionLaw
namespace Go.Proofs.Ytiaohpkcncbdnab
open Go.RowKit
set_option linter.unusedVariables false
variable {Bq : Nat}

theorem xor_pt (i : Nat) (h : i < 1024) : bits .xor .i64 (i : Int) 1 = (pt i : Int) := by
  have : ∀ j : Fin 1024, bits .xor .i64 (j.val : Int) 1 = (pt j.val : Int) := by decide +kernel
  exact this ⟨i, h⟩
theorem partner_any (n i : Nat) (w : World) (h1 : n ≤ 1024) (h2 : i < 1024) :
    Calls Try.prog 31 #[.int .i64 n, .int .i64 i] w fun e w' => e = .returned (.tuple #[.int .i64 (pt i), .bool (decide (pt i < n))]) ∧ w = w' := by
  have hx := xor_pt i h2
  go_enter Try.func31, Try.ntmps31
  go_wp2
  go_ret2
  exact ⟨rfl, rfl⟩

/-- the cells of parts -/
def PC (Bq : Nat) (w : World) (xs : List Value) (ps : List Prt) : Prop := xs.length = ps.length * 2 ∧ ∀ i (h : i < ps.length), xs[2 * i]? = some (.string (bs (ps[i]).1)) ∧ ∃ t0 c, xs[2 * i + 1]? = some (.slice t0 (ps[i]).2.length c) ∧ Strs Bq w t0 (ps[i]).2 c ∧ (ps[i]).2.length ≤ c
theorem PC.below {w w' : World} {xs : List Value} {ps : List Prt} (h : PC Bq w xs ps) (hb : Below w.heap.size w w') : PC Bq w' xs ps := ⟨h.1, fun i hi => by
  obtain ⟨h1, t0, c, h2, h3, h4⟩ := h.2 i hi
  exact ⟨h1, t0, c, h2, h3.below hb, h4⟩⟩
theorem PC.nil (w : World) : PC Bq w [] [] := ⟨rfl, fun i hi => by simp at hi⟩
theorem PC.snoc {w : World} {xs : List Value} {ps : List Prt} {p : Prt} {t0 : Option Addr} {c : Nat} (h : PC Bq w xs ps) (hs : Strs Bq w t0 p.2 c) (hc : p.2.length ≤ c) : PC Bq w (xs ++ [.string (bs p.1), .slice t0 p.2.length c]) (ps ++ [p]) := by
  refine ⟨by simp [h.1]; omega, fun i hi => ?_⟩
  have hx := h.1
  by_cases e : i < ps.length
  · obtain ⟨h1, t1, c1, h2, h3, h4⟩ := h.2 i e
    rw [List.getElem?_append_left (by omega), List.getElem?_append_left (by omega)]
    simp only [List.getElem_append_left e]
    exact ⟨h1, t1, c1, h2, h3, h4⟩
  · have ei : i = ps.length := by simp at hi; omega
    subst ei
    rw [List.getElem?_append_right (by omega), List.getElem?_append_right (by omega)]
    rw [show 2 * ps.length - xs.length = 0 by omega, show 2 * ps.length + 1 - xs.length = 1 by omega]
    simp only [List.getElem_append_right (Nat.le_refl _), Nat.sub_self]
    exact ⟨rfl, t0, c, rfl, hs, hc⟩
/-- a level of the call's own -/
def OwnP (Bq : Nat) (w : World) (base : Nat) (v : Value) (ps : List Prt) : Prop := ∃ xs, w.ownsRow base 49 2 v ps.length xs ∧ PC Bq w xs ps
theorem own_below2 {w w' : World} {base n size : Nat} {e : TypeId} {v : Value} {xs : List Value} (h : w.ownsRow base e size v n xs) (hb : Below w.heap.size w w') : w'.ownsRow base e size v n xs := by
  refine ⟨h.1, ?_⟩
  rcases h.2 with h2 | ⟨g, cap, cur, hv, hg, hh, r⟩
  · exact .inl h2
  · exact .inr ⟨g, cap, cur, hv, hg, (hb.block g (lt_of_block hh)).trans hh, r⟩
theorem OwnP.below {w w' : World} {base : Nat} {v : Value} {ps : List Prt} (h : OwnP Bq w base v ps) (hb : Below w.heap.size w w') : OwnP Bq w' base v ps := by
  obtain ⟨xs, h1, h2⟩ := h
  exact ⟨xs, own_below2 h1 hb, h2.below hb⟩
theorem OwnP.nil (w : World) (base : Nat) : OwnP Bq w base (.slice none 0 0) [] := ⟨[], World.ownsRow_nil _ _ _ _, PC.nil w⟩
theorem own_shapeN {w : World} {base n size : Nat} {e : TypeId} {v : Value} {xs : List Value} (hown : w.ownsRow base e size v n xs) : ∃ ao cap, v = .slice ao n cap := by
  rcases hown.2 with ⟨h', h0⟩ | ⟨g, cap', cur, h', _⟩
  · exact ⟨none, 0, by rw [h', h0]⟩
  · exact ⟨_, _, h'⟩
/-- a level, as it is read -/
def LvlAt (Bq : Nat) (w : World) (a0 : Option Addr) (ps : List Prt) : Prop := ∀ i (h : i < ps.length), ∃ g t0 c, a0 = some ⟨g, 0, none⟩ ∧ w.cell? ⟨g, i * 2, none⟩ = some (.string (bs (ps[i]).1)) ∧ w.cell? ⟨g, i * 2 + 1, none⟩ = some (.slice t0 (ps[i]).2.length c) ∧ Strs Bq w t0 (ps[i]).2 c ∧ (ps[i]).2.length ≤ c ∧ ∃ cur fr, w.heap[g]? = some (.cells cur 49 fr)
theorem LvlAt.below {w w' : World} {a0 : Option Addr} {ps : List Prt} (h : LvlAt Bq w a0 ps) (hb : Below w.heap.size w w') : LvlAt Bq w' a0 ps := fun i hi => by
  obtain ⟨g, t0, c, h1, h2, h3, h4, h5, cur, fr, h6⟩ := h i hi
  exact ⟨g, t0, c, h1, cell_below h2 hb, cell_below h3 hb, h4.below hb, h5, cur, fr, (hb.block g (lt_of_block h6)).trans h6⟩
theorem OwnP.lvl {w : World} {base : Nat} {v : Value} {ps : List Prt} (h : OwnP Bq w base v ps) : ∃ a0 c, v = .slice a0 ps.length c ∧ LvlAt Bq w a0 ps ∧ ps.length ≤ c ∧ c ≤ maxLen := by
  obtain ⟨xs, hown, hpc⟩ := h
  rcases hown.2 with ⟨rfl, h0⟩ | ⟨g, cap, cur, rfl, _, hg, hnc, hcm, hcs, htake⟩
  · exact ⟨none, 0, by rw [h0], fun i hi => absurd hi (by omega), by omega, by unfold maxLen; omega⟩
  · refine ⟨some ⟨g, 0, none⟩, cap, rfl, fun i hi => ?_, hnc, hcm⟩
    obtain ⟨h1, t0, c, h2, h3, h4⟩ := hpc.2 i hi
    exact ⟨g, t0, c, rfl, (hown.cellAt (i * 2) (by omega)).trans (by rw [Nat.mul_comm]; exact h1), (hown.cellAt (i * 2 + 1) (by omega)).trans (by rw [Nat.mul_comm i 2]; exact h2), h3, h4, _, _, hg⟩

/-- how many texts there are in all -/
def tot : List Prt → Nat
  | [] => 0
  | p :: ps => p.2.length + tot ps
theorem tot_append (a b : List Prt) : tot (a ++ b) = tot a + tot b := by
  induction a with
  | nil => simp [tot]
  | cons p a ih => rw [List.cons_append, tot, tot, ih]; omega
theorem tot_mem (ps : List Prt) (i : Nat) (h : i < ps.length) : (ps[i]).2.length ≤ tot ps := by
  induction ps generalizing i with
  | nil => simp at h
  | cons p ps ih =>
    rw [tot]
    cases i with
    | zero => simp
    | succ i => have := ih i (by simpa using h); simp; omega
theorem tot_two (ps : List Prt) (i j : Nat) (hij : i < j) (h : j < ps.length) : (ps[i]).2.length + (ps[j]).2.length ≤ tot ps := by
  induction ps generalizing i j with
  | nil => simp at h
  | cons p ps ih =>
    rw [tot]
    cases i with
    | zero =>
      obtain ⟨j, rfl⟩ : ∃ k, j = k + 1 := ⟨j - 1, by omega⟩
      have := tot_mem ps j (by simpa using h)
      simp; omega
    | succ i =>
      obtain ⟨j, rfl⟩ : ∃ k, j = k + 1 := ⟨j - 1, by omega⟩
      have := ih i j (by omega) (by simpa using h)
      simp; omega
/-- a level that may be -/
structure Good (ps : List Prt) : Prop where
  each : ∀ p ∈ ps, p.1.length = 32 ∧ 1 ≤ p.2.length
  all : tot ps + ps.length ≤ 1000
theorem abv_tot (H : By → By) : ∀ ps : List Prt, tot (abv H ps) + (abv H ps).length = tot ps + ps.length
  | [] => rfl
  | [a] => by simp [abv]
  | a :: b :: r => by
    have ih := abv_tot H r
    rw [abv, tot, tot, tot]
    simp only [List.length_cons, joinP, List.length_append, List.length_nil]
    omega
theorem abv_each (H : By → By) (hH : ∀ t, (H t).length = 32) : ∀ ps : List Prt, (∀ p ∈ ps, p.1.length = 32 ∧ 1 ≤ p.2.length) → ∀ p ∈ abv H ps, p.1.length = 32 ∧ 1 ≤ p.2.length
  | [], h, p, hp => by simp [abv] at hp
  | [a], h, p, hp => h p (by simpa [abv] using hp)
  | a :: b :: r, h, p, hp => by
    rw [abv, List.mem_cons] at hp
    rcases hp with rfl | hp
    · exact ⟨hH _, by simp [joinP]; omega⟩
    · exact abv_each H hH r (fun q hq => h q (by simp [hq])) p hp
theorem Good.abv {ps : List Prt} (h : Good ps) : Good (abv shaSum ps) := ⟨abv_each shaSum shaSum_length ps h.each, by rw [abv_tot]; exact h.all⟩

theorem abv_take_two (H : By → By) (ps : List Prt) (k : Nat) (h : 2 * k + 1 < ps.length) : abv H (ps.take (2 * (k + 1))) = abv H (ps.take (2 * k)) ++ [joinP H (ps[2 * k]) (ps[2 * k + 1])] := by
  rw [show 2 * (k + 1) = 2 * k + 1 + 1 by omega, List.take_succ_eq_append_getElem h, List.take_succ_eq_append_getElem (by omega), List.append_assoc, abv_append]
  · rfl
  · rw [List.length_take]; omega
theorem abv_take_one (H : By → By) (ps : List Prt) (k : Nat) (h : 2 * k + 1 = ps.length) : abv H (ps.take (2 * (k + 1))) = abv H (ps.take (2 * k)) ++ [ps[2 * k]] := by
  rw [show 2 * (k + 1) = 2 * k + 1 + 1 by omega, List.take_of_length_le (show ps.length ≤ 2 * k + 1 + 1 by omega)]
  have e := List.take_of_length_le (l := ps) (show ps.length ≤ 2 * k + 1 by omega)
  rw [List.take_succ_eq_append_getElem (by omega)] at e
  conv => lhs; rw [← e]
  rw [abv_append]
  · simp [abv]
  · rw [List.length_take]; omega

theorem Try.infoP : (Try.prog.info? 49).map (fun i => (i.zero, i.size, i.bytes)) = some (some (.agg #[.string ⟨#[]⟩, .slice none 0 0]), 2, 40) := by kernel_rfl
theorem Try.undP : Try.prog.underlying 65 = some (.slice 49) := by kernel_rfl
theorem news_two' (w : World) (x y : Value) (t : TypeId) : ∀ j u, [x, y][j]? = some u → (w.alloc (.cells #[x, y] t)).cell? ((⟨w.heap.size, 0, none⟩ : Addr).add j) = some u := by
  intro j u h
  rw [Addr.add_mid, Nat.zero_add, cell_of_row _ _ j _ t (0, 0) (heap_alloc_new w (.cells #[x, y] t))]
  simpa using h

theorem cell_same {w w' : World} {g o : Nat} (h : w'.heap[g]? = w.heap[g]?) : w'.cell? ⟨g, o, none⟩ = w.cell? ⟨g, o, none⟩ := by
  simp [World.cell?, h]
theorem Strs.grown {w w' : World} {a0 : Option Addr} {T : List By} {c : Nat} {ob : Option Nat} (h : Strs Bq w a0 T c) (hg : w.grownBy w' ob) (hob : ∀ q, ob = some q → ∃ cur e fr, w.heap[q]? = some (.cells cur e fr) ∧ e ≠ 9) : Strs Bq w' a0 T c := fun i hi => by
  obtain ⟨g, o, h1, h2, cur, fr, h3, h9⟩ := h i hi
  have hx := hg.block g (lt_of_block h3) (fun he => by
    obtain ⟨cur', e', fr', h4, h5⟩ := hob g he.symm
    rw [h3] at h4
    simp at h4
    exact h5 h4.2.1.symm)
  exact ⟨g, o, h1, (cell_same hx).trans h2, cur, fr, hx.trans h3, h9⟩
theorem PC.grown {w w' : World} {xs : List Value} {ps : List Prt} {ob : Option Nat} (h : PC Bq w xs ps) (hg : w.grownBy w' ob) (hob : ∀ q, ob = some q → ∃ cur e fr, w.heap[q]? = some (.cells cur e fr) ∧ e ≠ 9) : PC Bq w' xs ps := ⟨h.1, fun i hi => by
  obtain ⟨h1, t0, c, h2, h3, h4⟩ := h.2 i hi
  exact ⟨h1, t0, c, h2, h3.grown hg hob, h4⟩⟩
theorem own_typed {w : World} {base n size : Nat} {e : TypeId} {v : Value} {xs : List Value} (h : w.ownsRow base e size v n xs) (he : e ≠ 9) : ∀ q, v.ownBlock = some q → ∃ cur e fr, w.heap[q]? = some (.cells cur e fr) ∧ e ≠ 9 := fun q hq => by
  rcases h.2 with ⟨rfl, _⟩ | ⟨g, cap, cur, rfl, _, hg, _⟩
  · simp [Value.ownBlock] at hq
  · have : g = q := by simpa [Value.ownBlock] using hq
    subst this
    exact ⟨_, _, _, hg, he⟩
/-- one more part behind those of a row -/
theorem OwnP.more {w w' : World} {base : Nat} {v v' : Value} {ps : List Prt} {xs : List Value} {p : Prt} {t0 : Option Addr} {c : Nat} (hown : w.ownsRow base 49 2 v ps.length xs) (hpc : PC Bq w xs ps) (hs : Strs Bq w t0 p.2 c) (hc : p.2.length ≤ c)
    (hown' : w'.ownsRow base 49 2 v' (ps.length + 1) (xs ++ [.string (bs p.1), .slice t0 p.2.length c])) (hg : w.grownBy w' v.ownBlock) : OwnP Bq w' base v' (ps ++ [p]) := by
  refine ⟨_, by rw [List.length_append]; exact hown', (hpc.grown hg (own_typed hown (by decide))).snoc (hs.grown hg (own_typed hown (by decide))) hc⟩

theorem LvlAt.grown {w w' : World} {a0 : Option Addr} {ps : List Prt} {ob : Option Nat} (h : LvlAt Bq w a0 ps) (hg : w.grownBy w' ob) (hob : ∀ q, ob = some q → ∃ cur e fr, w.heap[q]? = some (.cells cur e fr) ∧ e ≠ 9 ∧ e ≠ 49) : LvlAt Bq w' a0 ps := fun i hi => by
  obtain ⟨g, t0, c, h1, h2, h3, h4, h5, cur, fr, h6⟩ := h i hi
  have hx := hg.block g (lt_of_block h6) (fun he => by
    obtain ⟨cur', e', fr', h7, _, h8⟩ := hob g he.symm
    rw [h6] at h7
    simp at h7
    exact h8 h7.2.1.symm)
  exact ⟨g, t0, c, h1, (cell_same hx).trans h2, (cell_same hx).trans h3, h4.grown hg (fun q hq => by obtain ⟨a, b, c, d, e, _⟩ := hob q hq; exact ⟨a, b, c, d, e⟩), h5, cur, fr, hx.trans h6⟩
theorem own_typed2 {w : World} {base n size : Nat} {e : TypeId} {v : Value} {xs : List Value} (h : w.ownsRow base e size v n xs) (he : e ≠ 9) (he2 : e ≠ 49) : ∀ q, v.ownBlock = some q → ∃ cur e fr, w.heap[q]? = some (.cells cur e fr) ∧ e ≠ 9 ∧ e ≠ 49 := fun q hq => by
  rcases h.2 with ⟨rfl, _⟩ | ⟨g, cap, cur, rfl, _, hg, _⟩
  · simp [Value.ownBlock] at hq
  · have : g = q := by simpa [Value.ownBlock] using hq
    subst this
    exact ⟨_, _, _, hg, he, he2⟩
/-- texts as they are handed in -/
def Txts (w : World) (a0 : Option Addr) (T : List By) : Prop := ∀ i (h : i < T.length), ∃ g o, a0 = some ⟨g, o, none⟩ ∧ w.cell? ⟨g, o + i, none⟩ = some (.string (bs T[i]))
theorem Txts.below {w w' : World} {a0 : Option Addr} {T : List By} (h : Txts w a0 T) (hb : Below w.heap.size w w') : Txts w' a0 T := fun i hi => by
  obtain ⟨g, o, h1, h2⟩ := h i hi
  exact ⟨g, o, h1, cell_below h2 hb⟩
theorem Strs.txts {w : World} {a0 : Option Addr} {T : List By} {c : Nat} (h : Strs Bq w a0 T c) : Txts w a0 T := fun i hi => by
  obtain ⟨g, o, h1, h2, _⟩ := h i hi
  exact ⟨g, o, h1, h2⟩
/-- levels, one on the other -/
def Levs (Bq : Nat) (w : World) (base : Nat) (v : Value) (ps : List Prt) (t : Nat) : Prop := ∃ vs, w.ownsRow base 65 1 v t vs ∧ vs.length = t ∧ ∀ j, j < t → ∃ aj cj, vs[j]? = some (.slice aj (abvN shaSum j ps).length cj) ∧ LvlAt Bq w aj (abvN shaSum j ps) ∧ (abvN shaSum j ps).length ≤ cj ∧ cj ≤ maxLen
theorem Levs.below {w w' : World} {base : Nat} {v : Value} {ps : List Prt} {t : Nat} (h : Levs Bq w base v ps t) (hb : Below w.heap.size w w') : Levs Bq w' base v ps t := by
  obtain ⟨vs, h1, h2, h3⟩ := h
  refine ⟨vs, own_below2 h1 hb, h2, fun j hj => ?_⟩
  obtain ⟨aj, cj, h4, h5, h6⟩ := h3 j hj
  exact ⟨aj, cj, h4, h5.below hb, h6⟩
theorem Levs.nil (w : World) (base : Nat) (ps : List Prt) : Levs Bq w base (.slice none 0 0) ps 0 := ⟨[], World.ownsRow_nil _ _ _ _, rfl, fun j hj => absurd hj (by omega)⟩
theorem Levs.more {w w' : World} {base t : Nat} {v v' : Value} {ps : List Prt} {vs : List Value} {a : Option Addr} {c : Nat} (hown : w.ownsRow base 65 1 v t vs) (hl : vs.length = t) (hv : ∀ j, j < t → ∃ aj cj, vs[j]? = some (.slice aj (abvN shaSum j ps).length cj) ∧ LvlAt Bq w aj (abvN shaSum j ps) ∧ (abvN shaSum j ps).length ≤ cj ∧ cj ≤ maxLen)
    (hs : LvlAt Bq w a (abvN shaSum t ps)) (hc : (abvN shaSum t ps).length ≤ c) (hcm : c ≤ maxLen) (hown' : w'.ownsRow base 65 1 v' (t + 1) (vs ++ [.slice a (abvN shaSum t ps).length c])) (hg : w.grownBy w' v.ownBlock) : Levs Bq w' base v' ps (t + 1) := by
  refine ⟨_, hown', by simp [hl], fun j hj => ?_⟩
  by_cases e : j < t
  · obtain ⟨aj, cj, h4, h5, h6⟩ := hv j e
    exact ⟨aj, cj, by rw [List.getElem?_append_left (by omega)]; exact h4, h5.grown hg (own_typed2 hown (by decide) (by decide)), h6⟩
  · obtain rfl : j = t := by omega
    exact ⟨a, c, by rw [List.getElem?_append_right (by omega), hl, Nat.sub_self]; rfl, hs.grown hg (own_typed2 hown (by decide) (by decide)), hc, hcm⟩
theorem Good.leaves (ss : List By) (h : ss.length ≤ 256) : Good (ss.map (leafP shaSum)) := by
  refine ⟨fun p hp => ?_, ?_⟩
  · obtain ⟨s, _, rfl⟩ := List.mem_map.1 hp
    exact ⟨shaSum_length _, by simp [leafP]⟩
  · have : ∀ l : List By, tot (l.map (leafP shaSum)) = l.length := fun l => by
      induction l with
      | nil => rfl
      | cons a l ih => rw [List.map_cons, tot, ih]; simp [leafP]; omega
    rw [this, List.length_map]
    omega
theorem Good.abvN {ps : List Prt} (h : Good ps) : ∀ t, Good (abvN shaSum t ps)
  | 0 => h
  | t + 1 => (Good.abvN h t).abv
/-- how long a slice is -/
def lenOf : Value → Nat
  | .slice _ n _ => n
  | _ => 0

end Go.Proofs.Ytiaohpkcncbdnab

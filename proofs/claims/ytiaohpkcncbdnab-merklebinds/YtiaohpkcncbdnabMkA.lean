/- Contracts of merkle's small functions; how parts and levels lie in memory. -/
import Derived.Test.YtiaohpkcncbdnabShaH
import Derived.Test.YtiaohpkcncbdnabMkPure
import Derived.Test.YtiaohpkcncbdnabGr
import Derived.Test.YtiaohpkcncbdnabShaDt
namespace Go.Proofs.Ytiaohpkcncbdnab
open Go.RowKit
set_option linter.unusedVariables false
variable {Bq : Nat}

/-- bytes as a string -/
def bs (l : By) : ByteArray := ⟨l.toArray⟩
theorem bs_list (l : By) : (bs l).data.toList = l := rfl
theorem bs_size (l : By) : (bs l).size = l.length := by show l.toArray.size = _; simp
theorem bs_of (s : ByteArray) : bs s.data.toList = s := rfl
theorem bs_inj {a b : By} (h : bs a = bs b) : a = b := by have := congrArg (fun s : ByteArray => s.data.toList) h; exact this
theorem bs_leaf (s : By) : (⟨#[0]⟩ : ByteArray) ++ bs s = bs (leafT s) := by
  have h : ((⟨#[0]⟩ : ByteArray) ++ bs s).data.toList = leafT s := by rw [bapp, bs_list]; rfl
  rw [← h]
  rfl
theorem bs_knot (l r : By) : (⟨#[1]⟩ : ByteArray) ++ bs l ++ bs r = bs (knotT l r) := by
  have h : ((⟨#[1]⟩ : ByteArray) ++ bs l ++ bs r).data.toList = knotT l r := by rw [bapp, bapp, bs_list, bs_list]; simp [knotT]
  rw [← h]
  rfl

/-- the sum of a text that is not too long -/
theorem msum_any (t : By) (w : World) (h : t.length ≤ 65536) :
    Calls Try.prog 22 #[.string (bs t)] w fun e w' => e = .returned (.string (bs (shaSum t))) ∧ Below w.heap.size w w' := sum_any w (bs t) (by rw [bs_size]; exact h)

theorem leafText_any (s : By) (w : World) (h : s.length ≤ 65000) :
    Calls Try.prog 23 #[.string (bs s)] w fun e w' => e = .returned (.string (bs (leafT s))) ∧ w = w' := by
  have hb := hide (bs_leaf s)
  have hsz : (bs s).size ≤ 65000 := by rw [bs_size]; exact h
  generalize bs s = B at *
  generalize bs (leafT s) = T at *
  have z1 : (⟨#[0]⟩ : ByteArray).size = 1 := rfl
  go_enter Try.func23, Try.ntmps23
  go_wp2
  go_ret
  exact ⟨by rw [← unhide hb]; rfl, rfl⟩
theorem knotText_any (l r : By) (w : World) (h1 : l.length ≤ 32000) (h2 : r.length ≤ 32000) :
    Calls Try.prog 32 #[.string (bs l), .string (bs r)] w fun e w' => e = .returned (.string (bs (knotT l r))) ∧ w = w' := by
  have hb := hide (bs_knot l r)
  have hs1 : (bs l).size ≤ 32000 := by rw [bs_size]; exact h1
  have hs2 : (bs r).size ≤ 32000 := by rw [bs_size]; exact h2
  generalize bs l = A at *
  generalize bs r = B at *
  generalize bs (knotT l r) = T at *
  have z1 : (⟨#[1]⟩ : ByteArray).size = 1 := rfl
  go_enter Try.func32, Try.ntmps32
  go_wp2
  go_ret
  exact ⟨by rw [← unhide hb]; rfl, rfl⟩
theorem mleaf_any (s : By) (w : World) (h : s.length ≤ 65000) :
    Calls Try.prog 10 #[.string (bs s)] w fun e w' => e = .returned (.string (bs (shaSum (leafT s)))) ∧ Below w.heap.size w w' := by
  have h1 := hide (fun w => leafText_any s w h)
  have h2 := hide (fun w => msum_any (leafT s) w (by simp [leafT]; omega))
  generalize bs s = B at *
  generalize bs (shaSum (leafT s)) = D at *
  generalize bs (leafT s) = T at *
  go_enter Try.func10, Try.ntmps10
  go_wp2_with fail
  refine (unhide h1 _).mono ?_
  rintro e w1 ⟨rfl, rfl⟩
  go_wp2_with fail
  refine (unhide h2 _).mono ?_
  rintro e w2 ⟨rfl, b2⟩
  go_wp2
  go_ret
  exact ⟨rfl, b2⟩
theorem mknot_any (l r : By) (w : World) (h1 : l.length ≤ 32000) (h2 : r.length ≤ 32000) :
    Calls Try.prog 18 #[.string (bs l), .string (bs r)] w fun e w' => e = .returned (.string (bs (shaSum (knotT l r)))) ∧ Below w.heap.size w w' := by
  have h1' := hide (fun w => knotText_any l r w h1 h2)
  have h2' := hide (fun w => msum_any (knotT l r) w (by simp [knotT]; omega))
  generalize bs l = A at *
  generalize bs r = B at *
  generalize bs (shaSum (knotT l r)) = D at *
  generalize bs (knotT l r) = T at *
  go_enter Try.func18, Try.ntmps18
  go_wp2_with fail
  refine (unhide h1' _).mono ?_
  rintro e w1 ⟨rfl, rfl⟩
  go_wp2_with fail
  refine (unhide h2' _).mono ?_
  rintro e w2 ⟨rfl, b2⟩
  go_wp2
  go_ret
  exact ⟨rfl, b2⟩

/-- texts in a row of cells -/
def Strs (Bq : Nat) (w : World) (a0 : Option Addr) (T : List By) (c : Nat) : Prop := ∀ i (h : i < T.length), ∃ g o, a0 = some ⟨g, o, none⟩ ∧ w.cell? ⟨g, o + i, none⟩ = some (.string (bs T[i])) ∧ ∃ cur fr, w.heap[g]? = some (.cells cur 9 fr) ∧ o = 0 ∧ Bq ≤ g ∧ fr = (0, 0) ∧ cur.size = c ∧ c ≤ maxLen
theorem Strs.lower {Bq Br : Nat} {w : World} {a0 : Option Addr} {T : List By} {c : Nat} (h : Strs Br w a0 T c) (hB : Bq ≤ Br) : Strs Bq w a0 T c := fun i hi => by
  obtain ⟨g, o, h1, h2, cur, fr, h3, h4, h5, h6⟩ := h i hi
  exact ⟨g, o, h1, h2, cur, fr, h3, h4, by omega, h6⟩
theorem cell_lt {w : World} {g o : Nat} {v : Value} (h : w.cell? ⟨g, o, none⟩ = some v) : g < w.heap.size := by
  rcases Nat.lt_or_ge g w.heap.size with h' | h'
  · exact h'
  · simp [World.cell?, Array.getElem?_eq_none h'] at h
theorem cell_below {w w' : World} {g o : Nat} {v : Value} (h : w.cell? ⟨g, o, none⟩ = some v) (hb : Below w.heap.size w w') : w'.cell? ⟨g, o, none⟩ = some v := by
  rw [hb.cell (p := ⟨g, o, none⟩) (cell_lt h)]
  exact h
theorem Strs.below {w w' : World} {a0 : Option Addr} {T : List By} {c : Nat} (h : Strs Bq w a0 T c) (hb : Below w.heap.size w w') : Strs Bq w' a0 T c := fun i hi => by
  obtain ⟨g, o, h1, h2, cur, fr, h3, hx⟩ := h i hi
  exact ⟨g, o, h1, cell_below h2 hb, cur, fr, (hb.block g (lt_of_block h3)).trans h3, hx⟩
/-- a part as a value -/
def PartIs (Bq : Nat) (w : World) (v : Value) (p : Prt) : Prop := ∃ a0 c, v = .agg #[.string (bs p.1), .slice a0 p.2.length c] ∧ Strs Bq w a0 p.2 c ∧ p.2.length ≤ c
theorem PartIs.below {w w' : World} {v : Value} {p : Prt} (h : PartIs Bq w v p) (hb : Below w.heap.size w w') : PartIs Bq w' v p := by
  obtain ⟨a0, c, h1, h2, h3⟩ := h
  exact ⟨a0, c, h1, h2.below hb, h3⟩

theorem ret_cell {fn : Func} {p : Tmp} {ty : TypeId} {a : Act} {w : World} {R : Ending → World → Prop} (h : fn.results = #[.cell p ty]) (g : Nat) (t : TypeId) (cs : Array Value) (fr : Nat × Nat) (fs : Array Field)
    (hp : a.tmps.getD p undef = .pointer (some ⟨g, 0, none⟩)) (hg : w.heap[g]? = some (.cells cs t fr)) (hdf : a.defers = [])
    (hu : Try.prog.underlying ty = some (.struct fs)) (hi : (Try.prog.info? ty).map (·.size) = some cs.size) (hR : R (.returned (.agg cs)) w) :
    bodyPost Try.prog fn R .ret a w := bodyPost_ret (results_cell_row h _ w g t cs fr _ hp hg hu rfl hi) hdf hR
theorem set_row {w : World} {g : Nat} {cs : Array Value} {t : TypeId} (h : w.heap[g]? = some (.cells cs t (0, 0))) (j : Nat) (v : Value) : (w.setCell ⟨g, j, none⟩ v).heap[g]? = some (.cells (cs.setIfInBounds j v) t (0, 0)) := heap_setCell_same w g j _ t _ h
theorem cell0_of_two {w : World} {b : Nat} {u v : Value} {t : TypeId} (h : w.heap[b]? = some (.cells #[u, v] t (0, 0))) : w.cell? ⟨b, 0, none⟩ = some u := by simp [World.cell?, h]
theorem cell1_of_two {w : World} {b : Nat} {u v : Value} {t : TypeId} (h : w.heap[b]? = some (.cells #[u, v] t (0, 0))) : w.cell? ⟨b, 1, none⟩ = some v := by simp [World.cell?, h]
theorem free_of_two {w : World} {b j : Nat} {u v : Value} {t : TypeId} (h : w.heap[b]? = some (.cells #[u, v] t (0, 0))) : w.frozen? ⟨b, j, none⟩ = false := by simp [World.frozen?, h]

theorem leafPart_any (s : By) (w : World) (h : s.length ≤ 60000) (hBq : Bq ≤ w.heap.size) :
    Calls Try.prog 40 #[.string (bs s)] w fun e w' => ∃ v, e = .returned v ∧ PartIs Bq w' v (leafP shaSum s) ∧ Below w.heap.size w w' := by
  have h1 := hide (fun w => leafText_any s w (by omega))
  have h2 := hide (fun w => msum_any (leafT s) w (by simp [leafT]; omega))
  have hT : Hid (leafP shaSum s = (shaSum (leafT s), [leafT s])) := rfl
  generalize bs s = B at *
  generalize hD : bs (shaSum (leafT s)) = D at *
  generalize hTx : bs (leafT s) = T at *
  have HD := hide hD
  have HT := hide hTx
  clear hD hTx
  go_enter Try.func40, Try.ntmps40
  go_wp2_with fail
  refine (unhide h1 _).mono ?_
  rintro e w1 ⟨rfl, rfl⟩
  go_wp2_with fail
  generalize hW : World.alloc _ _ = W
  have r0 : W.heap[w.heap.size]? = some (.cells #[.string ⟨#[]⟩, .slice none 0 0] 49 (0, 0)) := by rw [← hW]; exact heap_alloc_new _ _
  have b0 : Below w.heap.size w W := by rw [← hW]; exact (Below.refl _ _).alloc (Nat.le_refl _) _
  refine (unhide h2 _).mono ?_
  rintro e w2 ⟨rfl, b2⟩
  have r2 : w2.heap[w.heap.size]? = some (.cells #[.string ⟨#[]⟩, .slice none 0 0] 49 (0, 0)) := (b2.block _ (lt_of_block r0)).trans r0
  have B2 := hide (b0.trans (b2.mono b0.size))
  have c0 := cell0_of_two r2
  have c1 := cell1_of_two r2
  have f0 := free_of_two (j := 0) r2
  have f1 := free_of_two (j := 1) r2
  have R2 := hide r2
  have hl := lt_of_block r2
  clear hW r0 b0 b2 r2
  have HBq := hide hBq
  clear hBq
  go_wp2
  have hbw := ((unhide B2).setCell (p := ⟨w.heap.size, 0, none⟩) (Nat.le_refl _) (.string D)).setCell (p := ⟨w.heap.size, 1, none⟩) (Nat.le_refl _) (.slice (some ⟨w2.heap.size, 0, none⟩) 1 1)
  have hsz : ((w2.setCell ⟨w.heap.size, 0, none⟩ (.string D)).setCell ⟨w.heap.size, 1, none⟩ (.slice (some ⟨w2.heap.size, 0, none⟩) 1 1)).heap.size = w2.heap.size := by simp
  refine ret_cell rfl w.heap.size 49 #[.string D, .slice (some ⟨w2.heap.size, 0, none⟩) 1 1] (0, 0) _ rfl ((Below.heap_alloc _ _ _ (by rw [hsz]; exact hl)).trans (set_row (set_row (unhide R2) 0 _) 1 _)) rfl Try.underlying49 (by kernel_rfl) ⟨_, rfl, ?_, hbw.alloc hbw.size _⟩
  rw [unhide hT]
  have hn := heap_alloc_new ((w2.setCell ⟨w.heap.size, 0, none⟩ (.string D)).setCell ⟨w.heap.size, 1, none⟩ (.slice (some ⟨w2.heap.size, 0, none⟩) 1 1)) (.cells #[.string T] 9)
  rw [hsz] at hn
  refine ⟨some ⟨w2.heap.size, 0, none⟩, 1, by rw [unhide HD]; rfl, fun i hi => ⟨w2.heap.size, 0, rfl, ?_, _, _, hn, rfl, Nat.le_trans (unhide HBq) (unhide B2).size, rfl, rfl, by unfold maxLen; omega⟩, Nat.le_refl _⟩
  have hi0 : i = 0 := by simp at hi; omega
  subst hi0
  rw [cell_of_row _ _ _ _ _ _ hn]
  simp [unhide HT]

end Go.Proofs.Ytiaohpkcncbdnab

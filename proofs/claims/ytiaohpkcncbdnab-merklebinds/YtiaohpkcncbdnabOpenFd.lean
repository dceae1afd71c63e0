/- Arguments that are a Fold or a Forged, opened. -/
import Derived.Test.YtiaohpkcncbdnabOpenT
import Derived.Lib.SmallJoins
namespace Go.Proofs.Ytiaohpkcncbdnab
open Go.ChangeShapes Go.WideShapes Go.ChangeAt Go.RowKit Go.Joins Go.Deep
set_option linter.unusedVariables false

theorem txts_cell {H : Type} {enc : TypeId × Value → H} {P : Program} {W : World} {t e : TypeId} {v : Value} {fuel : Nat} {x : DataW H × List MemPlace}
    (ht : P.underlying t = some (.slice e)) (he : P.underlying e = some .string) (hc : P.cellsOf e = 1)
    (hf : DataW.trod enc P W 0 (fun _ => true) true fuel t [v] = some x) :
    ∃ a0 ss cap, v = .slice a0 (List.length (α := By) ss) cap ∧ Txts W a0 ss ∧ TxtsOk ss cap := by
  rcases open_strings ht he hc hf with ⟨hcs, hx⟩ | ⟨a, len, cap, ss, hcs, _, hl, hm, hz, hx, hcell, hws⟩
  · simp only [List.cons.injEq, and_true] at hcs
    subst hcs
    exact ⟨none, [], 0, rfl, fun i hi => absurd hi (by simp), by simp, by unfold maxLen; omega, by simp⟩
  · simp only [List.cons.injEq, and_true] at hcs
    subst hcs
    simp only [if_true] at hz
    have hlen : ((ss.take len).map (fun s => s.data.toList)).length = len := by simp; omega
    refine ⟨some a, (ss.take len).map (fun s => s.data.toList), cap, by rw [hlen], fun i hi => ?_, by rw [hlen]; exact hl, hm, fun s hs => ?_⟩
    · rw [hlen] at hi
      obtain ⟨b, off, spot⟩ := a
      have hspot : spot = none := by simpa [Addr.add] using World.cell?_spot (hcell 0 (by omega))
      subst hspot
      refine ⟨b, off, rfl, ?_⟩
      rw [← add_plain, hcell i (by omega)]
      have hi2 : i < ss.length := by omega
      have : ss.getD i ByteArray.empty = ss[i] := by simp [List.getD, hi2]
      rw [this]
      simp only [List.getElem_map, List.getElem_take]
      rfl
    · obtain ⟨x, hx1, rfl⟩ := List.mem_map.1 hs
      have := hws x (List.mem_of_mem_take hx1)
      rw [← bs_size]
      exact this
theorem array4'' {α : Type} {cs : Array α} (h : cs.size = 4) : ∃ a b c d, cs = #[a, b, c, d] := by
  obtain ⟨l⟩ := cs
  match l, h with
  | [a, b, c, d], _ => exact ⟨a, b, c, d, rfl⟩
theorem array2'' {α : Type} {cs : Array α} (h : cs.size = 2) : ∃ a b, cs = #[a, b] := by
  obtain ⟨l⟩ := cs
  match l, h with
  | [a, b], _ => exact ⟨a, b, rfl⟩
theorem open_fold {H : Type} {enc : TypeId × Value → H} {P : Program} {W : World} {r : Reach} {b0 : Nat} {t e : TypeId} {v : Value} {d : DataW H} {p : List MemPlace} {f0 f1 f2 f3 : Field}
    (ht : P.underlying t = some (.struct #[f0, f1, f2, f3])) (hC : P.cellsOf t = 4) (hI : P.cellsOf f0.type = 1 ∧ P.cellsOf f1.type = 1 ∧ P.cellsOf f2.type = 1 ∧ P.cellsOf f3.type = 1)
    (o0 : f0.offset = 0) (o1 : f1.offset = 1) (o2 : f2.offset = 2) (o3 : f3.offset = 3)
    (t0 : P.underlying f0.type = some (.int .i64)) (t1 : P.underlying f1.type = some (.int .i64)) (t2 : P.underlying f2.type = some .string) (t3 : P.underlying f3.type = some (.slice e)) (te : P.underlying e = some .string) (hc : P.cellsOf e = 1)
    (hval : Value.okWide P W r b0 t v) (h : DataW.Trod enc P W 0 (fun _ => true) true t v d p) :
    ∃ (a b : Int) (s : ByteArray) (a0 : Option Addr) (ss : List By) (cap : Nat), v = .agg #[.int .i64 a, .int .i64 b, .string s, .slice a0 ss.length cap] ∧ (Txts W a0 ss ∧ s.size ≤ maxLen) ∧ TxtsOk ss cap := by
  obtain ⟨cs, rfl, hsz⟩ := okWide_struct ht hval
  obtain ⟨c0, c1, c2, c3, rfl⟩ := array4'' (hsz.trans hC)
  obtain ⟨fuel, hf⟩ := h
  obtain ⟨y0, y1, y2, y3, n, _, _, h0, h1, h2, h3⟩ := trod_struct4 ht hf
  simp only [o0, o1, o2, o3, hI.1, hI.2.1, hI.2.2.1, hI.2.2.2, Value.cells, List.drop_zero, List.drop_succ_cons, List.take_succ_cons, List.take_zero] at h0 h1 h2 h3
  obtain ⟨a, e0, _, wa⟩ := DataW.trod_int t0 h0
  obtain ⟨b, e1, _, wb⟩ := DataW.trod_int t1 h1
  obtain ⟨s, e2, _, ws⟩ := DataW.trod_string t2 h2
  obtain ⟨a0, ss, cap, e3, hT, hk⟩ := txts_cell t3 te hc h3
  simp only [List.cons.injEq, and_true] at e0 e1 e2
  subst e0 e1 e2 e3
  exact ⟨a, b, s, a0, ss, cap, rfl, ⟨hT, ws⟩, hk⟩
theorem open_forged {H : Type} {enc : TypeId × Value → H} {P : Program} {W : World} {r : Reach} {b0 : Nat} {t e : TypeId} {v : Value} {d : DataW H} {p : List MemPlace} {f0 f1 : Field}
    (ht : P.underlying t = some (.struct #[f0, f1])) (hC : P.cellsOf t = 2) (hI : P.cellsOf f0.type = 1 ∧ P.cellsOf f1.type = 1)
    (o0 : f0.offset = 0) (o1 : f1.offset = 1)
    (t0 : P.underlying f0.type = some .string) (t1 : P.underlying f1.type = some (.slice e)) (te : P.underlying e = some .string) (hc : P.cellsOf e = 1)
    (hval : Value.okWide P W r b0 t v) (h : DataW.Trod enc P W 0 (fun _ => true) true t v d p) :
    ∃ (s : ByteArray) (a0 : Option Addr) (ss : List By) (cap : Nat), v = .agg #[.string s, .slice a0 ss.length cap] ∧ (Txts W a0 ss ∧ s.size ≤ maxLen) ∧ TxtsOk ss cap := by
  obtain ⟨cs, rfl, hsz⟩ := okWide_struct ht hval
  obtain ⟨c0, c1, rfl⟩ := array2'' (hsz.trans hC)
  obtain ⟨fuel, hf⟩ := h
  obtain ⟨y0, y1, n, _, _, h0, h1⟩ := trod_struct2 ht hf
  simp only [o0, o1, hI.1, hI.2, Value.cells, List.drop_zero, List.drop_succ_cons, List.take_succ_cons, List.take_zero] at h0 h1
  obtain ⟨s, e0, _, ws⟩ := DataW.trod_string t0 h0
  obtain ⟨a0, ss, cap, e1, hT, hk⟩ := txts_cell t1 te hc h1
  simp only [List.cons.injEq, and_true] at e0
  subst e0 e1
  exact ⟨s, a0, ss, cap, rfl, ⟨hT, ws⟩, hk⟩

end Go.Proofs.Ytiaohpkcncbdnab

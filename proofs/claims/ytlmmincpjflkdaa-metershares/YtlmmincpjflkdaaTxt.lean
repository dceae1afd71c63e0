
/- Texts, rows of texts and rows of numbers: as they are read, as a call's own; nothing of the program but its types. -/
import Derived.Test.YtlmmincpjflkdaaLib
import Derived.Test.YtlmmincpjflkdaaGr
import Derived.Deep.RegionLaw
import Derived.Laws.OwnMore
import Derived.ProofKit
import Derived.OpenShut
import Derived.SliceStrings
import Derived.ChangeOld
namespace Go.Proofs.Ytlmmincpjflkdaa
open Go.ChangeShapes Go.WideShapes Go.ChangeAt Go.RowKit
set_option linter.unusedVariables false

theorem Try.infoU : (Try.prog.info? 5).map (fun i => (i.zero, i.size, i.bytes)) = some (some (.int .u8 0), 1, 1) := by kernel_rfl
abbrev By := List UInt8
/-- bytes as a string -/
def bs (l : By) : ByteArray := ⟨l.toArray⟩
theorem bs_list (l : By) : (bs l).data.toList = l := rfl
theorem bs_size (l : By) : (bs l).size = l.length := by show l.toArray.size = _; simp
theorem bs_of (s : ByteArray) : bs s.data.toList = s := rfl
theorem bs_inj {a b : By} (h : bs a = bs b) : a = b := by have := congrArg (fun s : ByteArray => s.data.toList) h; exact this
theorem bs_eq (a b : By) : (bs a = bs b) ↔ a = b := ⟨bs_inj, fun h => by rw [h]⟩
theorem bs_append (a b : By) : bs a ++ bs b = bs (a ++ b) := by
  have h : (bs a ++ bs b).data.toList = a ++ b := by
    show (bs a ++ bs b).data.toList = _
    rw [ByteArray.data_append, Array.toList_append]; rfl
  rw [← h]; rfl
theorem bs_get (l : By) (k : Nat) (h : k < l.length) : ((bs l)[k]'(by rw [bs_size]; exact h)) = l[k] := rfl

theorem step_append_own {P : Program} {ops : Array Oper} {o : Oper} {a : Act} {w : World} {K : Act → World → Prop} {Q : Exit → Act → World → Prop} {E : Prop} (hgd : o.guard = none) (s x : Operand) (t : TypeId)
    (ho : o.op = .call { callee := .builtin .append, args := #[s, x], argTypes := #[t, t] })
    (base : Nat) (e : TypeId) (i : TypeInfo) (z : Value) (size bytes : Nat) (ht : P.underlying t = some (.slice e)) (hi : P.info? e = some i) (hz : i.zero = some z)
    (hsize : i.size = size) (hby : i.bytes = bytes) (hzs : z.cells.size = size) (hsz : 0 < size)
    (v : Value) (n : Nat) (xs : List Value) (hs : a.eval s = v) (hown : w.ownsRow base e size v n xs)
    (ad : Addr) (m c : Nat) (news : List Value) (hx : a.eval x = .slice (some ad) m c) (hl : news.length = m * size) (hnews : ∀ j u, news[j]? = some u → w.cell? (ad.add j) = some u) (h1 : ∀ u ∈ news, u.oneCell' = true)
    (h63 : n + m ≤ maxLen) (hbytes : (n + m) * bytes ≤ 140737488355328) (hbase : base ≤ w.heap.size)
    (h : ∀ v' w', w'.ownsRow base e size v' (n + m) (xs ++ news) → w.grownBy w' v.ownBlock → K (a.put o.dst v') w') :
    if Region.wanted o (yielded ops a.tmps) = true then Oper.wp P o a w K Q else E := by
  have hw : Region.wanted o (yielded ops a.tmps) = true := by simp [Region.wanted, hgd]
  rw [if_pos hw]
  exact wp_append_own w s x t ho base e i z size bytes ht hi hz hsize hby hzs hsz v n xs hs hown ad m c news hx hl hnews h1 h63 hbytes hbase fun v' w' a b _ => h v' w' a b
theorem take_snoc' (s : ByteArray) (k : Nat) (h : k < s.size) : s.data.toList.take (k + 1) = s.data.toList.take k ++ [s[k]] := by
  rw [List.take_succ_eq_append_getElem (by simpa using h)]; rfl
theorem own_shape' {w : World} {base n : Nat} {e : TypeId} {v : Value} {xs : List Value} (hown : w.ownsRow base e 1 v n xs) : ∃ ao cap, v = .slice ao n cap := by
  rcases hown.2 with ⟨h', h0⟩ | ⟨g, cap', cur, h', _⟩
  · exact ⟨none, 0, by rw [h', h0]⟩
  · exact ⟨_, _, h'⟩
theorem news_lit (w : World) (xs : List Value) (t : TypeId) : ∀ j u, xs[j]? = some u → (w.alloc (.cells xs.toArray t)).cell? ((⟨w.heap.size, 0, none⟩ : Addr).add j) = some u := by
  intro j u h
  have hb := heap_alloc_new w (.cells xs.toArray t)
  rw [show (⟨w.heap.size, 0, none⟩ : Addr).add j = ⟨w.heap.size, j, none⟩ by unfold Addr.add; split <;> simp_all, cell_of_row _ _ j _ t (0, 0) hb]
  simpa using h
theorem wrap8 (x : Nat) (h : x < 256) : IntKind.u8.wrap (x : Int) = x := by
  simp [IntKind.wrap, IntKind.bits, IntKind.signed]
  omega
theorem map_one (f : Operand → Value) (x : Operand) : #[x].map f = #[f x] := by simp
theorem below_drawn {B : Nat} {a w : World} (h : Below B a w) (n : Nat) : Below B a (w.drewN n) := h.trans ⟨rfl, rfl, rfl, Nat.le_refl _, fun _ _ => rfl⟩

theorem cell_lt {w : World} {g o : Nat} {v : Value} (h : w.cell? ⟨g, o, none⟩ = some v) : g < w.heap.size := by
  rcases Nat.lt_or_ge g w.heap.size with h' | h'
  · exact h'
  · simp [World.cell?, Array.getElem?_eq_none h'] at h
theorem cell_below {w w' : World} {g o : Nat} {v : Value} (h : w.cell? ⟨g, o, none⟩ = some v) (hb : Below w.heap.size w w') : w'.cell? ⟨g, o, none⟩ = some v := by
  rw [hb.cell (p := ⟨g, o, none⟩) (cell_lt h)]
  exact h

/-- texts as cells -/
def sc (T : List By) : List Value := T.map fun t => Value.string (bs t)
theorem sc_length (T : List By) : (sc T).length = T.length := by simp [sc]
theorem sc_append (T U : List By) : sc (T ++ U) = sc T ++ sc U := by simp [sc]
theorem sc_get (T : List By) (i : Nat) (h : i < T.length) : (sc T)[i]? = some (Value.string (bs T[i])) := by simp [sc, h]
theorem sc_one (T : List By) : ∀ u ∈ sc T, u.oneCell' = true := by
  intro u hu
  simp only [sc, List.mem_map] at hu
  obtain ⟨b, _, rfl⟩ := hu
  rfl
/-- texts in a row of cells -/
def Txts (w : World) (a0 : Option Addr) (T : List By) : Prop := ∀ i (h : i < T.length), ∃ g o, a0 = some ⟨g, o, none⟩ ∧ w.cell? ⟨g, o + i, none⟩ = some (.string (bs T[i]))
theorem Txts.below {w w' : World} {a0 : Option Addr} {T : List By} (h : Txts w a0 T) (hb : Below w.heap.size w w') : Txts w' a0 T := fun i hi => by
  obtain ⟨g, o, h1, h2⟩ := h i hi
  exact ⟨g, o, h1, cell_below h2 hb⟩
theorem Txts.take {w : World} {a0 : Option Addr} {T : List By} (h : Txts w a0 T) (k : Nat) : Txts w a0 (T.take k) := fun i hi => by
  have hi' : i < T.length := by rw [List.length_take] at hi; omega
  obtain ⟨g, o, h1, h2⟩ := h i hi'
  exact ⟨g, o, h1, by rw [h2, List.getElem_take]⟩
theorem Txts.drop {w : World} {g o : Nat} {T : List By} (h : Txts w (some ⟨g, o, none⟩) T) (k : Nat) : Txts w (some ⟨g, o + k, none⟩) (T.drop k) := fun i hi => by
  have hi' : k + i < T.length := by rw [List.length_drop] at hi; omega
  obtain ⟨g', o', h1, h2⟩ := h (k + i) hi'
  simp only [Option.some.injEq, Addr.mk.injEq] at h1
  obtain ⟨rfl, rfl, _⟩ := h1
  exact ⟨g, o + k, rfl, by rw [Nat.add_assoc, h2, List.getElem_drop]⟩
theorem own_mono {w : World} {base base' n size : Nat} {e : TypeId} {v : Value} {xs : List Value} (h : w.ownsRow base e size v n xs) (hb : base' ≤ base) : w.ownsRow base' e size v n xs := by
  refine ⟨h.1, ?_⟩
  rcases h.2 with h2 | ⟨g, cap, cur, hv, hg, r⟩
  · exact .inl h2
  · exact .inr ⟨g, cap, cur, hv, Nat.le_trans hb hg, r⟩

/-- what is known of texts that are handed in -/
def TxtsOk (ss : List By) (c : Nat) : Prop := ss.length ≤ c ∧ c ≤ maxLen ∧ ∀ s ∈ ss, s.length ≤ maxLen
theorem open_txts {H : Type} {enc : TypeId × Value → H} {P : Program} {W : World} {r : Reach} {b0 : Nat} {t e : TypeId} {v : Value} {d : DataW H} {p : List MemPlace}
    (ht : P.underlying t = some (.slice e)) (he : P.underlying e = some .string) (hc : P.cellsOf e = 1)
    (hval : Value.okWide P W r b0 t v) (h : DataW.Trod enc P W 0 (fun _ => true) true t v d p) :
    ∃ a0 ss cap, v = .slice a0 (List.length (α := By) ss) cap ∧ Txts W a0 ss ∧ TxtsOk ss cap := by
  obtain ⟨a0, len, cap, rfl⟩ := okWide_slice ht hval
  obtain ⟨fuel, hf⟩ := h
  rcases open_strings ht he hc hf with ⟨hcs, hx⟩ | ⟨a, len', cap', ss, hcs, _, hl, hm, hz, hx, hcell, hws⟩
  · simp [Value.cells] at hcs
    obtain ⟨rfl, rfl, rfl⟩ := hcs
    exact ⟨none, [], 0, rfl, fun i hi => absurd hi (by simp), by simp, by unfold maxLen; omega, by simp⟩
  · simp [Value.cells] at hcs
    obtain ⟨rfl, rfl, rfl⟩ := hcs
    simp only [if_true] at hz
    have hlen : ((ss.take len).map (fun s => s.data.toList)).length = len := by simp; omega
    refine ⟨some a, (ss.take len).map (fun s => s.data.toList), cap, by rw [hlen], fun i hi => ?_, by rw [hlen]; exact hl, hm, fun s hs => ?_⟩
    · rw [hlen] at hi
      obtain ⟨b, off, spot⟩ := a
      have hspot : spot = none := by simpa [Addr.add] using World.cell?_spot (hcell 0 (by omega))
      subst hspot
      refine ⟨b, off, rfl, ?_⟩
      rw [← add_plain, hcell i (by omega)]
      have hi2 : i < ss.length := by omega
      have : ss.getD i ByteArray.empty = ss[i] := by simp [List.getD, hi2]
      rw [this]
      simp only [List.getElem_map, List.getElem_take]
      rfl
    · obtain ⟨x, hx1, rfl⟩ := List.mem_map.1 hs
      have := hws x (List.mem_of_mem_take hx1)
      rw [← bs_size]
      exact this

theorem not_dec (b : Bool) : (!b) = decide (b = false) := by cases b <;> rfl
theorem run_index_bs {P : Program} (t : TypeId) (l : By) (k : Nat) (h : k < l.length) (ht : P.underlying t = some .string) (w : World) : (Instr.index t (.string (bs l)) (.int .i64 k)).run P w = .ok (.int .u8 l[k].toNat) w := by
  rw [run_index_string w t (bs l) .i64 k ht]
  have : k < (bs l).size := by rw [bs_size]; exact h
  simp [this]
  rfl
end Go.Proofs.Ytlmmincpjflkdaa

/- tracker: what a table is; New; a name's slots looked up and gone through. -/
import Derived.Test.YtjdphcjapdklpaaTkB
import Derived.Deep.AppendLies
namespace Go.Proofs.Ytjdphcjapdklpaa
open Go.RowKit Go.ChangeMaps Go.MapKept
set_option linter.unusedVariables false
attribute [local go_sem] Oper.semAt_some

theorem keyed : Maps.Keyed Try.prog 9 := Maps.string_keyed Try.underlying9
theorem keyOf_s {k : By} (h : k.length ≤ maxLen) : keyOf Try.prog 9 (.string (bs k)) = some (kS k) := WideMaps.keyOf_string_mk (P := Try.prog) Try.underlying9 (s := bs k) (by rw [bs_size]; exact h)
theorem own_tight {P : Program} {k : TypeId} {R : Value → Option (DataW Value × List MemPlace)} {w : World} {b n : Nat} {D : DataW Value} (h : w.ownsMap P k R b n D) : w.ownsMap P k R b (Maps.size D) D := by
  obtain ⟨es, clock, h1, h2, h3, h4⟩ := h
  refine ⟨es, clock, h1, h2, ?_, h4⟩
  rw [h4]
  simp [Maps.size, length_sorted]
/-- what a table is: its block, the map's block -/
structure TbAt (w : World) (b mb : Nat) (f : Names) (N : Nat) (room : Int) : Prop where
  blk : w.heap[b]? = some (.cells #[.int .i64 room, .map (some mb)] 52 (0, 0))
  map : ∃ D, w.ownsMap Try.prog 9 stE mb (Maps.size D) D ∧ MapF D f ∧ Maps.size D ≤ N
  ok : ∀ k s, f k = some s → SlOk k s
  kl : ∀ k s, f k = some s → k.length = 32
  ne : b ≠ mb
  rm : 1 ≤ room ∧ room ≤ 64
theorem TbAt.lt {w : World} {b mb : Nat} {f : Names} {N : Nat} {room : Int} (h : TbAt w b mb f N room) : b < w.heap.size := lt_of_block h.blk
theorem TbAt.mlt {w : World} {b mb : Nat} {f : Names} {N : Nat} {room : Int} (h : TbAt w b mb f N room) : mb < w.heap.size := by
  obtain ⟨D, h1, _⟩ := h.map
  exact h1.lt
theorem TbAt.cells {w : World} {b mb : Nat} {f : Names} {N : Nat} {room : Int} (h : TbAt w b mb f N room) : w.cell? ⟨b, 0, none⟩ = some (.int .i64 room) ∧ w.cell? ⟨b, 1, none⟩ = some (.map (some mb)) ∧ b < w.heap.size :=
  ⟨cell_of_row _ _ 0 _ _ _ h.blk, cell_of_row _ _ 1 _ _ _ h.blk, h.lt⟩
theorem TbAt.kept {w w' : World} {b mb : Nat} {f : Names} {N : Nat} {room : Int} {row : Option Nat} (h : TbAt w b mb f N room) (hg : w.grownBy w' row) (h1 : some b ≠ row) (h2 : some mb ≠ row) : TbAt w' b mb f N room := by
  obtain ⟨D, m1, m2, m3⟩ := h.map
  exact ⟨(hg.block b h.lt h1).trans h.blk, ⟨D, m1.kept hg h2, m2, m3⟩, h.ok, h.kl, h.ne, h.rm⟩
theorem grown_of {w w' : World} (hb : Below w.heap.size w w') (row : Option Nat) : w.grownBy w' row := ⟨hb.os, hb.tape, hb.output, hb.size, fun i hi _ => hb.block i hi⟩
theorem TbAt.up {w w' : World} {b mb : Nat} {f : Names} {N : Nat} {room : Int} (h : TbAt w b mb f N room) (hb : Below w.heap.size w w') : TbAt w' b mb f N room := h.kept (grown_of hb none) (by simp) (by simp)
theorem grown_trans {a b c : World} {row : Option Nat} (h : a.grownBy b row) (k : b.grownBy c row) : a.grownBy c row :=
  ⟨k.os.trans h.os, k.tape.trans h.tape, k.output.trans h.output, Nat.le_trans h.size k.size, fun i hi hne => (k.block i (Nat.lt_of_lt_of_le hi h.size) hne).trans (h.block i hi hne)⟩
/-- 't.names[k]' -/
theorem wpList_get_tk (w : World) {ops : Array Oper} {rest : List Oper} {o : Oper} {a : Act} {Q : Exit → Act → World → Prop} (hg : o.guard = none) (m x : Operand) (hop : o.op = Op.lookup 50 m x false) (b n : Nat) (D : DataW Value) (f : Names) (hD : MapF D f) (hm : a.eval m = .map (some b)) (hown : w.ownsMap Try.prog 9 stE b n D) (k : By) (hx : a.eval x = .string (bs k)) (hk : k.length ≤ maxLen)
    (h : wpList Try.prog ops Q rest (a.put o.dst (.agg (slC ((f k).getD zS)).toArray)) w) :
    wpList Try.prog ops Q (o :: rest) a w := by
  have hz : (zeroValue 56).run Try.prog w = .ok (.agg (slC zS).toArray) w := by kernel_rfl
  refine wpList_plain hg fun K' hK' => ?_
  obtain ⟨v, ps, hrun, hv⟩ := hown.lookup keyed Try.underlying50 hz (zd := .held _) (zp := []) rfl (keyOf_s hk)
  have hv2 : v = .agg (slC ((f k).getD zS)).toArray := by
    cases hf : f k with
    | some s =>
      rw [hD.el k s hf] at hv
      simp only [stE, Option.some.injEq, Prod.mk.injEq, DataW.held.injEq] at hv
      exact hv.1
    | none =>
      have h0 : Maps.has D (kS k) = false := by rw [hD.hs, hf]; rfl
      rw [Maps.atKey_of_not_has h0] at hv
      simp only [stE, Option.some.injEq, Prod.mk.injEq, DataW.held.injEq] at hv
      exact hv.1
  subst hv2
  unfold Oper.wp
  simp [execOp, hop, hm, hx, hrun, Result.andThen]
  exact hK' _ _ h
theorem slC_ext (s : List Nt) (k : Nat) (p : Nt) (hk : s[k]? = some p) : (slC s).toArray.extract (k * 5) (k * 5 + 5) = p.cl.toArray := by
  have hl : k < s.length := (List.getElem?_eq_some_iff.1 hk).1
  apply Array.ext_getElem?
  intro i
  by_cases hi : i < 5
  · rw [Array.getElem?_extract]
    have h1 : k * 5 + 5 ≤ (slC s).length := by rw [slC_len]; omega
    have h2 : i < min (k * 5 + 5) (slC s).toArray.size - k * 5 := by simp; omega
    rw [if_pos h2, List.getElem?_toArray, List.getElem?_toArray, slC_get s k i p hk hi]
  · rw [Array.getElem?_eq_none (by simp; omega), Array.getElem?_eq_none (by simp [Nt.cl]; omega)]
theorem idx_note (s : List Nt) (k : Nat) (p : Nt) (hs : s.length = 16) (hk : s[k]? = some p) (w : World) : (Instr.index 56 (.agg (slC s).toArray) (.int .i64 (k : Nat))).run Try.prog w = .ok (.agg p.cl.toArray) w := by
  have h1 := Try.underlying56
  have h2 := Try.underlying25
  have h3 : Try.t25.size = 5 := by kernel_rfl
  have hl : k < 16 := by have := (List.getElem?_eq_some_iff.1 hk).1; omega
  have hin : (0 : Int) ≤ (k : Nat) ∧ ((k : Nat) : Int) < 16 := by omega
  have he := slC_ext s k p hk
  simp [Instr.index, run_underlying h1, asIntOf, go_sem, part, isAgg, sizeOf, h3, hl]
  simpa using he
set_option maxRecDepth 100000 in
theorem tnew_any (room : Int) (w : World) (h : 1 ≤ room ∧ room ≤ 64) : Calls Try.prog 7 #[.int .i64 room] w fun e w' => (∃ b mb, w.heap.size ≤ b ∧ w.heap.size ≤ mb ∧ e = .returned (.pointer (some ⟨b, 0, none⟩)) ∧ TbAt w' b mb (fun _ => none) 0 room) ∧ Below w.heap.size w w' := by
  have g1 := tfrom_any 1 room 64 w
  rw [decide_eq_true h] at g1
  have G1 := hide g1
  have HH := hide h
  clear h g1
  have hmm := @run_makeMap Try.prog
  go_enter Try.func7, Try.ntmps7
  go_wp2_with fail
  refine (unhide G1).mono ?_
  rintro e w1 ⟨rfl, rfl⟩
  go_wp2
  go_ret
  refine ⟨⟨w.heap.size + 1, w.heap.size, by omega, Nat.le_refl _, rfl, ?_, ⟨.map [], (World.ownsMap_made w _ _ _).alloc _, MapF.nil, Nat.le_refl _⟩, (fun k s hk => by cases hk), (fun k s hk => by cases hk), by omega, unhide HH⟩, ((Below.refl _ _).alloc (Nat.le_refl _) _).alloc (by simp) _⟩
  have hb := heap_alloc_new (w.alloc (.map #[] 0)) (.cells #[.int .i64 room, .map (some w.heap.size)] 52)
  simpa using hb
end Go.Proofs.Ytjdphcjapdklpaa

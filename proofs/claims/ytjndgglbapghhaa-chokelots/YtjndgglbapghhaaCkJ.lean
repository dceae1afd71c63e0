/- choke: worlds that have grown and drawn alone (what slices.SortFunc asks of a comparison); numbers; cmp.Or. -/
import Derived.Test.YtjndgglbapghhaaCkH
import Derived.Test.YtjndgglbapghhaaShelf
import Derived.Sort.Grow
namespace Go.Proofs.Ytjndgglbapghhaa
open Go.RowKit
set_option linter.unusedVariables false
attribute [local go_sem] Oper.semAt_some

/-- w' is w with draws, and with blocks behind its heap -/
def Grown (w w' : World) : Prop := ∃ (q : Nat) (os : Array Obj), w' = Go.Sort.grow (w.drewN q) os
theorem Grown.refl (w : World) : Grown w w := ⟨0, #[], by simp [Go.Sort.grow, World.drewN]⟩
theorem Grown.trans {a b c : World} (h : Grown a b) (k : Grown b c) : Grown a c := by
  obtain ⟨q, os, rfl⟩ := h
  obtain ⟨q', os', rfl⟩ := k
  exact ⟨q + q', os ++ os', by simp [Go.Sort.grow, World.drewN, Nat.add_assoc, Array.append_assoc]⟩
theorem Grown.alloc (w : World) (o : Obj) : Grown w (w.alloc o) := ⟨0, #[o], by rw [Go.Sort.alloc_eq_grow]; simp [World.drewN]⟩
theorem Grown.drew (w : World) : Grown w w.drew := ⟨1, #[], by rw [Go.Sort.grow_empty]; rfl⟩
theorem Grown.below {w w' : World} (h : Grown w w') : Below w.heap.size w w' := by
  obtain ⟨q, os, rfl⟩ := h
  refine ⟨rfl, rfl, rfl, by simp [Go.Sort.grow, World.drewN], fun k hk => ?_⟩
  simp [Go.Sort.grow, World.drewN, Array.getElem?_append_left hk]
/-- the class of worlds that have grown from w -/
abbrev Gw (w : World) := Gr (fun x => Grown w x)
theorem gw_ne (w : World) : Nonempty (Gw w) := ⟨⟨w, Grown.refl w⟩⟩
theorem gw_cell {w : World} {p : Addr} {v : Value} (h : w.cell? p = some v) (x : Gw w) : x.w.cell? p = some v := gb_cell h ⟨x.w, x.ok.below⟩
theorem gw_call {P : Program} {f : FuncId} {args : Array Value} {w : World} {v : Value} {x : Gw w} (h : Calls P f args x.w fun e w' => e = .returned v ∧ Grown x.w w') : Calls P f args x.w fun e w'' => e = .returned v ∧ ∃ y : Gw w, w'' = y.w :=
  h.mono fun _ w' ⟨he, hb⟩ => ⟨he, ⟨w', x.ok.trans hb⟩, rfl⟩
theorem gw_same {P : Program} {f : FuncId} {args : Array Value} {w : World} {v : Value} {x : Gw w} (h : Calls P f args x.w fun e w' => e = .returned v ∧ w' = x.w) : Calls P f args x.w fun e w'' => e = .returned v ∧ ∃ y : Gw w, w'' = y.w :=
  h.mono fun _ w' ⟨he, hb⟩ => ⟨he, x, hb⟩

set_option maxRecDepth 100000 in
theorem numbers_any (p q : Pr) (w : World) : Calls Try.prog 31 #[.agg p.cl.toArray, .agg q.cl.toArray] w fun e w' => e = .returned (.int .i64 (Lib.compareInt p.nd q.nd)) ∧ Grown w w' := by
  have hG := hide ((Grown.alloc w (.cells p.cl.toArray 48)).trans (Grown.alloc _ (.cells q.cl.toArray 48)))
  have hcmp := hide (fun W => Try.cmp_Compare_int p.nd q.nd W)
  obtain ⟨r, hr⟩ : ∃ r, r = Lib.compareInt p.nd q.nd := ⟨_, rfl⟩
  rw [← hr] at hcmp ⊢
  clear hr
  obtain ⟨nd, px, py, hv, wa, op, os, se, nw, ra⟩ := p
  obtain ⟨nd2, px2, py2, hv2, wa2, op2, os2, se2, nw2, ra2⟩ := q
  unfold Pr.cl at hG ⊢
  dsimp only at hG hcmp ⊢
  go_enter Try.func31, Try.ntmps31
  go_wp2_with fail
  refine (unhide hcmp _).mono ?_
  rintro e w1 ⟨rfl, rfl⟩
  go_wp2
  go_ret
  exact ⟨rfl, unhide hG⟩
/-- the first that is not 0 -/
def orI : List Int → Int
  | [] => 0
  | x :: l => if x = 0 then orI l else x
set_option maxRecDepth 100000 in
set_option maxHeartbeats 1000000 in
theorem or_any (a0 : Option Addr) (l : List Int) (c : Nat) (w : World) (hA : Ints w a0 l) (hl : l.length ≤ 100000) :
    Calls Try.prog 46 #[.slice a0 l.length c] w fun e w' => e = .returned (.int .i64 (orI l)) ∧ w' = w := by
  obtain ⟨r, hr⟩ : ∃ r, r = orI l := ⟨_, rfl⟩
  rw [← hr]
  have HR := hide hr
  have HA := hide hA
  generalize hm : l.length = m at *
  have HM := hide hm
  clear hr hA hm
  go_enter Try.func46, Try.ntmps46
  go_wp2_with fail
  go_loopw [8] (fun iv wr => ∃ i : Nat, i ≤ m ∧ iv = .int .i64 i ∧ wr = w ∧ r = orI (l.drop i)) (fun iv _ => m - (intOf iv).toNat)
  case atStart => exact ⟨0, by omega, rfl, rfl, unhide HR⟩
  case round =>
    obtain ⟨i, hi, rfl, rfl, hrr⟩ := hrel
    have HRR := hide hrr
    clear hrr HR
    by_cases hlt : i < m
    · have q1 : (i : Int) < m := by omega
      have hil : i < l.length := by rw [unhide HM]; exact hlt
      obtain ⟨g, o, rfl, e0⟩ := unhide HA i hil
      obtain ⟨x, hx⟩ : ∃ x, l[i] = x := ⟨_, rfl⟩
      rw [hx] at e0
      have HX : Hid (r = if x = 0 then orI (l.drop (i + 1)) else x) := by
        show _ = _
        rw [unhide HRR, List.drop_eq_getElem_cons hil, hx]
        rfl
      clear hx HRR
      by_cases hq : x = 0
      · subst hq
        have HF : Hid (r = orI (l.drop (i + 1))) := unhide HX
        clear HX
        go_wp2
        go_roundw
        case rel => exact ⟨i + 1, by omega, by go_num, by first | trivial | rfl, unhide HF⟩
        case measure => simp [intOf]; omega
      · have d0 : (x == 0) = false := by simpa using hq
        have hrx : r = x := by rw [unhide HX, if_neg hq]
        subst hrx
        clear HX
        go_wp2
        go_ret
        exact ⟨rfl, rfl⟩
    · have hkn : i = m := by omega
      have q1 : ¬ (i : Int) < m := by omega
      have hrz : r = 0 := by rw [unhide HRR, hkn, ← unhide HM, List.drop_length]; rfl
      subst hrz
      clear hkn HRR
      go_wp2
      go_ret
      exact ⟨rfl, rfl⟩
end Go.Proofs.Ytjndgglbapghhaa

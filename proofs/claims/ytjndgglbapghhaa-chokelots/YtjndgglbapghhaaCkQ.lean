/- choke: a group in another order. -/
import Derived.Test.YtjndgglbapghhaaCkP
namespace Go.Proofs.Ytjndgglbapghhaa
open Go.RowKit Go.Sort Go.Shelf
set_option linter.unusedVariables false
attribute [local go_sem] Oper.semAt_some

theorem oth_of {w w2 W : World} {v : Value} {b : Nat} (hb : Below w.heap.size w w2) (hv : ∀ k, v.ownBlock = some k → w.heap.size ≤ k) (h : Oth w2 v.ownBlock W) : Oth w none W :=
  ⟨Nat.le_trans hb.size h.1, fun k hk _ => (h.2 k (Nat.lt_of_lt_of_le hk hb.size) (fun e => by have := hv k e; omega)).trans (hb.block k hk)⟩
/-- what a sorting leaves -/
structure SrtR (cf : Pr → Pr → Int) (w : World) (l : List Pr) (v : Value) (w' : World) : Prop where
  own : ∃ l', l'.Perm l ∧ l'.Pairwise (fun a b => ltOf cf b a = false) ∧ OwnPt 48 w' w.heap.size v l'
  be : Below w.heap.size w w'
theorem own_le {T : TypeId} {w : World} {B B' : Nat} {v : Value} {l : List Pr} (h : OwnPt T w B v l) (hb : B' ≤ B) : OwnPt T w B' v l := by
  refine ⟨h.1, ?_⟩
  rcases h.2 with h1 | ⟨g, cap, cur, h1, h2, h3⟩
  · exact .inl h1
  · exact .inr ⟨g, cap, cur, h1, by omega, h3⟩
set_option maxRecDepth 100000 in
set_option maxHeartbeats 2000000 in
theorem sorted_any (gf : Nat) (cb : Array Value) (cf : Pr → Pr → Int) (hO : letI := prInh; SWO (ltOf cf)) (eg : ∀ args w, (callFunc gf args).run Try.prog w = .ok (.enter gf args) w)
    (Bs cap : Nat) (w0 w : World) (a0 : Option Addr) (xs : List Pr) (hlen : xs.length ≤ 100000) (hI : PrsAt w0 a0 xs) (hb0 : Below w0.heap.size w0 w) (hBs : Bs < w.heap.size) (hc : w.cell? ⟨Bs, 0, none⟩ = some (.slice a0 xs.length cap))
    (hcmp : ∀ W, Oth w none W → ∀ x y : Pr, Calls Try.prog gf (#[.agg x.cl.toArray, .agg y.cl.toArray] ++ cb) W fun e W' => e = .returned (.int .i64 (cf x y)) ∧ Grown W W') :
    Calls Try.prog 43 #[.func (.func 63) #[] #[.pointer (some ⟨Bs, 0, none⟩)], .func (.func gf) #[] cb] w fun e W' => ∃ v, e = .returned v ∧ SrtR cf w xs v W' := by
  have HA := hide (collectP_any Bs cap w0 w a0 xs hlen hI hb0 hBs hc)
  have HS := hide (fun v w2 (h1 : OwnPt 48 w2 w.heap.size v xs) (h2 : Below w.heap.size w w2) => sortPe_own gf cb cf hO eg w.heap.size v xs w2 h1 hlen (fun W hW => hcmp W (oth_of (b := 0) h2 (fun k hk => ownPt_ge h1 hk) hW)))
  clear hI hb0 hc hO eg hcmp hlen
  go_enter Try.func43, Try.ntmps43
  go_wp2_with fail
  refine (unhide HA).mono ?_
  rintro e w1 ⟨v, rfl, h1, h2⟩
  have HX := hide (unhide HS v w1 h1 h2)
  have HB := hide h2
  clear h1 h2 HS HA
  go_wp2_with fail
  refine (unhide HX).mono ?_
  rintro e w2 ⟨rfl, h3, h4⟩
  have HR := hide (show SrtR cf w xs v w2 from ⟨h3, (unhide HB).trans h4⟩)
  clear h3 h4
  go_wp2
  go_ret
  exact ⟨_, rfl, unhide HR⟩
set_option maxRecDepth 100000 in
set_option maxHeartbeats 2000000 in
theorem by_any (gf : Nat) (cb : Array Value) (cf : Pr → Pr → Int) (hO : letI := prInh; SWO (ltOf cf)) (eg : ∀ args w, (callFunc gf args).run Try.prog w = .ok (.enter gf args) w)
    (a0 : Option Addr) (l : List Pr) (c : Nat) (w : World) (hl : PrsAt w a0 l) (hm : l.length ≤ 100000)
    (hcmp : ∀ W, Oth w none W → ∀ x y : Pr, Calls Try.prog gf (#[.agg x.cl.toArray, .agg y.cl.toArray] ++ cb) W fun e W' => e = .returned (.int .i64 (cf x y)) ∧ Grown W W') :
    Calls Try.prog 29 #[.slice a0 l.length c, .func (.func gf) #[] cb] w fun e w' => ∃ v, e = .returned v ∧ SrtR cf w l v w' := by
  have hb1 : Below w.heap.size w (w.alloc (.cells #[.slice a0 l.length c] 52)) := (Below.refl _ w).alloc (Nat.le_refl _) _
  have hsz : (w.alloc (.cells #[.slice a0 l.length c] 52)).heap.size = w.heap.size + 1 := by simp
  have HS := hide (sorted_any gf cb cf hO eg w.heap.size c w (w.alloc (.cells #[.slice a0 l.length c] 52)) a0 l hm hl hb1 (by omega) (by rw [cell_of_row _ _ _ _ _ _ (heap_alloc_new w _)]; rfl)
    (fun W hW => hcmp W ⟨by have := hW.1; omega, fun k hk _ => (hW.2 k (by omega) (by simp)).trans (hb1.block k hk)⟩))
  have HV := hide (valuesP_any a0 l.length c w)
  have HF : Hid (∀ v w', SrtR cf (w.alloc (.cells #[.slice a0 l.length c] 52)) l v w' → SrtR cf w l v w') := fun v w' h => by
    obtain ⟨l', p1, p2, p3⟩ := h.own
    exact ⟨⟨l', p1, p2, own_le p3 (by omega)⟩, hb1.trans (h.be.mono (by omega))⟩
  clear hO eg hl hcmp hb1 hsz hm
  generalize l.length = m at *
  go_enter Try.func29, Try.ntmps29
  go_wp2_with fail
  refine (unhide HV).mono ?_
  rintro e w1 ⟨rfl, rfl⟩
  go_wp2_with fail
  refine (unhide HS).mono ?_
  rintro e w2 ⟨v, rfl, h⟩
  have HR := hide (unhide HF v w2 h)
  clear h HF HS
  go_wp2
  go_ret
  exact ⟨_, rfl, unhide HR⟩
end Go.Proofs.Ytjndgglbapghhaa

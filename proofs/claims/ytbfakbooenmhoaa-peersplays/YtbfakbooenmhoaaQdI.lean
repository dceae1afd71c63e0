/- peers: the document's table: Meet. -/
import Derived.Test.YtbfakbooenmhoaaQdG
namespace Go.Proofs.Ytbfakbooenmhoaa
open Go.RowKit
set_option linter.unusedVariables false
attribute [local go_sem] Oper.semAt_some

/-- a new peer -/
def newP (n x y t : Int) : Pr := ⟨n, x, y, ⟨#[]⟩, false, false, false, t, 0, 0⟩
/-- a peer goes into its place -/
def insF (x : Pr) (st : List Pr × Bool) (c : Pr) : List Pr × Bool := if st.2 = false ∧ x.nd < c.nd then (st.1 ++ [x] ++ [c], true) else (st.1 ++ [c], st.2)
def insS (L : List Pr) (x : Pr) : List Pr × Bool := L.foldl (insF x) ([], false)
def insL (L : List Pr) (x : Pr) : List Pr := if (insS L x).2 = true then (insS L x).1 else (insS L x).1 ++ [x]
theorem insS_snoc (L : List Pr) (e x : Pr) : insS (L ++ [e]) x = insF x (insS L x) e := by
  unfold insS
  rw [List.foldl_append]
  rfl
theorem insF_len (x : Pr) (L : List Pr) : ∀ st : List Pr × Bool, (L.foldl (insF x) st).1.length + st.2.toNat = st.1.length + L.length + (L.foldl (insF x) st).2.toNat := by
  induction L with
  | nil =>
    intro st
    rfl
  | cons e L ih =>
    intro st
    rw [List.foldl_cons]
    have h1 := ih (insF x st e)
    generalize List.foldl (insF x) (insF x st e) L = r at *
    unfold insF at h1
    by_cases h : st.2 = false ∧ x.nd < e.nd
    · rw [if_pos h] at h1
      rw [h.1]
      simp only [List.length_append, List.length_cons, List.length_nil, Bool.toNat_true, Bool.toNat_false] at h1 ⊢
      omega
    · rw [if_neg h] at h1
      simp only [List.length_append, List.length_cons, List.length_nil] at h1 ⊢
      omega
theorem insS_len (L : List Pr) (x : Pr) : (insS L x).1.length = L.length + (insS L x).2.toNat := by
  have := insF_len x L ([], false)
  unfold insS
  simpa using this
theorem insL_len (L : List Pr) (x : Pr) : (insL L x).length = L.length + 1 := by
  unfold insL
  have h := insS_len L x
  split
  · rename_i h1
    rw [h1] at h
    exact h
  · rename_i h1
    rw [Bool.not_eq_true] at h1
    rw [h1] at h
    rw [List.length_append, h]
    rfl
def meE (n x y t room : Int) (L : List Pr) (Bs : List Int) : Int := if ¬ (isPr n = true ∧ isPl x y = true ∧ isTm t = true) then 1 else if hasI Bs n = true then 10 else if 0 ≤ fnd L n then 5 else if room ≤ L.length then 6 else 0
def meL (n x y t room : Int) (L : List Pr) (Bs : List Int) : List Pr := if meE n x y t room L Bs = 0 then insL L (newP n x y t) else L
/-- the boxes, and a peer's -/
structure NX (w : World) (gR gX : Nat) (room tmo : Int) (vL vB : Value) (cs : Array Value) (wx : World) : Prop where
  be : Below w.heap.size w wx
  box : wx.heap[w.heap.size]? = some (.cells #[.int .i64 room, .int .i64 tmo, vL, vB] 29 (0, 0))
  ans : wx.heap[gR]? = some (.cells zT 29 (0, 0))
  pb : wx.heap[gX]? = some (.cells cs 43 (0, 0))
theorem nx_new {w w2 : World} {gR : Nat} {room tmo : Int} {vL vB : Value} (hb : Below w.heap.size w w2) (hT : w2.heap[w.heap.size]? = some (.cells #[.int .i64 room, .int .i64 tmo, vL, vB] 29 (0, 0))) (hR : w2.heap[gR]? = some (.cells zT 29 (0, 0))) (zs cs : Array Value) :
    NX w gR w2.heap.size room tmo vL vB cs ((w2.alloc (.cells zs 43)).setRow w2.heap.size cs) := by
  have hn := heap_alloc_new w2 (.cells zs 43)
  have l1 := lt_of_block hT
  have l2 := lt_of_block hR
  refine ⟨below_setRow (hb.alloc hb.size _) hb.size _, ?_, ?_, setRow_heap _ _ _ _ _ _ hn⟩
  · rw [setRow_other _ _ _ _ (by omega), Below.heap_alloc _ _ _ l1]
    exact hT
  · rw [setRow_other _ _ _ _ (by omega), Below.heap_alloc _ _ _ l2]
    exact hR
end Go.Proofs.Ytbfakbooenmhoaa

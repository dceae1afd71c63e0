/- tracker: notes, the slots of a name, what the map of names reads as. -/
import Derived.Test.YtjdphcjapdklpaaTxt
import Derived.Test.YtjdphcjapdklpaaTxtI
import Derived.Maps.OwnSet
import Derived.Sort.KeysCollected
namespace Go.Proofs.Ytjdphcjapdklpaa
open Go.RowKit
set_option linter.unusedVariables false

/-- a note -/
structure Nt where
  nm : By
  nd : Int
  x : Int
  y : Int
  un : Int
def Nt.cl (p : Nt) : List Value := [.string (bs p.nm), .int .i64 p.nd, .int .i64 p.x, .int .i64 p.y, .int .i64 p.un]
theorem Nt.cl_len (p : Nt) : p.cl.length = 5 := rfl
def zN : Nt := ⟨[], 0, 0, 0, 0⟩
def slC (s : List Nt) : List Value := s.flatMap Nt.cl
theorem slC_len (s : List Nt) : (slC s).length = s.length * 5 := by
  induction s with
  | nil => rfl
  | cons a s ih => rw [show slC (a :: s) = a.cl ++ slC s from rfl, List.length_append, ih, Nt.cl_len, List.length_cons]; omega
theorem slC_append (s t : List Nt) : slC (s ++ t) = slC s ++ slC t := by unfold slC; exact List.flatMap_append
theorem slC_get : ∀ (s : List Nt) (i j : Nat) (p : Nt), s[i]? = some p → j < 5 → (slC s)[i * 5 + j]? = p.cl[j]?
  | [], _, _, _, h, _ => by simp at h
  | a :: s, 0, j, p, h, hj => by
    simp at h
    subst h
    rw [show slC (a :: s) = a.cl ++ slC s from rfl, Nat.zero_mul, Nat.zero_add, List.getElem?_append_left (by rw [Nt.cl_len]; exact hj)]
  | a :: s, i + 1, j, p, h, hj => by
    rw [show slC (a :: s) = a.cl ++ slC s from rfl, List.getElem?_append_right (by rw [Nt.cl_len]; omega), Nt.cl_len, show (i + 1) * 5 + j - 5 = i * 5 + j by omega]
    exact slC_get s i j p (by simpa using h) hj
def zS : List Nt := List.replicate 16 zN
/-- does one count at a time? -/
def cntB (now : Int) (p : Nt) : Bool := decide (1 ≤ p.nd ∧ p.nd ≤ 15) && decide (now ≤ p.un)
def nodesF (now : Int) (s : List Nt) : List Nt := s.filter (cntB now)
def clean (now : Int) (s : List Nt) : List Nt := s.map fun p => if cntB now p = true then p else zN
def putA (s : List Nt) (p : Nt) : List Nt := s.set p.nd.toNat p
/-- a note that may stand at a place of a name's slots -/
def NtOk (k : By) (p : Nt) : Prop := (1 ≤ p.nd ∧ p.nd ≤ 15) ∧ p.nm = k ∧ k.length = 32 ∧ (-1048576 ≤ p.x ∧ p.x ≤ 1048576 ∧ -1048576 ≤ p.y ∧ p.y ≤ 1048576) ∧ 0 ≤ p.un ∧ p.un ≤ 1099511627776
structure SlOk (k : By) (s : List Nt) : Prop where
  len : s.length = 16
  at_ : ∀ (i : Nat) (p : Nt), s[i]? = some p → p = zN ∨ (p.nd = i ∧ NtOk k p)
theorem zN_cnt (now : Int) : cntB now zN = false := rfl
theorem slOk_z (k : By) : SlOk k zS := ⟨List.length_replicate, fun i p h => .inl (List.eq_of_mem_replicate (List.mem_of_getElem? h))⟩
theorem SlOk.clean {k : By} {s : List Nt} (h : SlOk k s) (now : Int) : SlOk k (clean now s) := by
  refine ⟨by unfold Go.Proofs.Ytjdphcjapdklpaa.clean; rw [List.length_map]; exact h.len, fun i p hp => ?_⟩
  unfold Go.Proofs.Ytjdphcjapdklpaa.clean at hp
  rw [List.getElem?_map] at hp
  cases hq : s[i]? with
  | none => rw [hq] at hp; cases hp
  | some q =>
    rw [hq] at hp
    simp only [Option.map_some, Option.some.injEq] at hp
    split at hp
    · subst hp; exact h.at_ i q hq
    · exact .inl hp.symm
theorem SlOk.put {k : By} {s : List Nt} (h : SlOk k s) {p : Nt} (hp : NtOk k p) : SlOk k (putA s p) := by
  refine ⟨by unfold putA; rw [List.length_set]; exact h.len, fun i q hq => ?_⟩
  unfold putA at hq
  rw [List.getElem?_set] at hq
  split at hq
  · rename_i e
    split at hq
    · cases hq
      exact .inr ⟨by have := hp.1; omega, hp⟩
    · cases hq
  · exact h.at_ i q hq
theorem nodes_ok {k : By} {s : List Nt} (h : SlOk k s) {now : Int} {p : Nt} (hp : p ∈ nodesF now s) : NtOk k p := by
  obtain ⟨hm, hc⟩ := List.mem_filter.1 hp
  obtain ⟨i, hi⟩ := List.getElem?_of_mem hm
  rcases h.at_ i p hi with rfl | ⟨_, hk⟩
  · rw [zN_cnt] at hc; cases hc
  · exact hk
/-- what is kept of the first ones, put at its places -/
theorem put_take {k : By} {s : List Nt} (h : SlOk k s) (now : Int) : ∀ i, i ≤ 16 → (nodesF now (s.take i)).foldl putA zS = clean now (s.take i) ++ List.replicate (16 - i) zN
  | 0, _ => by simp [nodesF, clean]; rfl
  | i + 1, hi => by
    have hl : i < s.length := by rw [h.len]; omega
    have ih := put_take h now i (by omega)
    have hs : s.take (i + 1) = s.take i ++ [s[i]] := List.take_succ_eq_append_getElem hl
    rw [hs]
    unfold nodesF clean at *
    rw [List.filter_append, List.map_append, List.foldl_append, ih]
    have hr : List.replicate (16 - i) zN = zN :: List.replicate (16 - (i + 1)) zN := by
      rw [show 16 - i = (16 - (i + 1)) + 1 by omega]; rfl
    cases hc : cntB now s[i] with
    | false => simp [hc, hr]
    | true =>
      have hnd : s[i].nd = i := by
        rcases h.at_ i s[i] (List.getElem?_eq_getElem hl) with e | ⟨e, _⟩
        · rw [e, zN_cnt] at hc; cases hc
        · exact e
      have hlen : ((s.take i).map fun p => if cntB now p = true then p else zN).length = i := by rw [List.length_map, List.length_take]; omega
      simp only [List.filter_cons, hc, if_true, List.filter_nil, List.foldl_cons, List.foldl_nil, List.map_cons, List.map_nil]
      unfold putA
      rw [hnd, Int.toNat_natCast, hr, List.set_append_right _ _ (by rw [hlen]; exact Nat.le_refl _), hlen, Nat.sub_self, List.set_cons_zero]
      simp
theorem put_nodes {k : By} {s : List Nt} (h : SlOk k s) (now : Int) : (nodesF now s).foldl putA zS = clean now s := by
  have := put_take h now 16 (Nat.le_refl _)
  rw [List.take_of_length_le (by rw [h.len]; exact Nat.le_refl _)] at this
  rw [this]
  simp

/-! ### the map of names -/
abbrev kS (k : By) : Lit := .string k
theorem kS_ne {a b : By} (h : a ≠ b) : kS a ≠ kS b := fun e => h (by cases e; rfl)
def stE (v : Value) : Option (DataW Value × List MemPlace) := some (.held v, [])
abbrev Names := By → Option (List Nt)
structure MapF (D : DataW Value) (f : Names) : Prop where
  tidy : Maps.Tidy D
  hs : ∀ k, Maps.has D (kS k) = (f k).isSome
  el : ∀ k s, f k = some s → ∀ z, D.atKey (kS k) z = .held (.agg (slC s).toArray)
def putF (f : Names) (k : By) (s : List Nt) : Names := fun j => if j = k then some s else f j
def delF (f : Names) (k : By) : Names := fun j => if j = k then none else f j
theorem MapF.nil : MapF (.map []) (fun _ => none) := ⟨Maps.tidy_empty, fun k => rfl, fun k s h => by cases h⟩
theorem MapF.put {D : DataW Value} {f : Names} (h : MapF D f) (k : By) (s : List Nt) : MapF (D.put (kS k) (.held (.agg (slC s).toArray))) (putF f k s) := by
  have hk : WideAt.IsKeyLit (kS k) := trivial
  refine ⟨h.tidy.put hk _, fun j => ?_, fun j t hj z => ?_⟩
  · unfold putF
    by_cases e : j = k
    · subst e
      rw [Maps.has_put_same h.tidy.isMap hk, if_pos rfl]
      rfl
    · rw [Maps.has_put_other (kS_ne e), h.hs, if_neg e]
  · unfold putF at hj
    by_cases e : j = k
    · subst e
      rw [if_pos rfl] at hj
      cases hj
      rw [Maps.atKey_put_same h.tidy.isMap hk]
    · rw [if_neg e] at hj
      rw [Maps.atKey_put_other (kS_ne e), h.el j t hj]
theorem MapF.del {D : DataW Value} {f : Names} (h : MapF D f) (k : By) : MapF (D.del (kS k)) (delF f k) := by
  refine ⟨h.tidy.del _, fun j => ?_, fun j t hj z => ?_⟩
  · unfold delF
    by_cases e : j = k
    · subst e
      rw [Maps.has_del_same, if_pos rfl]
      rfl
    · rw [Maps.has_del_other (kS_ne e), h.hs, if_neg e]
  · unfold delF at hj
    by_cases e : j = k
    · rw [if_pos e] at hj; cases hj
    · rw [if_neg e] at hj
      rw [Maps.atKey_del_other (kS_ne e), h.el j t hj]
end Go.Proofs.Ytjdphcjapdklpaa

/- tracker: the names of the map, in order. -/
import Derived.Shelf.SlIter.Nil
import Derived.Shelf.SortM.Plain
import Derived.Shelf.SortM.SortNone
import Derived.Test.YtjdphcjapdklpaaTkLays
import Derived.Test.YtjdphcjapdklpaaTkD
namespace Go.Proofs.Ytjdphcjapdklpaa
open Go.RowKit Go.Maps Go.Sort Go.Shelf Go.ChangeMaps Go.MapKept
set_option linter.unusedVariables false
attribute [local go_sem] Oper.semAt_some

theorem Try.sortsT (m : Nat) : AnyZ.SortsIn Try.prog Try.sortedT_ren Fence.wide m :=
  ⟨fun blk off cap ss W hH hblk hsz => callsIn_wide.2 (AnyM.slices_Sort_string Try.sortT blk off cap ss W hH hblk hsz),
   fun p cap W => callsIn_wide.2 (AnyM.slices_Sort_string_none Try.sortT p cap W)⟩
/-- the names of a table, in order -/
structure SKeys (f : Names) (ss : List By) : Prop where
  nd : ss.Nodup
  mem : ∀ x, x ∈ ss ↔ (f x).isSome = true
  ord : ss.Pairwise fun a b => leB a b = true
theorem skeys_of {D : DataW Value} {f : Names} {w : World} {b n : Nat} (hown : w.ownsMap Try.prog 9 stE b n D) (hD : MapF D f) {ss : List By} (hp : ss.Perm (strKeys D)) : SKeys f (ss.mergeSort leB) := by
  obtain ⟨es, rfl, hpw, _⟩ := hown.entries keyed
  obtain ⟨es', he, hk⟩ := hown.keysOf
  cases he
  have hks : ∀ p ∈ es, ∃ x, p.1 = .string x := fun p hp => by
    obtain ⟨key, hkey⟩ := hk p hp
    obtain ⟨x, _, h2, _⟩ := Maps.keyOf_str Try.underlying9 hkey
    exact ⟨x, h2⟩
  have hmem : ∀ x, x ∈ strKeys (.map es : DataW Value) ↔ (f x).isSome = true := fun x => by
    rw [← hD.hs x, has_eq, List.any_eq_true]
    show x ∈ es.map (fun p => strOf p.1) ↔ _
    rw [List.mem_map]
    constructor
    · rintro ⟨p, hp, rfl⟩
      obtain ⟨y, hy⟩ := hks p hp
      exact ⟨p, hp, by rw [hy]; simp [Lit.sameKey, strOf]⟩
    · rintro ⟨p, hp, hs⟩
      obtain ⟨y, hy⟩ := hks p hp
      rw [hy] at hs
      exact ⟨p, hp, by rw [hy]; simpa [Lit.sameKey, strOf] using hs⟩
  have hnd : (strKeys (.map es : DataW Value)).Nodup := by
    show (es.map fun p => strOf p.1).Nodup
    refine List.pairwise_map.2 (hpw.imp_of_mem fun {p q} hp' hq' hne e => hne ?_)
    obtain ⟨a, ha⟩ := hks p hp'
    obtain ⟨b, hb⟩ := hks q hq'
    rw [ha, hb] at e ⊢
    exact congrArg _ e
  have tr : ∀ a b c : By, leB a b = true → leB b c = true → leB a c = true := fun a b c h1 h2 => by simp only [leB, decide_eq_true_eq] at *; exact List.le_trans h1 h2
  have to : ∀ a b : By, (leB a b || leB b a) = true := fun a b => by simp only [leB, Bool.or_eq_true, decide_eq_true_eq]; exact List.le_total a b
  refine ⟨(List.mergeSort_perm ss leB).symm.nodup (hp.symm.nodup hnd), fun x => ?_, List.pairwise_mergeSort tr to ss⟩
  rw [List.mem_mergeSort, hp.mem_iff, hmem]
theorem skeys_len {D : DataW Value} {f : Names} (hD : MapF D f) {ss : List By} (hp : ss.Perm (strKeys D)) : ss.length = Maps.size D := by
  rw [hp.length_eq]
  obtain ⟨es, rfl⟩ := hD.tidy.isMap
  show (es.map _).length = _
  rw [List.length_map]
  rfl
def ssC (ss : List By) : List Value := ss.map fun s => .string (bs s)
structure StoR (f : Names) (w : World) (v : Value) (ss : List By) (w' : World) : Prop where
  keys : SKeys f ss
  own : w'.ownsRow w.heap.size 9 1 v ss.length (ssC ss)
  be : Below w.heap.size w w'
set_option maxHeartbeats 2000000 in
theorem stored_any (b mb : Nat) (f : Names) (N : Nat) (room : Int) (w : World) (hT : TbAt w b mb f N room) (hN : N ≤ 100000) :
    Calls Try.prog 26 #[.pointer (some ⟨b, 0, none⟩)] w fun e w' => ∃ v ss, e = .returned v ∧ ss.length ≤ N ∧ StoR f w v ss w' := by
  obtain ⟨D, hown, hD, hDN⟩ := hT.map
  obtain ⟨c0, c1, cl⟩ := hT.cells
  have hmax : Maps.size D ≤ maxLen := by unfold maxLen; omega
  have hbytes : Maps.size D * 16 ≤ 140737488355328 := by omega
  refine (callsIn_wide (n := 6)).1 ?_
  have hbl := hown.lt
  have hseq : SeqGives Fence.wide 2 Try.prog 40 #[.pointer (some ⟨w.heap.size, 0, none⟩)] encStr (fun ss => ss.Perm (strKeys D)) (Maps.size D) (w.alloc (.cells #[.map (some mb)] 50)) :=
    AnyZ.keys_gives (ρ := Try.keysT_ren) { Try.keysT with } Fence.wide _ trivial rfl (by omega) w.heap.size mb (Maps.size D) D _ (by simp) (by simp) (by
      obtain ⟨es, clock, hb, Ft, hs, hD⟩ := hown
      exact ⟨es, clock, (Below.heap_alloc _ _ mb hbl).trans hb, Ft, hs, hD⟩)
  have cK : ∀ mb W, CallsIn Fence.wide 5 Try.prog 32 #[.map mb] W fun e w' => e = .returned (.func (.func 40) #[] #[.pointer (some ⟨W.heap.size, 0, none⟩)]) ∧ w' = W.alloc (.cells #[.map mb] 50) := fun mb W => AnyZ.keys_in Try.keysT Fence.wide 5 trivial rfl mb W
  have cS := AnyZ.sorted_in Try.sortedT Fence.wide 5 trivial trivial trivial trivial rfl (by omega) (Try.sortsT _) (enters_of Try.func39 (by kernel_rfl) rfl) 40 #[.pointer (some ⟨w.heap.size, 0, none⟩)] trivial (enters_of Try.func40 (by kernel_rfl) rfl) _ _ hmax hbytes _ hseq
  change CallsIn _ _ Try.prog 31 _ _ _ at cS
  have hfK : Fence.wide.fn 32 := trivial
  have hfS : Fence.wide.fn 31 := trivial
  have HD := hide hD
  have HDN := hide hDN
  have HOWN := hide hown
  clear hown hD hT hDN
  refine callsIn_of_wp Try.func26 rfl trivial ?_ rfl
  simp only [Try.ntmps26, List.size_toArray, List.length_cons, List.length_nil, Nat.reduceAdd, Nat.reduceSub, Array.replicate_succ, Array.replicate_zero, List.push_toArray, List.append_toArray, List.nil_append, List.cons_append]
  gi_wp2_with (first
    | (gi_at_call 32; refine (cK _ _).mono ?_; rintro e w' ⟨rfl, rfl⟩)
    | (gi_at_call 31; refine cS.mono ?_; rintro e w' ⟨v, ss, rfl, hS, hrow, hnil, hb⟩))
  go_ret
  have hl : (ss.mergeSort leB).length = ss.length := List.length_mergeSort _
  refine ⟨v, ss.mergeSort leB, rfl, by rw [hl, skeys_len (unhide HD) hS]; exact unhide HDN, skeys_of (unhide HOWN) (unhide HD) hS, ?_, ((Below.refl _ w).alloc (Nat.le_refl _) _).trans (hb.mono (by simp))⟩
  rw [hl]
  exact ownsRow_base_a hrow (by simp)
end Go.Proofs.Ytjdphcjapdklpaa

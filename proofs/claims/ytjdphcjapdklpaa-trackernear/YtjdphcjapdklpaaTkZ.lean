/- tracker: the order of plane.Near is put by the insertion sort. -/
import Derived.Test.YtjdphcjapdklpaaTkIns
import Derived.Test.YtjdphcjapdklpaaTkY
namespace Go.Proofs.Ytjdphcjapdklpaa
open Go.RowKit Go.Sort
set_option linter.unusedVariables false

/-- the comparison of two numbers of places -/
def cfN (x y : Int) (l : List (Int × Int)) (i j : Fin l.length) : Int := Lib.compareInt (distA x y l[i].1 l[i].2) (distA x y l[j].1 l[j].2)
def encN (l : List (Int × Int)) (i : Fin l.length) : Value := .int .i64 ((i : Nat) : Int)
theorem sortW_old {α : Type} [Inhabited α] (enc : α → Value) (w : World) (g n : Nat) (d : Array α) (os : Array Obj) (k : Nat) (hk : k < w.heap.size) (hne : k ≠ g) : (sortWorld enc w g 0 n d os).heap[k]? = w.heap[k]? := by
  unfold sortWorld
  rw [Sort.heap_grow_old _ _ (by simp [Sort.putRow, Sort.mapBlock, Sort.ahead]; exact hk)]
  simp only [Sort.putRow, Sort.mapBlock, Sort.ahead, Array.getElem?_modify]
  rw [if_neg (fun e => hne e.symm)]
theorem near_ins (ga gl g o c blk cap : Nat) (x y : Int) (l : List (Int × Int)) (hpos : 0 < l.length) (hl : l.length ≤ 100000) (w0 : World) (hA : Two w0 ga (.int .i64 x) (.int .i64 y) 23) (hL : w0.cell? ⟨gl, 0, none⟩ = some (.slice (some ⟨g, o, none⟩) l.length c)) (hglt : gl < w0.heap.size)
    (hP : PlsAt w0 (some ⟨g, o, none⟩) l) (h1 : ga ≠ blk) (h2 : gl ≠ blk) (h3 : g ≠ blk) (hb : blk < w0.heap.size) (d : Array (Fin l.length)) (hd : d.size = l.length) :
    letI : Inhabited (Fin l.length) := ⟨⟨0, hpos⟩⟩
    Holds (encN l) w0 blk 0 d →
    Calls Try.prog 48 #[.slice (some ⟨blk, 0, none⟩) d.size cap, .int .i64 0, .int .i64 d.size, .func (.func 35) #[] #[.pointer (some ⟨ga, 0, none⟩), .pointer (some ⟨gl, 0, none⟩)]] w0 fun e w' => e = .returned (.tuple #[]) ∧ SW (encN l) w0 blk 0 (Sort.insertionSort (ltOf (cfN x y l)) d 0 d.size) w' := by
  letI : Inhabited (Fin l.length) := ⟨⟨0, hpos⟩⟩
  intro hH
  have hO : OneCell (encN l) := fun x => rfl
  have hC : CmpLays1 Try.prog 35 #[.pointer (some ⟨ga, 0, none⟩), .pointer (some ⟨gl, 0, none⟩)] (encN l) (cfN x y l) blk 0 d.size w0 := by
    intro m os dk hdk i j
    have old : ∀ k, k < w0.heap.size → k ≠ blk → (sortWorld (encN l) w0 blk 0 m dk os).heap[k]? = w0.heap[k]? := fun k hk hne => sortW_old (encN l) w0 blk m dk os k hk hne
    have hA2 : Two (sortWorld (encN l) w0 blk 0 m dk os) ga (.int .i64 x) (.int .i64 y) 23 := (old ga hA.lt h1).trans hA
    have cel : ∀ (p : Addr) v, p.block < w0.heap.size → p.block ≠ blk → w0.cell? p = some v → (sortWorld (encN l) w0 blk 0 m dk os).cell? p = some v := fun p v hk hne hv => (World.cell?_of_block (w := w0) (old p.block hk hne)).trans hv
    have pl : ∀ k : Fin l.length, (sortWorld (encN l) w0 blk 0 m dk os).cell? ⟨g, o + (k : Nat) * 2, none⟩ = some (.int .i64 l[k].1) ∧ (sortWorld (encN l) w0 blk 0 m dk os).cell? ⟨g, o + (k : Nat) * 2 + 1, none⟩ = some (.int .i64 l[k].2) := fun k => by
      obtain ⟨g', o', e, hg, hr⟩ := hP k _ (List.getElem?_eq_getElem k.isLt)
      cases e
      exact ⟨cel _ _ hg h3 (hr 0 _ rfl), cel _ _ hg h3 (hr 1 _ rfl)⟩
    exact near1_gw ga gl g o l.length c x y l[i].1 l[i].2 l[j].1 l[j].2 i j i.isLt j.isLt _ hA2 (cel _ _ hglt h2 hL) (pl i).1 (pl i).2 (pl j).1 (pl j).2
  exact Any.insertionSortCmpFunc_s Try.insT (encN l) (cfN x y l) 35 _ blk 0 cap 0 d.size d d w0 w0 (fun args w => rfl) hC ⟨hO, hH, hb⟩ rfl (SW.start hH) (Nat.zero_le _) (Nat.le_refl _) (by omega)
end Go.Proofs.Ytjdphcjapdklpaa

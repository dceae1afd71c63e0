
/- Contracts of the document's own prng: Num, Block, word, Word, Choose, Same. -/
import Derived.Test.YtkcnihngkmaecaaGreatPrZ
import Derived.Test.YtkcnihngkmaecaaGreatRefSum
import Derived.Test.YtkcnihngkmaecaaGreatRefO
import Derived.Test.YtkcnihngkmaecaaGreatGrT
namespace Go.Proofs.YtkcnihngkmaecaaGreat
open Go.RowKit
set_option linter.unusedVariables false

theorem ret_cell {fn : Func} {p : Tmp} {ty : TypeId} {a : Act} {w : World} {R : Ending → World → Prop} (h : fn.results = #[.cell p ty]) (g : Nat) (t : TypeId) (cs : Array Value) (fr : Nat × Nat) (fs : Array Field)
    (hp : a.tmps.getD p undef = .pointer (some ⟨g, 0, none⟩)) (hg : w.heap[g]? = some (.cells cs t fr)) (hdf : a.defers = [])
    (hu : Tryz.prog.underlying ty = some (.struct fs)) (hi : (Tryz.prog.info? ty).map (·.size) = some cs.size) (hR : R (.returned (.agg cs)) w) :
    bodyPost Tryz.prog fn R .ret a w := bodyPost_ret (results_cell_row h _ w g t cs fr _ hp hg hu rfl hi) hdf hR

theorem rnum_any (n size : Int) (w : World) :
    Calls Tryz.prog 30 #[.int .i64 n, .int .i64 size] w fun x w' => x = .returned (.string ⟨(putS n size).1.toArray⟩) ∧ Below w.heap.size w w' := by
  have hq := hide (fun w => rput_any n size w)
  generalize (putS n size).1 = t at *
  generalize (putS n size).2 = er at *
  go_enter Tryz.func30, Tryz.ntmps30
  go_wp2_with fail
  refine (unhide hq _).mono ?_
  rintro e w1 ⟨rfl, b1⟩
  go_wp2
  go_ret
  exact ⟨rfl, b1⟩

theorem putS_seven (k : Int) : putS k 7 = if k < 0 ∨ k / 2 ^ (8 * 7) ≠ 0 then ([], 8) else (putB k 7, 0) := by
  unfold putS
  rw [if_neg (by omega : ¬ ((7 : Int) < 1 ∨ (7 : Int) < 7))]
  rfl

set_option maxRecDepth 100000 in
theorem rblock_any (s : ByteArray) (k : Int) (w : World) (hs : s.size ≤ maxLen) :
    Calls Tryz.prog 91 #[.string s, .int .i64 k] w fun e w' => e = .returned (.string ⟨(blk s.data.toList k).toArray⟩) ∧ Below w.heap.size w w' := by
  unfold maxLen at hs
  have hp := hide (fun w => rput_any k 7 w)
  rw [putS_seven] at hp
  have hlen : s.data.toList.length = s.size := by simp
  by_cases hl : (64 : Int) < s.size
  · have hb : Hid (blk s.data.toList k = []) := by
      show _ = _
      unfold blk
      rw [if_pos (.inl (by omega))]
    generalize (if k < 0 ∨ k / 2 ^ (8 * 7) ≠ 0 then (([] : List UInt8), (8 : Int)) else (putB k 7, 0)) = p at *
    clear hlen
    go_enter Tryz.func91, Tryz.ntmps91
    go_wp2_with fail
    refine (unhide hp _).mono ?_
    rintro e w1 ⟨rfl, b1⟩
    have B1 := hide b1
    clear b1 hp
    go_wp2
    go_ret
    exact ⟨by rw [unhide hb]; rfl, unhide B1⟩
  · by_cases hk : k < 0 ∨ k / 2 ^ (8 * 7) ≠ 0
    · have hb : Hid (blk s.data.toList k = []) := by
        show _ = _
        unfold blk
        rw [if_pos (.inr hk)]
      rw [if_pos hk] at hp
      clear hlen hk
      go_enter Tryz.func91, Tryz.ntmps91
      go_wp2_with fail
      refine (unhide hp _).mono ?_
      rintro e w1 ⟨rfl, b1⟩
      have B1 := hide b1
      clear b1 hp
      go_wp2
      go_ret
      exact ⟨by rw [unhide hb]; rfl, unhide B1⟩
    · rw [if_neg hk] at hp
      obtain ⟨N7, hN7⟩ : ∃ N7 : ByteArray, N7 = ⟨(putB k 7).toArray⟩ := ⟨_, rfl⟩
      have hN7l : N7.data.toList = putB k 7 := by rw [hN7]
      have hN7s : N7.size = 7 := by rw [← blen, hN7l, putB_length]
      change Hid (∀ w, Calls _ _ _ w fun e w' => e = .returned (.tuple #[.string ⟨(putB k 7).toArray⟩, .int .i64 0]) ∧ Below w.heap.size w w') at hp
      rw [← hN7] at hp
      have h1 := hide (fun w => rnum_any s.size 1 w)
      rw [putS_one s.size (by omega) (by omega)] at h1
      obtain ⟨N1, hN1⟩ : ∃ N1 : ByteArray, N1 = ⟨#[byteOf s.size]⟩ := ⟨_, rfl⟩
      have hN1l : N1.data.toList = [byteOf s.size] := by rw [hN1]
      have hN1s : N1.size = 1 := by rw [← blen, hN1l]; rfl
      change Hid (∀ w, Calls _ _ _ w fun e w' => e = .returned (.string ⟨#[byteOf s.size]⟩) ∧ Below w.heap.size w w') at h1
      rw [← hN1] at h1
      obtain ⟨M, hM⟩ : ∃ M : ByteArray, M = (⟨#[2]⟩ ++ N1) ++ s ++ N7 := ⟨_, rfl⟩
      have hMl : M.data.toList = 2 :: byteOf s.size :: (s.data.toList ++ putB k 7) := by rw [hM, bapp, bapp, bapp, hN1l, hN7l]; simp
      have hMs : M.size ≤ 73 := by rw [← blen, hMl]; simp [putB_length]; omega
      have h2 := hide (fun w => rSum_any M w (by omega))
      have hb : blk s.data.toList k = shaSum M.data.toList := by
        unfold blk
        rw [if_neg (fun h => h.elim (fun h2 => by omega) hk), hMl, hlen]
      rw [← hb] at h2
      have HM := hide hM
      obtain ⟨D, hD⟩ : ∃ D : ByteArray, D = ⟨(blk s.data.toList k).toArray⟩ := ⟨_, rfl⟩
      rw [← hD] at h2 ⊢
      clear hlen hk hN7 hN7l hN1 hN1l hM hMl hb hD
      have z1 : (⟨#[2]⟩ : ByteArray).size = 1 := rfl
      have hs64 : s.size ≤ 64 := by omega
      go_enter Tryz.func91, Tryz.ntmps91
      go_wp2_with fail
      refine (unhide hp _).mono ?_
      rintro e w1 ⟨rfl, b1⟩
      have B1 := hide b1
      clear b1 hp
      go_wp2_with fail
      refine (unhide h1 _).mono ?_
      rintro e w2 ⟨rfl, b2⟩
      have B2 := hide ((unhide B1).trans (b2.mono (unhide B1).size))
      clear b2 h1 B1
      go_wp2_with fail
      rw [← unhide HM]
      refine (unhide h2 _).mono ?_
      rintro e w3 ⟨rfl, b3⟩
      have B3 := hide ((unhide B2).trans (b3.mono (unhide B2).size))
      clear b3 h2 B2
      go_wp2
      go_ret
      exact ⟨rfl, unhide B3⟩

/-- the document's generator as a value -/
def gV (s : ByteArray) (u : Int) : Value := .agg #[.string s, .int .i64 u]

set_option maxRecDepth 100000 in
theorem rword_any (s : ByteArray) (u : Int) (at_ : Nat) (w : World) (hs : s.size ≤ 64) (hat : at_ ≤ 1099511627776) :
    Calls Tryz.prog 70 #[gV s u, .int .i64 at_] w fun e w' => e = .returned (.int .i64 (wd s.data.toList at_)) ∧ Below w.heap.size w w' := by
  obtain ⟨q, hq⟩ : ∃ q : Nat, q = at_ / 8 := ⟨_, rfl⟩
  obtain ⟨D, hD⟩ : ∃ D : ByteArray, D = ⟨(blk s.data.toList q).toArray⟩ := ⟨_, rfl⟩
  have hDl : D.data.toList = blk s.data.toList q := by rw [hD]
  have hDs : D.size = 32 := by rw [← blen, hDl]; exact blk_len _ _ (by rw [blen]; exact hs) (by omega) (by omega)
  have hbl := hide (fun w => rblock_any s q w (by unfold maxLen; omega))
  rw [← hD] at hbl
  obtain ⟨k, hk⟩ : ∃ k, k = 4 * (at_ % 8) := ⟨_, rfl⟩
  have hk2 : k ≤ 28 := by omega
  have hkm : 4 * ((at_ : Int) % 8) = k := by omega
  have hkd : (at_ : Int) / 8 = q := by omega
  have hgt := hide (fun w => rget_any (D.extract k (k + 4)) w (by rw [ByteArray.size_extract]; omega))
  have hwd : Hid (getV (D.extract k (k + 4)).data.toList = wd s.data.toList at_) := by
    show _ = _
    rw [bext', hDl, show k + 4 - k = 4 by omega, hk, hq]
    rfl
  rw [unhide hwd] at hgt
  have hd32 : (D.size : Int) = 32 := by omega
  clear hD hDl hDs hk hwd hq
  generalize wd s.data.toList at_ = v at *
  unfold gV
  go_enter Tryz.func70, Tryz.ntmps70
  go_wp2_with fail
  refine (unhide hbl _).mono ?_
  rintro e w1 ⟨rfl, b1⟩
  have B1 := hide (((Below.refl w.heap.size w).alloc (Nat.le_refl _) _).trans (b1.mono (by simp)))
  clear b1 hbl
  go_wp2_with fail
  refine (unhide hgt _).mono ?_
  rintro e w2 ⟨rfl, rfl⟩
  go_wp2
  go_ret
  exact ⟨rfl, unhide B1⟩

theorem set_row {w : World} {g : Nat} {cs : Array Value} {t : TypeId} (h : w.heap[g]? = some (.cells cs t (0, 0))) (j : Nat) (v : Value) : (w.setCell ⟨g, j, none⟩ v).heap[g]? = some (.cells (cs.setIfInBounds j v) t (0, 0)) := heap_setCell_same w g j _ t _ h
theorem bcell {W w1 : World} (hb : Below W.heap.size W w1) : (∀ b o, b < W.heap.size → w1.cell? ⟨b, o, none⟩ = W.cell? ⟨b, o, none⟩) ∧ (∀ b o, b < W.heap.size → w1.frozen? ⟨b, o, none⟩ = W.frozen? ⟨b, o, none⟩) :=
  ⟨fun b o h => hb.cell (p := ⟨b, o, none⟩) h, fun b o h => hb.frozen (p := ⟨b, o, none⟩) h⟩
theorem heap2_b (w : World) (A B : Obj) : ((w.alloc A).alloc B).heap[w.heap.size + 1]? = some B := by
  have := heap_alloc_new (w.alloc A) B
  rwa [show (w.alloc A).heap.size = w.heap.size + 1 by simp] at this
theorem heap2_a (w : World) (A B : Obj) : ((w.alloc A).alloc B).heap[w.heap.size]? = some A := by
  rw [Below.heap_alloc _ _ _ (by simp)]
  exact heap_alloc_new _ _
theorem below2 (w : World) (A B : Obj) : Below w.heap.size w ((w.alloc A).alloc B) := ((Below.refl _ _).alloc (Nat.le_refl _) _).alloc (by simp) _

end Go.Proofs.YtkcnihngkmaecaaGreat

/- What a sum that is written to holds, as plain functions of the bytes; copy from a string into a row. Contract of sha's Pad. Contract of sha's digest: a state as bytes. Contracts of sha.New, (*Hash).Write, Len, Sum and of sha.Sum. -/
import Derived.Test.YtkcnihngkmaecaaGreatShaY
import Derived.Test.YtkcnihngkmaecaaGreatReg
import Derived.Deep.DeepCutAuto
import Derived.Deep.DrawnRows
import Derived.Laws.CopyOwn
import Derived.ScopeJumps
import Derived.WalkMore
import Derived.Deep.RegionLaw
import Derived.Test.YtkcnihngkmaecaaGreatLib
namespace Go.Proofs.YtkcnihngkmaecaaGreat
open Go.RowKit
set_option linter.unusedVariables false
attribute [local go_sem] xor32 and32 or32 add32 not32

/-- a state of eight words -/
structure S8 where
  a : UInt32
  b : UInt32
  c : UInt32
  d : UInt32
  e : UInt32
  f : UInt32
  g : UInt32
  h : UInt32
def S8.list (s : S8) : List UInt32 := [s.a, s.b, s.c, s.d, s.e, s.f, s.g, s.h]
def S8.add (s t : S8) : S8 := ⟨s.a + t.a, s.b + t.b, s.c + t.c, s.d + t.d, s.e + t.e, s.f + t.f, s.g + t.g, s.h + t.h⟩
def T1 (s : S8) (k w : UInt32) : UInt32 := s.h + (rot s.e 6 ^^^ rot s.e 11 ^^^ rot s.e 25) + (s.e &&& s.f ^^^ ~~~s.e &&& s.g) + k + w
def T2 (s : S8) : UInt32 := (rot s.a 2 ^^^ rot s.a 13 ^^^ rot s.a 22) + (s.a &&& s.b ^^^ s.a &&& s.c ^^^ s.b &&& s.c)
def rnd (s : S8) (k w : UInt32) : S8 := ⟨T1 s k w + T2 s, s.a, s.b, s.c, s.d + T1 s k w, s.e, s.f, s.g⟩
def rnds (W : List UInt32) (s : S8) : Nat → S8
  | 0 => s
  | t + 1 => rnd (rnds W s t) (KK.getD t 0) (W.getD t 0)
/-- a block mixed into a state -/
def mix (s : S8) (B : List UInt8) : S8 := s.add (rnds (sched B) s 64)

theorem WordsAt.below {w w' : World} {g : Nat} {t : TypeId} {L : List UInt32} (h : WordsAt w g t L) (hb : Below w.heap.size w w') : WordsAt w' g t L :=
  (hb.block g (lt_of_block h)).trans h
theorem WordsAt.lt {w : World} {g : Nat} {t : TypeId} {L : List UInt32} (h : WordsAt w g t L) : g < w.heap.size := lt_of_block h
theorem WordsAt.alloc {w : World} {g : Nat} {t : TypeId} {L : List UInt32} (h : WordsAt w g t L) (o : Obj) : WordsAt (w.alloc o) g t L :=
  (Below.heap_alloc w o g h.lt).trans h
theorem heap_setCells_other (g k : Nat) (hne : k ≠ g) : ∀ (vs : List Value) (o : Nat) (w : World), (w.setCells g o vs).heap[k]? = w.heap[k]?
  | [], _, _ => rfl
  | v :: vs, o, w => (heap_setCells_other g k hne vs (o + 1) _).trans (Below.heap_setCell _ _ _ _ hne)
theorem WordsAt.setCells_other {w : World} {g g' o : Nat} {t : TypeId} {L : List UInt32} (h : WordsAt w g t L) (vs : List Value) (hne : g ≠ g') : WordsAt (w.setCells g' o vs) g t L :=
  (heap_setCells_other g' g hne vs o w).trans h
theorem heap_setCells_size (g : Nat) : ∀ (vs : List Value) (o : Nat) (w : World), (w.setCells g o vs).heap.size = w.heap.size
  | [], _, _ => rfl
  | v :: vs, o, w => (heap_setCells_size g vs (o + 1) _).trans (by simp)
/-- a block whose cells are written all, from some place on -/
theorem heap_setCells_same (g : Nat) (t : TypeId) : ∀ (vs : List Value) (o : Nat) (w : World) (cs : List Value), w.heap[g]? = some (.cells cs.toArray t (0, 0)) → o + vs.length = cs.length →
    (w.setCells g o vs).heap[g]? = some (.cells (cs.take o ++ vs).toArray t (0, 0))
  | [], o, w, cs, h, hl => by
    simp only [List.length_nil, Nat.add_zero] at hl
    rw [List.append_nil, List.take_of_length_le (by omega)]
    exact h
  | v :: vs, o, w, cs, h, hl => by
    simp only [List.length_cons] at hl
    have h1 : (w.setCell ⟨g, o, none⟩ v).heap[g]? = some (.cells (cs.set o v).toArray t (0, 0)) := by
      rw [heap_setCell_same w g o _ t v h]
      simp
    have := heap_setCells_same g t vs (o + 1) _ (cs.set o v) h1 (by simp; omega)
    show ((w.setCell ⟨g, o, none⟩ v).setCells g (o + 1) vs).heap[g]? = _
    rw [this]
    congr 3
    have ho : o < (cs.set o v).length := by simp; omega
    rw [List.take_succ_eq_append_getElem ho, List.getElem_set_self, List.append_assoc, List.take_set_of_le (Nat.le_refl o)]
    rfl
theorem WordsAt.stored {w : World} {g : Nat} {t : TypeId} {L M : List UInt32} (h : WordsAt w g t L) (hl : L.length = M.length) : WordsAt (w.setCells g 0 (uc M)) g t M := by
  have := heap_setCells_same g t (uc M) 0 w (uc L) h (by simp [uc_length, hl])
  unfold WordsAt
  rw [this]
  simp
theorem WordsAt.there {w : World} {g : Nat} {t : TypeId} {L : List UInt32} (h : WordsAt w g t L) : w.there g 0 L.length := fun j hj => by
  rw [Nat.zero_add, h.cell j hj]
  exact ⟨rfl, h.free j⟩

/-- the first k words of one list added to those of another -/
def addTo (S X : List UInt32) (k : Nat) : List UInt32 := (List.range 8).map fun j => if j < k then S.getD j 0 + X.getD j 0 else S.getD j 0
theorem addTo_length (S X : List UInt32) (k : Nat) : (addTo S X k).length = 8 := by simp [addTo]
theorem addTo_zero (s : S8) (X : List UInt32) : addTo s.list X 0 = s.list := by simp [addTo, S8.list, List.range, List.range.loop]
theorem addTo_full (s x : S8) : addTo s.list x.list 8 = (s.add x).list := by simp [addTo, S8.list, S8.add, List.range, List.range.loop]
theorem addTo_get (S X : List UInt32) (k j : Nat) (h : j < 8) (hk : k ≤ j) : (addTo S X k)[j]'(by rw [addTo_length]; exact h) = S.getD j 0 := by
  simp only [addTo, List.getElem_map, List.getElem_range]
  rw [if_neg (by omega)]
theorem addTo_step (S X : List UInt32) (k : Nat) (h : k < 8) : (addTo S X k).set k (S.getD k 0 + X.getD k 0) = addTo S X (k + 1) := by
  apply List.ext_getElem
  · simp [addTo]
  · intro i h1 h2
    simp only [List.length_set, addTo_length] at h1
    rw [List.getElem_set]
    by_cases e : k = i
    · subst e
      rw [if_pos rfl]
      simp [addTo]
    · rw [if_neg e]
      simp only [addTo, List.getElem_map, List.getElem_range]
      by_cases c : i < k
      · rw [if_pos c, if_pos (by omega)]
      · rw [if_neg c, if_neg (by omega)]
theorem getD_of_lt (l : List UInt32) (k : Nat) (h : k < l.length) : l.getD k 0 = l[k] := by simp [List.getD, h]
theorem there_of_block {w : World} {g : Nat} {Z : Array Value} {t : TypeId} (h : w.heap[g]? = some (.cells Z t (0, 0))) : w.there g 0 Z.size := fun j hj => by
  rw [Nat.zero_add, cell_of_row w g j Z t (0, 0) h, Array.getElem?_eq_getElem hj]
  exact ⟨rfl, frozen_of_row w g j Z t h⟩
theorem S8.len (s : S8) : s.list.length = 8 := rfl

set_option maxRecDepth 100000 in
set_option maxHeartbeats 2000000 in
theorem mixed_any (s : S8) (B : List UInt8) (hB : B.length = 64) (w : World) :
    Calls Tryz.prog 117 #[.agg #[.int .u32 (n32 s.a), .int .u32 (n32 s.b), .int .u32 (n32 s.c), .int .u32 (n32 s.d), .int .u32 (n32 s.e), .int .u32 (n32 s.f), .int .u32 (n32 s.g), .int .u32 (n32 s.h)], .agg (bc B).toArray] w
      fun e w' => e = .returned (.agg (uc (mix s B).list).toArray) ∧ Below w.heap.size w w' := by
  obtain ⟨cs, hcs⟩ : ∃ cs, cs = (bc B).toArray := ⟨_, rfl⟩
  rw [← hcs]
  have HC := hide hcs
  clear hcs
  obtain ⟨W, hW⟩ : ∃ W, W = sched B := ⟨_, rfl⟩
  obtain ⟨K, hK⟩ : ∃ K, K = KK := ⟨_, rfl⟩
  have hsp := hide (spread_any B hB)
  have hco := hide consts_any
  have hWl : W.length = 64 := by rw [hW, sched, schedN_length]
  have hKl : K.length = 64 := by rw [hK]; rfl
  rw [← hW] at hsp
  rw [← hK] at hco
  have HW := hide hW
  have HK := hide hK
  clear hW hK
  have hWs : (uc W).toArray.size = 64 := by rw [List.size_toArray, uc_length, hWl]
  have hKs : (uc K).toArray.size = 64 := by rw [List.size_toArray, uc_length, hKl]
  go_enter Tryz.func117, Tryz.ntmps117
  go_upto_region 1 with fail
  go_cut [5, 6] (fun p5 p6 wx => ∃ g5 g6, p5 = .pointer (some ⟨g5, 0, none⟩) ∧ p6 = .pointer (some ⟨g6, 0, none⟩) ∧ WordsAt wx g5 151 K ∧ WordsAt wx g6 151 (W) ∧ WordsAt wx w.heap.size 143 s.list ∧ (∃ Z, wx.heap[w.heap.size + 1 + 1]? = some (.cells Z 143 (0, 0)) ∧ Z.size = 8) ∧ w.heap.size + 3 ≤ g5 ∧ w.heap.size + 3 ≤ g6 ∧ g5 ≠ g6 ∧ Below w.heap.size w wx)
  case first =>
    generalize hW0 : World.alloc (World.alloc (World.alloc w _) _) _ = W0
    have hN : WordsAt W0 w.heap.size 143 s.list := by rw [← hW0]; exact heap3_a _ _ _ _
    have hC : W0.heap[w.heap.size + 1]? = some (.cells cs 145 (0, 0)) := by rw [← hW0]; exact heap3_b _ _ _ _
    have hZ : ∃ Z, W0.heap[w.heap.size + 1 + 1]? = some (.cells Z 143 (0, 0)) ∧ Z.size = 8 := ⟨_, by rw [← hW0]; exact heap3_c _ _ _ _, rfl⟩
    have hsz : W0.heap.size = w.heap.size + 3 := by rw [← hW0]; simp
    have hb0 : Below w.heap.size w W0 := by rw [← hW0]; exact ((((Below.refl _ _).alloc (Nat.le_refl _) _).alloc (by simp) _).alloc (by simp; omega) _)
    clear hW0
    generalize hA : Act.mk _ _ = A
    have hA3 : A.eval (.tmp 3) = .pointer (some ⟨w.heap.size + 1, 0, none⟩) := by rw [← hA]; rfl
    have hAs : A.tmps.size = 115 := by rw [← hA]; rfl
    refine wp_region_inv0 (by kernel_rfl) (by kernel_rfl) (by kernel_rfl) (fun f a wr => Off [5, 6, 22, 23, 24] A a ∧ Below W0.heap.size W0 wr ∧ ((f 5 = true → f 3 = true) ∧ (f 6 = true → f 4 = true)) ∧ (f 0 = true → a.eval (.tmp 22) = .agg (uc K).toArray) ∧ (f 1 = true → a.eval (.tmp 23) = .agg cs) ∧ (f 2 = true → a.eval (.tmp 24) = .agg (uc (W)).toArray) ∧
      ∃ g5 g6, (f 3 = true → a.eval (.tmp 5) = .pointer (some ⟨g5, 0, none⟩) ∧ W0.heap.size ≤ g5 ∧ WordsAt wr g5 151 (if f 5 then K else List.replicate 64 0)) ∧ (f 4 = true → a.eval (.tmp 6) = .pointer (some ⟨g6, 0, none⟩) ∧ W0.heap.size ≤ g6 ∧ WordsAt wr g6 151 (if f 6 then W else List.replicate 64 0)) ∧ (f 3 = true → f 4 = true → g5 ≠ g6)) ?start ?step ?fin
    case start => exact ⟨Off.refl _ _, ⟨rfl, rfl, rfl, Nat.le_refl _, fun _ _ => rfl⟩, by simp, by simp, by simp, by simp, 0, 0, by simp, by simp, by simp⟩
    case step =>
      rintro f a wr i o ⟨hoff, hbl, hs, h0, h1, h2, g5, g6, h5, h6, hne⟩ ho hfi hdep
      have has : a.tmps.size = 115 := hoff.size.trans hAs
      rcases i with _ | _ | _ | _ | _ | _ | _ | i
      · obtain rfl := Option.some.inj ho
        refine wp_call 118 #[] #[] rfl Tryz.call118 #[] (by simp) (unhide hco wr) ?_
        rintro e w' ⟨rfl, hb⟩
        refine ⟨_, rfl, hoff.put 22 _ (by simp), hbl.trans (hb.mono hbl.size), hs, fun _ => eval_put_same a 22 _ (by omega), fun h => (eval_put_ne a 22 23 _ (by decide)).trans (h1 h), fun h => (eval_put_ne a 22 24 _ (by decide)).trans (h2 h), g5, g6, fun h => ⟨(eval_put_ne a 22 5 _ (by decide)).trans (h5 h).1, (h5 h).2.1, (h5 h).2.2.below hb⟩, fun h => ⟨(eval_put_ne a 22 6 _ (by decide)).trans (h6 h).1, (h6 h).2.1, (h6 h).2.2.below hb⟩, hne⟩
      · obtain rfl := Option.some.inj ho
        refine wp_load_row 145 (.tmp 3) rfl (w.heap.size + 1) ((hoff.eval 3 (by simp)).trans hA3) 145 cs (0, 0) _ ((hbl.block _ (by omega)).trans hC) Tryz.underlying145 rfl ?_ ?_
        · rw [unhide HC, List.size_toArray, bc_length, hB]; kernel_rfl
        exact ⟨hoff.put 23 _ (by simp), hbl, hs, fun h => (eval_put_ne a 23 22 _ (by decide)).trans (h0 h), fun _ => eval_put_same a 23 _ (by omega), fun h => (eval_put_ne a 23 24 _ (by decide)).trans (h2 h), g5, g6, fun h => ⟨(eval_put_ne a 23 5 _ (by decide)).trans (h5 h).1, (h5 h).2⟩, fun h => ⟨(eval_put_ne a 23 6 _ (by decide)).trans (h6 h).1, (h6 h).2⟩, hne⟩
      · obtain rfl := Option.some.inj ho
        have d1 : f 1 = true := hdep ⟨1, .data⟩ (by simp) rfl
        refine wp_call 119 #[.tmp 23] #[145] rfl Tryz.call119 #[.agg (bc B).toArray] (by simp [h1 d1, unhide HC]) (unhide hsp wr) ?_
        rintro e w' ⟨rfl, hb⟩
        exact ⟨_, rfl, hoff.put 24 _ (by simp), hbl.trans (hb.mono hbl.size), hs, fun h => (eval_put_ne a 24 22 _ (by decide)).trans (h0 h), fun h => (eval_put_ne a 24 23 _ (by decide)).trans (h1 h), fun _ => eval_put_same a 24 _ (by omega), g5, g6, fun h => ⟨(eval_put_ne a 24 5 _ (by decide)).trans (h5 h).1, (h5 h).2.1, (h5 h).2.2.below hb⟩, fun h => ⟨(eval_put_ne a 24 6 _ (by decide)).trans (h6 h).1, (h6 h).2.1, (h6 h).2.2.below hb⟩, hne⟩
      · obtain rfl := Option.some.inj ho
        refine wp_alloc 151 rfl _ Tryz.zeroValue151 ?_
        have f5 : f 5 = false := by
          cases hf : f 5 with
          | false => rfl
          | true => exact absurd (hs.1 hf) (by rw [hfi]; simp)
        refine ⟨hoff.put 5 _ (by simp), hbl.alloc hbl.size _, ⟨fun _ => rfl, hs.2⟩, fun h => (eval_put_ne a 5 22 _ (by decide)).trans (h0 h), fun h => (eval_put_ne a 5 23 _ (by decide)).trans (h1 h), fun h => (eval_put_ne a 5 24 _ (by decide)).trans (h2 h), wr.heap.size, g6, fun _ => ⟨eval_put_same a 5 _ (by omega), hbl.size, ?_⟩, fun h => ⟨(eval_put_ne a 5 6 _ (by decide)).trans (h6 h).1, (h6 h).2.1, (h6 h).2.2.alloc _⟩, fun _ h => Nat.ne_of_gt (h6 h).2.2.lt⟩
        show WordsAt _ _ _ (if f 5 = true then K else List.replicate 64 0)
        rw [f5]
        exact heap_alloc_new _ _
      · obtain rfl := Option.some.inj ho
        refine wp_alloc 151 rfl _ Tryz.zeroValue151 ?_
        have f6 : f 6 = false := by
          cases hf : f 6 with
          | false => rfl
          | true => exact absurd (hs.2 hf) (by rw [hfi]; simp)
        refine ⟨hoff.put 6 _ (by simp), hbl.alloc hbl.size _, ⟨hs.1, fun _ => rfl⟩, fun h => (eval_put_ne a 6 22 _ (by decide)).trans (h0 h), fun h => (eval_put_ne a 6 23 _ (by decide)).trans (h1 h), fun h => (eval_put_ne a 6 24 _ (by decide)).trans (h2 h), g5, wr.heap.size, fun h => ⟨(eval_put_ne a 6 5 _ (by decide)).trans (h5 h).1, (h5 h).2.1, (h5 h).2.2.alloc _⟩, fun _ => ⟨eval_put_same a 6 _ (by omega), hbl.size, ?_⟩, fun h _ => Nat.ne_of_lt (h5 h).2.2.lt⟩
        show WordsAt _ _ _ (if f 6 = true then W else List.replicate 64 0)
        rw [f6]
        exact heap_alloc_new _ _
      · obtain rfl := Option.some.inj ho
        have d0 : f 0 = true := hdep ⟨0, .data⟩ (by simp) rfl
        have d3 : f 3 = true := hdep ⟨3, .data⟩ (by simp) rfl
        have d4 : f 4 = true := hdep ⟨4, .phase⟩ (by simp) rfl
        obtain ⟨e5, k5, w5⟩ := h5 d3
        rw [hfi] at w5
        have w5' : WordsAt wr g5 151 (List.replicate 64 0) := w5
        have hth := w5'.there
        rw [List.length_replicate] at hth
        refine wp_store_mid 151 (.tmp 5) (.tmp 22) rfl g5 0 (uc K).toArray e5 (h0 d0) (by rw [hKs]; exact hth) (by rw [hKs]; kernel_rfl) (all_oneCell_toArray (uc_oneCell _)) ?_
        refine ⟨hoff, below_setCells k5 _ _ _ hbl, ⟨fun _ => d3, hs.2⟩, h0, h1, h2, g5, g6, fun h => ⟨e5, k5, w5'.stored (by rw [List.length_replicate, hKl])⟩, fun h => ⟨(h6 h).1, (h6 h).2.1, (h6 h).2.2.setCells_other _ (fun e => hne d3 d4 e.symm)⟩, hne⟩
      · obtain rfl := Option.some.inj ho
        have d2 : f 2 = true := hdep ⟨2, .data⟩ (by simp) rfl
        have d3 : f 3 = true := hdep ⟨3, .phase⟩ (by simp) rfl
        have d4 : f 4 = true := hdep ⟨4, .data⟩ (by simp) rfl
        obtain ⟨e6, k6, w6⟩ := h6 d4
        rw [hfi] at w6
        have w6' : WordsAt wr g6 151 (List.replicate 64 0) := w6
        have hth := w6'.there
        rw [List.length_replicate] at hth
        refine wp_store_mid 151 (.tmp 6) (.tmp 24) rfl g6 0 (uc (W)).toArray e6 (h2 d2) (by rw [hWs]; exact hth) (by rw [hWs]; kernel_rfl) (all_oneCell_toArray (uc_oneCell _)) ?_
        refine ⟨hoff, below_setCells k6 _ _ _ hbl, ⟨hs.1, fun _ => d4⟩, h0, h1, h2, g5, g6, fun h => ⟨(h5 h).1, (h5 h).2.1, (h5 h).2.2.setCells_other _ (hne d3 d4)⟩, fun h => ⟨e6, k6, w6'.stored (by rw [List.length_replicate, hWl])⟩, hne⟩
      · simp at ho
    case fin =>
      rintro f a wr ⟨hoff, hbl, hs, h0, h1, h2, g5, g6, h5, h6, hne⟩ hall
      have e := Off.all _ _ hoff
      have i0 := hall 0 (by decide)
      have i3 := hall 3 (by decide)
      have i4 := hall 4 (by decide)
      have i5 := hall 5 (by decide)
      have i6 := hall 6 (by decide)
      obtain ⟨e5, k5, w5⟩ := h5 i3
      obtain ⟨e6, k6, w6⟩ := h6 i4
      rw [i5] at w5
      rw [i6] at w6
      simp only [List.foldl_cons, List.foldl_nil] at e
      rw [e5, e6, h0 i0, h1 (hall 1 (by decide)), h2 (hall 2 (by decide)), ← hA] at e
      subst e
      clear e5 e6 h0 h1 h2 h5 h6 hoff
      go_wp2_with fail
      go_meet
      case rel =>
        obtain ⟨Z, z1, z2⟩ := hZ
        exact ⟨g5, g6, rfl, rfl, w5, w6, (hbl.block _ (by omega)).trans hN, ⟨Z, (hbl.block _ (by omega)).trans z1, z2⟩, by omega, by omega, hne i3 i4, hb0.trans (hbl.mono (by omega))⟩
  case rest =>
    obtain ⟨g5, g6, rfl, rfl, w5, w6, hN, ⟨Z, z1, z2⟩, k5, k6, hne, hb⟩ := hcut
    have c0 := hN.cell 0 (by simp [S8.list])
    have c1 := hN.cell 1 (by simp [S8.list])
    have c2 := hN.cell 2 (by simp [S8.list])
    have c3 := hN.cell 3 (by simp [S8.list])
    have c4 := hN.cell 4 (by simp [S8.list])
    have c5 := hN.cell 5 (by simp [S8.list])
    have c6 := hN.cell 6 (by simp [S8.list])
    have c7 := hN.cell 7 (by simp [S8.list])
    simp only [S8.list, List.getElem_cons_zero, List.getElem_cons_succ] at c0 c1 c2 c3 c4 c5 c6 c7
    go_wp2
    go_big_quiet (fail)
    go_wp2
    clear c0 c1 c2 c3 c4 c5 c6 c7
    go_loopw [7, 8, 9, 10, 11, 12, 13, 14, 41] (fun xa xb xc xd xe xf xg xh i wr => ∃ t : Nat, t ≤ 64 ∧ i = .int .i64 t ∧ (∃ m, wr = wc.drewN m) ∧ xa = .int .u32 (n32 (rnds W s t).a) ∧ xb = .int .u32 (n32 (rnds W s t).b) ∧ xc = .int .u32 (n32 (rnds W s t).c) ∧ xd = .int .u32 (n32 (rnds W s t).d) ∧ xe = .int .u32 (n32 (rnds W s t).e) ∧ xf = .int .u32 (n32 (rnds W s t).f) ∧ xg = .int .u32 (n32 (rnds W s t).g) ∧ xh = .int .u32 (n32 (rnds W s t).h)) (fun _ _ _ _ _ _ _ _ i _ => 64 - (intOf i).toNat)
    case atStart => exact ⟨0, by omega, rfl, ⟨_, rfl⟩, rfl, rfl, rfl, rfl, rfl, rfl, rfl, rfl⟩
    case round =>
      obtain ⟨t, ht, rfl, ⟨m, rfl⟩, rfl, rfl, rfl, rfl, rfl, rfl, rfl, rfl⟩ := hrel
      by_cases hlt : t < 64
      · have cK : wc.cell? ⟨g5, t, none⟩ = some (.int .u32 (n32 (KK.getD t 0))) := by
          rw [w5.cell t (by omega)]
          have hk := unhide HK
          subst hk
          simp [List.getD, hKl, hlt]
        have cW : wc.cell? ⟨g6, t, none⟩ = some (.int .u32 (n32 (W.getD t 0))) := by
          rw [w6.cell t (by omega)]
          simp [List.getD, hWl, hlt]
        have hst : Hid (rnds W s (t + 1) = rnd (rnds W s t) (KK.getD t 0) (W.getD t 0)) := rfl
        generalize KK.getD t 0 = kt at *
        generalize W.getD t 0 = wt at *
        generalize rnds W s t = r at *
        have t0 : (0 : Int) ≤ t := by omega
        have t9 : (t : Int) < 64 := by omega
        go_wp2
        go_big_quiet ((go_at_call 120; exact quiet_same2 (turned_e _ _)))
        go_wp2_with (go_at_call 120; refine (turned_a _ _).mono ?_; rintro e w' ⟨rfl, rfl⟩)
        go_roundw
        case rel => exact ⟨t + 1, by omega, by go_num, ⟨_, rfl⟩, by rw [unhide hst, add32]; rfl, by rw [unhide hst]; rfl, by rw [unhide hst]; rfl, by rw [unhide hst]; rfl, by rw [unhide hst, add32]; rfl, by rw [unhide hst]; rfl, by rw [unhide hst]; rfl, by rw [unhide hst]; rfl⟩
        case measure => simp [intOf]; omega
      · have ht64 : t = 64 := by omega
        subst ht64
        have hmx : Hid (mix s B = s.add (rnds W s 64)) := by show _ = _; unfold mix; rw [unhide HW]
        generalize rnds W s 64 = x at *
        have hN' : WordsAt (wc.drewN m) w.heap.size 143 s.list := hN
        have hb' : Below w.heap.size w (wc.drewN m) := below_drewN hb m
        have z1' : (wc.drewN m).heap[w.heap.size + 1 + 1]? = some (.cells Z 143 (0, 0)) := z1
        generalize wc.drewN m = wd at *
        clear hN hb z1 w5 w6 hsp hco hlt ht HC HK HW hWs hKs hWl hKl hB
        go_wp2
        go_loopw [103] (fun i wr => ∃ k : Nat, k ≤ 8 ∧ i = .int .i64 k ∧ WordsAt wr w.heap.size 143 (addTo s.list x.list k) ∧ wr.heap[w.heap.size + 1 + 1]? = some (.cells Z 143 (0, 0)) ∧ Below w.heap.size w wr) (fun i _ => 8 - (intOf i).toNat)
        case atStart => exact ⟨0, by omega, rfl, by rw [addTo_zero]; exact hN', z1', hb'⟩
        case round =>
          clear hN' hb' z1'
          obtain ⟨k, hk, rfl, hw1, z1, hb⟩ := hrel
          by_cases hlt : k < 8
          · have c1 := hw1.cell k (by rw [addTo_length]; exact hlt)
            rw [addTo_get _ _ _ _ hlt (Nat.le_refl _)] at c1
            have f1 := hw1.free k
            have hix : ∀ w, (Instr.index 143 (.agg #[.int .u32 (n32 x.a), .int .u32 (n32 x.b), .int .u32 (n32 x.c), .int .u32 (n32 x.d), .int .u32 (n32 x.e), .int .u32 (n32 x.f), .int .u32 (n32 x.g), .int .u32 (n32 x.h)]) (.int .i64 k)).run Tryz.prog w = .ok (.int .u32 (n32 (x.list.getD k 0))) w := fun w =>
              run_index_agg (P := Tryz.prog) 143 103 8 (uc x.list).toArray .i64 k _ Tryz.underlying143 ⟨_, Tryz.underlying103, rfl⟩ (by kernel_rfl) hlt (by simp only [List.getElem?_toArray]; rw [getD_of_lt _ _ (by rw [S8.len]; exact hlt)]; exact uc_get _ _ (by rw [S8.len]; exact hlt)) w
            have hst := hide (hw1.set k (s.list.getD k 0 + x.list.getD k 0))
            rw [addTo_step _ _ _ hlt] at hst
            have hst2 : Hid ((wr.setCell ⟨w.heap.size, k, none⟩ (.int .u32 (n32 (s.list.getD k 0 + x.list.getD k 0)))).heap[w.heap.size + 1 + 1]? = some (.cells Z 143 (0, 0))) := (Below.heap_setCell _ _ _ _ (by simp; omega)).trans z1
            have hb2 := hide (hb.setCell (p := ⟨w.heap.size, k, none⟩) (Nat.le_refl _) (.int .u32 (n32 (s.list.getD k 0 + x.list.getD k 0))))
            have hk0 : (0 : Int) ≤ k := by omega
            have hk8 : (k : Int) < 8 := by omega
            clear hw1 z1 hb
            generalize s.list.getD k 0 = sk at *
            generalize x.list.getD k 0 = xk at *
            go_wp2
            go_roundw
            case rel => exact ⟨k + 1, by omega, by go_num, unhide hst, unhide hst2, unhide hb2⟩
            case measure => simp [intOf]; omega
          · have hk8 : k = 8 := by omega
            subst hk8
            rw [addTo_full, ← unhide hmx] at hw1
            have hS1 : (uc (mix s B).list).toArray.size = 8 := by rw [List.size_toArray, uc_length, S8.len]
            have hS2 : (uc (mix s B).list).toArray.all (·.oneCell') = true := all_oneCell_toArray (uc_oneCell _)
            have hth := there_of_block z1
            rw [z2] at hth
            unfold WordsAt at hw1
            generalize hSe : (uc (mix s B).list).toArray = S at *
            have HSE := hide hSe
            have HB := hide hb
            clear hSe hb z1 hmx
            go_wp2_with (first | (refine wpList_load_row rfl 143 (.tmp 2) rfl w.heap.size rfl 143 S (0, 0) _ hw1 Tryz.underlying143 rfl ?hi2 ?_) | (refine wpList_store_mid rfl 143 (.tmp 4) (.tmp 114) rfl (w.heap.size + 1 + 1) 0 S rfl rfl ?ht3 ?hi3 hS2 ?_))
            case hi2 => rw [hS1]; kernel_rfl
            case ht3 => rw [hS1]; exact hth
            case hi3 => rw [hS1]; kernel_rfl
            refine bodyPost_ret (v := .agg S) ?_ rfl ⟨by rw [unhide HSE], below_setCells (by omega) _ _ _ (unhide HB)⟩
            refine results_cell_mid (P := Tryz.prog) (fn := Tryz.f117) (p := 4) (ty := 143) (by kernel_rfl) _ (wr.setCells (w.heap.size + 1 + 1) 0 S.toList) (w.heap.size + 1 + 1) 0 S.toList _ (by rfl) (World.rangeAt_setCells_same _ _ _ _ (by rw [Array.length_toList, hS1]; exact hth)) Tryz.underlying143 rfl (by rw [Array.length_toList, hS1]; kernel_rfl)
end Go.Proofs.YtkcnihngkmaecaaGreat
namespace Go.Proofs.YtkcnihngkmaecaaGreat
open Go.RowKit
set_option linter.unusedVariables false

/-- the state of no bytes -/
def s8H : S8 := ⟨0x6a09e667, 0xbb67ae85, 0x3c6ef372, 0xa54ff53a, 0x510e527f, 0x9b05688c, 0x1f83d9ab, 0x5be0cd19⟩
theorem s8H_list : s8H.list = H0 := rfl
/-- the state behind the first n blocks of l -/
def mixN (l : List UInt8) : Nat → S8
  | 0 => s8H
  | n + 1 => mix (mixN l n) ((l.drop (64 * n)).take 64)
theorem mixN_append (l m : List UInt8) : ∀ n, 64 * n ≤ l.length → mixN (l ++ m) n = mixN l n
  | 0, _ => rfl
  | n + 1, h => by
    unfold mixN
    rw [mixN_append l m n (by omega), List.drop_append_of_le_length (by omega), List.take_append_of_le_length (by rw [List.length_drop]; omega)]

/-- what a sum holds of the bytes l: the state, and the bytes behind the last whole block -/
structure HashOf (l : List UInt8) (st : S8) (P : List UInt8) : Prop where
  state : st = mixN l (l.length / 64)
  len : P.length = 64
  tail : P.take (l.length % 64) = l.drop (64 * (l.length / 64))

/-- bytes laid over others -/
def over (P c : List UInt8) (r : Nat) : List UInt8 := P.take r ++ c ++ P.drop (r + c.length)
theorem over_length (P c : List UInt8) (r : Nat) (h : r + c.length ≤ P.length) : (over P c r).length = P.length := by
  unfold over
  simp only [List.length_append, List.length_take, List.length_drop]
  omega
theorem HashOf.more {l : List UInt8} {st : S8} {P : List UInt8} (h : HashOf l st P) (c : List UInt8) (hr : l.length % 64 + c.length < 64) : HashOf (l ++ c) st (over P c (l.length % 64)) := by
  have hp := h.len
  have hq : (l.length + c.length) / 64 = l.length / 64 := by omega
  have hm : (l.length + c.length) % 64 = l.length % 64 + c.length := by omega
  refine ⟨?_, by rw [over_length _ _ _ (by omega), hp], ?_⟩
  · rw [List.length_append, hq, mixN_append _ _ _ (by omega)]
    exact h.state
  · rw [List.length_append, hq, hm, List.drop_append_of_le_length (by omega), ← h.tail]
    unfold over
    rw [List.append_assoc, ← List.append_assoc, List.take_append_of_le_length (by simp only [List.length_append, List.length_take]; omega), List.take_of_length_le (by simp only [List.length_append, List.length_take]; omega)]
theorem HashOf.whole {l : List UInt8} {st : S8} {P : List UInt8} (h : HashOf l st P) (c : List UInt8) (hr : l.length % 64 + c.length = 64) (hc : 0 < c.length) :
    HashOf (l ++ c) (mix st (over P c (l.length % 64))) (over P c (l.length % 64)) := by
  have hp := h.len
  have hq : (l.length + c.length) / 64 = l.length / 64 + 1 := by omega
  have hm : (l.length + c.length) % 64 = 0 := by omega
  have ho : over P c (l.length % 64) = l.drop (64 * (l.length / 64)) ++ c := by
    have hd : P.drop (l.length % 64 + c.length) = [] := List.drop_eq_nil_of_le (by omega)
    unfold over
    rw [h.tail, hd, List.append_nil]
  refine ⟨?_, by rw [over_length _ _ _ (by omega), hp], ?_⟩
  · rw [List.length_append, hq]
    show _ = mix (mixN (l ++ c) (l.length / 64)) (((l ++ c).drop (64 * (l.length / 64))).take 64)
    rw [mixN_append _ _ _ (by omega), List.drop_append_of_le_length (by omega), ho, ← h.state]
    rw [List.take_of_length_le (by simp only [List.length_append, List.length_drop]; omega)]
  · rw [List.length_append, hm, List.take_zero, hq, List.drop_eq_nil_of_le (by simp only [List.length_append]; omega)]

theorem run_copy_string {P : Program} (w : World) (dT sT ty elem : TypeId) (g o dLen dCap : Nat) (s : ByteArray) (cur : List Value) (t : TypeId) (hu : P.underlying dT = some (.slice elem)) (hs : (P.info? elem).map (·.size) = some 1)
    (hg : w.heap[g]? = some (.cells cur.toArray t (0, 0))) (n : Nat) (hn : n = Nat.min s.size dLen) (hfit : o + n ≤ cur.length) :
    (Builtin.copy_ #[dT, sT] ty #[.slice (some ⟨g, o, none⟩) dLen dCap, .string s]).run P w = .ok (goInt n) (w.setRow g (cur.take o ++ bc (s.data.toList.take n) ++ cur.drop (o + n)).toArray) := by
  have hl : (bc (s.data.toList.take n)).length = n := by
    rw [bc_length, List.length_take, blen]
    have : n ≤ s.size := by rw [hn]; exact Nat.min_le_left _ _
    omega
  have hst := run_storeCells_at P g o t (bc (s.data.toList.take n)) 0 cur.toArray w hg (by rw [hl]; simpa using hfit) (bc_oneCell _)
  simp only [Nat.add_zero, hl] at hst
  have hf : (Builtin.firstCells 1 n (.string s)).run P w = .ok (bc (s.data.toList.take n)).toArray w := by
    simp [Builtin.firstCells, bc]
    apply Array.ext'
    simp
  cases hq : P.info? elem with
  | none => simp [hq] at hs
  | some inf =>
    have hs1 : inf.size = 1 := by simpa [hq] using hs
    simp only [hn] at hst hf ⊢
    simp [Builtin.copy_, run_underlying hu, Builtin.lenOf, sizeOf, typeInfo, hq, hs1, hf, hst]

theorem wp_copy_string {P : Program} {o : Oper} {a : Act} {w : World} {K : Act → World → Prop} {Q : Exit → Act → World → Prop} (d x : Operand) (dT sT : TypeId)
    (ho : o.op = .call { callee := .builtin .copy, args := #[d, x], argTypes := #[dT, sT] }) (elem : TypeId) (hu : P.underlying dT = some (.slice elem)) (hsz : (P.info? elem).map (·.size) = some 1)
    (g off dLen dCap : Nat) (s : ByteArray) (hd : a.eval d = .slice (some ⟨g, off, none⟩) dLen dCap) (hx : a.eval x = .string s) (cur : List Value) (t : TypeId) (hg : w.heap[g]? = some (.cells cur.toArray t (0, 0)))
    (n : Nat) (hn : n = Nat.min s.size dLen) (hfit : off + n ≤ cur.length)
    (h : ∀ w', Hid (w' = w.setRow g (cur.take off ++ bc (s.data.toList.take n) ++ cur.drop (off + n)).toArray) → K (a.put o.dst (goInt n)) w') : o.wp P a w K Q := by
  have hrun := run_copy_string (P := P) w dT sT o.type elem g off dLen dCap s cur t hu hsz hg n hn hfit
  have h := h _ rfl
  rw [List.append_assoc] at hrun h
  unfold Oper.wp
  simp [execOp, ho, resolve, invoke, builtin, hd, hx, hrun, Result.andThen]
  exact h
theorem step_copy_string {P : Program} {ops : Array Oper} {o : Oper} {a : Act} {w : World} {K : Act → World → Prop} {Q : Exit → Act → World → Prop} {E : Prop} (hgd : o.guard = none) (d x : Operand) (dT sT : TypeId)
    (ho : o.op = .call { callee := .builtin .copy, args := #[d, x], argTypes := #[dT, sT] }) (elem : TypeId) (hu : P.underlying dT = some (.slice elem)) (hsz : (P.info? elem).map (·.size) = some 1)
    (g off dLen dCap : Nat) (s : ByteArray) (hd : a.eval d = .slice (some ⟨g, off, none⟩) dLen dCap) (hx : a.eval x = .string s) (cur : List Value) (t : TypeId) (hg : w.heap[g]? = some (.cells cur.toArray t (0, 0)))
    (n : Nat) (hn : n = Nat.min s.size dLen) (hfit : off + n ≤ cur.length)
    (h : ∀ w', Hid (w' = w.setRow g (cur.take off ++ bc (s.data.toList.take n) ++ cur.drop (off + n)).toArray) → K (a.put o.dst (goInt n)) w') :
    if Region.wanted o (yielded ops a.tmps) = true then Oper.wp P o a w K Q else E := by
  have hw : Region.wanted o (yielded ops a.tmps) = true := by simp [Region.wanted, hgd]
  rw [if_pos hw]
  exact wp_copy_string d x dT sT ho elem hu hsz g off dLen dCap s hd hx cur t hg n hn hfit h
theorem wpList_copy_string {P : Program} {ops : Array Oper} {rest : List Oper} {o : Oper} {a : Act} {w : World} {Q : Exit → Act → World → Prop} (hgd : o.guard = none) (d x : Operand) (dT sT : TypeId)
    (ho : o.op = .call { callee := .builtin .copy, args := #[d, x], argTypes := #[dT, sT] }) (elem : TypeId) (hu : P.underlying dT = some (.slice elem)) (hsz : (P.info? elem).map (·.size) = some 1)
    (g off dLen dCap : Nat) (s : ByteArray) (hd : a.eval d = .slice (some ⟨g, off, none⟩) dLen dCap) (hx : a.eval x = .string s) (cur : List Value) (t : TypeId) (hg : w.heap[g]? = some (.cells cur.toArray t (0, 0)))
    (n : Nat) (hn : n = Nat.min s.size dLen) (hfit : off + n ≤ cur.length)
    (h : ∀ w', Hid (w' = w.setRow g (cur.take off ++ bc (s.data.toList.take n) ++ cur.drop (off + n)).toArray) → wpList P ops Q rest (a.put o.dst (goInt n)) w') : wpList P ops Q (o :: rest) a w :=
  wpList_plain hgd fun _ hK => wp_copy_string d x dT sT ho elem hu hsz g off dLen dCap s hd hx cur t hg n hn hfit (fun w' hw' => hK _ _ (h w' hw'))

end Go.Proofs.YtkcnihngkmaecaaGreat
namespace Go.Proofs.YtkcnihngkmaecaaGreat
open Go.RowKit
set_option linter.unusedVariables false

/-- block b is a sum: its state, its bytes behind the last whole block, how many bytes were written -/
structure HashAt (w : World) (b : Nat) (st : S8) (P : List UInt8) (n : Nat) : Prop where
  heap : w.heap[b]? = some (.cells (uc st.list ++ bc P ++ [Value.int .i64 n]).toArray 147 (0, 0))
  len : P.length = 64
theorem HashAt.long {w : World} {b : Nat} {st : S8} {P : List UInt8} {n : Nat} (h : HashAt w b st P n) : w.cell? ⟨b, 72, none⟩ = some (.int .i64 n) := by
  rw [cell_of_row w b 72 _ _ (0, 0) h.heap]
  have hl : (uc st.list ++ bc P).length = 72 := by rw [List.length_append, uc_length, S8.len, bc_length, h.len]
  simp only [List.getElem?_toArray]
  rw [List.getElem?_append_right (by omega), hl]
  rfl

theorem HashAt.lt {w : World} {b : Nat} {st : S8} {P : List UInt8} {n : Nat} (h : HashAt w b st P n) : b < w.heap.size := lt_of_block h.heap
theorem HashAt.free {w : World} {b : Nat} {st : S8} {P : List UInt8} {n : Nat} (h : HashAt w b st P n) (j : Nat) : w.frozen? ⟨b, j, none⟩ = false := frozen_of_row w b j _ _ h.heap
theorem hash_cells_length (st : S8) (P : List UInt8) (n : Nat) (hP : P.length = 64) : (uc st.list ++ bc P ++ [Value.int .i64 n]).length = 73 := by
  simp only [List.length_append, uc_length, S8.len, bc_length, hP, List.length_singleton]
theorem hash_over (st : S8) (P c : List UInt8) (n r : Nat) (hP : P.length = 64) (h : r + c.length ≤ 64) :
    (uc st.list ++ bc P ++ [Value.int .i64 n]).take (8 + r) ++ bc c ++ (uc st.list ++ bc P ++ [Value.int .i64 n]).drop (8 + r + c.length) = uc st.list ++ bc (over P c r) ++ [Value.int .i64 n] := by
  have h8 : (uc st.list).length = 8 := by rw [uc_length, S8.len]
  have hp : (bc P).length = 64 := by rw [bc_length, hP]
  have e1 : (uc st.list ++ bc P ++ [Value.int .i64 n]).take (8 + r) = uc st.list ++ (bc P).take r := by
    rw [List.take_append_of_le_length (by rw [List.length_append]; omega), List.take_append, h8, List.take_of_length_le (by omega), show 8 + r - 8 = r by omega]
  have e2 : (uc st.list ++ bc P ++ [Value.int .i64 n]).drop (8 + r + c.length) = (bc P).drop (r + c.length) ++ [Value.int .i64 n] := by
    rw [List.drop_append_of_le_length (by rw [List.length_append]; omega), List.drop_append, h8, List.drop_eq_nil_of_le (by omega), show 8 + r + c.length - 8 = r + c.length by omega, List.nil_append]
  rw [e1, e2]
  unfold over
  simp [bc, List.map_take, List.map_drop]
theorem hash_setLong (st : S8) (P : List UInt8) (n m : Nat) (hP : P.length = 64) : (uc st.list ++ bc P ++ [Value.int .i64 n]).set 72 (.int .i64 m) = uc st.list ++ bc P ++ [Value.int .i64 m] := by
  have hl : (uc st.list ++ bc P).length = 72 := by rw [List.length_append, uc_length, S8.len, bc_length, hP]
  rw [List.set_append_right _ _ (by omega), hl]
  rfl
theorem HashAt.setLong {w : World} {b : Nat} {st : S8} {P : List UInt8} {n : Nat} (h : HashAt w b st P n) (m : Nat) : HashAt (w.setCell ⟨b, 72, none⟩ (.int .i64 m)) b st P m := by
  refine ⟨?_, h.len⟩
  rw [heap_setCell_same w b 72 _ _ _ h.heap]
  rw [← hash_setLong st P n m h.len]
  simp
theorem HashAt.over {w : World} {b : Nat} {st : S8} {P : List UInt8} {n : Nat} (h : HashAt w b st P n) (c : List UInt8) (r : Nat) (hr : r + c.length ≤ 64) (cur : List Value) (hcur : uc st.list ++ bc P ++ [Value.int .i64 n] = cur) :
    HashAt (w.setRow b (cur.take (8 + r) ++ bc c ++ cur.drop (8 + r + c.length)).toArray) b st (over P c r) n := by
  refine ⟨?_, by rw [over_length _ _ _ (by rw [h.len]; exact hr), h.len]⟩
  rw [setRow_heap w b _ _ _ _ h.heap, ← hcur, hash_over st P c n r h.len hr]
theorem kept_setRow (B : Nat) (w : World) (b : Nat) (cs : Array Value) : Kept B b w (w.setRow b cs) :=
  ⟨rfl, rfl, rfl, by simp [World.setRow], fun k _ hn => setRow_other w b k cs hn⟩
theorem kept_setCells (B b : Nat) : ∀ (vs : List Value) (o : Nat) (w : World), Kept B b w (w.setCells b o vs)
  | [], _, w => Kept.refl _ _ _
  | v :: vs, o, w => (kept_set B w b o v).trans (kept_setCells B b vs (o + 1) _)
theorem kept_drewN {B b : Nat} {x y : World} (h : Kept B b x y) (n : Nat) : Kept B b x (y.drewN n) := ⟨h.os, h.tape, h.output, h.size, h.block⟩
theorem kept_drew {B b : Nat} {x y : World} (h : Kept B b x y) : Kept B b x y.drew := ⟨h.os, h.tape, h.output, h.size, h.block⟩

theorem bdrop (s : ByteArray) (n : Nat) : (s.extract n s.size).data.toList = s.data.toList.drop n := by
  rw [ByteArray.data_extract, Array.toList_extract, List.extract_eq_take_drop, List.take_of_length_le (by rw [List.length_drop, blen]; exact Nat.le_refl _)]
theorem mixed_uc (s : S8) (B : List UInt8) (hB : B.length = 64) (w : World) :
    Calls Tryz.prog 117 #[.agg (uc s.list).toArray, .agg (bc B).toArray] w fun e w' => e = .returned (.agg (uc (mix s B).list).toArray) ∧ Below w.heap.size w w' := mixed_any s B hB w
theorem HashAt.range8 {w : World} {b : Nat} {st : S8} {P : List UInt8} {n : Nat} (h : HashAt w b st P n) : w.rangeAt b 0 (uc st.list) := fun j v hv => by
  have hj := (List.getElem?_eq_some_iff.1 hv).1
  rw [Nat.zero_add, cell_of_row w b j _ _ (0, 0) h.heap]
  simp only [List.getElem?_toArray]
  rw [List.append_assoc, List.getElem?_append_left hj]
  exact hv
theorem HashAt.range64 {w : World} {b : Nat} {st : S8} {P : List UInt8} {n : Nat} (h : HashAt w b st P n) : w.rangeAt b 8 (bc P) := fun j v hv => by
  have hj := (List.getElem?_eq_some_iff.1 hv).1
  have h8 : (uc st.list).length = 8 := by rw [uc_length, S8.len]
  rw [cell_of_row w b (8 + j) _ _ (0, 0) h.heap]
  simp only [List.getElem?_toArray]
  rw [List.getElem?_append_left (by rw [List.length_append]; omega), List.getElem?_append_right (by omega), h8, Nat.add_sub_cancel_left]
  exact hv
theorem HashAt.there8 {w : World} {b : Nat} {st : S8} {P : List UInt8} {n : Nat} (h : HashAt w b st P n) : w.there b 0 8 := fun j hj => by
  have := h.range8.isSome j (by rw [uc_length, S8.len]; exact hj)
  exact ⟨this, by rw [Nat.zero_add]; exact h.free j⟩
theorem HashAt.below {w w' : World} {b : Nat} {st : S8} {P : List UInt8} {n : Nat} (h : HashAt w b st P n) (hb : Below w.heap.size w w') : HashAt w' b st P n := ⟨(hb.block b h.lt).trans h.heap, h.len⟩
theorem setCells_pre (b : Nat) (t : TypeId) : ∀ (vs : List Value) (o : Nat) (w : World) (cs : List Value), w.heap[b]? = some (.cells cs.toArray t (0, 0)) → o + vs.length ≤ cs.length →
    (w.setCells b o vs).heap[b]? = some (.cells (cs.take o ++ vs ++ cs.drop (o + vs.length)).toArray t (0, 0))
  | [], o, w, cs, h, hl => by
    simp only [List.length_nil, Nat.add_zero, List.append_nil, List.take_append_drop]
    exact h
  | v :: vs, o, w, cs, h, hl => by
    simp only [List.length_cons] at hl
    have h1 : (w.setCell ⟨b, o, none⟩ v).heap[b]? = some (.cells (cs.set o v).toArray t (0, 0)) := by
      rw [heap_setCell_same w b o _ t v h]
      simp
    have := setCells_pre b t vs (o + 1) _ (cs.set o v) h1 (by simp; omega)
    show ((w.setCell ⟨b, o, none⟩ v).setCells b (o + 1) vs).heap[b]? = _
    rw [this]
    congr 3
    have ho : o < (cs.set o v).length := by simp; omega
    rw [List.take_succ_eq_append_getElem ho, List.getElem_set_self, List.take_set_of_le (Nat.le_refl o), List.drop_set_of_lt (by omega), List.length_cons, show o + 1 + vs.length = o + (vs.length + 1) by omega]
    simp
theorem HashAt.setState {w : World} {b : Nat} {st st2 : S8} {P : List UInt8} {n : Nat} (h : HashAt w b st P n) : HashAt (w.setCells b 0 (uc st2.list)) b st2 P n := by
  refine ⟨?_, h.len⟩
  have h8 : (uc st2.list).length = 8 := by rw [uc_length, S8.len]
  have h8' : (uc st.list).length = 8 := by rw [uc_length, S8.len]
  rw [setCells_pre b _ (uc st2.list) 0 w _ h.heap (by rw [hash_cells_length st P n h.len, h8]; omega)]
  rw [List.take_zero, List.nil_append, Nat.zero_add, h8, List.append_assoc (uc st.list), ← h8', List.drop_left]
  simp

set_option maxRecDepth 100000 in
set_option maxHeartbeats 1000000 in
theorem take_any (w : World) (b : Nat) (l : List UInt8) (st : S8) (P : List UInt8) (s : ByteArray) (hs : l.length + s.size ≤ 1000000) (hW : HashAt w b st P l.length) (hH : HashOf l st P) :
    Calls Tryz.prog 114 #[.pointer (some ⟨b, 0, none⟩), .string s] w fun e w' => e = .returned (.tuple #[]) ∧ ∃ st' P', HashAt w' b st' P' (l ++ s.data.toList).length ∧ HashOf (l ++ s.data.toList) st' P' ∧ Kept w.heap.size b w w' := by
  go_enter Tryz.func114, Tryz.ntmps114
  go_wp2
  refine wp_scope_jumps 0 (fun a' w' => ∃ (s' : ByteArray) (c : List UInt8) (st' : S8) (P' : List UInt8) (u4 u5 u6 u7 u8 u9 u10 u11 u12 u13 u14 u15 u16 u17 u18 u19 u20 u21 u22 u23 u24 u25 u26 u27 u28 u29 u30 u31 u32 u33 u34 u35 u36 u37 u38 u39 u40 u41 u42 u43 u44 u45 u46 : Value), a' = { tmps := #[.pointer (some ⟨b, 0, none⟩), .string s', undef, undef, u4, u5, u6, u7, u8, u9, u10, u11, u12, u13, u14, u15, u16, u17, u18, u19, u20, u21, u22, u23, u24, u25, u26, u27, u28, u29, u30, u31, u32, u33, u34, u35, u36, u37, u38, u39, u40, u41, u42, u43, u44, u45, u46], defers := [] } ∧ s.data.toList = c ++ s'.data.toList ∧ HashAt w' b st' P' (l ++ c).length ∧ HashOf (l ++ c) st' P' ∧ Kept w.heap.size b w w') (fun a' _ => match a'.tmps.getD 1 undef with | .string x => x.size | _ => 0) rfl ?_ ?_
  · obtain ⟨c, hc⟩ : ∃ c : List UInt8, c = [] := ⟨_, rfl⟩
    have HS : Hid (s.data.toList = c ++ s.data.toList) := by show _ = _; rw [hc]; rfl
    have hA : HashAt w b st P (l ++ c).length := by rw [hc, List.append_nil]; exact hW
    have hO : HashOf (l ++ c) st P := by rw [hc, List.append_nil]; exact hH
    have hK : Kept w.heap.size b w w := Kept.refl _ _ _
    clear hc hW hH
    by_cases h0 : s.size = 0
    · have hz : s.data.toList = [] := List.eq_nil_of_length_eq_zero (by rw [blen]; exact h0)
      have hem : s.toList.isEmpty = true := by rw [ByteArray.toList_eq, hz]; rfl
      have hfin : Hid (∃ st' P', HashAt w b st' P' (l ++ s.data.toList).length ∧ HashOf (l ++ s.data.toList) st' P' ∧ Kept w.heap.size b w w) := by
        show ∃ st' P', _
        rw [unhide HS, hz, List.append_nil]
        exact ⟨st, P, hA, hO, hK⟩
      clear hz hA hO hK
      go_wp2
      go_step3
      go_wp2
      simp only [Exit.jump]
      refine bodyPost_ret (results_none rfl _ _ _) rfl ⟨rfl, unhide hfin⟩
    · have hne : (s.toList.isEmpty) = false := by
        rw [ByteArray.toList_eq]
        cases hz : s.data.toList with
        | nil => exact absurd (by rw [← blen, hz]; rfl) h0
        | cons x y => rfl
      have c72 := hA.long
      have hlen : (l ++ c).length ≤ 1000000 := by
        have hh := congrArg List.length (unhide HS)
        simp only [List.length_append, blen] at hh
        rw [List.length_append]
        omega
      generalize hN : (l ++ c).length = N at *
      obtain ⟨r, hr⟩ : ∃ r, r = N % 64 := ⟨_, rfl⟩
      have hr64 : r < 64 := by omega
      have hrI : (N : Int).tmod 64 = (r : Int) := by rw [Int.tmod_eq_emod_of_nonneg (by omega)]; omega
      have hrA : (0 : Int) ≤ r := by omega
      have hrB : (r : Int) < 64 := by omega
      have hrC : (r : Int) ≤ 64 := by omega
      have hr6 : ¬ 64 = r := by omega
      obtain ⟨n, hn⟩ : ∃ n, n = Nat.min s.size (64 - r) := ⟨_, rfl⟩
      have hn1 : n ≤ 64 - r := by rw [hn]; exact Nat.min_le_right _ _
      have hh := hA.heap
      have hcl : (uc st.list ++ bc P ++ [Value.int .i64 N]).length = 73 := by simp only [List.length_append, uc_length, S8.len, bc_length, hA.len, List.length_singleton]
      generalize hcur : uc st.list ++ bc P ++ [Value.int .i64 N] = cur at *
      have HR := hide hr
      have HN := hide hn
      have HCU := hide hcur
      have HNN := hide hN
      clear hr hn hcur hN
      go_wp2
      go_step3
      go_wp2
      go_region_law ((refine step_copy_string rfl (.tmp 15) (.tmp 16) 88 9 rfl 5 (by kernel_rfl) (by kernel_rfl) b (8 + r) (64 - r) (64 - r) s (by rfl) (by rfl) cur 147 (by exact hh) n (unhide HN) (by omega) ?_; intro W1 hW1))
      have hchl : (s.data.toList.take n).length = n := by
        rw [List.length_take, blen, unhide HN]
        exact Nat.min_eq_left (Nat.min_le_left _ _)
      have hnp : 0 < n := by rw [unhide HN]; exact Nat.lt_min.2 ⟨by omega, by omega⟩
      have hns : n ≤ s.size := by rw [unhide HN]; exact Nat.min_le_left _ _
      have hA1 : HashAt W1 b st (over P (s.data.toList.take n) r) N := by
        have hA0 : HashAt w.drew b st P N := ⟨hA.heap, hA.len⟩
        have := hA0.over (s.data.toList.take n) r (by omega) cur (unhide HCU)
        rw [hchl] at this
        rw [unhide hW1]
        exact this
      have hK1 : Kept w.heap.size b w W1 := by rw [unhide hW1]; exact (kept_drew hK).trans (kept_setRow _ _ _ _)
      have hA2 := hA1.setLong (N + n)
      have hK2 := hK1.trans (kept_set _ W1 b 72 (.int .i64 (N + n : Nat)))
      have c72' := hA1.long
      have f72' := hA1.free 72
      have c72'' := hA2.long
      have HA2 := hide hA2
      have HK2 := hide hK2
      have HA1 := hide hA1
      clear hA1 hA2 hK1 hK2 hA hK c72 hh
      have en : ((N + n : Nat) : Int) = (N : Int) + n := by omega
      rw [en] at HA2 HK2
      clear c72''
      have hNr : Hid ((l ++ c).length % 64 = r) := by show _ = _; rw [unhide HNN, unhide HR]
      have hsc' : Hid (s.data.toList = (c ++ s.data.toList.take n) ++ (s.extract n s.size).data.toList) := by
        show _ = _
        rw [bdrop, List.append_assoc, List.take_append_drop]; exact unhide HS
      have hlen' : Hid (N + n = (l ++ (c ++ s.data.toList.take n)).length) := by
        show _ = _
        rw [← List.append_assoc, List.length_append, unhide HNN, hchl]
      have hsz' : Hid ((s.extract n s.size).size < s.size) := by show _ < _; rw [ByteArray.size_extract]; omega
      by_cases hw : r + n = 64
      · have hT : (((N : Int) + n) % 64 == 0) = true := by have := unhide HR; simp; omega
        go_wp2
        generalize W1.setCell { block := b, off := 72 } (Value.int IntKind.i64 (↑N + ↑n)) = W2 at *
        have hP1 : (over P (s.data.toList.take n) r).length = 64 := (unhide HA2).len
        have hO2 : Hid (HashOf (l ++ (c ++ s.data.toList.take n)) (mix st (over P (s.data.toList.take n) r)) (over P (s.data.toList.take n) r)) := by
          have := hO.whole (s.data.toList.take n) (by rw [unhide hNr, hchl]; exact hw) (by rw [hchl]; exact hnp)
          rw [unhide hNr, List.append_assoc] at this
          exact this
        generalize over P (s.data.toList.take n) r = P1 at *
        clear c72' f72' HA1 hW1
        obtain ⟨stM, hstM⟩ : ∃ x, x = mix st P1 := ⟨_, rfl⟩
        have hmx := hide (mixed_uc st P1 hP1)
        rw [← hstM] at hmx hO2
        clear hstM
        generalize hA : Act.mk _ _ = A
        have hA0 : A.eval (.tmp 0) = .pointer (some ⟨b, 0, none⟩) := by rw [← hA]; rfl
        have hAs : A.tmps.size = 47 := by rw [← hA]; rfl
        obtain ⟨V, hVe⟩ : ∃ V : List (Nat × Nat × Value), V = [(0, 35, .pointer (some ⟨b, 0, none⟩)), (1, 36, .pointer (some ⟨b, 0, none⟩)), (2, 37, .pointer (some ⟨b, 0, none⟩)), (3, 38, .pointer (some ⟨b, 0, none⟩)), (4, 39, .agg (uc st.list).toArray), (5, 40, .pointer (some ⟨b, 0, none⟩)), (6, 41, .pointer (some ⟨b, 0, none⟩)), (7, 42, .pointer (some ⟨b, 8, none⟩)), (8, 43, .agg (bc P1).toArray), (9, 44, .agg (uc stM.list).toArray), (10, 45, .pointer (some ⟨b, 0, none⟩)), (11, 46, .pointer (some ⟨b, 0, none⟩))] := ⟨_, rfl⟩
        have hf0 : ∀ w, (Instr.fieldAt 147 (.pointer (some ⟨b, 0, none⟩)) 0).run Tryz.prog w = .ok (.pointer (some ⟨b, 0, none⟩)) w := fun w => by kernel_rfl
        have hf1 : ∀ w, (Instr.fieldAt 147 (.pointer (some ⟨b, 0, none⟩)) 1).run Tryz.prog w = .ok (.pointer (some ⟨b, 8, none⟩)) w := fun w => by kernel_rfl
        refine wp_region_inv0 (by kernel_rfl) (by kernel_rfl) (by kernel_rfl) (fun f a wr => Off [35, 36, 37, 38, 39, 40, 41, 42, 43, 44, 45, 46] A a ∧ ValsOk V f a ∧ (f 12 = true → f 4 = true ∧ f 8 = true ∧ f 9 = true) ∧ (f 12 = false → HashAt wr b st P1 (N + n)) ∧ (f 12 = true → HashAt wr b stM P1 (N + n)) ∧ Kept w.heap.size b w wr) ?start ?step ?fin
        case start => exact ⟨Off.refl _ _, vals_start _ _, by simp, fun _ => ⟨(unhide HA2).heap, (unhide HA2).len⟩, by simp, kept_drew (unhide HK2)⟩
        case step =>
          rintro f a wr i o ⟨hoff, hV, hs, hq, hp, hk⟩ ho hfi hdep
          have has : a.tmps.size = 47 := hoff.size.trans hAs
          have hv := fun (i d : Nat) (v : Value) (hm : (i, d, v) ∈ V) (hf : f i = true) => hV (i, d, v) hm hf
          rcases i with _ | _ | _ | _ | _ | _ | _ | _ | _ | _ | _ | _ | _ | i
          · obtain rfl := Option.some.inj ho
            refine wp_move (.tmp 0) rfl ?_
            rw [hoff.eval 0 (by simp), hA0]
            exact ⟨hoff.put 35 _ (by simp), vals_put hV 0 35 _ (by omega) (by rw [hVe]; simp) (by rw [hVe]; simp), hs, hq, hp, hk⟩
          · obtain rfl := Option.some.inj ho
            refine wp_move (.tmp 0) rfl ?_
            rw [hoff.eval 0 (by simp), hA0]
            exact ⟨hoff.put 36 _ (by simp), vals_put hV 1 36 _ (by omega) (by rw [hVe]; simp) (by rw [hVe]; simp), hs, hq, hp, hk⟩
          · obtain rfl := Option.some.inj ho
            have d1 : f 1 = true := hdep ⟨1, .data⟩ (by simp) rfl
            exact wp_nilCheck (.tmp 36) rfl _ (hv 1 36 (.pointer (some ⟨b, 0, none⟩)) (by rw [hVe]; simp) d1) ⟨hoff.put 37 _ (by simp), vals_put hV 2 37 _ (by omega) (by rw [hVe]; simp) (by rw [hVe]; simp), hs, hq, hp, hk⟩
          · obtain rfl := Option.some.inj ho
            have d2 : f 2 = true := hdep ⟨2, .data⟩ (by simp) rfl
            exact wp_field 147 (.tmp 37) 0 rfl _ _ (hv 2 37 (.pointer (some ⟨b, 0, none⟩)) (by rw [hVe]; simp) d2) hf0 ⟨hoff.put 38 _ (by simp), vals_put hV 3 38 _ (by omega) (by rw [hVe]; simp) (by rw [hVe]; simp), hs, hq, hp, hk⟩
          · obtain rfl := Option.some.inj ho
            have d3 : f 3 = true := hdep ⟨3, .data⟩ (by simp) rfl
            have q12 : f 12 = false := by
              cases hc : f 12 with
              | false => rfl
              | true => exact absurd (hs hc).1 (by rw [hfi]; simp)
            exact wp_load_mid 143 (.tmp 38) rfl b 0 (hv 3 38 (.pointer (some ⟨b, 0, none⟩)) (by rw [hVe]; simp) d3) (uc st.list) _ (hq q12).range8 Tryz.underlying143 rfl (by rw [uc_length, S8.len]; kernel_rfl) ⟨hoff.put 39 _ (by simp), vals_put hV 4 39 _ (by omega) (by rw [hVe]; simp) (by rw [hVe]; simp), fun h => absurd h (by show ¬ f 12 = true; rw [q12]; simp), hq, hp, hk⟩
          · obtain rfl := Option.some.inj ho
            refine wp_move (.tmp 0) rfl ?_
            rw [hoff.eval 0 (by simp), hA0]
            exact ⟨hoff.put 40 _ (by simp), vals_put hV 5 40 _ (by omega) (by rw [hVe]; simp) (by rw [hVe]; simp), hs, hq, hp, hk⟩
          · obtain rfl := Option.some.inj ho
            have d5 : f 5 = true := hdep ⟨5, .data⟩ (by simp) rfl
            exact wp_nilCheck (.tmp 40) rfl _ (hv 5 40 (.pointer (some ⟨b, 0, none⟩)) (by rw [hVe]; simp) d5) ⟨hoff.put 41 _ (by simp), vals_put hV 6 41 _ (by omega) (by rw [hVe]; simp) (by rw [hVe]; simp), hs, hq, hp, hk⟩
          · obtain rfl := Option.some.inj ho
            have d6 : f 6 = true := hdep ⟨6, .data⟩ (by simp) rfl
            exact wp_field 147 (.tmp 41) 1 rfl _ _ (hv 6 41 (.pointer (some ⟨b, 0, none⟩)) (by rw [hVe]; simp) d6) hf1 ⟨hoff.put 42 _ (by simp), vals_put hV 7 42 _ (by omega) (by rw [hVe]; simp) (by rw [hVe]; simp), hs, hq, hp, hk⟩
          · obtain rfl := Option.some.inj ho
            have d7 : f 7 = true := hdep ⟨7, .data⟩ (by simp) rfl
            have q12 : f 12 = false := by
              cases hc : f 12 with
              | false => rfl
              | true => exact absurd (hs hc).2.1 (by rw [hfi]; simp)
            exact wp_load_mid 145 (.tmp 42) rfl b 8 (hv 7 42 (.pointer (some ⟨b, 8, none⟩)) (by rw [hVe]; simp) d7) (bc P1) _ (hq q12).range64 Tryz.underlying145 rfl (by rw [bc_length, hP1]; kernel_rfl) ⟨hoff.put 43 _ (by simp), vals_put hV 8 43 _ (by omega) (by rw [hVe]; simp) (by rw [hVe]; simp), fun h => absurd h (by show ¬ f 12 = true; rw [q12]; simp), hq, hp, hk⟩
          · obtain rfl := Option.some.inj ho
            have d4 : f 4 = true := hdep ⟨4, .data⟩ (by simp) rfl
            have d8 : f 8 = true := hdep ⟨8, .data⟩ (by simp) rfl
            have q12 : f 12 = false := by
              cases hc : f 12 with
              | false => rfl
              | true => exact absurd (hs hc).2.2 (by rw [hfi]; simp)
            refine wp_call 117 #[.tmp 39, .tmp 43] #[143, 145] rfl Tryz.call117 #[.agg (uc st.list).toArray, .agg (bc P1).toArray] (by simp [hv 4 39 (.agg (uc st.list).toArray) (by rw [hVe]; simp) d4, hv 8 43 (.agg (bc P1).toArray) (by rw [hVe]; simp) d8]) (unhide hmx wr) ?_
            rintro e w3 ⟨rfl, hb3⟩
            exact ⟨_, rfl, hoff.put 44 _ (by simp), vals_put hV 9 44 _ (by omega) (by rw [hVe]; simp) (by rw [hVe]; simp), fun h => absurd h (by show ¬ f 12 = true; rw [q12]; simp), fun h => (hq h).below hb3, fun h => absurd h (by show ¬ f 12 = true; rw [q12]; simp), hk.trans (Kept.of_below (hb3.mono hk.size))⟩
          · obtain rfl := Option.some.inj ho
            have d0 : f 0 = true := hdep ⟨0, .data⟩ (by simp) rfl
            exact wp_nilCheck (.tmp 35) rfl _ (hv 0 35 (.pointer (some ⟨b, 0, none⟩)) (by rw [hVe]; simp) d0) ⟨hoff.put 45 _ (by simp), vals_put hV 10 45 _ (by omega) (by rw [hVe]; simp) (by rw [hVe]; simp), hs, hq, hp, hk⟩
          · obtain rfl := Option.some.inj ho
            have d10 : f 10 = true := hdep ⟨10, .data⟩ (by simp) rfl
            exact wp_field 147 (.tmp 45) 0 rfl _ _ (hv 10 45 (.pointer (some ⟨b, 0, none⟩)) (by rw [hVe]; simp) d10) hf0 ⟨hoff.put 46 _ (by simp), vals_put hV 11 46 _ (by omega) (by rw [hVe]; simp) (by rw [hVe]; simp), hs, hq, hp, hk⟩
          · obtain rfl := Option.some.inj ho
            have d11 : f 11 = true := hdep ⟨11, .data⟩ (by simp) rfl
            have d9 : f 9 = true := hdep ⟨9, .data⟩ (by simp) rfl
            have d4 : f 4 = true := hdep ⟨4, .phase⟩ (by simp) rfl
            have d8 : f 8 = true := hdep ⟨8, .phase⟩ (by simp) rfl
            have hqq := hq hfi
            refine wp_store_mid 143 (.tmp 46) (.tmp 44) rfl b 0 (uc stM.list).toArray (hv 11 46 (.pointer (some ⟨b, 0, none⟩)) (by rw [hVe]; simp) d11) (hv 9 44 (.agg (uc stM.list).toArray) (by rw [hVe]; simp) d9) (by rw [List.size_toArray, uc_length, S8.len]; exact hqq.there8) (by rw [List.size_toArray, uc_length, S8.len]; kernel_rfl) (all_oneCell_toArray (uc_oneCell _)) ?_
            exact ⟨hoff, vals_none hV 12 _ (by rw [hVe]; simp), fun _ => ⟨d4, d8, d9⟩, fun h => (by cases h), fun _ => hqq.setState, hk.trans (kept_setCells _ _ _ _ _)⟩
          · simp at ho
        case fin =>
          rintro f a wr ⟨hoff, hV, hs, hq, hp, hk⟩ hall
          have e := Off.all _ _ hoff
          have i12 := hall 12 (by decide)
          simp only [List.foldl_cons, List.foldl_nil] at e
          rw [← hA] at e
          generalize a.eval (.tmp 35) = x35, a.eval (.tmp 36) = x36, a.eval (.tmp 37) = x37, a.eval (.tmp 38) = x38, a.eval (.tmp 39) = x39, a.eval (.tmp 40) = x40, a.eval (.tmp 41) = x41, a.eval (.tmp 42) = x42, a.eval (.tmp 43) = x43, a.eval (.tmp 44) = x44, a.eval (.tmp 45) = x45, a.eval (.tmp 46) = x46 at e
          simp only [Act.put, List.setIfInBounds_toArray, List.set_cons_succ, List.set_cons_zero] at e
          subst e
          clear hoff hV
          go_wp2_with fail
          go_step3
          refine ⟨rfl, s.extract n s.size, c ++ s.data.toList.take n, stM, P1, _, _, _, _, _, _, _, _, _, _, _, _, _, _, _, _, _, _, _, _, _, _, _, _, _, _, _, _, _, _, _, _, _, _, _, _, _, _, _, _, _, _, _, rfl, unhide hsc', by rw [← unhide hlen']; exact hp i12, unhide hO2, hk⟩
      · have hT : (((N : Int) + n) % 64 == 0) = false := by have := unhide HR; simp; omega
        go_wp2
        go_step3
        refine ⟨rfl, s.extract n s.size, c ++ s.data.toList.take n, st, over P (s.data.toList.take n) r, _, _, _, _, _, _, _, _, _, _, _, _, _, _, _, _, _, _, _, _, _, _, _, _, _, _, _, _, _, _, _, _, _, _, _, _, _, _, _, _, _, _, _, rfl, unhide hsc', by rw [← unhide hlen']; exact unhide HA2, ?_, unhide HK2⟩
        · have := hO.more (s.data.toList.take n) (by rw [unhide hNr, hchl]; omega)
          rw [unhide hNr, List.append_assoc] at this
          exact this
  · rintro a' w' ⟨s', c, st', P', u4, u5, u6, u7, u8, u9, u10, u11, u12, u13, u14, u15, u16, u17, u18, u19, u20, u21, u22, u23, u24, u25, u26, u27, u28, u29, u30, u31, u32, u33, u34, u35, u36, u37, u38, u39, u40, u41, u42, u43, u44, u45, u46, rfl, hsc, hA, hO, hK⟩
    have HS := hide hsc
    clear hsc
    by_cases h0 : s'.size = 0
    · have hz : s'.data.toList = [] := List.eq_nil_of_length_eq_zero (by rw [blen]; exact h0)
      have hem : s'.toList.isEmpty = true := by rw [ByteArray.toList_eq, hz]; rfl
      have hfin : Hid (∃ st'' P'', HashAt w' b st'' P'' (l ++ s.data.toList).length ∧ HashOf (l ++ s.data.toList) st'' P'' ∧ Kept w.heap.size b w w') := by
        show ∃ st'' P'', _
        rw [unhide HS, hz, List.append_nil]
        exact ⟨st', P', hA, hO, hK⟩
      clear hz hA hO hK
      go_wp2
      simp only [Exit.jump]
      refine bodyPost_ret (results_none rfl _ _ _) rfl ⟨rfl, unhide hfin⟩
    · have hne : (s'.toList.isEmpty) = false := by
        rw [ByteArray.toList_eq]
        cases hz : s'.data.toList with
        | nil => exact absurd (by rw [← blen, hz]; rfl) h0
        | cons x y => rfl
      have c72 := hA.long
      have hlen : (l ++ c).length ≤ 1000000 := by
        have hh := congrArg List.length (unhide HS)
        simp only [List.length_append, blen] at hh
        rw [List.length_append]
        omega
      generalize hN : (l ++ c).length = N at *
      obtain ⟨r, hr⟩ : ∃ r, r = N % 64 := ⟨_, rfl⟩
      have hr64 : r < 64 := by omega
      have hrI : (N : Int).tmod 64 = (r : Int) := by rw [Int.tmod_eq_emod_of_nonneg (by omega)]; omega
      have hrA : (0 : Int) ≤ r := by omega
      have hrB : (r : Int) < 64 := by omega
      have hrC : (r : Int) ≤ 64 := by omega
      have hr6 : ¬ 64 = r := by omega
      obtain ⟨n, hn⟩ : ∃ n, n = Nat.min s'.size (64 - r) := ⟨_, rfl⟩
      have hn1 : n ≤ 64 - r := by rw [hn]; exact Nat.min_le_right _ _
      have hh := hA.heap
      have hcl : (uc st'.list ++ bc P' ++ [Value.int .i64 N]).length = 73 := by simp only [List.length_append, uc_length, S8.len, bc_length, hA.len, List.length_singleton]
      generalize hcur : uc st'.list ++ bc P' ++ [Value.int .i64 N] = cur at *
      have HR := hide hr
      have HN := hide hn
      have HCU := hide hcur
      have HNN := hide hN
      clear hr hn hcur hN
      go_wp2
      go_region_law ((refine step_copy_string rfl (.tmp 15) (.tmp 16) 88 9 rfl 5 (by kernel_rfl) (by kernel_rfl) b (8 + r) (64 - r) (64 - r) s' (by rfl) (by rfl) cur 147 (by exact hh) n (unhide HN) (by omega) ?_; intro W1 hW1))
      have hchl : (s'.data.toList.take n).length = n := by
        rw [List.length_take, blen, unhide HN]
        exact Nat.min_eq_left (Nat.min_le_left _ _)
      have hnp : 0 < n := by rw [unhide HN]; exact Nat.lt_min.2 ⟨by omega, by omega⟩
      have hns : n ≤ s'.size := by rw [unhide HN]; exact Nat.min_le_left _ _
      have hA1 : HashAt W1 b st' (over P' (s'.data.toList.take n) r) N := by
        have hA0 : HashAt w'.drew b st' P' N := ⟨hA.heap, hA.len⟩
        have := hA0.over (s'.data.toList.take n) r (by omega) cur (unhide HCU)
        rw [hchl] at this
        rw [unhide hW1]
        exact this
      have hK1 : Kept w.heap.size b w W1 := by rw [unhide hW1]; exact (kept_drew hK).trans (kept_setRow _ _ _ _)
      have hA2 := hA1.setLong (N + n)
      have hK2 := hK1.trans (kept_set _ W1 b 72 (.int .i64 (N + n : Nat)))
      have c72' := hA1.long
      have f72' := hA1.free 72
      have c72'' := hA2.long
      have HA2 := hide hA2
      have HK2 := hide hK2
      have HA1 := hide hA1
      clear hA1 hA2 hK1 hK2 hA hK c72 hh
      have en : ((N + n : Nat) : Int) = (N : Int) + n := by omega
      rw [en] at HA2 HK2
      clear c72''
      have hNr : Hid ((l ++ c).length % 64 = r) := by show _ = _; rw [unhide HNN, unhide HR]
      have hsc' : Hid (s.data.toList = (c ++ s'.data.toList.take n) ++ (s'.extract n s'.size).data.toList) := by
        show _ = _
        rw [bdrop, List.append_assoc, List.take_append_drop]; exact unhide HS
      have hlen' : Hid (N + n = (l ++ (c ++ s'.data.toList.take n)).length) := by
        show _ = _
        rw [← List.append_assoc, List.length_append, unhide HNN, hchl]
      have hsz' : Hid ((s'.extract n s'.size).size < s'.size) := by show _ < _; rw [ByteArray.size_extract]; omega
      by_cases hw : r + n = 64
      · have hT : (((N : Int) + n) % 64 == 0) = true := by have := unhide HR; simp; omega
        go_wp2
        generalize W1.setCell { block := b, off := 72 } (Value.int IntKind.i64 (↑N + ↑n)) = W2 at *
        have hP1 : (over P' (s'.data.toList.take n) r).length = 64 := (unhide HA2).len
        have hO2 : Hid (HashOf (l ++ (c ++ s'.data.toList.take n)) (mix st' (over P' (s'.data.toList.take n) r)) (over P' (s'.data.toList.take n) r)) := by
          have := hO.whole (s'.data.toList.take n) (by rw [unhide hNr, hchl]; exact hw) (by rw [hchl]; exact hnp)
          rw [unhide hNr, List.append_assoc] at this
          exact this
        generalize over P' (s'.data.toList.take n) r = P1 at *
        clear c72' f72' HA1 hW1
        obtain ⟨stM, hstM⟩ : ∃ x, x = mix st' P1 := ⟨_, rfl⟩
        have hmx := hide (mixed_uc st' P1 hP1)
        rw [← hstM] at hmx hO2
        clear hstM
        generalize hA : Act.mk _ _ = A
        have hA0 : A.eval (.tmp 0) = .pointer (some ⟨b, 0, none⟩) := by rw [← hA]; rfl
        have hAs : A.tmps.size = 47 := by rw [← hA]; rfl
        obtain ⟨V, hVe⟩ : ∃ V : List (Nat × Nat × Value), V = [(0, 35, .pointer (some ⟨b, 0, none⟩)), (1, 36, .pointer (some ⟨b, 0, none⟩)), (2, 37, .pointer (some ⟨b, 0, none⟩)), (3, 38, .pointer (some ⟨b, 0, none⟩)), (4, 39, .agg (uc st'.list).toArray), (5, 40, .pointer (some ⟨b, 0, none⟩)), (6, 41, .pointer (some ⟨b, 0, none⟩)), (7, 42, .pointer (some ⟨b, 8, none⟩)), (8, 43, .agg (bc P1).toArray), (9, 44, .agg (uc stM.list).toArray), (10, 45, .pointer (some ⟨b, 0, none⟩)), (11, 46, .pointer (some ⟨b, 0, none⟩))] := ⟨_, rfl⟩
        have hf0 : ∀ w, (Instr.fieldAt 147 (.pointer (some ⟨b, 0, none⟩)) 0).run Tryz.prog w = .ok (.pointer (some ⟨b, 0, none⟩)) w := fun w => by kernel_rfl
        have hf1 : ∀ w, (Instr.fieldAt 147 (.pointer (some ⟨b, 0, none⟩)) 1).run Tryz.prog w = .ok (.pointer (some ⟨b, 8, none⟩)) w := fun w => by kernel_rfl
        refine wp_region_inv0 (by kernel_rfl) (by kernel_rfl) (by kernel_rfl) (fun f a wr => Off [35, 36, 37, 38, 39, 40, 41, 42, 43, 44, 45, 46] A a ∧ ValsOk V f a ∧ (f 12 = true → f 4 = true ∧ f 8 = true ∧ f 9 = true) ∧ (f 12 = false → HashAt wr b st' P1 (N + n)) ∧ (f 12 = true → HashAt wr b stM P1 (N + n)) ∧ Kept w.heap.size b w wr) ?start ?step ?fin
        case start => exact ⟨Off.refl _ _, vals_start _ _, by simp, fun _ => ⟨(unhide HA2).heap, (unhide HA2).len⟩, by simp, kept_drew (unhide HK2)⟩
        case step =>
          rintro f a wr i o ⟨hoff, hV, hs, hq, hp, hk⟩ ho hfi hdep
          have has : a.tmps.size = 47 := hoff.size.trans hAs
          have hv := fun (i d : Nat) (v : Value) (hm : (i, d, v) ∈ V) (hf : f i = true) => hV (i, d, v) hm hf
          rcases i with _ | _ | _ | _ | _ | _ | _ | _ | _ | _ | _ | _ | _ | i
          · obtain rfl := Option.some.inj ho
            refine wp_move (.tmp 0) rfl ?_
            rw [hoff.eval 0 (by simp), hA0]
            exact ⟨hoff.put 35 _ (by simp), vals_put hV 0 35 _ (by omega) (by rw [hVe]; simp) (by rw [hVe]; simp), hs, hq, hp, hk⟩
          · obtain rfl := Option.some.inj ho
            refine wp_move (.tmp 0) rfl ?_
            rw [hoff.eval 0 (by simp), hA0]
            exact ⟨hoff.put 36 _ (by simp), vals_put hV 1 36 _ (by omega) (by rw [hVe]; simp) (by rw [hVe]; simp), hs, hq, hp, hk⟩
          · obtain rfl := Option.some.inj ho
            have d1 : f 1 = true := hdep ⟨1, .data⟩ (by simp) rfl
            exact wp_nilCheck (.tmp 36) rfl _ (hv 1 36 (.pointer (some ⟨b, 0, none⟩)) (by rw [hVe]; simp) d1) ⟨hoff.put 37 _ (by simp), vals_put hV 2 37 _ (by omega) (by rw [hVe]; simp) (by rw [hVe]; simp), hs, hq, hp, hk⟩
          · obtain rfl := Option.some.inj ho
            have d2 : f 2 = true := hdep ⟨2, .data⟩ (by simp) rfl
            exact wp_field 147 (.tmp 37) 0 rfl _ _ (hv 2 37 (.pointer (some ⟨b, 0, none⟩)) (by rw [hVe]; simp) d2) hf0 ⟨hoff.put 38 _ (by simp), vals_put hV 3 38 _ (by omega) (by rw [hVe]; simp) (by rw [hVe]; simp), hs, hq, hp, hk⟩
          · obtain rfl := Option.some.inj ho
            have d3 : f 3 = true := hdep ⟨3, .data⟩ (by simp) rfl
            have q12 : f 12 = false := by
              cases hc : f 12 with
              | false => rfl
              | true => exact absurd (hs hc).1 (by rw [hfi]; simp)
            exact wp_load_mid 143 (.tmp 38) rfl b 0 (hv 3 38 (.pointer (some ⟨b, 0, none⟩)) (by rw [hVe]; simp) d3) (uc st'.list) _ (hq q12).range8 Tryz.underlying143 rfl (by rw [uc_length, S8.len]; kernel_rfl) ⟨hoff.put 39 _ (by simp), vals_put hV 4 39 _ (by omega) (by rw [hVe]; simp) (by rw [hVe]; simp), fun h => absurd h (by show ¬ f 12 = true; rw [q12]; simp), hq, hp, hk⟩
          · obtain rfl := Option.some.inj ho
            refine wp_move (.tmp 0) rfl ?_
            rw [hoff.eval 0 (by simp), hA0]
            exact ⟨hoff.put 40 _ (by simp), vals_put hV 5 40 _ (by omega) (by rw [hVe]; simp) (by rw [hVe]; simp), hs, hq, hp, hk⟩
          · obtain rfl := Option.some.inj ho
            have d5 : f 5 = true := hdep ⟨5, .data⟩ (by simp) rfl
            exact wp_nilCheck (.tmp 40) rfl _ (hv 5 40 (.pointer (some ⟨b, 0, none⟩)) (by rw [hVe]; simp) d5) ⟨hoff.put 41 _ (by simp), vals_put hV 6 41 _ (by omega) (by rw [hVe]; simp) (by rw [hVe]; simp), hs, hq, hp, hk⟩
          · obtain rfl := Option.some.inj ho
            have d6 : f 6 = true := hdep ⟨6, .data⟩ (by simp) rfl
            exact wp_field 147 (.tmp 41) 1 rfl _ _ (hv 6 41 (.pointer (some ⟨b, 0, none⟩)) (by rw [hVe]; simp) d6) hf1 ⟨hoff.put 42 _ (by simp), vals_put hV 7 42 _ (by omega) (by rw [hVe]; simp) (by rw [hVe]; simp), hs, hq, hp, hk⟩
          · obtain rfl := Option.some.inj ho
            have d7 : f 7 = true := hdep ⟨7, .data⟩ (by simp) rfl
            have q12 : f 12 = false := by
              cases hc : f 12 with
              | false => rfl
              | true => exact absurd (hs hc).2.1 (by rw [hfi]; simp)
            exact wp_load_mid 145 (.tmp 42) rfl b 8 (hv 7 42 (.pointer (some ⟨b, 8, none⟩)) (by rw [hVe]; simp) d7) (bc P1) _ (hq q12).range64 Tryz.underlying145 rfl (by rw [bc_length, hP1]; kernel_rfl) ⟨hoff.put 43 _ (by simp), vals_put hV 8 43 _ (by omega) (by rw [hVe]; simp) (by rw [hVe]; simp), fun h => absurd h (by show ¬ f 12 = true; rw [q12]; simp), hq, hp, hk⟩
          · obtain rfl := Option.some.inj ho
            have d4 : f 4 = true := hdep ⟨4, .data⟩ (by simp) rfl
            have d8 : f 8 = true := hdep ⟨8, .data⟩ (by simp) rfl
            have q12 : f 12 = false := by
              cases hc : f 12 with
              | false => rfl
              | true => exact absurd (hs hc).2.2 (by rw [hfi]; simp)
            refine wp_call 117 #[.tmp 39, .tmp 43] #[143, 145] rfl Tryz.call117 #[.agg (uc st'.list).toArray, .agg (bc P1).toArray] (by simp [hv 4 39 (.agg (uc st'.list).toArray) (by rw [hVe]; simp) d4, hv 8 43 (.agg (bc P1).toArray) (by rw [hVe]; simp) d8]) (unhide hmx wr) ?_
            rintro e w3 ⟨rfl, hb3⟩
            exact ⟨_, rfl, hoff.put 44 _ (by simp), vals_put hV 9 44 _ (by omega) (by rw [hVe]; simp) (by rw [hVe]; simp), fun h => absurd h (by show ¬ f 12 = true; rw [q12]; simp), fun h => (hq h).below hb3, fun h => absurd h (by show ¬ f 12 = true; rw [q12]; simp), hk.trans (Kept.of_below (hb3.mono hk.size))⟩
          · obtain rfl := Option.some.inj ho
            have d0 : f 0 = true := hdep ⟨0, .data⟩ (by simp) rfl
            exact wp_nilCheck (.tmp 35) rfl _ (hv 0 35 (.pointer (some ⟨b, 0, none⟩)) (by rw [hVe]; simp) d0) ⟨hoff.put 45 _ (by simp), vals_put hV 10 45 _ (by omega) (by rw [hVe]; simp) (by rw [hVe]; simp), hs, hq, hp, hk⟩
          · obtain rfl := Option.some.inj ho
            have d10 : f 10 = true := hdep ⟨10, .data⟩ (by simp) rfl
            exact wp_field 147 (.tmp 45) 0 rfl _ _ (hv 10 45 (.pointer (some ⟨b, 0, none⟩)) (by rw [hVe]; simp) d10) hf0 ⟨hoff.put 46 _ (by simp), vals_put hV 11 46 _ (by omega) (by rw [hVe]; simp) (by rw [hVe]; simp), hs, hq, hp, hk⟩
          · obtain rfl := Option.some.inj ho
            have d11 : f 11 = true := hdep ⟨11, .data⟩ (by simp) rfl
            have d9 : f 9 = true := hdep ⟨9, .data⟩ (by simp) rfl
            have d4 : f 4 = true := hdep ⟨4, .phase⟩ (by simp) rfl
            have d8 : f 8 = true := hdep ⟨8, .phase⟩ (by simp) rfl
            have hqq := hq hfi
            refine wp_store_mid 143 (.tmp 46) (.tmp 44) rfl b 0 (uc stM.list).toArray (hv 11 46 (.pointer (some ⟨b, 0, none⟩)) (by rw [hVe]; simp) d11) (hv 9 44 (.agg (uc stM.list).toArray) (by rw [hVe]; simp) d9) (by rw [List.size_toArray, uc_length, S8.len]; exact hqq.there8) (by rw [List.size_toArray, uc_length, S8.len]; kernel_rfl) (all_oneCell_toArray (uc_oneCell _)) ?_
            exact ⟨hoff, vals_none hV 12 _ (by rw [hVe]; simp), fun _ => ⟨d4, d8, d9⟩, fun h => (by cases h), fun _ => hqq.setState, hk.trans (kept_setCells _ _ _ _ _)⟩
          · simp at ho
        case fin =>
          rintro f a wr ⟨hoff, hV, hs, hq, hp, hk⟩ hall
          have e := Off.all _ _ hoff
          have i12 := hall 12 (by decide)
          simp only [List.foldl_cons, List.foldl_nil] at e
          rw [← hA] at e
          generalize a.eval (.tmp 35) = x35, a.eval (.tmp 36) = x36, a.eval (.tmp 37) = x37, a.eval (.tmp 38) = x38, a.eval (.tmp 39) = x39, a.eval (.tmp 40) = x40, a.eval (.tmp 41) = x41, a.eval (.tmp 42) = x42, a.eval (.tmp 43) = x43, a.eval (.tmp 44) = x44, a.eval (.tmp 45) = x45, a.eval (.tmp 46) = x46 at e
          simp only [Act.put, List.setIfInBounds_toArray, List.set_cons_succ, List.set_cons_zero] at e
          subst e
          clear hoff hV
          go_wp2_with fail
          go_step3
          refine ⟨rfl, ⟨s'.extract n s'.size, c ++ s'.data.toList.take n, stM, P1, _, _, _, _, _, _, _, _, _, _, _, _, _, _, _, _, _, _, _, _, _, _, _, _, _, _, _, _, _, _, _, _, _, _, _, _, _, _, _, _, _, _, _, rfl, unhide hsc', by rw [← unhide hlen']; exact hp i12, unhide hO2, hk⟩, unhide hsz'⟩
      · have hT : (((N : Int) + n) % 64 == 0) = false := by have := unhide HR; simp; omega
        go_wp2
        go_step3
        refine ⟨rfl, ⟨s'.extract n s'.size, c ++ s'.data.toList.take n, st', over P' (s'.data.toList.take n) r, _, _, _, _, _, _, _, _, _, _, _, _, _, _, _, _, _, _, _, _, _, _, _, _, _, _, _, _, _, _, _, _, _, _, _, _, _, _, _, _, _, _, _, rfl, unhide hsc', by rw [← unhide hlen']; exact unhide HA2, ?_, unhide HK2⟩, ?_⟩
        · have := hO.more (s'.data.toList.take n) (by rw [unhide hNr, hchl]; omega)
          rw [unhide hNr, List.append_assoc] at this
          exact this
        · exact unhide hsz'

end Go.Proofs.YtkcnihngkmaecaaGreat
namespace Go.Proofs.YtkcnihngkmaecaaGreat
open Go.RowKit
set_option linter.unusedVariables false

/-- how many bytes 0 the padding of n bytes has -/
def zerosOf (n : Nat) : Nat := (64 - (n + 9) % 64) % 64
/-- the padding of n bytes -/
def padL (n : Nat) : List UInt8 := 128 :: (List.replicate (zerosOf n) 0 ++ putB (8 * n) 8)
theorem padL_length (n : Nat) : (padL n).length = zerosOf n + 9 := by
  unfold padL
  rw [List.length_cons, List.length_append, List.length_replicate, putB_length]
theorem zerosOf_lt (n : Nat) : zerosOf n < 64 := Nat.mod_lt _ (by omega)
theorem pad_whole (n : Nat) : (n + (padL n).length) % 64 = 0 := by
  rw [padL_length]
  unfold zerosOf
  omega
/-- of the last eight bytes the k last ones are written -/
def padK (n k : Nat) : List UInt8 := (List.range (zerosOf n + 9)).map fun j => if j = 0 then 128 else if zerosOf n + 8 - j < k then byteAt (8 * n) (zerosOf n + 8 - j) else 0
theorem padK_length (n k : Nat) : (padK n k).length = zerosOf n + 9 := by simp [padK]
theorem padK_zero (n : Nat) : padK n 0 = (List.replicate (zerosOf n + 9) 0).set 0 128 := by
  apply List.ext_getElem
  · simp [padK]
  · intro i h1 h2
    rw [List.getElem_set]
    simp only [padK, List.getElem_map, List.getElem_range, Nat.not_lt_zero, if_false]
    by_cases e : i = 0
    · rw [if_pos e, if_pos e.symm]
    · rw [if_neg e, if_neg (fun h => e h.symm), List.getElem_replicate]
theorem padK_step (n k : Nat) (h : k < 8) : (padK n k).set (zerosOf n + 8 - k) (byteOf (8 * (n : Int) / 2 ^ (8 * k) % 256)) = padK n (k + 1) := by
  apply List.ext_getElem
  · simp [padK]
  · intro i h1 h2
    simp only [List.length_set, padK_length] at h1
    rw [List.getElem_set]
    simp only [padK, List.getElem_map, List.getElem_range]
    by_cases e : zerosOf n + 8 - k = i
    · rw [if_pos e, if_neg (by omega), if_pos (by omega)]
      have : zerosOf n + 8 - i = k := by omega
      rw [this]
      rfl
    · rw [if_neg e]
      by_cases e0 : i = 0
      · rw [if_pos e0, if_pos e0]
      · rw [if_neg e0, if_neg e0]
        by_cases c : zerosOf n + 8 - i < k
        · rw [if_pos c, if_pos (by omega)]
        · rw [if_neg c, if_neg (by omega)]
theorem padK_full (n : Nat) : padK n 8 = padL n := by
  rw [show padL n = 128 :: (List.replicate (zerosOf n) 0 ++ putB (8 * n) 8) from rfl]
  apply List.ext_getElem
  · rw [padK_length, List.length_cons, List.length_append, List.length_replicate, putB_length]
  · intro i h1 h2
    rw [padK_length] at h1
    simp only [padK, List.getElem_map, List.getElem_range]
    by_cases e0 : i = 0
    · subst e0; rw [if_pos rfl]; rfl
    · rw [if_neg e0]
      obtain ⟨j, rfl⟩ : ∃ j, i = j + 1 := ⟨i - 1, by omega⟩
      rw [List.getElem_cons_succ]
      by_cases c : zerosOf n + 8 - (j + 1) < 8
      · rw [if_pos c, List.getElem_append_right (by rw [List.length_replicate]; omega)]
        simp only [putB, List.getElem_map, List.getElem_range, List.length_replicate]
        congr 1
        omega
      · rw [if_neg c, List.getElem_append_left (by rw [List.length_replicate]; omega), List.getElem_replicate]

theorem Tryz.infoU : (Tryz.prog.info? 5).map (fun i => (i.zero, i.size, i.bytes)) = some (some (.int .u8 0), 1, 1) := by kernel_rfl
theorem Tryz.undB : Tryz.prog.underlying 88 = some (.slice 5) := by kernel_rfl

set_option maxRecDepth 100000 in
theorem pad_none (n : Int) (w : World) (h : n < 0 ∨ 65536 < n) :
    Calls Tryz.prog 115 #[.int .i64 n] w fun e w' => e = .returned (.string ⟨#[]⟩) ∧ w = w' := by
  rcases h with h | h
  · go_enter Tryz.func115, Tryz.ntmps115
    go_wp2
    go_ret
    exact ⟨rfl, rfl⟩
  · have h' : ¬ n < 0 := by omega
    go_enter Tryz.func115, Tryz.ntmps115
    go_wp2
    go_ret
    exact ⟨rfl, rfl⟩

set_option maxRecDepth 100000 in
theorem pad_any (n : Nat) (w : World) (h : n ≤ 65536) :
    Calls Tryz.prog 115 #[.int .i64 n] w fun e w' => e = .returned (.string ⟨(padL n).toArray⟩) ∧ Below w.heap.size w w' := by
  obtain ⟨i0, hi, hz0, hz1, hz2⟩ := info_parts Tryz.infoU
  have a1 : ¬ (n : Int) < 0 := by omega
  have a2 : ¬ (65536 : Int) < n := by omega
  have hz := zerosOf_lt n
  have hk0 := hide (padK_zero n)
  have hks := hide (padK_step n)
  have hkf := hide (padK_full n)
  have hkl := hide (padK_length n)
  have ez : -(((n : Int) + 1 + 8) % 64) % 64 = (zerosOf n : Int) := by unfold zerosOf; omega
  generalize zerosOf n = z at *
  go_enter Tryz.func115, Tryz.ntmps115
  go_wp2_with (at_make; refine wpList_make_full _ rfl _ _ 88 rfl w.heap.size 5 i0 (.int .u8 0) 1 Tryz.undB hi hz0 hz1 .i64 .i64 _ _ (z + 9) rfl rfl ?c0 ?c1 ?c2 ?c3 ?c4 ?_)
  case c0 => omega
  case c1 => omega
  case c2 => omega
  case c3 => unfold maxLen; omega
  intro w1 hown hgrow
  have b1 : Below w.heap.size w w1 := (Below.refl _ _).grown hgrow (Nat.le_refl _) (by intro k hk; cases hk)
  rw [made_bytes] at hown
  have f0 := hown.frozenAt 0
  obtain ⟨u0, c0⟩ : ∃ u, w1.cell? ⟨w.heap.size, 0, none⟩ = some u := ⟨_, (hown.cellAt 0 (by omega)).trans (bc_get _ 0 (by rw [List.length_replicate]; omega))⟩
  have hst := hide (hown.stored 0 (.int .u8 128)).1
  have hb1 := hide (b1.setCell (p := ⟨w.heap.size, 0, none⟩) (Nat.le_refl _) (.int .u8 128))
  rw [bc_set _ _ _ (by omega) (by omega), show byteOf 128 = 128 from rfl, ← unhide hk0] at hst
  clear hown hgrow b1 hi hz0 hz1 hz2
  go_wp2
  go_loopw [26] (fun i wr => ∃ k : Nat, k ≤ 8 ∧ i = .int .i64 k ∧ wr.ownsRow w.heap.size 5 1 (.slice (some ⟨w.heap.size, 0, none⟩) (z + 9) (z + 9)) (z + 9) (bc (padK n k)) ∧ Below w.heap.size w wr) (fun i _ => 8 - (intOf i).toNat)
  case atStart => exact ⟨0, by omega, rfl, unhide hst, unhide hb1⟩
  case round =>
    clear hst hb1 f0 c0
    obtain ⟨k, hk, rfl, hown, hb⟩ := hrel
    by_cases hlt : k < 8
    · have f1 := hown.frozenAt (z + 8 - k)
      obtain ⟨u, c1⟩ : ∃ u, wr.cell? ⟨w.heap.size, z + 8 - k, none⟩ = some u := ⟨_, (hown.cellAt (z + 8 - k) (by omega)).trans (bc_get _ _ (by rw [unhide hkl]; omega))⟩
      have hst := hide (hown.stored (z + 8 - k) (.int .u8 (8 * (n : Int) / 2 ^ (8 * k) % 256))).1
      have hb2 := hide (hb.setCell (p := ⟨w.heap.size, z + 8 - k, none⟩) (Nat.le_refl _) (.int .u8 (8 * (n : Int) / 2 ^ (8 * k) % 256)))
      rw [bc_set _ _ _ (by omega) (by omega), unhide hks k hlt] at hst
      clear hown hb
      go_wp2
      rw [Int.mul_comm (n : Int) 8]
      go_roundw
      case rel => exact ⟨k + 1, by omega, by go_num, unhide hst, unhide hb2⟩
      case measure => simp [intOf]; omega
    · have hk8 : k = 8 := by omega
      subst hk8
      have hcv := run_string_own (P := Tryz.prog) 88 9 Tryz.undB (by kernel_rfl) (by kernel_rfl) hown
      rw [unhide hkf] at hcv
      generalize hD : (padL n).toArray = D at *
      have HD := hide hD
      have HB := hide hb
      clear hD hown hb
      go_wp2
      go_ret
      exact ⟨by rw [unhide HD]; rfl, unhide HB⟩

end Go.Proofs.YtkcnihngkmaecaaGreat
namespace Go.Proofs.YtkcnihngkmaecaaGreat
open Go.RowKit
set_option linter.unusedVariables false

/-- a block of bytes -/
def BytesAt (w : World) (g : Nat) (t : TypeId) (L : List UInt8) : Prop := w.heap[g]? = some (.cells (bc L).toArray t (0, 0))
theorem BytesAt.cell {w : World} {g : Nat} {t : TypeId} {L : List UInt8} (h : BytesAt w g t L) (j : Nat) (hj : j < L.length) : w.cell? ⟨g, j, none⟩ = some (.int .u8 (L[j]).toNat) := by
  rw [cell_of_row w g j _ t (0, 0) h]
  simp only [List.getElem?_toArray]
  exact bc_get L j hj
theorem BytesAt.free {w : World} {g : Nat} {t : TypeId} {L : List UInt8} (h : BytesAt w g t L) (j : Nat) : w.frozen? ⟨g, j, none⟩ = false := frozen_of_row w g j _ t h
theorem BytesAt.set {w : World} {g : Nat} {t : TypeId} {L : List UInt8} (h : BytesAt w g t L) (j : Nat) (x : Int) (h0 : 0 ≤ x) (h1 : x < 256) : BytesAt (w.setCell ⟨g, j, none⟩ (.int .u8 x)) g t (L.set j (byteOf x)) := by
  unfold BytesAt
  rw [heap_setCell_same w g j _ t _ h, ← bc_set _ _ _ h0 h1]
  simp
theorem BytesAt.words {w : World} {g g' j : Nat} {t : TypeId} {L : List UInt32} (h : WordsAt w g t L) (v : Value) (hne : g ≠ g') : WordsAt (w.setCell ⟨g', j, none⟩ v) g t L := h.other v hne
theorem BytesAt.range {w : World} {g : Nat} {t : TypeId} {L : List UInt8} (h : BytesAt w g t L) : w.rangeAt g 0 (bc L) := fun j v hv => by
  rw [Nat.zero_add, cell_of_row w g j _ t (0, 0) h]
  simpa using hv
theorem run_string_at {P : Program} {w : World} {g o n cap : Nat} {l : List UInt8} (src dst e : TypeId) (hs : P.underlying src = some (.slice e)) (he : P.underlying e = some (.int .u8)) (hd : P.underlying dst = some .string)
    (h : w.rangeAt g o (bc l)) (hl : l.length = n) : (convert src dst (.slice (some ⟨g, o, none⟩) n cap)).run P w = .ok (.string ⟨l.toArray⟩) w := by
  rw [run_convert_bytes_string w src dst e _ _ _ hs he hd]
  have hc := run_loadCells_list (P := P) w ⟨g, o, none⟩ (bc l) (fun j v hv => by rw [Addr.add_mid]; exact h j v hv)
  rw [bc_length, hl] at hc
  rw [run_bytesToString w ⟨g, o, none⟩ n cap (l.map fun b => ((b.toNat : Nat) : Int)) (by rw [hc]; simp [bc]), foldl_push]
  simp

/-- byte i of words, the highest of each first -/
def digAt (s : List UInt32) (i : Nat) : UInt8 := byteOf (n32 (s.getD (i / 4) 0) / 2 ^ (24 - 8 * (i % 4)) % 256)
/-- a state of eight words as 32 bytes -/
def dig (s : List UInt32) : List UInt8 := (List.range 32).map (digAt s)
def digL (s : List UInt32) (k : Nat) : List UInt8 := (List.range 32).map fun i => if i < k then digAt s i else 0
theorem digL_length (s : List UInt32) (k : Nat) : (digL s k).length = 32 := by simp [digL]
theorem dig_length (s : List UInt32) : (dig s).length = 32 := by simp [dig]
theorem digL_zero (s : List UInt32) : digL s 0 = List.replicate 32 0 := by
  apply List.ext_getElem
  · simp [digL]
  · intro i h1 h2
    rw [List.getElem_replicate]
    simp [digL]
theorem digL_full (s : List UInt32) : digL s 32 = dig s := by
  unfold digL dig
  apply List.map_congr_left
  intro i hi
  rw [if_pos (List.mem_range.1 hi)]
theorem digL_step (s : List UInt32) (k : Nat) (h : k < 32) : (digL s k).set k (digAt s k) = digL s (k + 1) := by
  apply List.ext_getElem
  · simp [digL]
  · intro i h1 h2
    simp only [List.length_set, digL_length] at h1
    rw [List.getElem_set]
    by_cases e : k = i
    · subst e
      rw [if_pos rfl]
      simp [digL]
    · rw [if_neg e]
      simp only [digL, List.getElem_map, List.getElem_range]
      by_cases c : i < k
      · rw [if_pos c, if_pos (by omega)]
      · rw [if_neg c, if_neg (by omega)]

set_option maxRecDepth 100000 in
theorem digest_any (s : S8) (w : World) :
    Calls Tryz.prog 116 #[.agg (uc s.list).toArray] w fun e w' => e = .returned (.string ⟨(dig s.list).toArray⟩) ∧ Below w.heap.size w w' := by
  obtain ⟨cs, hcs⟩ : ∃ cs, cs = (uc s.list).toArray := ⟨_, rfl⟩
  rw [← hcs]
  have HC := hide hcs
  clear hcs
  go_enter Tryz.func116, Tryz.ntmps116
  go_wp2
  go_loopw [5] (fun i wr => ∃ k : Nat, k ≤ 32 ∧ i = .int .i64 k ∧ WordsAt wr w.heap.size 143 s.list ∧ BytesAt wr (w.heap.size + 1) 150 (digL s.list k) ∧ Below w.heap.size w wr) (fun i _ => 32 - (intOf i).toNat)
  case atStart =>
    refine ⟨0, by omega, rfl, ?_, ?_, ((Below.refl _ _).alloc (Nat.le_refl _) _).alloc (by simp) _⟩
    · rw [unhide HC]
      exact heap_alloc2_old _ _ _
    · rw [digL_zero]
      exact heap_alloc2_new _ _ _
  case round =>
    obtain ⟨k, hk, rfl, hw1, hw2, hb⟩ := hrel
    by_cases hlt : k < 32
    · have hk4 : k / 4 < s.list.length := by rw [S8.len]; omega
      have c1 := hw1.cell (k / 4) hk4
      have hsp : Hid (digAt s.list k = byteOf (n32 s.list[k / 4] / 2 ^ (24 - 8 * (k % 4)) % 256)) := by
        show _ = _
        unfold digAt
        rw [getD_of_lt _ _ hk4]
      have f1 := hw2.free k
      obtain ⟨u, c2⟩ : ∃ u, wr.cell? ⟨w.heap.size + 1, k, none⟩ = some u := ⟨_, hw2.cell k (by rw [digL_length]; exact hlt)⟩
      generalize s.list[k / 4] = x at *
      have HW1 := hide hw1
      have HW2 := hide hw2
      have HB := hide hb
      clear hw1 hw2 hb
      go_wp2
      go_roundw
      case rel =>
        have hv0 : 0 ≤ n32 x / 2 ^ (24 - 8 * (k % 4)) % 256 := Int.emod_nonneg _ (by omega)
        have hv1 : n32 x / 2 ^ (24 - 8 * (k % 4)) % 256 < 256 := Int.emod_lt_of_pos _ (by omega)
        refine ⟨k + 1, by omega, by go_num, (unhide HW1).other _ (by omega), ?_, (unhide HB).setCell (by simp) _⟩
        have := (unhide HW2).set k _ hv0 hv1
        rw [← unhide hsp, digL_step _ _ hlt] at this
        exact this
      case measure => simp [intOf]; omega
    · have hk32 : k = 32 := by omega
      subst hk32
      rw [digL_full] at hw2
      have hcv := run_string_at (P := Tryz.prog) (n := 32) (cap := 32) 88 9 5 Tryz.underlying88 (by kernel_rfl) (by kernel_rfl) hw2.range (dig_length _)
      generalize hD : (dig s.list).toArray = D at *
      have HD := hide hD
      have HB := hide hb
      clear hD
      clear hw1 hw2 hb
      go_wp2
      go_ret
      exact ⟨by rw [unhide HD]; rfl, unhide HB⟩

end Go.Proofs.YtkcnihngkmaecaaGreat
namespace Go.Proofs.YtkcnihngkmaecaaGreat
open Go.RowKit
set_option linter.unusedVariables false

/-- the document's sum of bytes -/
def shaSum (l : List UInt8) : List UInt8 := dig (mixN (l ++ padL l.length) ((l ++ padL l.length).length / 64)).list
theorem shaSum_length (l : List UInt8) : (shaSum l).length = 32 := dig_length _

theorem hashOf_nil : HashOf [] s8H (List.replicate 64 0) := ⟨rfl, List.length_replicate, rfl⟩

/-- the cells of a sum of nothing -/
def cells0 : List Value := uc H0 ++ bc (List.replicate 64 0) ++ [Value.int .i64 0]

set_option maxRecDepth 100000 in
theorem new_any (w : World) :
    Calls Tryz.prog 107 #[] w fun e w' => ∃ b, e = .returned (.pointer (some ⟨b, 0, none⟩)) ∧ HashAt w' b s8H (List.replicate 64 0) 0 ∧ w.heap.size ≤ b ∧ Below w.heap.size w w' := by
  obtain ⟨C, hC⟩ : ∃ C, C = cells0.toArray := ⟨_, rfl⟩
  obtain ⟨U, hU⟩ : ∃ U, U = (uc H0).toArray := ⟨_, rfl⟩
  have hst := hide start_any
  rw [← hU] at hst
  have HC := hide hC
  have HU := hide hU
  clear hC hU
  go_enter Tryz.func107, Tryz.ntmps107
  go_wp2_with fail
  refine (unhide hst w).mono ?_
  rintro e w1 ⟨rfl, b1⟩
  go_wp2_with (refine wpList_value (.agg C) rfl _ _ rfl ?hb ?_)
  case hb => rw [unhide HC, unhide HU]; kernel_rfl
  go_ret
  refine ⟨w1.heap.size, rfl, ⟨?_, List.length_replicate⟩, b1.size, b1.alloc b1.size _⟩
  rw [heap_alloc_new, unhide HC]
  rfl

set_option maxRecDepth 100000 in
theorem write_nil (w : World) (s : ByteArray) :
    Calls Tryz.prog 108 #[.pointer none, .string s] w fun e w' => e = .returned (.int .i64 1) ∧ w = w' := by
  go_enter Tryz.func108, Tryz.ntmps108
  go_wp2
  go_ret
  exact ⟨rfl, rfl⟩
set_option maxRecDepth 100000 in
theorem write_long (w : World) (b : Nat) (st : S8) (P : List UInt8) (n : Nat) (s : ByteArray) (hs : s.size ≤ maxLen) (hn : n ≤ 65536) (hl : 65536 < n + s.size) (hW : HashAt w b st P n) :
    Calls Tryz.prog 108 #[.pointer (some ⟨b, 0, none⟩), .string s] w fun e w' => e = .returned (.int .i64 2) ∧ w = w' := by
  have c72 := hW.long
  have h1 : (65536 : Int) - n < s.size := by omega
  have h2 : (n : Int) ≤ 65536 := by omega
  clear hW hl hn
  unfold maxLen at hs
  go_enter Tryz.func108, Tryz.ntmps108
  go_wp2
  go_ret
  exact ⟨rfl, rfl⟩
set_option maxRecDepth 100000 in
theorem write_any (w : World) (b : Nat) (l : List UInt8) (st : S8) (P : List UInt8) (s : ByteArray) (hl : l.length + s.size ≤ 65536) (hW : HashAt w b st P l.length) (hH : HashOf l st P) :
    Calls Tryz.prog 108 #[.pointer (some ⟨b, 0, none⟩), .string s] w fun e w' => e = .returned (.int .i64 0) ∧ ∃ st' P', HashAt w' b st' P' (l ++ s.data.toList).length ∧ HashOf (l ++ s.data.toList) st' P' ∧ Kept w.heap.size b w w' := by
  have c72 := hW.long
  have h1 : ¬ (65536 : Int) - l.length < s.size := by omega
  have h2 : (l.length : Int) ≤ 65536 := by omega
  have HW := hide hW
  have HH := hide hH
  have HL := hide hl
  clear hW hH hl
  go_enter Tryz.func108, Tryz.ntmps108
  go_wp2_with fail
  refine (take_any w b l st P s (by have := unhide HL; omega) (unhide HW) (unhide HH)).mono ?_
  rintro e w1 ⟨rfl, hx⟩
  have HX := hide hx
  clear hx
  go_wp2
  go_ret
  exact ⟨rfl, unhide HX⟩
set_option maxRecDepth 100000 in
theorem sumM_nil (w : World) : Calls Tryz.prog 109 #[.pointer none] w fun e w' => e = .returned (.string ⟨#[]⟩) ∧ w = w' := by
  go_enter Tryz.func109, Tryz.ntmps109
  go_wp2
  go_ret
  exact ⟨rfl, rfl⟩

theorem wpList_store_abs {P : Program} {ops : Array Oper} {rest : List Oper} {op : Oper} {a : Act} {w : World} {Q : Exit → Act → World → Prop} (hgd : op.guard = none) (ty : TypeId) (x y : Operand) (ho : op.op = .store ty x y)
    (b o : Nat) (cells : Array Value) (hx : a.eval x = .pointer (some ⟨b, o, none⟩)) (hy : a.eval y = .agg cells)
    (ht : w.there b o cells.size) (hi : (P.info? ty).map (·.size) = some cells.size) (h1 : cells.all (·.oneCell') = true)
    (h : ∀ w', Hid (w' = w.setCells b o cells.toList) → wpList P ops Q rest (a.put op.dst undef) w') : wpList P ops Q (op :: rest) a w :=
  wpList_store_mid hgd ty x y ho b o cells hx hy ht hi h1 (h _ rfl)
theorem hashOf_sum (l : List UInt8) (st : S8) (P : List UInt8) (h : HashOf (l ++ padL l.length) st P) : dig st.list = shaSum l := by
  unfold shaSum
  rw [h.state]

set_option maxRecDepth 100000 in
theorem sumM_any (w : World) (b : Nat) (l : List UInt8) (st : S8) (P : List UInt8) (hl : l.length ≤ 65536) (hW : HashAt w b st P l.length) (hH : HashOf l st P) :
    Calls Tryz.prog 109 #[.pointer (some ⟨b, 0, none⟩)] w fun e w' => e = .returned (.string ⟨(shaSum l).toArray⟩) ∧ Below w.heap.size w w' := by
  have c72 := hW.long
  have hh := hW.heap
  have hP := hW.len
  have hcl := hash_cells_length st P l.length hP
  have h1c : (uc st.list ++ bc P ++ [Value.int .i64 l.length]).toArray.all (·.oneCell') = true := by
    refine all_oneCell_toArray ?_
    intro v hv
    rcases List.mem_append.1 hv with hv | hv
    · rcases List.mem_append.1 hv with hv | hv
      · exact uc_oneCell _ v hv
      · exact bc_oneCell _ v hv
    · simp at hv; subst hv; rfl
  obtain ⟨Z, hZ⟩ : ∃ Z : List Value, Z = uc (List.replicate 8 0) ++ bc (List.replicate 64 0) ++ [Value.int .i64 0] := ⟨_, rfl⟩
  have hZl : Z.length = 73 := by rw [hZ]; rfl
  have hzv : ∀ w, (zeroValue 147).run Tryz.prog w = .ok (.agg Z.toArray) w := fun w => by rw [hZ]; kernel_rfl
  generalize hcs : uc st.list ++ bc P ++ [Value.int .i64 l.length] = cs at *
  have HCS := hide hcs
  have HH := hide hH
  have HL := hide hl
  have HW := hide hW
  clear hcs hH hl hZ hW
  go_enter Tryz.func109, Tryz.ntmps109
  go_wp2_with (first | (refine wpList_load_row rfl 147 (.tmp 7) rfl b rfl 147 cs.toArray (0, 0) _ hh Tryz.underlying147 rfl ?hi2 ?_) | (refine wpList_store_abs rfl 147 (.tmp 3) (.tmp 8) rfl w.heap.size 0 cs.toArray rfl rfl ?ht3 ?hi3 h1c ?_))
  case hi2 => rw [List.size_toArray, hcl]; kernel_rfl
  case ht3 =>
    have := there_of_block (heap_alloc_new w (.cells Z.toArray 147))
    have e1 : Z.toArray.size = 73 := by rw [List.size_toArray, hZl]
    have e2 : cs.toArray.size = 73 := by rw [List.size_toArray, hcl]
    rw [e1] at this
    rw [e2]
    exact this
  case hi3 => rw [List.size_toArray, hcl]; kernel_rfl
  intro w2 hw2
  have hb2 : Below w.heap.size w w2 := by rw [unhide hw2]; exact below_setCells (Nat.le_refl _) _ _ _ ((Below.refl _ _).alloc (Nat.le_refl _) _)
  have hz2 : w.heap.size < w2.heap.size := by rw [unhide hw2, heap_setCells_size]; simp
  have c72' : w2.cell? ⟨b, 72, none⟩ = some (.int .i64 l.length) := (hb2.cell (p := ⟨b, 72, none⟩) (unhide HW).lt).trans c72
  have hA2 : HashAt w2 w.heap.size st P l.length := by
    refine ⟨?_, hP⟩
    rw [unhide hw2, unhide HCS]
    have := heap_setCells_same w.heap.size 147 cs 0 (w.alloc (.cells Z.toArray 147)) Z (heap_alloc_new _ _) (by omega)
    rw [List.take_zero, List.nil_append] at this
    exact this
  have HA2 := hide hA2
  have HB2 := hide hb2
  have HZ2 := hide hz2
  clear hA2 hb2 hz2 hw2 c72 hh hzv h1c
  go_wp2_with fail
  refine (pad_any l.length w2 (unhide HL)).mono ?_
  rintro e w3 ⟨rfl, b3⟩
  have hpl := padL_length l.length
  have hzl := zerosOf_lt l.length
  obtain ⟨D, hD⟩ : ∃ D : ByteArray, D = ⟨(padL l.length).toArray⟩ := ⟨_, rfl⟩
  rw [← hD]
  have hDl : D.data.toList = padL l.length := by rw [hD]
  have hDs : D.size = zerosOf l.length + 9 := by rw [← blen, hDl, hpl]
  have HD := hide hDl
  have HS := hide hDs
  have B3 := hide b3
  clear hD hDl hDs b3 hpl
  go_wp2_with fail
  refine (take_any w3 w.heap.size l st P D (by have := unhide HL; rw [unhide HS]; omega) ((unhide HA2).below (unhide B3)) (unhide HH)).mono ?_
  rintro e w4 ⟨rfl, st4, P4, hA4, hO4, hK4⟩
  rw [unhide HD] at hA4 hO4
  have hsum := hide (hashOf_sum l st4 P4 hO4)
  have hr4 := hA4.range8
  have hl8 : (uc st4.list).length = 8 := by rw [uc_length, S8.len]
  have B4 : Hid (Below w.heap.size w w4) := by
    have z2 := unhide HZ2
    have z3 := (unhide B3).size
    exact ((unhide HB2).trans ((unhide B3).mono (by omega))).trans (hK4.below _ (by omega) (Nat.le_refl _))
  have hdg := hide (digest_any st4)
  generalize uc st4.list = U at *
  clear hA4 hO4 hK4 HB2 B3 HZ2 HA2
  go_wp2_with (refine wpList_load_mid rfl 143 (.tmp 15) rfl w.heap.size 0 rfl U _ hr4 Tryz.underlying143 rfl ?hi4 ?_)
  case hi4 => rw [hl8]; kernel_rfl
  refine (unhide hdg w4).mono ?_
  rintro e w5 ⟨rfl, b5⟩
  rw [unhide hsum]
  have hb5 := hide ((unhide B4).trans (b5.mono (unhide B4).size))
  clear b5
  generalize hG : (shaSum l).toArray = G
  have HG := hide hG
  clear hG
  go_wp2
  go_ret
  exact ⟨by rw [unhide HG]; rfl, unhide hb5⟩

set_option maxRecDepth 100000 in
theorem sum_long (w : World) (s : ByteArray) (hs : s.size ≤ maxLen) (hl : 65536 < s.size) :
    Calls Tryz.prog 102 #[.string s] w fun e w' => e = .returned (.string ⟨#[]⟩) ∧ Below w.heap.size w w' := by
  go_enter Tryz.func102, Tryz.ntmps102
  go_wp2_with fail
  refine (new_any w).mono ?_
  rintro e w1 ⟨b, rfl, hA, hb, b1⟩
  have HA := hide hA
  clear hA
  go_wp2_with fail
  refine (write_long w1 b _ _ 0 s hs (by omega) (by omega) (unhide HA)).mono ?_
  rintro e w2 ⟨rfl, rfl⟩
  go_wp2
  go_ret
  exact ⟨rfl, b1⟩
set_option maxRecDepth 100000 in
theorem sum_any (w : World) (s : ByteArray) (hl : s.size ≤ 65536) :
    Calls Tryz.prog 102 #[.string s] w fun e w' => e = .returned (.string ⟨(shaSum s.data.toList).toArray⟩) ∧ Below w.heap.size w w' := by
  go_enter Tryz.func102, Tryz.ntmps102
  go_wp2_with fail
  refine (new_any w).mono ?_
  rintro e w1 ⟨b, rfl, hA, hb, b1⟩
  have HA := hide hA
  clear hA
  go_wp2_with fail
  refine (write_any w1 b [] _ _ s (by simpa using hl) (unhide HA) hashOf_nil).mono ?_
  rintro e w2 ⟨rfl, st2, P2, hA2, hO2, hK2⟩
  rw [List.nil_append] at hA2 hO2
  have HA2 := hide hA2
  have HO2 := hide hO2
  have B2 := hide (b1.trans (hK2.below _ b1.size hb))
  clear hA2 hO2 hK2 b1
  go_wp2_with fail
  refine (sumM_any w2 b s.data.toList st2 P2 (by rw [blen]; exact hl) (unhide HA2) (unhide HO2)).mono ?_
  rintro e w3 ⟨rfl, b3⟩
  have B3 := hide ((unhide B2).trans (b3.mono (unhide B2).size))
  clear b3
  generalize hG : (shaSum s.data.toList).toArray = G
  have HG := hide hG
  clear hG
  go_wp2
  go_ret
  exact ⟨by rw [unhide HG]; rfl, unhide B3⟩
theorem size_shaSum (l : List UInt8) : (⟨(shaSum l).toArray⟩ : ByteArray).size = 32 := by
  show (shaSum l).toArray.size = 32
  rw [List.size_toArray, shaSum_length]

end Go.Proofs.YtkcnihngkmaecaaGreat

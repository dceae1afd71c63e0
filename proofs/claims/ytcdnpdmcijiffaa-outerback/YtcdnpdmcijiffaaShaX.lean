import Derived.Test.YtcdnpdmcijiffaaShaK
import Derived.Test.YtcdnpdmcijiffaaReg
import Derived.Deep.DeepCutAuto
import Derived.Deep.DrawnRows
namespace Go.Proofs.Ytcdnpdmcijiffaa
open Go.RowKit
set_option linter.unusedVariables false
attribute [local go_sem] xor32 and32 or32 add32 not32

/-- a state of eight words -/
structure S8 where
  a : UInt32
  b : UInt32
  c : UInt32
  d : UInt32
  e : UInt32
  f : UInt32
  g : UInt32
  h : UInt32
def S8.list (s : S8) : List UInt32 := [s.a, s.b, s.c, s.d, s.e, s.f, s.g, s.h]
def S8.add (s t : S8) : S8 := ⟨s.a + t.a, s.b + t.b, s.c + t.c, s.d + t.d, s.e + t.e, s.f + t.f, s.g + t.g, s.h + t.h⟩
def T1 (s : S8) (k w : UInt32) : UInt32 := s.h + (rot s.e 6 ^^^ rot s.e 11 ^^^ rot s.e 25) + (s.e &&& s.f ^^^ ~~~s.e &&& s.g) + k + w
def T2 (s : S8) : UInt32 := (rot s.a 2 ^^^ rot s.a 13 ^^^ rot s.a 22) + (s.a &&& s.b ^^^ s.a &&& s.c ^^^ s.b &&& s.c)
def rnd (s : S8) (k w : UInt32) : S8 := ⟨T1 s k w + T2 s, s.a, s.b, s.c, s.d + T1 s k w, s.e, s.f, s.g⟩
def rnds (W : List UInt32) (s : S8) : Nat → S8
  | 0 => s
  | t + 1 => rnd (rnds W s t) (KK.getD t 0) (W.getD t 0)
/-- a block mixed into a state -/
def mix (s : S8) (B : List UInt8) : S8 := s.add (rnds (sched B) s 64)

theorem WordsAt.below {w w' : World} {g : Nat} {t : TypeId} {L : List UInt32} (h : WordsAt w g t L) (hb : Below w.heap.size w w') : WordsAt w' g t L :=
  (hb.block g (lt_of_block h)).trans h
theorem WordsAt.lt {w : World} {g : Nat} {t : TypeId} {L : List UInt32} (h : WordsAt w g t L) : g < w.heap.size := lt_of_block h
theorem WordsAt.alloc {w : World} {g : Nat} {t : TypeId} {L : List UInt32} (h : WordsAt w g t L) (o : Obj) : WordsAt (w.alloc o) g t L :=
  (Below.heap_alloc w o g h.lt).trans h
theorem heap_setCells_other (g k : Nat) (hne : k ≠ g) : ∀ (vs : List Value) (o : Nat) (w : World), (w.setCells g o vs).heap[k]? = w.heap[k]?
  | [], _, _ => rfl
  | v :: vs, o, w => (heap_setCells_other g k hne vs (o + 1) _).trans (Below.heap_setCell _ _ _ _ hne)
theorem WordsAt.setCells_other {w : World} {g g' o : Nat} {t : TypeId} {L : List UInt32} (h : WordsAt w g t L) (vs : List Value) (hne : g ≠ g') : WordsAt (w.setCells g' o vs) g t L :=
  (heap_setCells_other g' g hne vs o w).trans h
theorem heap_setCells_size (g : Nat) : ∀ (vs : List Value) (o : Nat) (w : World), (w.setCells g o vs).heap.size = w.heap.size
  | [], _, _ => rfl
  | v :: vs, o, w => (heap_setCells_size g vs (o + 1) _).trans (by simp)
/-- a block whose cells are written all, from some place on -/
theorem heap_setCells_same (g : Nat) (t : TypeId) : ∀ (vs : List Value) (o : Nat) (w : World) (cs : List Value), w.heap[g]? = some (.cells cs.toArray t (0, 0)) → o + vs.length = cs.length →
    (w.setCells g o vs).heap[g]? = some (.cells (cs.take o ++ vs).toArray t (0, 0))
  | [], o, w, cs, h, hl => by
    simp only [List.length_nil, Nat.add_zero] at hl
    rw [List.append_nil, List.take_of_length_le (by omega)]
    exact h
  | v :: vs, o, w, cs, h, hl => by
    simp only [List.length_cons] at hl
    have h1 : (w.setCell ⟨g, o, none⟩ v).heap[g]? = some (.cells (cs.set o v).toArray t (0, 0)) := by
      rw [heap_setCell_same w g o _ t v h]
      simp
    have := heap_setCells_same g t vs (o + 1) _ (cs.set o v) h1 (by simp; omega)
    show ((w.setCell ⟨g, o, none⟩ v).setCells g (o + 1) vs).heap[g]? = _
    rw [this]
    congr 3
    have ho : o < (cs.set o v).length := by simp; omega
    rw [List.take_succ_eq_append_getElem ho, List.getElem_set_self, List.append_assoc, List.take_set_of_le (Nat.le_refl o)]
    rfl
theorem WordsAt.stored {w : World} {g : Nat} {t : TypeId} {L M : List UInt32} (h : WordsAt w g t L) (hl : L.length = M.length) : WordsAt (w.setCells g 0 (uc M)) g t M := by
  have := heap_setCells_same g t (uc M) 0 w (uc L) h (by simp [uc_length, hl])
  unfold WordsAt
  rw [this]
  simp
theorem WordsAt.there {w : World} {g : Nat} {t : TypeId} {L : List UInt32} (h : WordsAt w g t L) : w.there g 0 L.length := fun j hj => by
  rw [Nat.zero_add, h.cell j hj]
  exact ⟨rfl, h.free j⟩

/-- the first k words of one list added to those of another -/
def addTo (S X : List UInt32) (k : Nat) : List UInt32 := (List.range 8).map fun j => if j < k then S.getD j 0 + X.getD j 0 else S.getD j 0
theorem addTo_length (S X : List UInt32) (k : Nat) : (addTo S X k).length = 8 := by simp [addTo]
theorem addTo_zero (s : S8) (X : List UInt32) : addTo s.list X 0 = s.list := by simp [addTo, S8.list, List.range, List.range.loop]
theorem addTo_full (s x : S8) : addTo s.list x.list 8 = (s.add x).list := by simp [addTo, S8.list, S8.add, List.range, List.range.loop]
theorem addTo_get (S X : List UInt32) (k j : Nat) (h : j < 8) (hk : k ≤ j) : (addTo S X k)[j]'(by rw [addTo_length]; exact h) = S.getD j 0 := by
  simp only [addTo, List.getElem_map, List.getElem_range]
  rw [if_neg (by omega)]
theorem addTo_step (S X : List UInt32) (k : Nat) (h : k < 8) : (addTo S X k).set k (S.getD k 0 + X.getD k 0) = addTo S X (k + 1) := by
  apply List.ext_getElem
  · simp [addTo]
  · intro i h1 h2
    simp only [List.length_set, addTo_length] at h1
    rw [List.getElem_set]
    by_cases e : k = i
    · subst e
      rw [if_pos rfl]
      simp [addTo]
    · rw [if_neg e]
      simp only [addTo, List.getElem_map, List.getElem_range]
      by_cases c : i < k
      · rw [if_pos c, if_pos (by omega)]
      · rw [if_neg c, if_neg (by omega)]
theorem getD_of_lt (l : List UInt32) (k : Nat) (h : k < l.length) : l.getD k 0 = l[k] := by simp [List.getD, h]
theorem there_of_block {w : World} {g : Nat} {Z : Array Value} {t : TypeId} (h : w.heap[g]? = some (.cells Z t (0, 0))) : w.there g 0 Z.size := fun j hj => by
  rw [Nat.zero_add, cell_of_row w g j Z t (0, 0) h, Array.getElem?_eq_getElem hj]
  exact ⟨rfl, frozen_of_row w g j Z t h⟩
theorem S8.len (s : S8) : s.list.length = 8 := rfl

set_option maxRecDepth 100000 in
set_option maxHeartbeats 2000000 in
theorem mixed_any (s : S8) (B : List UInt8) (hB : B.length = 64) (w : World) :
    Calls Try.prog 84 #[.agg #[.int .u32 (n32 s.a), .int .u32 (n32 s.b), .int .u32 (n32 s.c), .int .u32 (n32 s.d), .int .u32 (n32 s.e), .int .u32 (n32 s.f), .int .u32 (n32 s.g), .int .u32 (n32 s.h)], .agg (bc B).toArray] w
      fun e w' => e = .returned (.agg (uc (mix s B).list).toArray) ∧ Below w.heap.size w w' := by
  obtain ⟨cs, hcs⟩ : ∃ cs, cs = (bc B).toArray := ⟨_, rfl⟩
  rw [← hcs]
  have HC := hide hcs
  clear hcs
  obtain ⟨W, hW⟩ : ∃ W, W = sched B := ⟨_, rfl⟩
  obtain ⟨K, hK⟩ : ∃ K, K = KK := ⟨_, rfl⟩
  have hsp := hide (spread_any B hB)
  have hco := hide consts_any
  have hWl : W.length = 64 := by rw [hW, sched, schedN_length]
  have hKl : K.length = 64 := by rw [hK]; rfl
  rw [← hW] at hsp
  rw [← hK] at hco
  have HW := hide hW
  have HK := hide hK
  clear hW hK
  have hWs : (uc W).toArray.size = 64 := by rw [List.size_toArray, uc_length, hWl]
  have hKs : (uc K).toArray.size = 64 := by rw [List.size_toArray, uc_length, hKl]
  go_enter Try.func84, Try.ntmps84
  go_upto_region 1 with fail
  go_cut [5, 6] (fun p5 p6 wx => ∃ g5 g6, p5 = .pointer (some ⟨g5, 0, none⟩) ∧ p6 = .pointer (some ⟨g6, 0, none⟩) ∧ WordsAt wx g5 122 K ∧ WordsAt wx g6 122 (W) ∧ WordsAt wx w.heap.size 114 s.list ∧ (∃ Z, wx.heap[w.heap.size + 1 + 1]? = some (.cells Z 114 (0, 0)) ∧ Z.size = 8) ∧ w.heap.size + 3 ≤ g5 ∧ w.heap.size + 3 ≤ g6 ∧ g5 ≠ g6 ∧ Below w.heap.size w wx)
  case first =>
    generalize hW0 : World.alloc (World.alloc (World.alloc w _) _) _ = W0
    have hN : WordsAt W0 w.heap.size 114 s.list := by rw [← hW0]; exact heap3_a _ _ _ _
    have hC : W0.heap[w.heap.size + 1]? = some (.cells cs 116 (0, 0)) := by rw [← hW0]; exact heap3_b _ _ _ _
    have hZ : ∃ Z, W0.heap[w.heap.size + 1 + 1]? = some (.cells Z 114 (0, 0)) ∧ Z.size = 8 := ⟨_, by rw [← hW0]; exact heap3_c _ _ _ _, rfl⟩
    have hsz : W0.heap.size = w.heap.size + 3 := by rw [← hW0]; simp
    have hb0 : Below w.heap.size w W0 := by rw [← hW0]; exact ((((Below.refl _ _).alloc (Nat.le_refl _) _).alloc (by simp) _).alloc (by simp; omega) _)
    clear hW0
    generalize hA : Act.mk _ _ = A
    have hA3 : A.eval (.tmp 3) = .pointer (some ⟨w.heap.size + 1, 0, none⟩) := by rw [← hA]; rfl
    have hAs : A.tmps.size = 115 := by rw [← hA]; rfl
    refine wp_region_inv0 (by kernel_rfl) (by kernel_rfl) (by kernel_rfl) (fun f a wr => Off [5, 6, 22, 23, 24] A a ∧ Below W0.heap.size W0 wr ∧ ((f 5 = true → f 3 = true) ∧ (f 6 = true → f 4 = true)) ∧ (f 0 = true → a.eval (.tmp 22) = .agg (uc K).toArray) ∧ (f 1 = true → a.eval (.tmp 23) = .agg cs) ∧ (f 2 = true → a.eval (.tmp 24) = .agg (uc (W)).toArray) ∧
      ∃ g5 g6, (f 3 = true → a.eval (.tmp 5) = .pointer (some ⟨g5, 0, none⟩) ∧ W0.heap.size ≤ g5 ∧ WordsAt wr g5 122 (if f 5 then K else List.replicate 64 0)) ∧ (f 4 = true → a.eval (.tmp 6) = .pointer (some ⟨g6, 0, none⟩) ∧ W0.heap.size ≤ g6 ∧ WordsAt wr g6 122 (if f 6 then W else List.replicate 64 0)) ∧ (f 3 = true → f 4 = true → g5 ≠ g6)) ?start ?step ?fin
    case start => exact ⟨Off.refl _ _, ⟨rfl, rfl, rfl, Nat.le_refl _, fun _ _ => rfl⟩, by simp, by simp, by simp, by simp, 0, 0, by simp, by simp, by simp⟩
    case step =>
      rintro f a wr i o ⟨hoff, hbl, hs, h0, h1, h2, g5, g6, h5, h6, hne⟩ ho hfi hdep
      have has : a.tmps.size = 115 := hoff.size.trans hAs
      rcases i with _ | _ | _ | _ | _ | _ | _ | i
      · obtain rfl := Option.some.inj ho
        refine wp_call 85 #[] #[] rfl Try.call85 #[] (by simp) (unhide hco wr) ?_
        rintro e w' ⟨rfl, hb⟩
        refine ⟨_, rfl, hoff.put 22 _ (by simp), hbl.trans (hb.mono hbl.size), hs, fun _ => eval_put_same a 22 _ (by omega), fun h => (eval_put_ne a 22 23 _ (by decide)).trans (h1 h), fun h => (eval_put_ne a 22 24 _ (by decide)).trans (h2 h), g5, g6, fun h => ⟨(eval_put_ne a 22 5 _ (by decide)).trans (h5 h).1, (h5 h).2.1, (h5 h).2.2.below hb⟩, fun h => ⟨(eval_put_ne a 22 6 _ (by decide)).trans (h6 h).1, (h6 h).2.1, (h6 h).2.2.below hb⟩, hne⟩
      · obtain rfl := Option.some.inj ho
        refine wp_load_row 116 (.tmp 3) rfl (w.heap.size + 1) ((hoff.eval 3 (by simp)).trans hA3) 116 cs (0, 0) _ ((hbl.block _ (by omega)).trans hC) Try.underlying116 rfl ?_ ?_
        · rw [unhide HC, List.size_toArray, bc_length, hB]; kernel_rfl
        exact ⟨hoff.put 23 _ (by simp), hbl, hs, fun h => (eval_put_ne a 23 22 _ (by decide)).trans (h0 h), fun _ => eval_put_same a 23 _ (by omega), fun h => (eval_put_ne a 23 24 _ (by decide)).trans (h2 h), g5, g6, fun h => ⟨(eval_put_ne a 23 5 _ (by decide)).trans (h5 h).1, (h5 h).2⟩, fun h => ⟨(eval_put_ne a 23 6 _ (by decide)).trans (h6 h).1, (h6 h).2⟩, hne⟩
      · obtain rfl := Option.some.inj ho
        have d1 : f 1 = true := hdep ⟨1, .data⟩ (by simp) rfl
        refine wp_call 86 #[.tmp 23] #[116] rfl Try.call86 #[.agg (bc B).toArray] (by simp [h1 d1, unhide HC]) (unhide hsp wr) ?_
        rintro e w' ⟨rfl, hb⟩
        exact ⟨_, rfl, hoff.put 24 _ (by simp), hbl.trans (hb.mono hbl.size), hs, fun h => (eval_put_ne a 24 22 _ (by decide)).trans (h0 h), fun h => (eval_put_ne a 24 23 _ (by decide)).trans (h1 h), fun _ => eval_put_same a 24 _ (by omega), g5, g6, fun h => ⟨(eval_put_ne a 24 5 _ (by decide)).trans (h5 h).1, (h5 h).2.1, (h5 h).2.2.below hb⟩, fun h => ⟨(eval_put_ne a 24 6 _ (by decide)).trans (h6 h).1, (h6 h).2.1, (h6 h).2.2.below hb⟩, hne⟩
      · obtain rfl := Option.some.inj ho
        refine wp_alloc 122 rfl _ Try.zeroValue122 ?_
        have f5 : f 5 = false := by
          cases hf : f 5 with
          | false => rfl
          | true => exact absurd (hs.1 hf) (by rw [hfi]; simp)
        refine ⟨hoff.put 5 _ (by simp), hbl.alloc hbl.size _, ⟨fun _ => rfl, hs.2⟩, fun h => (eval_put_ne a 5 22 _ (by decide)).trans (h0 h), fun h => (eval_put_ne a 5 23 _ (by decide)).trans (h1 h), fun h => (eval_put_ne a 5 24 _ (by decide)).trans (h2 h), wr.heap.size, g6, fun _ => ⟨eval_put_same a 5 _ (by omega), hbl.size, ?_⟩, fun h => ⟨(eval_put_ne a 5 6 _ (by decide)).trans (h6 h).1, (h6 h).2.1, (h6 h).2.2.alloc _⟩, fun _ h => Nat.ne_of_gt (h6 h).2.2.lt⟩
        show WordsAt _ _ _ (if f 5 = true then K else List.replicate 64 0)
        rw [f5]
        exact heap_alloc_new _ _
      · obtain rfl := Option.some.inj ho
        refine wp_alloc 122 rfl _ Try.zeroValue122 ?_
        have f6 : f 6 = false := by
          cases hf : f 6 with
          | false => rfl
          | true => exact absurd (hs.2 hf) (by rw [hfi]; simp)
        refine ⟨hoff.put 6 _ (by simp), hbl.alloc hbl.size _, ⟨hs.1, fun _ => rfl⟩, fun h => (eval_put_ne a 6 22 _ (by decide)).trans (h0 h), fun h => (eval_put_ne a 6 23 _ (by decide)).trans (h1 h), fun h => (eval_put_ne a 6 24 _ (by decide)).trans (h2 h), g5, wr.heap.size, fun h => ⟨(eval_put_ne a 6 5 _ (by decide)).trans (h5 h).1, (h5 h).2.1, (h5 h).2.2.alloc _⟩, fun _ => ⟨eval_put_same a 6 _ (by omega), hbl.size, ?_⟩, fun h _ => Nat.ne_of_lt (h5 h).2.2.lt⟩
        show WordsAt _ _ _ (if f 6 = true then W else List.replicate 64 0)
        rw [f6]
        exact heap_alloc_new _ _
      · obtain rfl := Option.some.inj ho
        have d0 : f 0 = true := hdep ⟨0, .data⟩ (by simp) rfl
        have d3 : f 3 = true := hdep ⟨3, .data⟩ (by simp) rfl
        have d4 : f 4 = true := hdep ⟨4, .phase⟩ (by simp) rfl
        obtain ⟨e5, k5, w5⟩ := h5 d3
        rw [hfi] at w5
        have w5' : WordsAt wr g5 122 (List.replicate 64 0) := w5
        have hth := w5'.there
        rw [List.length_replicate] at hth
        refine wp_store_mid 122 (.tmp 5) (.tmp 22) rfl g5 0 (uc K).toArray e5 (h0 d0) (by rw [hKs]; exact hth) (by rw [hKs]; kernel_rfl) (all_oneCell_toArray (uc_oneCell _)) ?_
        refine ⟨hoff, below_setCells k5 _ _ _ hbl, ⟨fun _ => d3, hs.2⟩, h0, h1, h2, g5, g6, fun h => ⟨e5, k5, w5'.stored (by rw [List.length_replicate, hKl])⟩, fun h => ⟨(h6 h).1, (h6 h).2.1, (h6 h).2.2.setCells_other _ (fun e => hne d3 d4 e.symm)⟩, hne⟩
      · obtain rfl := Option.some.inj ho
        have d2 : f 2 = true := hdep ⟨2, .data⟩ (by simp) rfl
        have d3 : f 3 = true := hdep ⟨3, .phase⟩ (by simp) rfl
        have d4 : f 4 = true := hdep ⟨4, .data⟩ (by simp) rfl
        obtain ⟨e6, k6, w6⟩ := h6 d4
        rw [hfi] at w6
        have w6' : WordsAt wr g6 122 (List.replicate 64 0) := w6
        have hth := w6'.there
        rw [List.length_replicate] at hth
        refine wp_store_mid 122 (.tmp 6) (.tmp 24) rfl g6 0 (uc (W)).toArray e6 (h2 d2) (by rw [hWs]; exact hth) (by rw [hWs]; kernel_rfl) (all_oneCell_toArray (uc_oneCell _)) ?_
        refine ⟨hoff, below_setCells k6 _ _ _ hbl, ⟨hs.1, fun _ => d4⟩, h0, h1, h2, g5, g6, fun h => ⟨(h5 h).1, (h5 h).2.1, (h5 h).2.2.setCells_other _ (hne d3 d4)⟩, fun h => ⟨e6, k6, w6'.stored (by rw [List.length_replicate, hWl])⟩, hne⟩
      · simp at ho
    case fin =>
      rintro f a wr ⟨hoff, hbl, hs, h0, h1, h2, g5, g6, h5, h6, hne⟩ hall
      have e := Off.all _ _ hoff
      have i0 := hall 0 (by decide)
      have i3 := hall 3 (by decide)
      have i4 := hall 4 (by decide)
      have i5 := hall 5 (by decide)
      have i6 := hall 6 (by decide)
      obtain ⟨e5, k5, w5⟩ := h5 i3
      obtain ⟨e6, k6, w6⟩ := h6 i4
      rw [i5] at w5
      rw [i6] at w6
      simp only [List.foldl_cons, List.foldl_nil] at e
      rw [e5, e6, h0 i0, h1 (hall 1 (by decide)), h2 (hall 2 (by decide)), ← hA] at e
      subst e
      clear e5 e6 h0 h1 h2 h5 h6 hoff
      go_wp2_with fail
      go_meet
      case rel =>
        obtain ⟨Z, z1, z2⟩ := hZ
        exact ⟨g5, g6, rfl, rfl, w5, w6, (hbl.block _ (by omega)).trans hN, ⟨Z, (hbl.block _ (by omega)).trans z1, z2⟩, by omega, by omega, hne i3 i4, hb0.trans (hbl.mono (by omega))⟩
  case rest =>
    obtain ⟨g5, g6, rfl, rfl, w5, w6, hN, ⟨Z, z1, z2⟩, k5, k6, hne, hb⟩ := hcut
    have c0 := hN.cell 0 (by simp [S8.list])
    have c1 := hN.cell 1 (by simp [S8.list])
    have c2 := hN.cell 2 (by simp [S8.list])
    have c3 := hN.cell 3 (by simp [S8.list])
    have c4 := hN.cell 4 (by simp [S8.list])
    have c5 := hN.cell 5 (by simp [S8.list])
    have c6 := hN.cell 6 (by simp [S8.list])
    have c7 := hN.cell 7 (by simp [S8.list])
    simp only [S8.list, List.getElem_cons_zero, List.getElem_cons_succ] at c0 c1 c2 c3 c4 c5 c6 c7
    go_wp2
    go_big_quiet (fail)
    go_wp2
    clear c0 c1 c2 c3 c4 c5 c6 c7
    go_loopw [7, 8, 9, 10, 11, 12, 13, 14, 41] (fun xa xb xc xd xe xf xg xh i wr => ∃ t : Nat, t ≤ 64 ∧ i = .int .i64 t ∧ (∃ m, wr = wc.drewN m) ∧ xa = .int .u32 (n32 (rnds W s t).a) ∧ xb = .int .u32 (n32 (rnds W s t).b) ∧ xc = .int .u32 (n32 (rnds W s t).c) ∧ xd = .int .u32 (n32 (rnds W s t).d) ∧ xe = .int .u32 (n32 (rnds W s t).e) ∧ xf = .int .u32 (n32 (rnds W s t).f) ∧ xg = .int .u32 (n32 (rnds W s t).g) ∧ xh = .int .u32 (n32 (rnds W s t).h)) (fun _ _ _ _ _ _ _ _ i _ => 64 - (intOf i).toNat)
    case atStart => exact ⟨0, by omega, rfl, ⟨_, rfl⟩, rfl, rfl, rfl, rfl, rfl, rfl, rfl, rfl⟩
    case round =>
      obtain ⟨t, ht, rfl, ⟨m, rfl⟩, rfl, rfl, rfl, rfl, rfl, rfl, rfl, rfl⟩ := hrel
      by_cases hlt : t < 64
      · have cK : wc.cell? ⟨g5, t, none⟩ = some (.int .u32 (n32 (KK.getD t 0))) := by
          rw [w5.cell t (by omega)]
          have hk := unhide HK
          subst hk
          simp [List.getD, hKl, hlt]
        have cW : wc.cell? ⟨g6, t, none⟩ = some (.int .u32 (n32 (W.getD t 0))) := by
          rw [w6.cell t (by omega)]
          simp [List.getD, hWl, hlt]
        have hst : Hid (rnds W s (t + 1) = rnd (rnds W s t) (KK.getD t 0) (W.getD t 0)) := rfl
        generalize KK.getD t 0 = kt at *
        generalize W.getD t 0 = wt at *
        generalize rnds W s t = r at *
        have t0 : (0 : Int) ≤ t := by omega
        have t9 : (t : Int) < 64 := by omega
        go_wp2
        go_big_quiet ((go_at_call 87; exact quiet_same2 (turned_e _ _)))
        go_wp2_with (go_at_call 87; refine (turned_a _ _).mono ?_; rintro e w' ⟨rfl, rfl⟩)
        go_roundw
        case rel => exact ⟨t + 1, by omega, by go_num, ⟨_, rfl⟩, by rw [unhide hst, add32]; rfl, by rw [unhide hst]; rfl, by rw [unhide hst]; rfl, by rw [unhide hst]; rfl, by rw [unhide hst, add32]; rfl, by rw [unhide hst]; rfl, by rw [unhide hst]; rfl, by rw [unhide hst]; rfl⟩
        case measure => simp [intOf]; omega
      · have ht64 : t = 64 := by omega
        subst ht64
        have hmx : Hid (mix s B = s.add (rnds W s 64)) := by show _ = _; unfold mix; rw [unhide HW]
        generalize rnds W s 64 = x at *
        have hN' : WordsAt (wc.drewN m) w.heap.size 114 s.list := hN
        have hb' : Below w.heap.size w (wc.drewN m) := below_drewN hb m
        have z1' : (wc.drewN m).heap[w.heap.size + 1 + 1]? = some (.cells Z 114 (0, 0)) := z1
        generalize wc.drewN m = wd at *
        clear hN hb z1 w5 w6 hsp hco hlt ht HC HK HW hWs hKs hWl hKl hB
        go_wp2
        go_loopw [103] (fun i wr => ∃ k : Nat, k ≤ 8 ∧ i = .int .i64 k ∧ WordsAt wr w.heap.size 114 (addTo s.list x.list k) ∧ wr.heap[w.heap.size + 1 + 1]? = some (.cells Z 114 (0, 0)) ∧ Below w.heap.size w wr) (fun i _ => 8 - (intOf i).toNat)
        case atStart => exact ⟨0, by omega, rfl, by rw [addTo_zero]; exact hN', z1', hb'⟩
        case round =>
          clear hN' hb' z1'
          obtain ⟨k, hk, rfl, hw1, z1, hb⟩ := hrel
          by_cases hlt : k < 8
          · have c1 := hw1.cell k (by rw [addTo_length]; exact hlt)
            rw [addTo_get _ _ _ _ hlt (Nat.le_refl _)] at c1
            have f1 := hw1.free k
            have hix : ∀ w, (Instr.index 114 (.agg #[.int .u32 (n32 x.a), .int .u32 (n32 x.b), .int .u32 (n32 x.c), .int .u32 (n32 x.d), .int .u32 (n32 x.e), .int .u32 (n32 x.f), .int .u32 (n32 x.g), .int .u32 (n32 x.h)]) (.int .i64 k)).run Try.prog w = .ok (.int .u32 (n32 (x.list.getD k 0))) w := fun w =>
              run_index_agg (P := Try.prog) 114 96 8 (uc x.list).toArray .i64 k _ Try.underlying114 ⟨_, Try.underlying96, rfl⟩ (by kernel_rfl) hlt (by simp only [List.getElem?_toArray]; rw [getD_of_lt _ _ (by rw [S8.len]; exact hlt)]; exact uc_get _ _ (by rw [S8.len]; exact hlt)) w
            have hst := hide (hw1.set k (s.list.getD k 0 + x.list.getD k 0))
            rw [addTo_step _ _ _ hlt] at hst
            have hst2 : Hid ((wr.setCell ⟨w.heap.size, k, none⟩ (.int .u32 (n32 (s.list.getD k 0 + x.list.getD k 0)))).heap[w.heap.size + 1 + 1]? = some (.cells Z 114 (0, 0))) := (Below.heap_setCell _ _ _ _ (by simp; omega)).trans z1
            have hb2 := hide (hb.setCell (p := ⟨w.heap.size, k, none⟩) (Nat.le_refl _) (.int .u32 (n32 (s.list.getD k 0 + x.list.getD k 0))))
            have hk0 : (0 : Int) ≤ k := by omega
            have hk8 : (k : Int) < 8 := by omega
            clear hw1 z1 hb
            generalize s.list.getD k 0 = sk at *
            generalize x.list.getD k 0 = xk at *
            go_wp2
            go_roundw
            case rel => exact ⟨k + 1, by omega, by go_num, unhide hst, unhide hst2, unhide hb2⟩
            case measure => simp [intOf]; omega
          · have hk8 : k = 8 := by omega
            subst hk8
            rw [addTo_full, ← unhide hmx] at hw1
            have hS1 : (uc (mix s B).list).toArray.size = 8 := by rw [List.size_toArray, uc_length, S8.len]
            have hS2 : (uc (mix s B).list).toArray.all (·.oneCell') = true := all_oneCell_toArray (uc_oneCell _)
            have hth := there_of_block z1
            rw [z2] at hth
            unfold WordsAt at hw1
            generalize hSe : (uc (mix s B).list).toArray = S at *
            have HSE := hide hSe
            have HB := hide hb
            clear hSe hb z1 hmx
            go_wp2_with (first | (refine wpList_load_row rfl 114 (.tmp 2) rfl w.heap.size rfl 114 S (0, 0) _ hw1 Try.underlying114 rfl ?hi2 ?_) | (refine wpList_store_mid rfl 114 (.tmp 4) (.tmp 114) rfl (w.heap.size + 1 + 1) 0 S rfl rfl ?ht3 ?hi3 hS2 ?_))
            case hi2 => rw [hS1]; kernel_rfl
            case ht3 => rw [hS1]; exact hth
            case hi3 => rw [hS1]; kernel_rfl
            refine bodyPost_ret (v := .agg S) ?_ rfl ⟨by rw [unhide HSE], below_setCells (by omega) _ _ _ (unhide HB)⟩
            refine results_cell_mid (P := Try.prog) (fn := Try.f84) (p := 4) (ty := 114) (by kernel_rfl) _ (wr.setCells (w.heap.size + 1 + 1) 0 S.toList) (w.heap.size + 1 + 1) 0 S.toList _ (by rfl) (World.rangeAt_setCells_same _ _ _ _ (by rw [Array.length_toList, hS1]; exact hth)) Try.underlying114 rfl (by rw [Array.length_toList, hS1]; kernel_rfl)
end Go.Proofs.Ytcdnpdmcijiffaa

/- trace: Kinds and Part. -/
import Derived.Test.YthgijdhifhnmfaaTrB
namespace Go.Proofs.Ythgijdhifhnmfaa
open Go.RowKit
set_option linter.unusedVariables false
attribute [local go_sem] Oper.semAt_some

/-- four counts -/
def four (l : List Ev) : Array Value := #[.int .i64 (kn l 0), .int .i64 (kn l 1), .int .i64 (kn l 2), .int .i64 (kn l 3)]
/-- Kinds in its midst: its result's block, and its counts -/
structure KdI (w : World) (a b c d : Int) (wr : World) : Prop where
  r : wr.heap[w.heap.size]? = some (.cells #[.int .i64 0, .int .i64 0, .int .i64 0, .int .i64 0] 40 (0, 0))
  m : wr.heap[w.heap.size + 1]? = some (.cells #[.int .i64 a, .int .i64 b, .int .i64 c, .int .i64 d] 40 (0, 0))
  be : Below w.heap.size w wr
theorem KdI.up {w : World} {a b c d : Int} {x y : World} (h : KdI w a b c d x) (hb : Below x.heap.size x y) : KdI w a b c d y :=
  ⟨(hb.block _ (lt_of_block h.r)).trans h.r, (hb.block _ (lt_of_block h.m)).trans h.m, h.be.trans (hb.mono h.be.size)⟩
theorem kd_start (w : World) : KdI w 0 0 0 0 ((w.alloc (.cells #[.int .i64 0, .int .i64 0, .int .i64 0, .int .i64 0] 40)).alloc (.cells #[.int .i64 0, .int .i64 0, .int .i64 0, .int .i64 0] 40)) := by
  refine ⟨?_, ?_, ((Below.refl _ _).alloc (Nat.le_refl _) _).alloc (by simp) _⟩
  · rw [Below.heap_alloc _ _ _ (by simp)]
    exact heap_alloc_new w _
  · have := heap_alloc_new (w.alloc (.cells #[.int .i64 0, .int .i64 0, .int .i64 0, .int .i64 0] 40)) (.cells #[.int .i64 0, .int .i64 0, .int .i64 0, .int .i64 0] 40)
    simpa using this
theorem KdI.cells {w : World} {a b c d : Int} {x : World} (h : KdI w a b c d x) : x.cell? ⟨w.heap.size + 1, 0, none⟩ = some (.int .i64 a) ∧ x.cell? ⟨w.heap.size + 1, 1, none⟩ = some (.int .i64 b) ∧ x.cell? ⟨w.heap.size + 1, 2, none⟩ = some (.int .i64 c) ∧ x.cell? ⟨w.heap.size + 1, 3, none⟩ = some (.int .i64 d) := by
  have := h.m
  simp [World.cell?, this]
theorem KdI.free {w : World} {a b c d : Int} {x : World} (h : KdI w a b c d x) (j : Nat) : x.frozen? ⟨w.heap.size + 1, j, none⟩ = false := by simp [World.frozen?, h.m]
theorem KdI.set {w : World} {a b c d a' b' c' d' : Int} {x : World} (h : KdI w a b c d x) (j : Nat) (v : Value) (he : (#[.int .i64 a, .int .i64 b, .int .i64 c, .int .i64 d] : Array Value).setIfInBounds j v = #[.int .i64 a', .int .i64 b', .int .i64 c', .int .i64 d']) : KdI w a' b' c' d' (x.setCell ⟨w.heap.size + 1, j, none⟩ v) :=
  ⟨(Below.heap_setCell _ _ _ _ (by show w.heap.size ≠ w.heap.size + 1; omega)).trans h.r, by rw [← he]; exact heap_setCell_same x _ j _ _ _ h.m, ⟨h.be.os, h.be.tape, h.be.output, by simpa using h.be.size, fun i hi => (Below.heap_setCell _ _ _ _ (by show i ≠ w.heap.size + 1; omega)).trans (h.be.block i hi)⟩⟩
theorem results_cell1 {P : Program} {fn : Func} {p : Tmp} {ty : TypeId} (h : fn.results = #[.cell p ty]) (tmps : Array Value) (w : World) (g : Nat) (t : TypeId) (cs : Array Value) (fr : Nat × Nat) (ln : Nat) (el : TypeId)
    (hp : tmps.getD p undef = .pointer (some ⟨g, 0, none⟩)) (hg : w.heap[g]? = some (.cells cs t fr)) (hu : P.underlying ty = some (.array ln el)) (hi : (P.info? ty).map (·.size) = some cs.size) :
    (results fn tmps).run P w = .ok (.agg cs) w := by
  have hp' : tmps[p]?.getD undef = .pointer (some ⟨g, 0, none⟩) := by simpa using hp
  simp [results, h, hp', asAddr, run_loadVar_row w g t ty cs fr _ hg hu rfl hi]
set_option maxRecDepth 100000 in
set_option maxHeartbeats 4000000 in
theorem kinds_any (a0 : Option Addr) (l : List Ev) (c : Nat) (w : World) (hl : EvsAt w a0 l) (hm : l.length ≤ 100000) :
    Calls Try.prog 16 #[.slice a0 l.length c] w fun e w' => e = .returned (.agg (four l)) ∧ Below w.heap.size w w' := by
  have HL := hide hl
  obtain ⟨n, hn⟩ : ∃ n, n = l.length := ⟨_, rfl⟩
  rw [← hn]
  have HN := hide hn
  rw [← hn] at hm
  have HS := hide (kd_start w)
  clear hl hn
  go_enter Try.func16, Try.ntmps16
  go_wp2_with fail
  go_loopw [8] (fun v wr => ∃ k k0 k1 k2 k3 : Nat, k ≤ n ∧ v = .int .i64 k ∧ (k0 = kn (l.take k) 0 ∧ k1 = kn (l.take k) 1 ∧ k2 = kn (l.take k) 2 ∧ k3 = kn (l.take k) 3) ∧ (k0 ≤ k ∧ k1 ≤ k ∧ k2 ≤ k ∧ k3 ≤ k) ∧ KdI w k0 k1 k2 k3 wr) (fun v _ => n - (intOf v).toNat)
  case atStart => exact ⟨0, 0, 0, 0, 0, by omega, rfl, ⟨rfl, rfl, rfl, rfl⟩, by omega, unhide HS⟩
  case round =>
    obtain ⟨k, k0, k1, k2, k3, hk, rfl, hkk, ⟨l0, l1, l2, l3⟩, hI⟩ := hrel
    have HK := hide hkk
    have HI := hide hI
    clear hkk hI HS
    by_cases hlt : k < n
    · have hlt' : k < l.length := by rw [← unhide HN]; exact hlt
      obtain ⟨e, he⟩ : ∃ e, e = l[k] := ⟨_, rfl⟩
      obtain ⟨g, o, rfl, d0, d1, d2⟩ := unhide HL k e (by rw [he]; exact List.getElem?_eq_getElem hlt')
      have c0 := cell_below d0 (unhide HI).be
      have c1 := cell_below d1 (unhide HI).be
      have c2 := cell_below d2 (unhide HI).be
      obtain ⟨m0, m1, m2, m3⟩ := (unhide HI).cells
      have f0 := (unhide HI).free 0
      have f1 := (unhide HI).free 1
      have f2 := (unhide HI).free 2
      have f3 := (unhide HI).free 3
      have hltb := lt_of_block (unhide HI).m
      have HE : Hid (∀ i, kn (l.take (k + 1)) i = kn (l.take k) i + (if kz i e = true then 1 else 0)) := fun i => by
        rw [List.take_succ_eq_append_getElem hlt', ← he, kn_snoc]
      have q1 : (k : Int) < n := by omega
      clear he hlt' d0 d1 d2
      obtain ⟨ek, en, et⟩ := e
      dsimp only at c0 c1 c2
      by_cases h0 : ek < 0
      · have HK2 : Hid (k0 + 1 = kn (l.take (k + 1)) 0 ∧ k1 = kn (l.take (k + 1)) 1 ∧ k2 = kn (l.take (k + 1)) 2 ∧ k3 = kn (l.take (k + 1)) 3) := by
          obtain ⟨e0, e1, e2, e3⟩ := unhide HK
          refine ⟨?_, ?_, ?_, ?_⟩
          · rw [unhide HE 0, ← e0, if_pos (by unfold kz; first | (simp; done) | (simp; omega))]
          · rw [unhide HE 1, ← e1, if_neg (by unfold kz; first | (simp; done) | (simp; omega)), Nat.add_zero]
          · rw [unhide HE 2, ← e2, if_neg (by unfold kz; first | (simp; done) | (simp; omega)), Nat.add_zero]
          · rw [unhide HE 3, ← e3, if_neg (by unfold kz; first | (simp; done) | (simp; omega)), Nat.add_zero]
        have HI2 : Hid (KdI w ((k0 + 1 : Nat) : Int) ((k1 : Nat) : Int) ((k2 : Nat) : Int) ((k3 : Nat) : Int) ((wr.setCell ⟨w.heap.size + 1, 0, none⟩ (.int .i64 ((k0 : Int) + 1))).alloc (.cells #[.int .i64 ek, .int .i64 en, .string et] 47))) := ((unhide HI).set 0 _ rfl).up ((Below.refl _ _).alloc (Nat.le_refl _) _)
        clear HK HE HI
        go_wp2
        go_roundw
        case rel => exact ⟨k + 1, k0 + 1, k1, k2, k3, by omega, by go_num, unhide HK2, by omega, unhide HI2⟩
        case measure => simp [intOf]; omega
      · by_cases h4 : 3 < ek
        · have HK2 : Hid (k0 + 1 = kn (l.take (k + 1)) 0 ∧ k1 = kn (l.take (k + 1)) 1 ∧ k2 = kn (l.take (k + 1)) 2 ∧ k3 = kn (l.take (k + 1)) 3) := by
            obtain ⟨e0, e1, e2, e3⟩ := unhide HK
            refine ⟨?_, ?_, ?_, ?_⟩
            · rw [unhide HE 0, ← e0, if_pos (by unfold kz; first | (simp; done) | (simp; omega))]
            · rw [unhide HE 1, ← e1, if_neg (by unfold kz; first | (simp; done) | (simp; omega)), Nat.add_zero]
            · rw [unhide HE 2, ← e2, if_neg (by unfold kz; first | (simp; done) | (simp; omega)), Nat.add_zero]
            · rw [unhide HE 3, ← e3, if_neg (by unfold kz; first | (simp; done) | (simp; omega)), Nat.add_zero]
          have HI2 : Hid (KdI w ((k0 + 1 : Nat) : Int) ((k1 : Nat) : Int) ((k2 : Nat) : Int) ((k3 : Nat) : Int) ((wr.setCell ⟨w.heap.size + 1, 0, none⟩ (.int .i64 ((k0 : Int) + 1))).alloc (.cells #[.int .i64 ek, .int .i64 en, .string et] 47))) := ((unhide HI).set 0 _ rfl).up ((Below.refl _ _).alloc (Nat.le_refl _) _)
          clear HK HE HI
          go_wp2
          go_roundw
          case rel => exact ⟨k + 1, k0 + 1, k1, k2, k3, by omega, by go_num, unhide HK2, by omega, unhide HI2⟩
          case measure => simp [intOf]; omega
        · obtain rfl | rfl | rfl | rfl : ek = 0 ∨ ek = 1 ∨ ek = 2 ∨ ek = 3 := by omega
          · have HK2 : Hid (k0 + 1 = kn (l.take (k + 1)) 0 ∧ k1 = kn (l.take (k + 1)) 1 ∧ k2 = kn (l.take (k + 1)) 2 ∧ k3 = kn (l.take (k + 1)) 3) := by
              obtain ⟨e0, e1, e2, e3⟩ := unhide HK
              refine ⟨?_, ?_, ?_, ?_⟩
              · rw [unhide HE 0, ← e0, if_pos (by unfold kz; first | (simp; done) | (simp; omega))]
              · rw [unhide HE 1, ← e1, if_neg (by unfold kz; first | (simp; done) | (simp; omega)), Nat.add_zero]
              · rw [unhide HE 2, ← e2, if_neg (by unfold kz; first | (simp; done) | (simp; omega)), Nat.add_zero]
              · rw [unhide HE 3, ← e3, if_neg (by unfold kz; first | (simp; done) | (simp; omega)), Nat.add_zero]
            have HI2 : Hid (KdI w ((k0 + 1 : Nat) : Int) ((k1 : Nat) : Int) ((k2 : Nat) : Int) ((k3 : Nat) : Int) ((wr.setCell ⟨w.heap.size + 1, 0, none⟩ (.int .i64 ((k0 : Int) + 1))).alloc (.cells #[.int .i64 0, .int .i64 en, .string et] 47))) := ((unhide HI).set 0 _ rfl).up ((Below.refl _ _).alloc (Nat.le_refl _) _)
            clear HK HE HI
            go_wp2
            go_roundw
            case rel => exact ⟨k + 1, k0 + 1, k1, k2, k3, by omega, by go_num, unhide HK2, by omega, unhide HI2⟩
            case measure => simp [intOf]; omega
          · have HK2 : Hid (k0 = kn (l.take (k + 1)) 0 ∧ k1 + 1 = kn (l.take (k + 1)) 1 ∧ k2 = kn (l.take (k + 1)) 2 ∧ k3 = kn (l.take (k + 1)) 3) := by
              obtain ⟨e0, e1, e2, e3⟩ := unhide HK
              refine ⟨?_, ?_, ?_, ?_⟩
              · rw [unhide HE 0, ← e0, if_neg (by unfold kz; first | (simp; done) | (simp; omega)), Nat.add_zero]
              · rw [unhide HE 1, ← e1, if_pos (by unfold kz; first | (simp; done) | (simp; omega))]
              · rw [unhide HE 2, ← e2, if_neg (by unfold kz; first | (simp; done) | (simp; omega)), Nat.add_zero]
              · rw [unhide HE 3, ← e3, if_neg (by unfold kz; first | (simp; done) | (simp; omega)), Nat.add_zero]
            have HI2 : Hid (KdI w ((k0 : Nat) : Int) ((k1 + 1 : Nat) : Int) ((k2 : Nat) : Int) ((k3 : Nat) : Int) ((wr.setCell ⟨w.heap.size + 1, 1, none⟩ (.int .i64 ((k1 : Int) + 1))).alloc (.cells #[.int .i64 1, .int .i64 en, .string et] 47))) := ((unhide HI).set 1 _ rfl).up ((Below.refl _ _).alloc (Nat.le_refl _) _)
            clear HK HE HI
            go_wp2
            go_roundw
            case rel => exact ⟨k + 1, k0, k1 + 1, k2, k3, by omega, by go_num, unhide HK2, by omega, unhide HI2⟩
            case measure => simp [intOf]; omega
          · have HK2 : Hid (k0 = kn (l.take (k + 1)) 0 ∧ k1 = kn (l.take (k + 1)) 1 ∧ k2 + 1 = kn (l.take (k + 1)) 2 ∧ k3 = kn (l.take (k + 1)) 3) := by
              obtain ⟨e0, e1, e2, e3⟩ := unhide HK
              refine ⟨?_, ?_, ?_, ?_⟩
              · rw [unhide HE 0, ← e0, if_neg (by unfold kz; first | (simp; done) | (simp; omega)), Nat.add_zero]
              · rw [unhide HE 1, ← e1, if_neg (by unfold kz; first | (simp; done) | (simp; omega)), Nat.add_zero]
              · rw [unhide HE 2, ← e2, if_pos (by unfold kz; first | (simp; done) | (simp; omega))]
              · rw [unhide HE 3, ← e3, if_neg (by unfold kz; first | (simp; done) | (simp; omega)), Nat.add_zero]
            have HI2 : Hid (KdI w ((k0 : Nat) : Int) ((k1 : Nat) : Int) ((k2 + 1 : Nat) : Int) ((k3 : Nat) : Int) ((wr.setCell ⟨w.heap.size + 1, 2, none⟩ (.int .i64 ((k2 : Int) + 1))).alloc (.cells #[.int .i64 2, .int .i64 en, .string et] 47))) := ((unhide HI).set 2 _ rfl).up ((Below.refl _ _).alloc (Nat.le_refl _) _)
            clear HK HE HI
            go_wp2
            go_roundw
            case rel => exact ⟨k + 1, k0, k1, k2 + 1, k3, by omega, by go_num, unhide HK2, by omega, unhide HI2⟩
            case measure => simp [intOf]; omega
          · have HK2 : Hid (k0 = kn (l.take (k + 1)) 0 ∧ k1 = kn (l.take (k + 1)) 1 ∧ k2 = kn (l.take (k + 1)) 2 ∧ k3 + 1 = kn (l.take (k + 1)) 3) := by
              obtain ⟨e0, e1, e2, e3⟩ := unhide HK
              refine ⟨?_, ?_, ?_, ?_⟩
              · rw [unhide HE 0, ← e0, if_neg (by unfold kz; first | (simp; done) | (simp; omega)), Nat.add_zero]
              · rw [unhide HE 1, ← e1, if_neg (by unfold kz; first | (simp; done) | (simp; omega)), Nat.add_zero]
              · rw [unhide HE 2, ← e2, if_neg (by unfold kz; first | (simp; done) | (simp; omega)), Nat.add_zero]
              · rw [unhide HE 3, ← e3, if_pos (by unfold kz; first | (simp; done) | (simp; omega))]
            have HI2 : Hid (KdI w ((k0 : Nat) : Int) ((k1 : Nat) : Int) ((k2 : Nat) : Int) ((k3 + 1 : Nat) : Int) ((wr.setCell ⟨w.heap.size + 1, 3, none⟩ (.int .i64 ((k3 : Int) + 1))).alloc (.cells #[.int .i64 3, .int .i64 en, .string et] 47))) := ((unhide HI).set 3 _ rfl).up ((Below.refl _ _).alloc (Nat.le_refl _) _)
            clear HK HE HI
            go_wp2
            go_roundw
            case rel => exact ⟨k + 1, k0, k1, k2, k3 + 1, by omega, by go_num, unhide HK2, by omega, unhide HI2⟩
            case measure => simp [intOf]; omega
    · have hkn : k = n := by omega
      have q1 : ¬ (k : Int) < n := by omega
      have HF : Hid (four l = #[.int .i64 (k0 : Nat), .int .i64 (k1 : Nat), .int .i64 (k2 : Nat), .int .i64 (k3 : Nat)]) := by
        obtain ⟨e0, e1, e2, e3⟩ := unhide HK
        show four l = _
        unfold four
        rw [e0, e1, e2, e3, hkn, unhide HN, List.take_length]
      have HI3 : Hid (∀ W, W = wr.setRow w.heap.size #[.int .i64 (k0 : Nat), .int .i64 (k1 : Nat), .int .i64 (k2 : Nat), .int .i64 (k3 : Nat)] → W.heap[w.heap.size]? = some (.cells #[.int .i64 (k0 : Nat), .int .i64 (k1 : Nat), .int .i64 (k2 : Nat), .int .i64 (k3 : Nat)] 40 (0, 0)) ∧ Below w.heap.size w W) := fun W hW => by
        rw [hW]
        have b := (unhide HI).be
        exact ⟨setRow_heap wr _ _ _ _ _ (unhide HI).r, ⟨b.os, b.tape, b.output, by simpa using b.size, fun i hi => (setRow_other wr _ i _ (by omega)).trans (b.block i hi)⟩⟩
      have HM := hide (unhide HI).m
      have HR := hide (unhide HI).r
      clear hkn HK HI
      go_wp2_with (first
        | (refine wpList_load_row rfl 40 (.tmp 3) rfl (w.heap.size + 1) rfl 40 #[.int .i64 (k0 : Nat), .int .i64 (k1 : Nat), .int .i64 (k2 : Nat), .int .i64 (k3 : Nat)] (0, 0) _ (unhide HM) Try.underlying40 rfl (by kernel_rfl) ?_)
        | (refine wpList_store_row rfl 40 (.tmp 2) (.tmp 31) rfl w.heap.size _ rfl rfl 40 _ (unhide HR) (by kernel_rfl) rfl (by simp [Value.oneCell']) ?_))
      obtain ⟨W, hW⟩ : ∃ W, W = wr.setRow w.heap.size #[.int .i64 (k0 : Nat), .int .i64 (k1 : Nat), .int .i64 (k2 : Nat), .int .i64 (k3 : Nat)] := ⟨_, rfl⟩
      obtain ⟨r1, r2⟩ := unhide HI3 W hW
      rw [← hW]
      go_wp2
      exact bodyPost_ret (results_cell1 (p := 2) (ty := 40) (by kernel_rfl) _ W w.heap.size 40 _ (0, 0) _ _ rfl r1 Try.underlying40 (by kernel_rfl)) rfl ⟨by rw [unhide HF], r2⟩
end Go.Proofs.Ythgijdhifhnmfaa

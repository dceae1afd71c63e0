/- choke: the document's Top. -/
import Derived.Test.YtjndgglbapghhaaClA
import Derived.Test.YtjndgglbapghhaaCkS
namespace Go.Proofs.Ytjndgglbapghhaa
open Go.RowKit Go.Sort
set_option linter.unusedVariables false
attribute [local go_sem] Oper.semAt_some

/-- how many that want stand ahead of one -/
def cnt (x y : Int) (p : Pr) (l : List Pr) : Nat := (l.filter fun q => q.wa && ahP x y q p).length
def topP (x y : Int) (s : Nat) (l : List Pr) (p : Pr) : Bool := p.wa && decide (cnt x y p l < s)
theorem dTop_eq (x y : Int) (s : Nat) (l : List Pr) : dTop x y s l = l.filter (topP x y s l) := rfl
theorem cnt_snoc (x y : Int) (p : Pr) (l : List Pr) (k : Nat) (h : k < l.length) : cnt x y p (l.take (k + 1)) = cnt x y p (l.take k) + (if l[k].wa && ahP x y l[k] p then 1 else 0) := by
  unfold cnt
  rw [List.take_succ_eq_append_getElem h, List.filter_append, List.length_append, List.filter_cons, List.filter_nil]
  split <;> rfl
theorem cnt_le (x y : Int) (p : Pr) (l : List Pr) (k : Nat) : cnt x y p (l.take k) ≤ k := by
  unfold cnt
  refine Nat.le_trans (List.length_filter_le _ _) ?_
  rw [List.length_take]
  omega
set_option maxRecDepth 100000 in
set_option maxHeartbeats 8000000 in
theorem dtop_any (a0 : Option Addr) (l : List Pr) (c s : Nat) (x y : Int) (w : World) (hl : PrsAt w a0 l) (hm : l.length ≤ 1000) (hs : s ≤ 8) :
    Calls Try.prog 16 #[.slice a0 l.length c, .int .i64 s, rv x y] w fun e w' => ∃ v, e = .returned v ∧ TopR w v (ndL (dTop x y s l)) w' := by
  rw [dTop_eq]
  have HL := hide hl
  have hah := hide (fun a b W => dahead_any x y a b W)
  obtain ⟨k0, hki, hkz0, hkz1, hkz2⟩ := info_parts Try.infoI
  obtain ⟨W0, hW0⟩ : ∃ W0, W0 = w.alloc (.cells #[.int .i64 x, .int .i64 y] 37) := ⟨_, rfl⟩
  have hsz : W0.heap.size = w.heap.size + 1 := by rw [hW0]; simp
  have hB0 : Below w.heap.size w W0 := by rw [hW0]; exact (Below.refl _ w).alloc (Nat.le_refl _) _
  have hT0 : Two W0 w.heap.size (.int .i64 x) (.int .i64 y) 37 := by rw [hW0]; exact two_alloc _ _ _ _
  have HB0 := hide hB0
  have HT0 := hide hT0
  have HSZ := hide hsz
  have HW0 := hide hW0
  have HT : Hid (∀ W, Below (w.heap.size + 1) W0 W → W.cell? ⟨w.heap.size, 0, none⟩ = some (.int .i64 x) ∧ W.cell? ⟨w.heap.size, 1, none⟩ = some (.int .i64 y) ∧ w.heap.size < W.heap.size) := fun W hW => by
    have h := (unhide HT0).below hW (by omega)
    exact ⟨h.c0, h.c1, h.lt⟩
  have HBW : Hid (∀ W, Below (w.heap.size + 1) W0 W → Below w.heap.size w W) := fun W hW => (unhide HB0).trans (hW.mono (by omega))
  clear hl hsz hB0 hT0 hW0
  obtain ⟨n, hn⟩ : ∃ n, n = l.length := ⟨_, rfl⟩
  rw [← hn] at hm ⊢
  have HN := hide hn
  clear hn
  unfold rv at hah ⊢
  go_enter Try.func16, Try.ntmps16
  go_wp2_with fail
  rw [← unhide HW0]
  clear HW0
  go_loopw [7, 8] (fun lv kv wr => ∃ (k m : Nat) (a : Option Addr) (c : Nat), k ≤ n ∧ m ≤ k ∧ kv = .int .i64 k ∧ lv = .slice a m c ∧ (ndL ((l.take k).filter (topP x y s l))).length = m ∧ OwnI wr (w.heap.size + 1) lv (ndL ((l.take k).filter (topP x y s l))) ∧ Below (w.heap.size + 1) W0 wr) (fun _ kv _ => n - (intOf kv).toNat)
  case atStart => exact ⟨0, 0, none, 0, by omega, by omega, rfl, rfl, rfl, World.ownsRow_nil _ _ _ _, Below.refl _ _⟩
  case round =>
    obtain ⟨k, m, a, c2, hk, hmk, rfl, rfl, hlen, hO, hB⟩ := hrel
    obtain ⟨wo, rfl⟩ : ∃ z, z = wr := ⟨_, rfl⟩
    have HTL := hide hlen
    have HR := hide hO
    have HB := hide hB
    clear hO hB hlen
    by_cases hlt : k < n
    · have hlt' : k < l.length := by rw [← unhide HN]; exact hlt
      obtain ⟨p, hp⟩ : ∃ p, p = l[k] := ⟨_, rfl⟩
      obtain ⟨g, o, rfl, hgl, hra⟩ := prs_range (unhide HL) (unhide HBW _ (unhide HB)) (i := k) (p := p) (by rw [hp]; exact List.getElem?_eq_getElem hlt')
      have HRA : Hid (∀ W, Below wo.heap.size wo W → W.rangeAt g (o + k * 10) p.cl) := fun W hW j v hv => cell_below (hra j v hv) hW
      have HE : Hid (ndL ((l.take (k + 1)).filter (topP x y s l)) = ndL ((l.take k).filter (topP x y s l)) ++ (if topP x y s l p then [p.nd] else [])) := by
        show _ = _
        rw [hp]
        exact fl_snoc _ l k hlt'
      have q1 : (k : Int) < n := by omega
      clear hra hlt' hp hgl
      go_wp2_with fail
      go_loopw [9, 10] (fun nv jv wr => ∃ j : Nat, j ≤ n ∧ jv = .int .i64 j ∧ nv = .int .i64 (cnt x y p (l.take j) : Nat) ∧ Below wo.heap.size wo wr) (fun _ jv _ => n - (intOf jv).toNat)
      case atStart => exact ⟨0, by omega, rfl, by rw [List.take_zero]; rfl, Below.refl _ _⟩
      case round =>
        obtain ⟨j, hj, rfl, rfl, hBq⟩ := hrel
        have HBQ := hide hBq
        have hcl := cnt_le x y p l j
        have HBJ := hide ((unhide HB).trans (hBq.mono (by have := (unhide HB).size; have := unhide HSZ; omega)))
        have hkr := unhide HRA wr hBq
        have HK := hide hkr
        clear hBq hkr
        by_cases hlj : j < n
        · have hlj' : j < l.length := by rw [← unhide HN]; exact hlj
          obtain ⟨r, hr⟩ : ∃ r, r = l[j] := ⟨_, rfl⟩
          obtain ⟨g', o', e, hgl, hra⟩ := prs_range (unhide HL) (unhide HBW _ (unhide HBJ)) (i := j) (p := r) (by rw [hr]; exact List.getElem?_eq_getElem hlj')
          cases e
          have hcs := cnt_snoc x y p l j hlj'
          rw [← hr] at hcs
          have HCS := hide hcs
          have HJ := hide hra
          have qj : (j : Int) < n := by omega
          have HAH := hide (fun W => unhide hah r p W)
          have HRW : Hid (∀ v, r.cl[4]? = some v → v = .bool r.wa) := fun v hv => (Option.some.inj hv).symm
          generalize cnt x y p (l.take j) = C0 at *
          generalize ahP x y r p = A at *
          obtain ⟨t0, t1, tl⟩ := unhide HT wr (unhide HBJ)
          have HT0 := hide t0
          have HT1 := hide t1
          clear hra hlj' hr hcs t0 t1
          obtain ⟨nd, px, py, hv, wa, op, os, se, nw, ra⟩ := r
          obtain ⟨nd', px', py', hv', wa', op', os', se', nw', ra'⟩ := p
          have HPS : Hid True := trivial
          dsimp only [Pr.cl] at HK HJ HAH HCS
          cases wa with
          | false =>
            go_wp2_with fail
            refine wp_region_grB (by kernel_rfl) (by kernel_rfl) ?_
            have hne := gb_ne wr
            have p0 : ∀ z : Gb wr, z.w.cell? ⟨g, o + j * 10, none⟩ = some (.int .i64 nd) := fun z => gb_cell (unhide HJ 0 _ rfl) z
            have p1 : ∀ z : Gb wr, z.w.cell? ⟨g, o + j * 10 + 1, none⟩ = some (.int .i64 px) := fun z => gb_cell (unhide HJ 1 _ rfl) z
            have p2 : ∀ z : Gb wr, z.w.cell? ⟨g, o + j * 10 + 2, none⟩ = some (.int .i64 py) := fun z => gb_cell (unhide HJ 2 _ rfl) z
            have p3 : ∀ z : Gb wr, z.w.cell? ⟨g, o + j * 10 + 3, none⟩ = some (.string hv) := fun z => gb_cell (unhide HJ 3 _ rfl) z
            have p4 : ∀ z : Gb wr, z.w.cell? ⟨g, o + j * 10 + 4, none⟩ = some (.bool false) := fun z => gb_cell (unhide HJ 4 _ rfl) z
            have p5 : ∀ z : Gb wr, z.w.cell? ⟨g, o + j * 10 + 5, none⟩ = some (.bool op) := fun z => gb_cell (unhide HJ 5 _ rfl) z
            have p6 : ∀ z : Gb wr, z.w.cell? ⟨g, o + j * 10 + 6, none⟩ = some (.bool os) := fun z => gb_cell (unhide HJ 6 _ rfl) z
            have p7 : ∀ z : Gb wr, z.w.cell? ⟨g, o + j * 10 + 7, none⟩ = some (.int .i64 se) := fun z => gb_cell (unhide HJ 7 _ rfl) z
            have p8 : ∀ z : Gb wr, z.w.cell? ⟨g, o + j * 10 + 8, none⟩ = some (.int .i64 nw) := fun z => gb_cell (unhide HJ 8 _ rfl) z
            have p9 : ∀ z : Gb wr, z.w.cell? ⟨g, o + j * 10 + 9, none⟩ = some (.int .i64 ra) := fun z => gb_cell (unhide HJ 9 _ rfl) z
            have s0 : ∀ z : Gb wr, z.w.cell? ⟨g, o + k * 10, none⟩ = some (.int .i64 nd') := fun z => gb_cell (unhide HK 0 _ rfl) z
            have s1 : ∀ z : Gb wr, z.w.cell? ⟨g, o + k * 10 + 1, none⟩ = some (.int .i64 px') := fun z => gb_cell (unhide HK 1 _ rfl) z
            have s2 : ∀ z : Gb wr, z.w.cell? ⟨g, o + k * 10 + 2, none⟩ = some (.int .i64 py') := fun z => gb_cell (unhide HK 2 _ rfl) z
            have s3 : ∀ z : Gb wr, z.w.cell? ⟨g, o + k * 10 + 3, none⟩ = some (.string hv') := fun z => gb_cell (unhide HK 3 _ rfl) z
            have s4 : ∀ z : Gb wr, z.w.cell? ⟨g, o + k * 10 + 4, none⟩ = some (.bool wa') := fun z => gb_cell (unhide HK 4 _ rfl) z
            have s5 : ∀ z : Gb wr, z.w.cell? ⟨g, o + k * 10 + 5, none⟩ = some (.bool op') := fun z => gb_cell (unhide HK 5 _ rfl) z
            have s6 : ∀ z : Gb wr, z.w.cell? ⟨g, o + k * 10 + 6, none⟩ = some (.bool os') := fun z => gb_cell (unhide HK 6 _ rfl) z
            have s7 : ∀ z : Gb wr, z.w.cell? ⟨g, o + k * 10 + 7, none⟩ = some (.int .i64 se') := fun z => gb_cell (unhide HK 7 _ rfl) z
            have s8 : ∀ z : Gb wr, z.w.cell? ⟨g, o + k * 10 + 8, none⟩ = some (.int .i64 nw') := fun z => gb_cell (unhide HK 8 _ rfl) z
            have s9 : ∀ z : Gb wr, z.w.cell? ⟨g, o + k * 10 + 9, none⟩ = some (.int .i64 ra') := fun z => gb_cell (unhide HK 9 _ rfl) z
            have t0 : ∀ z : Gb wr, _ := fun z => gb_cell (unhide HT0) z
            have t1 : ∀ z : Gb wr, _ := fun z => gb_cell (unhide HT1) z
            repeat (go_big_quiet_step ((go_at_call 35; exact gb_call (unhide HAH _))))
            refine wpQuiet_nil ?_
            rintro w7 ⟨⟨_, b7⟩, rfl⟩
            have B7 := hide ((unhide HBQ).trans (b7.mono (unhide HBQ).size))
            clear b7 hne p0 s0 p1 s1 p2 s2 p3 s3 p4 s4 p5 s5 p6 s6 p7 s7 p8 s8 p9 s9 t0 t1 HK HJ HT0 HT1 HBQ HBJ HAH
            have HC := hide ((unhide HCS).trans (show _ = C0 by simp))
            go_wp2
            go_roundw
            case rel => exact ⟨j + 1, by omega, by go_num, by rw [unhide HC]; first | done | go_num, unhide B7⟩
            case measure => simp [intOf]; omega
          | true =>
          cases A with
          | false =>
            go_wp2_with fail
            refine wp_region_grB (by kernel_rfl) (by kernel_rfl) ?_
            have hne := gb_ne wr
            have p0 : ∀ z : Gb wr, z.w.cell? ⟨g, o + j * 10, none⟩ = some (.int .i64 nd) := fun z => gb_cell (unhide HJ 0 _ rfl) z
            have p1 : ∀ z : Gb wr, z.w.cell? ⟨g, o + j * 10 + 1, none⟩ = some (.int .i64 px) := fun z => gb_cell (unhide HJ 1 _ rfl) z
            have p2 : ∀ z : Gb wr, z.w.cell? ⟨g, o + j * 10 + 2, none⟩ = some (.int .i64 py) := fun z => gb_cell (unhide HJ 2 _ rfl) z
            have p3 : ∀ z : Gb wr, z.w.cell? ⟨g, o + j * 10 + 3, none⟩ = some (.string hv) := fun z => gb_cell (unhide HJ 3 _ rfl) z
            have p4 : ∀ z : Gb wr, z.w.cell? ⟨g, o + j * 10 + 4, none⟩ = some (.bool true) := fun z => gb_cell (unhide HJ 4 _ rfl) z
            have p5 : ∀ z : Gb wr, z.w.cell? ⟨g, o + j * 10 + 5, none⟩ = some (.bool op) := fun z => gb_cell (unhide HJ 5 _ rfl) z
            have p6 : ∀ z : Gb wr, z.w.cell? ⟨g, o + j * 10 + 6, none⟩ = some (.bool os) := fun z => gb_cell (unhide HJ 6 _ rfl) z
            have p7 : ∀ z : Gb wr, z.w.cell? ⟨g, o + j * 10 + 7, none⟩ = some (.int .i64 se) := fun z => gb_cell (unhide HJ 7 _ rfl) z
            have p8 : ∀ z : Gb wr, z.w.cell? ⟨g, o + j * 10 + 8, none⟩ = some (.int .i64 nw) := fun z => gb_cell (unhide HJ 8 _ rfl) z
            have p9 : ∀ z : Gb wr, z.w.cell? ⟨g, o + j * 10 + 9, none⟩ = some (.int .i64 ra) := fun z => gb_cell (unhide HJ 9 _ rfl) z
            have s0 : ∀ z : Gb wr, z.w.cell? ⟨g, o + k * 10, none⟩ = some (.int .i64 nd') := fun z => gb_cell (unhide HK 0 _ rfl) z
            have s1 : ∀ z : Gb wr, z.w.cell? ⟨g, o + k * 10 + 1, none⟩ = some (.int .i64 px') := fun z => gb_cell (unhide HK 1 _ rfl) z
            have s2 : ∀ z : Gb wr, z.w.cell? ⟨g, o + k * 10 + 2, none⟩ = some (.int .i64 py') := fun z => gb_cell (unhide HK 2 _ rfl) z
            have s3 : ∀ z : Gb wr, z.w.cell? ⟨g, o + k * 10 + 3, none⟩ = some (.string hv') := fun z => gb_cell (unhide HK 3 _ rfl) z
            have s4 : ∀ z : Gb wr, z.w.cell? ⟨g, o + k * 10 + 4, none⟩ = some (.bool wa') := fun z => gb_cell (unhide HK 4 _ rfl) z
            have s5 : ∀ z : Gb wr, z.w.cell? ⟨g, o + k * 10 + 5, none⟩ = some (.bool op') := fun z => gb_cell (unhide HK 5 _ rfl) z
            have s6 : ∀ z : Gb wr, z.w.cell? ⟨g, o + k * 10 + 6, none⟩ = some (.bool os') := fun z => gb_cell (unhide HK 6 _ rfl) z
            have s7 : ∀ z : Gb wr, z.w.cell? ⟨g, o + k * 10 + 7, none⟩ = some (.int .i64 se') := fun z => gb_cell (unhide HK 7 _ rfl) z
            have s8 : ∀ z : Gb wr, z.w.cell? ⟨g, o + k * 10 + 8, none⟩ = some (.int .i64 nw') := fun z => gb_cell (unhide HK 8 _ rfl) z
            have s9 : ∀ z : Gb wr, z.w.cell? ⟨g, o + k * 10 + 9, none⟩ = some (.int .i64 ra') := fun z => gb_cell (unhide HK 9 _ rfl) z
            have t0 : ∀ z : Gb wr, _ := fun z => gb_cell (unhide HT0) z
            have t1 : ∀ z : Gb wr, _ := fun z => gb_cell (unhide HT1) z
            repeat (go_big_quiet_step ((go_at_call 35; exact gb_call (unhide HAH _))))
            refine wpQuiet_nil ?_
            rintro w7 ⟨⟨_, b7⟩, rfl⟩
            have B7 := hide ((unhide HBQ).trans (b7.mono (unhide HBQ).size))
            clear b7 hne p0 s0 p1 s1 p2 s2 p3 s3 p4 s4 p5 s5 p6 s6 p7 s7 p8 s8 p9 s9 t0 t1 HK HJ HT0 HT1 HBQ HBJ HAH
            have HC := hide ((unhide HCS).trans (show _ = C0 by simp))
            go_wp2
            go_roundw
            case rel => exact ⟨j + 1, by omega, by go_num, by rw [unhide HC]; first | done | go_num, unhide B7⟩
            case measure => simp [intOf]; omega
          | true =>
            go_wp2_with fail
            refine wp_region_grB (by kernel_rfl) (by kernel_rfl) ?_
            have hne := gb_ne wr
            have p0 : ∀ z : Gb wr, z.w.cell? ⟨g, o + j * 10, none⟩ = some (.int .i64 nd) := fun z => gb_cell (unhide HJ 0 _ rfl) z
            have p1 : ∀ z : Gb wr, z.w.cell? ⟨g, o + j * 10 + 1, none⟩ = some (.int .i64 px) := fun z => gb_cell (unhide HJ 1 _ rfl) z
            have p2 : ∀ z : Gb wr, z.w.cell? ⟨g, o + j * 10 + 2, none⟩ = some (.int .i64 py) := fun z => gb_cell (unhide HJ 2 _ rfl) z
            have p3 : ∀ z : Gb wr, z.w.cell? ⟨g, o + j * 10 + 3, none⟩ = some (.string hv) := fun z => gb_cell (unhide HJ 3 _ rfl) z
            have p4 : ∀ z : Gb wr, z.w.cell? ⟨g, o + j * 10 + 4, none⟩ = some (.bool true) := fun z => gb_cell (unhide HJ 4 _ rfl) z
            have p5 : ∀ z : Gb wr, z.w.cell? ⟨g, o + j * 10 + 5, none⟩ = some (.bool op) := fun z => gb_cell (unhide HJ 5 _ rfl) z
            have p6 : ∀ z : Gb wr, z.w.cell? ⟨g, o + j * 10 + 6, none⟩ = some (.bool os) := fun z => gb_cell (unhide HJ 6 _ rfl) z
            have p7 : ∀ z : Gb wr, z.w.cell? ⟨g, o + j * 10 + 7, none⟩ = some (.int .i64 se) := fun z => gb_cell (unhide HJ 7 _ rfl) z
            have p8 : ∀ z : Gb wr, z.w.cell? ⟨g, o + j * 10 + 8, none⟩ = some (.int .i64 nw) := fun z => gb_cell (unhide HJ 8 _ rfl) z
            have p9 : ∀ z : Gb wr, z.w.cell? ⟨g, o + j * 10 + 9, none⟩ = some (.int .i64 ra) := fun z => gb_cell (unhide HJ 9 _ rfl) z
            have s0 : ∀ z : Gb wr, z.w.cell? ⟨g, o + k * 10, none⟩ = some (.int .i64 nd') := fun z => gb_cell (unhide HK 0 _ rfl) z
            have s1 : ∀ z : Gb wr, z.w.cell? ⟨g, o + k * 10 + 1, none⟩ = some (.int .i64 px') := fun z => gb_cell (unhide HK 1 _ rfl) z
            have s2 : ∀ z : Gb wr, z.w.cell? ⟨g, o + k * 10 + 2, none⟩ = some (.int .i64 py') := fun z => gb_cell (unhide HK 2 _ rfl) z
            have s3 : ∀ z : Gb wr, z.w.cell? ⟨g, o + k * 10 + 3, none⟩ = some (.string hv') := fun z => gb_cell (unhide HK 3 _ rfl) z
            have s4 : ∀ z : Gb wr, z.w.cell? ⟨g, o + k * 10 + 4, none⟩ = some (.bool wa') := fun z => gb_cell (unhide HK 4 _ rfl) z
            have s5 : ∀ z : Gb wr, z.w.cell? ⟨g, o + k * 10 + 5, none⟩ = some (.bool op') := fun z => gb_cell (unhide HK 5 _ rfl) z
            have s6 : ∀ z : Gb wr, z.w.cell? ⟨g, o + k * 10 + 6, none⟩ = some (.bool os') := fun z => gb_cell (unhide HK 6 _ rfl) z
            have s7 : ∀ z : Gb wr, z.w.cell? ⟨g, o + k * 10 + 7, none⟩ = some (.int .i64 se') := fun z => gb_cell (unhide HK 7 _ rfl) z
            have s8 : ∀ z : Gb wr, z.w.cell? ⟨g, o + k * 10 + 8, none⟩ = some (.int .i64 nw') := fun z => gb_cell (unhide HK 8 _ rfl) z
            have s9 : ∀ z : Gb wr, z.w.cell? ⟨g, o + k * 10 + 9, none⟩ = some (.int .i64 ra') := fun z => gb_cell (unhide HK 9 _ rfl) z
            have t0 : ∀ z : Gb wr, _ := fun z => gb_cell (unhide HT0) z
            have t1 : ∀ z : Gb wr, _ := fun z => gb_cell (unhide HT1) z
            repeat (go_big_quiet_step ((go_at_call 35; exact gb_call (unhide HAH _))))
            refine wpQuiet_nil ?_
            rintro w7 ⟨⟨_, b7⟩, rfl⟩
            have B7 := hide ((unhide HBQ).trans (b7.mono (unhide HBQ).size))
            clear b7 hne p0 s0 p1 s1 p2 s2 p3 s3 p4 s4 p5 s5 p6 s6 p7 s7 p8 s8 p9 s9 t0 t1 HK HJ HT0 HT1 HBQ HBJ HAH
            have HC := hide ((unhide HCS).trans (show _ = C0 + 1 by simp))
            go_wp2
            go_roundw
            case rel => exact ⟨j + 1, by omega, by go_num, by rw [unhide HC]; first | done | go_num, unhide B7⟩
            case measure => simp [intOf]; omega
        · have hjn : j = n := by omega
          have qj : ¬ (j : Int) < n := by omega
          have HCN : Hid (cnt x y p (l.take j) = cnt x y p l) := by
            show _ = _
            rw [show l.take j = l by rw [hjn, unhide HN, List.take_length]]
          have HTP : Hid (topP x y s l p = (p.wa && decide (cnt x y p (l.take j) < s))) := by
            show _ = _
            rw [unhide HCN]
            rfl
          rw [unhide HTP] at HE
          generalize cnt x y p (l.take j) = C0 at *
          have hww : w.heap.size + 1 ≤ wr.heap.size := Nat.le_trans (by have := (unhide HSZ); have := (unhide HBJ).size; omega) (Nat.le_refl _)
          have HR2 := hide (own_i_up (unhide HR) (unhide HBQ))
          have HO2 : Hid (∀ o, (wr.alloc o).ownsRow (w.heap.size + 1) 3 1 (.slice a m c2) m (ic (ndL ((l.take k).filter (topP x y s l))))) := fun o => by
            have := own_i_up (unhide HR2) ((Below.refl wr.heap.size wr).alloc (Nat.le_refl _) o)
            unfold OwnI at this
            rw [unhide HTL] at this
            exact this
          have HG2 := hide (fun z (hz : (Value.slice a m c2).ownBlock = some z) => own_i_ge (unhide HR2) hz)
          generalize ndL ((l.take k).filter (topP x y s l)) = T0 at *
          obtain ⟨T1, hT1⟩ : ∃ T, T = ndL ((l.take (k + 1)).filter (topP x y s l)) := ⟨_, rfl⟩
          rw [← hT1] at HE
          have HT1 := hide hT1
          clear hT1
          have u0 : wr.cell? ⟨g, o + k * 10, none⟩ = some (.int .i64 p.nd) := unhide HK 0 _ rfl
          have u4 : wr.cell? ⟨g, o + k * 10 + 4, none⟩ = some (.bool p.wa) := unhide HK 4 _ rfl
          generalize p.nd = nd at *
          generalize p.wa = wa at *
          clear hjn HCN HTP HK HRA
          cases wa with
          | false =>
            have HE2 : Hid (T1 = T0) := (unhide HE).trans (by simp)
            have HF : Hid (OwnI wr (w.heap.size + 1) (.slice a m c2) T1) := by
              show OwnI _ _ _ _
              rw [unhide HE2]
              exact unhide HR2
            have HL4 : Hid (T1.length = m) := by
              show _ = _
              rw [unhide HE2, unhide HTL]
            clear HE HO2 HG2
            go_wp2
            go_roundw
            case rel => exact ⟨k + 1, m, _, _, by omega, by omega, by go_num, rfl, by rw [← unhide HT1]; exact unhide HL4, by rw [← unhide HT1]; exact unhide HF, unhide HBJ⟩
            case measure => simp [intOf]; omega
          | true =>
          by_cases hcs : C0 < s
          · have qc : (C0 : Int) < s := by omega
            have HE2 : Hid (T1 = T0 ++ [nd]) := (unhide HE).trans (by simp [hcs])
            clear HE
            go_wp2_with (refine wpList_append_lies _ rfl (.tmp 52) (.tmp 58) 29 rfl (w.heap.size + 1) 3 k0 (.int .i64 0) 1 8 Try.undI hki hkz0 hkz1 hkz2 rfl (by decide) (.slice a m c2) m _ (by rfl) (unhide HO2 _) ⟨wr.heap.size, 0, none⟩ 1 1 [.int .i64 nd] (by rfl) (by rfl) (news_lit wr [.int .i64 nd] 3) (by intro u hu; simp at hu; subst hu; rfl) (by decide) (by unfold maxLen; omega) (by omega) (by simp; omega) (wr.heap.size + 1) (by simp) ?_)
            intro g2 cap2 w4 hown hgrow hat hlt2
            have HF : Hid (OwnI w4 (w.heap.size + 1) (.slice (some ⟨g2, 0, none⟩) (m + 1) cap2) T1) := by
              show OwnI _ _ _ _
              rw [unhide HE2]
              unfold OwnI
              rw [ic_append, List.length_append, unhide HTL]
              exact hown
            have HB4 := hide (((unhide HBJ).alloc hww (.cells #[.int .i64 nd] 3)).grown hgrow (by simp; omega) (fun z hz => unhide HG2 z hz))
            have HL4 : Hid (T1.length = m + 1) := by
              show _ = _
              rw [unhide HE2, List.length_append, unhide HTL]
              rfl
            clear hown hgrow hat hlt2 HO2 HB HG2
            go_wp2
            go_roundw
            case rel => exact ⟨k + 1, m + 1, _, _, by omega, by omega, by go_num, rfl, by rw [← unhide HT1]; exact unhide HL4, by rw [← unhide HT1]; exact unhide HF, unhide HB4⟩
            case measure => simp [intOf]; omega
          · have qc : ¬ (C0 : Int) < s := by omega
            have HE2 : Hid (T1 = T0) := (unhide HE).trans (by simp [hcs])
            have HF : Hid (OwnI wr (w.heap.size + 1) (.slice a m c2) T1) := by
              show OwnI _ _ _ _
              rw [unhide HE2]
              exact unhide HR2
            have HL4 : Hid (T1.length = m) := by
              show _ = _
              rw [unhide HE2, unhide HTL]
            clear HE HO2 HG2
            go_wp2
            go_roundw
            case rel => exact ⟨k + 1, m, _, _, by omega, by omega, by go_num, rfl, by rw [← unhide HT1]; exact unhide HL4, by rw [← unhide HT1]; exact unhide HF, unhide HBJ⟩
            case measure => simp [intOf]; omega
    · have hkn : k = n := by omega
      have q1 : ¬ (k : Int) < n := by omega
      have HF : Hid (TopR w (.slice a m c2) (ndL (l.filter (topP x y s l))) wo) := by
        have h1 := unhide HR
        rw [show l.take k = l by rw [hkn, unhide HN, List.take_length]] at h1
        exact ⟨own_i_le h1 (by omega), unhide HBW _ (unhide HB)⟩
      clear hkn HR
      go_wp2
      go_ret
      exact ⟨_, rfl, unhide HF⟩
end Go.Proofs.Ytjndgglbapghhaa

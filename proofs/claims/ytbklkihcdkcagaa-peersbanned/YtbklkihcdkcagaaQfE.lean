/- PeersBanned. -/
import Derived.Test.YtbklkihcdkcagaaQfD
import Derived.Test.YtbklkihcdkcagaaQaO
namespace Go.Proofs.Ytbklkihcdkcagaa
open Go.RowKit
set_option linter.unusedVariables false
attribute [local go_sem] Oper.semAt_some

/-- sixteen flags -/
def bA (f : Nat → Bool) : Array Value := #[.bool (f 0), .bool (f 1), .bool (f 2), .bool (f 3), .bool (f 4), .bool (f 5), .bool (f 6), .bool (f 7), .bool (f 8), .bool (f 9), .bool (f 10), .bool (f 11), .bool (f 12), .bool (f 13), .bool (f 14), .bool (f 15)]
theorem q16 {P : Nat → Prop} (h0 : P 0) (h1 : P 1) (h2 : P 2) (h3 : P 3) (h4 : P 4) (h5 : P 5) (h6 : P 6) (h7 : P 7) (h8 : P 8) (h9 : P 9) (h10 : P 10) (h11 : P 11) (h12 : P 12) (h13 : P 13) (h14 : P 14) (h15 : P 15) : ∀ q, q < 16 → P q := by
  intro q hq
  rcases (show q = 0 ∨ q = 1 ∨ q = 2 ∨ q = 3 ∨ q = 4 ∨ q = 5 ∨ q = 6 ∨ q = 7 ∨ q = 8 ∨ q = 9 ∨ q = 10 ∨ q = 11 ∨ q = 12 ∨ q = 13 ∨ q = 14 ∨ q = 15 by omega) with rfl | rfl | rfl | rfl | rfl | rfl | rfl | rfl | rfl | rfl | rfl | rfl | rfl | rfl | rfl | rfl <;> assumption
theorem bA_get (f : Nat → Bool) : ∀ q, q < 16 → (bA f)[q]? = some (.bool (f q)) := q16 rfl rfl rfl rfl rfl rfl rfl rfl rfl rfl rfl rfl rfl rfl rfl rfl
theorem bA_set (f : Nat → Bool) : ∀ q, q < 16 → (bA f).setIfInBounds q (.bool true) = bA (tup f q true) := q16 rfl rfl rfl rfl rfl rfl rfl rfl rfl rfl rfl rfl rfl rfl rfl rfl
/-- the table, and who is remembered as banned -/
structure BS (w : World) (b ab : Nat) (room tmo : Int) (f : Nat → Bool) (x : World) : Prop where
  ex : ∃ P C Bn, Tb w.heap.size x b room tmo P C Bn ∧ BI room P Bn ∧ ∀ q, q < 16 → f q = true → Bn q = true
  arr : x.heap[ab]? = some (.cells (bA f) 51 (0, 0))
  be : Below w.heap.size w x
  lo : w.heap.size ≤ ab
theorem BS.up {w : World} {b ab : Nat} {room tmo : Int} {f : Nat → Bool} {x y : World} (h : BS w b ab room tmo f x) (hb : Below x.heap.size x y) : BS w b ab room tmo f y := by
  obtain ⟨P, C, Bn, h1, h2, h3⟩ := h.ex
  exact ⟨⟨P, C, Bn, h1.up hb, h2, h3⟩, (hb.block _ (lt_of_block h.arr)).trans h.arr, h.be.trans (hb.mono h.be.size), h.lo⟩
theorem BS.cell {w : World} {b ab : Nat} {room tmo : Int} {f : Nat → Bool} {x : World} (h : BS w b ab room tmo f x) (q : Nat) (hq : q < 16) : x.cell? ⟨ab, q, none⟩ = some (.bool (f q)) := by
  rw [cell_of_row _ _ _ _ _ _ h.arr]
  exact bA_get f q hq
theorem BS.free {w : World} {b ab : Nat} {room tmo : Int} {f : Nat → Bool} {x : World} (h : BS w b ab room tmo f x) (q : Nat) : x.frozen? ⟨ab, q, none⟩ = false := by simp [World.frozen?, h.arr]
/-- behind an act -/
structure BT (w : World) (b ab : Nat) (room tmo : Int) (f : Nat → Bool) (p : Pa) (x : World) : Prop where
  bs : BS w b ab room tmo f x
  ex : ∃ P C Bn, Tb w.heap.size x b room tmo P C Bn ∧ BI room P Bn ∧ (∀ q, q < 16 → f q = true → Bn q = true) ∧ (p.kd = 3 → isPr p.nd = true → Bn p.nd.toNat = true)
theorem BS.act {w : World} {b ab : Nat} {room tmo : Int} {f : Nat → Bool} {x : World} (h : BS w b ab room tmo f x) (hrm : room ≤ 15) (p : Pa) :
    Calls Try.prog 10 #[.pointer (some ⟨b, 0, none⟩), tabV room tmo (.slice none 0 0) (.slice none 0 0), .agg p.cl.toArray] x fun e w' => (∃ v, e = .returned v) ∧ BT w b ab room tmo f p w' := by
  obtain ⟨P, C, Bn, h1, h2, h3⟩ := h.ex
  refine (do_ban p w.heap.size b room tmo P C Bn x h1 h.be.size hrm h2).mono ?_
  rintro e w' ⟨he, hr⟩
  obtain ⟨P', C', Bn', r1, r2⟩ := hr.ex
  have hf : ∀ q, q < 16 → f q = true → Bn' q = true := fun q hq hfq => r1.mono q (h3 q hq hfq)
  exact ⟨he, ⟨⟨P', C', Bn', r2, r1.bi, hf⟩, kt_keep h1 hr.kt h.arr (by decide) (by decide), h.be.trans (h1.below hr.kt), h.lo⟩, ⟨P', C', Bn', r2, r1.bi, hf, r1.ban⟩⟩
theorem BT.set {w : World} {b ab : Nat} {room tmo : Int} {f : Nat → Bool} {p : Pa} {x : World} (h : BT w b ab room tmo f p x) (hk : p.kd = 3) {q : Nat} (hq : p.nd = q) (h1 : 1 ≤ q ∧ q ≤ 15) : BS w b ab room tmo (tup f q true) (x.setCell ⟨ab, q, none⟩ (.bool true)) := by
  obtain ⟨P, C, Bn, t1, t2, t3, t4⟩ := h.ex
  have hp : isPr p.nd = true := decide_eq_true (by omega)
  have hb := t4 hk hp
  rw [hq, Int.toNat_natCast] at hb
  have ha := h.bs.arr
  have ne : ∀ {g : Nat} {cs : Array Value} {T : TypeId}, x.heap[g]? = some (.cells cs T (0, 0)) → T ≠ 51 → g ≠ ab := fun h1 h2 e => by
    subst e
    rw [ha] at h1
    simp only [Option.some.injEq, Obj.cells.injEq] at h1
    exact h2 h1.2.1.symm
  refine ⟨⟨P, C, Bn, t1.keep ?_ ?_, t2, fun z hz hfz => ?_⟩, ?_, h.bs.be.setCell (p := ⟨ab, q, none⟩) h.bs.lo _, h.bs.lo⟩
  · obtain ⟨cs, hc⟩ := t1.tb.blk
    exact Below.heap_setCell _ _ _ _ (ne hc (by decide))
  · intro z g hz hg
    exact Below.heap_setCell _ _ _ _ (ne (t1.tb.pe z g hz hg) (by decide))
  · unfold tup at hfz
    by_cases e : z = q
    · subst e
      exact hb
    · rw [if_neg e] at hfz
      exact t3 z hz hfz
  · rw [← bA_set f q (by omega)]
    exact heap_setCell_same x ab q _ _ _ ha
theorem pas_range {w x : World} {a0 : Option Addr} {l : List Pa} (h : PasAt w a0 l) (hb : Below w.heap.size w x) {i : Nat} {p : Pa} (hp : l[i]? = some p) : ∃ g o, a0 = some ⟨g, o, none⟩ ∧ g < w.heap.size ∧ x.rangeAt g (o + i * 7) p.cl := by
  obtain ⟨g, o, h1, h2, h3⟩ := h i p hp
  exact ⟨g, o, h1, h2, fun j v hv => (hb.cell (p := ⟨g, o + i * 7 + j, none⟩) h2).trans (h3 j v hv)⟩
set_option maxRecDepth 100000 in
set_option maxHeartbeats 4000000 in
theorem peersBanned_bad (room tmo : Int) (v : Value) (w : World) (h : ¬ ((1 ≤ room ∧ room ≤ 15) ∧ (1 ≤ tmo ∧ tmo ≤ 1099511627776))) :
    Calls Try.prog 4 #[.int .i64 room, .int .i64 tmo, v] w fun e w' => e = .returned (.bool true) ∧ Below w.heap.size w w' := by
  have g1 := hide (new_no room tmo w h)
  have hc : room < 1 ∨ (¬ room < 1 ∧ 15 < room) ∨ (¬ room < 1 ∧ ¬ 15 < room ∧ tmo < 1) ∨ (¬ room < 1 ∧ ¬ 15 < room ∧ ¬ tmo < 1 ∧ 1099511627776 < tmo) := by omega
  clear h
  rcases hc with h | ⟨h1, h2⟩ | ⟨h1, h2, h3⟩ | ⟨h1, h2, h3, h4⟩
  all_goals
    go_enter Try.func4, Try.ntmps4
    go_wp2_with fail
    refine (unhide g1).mono ?_
    rintro e w1 ⟨rfl, rfl⟩
    go_wp2_with fail
    refine (pawake_any w).mono ?_
    rintro e w2 ⟨rfl, b2⟩
    have B2 := hide b2
    clear b2
    go_wp2_with fail
    refine (pawake_any w2).mono ?_
    rintro e w3 ⟨rfl, b3⟩
    have B3 := hide ((unhide B2).trans (b3.mono (unhide B2).size))
    clear b3 B2
    go_wp2
    go_ret
    exact ⟨rfl, unhide B3⟩
set_option maxRecDepth 100000 in
set_option maxHeartbeats 20000000 in
theorem peersBanned_good (room tmo : Int) (a0 : Option Addr) (l : List Pa) (c : Nat) (w : World) (h1 : 1 ≤ room ∧ room ≤ 15) (h2 : 1 ≤ tmo ∧ tmo ≤ 1099511627776) (hA : PasAt w a0 l) (hO : PasOk l c) :
    Calls Try.prog 4 #[.int .i64 room, .int .i64 tmo, .slice a0 l.length c] w fun e w' => e = .returned (.bool true) ∧ Below w.heap.size w w' := by
  have g1 := hide (new_yes room tmo w h1 h2)
  have HA := hide hA
  have HRM := hide h1
  have HSZ := hide hO.2.2
  have hlm : (l.length : Int) ≤ 9223372036854775807 := by
    have := hO.1
    have := hO.2.1
    unfold maxLen at this
    omega
  generalize hn : l.length = n at *
  have HN := hide hn
  clear hA hO h1 h2 hn
  go_enter Try.func4, Try.ntmps4
  go_wp2_with fail
  refine (unhide g1).mono ?_
  rintro e w1 ⟨rfl, e1⟩
  have hT := newTb w.heap.size room tmo w (Nat.le_refl _)
  have B0 := (Below.refl w.heap.size w).alloc (Nat.le_refl _) (.cells (newT room tmo) 67)
  rw [← e1] at hT B0
  have HT := hide hT
  have HB := hide B0
  clear hT B0 e1 g1
  go_wp2_with fail
  refine (pawake_any w1).mono ?_
  rintro e w2 ⟨rfl, b2⟩
  have HBS : Hid (BS w w.heap.size w2.heap.size room tmo (fun _ => false) (w2.alloc (.cells (bA fun _ => false) 51))) := by
    have hbw := (unhide HB).trans (b2.mono (unhide HB).size)
    have ht2 := (unhide HT).up b2
    have hb3 : Below w2.heap.size w2 (w2.alloc (.cells (bA fun _ => false) 51)) := (Below.refl _ _).alloc (Nat.le_refl _) _
    exact ⟨⟨noP, _, noB, ht2.up hb3, ⟨fun _ _ _ => rfl, by have := (unhide HRM).1; show (0 : Int) ≤ room; omega⟩, fun q _ h => (by cases h)⟩, heap_alloc_new w2 _, hbw.trans (hb3.mono hbw.size), hbw.size⟩
  clear b2 HT HB
  unfold bA at HBS
  go_wp2_with fail
  generalize hb : w.heap.size = b at *
  generalize hab : w2.heap.size = ab at *
  have HBB := hide hb
  have HAB := hide hab
  generalize hW : w2.alloc (.cells _ 51) = W at *
  clear hW hb hab
  go_loopw [9] (fun iv wr => ∃ (i : Nat) (f : Nat → Bool), i ≤ n ∧ iv = .int .i64 i ∧ BS w b ab room tmo f wr) (fun iv _ => n - (intOf iv).toNat)
  case atStart => exact ⟨0, _, by omega, rfl, unhide HBS⟩
  case round =>
    obtain ⟨i, f, hin, rfl, hbs⟩ := hrel
    have HS := hide hbs
    clear hbs HBS
    by_cases hlt : i < n ∧ i < 60
    · have q1 : (i : Int) < n := by omega
      have q2 : (i : Int) < 60 := by omega
      obtain ⟨p, hp⟩ : ∃ p, l[i]? = some p := ⟨_, List.getElem?_eq_getElem (by rw [unhide HN]; exact hlt.1)⟩
      obtain ⟨gd, od, rfl, hgl, hra⟩ := pas_range (unhide HA) (unhide HS).be hp
      have hsz := unhide HSZ p (List.mem_of_getElem? hp)
      have HRX : Hid (∀ x, Below w.heap.size w x → x.rangeAt gd (od + i * 7) p.cl) := by
        intro x hx
        obtain ⟨g', o', h1, _, h2⟩ := pas_range (unhide HA) hx hp
        cases h1
        exact h2
      obtain ⟨kd, nd, nn, px, py, s, on⟩ := p
      have c5 : wr.cell? ⟨gd, od + i * 7 + 5, none⟩ = some (.string s) := hra 5 _ rfl
      clear hp hgl
      by_cases hs : 100 < s.size
      · have q3 : (100 : Int) < s.size := by omega
        clear hra
        go_wp2
        go_roundw
        case rel => exact ⟨i + 1, f, by omega, by go_num, unhide HS⟩
        case measure => simp [intOf]; omega
      · have q3 : ¬ (100 : Int) < s.size := by omega
        have HRA : Hid (wr.rangeAt gd (od + i * 7) [.int .i64 kd, .int .i64 nd, .int .i64 nn, .int .i64 px, .int .i64 py, .string s, .bool on]) := hra
        have HPL : Hid ((Try.prog.info? 33).map (·.size) = some [Value.int .i64 kd, .int .i64 nd, .int .i64 nn, .int .i64 px, .int .i64 py, .string s, .bool on].length) := by
          show _ = _
          kernel_rfl
        have hDO := hide ((unhide HS).act (unhide HRM).2 ⟨kd, nd, nn, px, py, s, on⟩)
        clear hra hs
        go_wp2_with (refine wpList_load_mid rfl 33 (.tmp 61) rfl gd (od + i * 7) rfl [.int .i64 kd, .int .i64 nd, .int .i64 nn, .int .i64 px, .int .i64 py, .string s, .bool on] _ (unhide HRA) Try.underlying33 rfl (unhide HPL) ?_)
        refine (unhide hDO).mono ?_
        rintro e w3 ⟨⟨v, rfl⟩, hbt⟩
        have HT3 := hide hbt
        have hra3 := unhide HRX w3 hbt.bs.be
        have d0 : w3.cell? ⟨gd, od + i * 7, none⟩ = some (.int .i64 kd) := hra3 0 _ rfl
        have d1 : w3.cell? ⟨gd, od + i * 7 + 1, none⟩ = some (.int .i64 nd) := hra3 1 _ rfl
        clear hbt hra3 hDO HRA HPL c5 HS
        by_cases hb3 : kd = 3 ∧ 1 ≤ nd ∧ nd ≤ 15
        · obtain ⟨rfl, n1, n2⟩ := hb3
          obtain ⟨q, rfl⟩ : ∃ q : Nat, nd = q := ⟨nd.toNat, by omega⟩
          have hq : 1 ≤ q ∧ q ≤ 15 := by omega
          have HS4 := hide ((unhide HT3).set rfl rfl hq)
          have a0' := (unhide HT3).bs.cell q (by omega)
          have a1' := (unhide HT3).bs.free q
          have q4 : (q : Int) < 16 := by omega
          generalize hwx : w3.setCell ⟨ab, q, none⟩ (.bool true) = wx at *
          generalize tup f q true = f2 at *
          go_wp2_with fail
          obtain ⟨P, C, Bn, t1, t2, t3⟩ := (unhide HS4).ex
          refine (list_any _ b room tmo P C Bn t1.tb).mono ?_
          rintro e w5 ⟨v5, rfl, hR⟩
          have hlr : ((ns P).length : Int) ≤ room := t2.le
          have HND := hide t1.nds
          have HBI := hide t2
          have HF2 := hide t3
          have hown := hR.own
          rw [lst_ns] at hown
          obtain ⟨a5, c5', rfl, hpes, hbl⟩ := own_pes hown
          have HS5 := hide ((unhide HS4).up hR.be)
          have HPES := hide hpes
          have HBL := hide hbl
          rw [List.length_map]
          obtain ⟨m, hm⟩ : ∃ m, m = (ns P).length := ⟨_, rfl⟩
          rw [← hm] at hlr ⊢
          have hm16 : m ≤ 16 := by rw [hm]; exact ns_len P
          have HMM := hide hm
          clear t1 t2 t3 hR hown hpes hbl hm HS4
          try clear HT3
          go_wp2_with fail
          obtain ⟨wo, hwo⟩ : ∃ x, x = wr := ⟨_, rfl⟩
          clear hwo
          go_loopw [11] (fun kv wz => ∃ (k : Nat), k ≤ m ∧ kv = .int .i64 k ∧ Below w5.heap.size w5 wz) (fun kv _ => m - (intOf kv).toNat)
          case atStart => exact ⟨0, by omega, rfl, Below.refl _ _⟩
          case round =>
            obtain ⟨k, hkm, rfl, hbk⟩ := hrel
            have HBK := hide hbk
            clear hbk
            by_cases hkl : k < m
            · have q5 : (k : Int) < m := by omega
              obtain ⟨q, hq⟩ : ∃ q, (ns P)[k]? = some q := ⟨_, List.getElem?_eq_getElem (by rw [← unhide HMM]; exact hkl)⟩
              obtain ⟨hnd, hq1, hq2, hth⟩ := (unhide HND).mem (List.mem_of_getElem? hq)
              have hpes2 := (unhide HPES).up (fun a ha => (unhide HBL a ha).2) (unhide HBK)
              obtain ⟨g, rfl, hra⟩ := hpes2 k (C q) (by rw [List.getElem?_map, hq]; rfl)
              have e0 := hra 0 (.int .i64 (C q).nd) rfl
              rw [hnd, Nat.add_zero] at e0
              have hfq : f2 q = false := by
                cases hf : f2 q with
                | false => rfl
                | true =>
                  have := (unhide HBI).no q (by omega) (unhide HF2 q (by omega) hf)
                  obtain ⟨p', e', _, _, g', hg'⟩ := th_yes hth
                  have : p' = q := by omega
                  subst this
                  rw [hg'] at this
                  cases this
              have e1 := ((unhide HS5).up (unhide HBK)).cell q (by omega)
              rw [hfq] at e1
              have r1 : (1 : Int) ≤ q := by omega
              have r2 : ¬ (q : Int) < 1 := by omega
              have r3 : ¬ (15 : Int) < q := by omega
              have r4 : (q : Int) < 16 := by omega
              have v1 : decide ((q : Int) < 1) = false := decide_eq_false r2
              have v2 : decide (q < 1) = false := decide_eq_false (by omega)
              have v3 : decide (q = 0) = false := decide_eq_false (by omega)
              have v4 : decide ((15 : Int) < q) = false := decide_eq_false r3
              have v5' : decide (15 < q) = false := decide_eq_false (by omega)
              have v6 : q ≠ 0 := by omega
              by_cases hk0 : k = 0
              · have r5 : ¬ (0 : Int) < k := by omega
                have v7 : decide ((0 : Int) < k) = false := decide_eq_false r5
                have v8 : decide (0 < k) = false := decide_eq_false (by omega)
                have v9 : ¬ 0 < k := by omega
                clear hra hpes2 hnd hfq hth hk0
                have hneZ : Nonempty (Gb wr) := gb_ne wr
                have y0 : ∀ y : Gb wr, y.w.cell? ⟨g, k * 10, none⟩ = some (.int .i64 q) := fun y => gb_cell e0 y
                have y1 : ∀ y : Gb wr, y.w.cell? ⟨ab, q, none⟩ = some (.bool false) := fun y => gb_cell e1 y
                go_wp2_with fail
                refine wp_region_grB (by kernel_rfl) (by kernel_rfl) ?_
                repeat (go_big_quiet_step (fail))
                refine wpQuiet_nil ?_
                rintro wz ⟨xz, rfl⟩
                have HB6 := hide ((unhide HBK).trans (xz.ok.mono (unhide HBK).size))
                clear y0 y1 e0 e1 hneZ HBK
                generalize xz.w = wz at *
                go_wp2
                go_roundw
                case rel => exact ⟨k + 1, by omega, by go_num, unhide HB6⟩
                case measure => simp [intOf]; omega
              · have r5 : (0 : Int) < k := by omega
                obtain ⟨km, hkm1⟩ : ∃ km, k = km + 1 := ⟨k - 1, by omega⟩
                obtain ⟨q', hq'⟩ : ∃ q', (ns P)[km]? = some q' := ⟨_, List.getElem?_eq_getElem (by rw [← unhide HMM]; omega)⟩
                obtain ⟨hnd', _⟩ := (unhide HND).mem (List.mem_of_getElem? hq')
                obtain ⟨g', hg', hra'⟩ := hpes2 km (C q') (by rw [List.getElem?_map, hq']; rfl)
                cases hg'
                have e2 := hra' 0 (.int .i64 (C q').nd) rfl
                rw [hnd', Nat.add_zero] at e2
                have hlt' : q' < q := by
                  obtain ⟨l1, l2⟩ := List.getElem?_eq_some_iff.1 hq'
                  obtain ⟨l3, l4⟩ := List.getElem?_eq_some_iff.1 hq
                  have := List.pairwise_iff_getElem.1 (ns_sorted P) km k l1 l3 (by omega)
                  rw [l2, l4] at this
                  exact this
                have r6 : ¬ (q : Int) ≤ q' := by omega
                have v7 : decide ((0 : Int) < k) = true := decide_eq_true r5
                have v8 : decide (0 < k) = true := decide_eq_true (by omega)
                have v9 : 0 < k := by omega
                have w1' : decide ((q : Int) ≤ q') = false := decide_eq_false r6
                have w2' : decide (q ≤ q') = false := decide_eq_false (by omega)
                have w3' : ¬ q ≤ q' := by omega
                have r7 : (k : Int) - 1 = km := by omega
                have r8 : (km : Int) < m := by omega
                have r9 : km < m := by omega
                clear hra hra' hpes2 hnd hnd' hfq hth hk0 hlt'
                have HKM := hide hkm1
                clear hkm1
                have hneZ : Nonempty (Gb wr) := gb_ne wr
                have y0 : ∀ y : Gb wr, y.w.cell? ⟨g, k * 10, none⟩ = some (.int .i64 q) := fun y => gb_cell e0 y
                have y1 : ∀ y : Gb wr, y.w.cell? ⟨ab, q, none⟩ = some (.bool false) := fun y => gb_cell e1 y
                have y2 : ∀ y : Gb wr, y.w.cell? ⟨g, km * 10, none⟩ = some (.int .i64 q') := fun y => gb_cell e2 y
                go_wp2_with fail
                refine wp_region_grB (by kernel_rfl) (by kernel_rfl) ?_
                repeat (go_big_quiet_step (fail))
                refine wpQuiet_nil ?_
                rintro wz ⟨xz, rfl⟩
                have HB6 := hide ((unhide HBK).trans (xz.ok.mono (unhide HBK).size))
                clear y0 y1 y2 e0 e1 e2 hneZ HBK
                generalize xz.w = wz at *
                go_wp2
                go_roundw
                case rel => exact ⟨k + 1, by omega, by go_num, unhide HB6⟩
                case measure => simp [intOf]; omega
            · have q5 : ¬ (k : Int) < m := by omega
              have q6 : ¬ room < (m : Int) := by omega
              have HS7 := hide ((unhide HS5).up (unhide HBK))
              clear HS5 HBK HPES HBL
              go_wp2
              go_roundw
              case rel => exact ⟨i + 1, f2, by omega, by go_num, unhide HS7⟩
              case measure => simp [intOf]; omega
        · have n3 : ¬ (kd = 3 ∧ 1 ≤ nd ∧ nd ≤ 15) := hb3
          have HS4 := hide (unhide HT3).bs
          have HD3 := hide n3
          rcases (show kd ≠ 3 ∨ (kd = 3 ∧ nd < 1) ∨ (kd = 3 ∧ ¬ nd < 1 ∧ 15 < nd) by omega) with n4 | ⟨rfl, n4⟩ | ⟨rfl, n4, n5⟩
          · have k3 : (kd == 3) = false := by simpa using n4
            clear n3
            go_wp2_with fail
            obtain ⟨P, C, Bn, t1, t2, t3⟩ := (unhide HS4).ex
            refine (list_any _ b room tmo P C Bn t1.tb).mono ?_
            rintro e w5 ⟨v5, rfl, hR⟩
            have hlr : ((ns P).length : Int) ≤ room := t2.le
            have HND := hide t1.nds
            have HBI := hide t2
            have HF2 := hide t3
            have hown := hR.own
            rw [lst_ns] at hown
            obtain ⟨a5, c5', rfl, hpes, hbl⟩ := own_pes hown
            have HS5 := hide ((unhide HS4).up hR.be)
            have HPES := hide hpes
            have HBL := hide hbl
            rw [List.length_map]
            obtain ⟨m, hm⟩ : ∃ m, m = (ns P).length := ⟨_, rfl⟩
            rw [← hm] at hlr ⊢
            have hm16 : m ≤ 16 := by rw [hm]; exact ns_len P
            have HMM := hide hm
            clear t1 t2 t3 hR hown hpes hbl hm HS4
            try clear HT3
            go_wp2_with fail
            obtain ⟨wo, hwo⟩ : ∃ x, x = wr := ⟨_, rfl⟩
            clear hwo
            go_loopw [11] (fun kv wz => ∃ (k : Nat), k ≤ m ∧ kv = .int .i64 k ∧ Below w5.heap.size w5 wz) (fun kv _ => m - (intOf kv).toNat)
            case atStart => exact ⟨0, by omega, rfl, Below.refl _ _⟩
            case round =>
              obtain ⟨k, hkm, rfl, hbk⟩ := hrel
              have HBK := hide hbk
              clear hbk
              by_cases hkl : k < m
              · have q5 : (k : Int) < m := by omega
                obtain ⟨q, hq⟩ : ∃ q, (ns P)[k]? = some q := ⟨_, List.getElem?_eq_getElem (by rw [← unhide HMM]; exact hkl)⟩
                obtain ⟨hnd, hq1, hq2, hth⟩ := (unhide HND).mem (List.mem_of_getElem? hq)
                have hpes2 := (unhide HPES).up (fun a ha => (unhide HBL a ha).2) (unhide HBK)
                obtain ⟨g, rfl, hra⟩ := hpes2 k (C q) (by rw [List.getElem?_map, hq]; rfl)
                have e0 := hra 0 (.int .i64 (C q).nd) rfl
                rw [hnd, Nat.add_zero] at e0
                have hfq : f q = false := by
                  cases hf : f q with
                  | false => rfl
                  | true =>
                    have := (unhide HBI).no q (by omega) (unhide HF2 q (by omega) hf)
                    obtain ⟨p', e', _, _, g', hg'⟩ := th_yes hth
                    have : p' = q := by omega
                    subst this
                    rw [hg'] at this
                    cases this
                have e1 := ((unhide HS5).up (unhide HBK)).cell q (by omega)
                rw [hfq] at e1
                have r1 : (1 : Int) ≤ q := by omega
                have r2 : ¬ (q : Int) < 1 := by omega
                have r3 : ¬ (15 : Int) < q := by omega
                have r4 : (q : Int) < 16 := by omega
                have v1 : decide ((q : Int) < 1) = false := decide_eq_false r2
                have v2 : decide (q < 1) = false := decide_eq_false (by omega)
                have v3 : decide (q = 0) = false := decide_eq_false (by omega)
                have v4 : decide ((15 : Int) < q) = false := decide_eq_false r3
                have v5' : decide (15 < q) = false := decide_eq_false (by omega)
                have v6 : q ≠ 0 := by omega
                by_cases hk0 : k = 0
                · have r5 : ¬ (0 : Int) < k := by omega
                  have v7 : decide ((0 : Int) < k) = false := decide_eq_false r5
                  have v8 : decide (0 < k) = false := decide_eq_false (by omega)
                  have v9 : ¬ 0 < k := by omega
                  clear hra hpes2 hnd hfq hth hk0
                  have hneZ : Nonempty (Gb wr) := gb_ne wr
                  have y0 : ∀ y : Gb wr, y.w.cell? ⟨g, k * 10, none⟩ = some (.int .i64 q) := fun y => gb_cell e0 y
                  have y1 : ∀ y : Gb wr, y.w.cell? ⟨ab, q, none⟩ = some (.bool false) := fun y => gb_cell e1 y
                  go_wp2_with fail
                  refine wp_region_grB (by kernel_rfl) (by kernel_rfl) ?_
                  repeat (go_big_quiet_step (fail))
                  refine wpQuiet_nil ?_
                  rintro wz ⟨xz, rfl⟩
                  have HB6 := hide ((unhide HBK).trans (xz.ok.mono (unhide HBK).size))
                  clear y0 y1 e0 e1 hneZ HBK
                  generalize xz.w = wz at *
                  go_wp2
                  go_roundw
                  case rel => exact ⟨k + 1, by omega, by go_num, unhide HB6⟩
                  case measure => simp [intOf]; omega
                · have r5 : (0 : Int) < k := by omega
                  obtain ⟨km, hkm1⟩ : ∃ km, k = km + 1 := ⟨k - 1, by omega⟩
                  obtain ⟨q', hq'⟩ : ∃ q', (ns P)[km]? = some q' := ⟨_, List.getElem?_eq_getElem (by rw [← unhide HMM]; omega)⟩
                  obtain ⟨hnd', _⟩ := (unhide HND).mem (List.mem_of_getElem? hq')
                  obtain ⟨g', hg', hra'⟩ := hpes2 km (C q') (by rw [List.getElem?_map, hq']; rfl)
                  cases hg'
                  have e2 := hra' 0 (.int .i64 (C q').nd) rfl
                  rw [hnd', Nat.add_zero] at e2
                  have hlt' : q' < q := by
                    obtain ⟨l1, l2⟩ := List.getElem?_eq_some_iff.1 hq'
                    obtain ⟨l3, l4⟩ := List.getElem?_eq_some_iff.1 hq
                    have := List.pairwise_iff_getElem.1 (ns_sorted P) km k l1 l3 (by omega)
                    rw [l2, l4] at this
                    exact this
                  have r6 : ¬ (q : Int) ≤ q' := by omega
                  have v7 : decide ((0 : Int) < k) = true := decide_eq_true r5
                  have v8 : decide (0 < k) = true := decide_eq_true (by omega)
                  have v9 : 0 < k := by omega
                  have w1' : decide ((q : Int) ≤ q') = false := decide_eq_false r6
                  have w2' : decide (q ≤ q') = false := decide_eq_false (by omega)
                  have w3' : ¬ q ≤ q' := by omega
                  have r7 : (k : Int) - 1 = km := by omega
                  have r8 : (km : Int) < m := by omega
                  have r9 : km < m := by omega
                  clear hra hra' hpes2 hnd hnd' hfq hth hk0 hlt'
                  have HKM := hide hkm1
                  clear hkm1
                  have hneZ : Nonempty (Gb wr) := gb_ne wr
                  have y0 : ∀ y : Gb wr, y.w.cell? ⟨g, k * 10, none⟩ = some (.int .i64 q) := fun y => gb_cell e0 y
                  have y1 : ∀ y : Gb wr, y.w.cell? ⟨ab, q, none⟩ = some (.bool false) := fun y => gb_cell e1 y
                  have y2 : ∀ y : Gb wr, y.w.cell? ⟨g, km * 10, none⟩ = some (.int .i64 q') := fun y => gb_cell e2 y
                  go_wp2_with fail
                  refine wp_region_grB (by kernel_rfl) (by kernel_rfl) ?_
                  repeat (go_big_quiet_step (fail))
                  refine wpQuiet_nil ?_
                  rintro wz ⟨xz, rfl⟩
                  have HB6 := hide ((unhide HBK).trans (xz.ok.mono (unhide HBK).size))
                  clear y0 y1 y2 e0 e1 e2 hneZ HBK
                  generalize xz.w = wz at *
                  go_wp2
                  go_roundw
                  case rel => exact ⟨k + 1, by omega, by go_num, unhide HB6⟩
                  case measure => simp [intOf]; omega
              · have q5 : ¬ (k : Int) < m := by omega
                have q6 : ¬ room < (m : Int) := by omega
                have HS7 := hide ((unhide HS5).up (unhide HBK))
                clear HS5 HBK HPES HBL
                go_wp2
                go_roundw
                case rel => exact ⟨i + 1, f, by omega, by go_num, unhide HS7⟩
                case measure => simp [intOf]; omega
          · have n6 : ¬ 1 ≤ nd := by omega
            clear n3
            go_wp2_with fail
            obtain ⟨P, C, Bn, t1, t2, t3⟩ := (unhide HS4).ex
            refine (list_any _ b room tmo P C Bn t1.tb).mono ?_
            rintro e w5 ⟨v5, rfl, hR⟩
            have hlr : ((ns P).length : Int) ≤ room := t2.le
            have HND := hide t1.nds
            have HBI := hide t2
            have HF2 := hide t3
            have hown := hR.own
            rw [lst_ns] at hown
            obtain ⟨a5, c5', rfl, hpes, hbl⟩ := own_pes hown
            have HS5 := hide ((unhide HS4).up hR.be)
            have HPES := hide hpes
            have HBL := hide hbl
            rw [List.length_map]
            obtain ⟨m, hm⟩ : ∃ m, m = (ns P).length := ⟨_, rfl⟩
            rw [← hm] at hlr ⊢
            have hm16 : m ≤ 16 := by rw [hm]; exact ns_len P
            have HMM := hide hm
            clear t1 t2 t3 hR hown hpes hbl hm HS4
            try clear HT3
            go_wp2_with fail
            obtain ⟨wo, hwo⟩ : ∃ x, x = wr := ⟨_, rfl⟩
            clear hwo
            go_loopw [11] (fun kv wz => ∃ (k : Nat), k ≤ m ∧ kv = .int .i64 k ∧ Below w5.heap.size w5 wz) (fun kv _ => m - (intOf kv).toNat)
            case atStart => exact ⟨0, by omega, rfl, Below.refl _ _⟩
            case round =>
              obtain ⟨k, hkm, rfl, hbk⟩ := hrel
              have HBK := hide hbk
              clear hbk
              by_cases hkl : k < m
              · have q5 : (k : Int) < m := by omega
                obtain ⟨q, hq⟩ : ∃ q, (ns P)[k]? = some q := ⟨_, List.getElem?_eq_getElem (by rw [← unhide HMM]; exact hkl)⟩
                obtain ⟨hnd, hq1, hq2, hth⟩ := (unhide HND).mem (List.mem_of_getElem? hq)
                have hpes2 := (unhide HPES).up (fun a ha => (unhide HBL a ha).2) (unhide HBK)
                obtain ⟨g, rfl, hra⟩ := hpes2 k (C q) (by rw [List.getElem?_map, hq]; rfl)
                have e0 := hra 0 (.int .i64 (C q).nd) rfl
                rw [hnd, Nat.add_zero] at e0
                have hfq : f q = false := by
                  cases hf : f q with
                  | false => rfl
                  | true =>
                    have := (unhide HBI).no q (by omega) (unhide HF2 q (by omega) hf)
                    obtain ⟨p', e', _, _, g', hg'⟩ := th_yes hth
                    have : p' = q := by omega
                    subst this
                    rw [hg'] at this
                    cases this
                have e1 := ((unhide HS5).up (unhide HBK)).cell q (by omega)
                rw [hfq] at e1
                have r1 : (1 : Int) ≤ q := by omega
                have r2 : ¬ (q : Int) < 1 := by omega
                have r3 : ¬ (15 : Int) < q := by omega
                have r4 : (q : Int) < 16 := by omega
                have v1 : decide ((q : Int) < 1) = false := decide_eq_false r2
                have v2 : decide (q < 1) = false := decide_eq_false (by omega)
                have v3 : decide (q = 0) = false := decide_eq_false (by omega)
                have v4 : decide ((15 : Int) < q) = false := decide_eq_false r3
                have v5' : decide (15 < q) = false := decide_eq_false (by omega)
                have v6 : q ≠ 0 := by omega
                by_cases hk0 : k = 0
                · have r5 : ¬ (0 : Int) < k := by omega
                  have v7 : decide ((0 : Int) < k) = false := decide_eq_false r5
                  have v8 : decide (0 < k) = false := decide_eq_false (by omega)
                  have v9 : ¬ 0 < k := by omega
                  clear hra hpes2 hnd hfq hth hk0
                  have hneZ : Nonempty (Gb wr) := gb_ne wr
                  have y0 : ∀ y : Gb wr, y.w.cell? ⟨g, k * 10, none⟩ = some (.int .i64 q) := fun y => gb_cell e0 y
                  have y1 : ∀ y : Gb wr, y.w.cell? ⟨ab, q, none⟩ = some (.bool false) := fun y => gb_cell e1 y
                  go_wp2_with fail
                  refine wp_region_grB (by kernel_rfl) (by kernel_rfl) ?_
                  repeat (go_big_quiet_step (fail))
                  refine wpQuiet_nil ?_
                  rintro wz ⟨xz, rfl⟩
                  have HB6 := hide ((unhide HBK).trans (xz.ok.mono (unhide HBK).size))
                  clear y0 y1 e0 e1 hneZ HBK
                  generalize xz.w = wz at *
                  go_wp2
                  go_roundw
                  case rel => exact ⟨k + 1, by omega, by go_num, unhide HB6⟩
                  case measure => simp [intOf]; omega
                · have r5 : (0 : Int) < k := by omega
                  obtain ⟨km, hkm1⟩ : ∃ km, k = km + 1 := ⟨k - 1, by omega⟩
                  obtain ⟨q', hq'⟩ : ∃ q', (ns P)[km]? = some q' := ⟨_, List.getElem?_eq_getElem (by rw [← unhide HMM]; omega)⟩
                  obtain ⟨hnd', _⟩ := (unhide HND).mem (List.mem_of_getElem? hq')
                  obtain ⟨g', hg', hra'⟩ := hpes2 km (C q') (by rw [List.getElem?_map, hq']; rfl)
                  cases hg'
                  have e2 := hra' 0 (.int .i64 (C q').nd) rfl
                  rw [hnd', Nat.add_zero] at e2
                  have hlt' : q' < q := by
                    obtain ⟨l1, l2⟩ := List.getElem?_eq_some_iff.1 hq'
                    obtain ⟨l3, l4⟩ := List.getElem?_eq_some_iff.1 hq
                    have := List.pairwise_iff_getElem.1 (ns_sorted P) km k l1 l3 (by omega)
                    rw [l2, l4] at this
                    exact this
                  have r6 : ¬ (q : Int) ≤ q' := by omega
                  have v7 : decide ((0 : Int) < k) = true := decide_eq_true r5
                  have v8 : decide (0 < k) = true := decide_eq_true (by omega)
                  have v9 : 0 < k := by omega
                  have w1' : decide ((q : Int) ≤ q') = false := decide_eq_false r6
                  have w2' : decide (q ≤ q') = false := decide_eq_false (by omega)
                  have w3' : ¬ q ≤ q' := by omega
                  have r7 : (k : Int) - 1 = km := by omega
                  have r8 : (km : Int) < m := by omega
                  have r9 : km < m := by omega
                  clear hra hra' hpes2 hnd hnd' hfq hth hk0 hlt'
                  have HKM := hide hkm1
                  clear hkm1
                  have hneZ : Nonempty (Gb wr) := gb_ne wr
                  have y0 : ∀ y : Gb wr, y.w.cell? ⟨g, k * 10, none⟩ = some (.int .i64 q) := fun y => gb_cell e0 y
                  have y1 : ∀ y : Gb wr, y.w.cell? ⟨ab, q, none⟩ = some (.bool false) := fun y => gb_cell e1 y
                  have y2 : ∀ y : Gb wr, y.w.cell? ⟨g, km * 10, none⟩ = some (.int .i64 q') := fun y => gb_cell e2 y
                  go_wp2_with fail
                  refine wp_region_grB (by kernel_rfl) (by kernel_rfl) ?_
                  repeat (go_big_quiet_step (fail))
                  refine wpQuiet_nil ?_
                  rintro wz ⟨xz, rfl⟩
                  have HB6 := hide ((unhide HBK).trans (xz.ok.mono (unhide HBK).size))
                  clear y0 y1 y2 e0 e1 e2 hneZ HBK
                  generalize xz.w = wz at *
                  go_wp2
                  go_roundw
                  case rel => exact ⟨k + 1, by omega, by go_num, unhide HB6⟩
                  case measure => simp [intOf]; omega
              · have q5 : ¬ (k : Int) < m := by omega
                have q6 : ¬ room < (m : Int) := by omega
                have HS7 := hide ((unhide HS5).up (unhide HBK))
                clear HS5 HBK HPES HBL
                go_wp2
                go_roundw
                case rel => exact ⟨i + 1, f, by omega, by go_num, unhide HS7⟩
                case measure => simp [intOf]; omega
          · have n6 : 1 ≤ nd := by omega
            have n7 : ¬ nd ≤ 15 := by omega
            clear n3
            go_wp2_with fail
            obtain ⟨P, C, Bn, t1, t2, t3⟩ := (unhide HS4).ex
            refine (list_any _ b room tmo P C Bn t1.tb).mono ?_
            rintro e w5 ⟨v5, rfl, hR⟩
            have hlr : ((ns P).length : Int) ≤ room := t2.le
            have HND := hide t1.nds
            have HBI := hide t2
            have HF2 := hide t3
            have hown := hR.own
            rw [lst_ns] at hown
            obtain ⟨a5, c5', rfl, hpes, hbl⟩ := own_pes hown
            have HS5 := hide ((unhide HS4).up hR.be)
            have HPES := hide hpes
            have HBL := hide hbl
            rw [List.length_map]
            obtain ⟨m, hm⟩ : ∃ m, m = (ns P).length := ⟨_, rfl⟩
            rw [← hm] at hlr ⊢
            have hm16 : m ≤ 16 := by rw [hm]; exact ns_len P
            have HMM := hide hm
            clear t1 t2 t3 hR hown hpes hbl hm HS4
            try clear HT3
            go_wp2_with fail
            obtain ⟨wo, hwo⟩ : ∃ x, x = wr := ⟨_, rfl⟩
            clear hwo
            go_loopw [11] (fun kv wz => ∃ (k : Nat), k ≤ m ∧ kv = .int .i64 k ∧ Below w5.heap.size w5 wz) (fun kv _ => m - (intOf kv).toNat)
            case atStart => exact ⟨0, by omega, rfl, Below.refl _ _⟩
            case round =>
              obtain ⟨k, hkm, rfl, hbk⟩ := hrel
              have HBK := hide hbk
              clear hbk
              by_cases hkl : k < m
              · have q5 : (k : Int) < m := by omega
                obtain ⟨q, hq⟩ : ∃ q, (ns P)[k]? = some q := ⟨_, List.getElem?_eq_getElem (by rw [← unhide HMM]; exact hkl)⟩
                obtain ⟨hnd, hq1, hq2, hth⟩ := (unhide HND).mem (List.mem_of_getElem? hq)
                have hpes2 := (unhide HPES).up (fun a ha => (unhide HBL a ha).2) (unhide HBK)
                obtain ⟨g, rfl, hra⟩ := hpes2 k (C q) (by rw [List.getElem?_map, hq]; rfl)
                have e0 := hra 0 (.int .i64 (C q).nd) rfl
                rw [hnd, Nat.add_zero] at e0
                have hfq : f q = false := by
                  cases hf : f q with
                  | false => rfl
                  | true =>
                    have := (unhide HBI).no q (by omega) (unhide HF2 q (by omega) hf)
                    obtain ⟨p', e', _, _, g', hg'⟩ := th_yes hth
                    have : p' = q := by omega
                    subst this
                    rw [hg'] at this
                    cases this
                have e1 := ((unhide HS5).up (unhide HBK)).cell q (by omega)
                rw [hfq] at e1
                have r1 : (1 : Int) ≤ q := by omega
                have r2 : ¬ (q : Int) < 1 := by omega
                have r3 : ¬ (15 : Int) < q := by omega
                have r4 : (q : Int) < 16 := by omega
                have v1 : decide ((q : Int) < 1) = false := decide_eq_false r2
                have v2 : decide (q < 1) = false := decide_eq_false (by omega)
                have v3 : decide (q = 0) = false := decide_eq_false (by omega)
                have v4 : decide ((15 : Int) < q) = false := decide_eq_false r3
                have v5' : decide (15 < q) = false := decide_eq_false (by omega)
                have v6 : q ≠ 0 := by omega
                by_cases hk0 : k = 0
                · have r5 : ¬ (0 : Int) < k := by omega
                  have v7 : decide ((0 : Int) < k) = false := decide_eq_false r5
                  have v8 : decide (0 < k) = false := decide_eq_false (by omega)
                  have v9 : ¬ 0 < k := by omega
                  clear hra hpes2 hnd hfq hth hk0
                  have hneZ : Nonempty (Gb wr) := gb_ne wr
                  have y0 : ∀ y : Gb wr, y.w.cell? ⟨g, k * 10, none⟩ = some (.int .i64 q) := fun y => gb_cell e0 y
                  have y1 : ∀ y : Gb wr, y.w.cell? ⟨ab, q, none⟩ = some (.bool false) := fun y => gb_cell e1 y
                  go_wp2_with fail
                  refine wp_region_grB (by kernel_rfl) (by kernel_rfl) ?_
                  repeat (go_big_quiet_step (fail))
                  refine wpQuiet_nil ?_
                  rintro wz ⟨xz, rfl⟩
                  have HB6 := hide ((unhide HBK).trans (xz.ok.mono (unhide HBK).size))
                  clear y0 y1 e0 e1 hneZ HBK
                  generalize xz.w = wz at *
                  go_wp2
                  go_roundw
                  case rel => exact ⟨k + 1, by omega, by go_num, unhide HB6⟩
                  case measure => simp [intOf]; omega
                · have r5 : (0 : Int) < k := by omega
                  obtain ⟨km, hkm1⟩ : ∃ km, k = km + 1 := ⟨k - 1, by omega⟩
                  obtain ⟨q', hq'⟩ : ∃ q', (ns P)[km]? = some q' := ⟨_, List.getElem?_eq_getElem (by rw [← unhide HMM]; omega)⟩
                  obtain ⟨hnd', _⟩ := (unhide HND).mem (List.mem_of_getElem? hq')
                  obtain ⟨g', hg', hra'⟩ := hpes2 km (C q') (by rw [List.getElem?_map, hq']; rfl)
                  cases hg'
                  have e2 := hra' 0 (.int .i64 (C q').nd) rfl
                  rw [hnd', Nat.add_zero] at e2
                  have hlt' : q' < q := by
                    obtain ⟨l1, l2⟩ := List.getElem?_eq_some_iff.1 hq'
                    obtain ⟨l3, l4⟩ := List.getElem?_eq_some_iff.1 hq
                    have := List.pairwise_iff_getElem.1 (ns_sorted P) km k l1 l3 (by omega)
                    rw [l2, l4] at this
                    exact this
                  have r6 : ¬ (q : Int) ≤ q' := by omega
                  have v7 : decide ((0 : Int) < k) = true := decide_eq_true r5
                  have v8 : decide (0 < k) = true := decide_eq_true (by omega)
                  have v9 : 0 < k := by omega
                  have w1' : decide ((q : Int) ≤ q') = false := decide_eq_false r6
                  have w2' : decide (q ≤ q') = false := decide_eq_false (by omega)
                  have w3' : ¬ q ≤ q' := by omega
                  have r7 : (k : Int) - 1 = km := by omega
                  have r8 : (km : Int) < m := by omega
                  have r9 : km < m := by omega
                  clear hra hra' hpes2 hnd hnd' hfq hth hk0 hlt'
                  have HKM := hide hkm1
                  clear hkm1
                  have hneZ : Nonempty (Gb wr) := gb_ne wr
                  have y0 : ∀ y : Gb wr, y.w.cell? ⟨g, k * 10, none⟩ = some (.int .i64 q) := fun y => gb_cell e0 y
                  have y1 : ∀ y : Gb wr, y.w.cell? ⟨ab, q, none⟩ = some (.bool false) := fun y => gb_cell e1 y
                  have y2 : ∀ y : Gb wr, y.w.cell? ⟨g, km * 10, none⟩ = some (.int .i64 q') := fun y => gb_cell e2 y
                  go_wp2_with fail
                  refine wp_region_grB (by kernel_rfl) (by kernel_rfl) ?_
                  repeat (go_big_quiet_step (fail))
                  refine wpQuiet_nil ?_
                  rintro wz ⟨xz, rfl⟩
                  have HB6 := hide ((unhide HBK).trans (xz.ok.mono (unhide HBK).size))
                  clear y0 y1 y2 e0 e1 e2 hneZ HBK
                  generalize xz.w = wz at *
                  go_wp2
                  go_roundw
                  case rel => exact ⟨k + 1, by omega, by go_num, unhide HB6⟩
                  case measure => simp [intOf]; omega
              · have q5 : ¬ (k : Int) < m := by omega
                have q6 : ¬ room < (m : Int) := by omega
                have HS7 := hide ((unhide HS5).up (unhide HBK))
                clear HS5 HBK HPES HBL
                go_wp2
                go_roundw
                case rel => exact ⟨i + 1, f, by omega, by go_num, unhide HS7⟩
                case measure => simp [intOf]; omega
    · have HB9 := hide (unhide HS).be
      clear HS
      by_cases hlt1 : i < n
      · have q1 : (i : Int) < n := by omega
        have q2 : ¬ (i : Int) < 60 := by omega
        go_wp2
        go_ret
        exact ⟨rfl, unhide HB9⟩
      · have q1 : ¬ (i : Int) < n := by omega
        go_wp2
        go_ret
        exact ⟨rfl, unhide HB9⟩
end Go.Proofs.Ytbklkihcdkcagaa

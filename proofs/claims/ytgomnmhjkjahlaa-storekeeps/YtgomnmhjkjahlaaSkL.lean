/- What the law StoreKeeps does, whatever the world: it answers true and changes nothing that was there. -/
import Derived.Test.YtgomnmhjkjahlaaStN
import Derived.Test.YtgomnmhjkjahlaaOpenEn
namespace Go.Proofs.Ytgomnmhjkjahlaa
open Go.RowKit
set_option linter.unusedVariables false
attribute [local go_sem] Oper.semAt_some

/-- a row of entries is kept where a store alone has turned -/
theorem own7_k2 {w w' : World} {p b base n : Nat} {room last : Int} {rs : List Raw} {v : Value} {xs : List Value} (h : w.ownsRow base 34 7 v n xs) (hS : StAt w p b room last rs) (hk : K2 p b w w') : w'.ownsRow base 34 7 v n xs := by
  refine ⟨h.1, ?_⟩
  rcases h.2 with h2 | ⟨g, cap, cur, hv, hg, hh, r⟩
  · exact .inl h2
  · refine .inr ⟨g, cap, cur, hv, hg, (hk.block g (lt_of_block hh) ?_ ?_).trans hh, r⟩
    · rintro rfl
      rw [hS.blk] at hh
      simp at hh
    · rintro rfl
      obtain ⟨es, cl, hm⟩ := hS.isMap
      rw [hm] at hh
      cases hh
theorem own7_below {w w' : World} {base n : Nat} {t : TypeId} {v : Value} {xs : List Value} (h : w.ownsRow base t 7 v n xs) (hb : Below w.heap.size w w') : w'.ownsRow base t 7 v n xs := by
  refine ⟨h.1, ?_⟩
  rcases h.2 with h2 | ⟨g, cap, cur, hv, hg, hh, r⟩
  · exact .inl h2
  · exact .inr ⟨g, cap, cur, hv, hg, (hb.block g (lt_of_block hh)).trans hh, r⟩
theorem own7_set {w : World} {base n g j : Nat} {v v' : Value} {xs : List Value} {cs : Array Value} {fr : Nat × Nat} (h : w.ownsRow base 34 7 v n xs) (hg : w.heap[g]? = some (.cells cs 36 fr)) : (w.setCell ⟨g, j, none⟩ v').ownsRow base 34 7 v n xs := by
  refine ⟨h.1, ?_⟩
  rcases h.2 with h2 | ⟨q, cap, cur, hv, hq, hh, r⟩
  · exact .inl h2
  · refine .inr ⟨q, cap, cur, hv, hq, (Below.heap_setCell _ _ _ _ ?_).trans hh, r⟩
    rintro rfl
    rw [hg] at hh
    simp at hh
theorem StAt.set {w : World} {p b g j : Nat} {room last : Int} {rs : List Raw} {v' : Value} {cs : Array Value} {fr : Nat × Nat} (h : StAt w p b room last rs) (hg : w.heap[g]? = some (.cells cs 36 fr)) : StAt (w.setCell ⟨g, j, none⟩ v') p b room last rs := by
  refine h.typed (Below.heap_setCell _ _ _ _ ?_) (Below.heap_setCell _ _ _ _ ?_) (fun k cur f hk => Below.heap_setCell _ _ _ _ ?_)
  · rintro rfl
    rw [h.blk] at hg
    simp at hg
  · rintro rfl
    obtain ⟨es, cl, hm⟩ := h.isMap
    rw [hm] at hg
    cases hg
  · rintro rfl
    rw [hk] at hg
    simp at hg
theorem StAt.grown7 {w w' : World} {p b base n : Nat} {room last : Int} {rs : List Raw} {v : Value} {xs : List Value} (h : StAt w p b room last rs) (ho : w.ownsRow base 34 7 v n xs) (hg : w.grownBy w' v.ownBlock) : StAt w' p b room last rs := by
  refine h.typed (hg.block p h.plt (fun e => ?_)) (hg.block b h.blt (fun e => ?_)) (fun k cur f hk => hg.block k (lt_of_block hk) (fun e => ?_))
  · obtain ⟨cu, hc⟩ := own_entry ho e.symm
    rw [h.blk] at hc
    simp at hc
  · obtain ⟨cu, hc⟩ := own_entry ho e.symm
    obtain ⟨es, cl, hm⟩ := h.isMap
    rw [hm] at hc
    cases hc
  · obtain ⟨cu, hc⟩ := own_entry ho e.symm
    rw [hk] at hc
    simp at hc
/-- what was given, and what is kept -/
structure Given (w : World) (last : Int) (rs gs : List Raw) : Prop where
  ids : ∀ g ∈ gs, 1 ≤ g.id ∧ g.id ≤ last
  mem : ∀ g ∈ gs, Ints w g.a0 g.idx ∧ g.idx.length ≤ 170
  as_ : ∀ r ∈ rs, ∀ g ∈ gs, r.id = g.id → r.core = g.core
theorem Given.nil (w : World) : Given w 0 [] [] := ⟨by simp, by simp, by simp⟩
theorem Given.sub {w : World} {last : Int} {rs gs : List Raw} (h : Given w last rs gs) (q : Raw → Bool) : Given w last (rs.filter q) gs := ⟨h.ids, h.mem, fun r hr => h.as_ r (List.mem_filter.1 hr).1⟩
theorem Given.add {w : World} {last : Int} {rs gs : List Raw} (h : Given w last rs gs) (hr : ∀ r ∈ rs, r.id ≤ last) (h0 : 0 ≤ last) (x : Raw) (a : Option Addr) (c : Nat) (hI : Ints w x.a0 x.idx) (hl : x.idx.length ≤ 170) : Given w (last + 1) (rs ++ [{ x with id := last + 1, a0 := a, cap := c }]) (gs ++ [{ x with id := last + 1 }]) := by
  refine ⟨fun g hg => ?_, fun g hg => ?_, fun r hr' g hg e => ?_⟩
  · rw [List.mem_append] at hg
    rcases hg with hg | hg
    · have := h.ids g hg; omega
    · simp at hg; subst hg; simp only; omega
  · rw [List.mem_append] at hg
    rcases hg with hg | hg
    · exact h.mem g hg
    · simp at hg; subst hg; exact ⟨hI, hl⟩
  · rw [List.mem_append] at hr' hg
    rcases hr' with hr' | hr' <;> rcases hg with hg | hg
    · exact h.as_ r hr' g hg e
    · simp at hg; subst hg; have := hr r hr'; simp only at e; omega
    · simp at hr'; subst hr'; have := h.ids g hg; simp only at e; omega
    · simp at hr' hg; subst hr' hg; rfl
theorem ents_one (z : World) (y : Raw) (t : TypeId) : EntsA (z.alloc (.cells (rawC y) t)) (some ⟨z.heap.size, 0, none⟩) [y] := fun i hi => by
  simp at hi
  subst hi
  refine ⟨z.heap.size, 0, rfl, ?_⟩
  have h := row7 (heap_alloc_new z (.cells (rawC y) t))
  exact ⟨h.1, h.2.1, h.2.2.1, h.2.2.2.1, h.2.2.2.2.1, h.2.2.2.2.2.1, h.2.2.2.2.2.2.1⟩
theorem ents_mid {w : World} {g o k : Nat} {y : Raw} (h : EntAt w g (o + k * 7) y) : EntsA w (some ⟨g, o + k * 7, none⟩) [y] := fun i hi => by
  simp at hi
  subst hi
  exact ⟨g, o + k * 7, rfl, by simpa using h⟩
theorem ents_row {w : World} {base : Nat} {v : Value} {y : Raw} {t : TypeId} (h : w.ownsRow base t 7 v 1 (ec [y])) : ∃ a c, v = .slice a 1 c ∧ EntsA w a [y] := EntsA.own rfl h
/-- what the marked operations of the test answer -/
def RelK (y gk : Raw) : Nat → Value → World → Prop
  | 3, v, z => ∃ h, v = .slice (some ⟨h, 0, none⟩) 1 1 ∧ EntsA z (some ⟨h, 0, none⟩) [y]
  | 4, v, z => ∃ a c, v = .slice a 1 c ∧ EntsA z a [y]
  | 10, v, z => ∃ a c, v = .slice a 1 c ∧ EntsA z a [gk]
  | _, v, _ => v = .bool true
theorem RelK.stay (y gk : Raw) (j : Nat) (v : Value) (z z' : World) (h : RelK y gk j v z) (hb : Below z.heap.size z z') : RelK y gk j v z' := by
  unfold RelK at h ⊢
  split at h
  · obtain ⟨a, h1, h2⟩ := h; exact ⟨a, h1, h2.below hb⟩
  · obtain ⟨a, c, h1, h2⟩ := h; exact ⟨a, c, h1, h2.below hb⟩
  · obtain ⟨a, c, h1, h2⟩ := h; exact ⟨a, c, h1, h2.below hb⟩
  · exact h
theorem own7_cap {w : World} {base n c : Nat} {t : TypeId} {a : Option Addr} {xs : List Value} (h : w.ownsRow base t 7 (.slice a n c) n xs) : n ≤ c ∧ c ≤ 9223372036854775807 := by
  rcases h.2 with ⟨h1, h2⟩ | ⟨g, cap, cur, h1, _, _, h2, h3, _⟩
  · simp only [Value.slice.injEq] at h1
    omega
  · simp only [Value.slice.injEq] at h1
    unfold maxLen at h3
    omega
theorem mask_in {m : List Bool} {j : Nat} (h : m[j]? = some true) : j ∈ (List.range m.length).filter fun i => m[i]? == some true :=
  List.mem_filter.2 ⟨List.mem_range.2 (List.getElem?_eq_some_iff.1 h).1, by simp [h]⟩
abbrev actC (x : ActR) : Array Value := #[.int .i64 x.kind, .int .i64 x.n, .int .i64 x.x.id, .int .i64 x.x.peer, .int .i64 x.x.mode, .int .i64 x.x.seed, .string x.x.hv, .slice x.x.a0 x.x.idx.length x.x.cap, .string x.x.dt]
theorem row9 {w : World} {g : Nat} {a b c d e f h i j : Value} {t : TypeId} (hw : w.heap[g]? = some (.cells #[a, b, c, d, e, f, h, i, j] t (0, 0))) :
    w.cell? ⟨g, 0, none⟩ = some a ∧ w.cell? ⟨g, 1, none⟩ = some b ∧ w.cell? ⟨g, 2, none⟩ = some c ∧ w.cell? ⟨g, 3, none⟩ = some d ∧ w.cell? ⟨g, 4, none⟩ = some e ∧ w.cell? ⟨g, 5, none⟩ = some f ∧ w.cell? ⟨g, 6, none⟩ = some h ∧ w.cell? ⟨g, 7, none⟩ = some i ∧ w.cell? ⟨g, 8, none⟩ = some j ∧ ∀ k, w.frozen? ⟨g, k, none⟩ = false :=
  ⟨by rw [cell_of_row _ _ 0 _ _ (0, 0) hw]; rfl, by rw [cell_of_row _ _ 1 _ _ (0, 0) hw]; rfl, by rw [cell_of_row _ _ 2 _ _ (0, 0) hw]; rfl, by rw [cell_of_row _ _ 3 _ _ (0, 0) hw]; rfl, by rw [cell_of_row _ _ 4 _ _ (0, 0) hw]; rfl, by rw [cell_of_row _ _ 5 _ _ (0, 0) hw]; rfl, by rw [cell_of_row _ _ 6 _ _ (0, 0) hw]; rfl, by rw [cell_of_row _ _ 7 _ _ (0, 0) hw]; rfl, by rw [cell_of_row _ _ 8 _ _ (0, 0) hw]; rfl, fun j => frozen_of_row _ _ j _ _ hw⟩
set_option maxRecDepth 100000 in
set_option maxHeartbeats 8000000 in
theorem storeKeeps_any (a0 : Option Addr) (l : List ActR) (c : Nat) (w : World) (hA : ActsA w a0 l) (hO : ActsOk w l c) : Calls Try.prog 4 #[.slice a0 l.length c] w fun e w' => e = .returned (.bool true) ∧ Below w.heap.size w w' := by
  obtain ⟨i0, hi0, hz0, hz1, hz2⟩ := info_parts Try.infoEn
  have hn := hide (new_any 10 w (by omega) (by omega))
  have HA := hide hA
  have HRO := hide hO.2.2
  have hlm : l.length ≤ maxLen := Nat.le_trans hO.1 hO.2.1
  unfold maxLen at hlm
  clear hA hO
  generalize hL : l.length = L at *
  have HL := hide hL
  clear hL
  go_enter Try.func4, Try.ntmps4
  go_wp2_with fail
  refine (unhide hn).mono ?_
  rintro e w1 ⟨⟨p, b, rfl, hp, hb, hS1⟩, hB1⟩
  have HS1 := hide hS1
  have HB1 := hide hB1
  clear hS1 hB1 hn
  go_wp2_with fail
  refine (sawake_any w1).mono ?_
  rintro e w2 ⟨rfl, hb2⟩
  have HS2 := hide ((unhide HS1).kept hb2)
  have HB2 := hide ((unhide HB1).trans (hb2.mono (unhide HB1).size))
  clear hb2 HS1 HB1
  go_wp2_with fail
  go_loopw [4, 5, 6] (fun gv lv iv wr => ∃ (i : Nat) (last : Int) (rs gs : List Raw), i ≤ L ∧ i ≤ 40 ∧ iv = .int .i64 i ∧ lv = .int .i64 last ∧ StAt wr p b 10 last rs ∧ last ≤ i ∧ wr.ownsRow w.heap.size 34 7 gv gs.length (ec gs) ∧ gs.length ≤ i ∧ Given w last rs gs ∧ Below w.heap.size w wr) (fun _ _ iv _ => 40 - (intOf iv).toNat)
  case atStart => exact ⟨0, 0, [], [], by omega, by omega, rfl, rfl, unhide HS2, by omega, World.ownsRow_nil _ _ _ _, by simp, Given.nil w, unhide HB2⟩
  case round =>
    clear HS2 HB2
    obtain ⟨i, last, rs, gs, hiL, hi40, rfl, rfl, hS, hlast, hrow, hgl, hG, hB⟩ := hrel
    obtain ⟨ga, gc, rfl⟩ := own_shape7 hrow
    have hplt := hS.plt
    have hlast0 := hS.last0
    have hblt := hS.blt
    generalize hgn : gs.length = gn at *
    have HGN := hide hgn
    have HS := hide hS
    have HB := hide hB
    have HROW := hide hrow
    have HG := hide hG
    clear hS hB hrow hG hgn
    by_cases hlt : i < L ∧ i < 40
    · obtain ⟨hlt1, hlt2⟩ := hlt
      have hlt' : i < l.length := by rw [unhide HL]; exact hlt1
      obtain ⟨g, o, rfl, hk0, hk1, hE⟩ := (unhide HA).below (unhide HB) i hlt'
      have hro := unhide HRO _ (List.getElem_mem hlt')
      generalize l[i] = x at *
      have hf := hide (fun w => few_any x.kind x.n x.x w)
      have hxlt : Hid (x.x.idx ≠ [] → ∀ a, x.x.a0 = some a → a.block ≠ p) := fun hne a ha => by have := hro.1.lt hne a ha; omega
      have HIW := hide hro.1.ints
      have hwN := hide hro.2.2
      obtain ⟨c0, c1, c2, c3, c4, c5, c6⟩ := hE
      have q1 : (i : Int) < L := by omega
      have q2 : (i : Int) < 40 := by omega
      have hX := hide (heap_alloc_new wr (.cells (actC x) 36))
      have hBX := hide ((unhide HB).alloc (unhide HB).size (.cells (actC x) 36))
      have hSX := hide ((unhide HS).kept ((Below.refl _ _).alloc (Nat.le_refl _) (.cells (actC x) 36)))
      have hRX := hide ((unhide HROW).alloc (.cells (actC x) 36))
      clear hro hlt'
      cases hfb : fewB x.x with
      | false =>
        rw [hfb] at hf
        go_wp2_with fail
        refine (unhide hf _).mono ?_
        rintro e w3 ⟨rfl, hb3⟩
        have HS3 := hide ((unhide hSX).kept hb3)
        have HB3 := hide ((unhide hBX).trans (hb3.mono (unhide hBX).size))
        have HR3 := hide (own7_below (unhide hRX) hb3)
        clear hb3 c0 c1 c2 c3 c4 c5 c6 hk0 hk1
        go_wp2
        go_roundw
        case rel => exact ⟨i + 1, last, rs, gs, by omega, by omega, by go_num, rfl, unhide HS3, by omega, by rw [unhide HGN]; exact unhide HR3, by have := unhide HGN; omega, unhide HG, unhide HB3⟩
        case measure => simp [intOf]; omega
      | true =>
        rw [hfb] at hf
        go_wp2_with fail
        refine (unhide hf _).mono ?_
        rintro e w3 ⟨rfl, hb3⟩
        have hX3 := (hb3.block _ (lt_of_block (unhide hX))).trans (unhide hX)
        have HS3 := hide ((unhide hSX).kept hb3)
        have HB3 := hide ((unhide hBX).trans (hb3.mono (unhide hBX).size))
        have HR3 := hide (own7_below (unhide hRX) hb3)
        have HX3 := hide hX3
        clear hb3 c0 c1 c2 c3 c4 c5 c6 hk0 hk1 hX hBX hSX hRX HS HB HROW
        obtain ⟨x0, x1, x2, x3, x4, x5, x6, x7, x8, fx⟩ := row9 hX3
        clear hX3
        have hwX : wr.heap.size ≠ p := by omega
        have hwXb : wr.heap.size ≠ b := by omega
        have hszB : w.heap.size ≤ wr.heap.size := by
          have := (unhide HB3).size
          have := lt_of_block (unhide HX3)
          have := hp
          omega
        by_cases hk0 : x.kind = 0
        · rw [hk0] at x0
          have hA3 := hide (add_spec p b 10 last rs x.x w3 (unhide HS3) ((unhide HIW).below (unhide HB3)) hfb (unhide hxlt) (by omega))
          have hfew := fewB_facts hfb
          have HK0 := hide hk0
          clear hfb hk0
          generalize (addS 10 last rs x.x).1 = id' at *
          generalize (addS 10 last rs x.x).2 = er at *
          go_wp2_with fail
          refine (unhide hA3).mono ?_
          rintro e w4 ⟨rfl, hs4, hk4⟩
          have hX4 := (hk4.block _ (lt_of_block (unhide HX3)) hwX hwXb).trans (unhide HX3)
          have HB4 := hide ((unhide HB3).trans (hk4.below w.heap.size (unhide HB3).size hp hb))
          have HR4 := hide (own7_k2 (unhide HR3) (unhide HS3) hk4)
          have HX4 := hide hX4
          clear x0 x1 x2 x3 x4 x5 x6 x7 x8 fx hk4 hA3
          obtain ⟨x0, x1, x2, x3, x4, x5, x6, x7, x8, fx⟩ := row9 hX4
          rw [unhide HK0] at x0
          clear hX4
          rcases hs4 with ⟨rfl, rfl, a1, c1, hS4⟩ | ⟨hne, hS4⟩
          · have HX5 : Hid ((w4.setCell ⟨wr.heap.size, 2, none⟩ (.int .i64 (last + 1))).heap[wr.heap.size]? = some (.cells #[.int .i64 x.kind, .int .i64 x.n, .int .i64 (last + 1), .int .i64 x.x.peer, .int .i64 x.x.mode, .int .i64 x.x.seed, .string x.x.hv, .slice x.x.a0 x.x.idx.length x.x.cap, .string x.x.dt] 36 (0, 0))) := by
              show _ = _
              rw [heap_setCell_same _ wr.heap.size 2 _ _ _ (unhide HX4)]
              rfl
            have HS5 := hide (hS4.set (j := 2) (v' := .int .i64 (last + 1)) (unhide HX4))
            have HR5 := hide (own7_set (j := 2) (v' := .int .i64 (last + 1)) (unhide HR4) (unhide HX4))
            have HB5 := hide ((unhide HB4).setCell (p := ⟨wr.heap.size, 2, none⟩) hszB (.int .i64 (last + 1)))
            have hG5 := (unhide HG).add (fun r hr => ((unhide HS3).ids r hr).2) hlast0 x.x a1 c1 (unhide HIW) (by omega)
            have HG5 := hide hG5
            have d1 : ¬ (last + 1 ≤ last) := by omega
            have d2 : decide (last + 1 ≤ last) = false := decide_eq_false d1
            have hsz5 : w.heap.size ≤ w4.heap.size := (unhide HB4).size
            clear hS4 hG5
            go_wp2_with (at_builtin; refine wpList_append_own _ rfl _ _ 55 rfl w.heap.size 34 i0 _ 7 88 Try.undEn hi0 hz0 hz1 hz2 rfl (by decide) _ _ _ rfl ((unhide HR5).alloc _) ⟨w4.heap.size, 0, none⟩ 1 1 [.int .i64 (last + 1), .int .i64 x.x.peer, .int .i64 x.x.mode, .int .i64 x.x.seed, .string x.x.hv, .slice x.x.a0 x.x.idx.length x.x.cap, .string x.x.dt] rfl rfl ?d1 ?d2 ?d3 ?d4 ?d5 ?_)
            case d1 => have h := news_lit (w4.setCell ⟨wr.heap.size, 2, none⟩ (.int .i64 (last + 1))) [.int .i64 (last + 1), .int .i64 x.x.peer, .int .i64 x.x.mode, .int .i64 x.x.seed, .string x.x.hv, .slice x.x.a0 x.x.idx.length x.x.cap, .string x.x.dt] 34; simpa using h
            case d2 => intro u hu; simp at hu; rcases hu with rfl | rfl | rfl | rfl | rfl | rfl | rfl <;> rfl
            case d3 => unfold maxLen; omega
            case d4 => omega
            case d5 => simp; omega
            intro v6 wz hown6 hgrow _
            have hrow6 : wz.ownsRow w.heap.size 34 7 v6 (gn + 1) (ec (gs ++ [{ x.x with id := last + 1 }])) := by rw [ec_append, ec_one]; exact hown6
            obtain ⟨gaz, gcz, rfl⟩ := own_shape7 hrow6
            have hSz := ((unhide HS5).kept ((Below.refl _ _).alloc (Nat.le_refl _) (.cells #[.int .i64 (last + 1), .int .i64 x.x.peer, .int .i64 x.x.mode, .int .i64 x.x.seed, .string x.x.hv, .slice x.x.a0 x.x.idx.length x.x.cap, .string x.x.dt] 34))).grown7 ((unhide HR5).alloc _) hgrow
            have hXz : wz.heap[wr.heap.size]? = some (.cells #[.int .i64 x.kind, .int .i64 x.n, .int .i64 (last + 1), .int .i64 x.x.peer, .int .i64 x.x.mode, .int .i64 x.x.seed, .string x.x.hv, .slice x.x.a0 x.x.idx.length x.x.cap, .string x.x.dt] 36 (0, 0)) := by
              have h1 := lt_of_block (unhide HX5)
              rw [hgrow.block wr.heap.size (by simp at h1 ⊢; omega) (fun e => by
                obtain ⟨cu, hcu⟩ := own_entry (unhide HR5) e.symm
                rw [unhide HX5] at hcu
                simp at hcu), Below.heap_alloc _ _ _ h1]
              exact unhide HX5
            have HBz := hide (((unhide HB5).alloc (by simpa using hsz5) (.cells #[.int .i64 (last + 1), .int .i64 x.x.peer, .int .i64 x.x.mode, .int .i64 x.x.seed, .string x.x.hv, .slice x.x.a0 x.x.idx.length x.x.cap, .string x.x.dt] 34)).grown hgrow (by simp; omega) (fun j hj => ((unhide HR5).lt j hj).1))
            have HRz := hide hrow6
            have HSz := hide hSz
            have hlen6 : (gs ++ [{ x.x with id := last + 1 }]).length = gn + 1 := by rw [List.length_append, unhide HGN]; rfl
            clear x0 x1 x2 x3 x4 x5 x6 x7 x8 fx hrow6 hSz hown6 hgrow HX5 HR5 HB5 HS5
            obtain ⟨x0, x1, x2, x3, x4, x5, x6, x7, x8, fx⟩ := row9 hXz
            rw [unhide HK0] at x0
            clear hXz
            have HGz := hide (unhide HG5)
            clear HG5
            generalize (rs ++ [{ x.x with id := last + 1, a0 := a1, cap := c1 }]) = rsz at *
            generalize (gs ++ [{ x.x with id := last + 1 }]) = gsz at *
            have HGNz := hide hlen6
            have hlz : last + 1 ≤ (i : Int) + 1 := by omega
            have hgz : gn + 1 ≤ i + 1 := by omega
            clear hlen6
            go_wp2_with fail
            have hrl : rsz.length ≤ 10 := by have := (unhide HSz).len; omega
            have hgsl := unhide HGNz
            have HGSL := hide hgsl
            clear hgsl x0 x1 x2 x3 x4 x5 x6 x7 x8 fx
            obtain ⟨wo, hwo⟩ : ∃ z, z = wr := ⟨_, rfl⟩
            clear hwo
            go_loopw [10] (fun v wy => ∃ k : Nat, k ≤ (gn + 1) ∧ v = .int .i64 k ∧ Below wz.heap.size wz wy) (fun v _ => ((gn + 1) - (intOf v)).toNat)
            case atStart => exact ⟨0, Nat.zero_le _, rfl, Below.refl _ _⟩
            case round =>
              obtain ⟨k, hk, rfl, hBy⟩ := hrel
              have HBy := hide hBy
              have HBw := hide ((unhide HBz).trans (hBy.mono (unhide HBz).size))
              clear hBy
              by_cases hltk : k < (gn + 1)
              · have hkl : k < gsz.length := by rw [unhide HGSL]; exact hltk
                obtain ⟨A1, C1, he1, hE1⟩ := EntsA.own (unhide HGSL) (own7_below (unhide HRz) (unhide HBy))
                simp only [Value.slice.injEq, true_and] at he1
                obtain ⟨rfl, rfl⟩ := he1
                obtain ⟨g1, o1, rfl, hEk⟩ := hE1 k hkl
                have hgm := List.getElem_mem hkl
                have hgi := (unhide HGz).ids _ hgm
                have hgme := (unhide HGz).mem _ hgm
                have hgas := fun r hr => (unhide HGz).as_ r hr _ hgm
                generalize gsz[k] = gk at *
                have HEk := hide hEk
                have e0 := hEk.1
                have hSy := (unhide HSz).kept (unhide HBy)
                have hget := hide (get_any p b 10 (last + 1) rsz gk.id (WalkArith.wf_i64 (by omega)) wr hSy)
                have HGAS := hide hgas
                have HGME := hide hgme
                have q5 : (k : Int) < ((gn + 1) : Nat) := by omega
                have q6 : (k : Int) < ((gn + 1) : Int) := by omega
                clear hE1 hEk hgm hgas hgme hSy hkl
                go_wp2_with fail
                refine (unhide hget).mono ?_
                rintro e wg ⟨hcs, hbg⟩
                have HBg := hide ((unhide HBy).trans (hbg.mono (unhide HBy).size))
                have hEg := (unhide HEk).same (hbg.block g1 (cell_lt e0))
                have HEg := hide hEg
                clear hbg e0 hget hEg
                rcases hcs with ⟨_, y, rfl⟩ | ⟨r, hr, hrk, a9, c9, rfl, hI9⟩
                · have HBq := hide ((unhide HBg).alloc (unhide HBg).size (.cells (rawC y) 34))
                  go_wp2_with fail
                  go_big_quiet ((fail))
                  have HBr := hide (below_drawn (unhide HBq) nq)
                  go_wp2
                  go_roundw
                  case rel => exact ⟨k + 1, by omega, by go_num, unhide HBr⟩
                  case measure => simp [intOf]; omega
                · have hBl9 : Below wg.heap.size wg (wg.alloc (.cells (rawC (r.at_ a9 c9)) 34)) := (Below.refl _ _).alloc (Nat.le_refl _) _
                  have hX9 := heap_alloc_new wg (.cells (rawC (r.at_ a9 c9)) 34)
                  have HX9 := hide hX9
                  have HBq := hide ((unhide HBg).alloc (unhide HBg).size (.cells (rawC (r.at_ a9 c9)) 34))
                  have HI9 := hide (hI9.below hBl9)
                  have hEq := (unhide HEg).same (hBl9.block g1 (cell_lt (unhide HEg).1))
                  have HEq := hide hEq
                  have HCO := hide (unhide HGAS r hr hrk)
                  have hbwg := (unhide HBz).trans ((unhide HBg).mono (unhide HBz).size)
                  have HGI := hide ((unhide HGME).1.below (hbwg.alloc hbwg.size (.cells (rawC (r.at_ a9 c9)) 34)))
                  clear hbwg
                  clear hBl9 hX9 hI9 hEq hr hrk
                  have hcap := own7_cap (unhide HRz)
                  have hil : gk.idx.length ≤ 100000 := by have := (unhide HGME).2; omega
                  go_wp2_with fail
                  generalize hq9 : wg.heap.size = h9 at *
                  generalize hWq : wg.alloc (.cells (rawC (r.at_ a9 c9)) 34) = Wq at *
                  clear hWq hq9
                  refine wp_region_rel [false, false, false, true, true, false, false, false, false, false, true, true, false, false] [(92, true)] [11] [94, 95, 101, 102] (Act.put _ (some 102) (.bool true)) ?A91 (fun x y => Below x.heap.size x y) (RelK (r.at_ a9 c9) gk) (by kernel_rfl) (by kernel_rfl) (fun x y z h1 h2 => h1.trans (h2.mono h1.size)) (fun x y h => h) (fun j v x y h hb => RelK.stay _ _ j v x y h hb) ((Off.refl _ _).put 102 _ (by simp)) ?det1 ?lex1 ?gA1 ?st1 ?fin1
                  case lex1 =>
                    intro z hz
                    have hneX := gb_ne z
                    have e0 : ∀ y : Gb z, y.w.cell? ⟨h9, 0, none⟩ = some (.int .i64 r.id) := fun y => gb_cell (cell_below (row7 (unhide HX9)).1 hz) y
                    have e1 : ∀ y : Gb z, y.w.cell? ⟨h9, 1, none⟩ = some (.int .i64 r.peer) := fun y => gb_cell (cell_below (row7 (unhide HX9)).2.1 hz) y
                    have e2 : ∀ y : Gb z, y.w.cell? ⟨h9, 2, none⟩ = some (.int .i64 r.mode) := fun y => gb_cell (cell_below (row7 (unhide HX9)).2.2.1 hz) y
                    have e3 : ∀ y : Gb z, y.w.cell? ⟨h9, 3, none⟩ = some (.int .i64 r.seed) := fun y => gb_cell (cell_below (row7 (unhide HX9)).2.2.2.1 hz) y
                    have e4 : ∀ y : Gb z, y.w.cell? ⟨h9, 4, none⟩ = some (.string r.hv) := fun y => gb_cell (cell_below (row7 (unhide HX9)).2.2.2.2.1 hz) y
                    have e5 : ∀ y : Gb z, y.w.cell? ⟨h9, 5, none⟩ = some (.slice a9 r.idx.length c9) := fun y => gb_cell (cell_below (row7 (unhide HX9)).2.2.2.2.2.1 hz) y
                    have e6 : ∀ y : Gb z, y.w.cell? ⟨h9, 6, none⟩ = some (.string r.dt) := fun y => gb_cell (cell_below (row7 (unhide HX9)).2.2.2.2.2.2.1 hz) y
                    have n1 : (k : Int) + 1 ≤ gcz := by omega
                    have n2 : (k : Int) ≤ gcz := by omega
                    have n3 : ¬ (gcz : Int) < (k : Int) + 1 := by omega
                    have n4 : k + 1 ≤ gcz := by omega
                    have n5 : k ≠ gcz := by omega
                    have n6 : ¬ gcz - k = 0 := by omega
                    have n7 : (gcz : Int) ≤ 9223372036854775807 := by omega
                    dsimp only [restM]
                    simp only [Act.put, List.setIfInBounds_toArray, List.set_cons_succ, List.set_cons_zero]
                    repeat (go_big_quiet_step ((fail)))
                    refine wpQuiet_nil ?_
                    exact rfl
                  case det1 =>
                    intro j hj o s ho hs v z hR
                    simp only [List.mem_singleton] at hj
                    subst hj
                    simp only [List.getElem?_cons_succ, List.getElem?_cons_zero, Option.some.injEq] at ho
                    subst ho
                    simp only [Option.some.injEq] at hs
                    subst hs
                    exact hR.trans rfl
                  case gA1 =>
                    intro g hg
                    simp only [List.mem_singleton] at hg
                    subst hg
                    rfl
                  case st1 =>
                    intro j o ho hmj z bb hz hop
                    have hj : j ∈ [3, 4, 10, 11] := mask_in hmj
                    simp only [List.mem_cons, List.not_mem_nil, or_false] at hj
                    rcases hj with rfl | rfl | rfl | rfl
                    · simp only [List.getElem?_cons_succ, List.getElem?_cons_zero, Option.some.injEq] at ho
                      subst ho
                      have y0 : bb.eval (.tmp 93) = rawV (r.at_ a9 c9) := hop 93 (by simp [Op.operands])
                      have y0' : bb.tmps[93]?.getD undef = rawV (r.at_ a9 c9) := by simpa [Act.eval] using y0
                      go_simp
                      exact ⟨_, rfl, ⟨_, rfl, ents_one z _ _⟩, (Below.refl _ _).alloc (Nat.le_refl _) _⟩
                    · simp only [List.getElem?_cons_succ, List.getElem?_cons_zero, Option.some.injEq] at ho
                      subst ho
                      obtain ⟨h, y0, hE⟩ : ∃ h, bb.eval (.tmp 94) = .slice (some ⟨h, 0, none⟩) 1 1 ∧ EntsA z (some ⟨h, 0, none⟩) [r.at_ a9 c9] := hop 94 (by simp [Op.operands, Call.operands])
                      refine wp_call 22 #[.tmp 94] _ rfl Try.call22 #[.slice (some ⟨h, 0, none⟩) 1 1] (by simp [y0]) (refs_any [r.at_ a9 c9] _ 1 z hE (by simp)) ?_
                      rintro e w7 ⟨⟨v, rfl, hrow⟩, b7⟩
                      exact ⟨_, rfl, _, rfl, ents_row hrow, b7⟩
                    · simp only [List.getElem?_cons_succ, List.getElem?_cons_zero, Option.some.injEq] at ho
                      subst ho
                      have y0 : bb.eval (.tmp 100) = .slice (some ⟨g1, o1 + k * 7, none⟩) 1 (gcz - k) := hop 100 (by simp [Op.operands, Call.operands])
                      refine wp_call 22 #[.tmp 100] _ rfl Try.call22 #[.slice (some ⟨g1, o1 + k * 7, none⟩) 1 (gcz - k)] (by simp [y0]) (refs_any [gk] _ _ z ((ents_mid (unhide HEq)).below hz) (by simp)) ?_
                      rintro e w7 ⟨⟨v, rfl, hrow⟩, b7⟩
                      exact ⟨_, rfl, _, rfl, ents_row hrow, b7⟩
                    · simp only [List.getElem?_cons_succ, List.getElem?_cons_zero, Option.some.injEq] at ho
                      subst ho
                      obtain ⟨aa, ca, y0, hEa⟩ : ∃ a c, bb.eval (.tmp 95) = .slice a 1 c ∧ EntsA z a [r.at_ a9 c9] := hop 95 (by simp [Op.operands, Call.operands])
                      obtain ⟨ab, cb, y1, hEb⟩ : ∃ a c, bb.eval (.tmp 101) = .slice a 1 c ∧ EntsA z a [gk] := hop 101 (by simp [Op.operands, Call.operands])
                      refine wp_call 21 #[.tmp 95, .tmp 101] _ rfl Try.call21 #[.slice aa 1 ca, .slice ab 1 cb] (by simp [y0, y1]) (same14_any [r.at_ a9 c9] [gk] (by have h := unhide HCO; simp only [List.map_cons, List.map_nil]; rw [← h]; rfl) aa ab ca cb 1 rfl (by omega) z hEa hEb (fun q hq => by simp at hq; subst hq; exact ⟨(unhide HI9).below hz, by have h := congrArg List.length (show r.core.idx = gk.core.idx from congrArg _ (unhide HCO)); simp only [Raw.core] at h; simp only; omega⟩) (fun q hq => by simp at hq; subst hq; exact (unhide HGI).below hz)) ?_
                      rintro e w7 ⟨rfl, b7⟩
                      exact ⟨_, rfl, _, rfl, rfl, b7⟩
                  case fin1 =>
                    intro bb z hz hoff hrel
                    have hall := Off.all _ _ hoff
                    simp only [List.foldl_cons, List.foldl_nil] at hall
                    generalize bb.eval (.tmp 94) = v94 at hall
                    generalize bb.eval (.tmp 95) = v95 at hall
                    generalize bb.eval (.tmp 101) = v101 at hall
                    generalize bb.eval (.tmp 102) = v102 at hall
                    rw [hall]
                    clear hall hrel hoff bb
                    have HBr := hide ((unhide HBq).trans (hz.mono (unhide HBq).size))
                    clear hz
                    simp only [Act.put, List.setIfInBounds_toArray, List.set_cons_succ, List.set_cons_zero]
                    go_wp2
                    go_roundw
                    case rel => exact ⟨k + 1, by omega, by go_num, unhide HBr⟩
                    case measure => simp [intOf]; omega
              · have hke : k = (gn + 1) := by omega
                have q5 : ¬ (k : Int) < ((gn + 1) : Nat) := by omega
                have q6 : ¬ (k : Int) < ((gn + 1) : Int) := by omega
                have hSy := (unhide HSz).kept (unhide HBy)
                have hln := hide (len_any p b 10 (last + 1) rsz wr hSy)
                have hal := hide (all_any p b 10 (last + 1) rsz wr hSy)
                have HSy := hide hSy
                have HRy := hide (own7_below (unhide HRz) (unhide HBy))
                generalize hrn : rsz.length = rn at *
                have HRN := hide hrn
                clear hSy hrn
                have n1 : ¬ (10 : Int) < rn := by omega
                have n2 : decide ((10 : Int) < rn) = false := decide_eq_false n1
                go_wp2_with fail
                refine (unhide hln).mono ?_
                rintro e w7 ⟨rfl, rfl⟩
                go_wp2_with fail
                refine (unhide hal).mono ?_
                rintro e w8 ⟨⟨v8, rfl, rs8, hO8⟩, hb8⟩
                have hn8 := core_len hO8.core
                rw [unhide HRN] at hn8
                have hrow8 := hO8.row
                rw [hn8] at hrow8
                obtain ⟨a8, c8, rfl⟩ := own_shape7 hrow8
                have hSz8 := (unhide HSy).kept hb8
                have hln8 := hide (len_any p b 10 (last + 1) rsz w8 hSz8)
                rw [unhide HRN] at hln8
                have HS8 := hide hSz8
                have HR8 := hide (own7_below (unhide HRy) hb8)
                have HB8 := hide ((unhide HBw).trans (hb8.mono (unhide HBw).size))
                clear hO8 hb8 hn8 hrow8 hSz8 hal hln
                go_wp2_with fail
                refine (unhide hln8).mono ?_
                rintro e w9 ⟨rfl, rfl⟩
                go_wp2
                go_roundw
                case rel => exact ⟨i + 1, _, rsz, gsz, by omega, by omega, by go_num, rfl, unhide HS8, by omega, by rw [unhide HGSL]; exact unhide HR8, by rw [unhide HGSL]; omega, unhide HGz, unhide HB8⟩
                case measure => simp [intOf]; omega
          · have HSz := hide hS4
            have d1 : (er == 0) = false := by simpa using hne
            have HRz := HR4
            have HBz := HB4
            have HGz := HG
            have HGNz := HGN
            have hlz : last ≤ (i : Int) + 1 := by omega
            have hgz : gn ≤ i + 1 := by omega
            clear hS4 hne
            go_wp2_with fail
            have hrl : rs.length ≤ 10 := by have := (unhide HSz).len; omega
            have hgsl := unhide HGNz
            have HGSL := hide hgsl
            clear hgsl x0 x1 x2 x3 x4 x5 x6 x7 x8 fx
            obtain ⟨wo, hwo⟩ : ∃ z, z = wr := ⟨_, rfl⟩
            clear hwo
            go_loopw [10] (fun v wy => ∃ k : Nat, k ≤ (gn) ∧ v = .int .i64 k ∧ Below w4.heap.size w4 wy) (fun v _ => ((gn) - (intOf v)).toNat)
            case atStart => exact ⟨0, Nat.zero_le _, rfl, Below.refl _ _⟩
            case round =>
              obtain ⟨k, hk, rfl, hBy⟩ := hrel
              have HBy := hide hBy
              have HBw := hide ((unhide HBz).trans (hBy.mono (unhide HBz).size))
              clear hBy
              by_cases hltk : k < (gn)
              · have hkl : k < gs.length := by rw [unhide HGSL]; exact hltk
                obtain ⟨A1, C1, he1, hE1⟩ := EntsA.own (unhide HGSL) (own7_below (unhide HRz) (unhide HBy))
                simp only [Value.slice.injEq, true_and] at he1
                obtain ⟨rfl, rfl⟩ := he1
                obtain ⟨g1, o1, rfl, hEk⟩ := hE1 k hkl
                have hgm := List.getElem_mem hkl
                have hgi := (unhide HGz).ids _ hgm
                have hgme := (unhide HGz).mem _ hgm
                have hgas := fun r hr => (unhide HGz).as_ r hr _ hgm
                generalize gs[k] = gk at *
                have HEk := hide hEk
                have e0 := hEk.1
                have hSy := (unhide HSz).kept (unhide HBy)
                have hget := hide (get_any p b 10 (last) rs gk.id (WalkArith.wf_i64 (by omega)) wr hSy)
                have HGAS := hide hgas
                have HGME := hide hgme
                have q5 : (k : Int) < ((gn) : Nat) := by omega
                have q6 : (k : Int) < ((gn) : Int) := by omega
                clear hE1 hEk hgm hgas hgme hSy hkl
                go_wp2_with fail
                refine (unhide hget).mono ?_
                rintro e wg ⟨hcs, hbg⟩
                have HBg := hide ((unhide HBy).trans (hbg.mono (unhide HBy).size))
                have hEg := (unhide HEk).same (hbg.block g1 (cell_lt e0))
                have HEg := hide hEg
                clear hbg e0 hget hEg
                rcases hcs with ⟨_, y, rfl⟩ | ⟨r, hr, hrk, a9, c9, rfl, hI9⟩
                · have HBq := hide ((unhide HBg).alloc (unhide HBg).size (.cells (rawC y) 34))
                  go_wp2_with fail
                  go_big_quiet ((fail))
                  have HBr := hide (below_drawn (unhide HBq) nq)
                  go_wp2
                  go_roundw
                  case rel => exact ⟨k + 1, by omega, by go_num, unhide HBr⟩
                  case measure => simp [intOf]; omega
                · have hBl9 : Below wg.heap.size wg (wg.alloc (.cells (rawC (r.at_ a9 c9)) 34)) := (Below.refl _ _).alloc (Nat.le_refl _) _
                  have hX9 := heap_alloc_new wg (.cells (rawC (r.at_ a9 c9)) 34)
                  have HX9 := hide hX9
                  have HBq := hide ((unhide HBg).alloc (unhide HBg).size (.cells (rawC (r.at_ a9 c9)) 34))
                  have HI9 := hide (hI9.below hBl9)
                  have hEq := (unhide HEg).same (hBl9.block g1 (cell_lt (unhide HEg).1))
                  have HEq := hide hEq
                  have HCO := hide (unhide HGAS r hr hrk)
                  have hbwg := (unhide HBz).trans ((unhide HBg).mono (unhide HBz).size)
                  have HGI := hide ((unhide HGME).1.below (hbwg.alloc hbwg.size (.cells (rawC (r.at_ a9 c9)) 34)))
                  clear hbwg
                  clear hBl9 hX9 hI9 hEq hr hrk
                  have hcap := own7_cap (unhide HRz)
                  have hil : gk.idx.length ≤ 100000 := by have := (unhide HGME).2; omega
                  go_wp2_with fail
                  generalize hq9 : wg.heap.size = h9 at *
                  generalize hWq : wg.alloc (.cells (rawC (r.at_ a9 c9)) 34) = Wq at *
                  clear hWq hq9
                  refine wp_region_rel [false, false, false, true, true, false, false, false, false, false, true, true, false, false] [(92, true)] [11] [94, 95, 101, 102] (Act.put _ (some 102) (.bool true)) ?A92 (fun x y => Below x.heap.size x y) (RelK (r.at_ a9 c9) gk) (by kernel_rfl) (by kernel_rfl) (fun x y z h1 h2 => h1.trans (h2.mono h1.size)) (fun x y h => h) (fun j v x y h hb => RelK.stay _ _ j v x y h hb) ((Off.refl _ _).put 102 _ (by simp)) ?det2 ?lex2 ?gA2 ?st2 ?fin2
                  case lex2 =>
                    intro z hz
                    have hneX := gb_ne z
                    have e0 : ∀ y : Gb z, y.w.cell? ⟨h9, 0, none⟩ = some (.int .i64 r.id) := fun y => gb_cell (cell_below (row7 (unhide HX9)).1 hz) y
                    have e1 : ∀ y : Gb z, y.w.cell? ⟨h9, 1, none⟩ = some (.int .i64 r.peer) := fun y => gb_cell (cell_below (row7 (unhide HX9)).2.1 hz) y
                    have e2 : ∀ y : Gb z, y.w.cell? ⟨h9, 2, none⟩ = some (.int .i64 r.mode) := fun y => gb_cell (cell_below (row7 (unhide HX9)).2.2.1 hz) y
                    have e3 : ∀ y : Gb z, y.w.cell? ⟨h9, 3, none⟩ = some (.int .i64 r.seed) := fun y => gb_cell (cell_below (row7 (unhide HX9)).2.2.2.1 hz) y
                    have e4 : ∀ y : Gb z, y.w.cell? ⟨h9, 4, none⟩ = some (.string r.hv) := fun y => gb_cell (cell_below (row7 (unhide HX9)).2.2.2.2.1 hz) y
                    have e5 : ∀ y : Gb z, y.w.cell? ⟨h9, 5, none⟩ = some (.slice a9 r.idx.length c9) := fun y => gb_cell (cell_below (row7 (unhide HX9)).2.2.2.2.2.1 hz) y
                    have e6 : ∀ y : Gb z, y.w.cell? ⟨h9, 6, none⟩ = some (.string r.dt) := fun y => gb_cell (cell_below (row7 (unhide HX9)).2.2.2.2.2.2.1 hz) y
                    have n1 : (k : Int) + 1 ≤ gc := by omega
                    have n2 : (k : Int) ≤ gc := by omega
                    have n3 : ¬ (gc : Int) < (k : Int) + 1 := by omega
                    have n4 : k + 1 ≤ gc := by omega
                    have n5 : k ≠ gc := by omega
                    have n6 : ¬ gc - k = 0 := by omega
                    have n7 : (gc : Int) ≤ 9223372036854775807 := by omega
                    dsimp only [restM]
                    simp only [Act.put, List.setIfInBounds_toArray, List.set_cons_succ, List.set_cons_zero]
                    repeat (go_big_quiet_step ((fail)))
                    refine wpQuiet_nil ?_
                    exact rfl
                  case det2 =>
                    intro j hj o s ho hs v z hR
                    simp only [List.mem_singleton] at hj
                    subst hj
                    simp only [List.getElem?_cons_succ, List.getElem?_cons_zero, Option.some.injEq] at ho
                    subst ho
                    simp only [Option.some.injEq] at hs
                    subst hs
                    exact hR.trans rfl
                  case gA2 =>
                    intro g hg
                    simp only [List.mem_singleton] at hg
                    subst hg
                    rfl
                  case st2 =>
                    intro j o ho hmj z bb hz hop
                    have hj : j ∈ [3, 4, 10, 11] := mask_in hmj
                    simp only [List.mem_cons, List.not_mem_nil, or_false] at hj
                    rcases hj with rfl | rfl | rfl | rfl
                    · simp only [List.getElem?_cons_succ, List.getElem?_cons_zero, Option.some.injEq] at ho
                      subst ho
                      have y0 : bb.eval (.tmp 93) = rawV (r.at_ a9 c9) := hop 93 (by simp [Op.operands])
                      have y0' : bb.tmps[93]?.getD undef = rawV (r.at_ a9 c9) := by simpa [Act.eval] using y0
                      go_simp
                      exact ⟨_, rfl, ⟨_, rfl, ents_one z _ _⟩, (Below.refl _ _).alloc (Nat.le_refl _) _⟩
                    · simp only [List.getElem?_cons_succ, List.getElem?_cons_zero, Option.some.injEq] at ho
                      subst ho
                      obtain ⟨h, y0, hE⟩ : ∃ h, bb.eval (.tmp 94) = .slice (some ⟨h, 0, none⟩) 1 1 ∧ EntsA z (some ⟨h, 0, none⟩) [r.at_ a9 c9] := hop 94 (by simp [Op.operands, Call.operands])
                      refine wp_call 22 #[.tmp 94] _ rfl Try.call22 #[.slice (some ⟨h, 0, none⟩) 1 1] (by simp [y0]) (refs_any [r.at_ a9 c9] _ 1 z hE (by simp)) ?_
                      rintro e w7 ⟨⟨v, rfl, hrow⟩, b7⟩
                      exact ⟨_, rfl, _, rfl, ents_row hrow, b7⟩
                    · simp only [List.getElem?_cons_succ, List.getElem?_cons_zero, Option.some.injEq] at ho
                      subst ho
                      have y0 : bb.eval (.tmp 100) = .slice (some ⟨g1, o1 + k * 7, none⟩) 1 (gc - k) := hop 100 (by simp [Op.operands, Call.operands])
                      refine wp_call 22 #[.tmp 100] _ rfl Try.call22 #[.slice (some ⟨g1, o1 + k * 7, none⟩) 1 (gc - k)] (by simp [y0]) (refs_any [gk] _ _ z ((ents_mid (unhide HEq)).below hz) (by simp)) ?_
                      rintro e w7 ⟨⟨v, rfl, hrow⟩, b7⟩
                      exact ⟨_, rfl, _, rfl, ents_row hrow, b7⟩
                    · simp only [List.getElem?_cons_succ, List.getElem?_cons_zero, Option.some.injEq] at ho
                      subst ho
                      obtain ⟨aa, ca, y0, hEa⟩ : ∃ a c, bb.eval (.tmp 95) = .slice a 1 c ∧ EntsA z a [r.at_ a9 c9] := hop 95 (by simp [Op.operands, Call.operands])
                      obtain ⟨ab, cb, y1, hEb⟩ : ∃ a c, bb.eval (.tmp 101) = .slice a 1 c ∧ EntsA z a [gk] := hop 101 (by simp [Op.operands, Call.operands])
                      refine wp_call 21 #[.tmp 95, .tmp 101] _ rfl Try.call21 #[.slice aa 1 ca, .slice ab 1 cb] (by simp [y0, y1]) (same14_any [r.at_ a9 c9] [gk] (by have h := unhide HCO; simp only [List.map_cons, List.map_nil]; rw [← h]; rfl) aa ab ca cb 1 rfl (by omega) z hEa hEb (fun q hq => by simp at hq; subst hq; exact ⟨(unhide HI9).below hz, by have h := congrArg List.length (show r.core.idx = gk.core.idx from congrArg _ (unhide HCO)); simp only [Raw.core] at h; simp only; omega⟩) (fun q hq => by simp at hq; subst hq; exact (unhide HGI).below hz)) ?_
                      rintro e w7 ⟨rfl, b7⟩
                      exact ⟨_, rfl, _, rfl, rfl, b7⟩
                  case fin2 =>
                    intro bb z hz hoff hrel
                    have hall := Off.all _ _ hoff
                    simp only [List.foldl_cons, List.foldl_nil] at hall
                    generalize bb.eval (.tmp 94) = v94 at hall
                    generalize bb.eval (.tmp 95) = v95 at hall
                    generalize bb.eval (.tmp 101) = v101 at hall
                    generalize bb.eval (.tmp 102) = v102 at hall
                    rw [hall]
                    clear hall hrel hoff bb
                    have HBr := hide ((unhide HBq).trans (hz.mono (unhide HBq).size))
                    clear hz
                    simp only [Act.put, List.setIfInBounds_toArray, List.set_cons_succ, List.set_cons_zero]
                    go_wp2
                    go_roundw
                    case rel => exact ⟨k + 1, by omega, by go_num, unhide HBr⟩
                    case measure => simp [intOf]; omega
              · have hke : k = (gn) := by omega
                have q5 : ¬ (k : Int) < ((gn) : Nat) := by omega
                have q6 : ¬ (k : Int) < ((gn) : Int) := by omega
                have hSy := (unhide HSz).kept (unhide HBy)
                have hln := hide (len_any p b 10 (last) rs wr hSy)
                have hal := hide (all_any p b 10 (last) rs wr hSy)
                have HSy := hide hSy
                have HRy := hide (own7_below (unhide HRz) (unhide HBy))
                generalize hrn : rs.length = rn at *
                have HRN := hide hrn
                clear hSy hrn
                have n1 : ¬ (10 : Int) < rn := by omega
                have n2 : decide ((10 : Int) < rn) = false := decide_eq_false n1
                go_wp2_with fail
                refine (unhide hln).mono ?_
                rintro e w7 ⟨rfl, rfl⟩
                go_wp2_with fail
                refine (unhide hal).mono ?_
                rintro e w8 ⟨⟨v8, rfl, rs8, hO8⟩, hb8⟩
                have hn8 := core_len hO8.core
                rw [unhide HRN] at hn8
                have hrow8 := hO8.row
                rw [hn8] at hrow8
                obtain ⟨a8, c8, rfl⟩ := own_shape7 hrow8
                have hSz8 := (unhide HSy).kept hb8
                have hln8 := hide (len_any p b 10 (last) rs w8 hSz8)
                rw [unhide HRN] at hln8
                have HS8 := hide hSz8
                have HR8 := hide (own7_below (unhide HRy) hb8)
                have HB8 := hide ((unhide HBw).trans (hb8.mono (unhide HBw).size))
                clear hO8 hb8 hn8 hrow8 hSz8 hal hln
                go_wp2_with fail
                refine (unhide hln8).mono ?_
                rintro e w9 ⟨rfl, rfl⟩
                go_wp2
                go_roundw
                case rel => exact ⟨i + 1, _, rs, gs, by omega, by omega, by go_num, rfl, unhide HS8, by omega, by rw [unhide HGSL]; exact unhide HR8, by rw [unhide HGSL]; omega, unhide HGz, unhide HB8⟩
                case measure => simp [intOf]; omega
        · have d0 : (x.kind == 0) = false := by simpa using hk0
          by_cases hk1 : x.kind = 1
          · rw [hk1] at x0
            clear d0 hk0
            by_cases hex : ∃ r ∈ rs, r.id = x.n
            · obtain ⟨r0, hr0, hr0n⟩ := hex
              have hD := hide (drop_ok p b 10 last rs r0 w3 (unhide HS3) hr0)
              rw [hr0n] at hD
              clear hr0 hr0n
              go_wp2_with fail
              refine (unhide hD).mono ?_
              rintro e w4 ⟨rfl, hS4, hk4⟩
              have hX4 := (hk4.block _ (lt_of_block (unhide HX3)) hwX hwXb).trans (unhide HX3)
              have HBz := hide ((unhide HB3).trans (hk4.below w.heap.size (unhide HB3).size hp hb))
              have HRz := hide (own7_k2 (unhide HR3) (unhide HS3) hk4)
              clear x0 x1 x2 x3 x4 x5 x6 x7 x8 fx hk4 hD
              obtain ⟨x0, x1, x2, x3, x4, x5, x6, x7, x8, fx⟩ := row9 hX4
              rw [hk1] at x0
              have HSz := hide hS4
              have HGz := hide ((unhide HG).sub (fun r => decide (r.id ≠ x.n)))
              have HGNz := HGN
              have hlz : last ≤ (i : Int) + 1 := by omega
              have hgz : gn ≤ i + 1 := by omega
              clear hS4 hX4 hk1
              generalize (rs.filter fun r => decide (r.id ≠ x.n)) = rsz at *
              go_wp2_with fail
              have hrl : rsz.length ≤ 10 := by have := (unhide HSz).len; omega
              have hgsl := unhide HGNz
              have HGSL := hide hgsl
              clear hgsl x0 x1 x2 x3 x4 x5 x6 x7 x8 fx
              obtain ⟨wo, hwo⟩ : ∃ z, z = wr := ⟨_, rfl⟩
              clear hwo
              go_loopw [10] (fun v wy => ∃ k : Nat, k ≤ (gn) ∧ v = .int .i64 k ∧ Below w4.heap.size w4 wy) (fun v _ => ((gn) - (intOf v)).toNat)
              case atStart => exact ⟨0, Nat.zero_le _, rfl, Below.refl _ _⟩
              case round =>
                obtain ⟨k, hk, rfl, hBy⟩ := hrel
                have HBy := hide hBy
                have HBw := hide ((unhide HBz).trans (hBy.mono (unhide HBz).size))
                clear hBy
                by_cases hltk : k < (gn)
                · have hkl : k < gs.length := by rw [unhide HGSL]; exact hltk
                  obtain ⟨A1, C1, he1, hE1⟩ := EntsA.own (unhide HGSL) (own7_below (unhide HRz) (unhide HBy))
                  simp only [Value.slice.injEq, true_and] at he1
                  obtain ⟨rfl, rfl⟩ := he1
                  obtain ⟨g1, o1, rfl, hEk⟩ := hE1 k hkl
                  have hgm := List.getElem_mem hkl
                  have hgi := (unhide HGz).ids _ hgm
                  have hgme := (unhide HGz).mem _ hgm
                  have hgas := fun r hr => (unhide HGz).as_ r hr _ hgm
                  generalize gs[k] = gk at *
                  have HEk := hide hEk
                  have e0 := hEk.1
                  have hSy := (unhide HSz).kept (unhide HBy)
                  have hget := hide (get_any p b 10 (last) rsz gk.id (WalkArith.wf_i64 (by omega)) wr hSy)
                  have HGAS := hide hgas
                  have HGME := hide hgme
                  have q5 : (k : Int) < ((gn) : Nat) := by omega
                  have q6 : (k : Int) < ((gn) : Int) := by omega
                  clear hE1 hEk hgm hgas hgme hSy hkl
                  go_wp2_with fail
                  refine (unhide hget).mono ?_
                  rintro e wg ⟨hcs, hbg⟩
                  have HBg := hide ((unhide HBy).trans (hbg.mono (unhide HBy).size))
                  have hEg := (unhide HEk).same (hbg.block g1 (cell_lt e0))
                  have HEg := hide hEg
                  clear hbg e0 hget hEg
                  rcases hcs with ⟨_, y, rfl⟩ | ⟨r, hr, hrk, a9, c9, rfl, hI9⟩
                  · have HBq := hide ((unhide HBg).alloc (unhide HBg).size (.cells (rawC y) 34))
                    go_wp2_with fail
                    go_big_quiet ((fail))
                    have HBr := hide (below_drawn (unhide HBq) nq)
                    go_wp2
                    go_roundw
                    case rel => exact ⟨k + 1, by omega, by go_num, unhide HBr⟩
                    case measure => simp [intOf]; omega
                  · have hBl9 : Below wg.heap.size wg (wg.alloc (.cells (rawC (r.at_ a9 c9)) 34)) := (Below.refl _ _).alloc (Nat.le_refl _) _
                    have hX9 := heap_alloc_new wg (.cells (rawC (r.at_ a9 c9)) 34)
                    have HX9 := hide hX9
                    have HBq := hide ((unhide HBg).alloc (unhide HBg).size (.cells (rawC (r.at_ a9 c9)) 34))
                    have HI9 := hide (hI9.below hBl9)
                    have hEq := (unhide HEg).same (hBl9.block g1 (cell_lt (unhide HEg).1))
                    have HEq := hide hEq
                    have HCO := hide (unhide HGAS r hr hrk)
                    have hbwg := (unhide HBz).trans ((unhide HBg).mono (unhide HBz).size)
                    have HGI := hide ((unhide HGME).1.below (hbwg.alloc hbwg.size (.cells (rawC (r.at_ a9 c9)) 34)))
                    clear hbwg
                    clear hBl9 hX9 hI9 hEq hr hrk
                    have hcap := own7_cap (unhide HRz)
                    have hil : gk.idx.length ≤ 100000 := by have := (unhide HGME).2; omega
                    go_wp2_with fail
                    generalize hq9 : wg.heap.size = h9 at *
                    generalize hWq : wg.alloc (.cells (rawC (r.at_ a9 c9)) 34) = Wq at *
                    clear hWq hq9
                    refine wp_region_rel [false, false, false, true, true, false, false, false, false, false, true, true, false, false] [(92, true)] [11] [94, 95, 101, 102] (Act.put _ (some 102) (.bool true)) ?A93 (fun x y => Below x.heap.size x y) (RelK (r.at_ a9 c9) gk) (by kernel_rfl) (by kernel_rfl) (fun x y z h1 h2 => h1.trans (h2.mono h1.size)) (fun x y h => h) (fun j v x y h hb => RelK.stay _ _ j v x y h hb) ((Off.refl _ _).put 102 _ (by simp)) ?det3 ?lex3 ?gA3 ?st3 ?fin3
                    case lex3 =>
                      intro z hz
                      have hneX := gb_ne z
                      have e0 : ∀ y : Gb z, y.w.cell? ⟨h9, 0, none⟩ = some (.int .i64 r.id) := fun y => gb_cell (cell_below (row7 (unhide HX9)).1 hz) y
                      have e1 : ∀ y : Gb z, y.w.cell? ⟨h9, 1, none⟩ = some (.int .i64 r.peer) := fun y => gb_cell (cell_below (row7 (unhide HX9)).2.1 hz) y
                      have e2 : ∀ y : Gb z, y.w.cell? ⟨h9, 2, none⟩ = some (.int .i64 r.mode) := fun y => gb_cell (cell_below (row7 (unhide HX9)).2.2.1 hz) y
                      have e3 : ∀ y : Gb z, y.w.cell? ⟨h9, 3, none⟩ = some (.int .i64 r.seed) := fun y => gb_cell (cell_below (row7 (unhide HX9)).2.2.2.1 hz) y
                      have e4 : ∀ y : Gb z, y.w.cell? ⟨h9, 4, none⟩ = some (.string r.hv) := fun y => gb_cell (cell_below (row7 (unhide HX9)).2.2.2.2.1 hz) y
                      have e5 : ∀ y : Gb z, y.w.cell? ⟨h9, 5, none⟩ = some (.slice a9 r.idx.length c9) := fun y => gb_cell (cell_below (row7 (unhide HX9)).2.2.2.2.2.1 hz) y
                      have e6 : ∀ y : Gb z, y.w.cell? ⟨h9, 6, none⟩ = some (.string r.dt) := fun y => gb_cell (cell_below (row7 (unhide HX9)).2.2.2.2.2.2.1 hz) y
                      have n1 : (k : Int) + 1 ≤ gc := by omega
                      have n2 : (k : Int) ≤ gc := by omega
                      have n3 : ¬ (gc : Int) < (k : Int) + 1 := by omega
                      have n4 : k + 1 ≤ gc := by omega
                      have n5 : k ≠ gc := by omega
                      have n6 : ¬ gc - k = 0 := by omega
                      have n7 : (gc : Int) ≤ 9223372036854775807 := by omega
                      dsimp only [restM]
                      simp only [Act.put, List.setIfInBounds_toArray, List.set_cons_succ, List.set_cons_zero]
                      repeat (go_big_quiet_step ((fail)))
                      refine wpQuiet_nil ?_
                      exact rfl
                    case det3 =>
                      intro j hj o s ho hs v z hR
                      simp only [List.mem_singleton] at hj
                      subst hj
                      simp only [List.getElem?_cons_succ, List.getElem?_cons_zero, Option.some.injEq] at ho
                      subst ho
                      simp only [Option.some.injEq] at hs
                      subst hs
                      exact hR.trans rfl
                    case gA3 =>
                      intro g hg
                      simp only [List.mem_singleton] at hg
                      subst hg
                      rfl
                    case st3 =>
                      intro j o ho hmj z bb hz hop
                      have hj : j ∈ [3, 4, 10, 11] := mask_in hmj
                      simp only [List.mem_cons, List.not_mem_nil, or_false] at hj
                      rcases hj with rfl | rfl | rfl | rfl
                      · simp only [List.getElem?_cons_succ, List.getElem?_cons_zero, Option.some.injEq] at ho
                        subst ho
                        have y0 : bb.eval (.tmp 93) = rawV (r.at_ a9 c9) := hop 93 (by simp [Op.operands])
                        have y0' : bb.tmps[93]?.getD undef = rawV (r.at_ a9 c9) := by simpa [Act.eval] using y0
                        go_simp
                        exact ⟨_, rfl, ⟨_, rfl, ents_one z _ _⟩, (Below.refl _ _).alloc (Nat.le_refl _) _⟩
                      · simp only [List.getElem?_cons_succ, List.getElem?_cons_zero, Option.some.injEq] at ho
                        subst ho
                        obtain ⟨h, y0, hE⟩ : ∃ h, bb.eval (.tmp 94) = .slice (some ⟨h, 0, none⟩) 1 1 ∧ EntsA z (some ⟨h, 0, none⟩) [r.at_ a9 c9] := hop 94 (by simp [Op.operands, Call.operands])
                        refine wp_call 22 #[.tmp 94] _ rfl Try.call22 #[.slice (some ⟨h, 0, none⟩) 1 1] (by simp [y0]) (refs_any [r.at_ a9 c9] _ 1 z hE (by simp)) ?_
                        rintro e w7 ⟨⟨v, rfl, hrow⟩, b7⟩
                        exact ⟨_, rfl, _, rfl, ents_row hrow, b7⟩
                      · simp only [List.getElem?_cons_succ, List.getElem?_cons_zero, Option.some.injEq] at ho
                        subst ho
                        have y0 : bb.eval (.tmp 100) = .slice (some ⟨g1, o1 + k * 7, none⟩) 1 (gc - k) := hop 100 (by simp [Op.operands, Call.operands])
                        refine wp_call 22 #[.tmp 100] _ rfl Try.call22 #[.slice (some ⟨g1, o1 + k * 7, none⟩) 1 (gc - k)] (by simp [y0]) (refs_any [gk] _ _ z ((ents_mid (unhide HEq)).below hz) (by simp)) ?_
                        rintro e w7 ⟨⟨v, rfl, hrow⟩, b7⟩
                        exact ⟨_, rfl, _, rfl, ents_row hrow, b7⟩
                      · simp only [List.getElem?_cons_succ, List.getElem?_cons_zero, Option.some.injEq] at ho
                        subst ho
                        obtain ⟨aa, ca, y0, hEa⟩ : ∃ a c, bb.eval (.tmp 95) = .slice a 1 c ∧ EntsA z a [r.at_ a9 c9] := hop 95 (by simp [Op.operands, Call.operands])
                        obtain ⟨ab, cb, y1, hEb⟩ : ∃ a c, bb.eval (.tmp 101) = .slice a 1 c ∧ EntsA z a [gk] := hop 101 (by simp [Op.operands, Call.operands])
                        refine wp_call 21 #[.tmp 95, .tmp 101] _ rfl Try.call21 #[.slice aa 1 ca, .slice ab 1 cb] (by simp [y0, y1]) (same14_any [r.at_ a9 c9] [gk] (by have h := unhide HCO; simp only [List.map_cons, List.map_nil]; rw [← h]; rfl) aa ab ca cb 1 rfl (by omega) z hEa hEb (fun q hq => by simp at hq; subst hq; exact ⟨(unhide HI9).below hz, by have h := congrArg List.length (show r.core.idx = gk.core.idx from congrArg _ (unhide HCO)); simp only [Raw.core] at h; simp only; omega⟩) (fun q hq => by simp at hq; subst hq; exact (unhide HGI).below hz)) ?_
                        rintro e w7 ⟨rfl, b7⟩
                        exact ⟨_, rfl, _, rfl, rfl, b7⟩
                    case fin3 =>
                      intro bb z hz hoff hrel
                      have hall := Off.all _ _ hoff
                      simp only [List.foldl_cons, List.foldl_nil] at hall
                      generalize bb.eval (.tmp 94) = v94 at hall
                      generalize bb.eval (.tmp 95) = v95 at hall
                      generalize bb.eval (.tmp 101) = v101 at hall
                      generalize bb.eval (.tmp 102) = v102 at hall
                      rw [hall]
                      clear hall hrel hoff bb
                      have HBr := hide ((unhide HBq).trans (hz.mono (unhide HBq).size))
                      clear hz
                      simp only [Act.put, List.setIfInBounds_toArray, List.set_cons_succ, List.set_cons_zero]
                      go_wp2
                      go_roundw
                      case rel => exact ⟨k + 1, by omega, by go_num, unhide HBr⟩
                      case measure => simp [intOf]; omega
                · have hke : k = (gn) := by omega
                  have q5 : ¬ (k : Int) < ((gn) : Nat) := by omega
                  have q6 : ¬ (k : Int) < ((gn) : Int) := by omega
                  have hSy := (unhide HSz).kept (unhide HBy)
                  have hln := hide (len_any p b 10 (last) rsz wr hSy)
                  have hal := hide (all_any p b 10 (last) rsz wr hSy)
                  have HSy := hide hSy
                  have HRy := hide (own7_below (unhide HRz) (unhide HBy))
                  generalize hrn : rsz.length = rn at *
                  have HRN := hide hrn
                  clear hSy hrn
                  have n1 : ¬ (10 : Int) < rn := by omega
                  have n2 : decide ((10 : Int) < rn) = false := decide_eq_false n1
                  go_wp2_with fail
                  refine (unhide hln).mono ?_
                  rintro e w7 ⟨rfl, rfl⟩
                  go_wp2_with fail
                  refine (unhide hal).mono ?_
                  rintro e w8 ⟨⟨v8, rfl, rs8, hO8⟩, hb8⟩
                  have hn8 := core_len hO8.core
                  rw [unhide HRN] at hn8
                  have hrow8 := hO8.row
                  rw [hn8] at hrow8
                  obtain ⟨a8, c8, rfl⟩ := own_shape7 hrow8
                  have hSz8 := (unhide HSy).kept hb8
                  have hln8 := hide (len_any p b 10 (last) rsz w8 hSz8)
                  rw [unhide HRN] at hln8
                  have HS8 := hide hSz8
                  have HR8 := hide (own7_below (unhide HRy) hb8)
                  have HB8 := hide ((unhide HBw).trans (hb8.mono (unhide HBw).size))
                  clear hO8 hb8 hn8 hrow8 hSz8 hal hln
                  go_wp2_with fail
                  refine (unhide hln8).mono ?_
                  rintro e w9 ⟨rfl, rfl⟩
                  go_wp2
                  go_roundw
                  case rel => exact ⟨i + 1, _, rsz, gs, by omega, by omega, by go_num, rfl, unhide HS8, by omega, by rw [unhide HGSL]; exact unhide HR8, by rw [unhide HGSL]; omega, unhide HGz, unhide HB8⟩
                  case measure => simp [intOf]; omega
            · have hD := hide (drop_none p b 10 last rs x.n (unhide hwN) w3 (unhide HS3) (fun r hr e => hex ⟨r, hr, e⟩))
              clear hex
              go_wp2_with fail
              refine (unhide hD).mono ?_
              rintro e w4 ⟨rfl, hb4⟩
              have hX4 := (hb4.block _ (lt_of_block (unhide HX3))).trans (unhide HX3)
              have HBz := hide ((unhide HB3).trans (hb4.mono (unhide HB3).size))
              have HRz := hide (own7_below (unhide HR3) hb4)
              have HSz := hide ((unhide HS3).kept hb4)
              clear x0 x1 x2 x3 x4 x5 x6 x7 x8 fx hb4 hD
              obtain ⟨x0, x1, x2, x3, x4, x5, x6, x7, x8, fx⟩ := row9 hX4
              rw [hk1] at x0
              have HGz := HG
              have HGNz := HGN
              have hlz : last ≤ (i : Int) + 1 := by omega
              have hgz : gn ≤ i + 1 := by omega
              clear hX4 hk1
              go_wp2_with fail
              have hrl : rs.length ≤ 10 := by have := (unhide HSz).len; omega
              have hgsl := unhide HGNz
              have HGSL := hide hgsl
              clear hgsl x0 x1 x2 x3 x4 x5 x6 x7 x8 fx
              obtain ⟨wo, hwo⟩ : ∃ z, z = wr := ⟨_, rfl⟩
              clear hwo
              go_loopw [10] (fun v wy => ∃ k : Nat, k ≤ (gn) ∧ v = .int .i64 k ∧ Below w4.heap.size w4 wy) (fun v _ => ((gn) - (intOf v)).toNat)
              case atStart => exact ⟨0, Nat.zero_le _, rfl, Below.refl _ _⟩
              case round =>
                obtain ⟨k, hk, rfl, hBy⟩ := hrel
                have HBy := hide hBy
                have HBw := hide ((unhide HBz).trans (hBy.mono (unhide HBz).size))
                clear hBy
                by_cases hltk : k < (gn)
                · have hkl : k < gs.length := by rw [unhide HGSL]; exact hltk
                  obtain ⟨A1, C1, he1, hE1⟩ := EntsA.own (unhide HGSL) (own7_below (unhide HRz) (unhide HBy))
                  simp only [Value.slice.injEq, true_and] at he1
                  obtain ⟨rfl, rfl⟩ := he1
                  obtain ⟨g1, o1, rfl, hEk⟩ := hE1 k hkl
                  have hgm := List.getElem_mem hkl
                  have hgi := (unhide HGz).ids _ hgm
                  have hgme := (unhide HGz).mem _ hgm
                  have hgas := fun r hr => (unhide HGz).as_ r hr _ hgm
                  generalize gs[k] = gk at *
                  have HEk := hide hEk
                  have e0 := hEk.1
                  have hSy := (unhide HSz).kept (unhide HBy)
                  have hget := hide (get_any p b 10 (last) rs gk.id (WalkArith.wf_i64 (by omega)) wr hSy)
                  have HGAS := hide hgas
                  have HGME := hide hgme
                  have q5 : (k : Int) < ((gn) : Nat) := by omega
                  have q6 : (k : Int) < ((gn) : Int) := by omega
                  clear hE1 hEk hgm hgas hgme hSy hkl
                  go_wp2_with fail
                  refine (unhide hget).mono ?_
                  rintro e wg ⟨hcs, hbg⟩
                  have HBg := hide ((unhide HBy).trans (hbg.mono (unhide HBy).size))
                  have hEg := (unhide HEk).same (hbg.block g1 (cell_lt e0))
                  have HEg := hide hEg
                  clear hbg e0 hget hEg
                  rcases hcs with ⟨_, y, rfl⟩ | ⟨r, hr, hrk, a9, c9, rfl, hI9⟩
                  · have HBq := hide ((unhide HBg).alloc (unhide HBg).size (.cells (rawC y) 34))
                    go_wp2_with fail
                    go_big_quiet ((fail))
                    have HBr := hide (below_drawn (unhide HBq) nq)
                    go_wp2
                    go_roundw
                    case rel => exact ⟨k + 1, by omega, by go_num, unhide HBr⟩
                    case measure => simp [intOf]; omega
                  · have hBl9 : Below wg.heap.size wg (wg.alloc (.cells (rawC (r.at_ a9 c9)) 34)) := (Below.refl _ _).alloc (Nat.le_refl _) _
                    have hX9 := heap_alloc_new wg (.cells (rawC (r.at_ a9 c9)) 34)
                    have HX9 := hide hX9
                    have HBq := hide ((unhide HBg).alloc (unhide HBg).size (.cells (rawC (r.at_ a9 c9)) 34))
                    have HI9 := hide (hI9.below hBl9)
                    have hEq := (unhide HEg).same (hBl9.block g1 (cell_lt (unhide HEg).1))
                    have HEq := hide hEq
                    have HCO := hide (unhide HGAS r hr hrk)
                    have hbwg := (unhide HBz).trans ((unhide HBg).mono (unhide HBz).size)
                    have HGI := hide ((unhide HGME).1.below (hbwg.alloc hbwg.size (.cells (rawC (r.at_ a9 c9)) 34)))
                    clear hbwg
                    clear hBl9 hX9 hI9 hEq hr hrk
                    have hcap := own7_cap (unhide HRz)
                    have hil : gk.idx.length ≤ 100000 := by have := (unhide HGME).2; omega
                    go_wp2_with fail
                    generalize hq9 : wg.heap.size = h9 at *
                    generalize hWq : wg.alloc (.cells (rawC (r.at_ a9 c9)) 34) = Wq at *
                    clear hWq hq9
                    refine wp_region_rel [false, false, false, true, true, false, false, false, false, false, true, true, false, false] [(92, true)] [11] [94, 95, 101, 102] (Act.put _ (some 102) (.bool true)) ?A94 (fun x y => Below x.heap.size x y) (RelK (r.at_ a9 c9) gk) (by kernel_rfl) (by kernel_rfl) (fun x y z h1 h2 => h1.trans (h2.mono h1.size)) (fun x y h => h) (fun j v x y h hb => RelK.stay _ _ j v x y h hb) ((Off.refl _ _).put 102 _ (by simp)) ?det4 ?lex4 ?gA4 ?st4 ?fin4
                    case lex4 =>
                      intro z hz
                      have hneX := gb_ne z
                      have e0 : ∀ y : Gb z, y.w.cell? ⟨h9, 0, none⟩ = some (.int .i64 r.id) := fun y => gb_cell (cell_below (row7 (unhide HX9)).1 hz) y
                      have e1 : ∀ y : Gb z, y.w.cell? ⟨h9, 1, none⟩ = some (.int .i64 r.peer) := fun y => gb_cell (cell_below (row7 (unhide HX9)).2.1 hz) y
                      have e2 : ∀ y : Gb z, y.w.cell? ⟨h9, 2, none⟩ = some (.int .i64 r.mode) := fun y => gb_cell (cell_below (row7 (unhide HX9)).2.2.1 hz) y
                      have e3 : ∀ y : Gb z, y.w.cell? ⟨h9, 3, none⟩ = some (.int .i64 r.seed) := fun y => gb_cell (cell_below (row7 (unhide HX9)).2.2.2.1 hz) y
                      have e4 : ∀ y : Gb z, y.w.cell? ⟨h9, 4, none⟩ = some (.string r.hv) := fun y => gb_cell (cell_below (row7 (unhide HX9)).2.2.2.2.1 hz) y
                      have e5 : ∀ y : Gb z, y.w.cell? ⟨h9, 5, none⟩ = some (.slice a9 r.idx.length c9) := fun y => gb_cell (cell_below (row7 (unhide HX9)).2.2.2.2.2.1 hz) y
                      have e6 : ∀ y : Gb z, y.w.cell? ⟨h9, 6, none⟩ = some (.string r.dt) := fun y => gb_cell (cell_below (row7 (unhide HX9)).2.2.2.2.2.2.1 hz) y
                      have n1 : (k : Int) + 1 ≤ gc := by omega
                      have n2 : (k : Int) ≤ gc := by omega
                      have n3 : ¬ (gc : Int) < (k : Int) + 1 := by omega
                      have n4 : k + 1 ≤ gc := by omega
                      have n5 : k ≠ gc := by omega
                      have n6 : ¬ gc - k = 0 := by omega
                      have n7 : (gc : Int) ≤ 9223372036854775807 := by omega
                      dsimp only [restM]
                      simp only [Act.put, List.setIfInBounds_toArray, List.set_cons_succ, List.set_cons_zero]
                      repeat (go_big_quiet_step ((fail)))
                      refine wpQuiet_nil ?_
                      exact rfl
                    case det4 =>
                      intro j hj o s ho hs v z hR
                      simp only [List.mem_singleton] at hj
                      subst hj
                      simp only [List.getElem?_cons_succ, List.getElem?_cons_zero, Option.some.injEq] at ho
                      subst ho
                      simp only [Option.some.injEq] at hs
                      subst hs
                      exact hR.trans rfl
                    case gA4 =>
                      intro g hg
                      simp only [List.mem_singleton] at hg
                      subst hg
                      rfl
                    case st4 =>
                      intro j o ho hmj z bb hz hop
                      have hj : j ∈ [3, 4, 10, 11] := mask_in hmj
                      simp only [List.mem_cons, List.not_mem_nil, or_false] at hj
                      rcases hj with rfl | rfl | rfl | rfl
                      · simp only [List.getElem?_cons_succ, List.getElem?_cons_zero, Option.some.injEq] at ho
                        subst ho
                        have y0 : bb.eval (.tmp 93) = rawV (r.at_ a9 c9) := hop 93 (by simp [Op.operands])
                        have y0' : bb.tmps[93]?.getD undef = rawV (r.at_ a9 c9) := by simpa [Act.eval] using y0
                        go_simp
                        exact ⟨_, rfl, ⟨_, rfl, ents_one z _ _⟩, (Below.refl _ _).alloc (Nat.le_refl _) _⟩
                      · simp only [List.getElem?_cons_succ, List.getElem?_cons_zero, Option.some.injEq] at ho
                        subst ho
                        obtain ⟨h, y0, hE⟩ : ∃ h, bb.eval (.tmp 94) = .slice (some ⟨h, 0, none⟩) 1 1 ∧ EntsA z (some ⟨h, 0, none⟩) [r.at_ a9 c9] := hop 94 (by simp [Op.operands, Call.operands])
                        refine wp_call 22 #[.tmp 94] _ rfl Try.call22 #[.slice (some ⟨h, 0, none⟩) 1 1] (by simp [y0]) (refs_any [r.at_ a9 c9] _ 1 z hE (by simp)) ?_
                        rintro e w7 ⟨⟨v, rfl, hrow⟩, b7⟩
                        exact ⟨_, rfl, _, rfl, ents_row hrow, b7⟩
                      · simp only [List.getElem?_cons_succ, List.getElem?_cons_zero, Option.some.injEq] at ho
                        subst ho
                        have y0 : bb.eval (.tmp 100) = .slice (some ⟨g1, o1 + k * 7, none⟩) 1 (gc - k) := hop 100 (by simp [Op.operands, Call.operands])
                        refine wp_call 22 #[.tmp 100] _ rfl Try.call22 #[.slice (some ⟨g1, o1 + k * 7, none⟩) 1 (gc - k)] (by simp [y0]) (refs_any [gk] _ _ z ((ents_mid (unhide HEq)).below hz) (by simp)) ?_
                        rintro e w7 ⟨⟨v, rfl, hrow⟩, b7⟩
                        exact ⟨_, rfl, _, rfl, ents_row hrow, b7⟩
                      · simp only [List.getElem?_cons_succ, List.getElem?_cons_zero, Option.some.injEq] at ho
                        subst ho
                        obtain ⟨aa, ca, y0, hEa⟩ : ∃ a c, bb.eval (.tmp 95) = .slice a 1 c ∧ EntsA z a [r.at_ a9 c9] := hop 95 (by simp [Op.operands, Call.operands])
                        obtain ⟨ab, cb, y1, hEb⟩ : ∃ a c, bb.eval (.tmp 101) = .slice a 1 c ∧ EntsA z a [gk] := hop 101 (by simp [Op.operands, Call.operands])
                        refine wp_call 21 #[.tmp 95, .tmp 101] _ rfl Try.call21 #[.slice aa 1 ca, .slice ab 1 cb] (by simp [y0, y1]) (same14_any [r.at_ a9 c9] [gk] (by have h := unhide HCO; simp only [List.map_cons, List.map_nil]; rw [← h]; rfl) aa ab ca cb 1 rfl (by omega) z hEa hEb (fun q hq => by simp at hq; subst hq; exact ⟨(unhide HI9).below hz, by have h := congrArg List.length (show r.core.idx = gk.core.idx from congrArg _ (unhide HCO)); simp only [Raw.core] at h; simp only; omega⟩) (fun q hq => by simp at hq; subst hq; exact (unhide HGI).below hz)) ?_
                        rintro e w7 ⟨rfl, b7⟩
                        exact ⟨_, rfl, _, rfl, rfl, b7⟩
                    case fin4 =>
                      intro bb z hz hoff hrel
                      have hall := Off.all _ _ hoff
                      simp only [List.foldl_cons, List.foldl_nil] at hall
                      generalize bb.eval (.tmp 94) = v94 at hall
                      generalize bb.eval (.tmp 95) = v95 at hall
                      generalize bb.eval (.tmp 101) = v101 at hall
                      generalize bb.eval (.tmp 102) = v102 at hall
                      rw [hall]
                      clear hall hrel hoff bb
                      have HBr := hide ((unhide HBq).trans (hz.mono (unhide HBq).size))
                      clear hz
                      simp only [Act.put, List.setIfInBounds_toArray, List.set_cons_succ, List.set_cons_zero]
                      go_wp2
                      go_roundw
                      case rel => exact ⟨k + 1, by omega, by go_num, unhide HBr⟩
                      case measure => simp [intOf]; omega
                · have hke : k = (gn) := by omega
                  have q5 : ¬ (k : Int) < ((gn) : Nat) := by omega
                  have q6 : ¬ (k : Int) < ((gn) : Int) := by omega
                  have hSy := (unhide HSz).kept (unhide HBy)
                  have hln := hide (len_any p b 10 (last) rs wr hSy)
                  have hal := hide (all_any p b 10 (last) rs wr hSy)
                  have HSy := hide hSy
                  have HRy := hide (own7_below (unhide HRz) (unhide HBy))
                  generalize hrn : rs.length = rn at *
                  have HRN := hide hrn
                  clear hSy hrn
                  have n1 : ¬ (10 : Int) < rn := by omega
                  have n2 : decide ((10 : Int) < rn) = false := decide_eq_false n1
                  go_wp2_with fail
                  refine (unhide hln).mono ?_
                  rintro e w7 ⟨rfl, rfl⟩
                  go_wp2_with fail
                  refine (unhide hal).mono ?_
                  rintro e w8 ⟨⟨v8, rfl, rs8, hO8⟩, hb8⟩
                  have hn8 := core_len hO8.core
                  rw [unhide HRN] at hn8
                  have hrow8 := hO8.row
                  rw [hn8] at hrow8
                  obtain ⟨a8, c8, rfl⟩ := own_shape7 hrow8
                  have hSz8 := (unhide HSy).kept hb8
                  have hln8 := hide (len_any p b 10 (last) rs w8 hSz8)
                  rw [unhide HRN] at hln8
                  have HS8 := hide hSz8
                  have HR8 := hide (own7_below (unhide HRy) hb8)
                  have HB8 := hide ((unhide HBw).trans (hb8.mono (unhide HBw).size))
                  clear hO8 hb8 hn8 hrow8 hSz8 hal hln
                  go_wp2_with fail
                  refine (unhide hln8).mono ?_
                  rintro e w9 ⟨rfl, rfl⟩
                  go_wp2
                  go_roundw
                  case rel => exact ⟨i + 1, _, rs, gs, by omega, by omega, by go_num, rfl, unhide HS8, by omega, by rw [unhide HGSL]; exact unhide HR8, by rw [unhide HGSL]; omega, unhide HGz, unhide HB8⟩
                  case measure => simp [intOf]; omega
          · have d1 : (x.kind == 1) = false := by simpa using hk1
            by_cases hk2 : x.kind = 2
            · rw [hk2] at x0
              clear d0 d1 hk0 hk1
              have hD := hide (dropPeer_any p b 10 last rs x.n w3 (unhide HS3))
              generalize hfl : (rs.filter fun r => r.peer == x.n).length = fl at *
              clear hfl
              go_wp2_with fail
              refine (unhide hD).mono ?_
              rintro e w4 ⟨⟨da, dc, rfl, _, _⟩, hS4, hk4⟩
              have hX4 := (hk4.block _ (lt_of_block (unhide HX3)) hwX hwXb).trans (unhide HX3)
              have HBz := hide ((unhide HB3).trans (hk4.below w.heap.size (unhide HB3).size hp hb))
              have HRz := hide (own7_k2 (unhide HR3) (unhide HS3) hk4)
              clear x0 x1 x2 x3 x4 x5 x6 x7 x8 fx hk4 hD
              obtain ⟨x0, x1, x2, x3, x4, x5, x6, x7, x8, fx⟩ := row9 hX4
              rw [hk2] at x0
              have HSz := hide hS4
              have HGz := hide ((unhide HG).sub (fun r => !(r.peer == x.n)))
              have HGNz := HGN
              have hlz : last ≤ (i : Int) + 1 := by omega
              have hgz : gn ≤ i + 1 := by omega
              clear hS4 hX4 hk2
              generalize (rs.filter fun r => !(r.peer == x.n)) = rsz at *
              go_wp2_with fail
              have hrl : rsz.length ≤ 10 := by have := (unhide HSz).len; omega
              have hgsl := unhide HGNz
              have HGSL := hide hgsl
              clear hgsl x0 x1 x2 x3 x4 x5 x6 x7 x8 fx
              obtain ⟨wo, hwo⟩ : ∃ z, z = wr := ⟨_, rfl⟩
              clear hwo
              go_loopw [10] (fun v wy => ∃ k : Nat, k ≤ (gn) ∧ v = .int .i64 k ∧ Below w4.heap.size w4 wy) (fun v _ => ((gn) - (intOf v)).toNat)
              case atStart => exact ⟨0, Nat.zero_le _, rfl, Below.refl _ _⟩
              case round =>
                obtain ⟨k, hk, rfl, hBy⟩ := hrel
                have HBy := hide hBy
                have HBw := hide ((unhide HBz).trans (hBy.mono (unhide HBz).size))
                clear hBy
                by_cases hltk : k < (gn)
                · have hkl : k < gs.length := by rw [unhide HGSL]; exact hltk
                  obtain ⟨A1, C1, he1, hE1⟩ := EntsA.own (unhide HGSL) (own7_below (unhide HRz) (unhide HBy))
                  simp only [Value.slice.injEq, true_and] at he1
                  obtain ⟨rfl, rfl⟩ := he1
                  obtain ⟨g1, o1, rfl, hEk⟩ := hE1 k hkl
                  have hgm := List.getElem_mem hkl
                  have hgi := (unhide HGz).ids _ hgm
                  have hgme := (unhide HGz).mem _ hgm
                  have hgas := fun r hr => (unhide HGz).as_ r hr _ hgm
                  generalize gs[k] = gk at *
                  have HEk := hide hEk
                  have e0 := hEk.1
                  have hSy := (unhide HSz).kept (unhide HBy)
                  have hget := hide (get_any p b 10 (last) rsz gk.id (WalkArith.wf_i64 (by omega)) wr hSy)
                  have HGAS := hide hgas
                  have HGME := hide hgme
                  have q5 : (k : Int) < ((gn) : Nat) := by omega
                  have q6 : (k : Int) < ((gn) : Int) := by omega
                  clear hE1 hEk hgm hgas hgme hSy hkl
                  go_wp2_with fail
                  refine (unhide hget).mono ?_
                  rintro e wg ⟨hcs, hbg⟩
                  have HBg := hide ((unhide HBy).trans (hbg.mono (unhide HBy).size))
                  have hEg := (unhide HEk).same (hbg.block g1 (cell_lt e0))
                  have HEg := hide hEg
                  clear hbg e0 hget hEg
                  rcases hcs with ⟨_, y, rfl⟩ | ⟨r, hr, hrk, a9, c9, rfl, hI9⟩
                  · have HBq := hide ((unhide HBg).alloc (unhide HBg).size (.cells (rawC y) 34))
                    go_wp2_with fail
                    go_big_quiet ((fail))
                    have HBr := hide (below_drawn (unhide HBq) nq)
                    go_wp2
                    go_roundw
                    case rel => exact ⟨k + 1, by omega, by go_num, unhide HBr⟩
                    case measure => simp [intOf]; omega
                  · have hBl9 : Below wg.heap.size wg (wg.alloc (.cells (rawC (r.at_ a9 c9)) 34)) := (Below.refl _ _).alloc (Nat.le_refl _) _
                    have hX9 := heap_alloc_new wg (.cells (rawC (r.at_ a9 c9)) 34)
                    have HX9 := hide hX9
                    have HBq := hide ((unhide HBg).alloc (unhide HBg).size (.cells (rawC (r.at_ a9 c9)) 34))
                    have HI9 := hide (hI9.below hBl9)
                    have hEq := (unhide HEg).same (hBl9.block g1 (cell_lt (unhide HEg).1))
                    have HEq := hide hEq
                    have HCO := hide (unhide HGAS r hr hrk)
                    have hbwg := (unhide HBz).trans ((unhide HBg).mono (unhide HBz).size)
                    have HGI := hide ((unhide HGME).1.below (hbwg.alloc hbwg.size (.cells (rawC (r.at_ a9 c9)) 34)))
                    clear hbwg
                    clear hBl9 hX9 hI9 hEq hr hrk
                    have hcap := own7_cap (unhide HRz)
                    have hil : gk.idx.length ≤ 100000 := by have := (unhide HGME).2; omega
                    go_wp2_with fail
                    generalize hq9 : wg.heap.size = h9 at *
                    generalize hWq : wg.alloc (.cells (rawC (r.at_ a9 c9)) 34) = Wq at *
                    clear hWq hq9
                    refine wp_region_rel [false, false, false, true, true, false, false, false, false, false, true, true, false, false] [(92, true)] [11] [94, 95, 101, 102] (Act.put _ (some 102) (.bool true)) ?A95 (fun x y => Below x.heap.size x y) (RelK (r.at_ a9 c9) gk) (by kernel_rfl) (by kernel_rfl) (fun x y z h1 h2 => h1.trans (h2.mono h1.size)) (fun x y h => h) (fun j v x y h hb => RelK.stay _ _ j v x y h hb) ((Off.refl _ _).put 102 _ (by simp)) ?det5 ?lex5 ?gA5 ?st5 ?fin5
                    case lex5 =>
                      intro z hz
                      have hneX := gb_ne z
                      have e0 : ∀ y : Gb z, y.w.cell? ⟨h9, 0, none⟩ = some (.int .i64 r.id) := fun y => gb_cell (cell_below (row7 (unhide HX9)).1 hz) y
                      have e1 : ∀ y : Gb z, y.w.cell? ⟨h9, 1, none⟩ = some (.int .i64 r.peer) := fun y => gb_cell (cell_below (row7 (unhide HX9)).2.1 hz) y
                      have e2 : ∀ y : Gb z, y.w.cell? ⟨h9, 2, none⟩ = some (.int .i64 r.mode) := fun y => gb_cell (cell_below (row7 (unhide HX9)).2.2.1 hz) y
                      have e3 : ∀ y : Gb z, y.w.cell? ⟨h9, 3, none⟩ = some (.int .i64 r.seed) := fun y => gb_cell (cell_below (row7 (unhide HX9)).2.2.2.1 hz) y
                      have e4 : ∀ y : Gb z, y.w.cell? ⟨h9, 4, none⟩ = some (.string r.hv) := fun y => gb_cell (cell_below (row7 (unhide HX9)).2.2.2.2.1 hz) y
                      have e5 : ∀ y : Gb z, y.w.cell? ⟨h9, 5, none⟩ = some (.slice a9 r.idx.length c9) := fun y => gb_cell (cell_below (row7 (unhide HX9)).2.2.2.2.2.1 hz) y
                      have e6 : ∀ y : Gb z, y.w.cell? ⟨h9, 6, none⟩ = some (.string r.dt) := fun y => gb_cell (cell_below (row7 (unhide HX9)).2.2.2.2.2.2.1 hz) y
                      have n1 : (k : Int) + 1 ≤ gc := by omega
                      have n2 : (k : Int) ≤ gc := by omega
                      have n3 : ¬ (gc : Int) < (k : Int) + 1 := by omega
                      have n4 : k + 1 ≤ gc := by omega
                      have n5 : k ≠ gc := by omega
                      have n6 : ¬ gc - k = 0 := by omega
                      have n7 : (gc : Int) ≤ 9223372036854775807 := by omega
                      dsimp only [restM]
                      simp only [Act.put, List.setIfInBounds_toArray, List.set_cons_succ, List.set_cons_zero]
                      repeat (go_big_quiet_step ((fail)))
                      refine wpQuiet_nil ?_
                      exact rfl
                    case det5 =>
                      intro j hj o s ho hs v z hR
                      simp only [List.mem_singleton] at hj
                      subst hj
                      simp only [List.getElem?_cons_succ, List.getElem?_cons_zero, Option.some.injEq] at ho
                      subst ho
                      simp only [Option.some.injEq] at hs
                      subst hs
                      exact hR.trans rfl
                    case gA5 =>
                      intro g hg
                      simp only [List.mem_singleton] at hg
                      subst hg
                      rfl
                    case st5 =>
                      intro j o ho hmj z bb hz hop
                      have hj : j ∈ [3, 4, 10, 11] := mask_in hmj
                      simp only [List.mem_cons, List.not_mem_nil, or_false] at hj
                      rcases hj with rfl | rfl | rfl | rfl
                      · simp only [List.getElem?_cons_succ, List.getElem?_cons_zero, Option.some.injEq] at ho
                        subst ho
                        have y0 : bb.eval (.tmp 93) = rawV (r.at_ a9 c9) := hop 93 (by simp [Op.operands])
                        have y0' : bb.tmps[93]?.getD undef = rawV (r.at_ a9 c9) := by simpa [Act.eval] using y0
                        go_simp
                        exact ⟨_, rfl, ⟨_, rfl, ents_one z _ _⟩, (Below.refl _ _).alloc (Nat.le_refl _) _⟩
                      · simp only [List.getElem?_cons_succ, List.getElem?_cons_zero, Option.some.injEq] at ho
                        subst ho
                        obtain ⟨h, y0, hE⟩ : ∃ h, bb.eval (.tmp 94) = .slice (some ⟨h, 0, none⟩) 1 1 ∧ EntsA z (some ⟨h, 0, none⟩) [r.at_ a9 c9] := hop 94 (by simp [Op.operands, Call.operands])
                        refine wp_call 22 #[.tmp 94] _ rfl Try.call22 #[.slice (some ⟨h, 0, none⟩) 1 1] (by simp [y0]) (refs_any [r.at_ a9 c9] _ 1 z hE (by simp)) ?_
                        rintro e w7 ⟨⟨v, rfl, hrow⟩, b7⟩
                        exact ⟨_, rfl, _, rfl, ents_row hrow, b7⟩
                      · simp only [List.getElem?_cons_succ, List.getElem?_cons_zero, Option.some.injEq] at ho
                        subst ho
                        have y0 : bb.eval (.tmp 100) = .slice (some ⟨g1, o1 + k * 7, none⟩) 1 (gc - k) := hop 100 (by simp [Op.operands, Call.operands])
                        refine wp_call 22 #[.tmp 100] _ rfl Try.call22 #[.slice (some ⟨g1, o1 + k * 7, none⟩) 1 (gc - k)] (by simp [y0]) (refs_any [gk] _ _ z ((ents_mid (unhide HEq)).below hz) (by simp)) ?_
                        rintro e w7 ⟨⟨v, rfl, hrow⟩, b7⟩
                        exact ⟨_, rfl, _, rfl, ents_row hrow, b7⟩
                      · simp only [List.getElem?_cons_succ, List.getElem?_cons_zero, Option.some.injEq] at ho
                        subst ho
                        obtain ⟨aa, ca, y0, hEa⟩ : ∃ a c, bb.eval (.tmp 95) = .slice a 1 c ∧ EntsA z a [r.at_ a9 c9] := hop 95 (by simp [Op.operands, Call.operands])
                        obtain ⟨ab, cb, y1, hEb⟩ : ∃ a c, bb.eval (.tmp 101) = .slice a 1 c ∧ EntsA z a [gk] := hop 101 (by simp [Op.operands, Call.operands])
                        refine wp_call 21 #[.tmp 95, .tmp 101] _ rfl Try.call21 #[.slice aa 1 ca, .slice ab 1 cb] (by simp [y0, y1]) (same14_any [r.at_ a9 c9] [gk] (by have h := unhide HCO; simp only [List.map_cons, List.map_nil]; rw [← h]; rfl) aa ab ca cb 1 rfl (by omega) z hEa hEb (fun q hq => by simp at hq; subst hq; exact ⟨(unhide HI9).below hz, by have h := congrArg List.length (show r.core.idx = gk.core.idx from congrArg _ (unhide HCO)); simp only [Raw.core] at h; simp only; omega⟩) (fun q hq => by simp at hq; subst hq; exact (unhide HGI).below hz)) ?_
                        rintro e w7 ⟨rfl, b7⟩
                        exact ⟨_, rfl, _, rfl, rfl, b7⟩
                    case fin5 =>
                      intro bb z hz hoff hrel
                      have hall := Off.all _ _ hoff
                      simp only [List.foldl_cons, List.foldl_nil] at hall
                      generalize bb.eval (.tmp 94) = v94 at hall
                      generalize bb.eval (.tmp 95) = v95 at hall
                      generalize bb.eval (.tmp 101) = v101 at hall
                      generalize bb.eval (.tmp 102) = v102 at hall
                      rw [hall]
                      clear hall hrel hoff bb
                      have HBr := hide ((unhide HBq).trans (hz.mono (unhide HBq).size))
                      clear hz
                      simp only [Act.put, List.setIfInBounds_toArray, List.set_cons_succ, List.set_cons_zero]
                      go_wp2
                      go_roundw
                      case rel => exact ⟨k + 1, by omega, by go_num, unhide HBr⟩
                      case measure => simp [intOf]; omega
                · have hke : k = (gn) := by omega
                  have q5 : ¬ (k : Int) < ((gn) : Nat) := by omega
                  have q6 : ¬ (k : Int) < ((gn) : Int) := by omega
                  have hSy := (unhide HSz).kept (unhide HBy)
                  have hln := hide (len_any p b 10 (last) rsz wr hSy)
                  have hal := hide (all_any p b 10 (last) rsz wr hSy)
                  have HSy := hide hSy
                  have HRy := hide (own7_below (unhide HRz) (unhide HBy))
                  generalize hrn : rsz.length = rn at *
                  have HRN := hide hrn
                  clear hSy hrn
                  have n1 : ¬ (10 : Int) < rn := by omega
                  have n2 : decide ((10 : Int) < rn) = false := decide_eq_false n1
                  go_wp2_with fail
                  refine (unhide hln).mono ?_
                  rintro e w7 ⟨rfl, rfl⟩
                  go_wp2_with fail
                  refine (unhide hal).mono ?_
                  rintro e w8 ⟨⟨v8, rfl, rs8, hO8⟩, hb8⟩
                  have hn8 := core_len hO8.core
                  rw [unhide HRN] at hn8
                  have hrow8 := hO8.row
                  rw [hn8] at hrow8
                  obtain ⟨a8, c8, rfl⟩ := own_shape7 hrow8
                  have hSz8 := (unhide HSy).kept hb8
                  have hln8 := hide (len_any p b 10 (last) rsz w8 hSz8)
                  rw [unhide HRN] at hln8
                  have HS8 := hide hSz8
                  have HR8 := hide (own7_below (unhide HRy) hb8)
                  have HB8 := hide ((unhide HBw).trans (hb8.mono (unhide HBw).size))
                  clear hO8 hb8 hn8 hrow8 hSz8 hal hln
                  go_wp2_with fail
                  refine (unhide hln8).mono ?_
                  rintro e w9 ⟨rfl, rfl⟩
                  go_wp2
                  go_roundw
                  case rel => exact ⟨i + 1, _, rsz, gs, by omega, by omega, by go_num, rfl, unhide HS8, by omega, by rw [unhide HGSL]; exact unhide HR8, by rw [unhide HGSL]; omega, unhide HGz, unhide HB8⟩
                  case measure => simp [intOf]; omega
            · have d2 : (x.kind == 2) = false := by simpa using hk2
              have HBz := HB3
              have HRz := HR3
              have HSz := HS3
              have HGz := HG
              have HGNz := HGN
              have hlz : last ≤ (i : Int) + 1 := by omega
              have hgz : gn ≤ i + 1 := by omega
              clear hk0 hk1 hk2
              go_wp2_with fail
              have hrl : rs.length ≤ 10 := by have := (unhide HSz).len; omega
              have hgsl := unhide HGNz
              have HGSL := hide hgsl
              clear hgsl x0 x1 x2 x3 x4 x5 x6 x7 x8 fx
              obtain ⟨wo, hwo⟩ : ∃ z, z = wr := ⟨_, rfl⟩
              clear hwo
              go_loopw [10] (fun v wy => ∃ k : Nat, k ≤ (gn) ∧ v = .int .i64 k ∧ Below w3.heap.size w3 wy) (fun v _ => ((gn) - (intOf v)).toNat)
              case atStart => exact ⟨0, Nat.zero_le _, rfl, Below.refl _ _⟩
              case round =>
                obtain ⟨k, hk, rfl, hBy⟩ := hrel
                have HBy := hide hBy
                have HBw := hide ((unhide HBz).trans (hBy.mono (unhide HBz).size))
                clear hBy
                by_cases hltk : k < (gn)
                · have hkl : k < gs.length := by rw [unhide HGSL]; exact hltk
                  obtain ⟨A1, C1, he1, hE1⟩ := EntsA.own (unhide HGSL) (own7_below (unhide HRz) (unhide HBy))
                  simp only [Value.slice.injEq, true_and] at he1
                  obtain ⟨rfl, rfl⟩ := he1
                  obtain ⟨g1, o1, rfl, hEk⟩ := hE1 k hkl
                  have hgm := List.getElem_mem hkl
                  have hgi := (unhide HGz).ids _ hgm
                  have hgme := (unhide HGz).mem _ hgm
                  have hgas := fun r hr => (unhide HGz).as_ r hr _ hgm
                  generalize gs[k] = gk at *
                  have HEk := hide hEk
                  have e0 := hEk.1
                  have hSy := (unhide HSz).kept (unhide HBy)
                  have hget := hide (get_any p b 10 (last) rs gk.id (WalkArith.wf_i64 (by omega)) wr hSy)
                  have HGAS := hide hgas
                  have HGME := hide hgme
                  have q5 : (k : Int) < ((gn) : Nat) := by omega
                  have q6 : (k : Int) < ((gn) : Int) := by omega
                  clear hE1 hEk hgm hgas hgme hSy hkl
                  go_wp2_with fail
                  refine (unhide hget).mono ?_
                  rintro e wg ⟨hcs, hbg⟩
                  have HBg := hide ((unhide HBy).trans (hbg.mono (unhide HBy).size))
                  have hEg := (unhide HEk).same (hbg.block g1 (cell_lt e0))
                  have HEg := hide hEg
                  clear hbg e0 hget hEg
                  rcases hcs with ⟨_, y, rfl⟩ | ⟨r, hr, hrk, a9, c9, rfl, hI9⟩
                  · have HBq := hide ((unhide HBg).alloc (unhide HBg).size (.cells (rawC y) 34))
                    go_wp2_with fail
                    go_big_quiet ((fail))
                    have HBr := hide (below_drawn (unhide HBq) nq)
                    go_wp2
                    go_roundw
                    case rel => exact ⟨k + 1, by omega, by go_num, unhide HBr⟩
                    case measure => simp [intOf]; omega
                  · have hBl9 : Below wg.heap.size wg (wg.alloc (.cells (rawC (r.at_ a9 c9)) 34)) := (Below.refl _ _).alloc (Nat.le_refl _) _
                    have hX9 := heap_alloc_new wg (.cells (rawC (r.at_ a9 c9)) 34)
                    have HX9 := hide hX9
                    have HBq := hide ((unhide HBg).alloc (unhide HBg).size (.cells (rawC (r.at_ a9 c9)) 34))
                    have HI9 := hide (hI9.below hBl9)
                    have hEq := (unhide HEg).same (hBl9.block g1 (cell_lt (unhide HEg).1))
                    have HEq := hide hEq
                    have HCO := hide (unhide HGAS r hr hrk)
                    have hbwg := (unhide HBz).trans ((unhide HBg).mono (unhide HBz).size)
                    have HGI := hide ((unhide HGME).1.below (hbwg.alloc hbwg.size (.cells (rawC (r.at_ a9 c9)) 34)))
                    clear hbwg
                    clear hBl9 hX9 hI9 hEq hr hrk
                    have hcap := own7_cap (unhide HRz)
                    have hil : gk.idx.length ≤ 100000 := by have := (unhide HGME).2; omega
                    go_wp2_with fail
                    generalize hq9 : wg.heap.size = h9 at *
                    generalize hWq : wg.alloc (.cells (rawC (r.at_ a9 c9)) 34) = Wq at *
                    clear hWq hq9
                    refine wp_region_rel [false, false, false, true, true, false, false, false, false, false, true, true, false, false] [(92, true)] [11] [94, 95, 101, 102] (Act.put _ (some 102) (.bool true)) ?A96 (fun x y => Below x.heap.size x y) (RelK (r.at_ a9 c9) gk) (by kernel_rfl) (by kernel_rfl) (fun x y z h1 h2 => h1.trans (h2.mono h1.size)) (fun x y h => h) (fun j v x y h hb => RelK.stay _ _ j v x y h hb) ((Off.refl _ _).put 102 _ (by simp)) ?det6 ?lex6 ?gA6 ?st6 ?fin6
                    case lex6 =>
                      intro z hz
                      have hneX := gb_ne z
                      have e0 : ∀ y : Gb z, y.w.cell? ⟨h9, 0, none⟩ = some (.int .i64 r.id) := fun y => gb_cell (cell_below (row7 (unhide HX9)).1 hz) y
                      have e1 : ∀ y : Gb z, y.w.cell? ⟨h9, 1, none⟩ = some (.int .i64 r.peer) := fun y => gb_cell (cell_below (row7 (unhide HX9)).2.1 hz) y
                      have e2 : ∀ y : Gb z, y.w.cell? ⟨h9, 2, none⟩ = some (.int .i64 r.mode) := fun y => gb_cell (cell_below (row7 (unhide HX9)).2.2.1 hz) y
                      have e3 : ∀ y : Gb z, y.w.cell? ⟨h9, 3, none⟩ = some (.int .i64 r.seed) := fun y => gb_cell (cell_below (row7 (unhide HX9)).2.2.2.1 hz) y
                      have e4 : ∀ y : Gb z, y.w.cell? ⟨h9, 4, none⟩ = some (.string r.hv) := fun y => gb_cell (cell_below (row7 (unhide HX9)).2.2.2.2.1 hz) y
                      have e5 : ∀ y : Gb z, y.w.cell? ⟨h9, 5, none⟩ = some (.slice a9 r.idx.length c9) := fun y => gb_cell (cell_below (row7 (unhide HX9)).2.2.2.2.2.1 hz) y
                      have e6 : ∀ y : Gb z, y.w.cell? ⟨h9, 6, none⟩ = some (.string r.dt) := fun y => gb_cell (cell_below (row7 (unhide HX9)).2.2.2.2.2.2.1 hz) y
                      have n1 : (k : Int) + 1 ≤ gc := by omega
                      have n2 : (k : Int) ≤ gc := by omega
                      have n3 : ¬ (gc : Int) < (k : Int) + 1 := by omega
                      have n4 : k + 1 ≤ gc := by omega
                      have n5 : k ≠ gc := by omega
                      have n6 : ¬ gc - k = 0 := by omega
                      have n7 : (gc : Int) ≤ 9223372036854775807 := by omega
                      dsimp only [restM]
                      simp only [Act.put, List.setIfInBounds_toArray, List.set_cons_succ, List.set_cons_zero]
                      repeat (go_big_quiet_step ((fail)))
                      refine wpQuiet_nil ?_
                      exact rfl
                    case det6 =>
                      intro j hj o s ho hs v z hR
                      simp only [List.mem_singleton] at hj
                      subst hj
                      simp only [List.getElem?_cons_succ, List.getElem?_cons_zero, Option.some.injEq] at ho
                      subst ho
                      simp only [Option.some.injEq] at hs
                      subst hs
                      exact hR.trans rfl
                    case gA6 =>
                      intro g hg
                      simp only [List.mem_singleton] at hg
                      subst hg
                      rfl
                    case st6 =>
                      intro j o ho hmj z bb hz hop
                      have hj : j ∈ [3, 4, 10, 11] := mask_in hmj
                      simp only [List.mem_cons, List.not_mem_nil, or_false] at hj
                      rcases hj with rfl | rfl | rfl | rfl
                      · simp only [List.getElem?_cons_succ, List.getElem?_cons_zero, Option.some.injEq] at ho
                        subst ho
                        have y0 : bb.eval (.tmp 93) = rawV (r.at_ a9 c9) := hop 93 (by simp [Op.operands])
                        have y0' : bb.tmps[93]?.getD undef = rawV (r.at_ a9 c9) := by simpa [Act.eval] using y0
                        go_simp
                        exact ⟨_, rfl, ⟨_, rfl, ents_one z _ _⟩, (Below.refl _ _).alloc (Nat.le_refl _) _⟩
                      · simp only [List.getElem?_cons_succ, List.getElem?_cons_zero, Option.some.injEq] at ho
                        subst ho
                        obtain ⟨h, y0, hE⟩ : ∃ h, bb.eval (.tmp 94) = .slice (some ⟨h, 0, none⟩) 1 1 ∧ EntsA z (some ⟨h, 0, none⟩) [r.at_ a9 c9] := hop 94 (by simp [Op.operands, Call.operands])
                        refine wp_call 22 #[.tmp 94] _ rfl Try.call22 #[.slice (some ⟨h, 0, none⟩) 1 1] (by simp [y0]) (refs_any [r.at_ a9 c9] _ 1 z hE (by simp)) ?_
                        rintro e w7 ⟨⟨v, rfl, hrow⟩, b7⟩
                        exact ⟨_, rfl, _, rfl, ents_row hrow, b7⟩
                      · simp only [List.getElem?_cons_succ, List.getElem?_cons_zero, Option.some.injEq] at ho
                        subst ho
                        have y0 : bb.eval (.tmp 100) = .slice (some ⟨g1, o1 + k * 7, none⟩) 1 (gc - k) := hop 100 (by simp [Op.operands, Call.operands])
                        refine wp_call 22 #[.tmp 100] _ rfl Try.call22 #[.slice (some ⟨g1, o1 + k * 7, none⟩) 1 (gc - k)] (by simp [y0]) (refs_any [gk] _ _ z ((ents_mid (unhide HEq)).below hz) (by simp)) ?_
                        rintro e w7 ⟨⟨v, rfl, hrow⟩, b7⟩
                        exact ⟨_, rfl, _, rfl, ents_row hrow, b7⟩
                      · simp only [List.getElem?_cons_succ, List.getElem?_cons_zero, Option.some.injEq] at ho
                        subst ho
                        obtain ⟨aa, ca, y0, hEa⟩ : ∃ a c, bb.eval (.tmp 95) = .slice a 1 c ∧ EntsA z a [r.at_ a9 c9] := hop 95 (by simp [Op.operands, Call.operands])
                        obtain ⟨ab, cb, y1, hEb⟩ : ∃ a c, bb.eval (.tmp 101) = .slice a 1 c ∧ EntsA z a [gk] := hop 101 (by simp [Op.operands, Call.operands])
                        refine wp_call 21 #[.tmp 95, .tmp 101] _ rfl Try.call21 #[.slice aa 1 ca, .slice ab 1 cb] (by simp [y0, y1]) (same14_any [r.at_ a9 c9] [gk] (by have h := unhide HCO; simp only [List.map_cons, List.map_nil]; rw [← h]; rfl) aa ab ca cb 1 rfl (by omega) z hEa hEb (fun q hq => by simp at hq; subst hq; exact ⟨(unhide HI9).below hz, by have h := congrArg List.length (show r.core.idx = gk.core.idx from congrArg _ (unhide HCO)); simp only [Raw.core] at h; simp only; omega⟩) (fun q hq => by simp at hq; subst hq; exact (unhide HGI).below hz)) ?_
                        rintro e w7 ⟨rfl, b7⟩
                        exact ⟨_, rfl, _, rfl, rfl, b7⟩
                    case fin6 =>
                      intro bb z hz hoff hrel
                      have hall := Off.all _ _ hoff
                      simp only [List.foldl_cons, List.foldl_nil] at hall
                      generalize bb.eval (.tmp 94) = v94 at hall
                      generalize bb.eval (.tmp 95) = v95 at hall
                      generalize bb.eval (.tmp 101) = v101 at hall
                      generalize bb.eval (.tmp 102) = v102 at hall
                      rw [hall]
                      clear hall hrel hoff bb
                      have HBr := hide ((unhide HBq).trans (hz.mono (unhide HBq).size))
                      clear hz
                      simp only [Act.put, List.setIfInBounds_toArray, List.set_cons_succ, List.set_cons_zero]
                      go_wp2
                      go_roundw
                      case rel => exact ⟨k + 1, by omega, by go_num, unhide HBr⟩
                      case measure => simp [intOf]; omega
                · have hke : k = (gn) := by omega
                  have q5 : ¬ (k : Int) < ((gn) : Nat) := by omega
                  have q6 : ¬ (k : Int) < ((gn) : Int) := by omega
                  have hSy := (unhide HSz).kept (unhide HBy)
                  have hln := hide (len_any p b 10 (last) rs wr hSy)
                  have hal := hide (all_any p b 10 (last) rs wr hSy)
                  have HSy := hide hSy
                  have HRy := hide (own7_below (unhide HRz) (unhide HBy))
                  generalize hrn : rs.length = rn at *
                  have HRN := hide hrn
                  clear hSy hrn
                  have n1 : ¬ (10 : Int) < rn := by omega
                  have n2 : decide ((10 : Int) < rn) = false := decide_eq_false n1
                  go_wp2_with fail
                  refine (unhide hln).mono ?_
                  rintro e w7 ⟨rfl, rfl⟩
                  go_wp2_with fail
                  refine (unhide hal).mono ?_
                  rintro e w8 ⟨⟨v8, rfl, rs8, hO8⟩, hb8⟩
                  have hn8 := core_len hO8.core
                  rw [unhide HRN] at hn8
                  have hrow8 := hO8.row
                  rw [hn8] at hrow8
                  obtain ⟨a8, c8, rfl⟩ := own_shape7 hrow8
                  have hSz8 := (unhide HSy).kept hb8
                  have hln8 := hide (len_any p b 10 (last) rs w8 hSz8)
                  rw [unhide HRN] at hln8
                  have HS8 := hide hSz8
                  have HR8 := hide (own7_below (unhide HRy) hb8)
                  have HB8 := hide ((unhide HBw).trans (hb8.mono (unhide HBw).size))
                  clear hO8 hb8 hn8 hrow8 hSz8 hal hln
                  go_wp2_with fail
                  refine (unhide hln8).mono ?_
                  rintro e w9 ⟨rfl, rfl⟩
                  go_wp2
                  go_roundw
                  case rel => exact ⟨i + 1, _, rs, gs, by omega, by omega, by go_num, rfl, unhide HS8, by omega, by rw [unhide HGSL]; exact unhide HR8, by rw [unhide HGSL]; omega, unhide HGz, unhide HB8⟩
                  case measure => simp [intOf]; omega
    · have hq : (¬ (i : Int) < L) ∨ ((i : Int) < L ∧ ¬ (i : Int) < 40) := by omega
      clear hlt
      rcases hq with q1 | ⟨q1, q2⟩
      all_goals
        go_wp2
        go_ret
        exact ⟨rfl, unhide HB⟩
end Go.Proofs.Ytgomnmhjkjahlaa

/- NetCounts. -/
import Derived.Test.YtmnjngkdiinnfaaNtK
import Derived.Test.YtmnjngkdiinnfaaOpenNa
namespace Go.Proofs.Ytmnjngkdiinnfaa
open Go.RowKit
set_option linter.unusedVariables false
attribute [local go_sem] Oper.semAt_some

theorem snd_ways (room last : Int) (rs : List Mg) (r : Mg) : (sndE room rs r = 0 ∧ sndT room last rs r = last + 1 ∧ sndL room last rs r = rs ++ [{ r with id := last + 1 }]) ∨ ((sndE room rs r == 0) = false ∧ sndT room last rs r = last ∧ sndL room last rs r = rs) := by
  unfold sndE sndT sndL
  cases hm : mayG r.fr r.to r.tx.size with
  | false =>
    right
    simp
  | true =>
    by_cases hf : (rs.length : Int) < room
    · left
      simp [hf]
    · right
      simp [hf]
theorem tw_ways (room last : Int) (rs : List Mg) (k : Int) : (twE room rs k = 0 ∧ twT room last rs k = last + 1 ∧ ∃ x ∈ rs, twL room last rs k = rs ++ [{ x with id := last + 1 }]) ∨ ((twE room rs k == 0) = false ∧ twT room last rs k = last ∧ twL room last rs k = rs) := by
  unfold twE twT twL
  cases hf : fM rs k with
  | none =>
    right
    simp
  | some x =>
    have hx := (fM_some hf).1
    have e : tkG rs k = x := by unfold tkG; rw [hf]; rfl
    rw [e]
    rcases snd_ways room last rs x with ⟨h1, h2, h3⟩ | ⟨h1, h2, h3⟩
    · exact .inl ⟨h1, h2, x, hx, h3⟩
    · exact .inr ⟨h1, h2, h3⟩
theorem tk_ways (rs : List Mg) (hp : rs.Pairwise fun a b => a.id < b.id) (k : Int) : (tkE rs k = 0 ∧ tkG rs k ∈ rs ∧ (tkL rs k).length + 1 = rs.length ∧ ∀ r ∈ tkL rs k, r ∈ rs) ∨ (tkE rs k = 4 ∧ tkL rs k = rs) := by
  unfold tkE tkG tkL
  cases hf : fM rs k with
  | none =>
    right
    refine ⟨rfl, ?_⟩
    rw [List.filter_eq_self]
    intro r hr
    simpa using fM_none hf r hr
  | some x =>
    left
    obtain ⟨hx, hk⟩ := fM_some hf
    refine ⟨rfl, hx, ?_, fun r hr => (List.mem_filter.1 hr).1⟩
    have h1 := filter_one_less rs hp k
    have h2 : rs.any (fun r => decide (r.id = k)) = true := by
      rw [List.any_eq_true]
      exact ⟨x, hx, by simpa using hk⟩
    rw [h2, if_pos rfl] at h1
    exact h1
theorem own_below_alloc {w : World} {B n : Nat} {v : Value} {xs : List Value} (h : w.ownsRow B 30 3 v n xs) (o : Obj) : (w.alloc o).ownsRow B 30 3 v n xs := by
  refine ⟨h.1, ?_⟩
  rcases h.2 with ⟨h1, h2⟩ | ⟨g, cap, cur, h1, h2, h3, h4⟩
  · exact .inl ⟨h1, h2⟩
  · exact .inr ⟨g, cap, cur, h1, h2, (Below.heap_alloc _ _ _ (lt_of_block h3)).trans h3, h4⟩
theorem gmL_one (r : Mg) : ∀ u ∈ gmL r, u.oneCell' = true := by
  intro u hu
  simp [gmL] at hu
  rcases hu with rfl | rfl | rfl <;> rfl
/-- an append to a row of datagrams keeps a net -/
theorem grown_net {w x y : World} {b : Nat} {room last : Int} {rs : List Mg} {v : Value} {S : List Mg} {o : Obj} {bb : Option Nat} (hN : Nt x w.heap.size b room last rs) (hO : OwnG x w.heap.size v S) (hB : Below w.heap.size w x) (hg : (x.alloc o).grownBy y bb) (hbb : bb = v.ownBlock) :
    Below w.heap.size w y ∧ Nt y w.heap.size b room last rs := by
  subst hbb
  have own : ∀ k, v.ownBlock = some k → w.heap.size ≤ k ∧ ∃ cur, x.heap[k]? = some (.cells cur 30 (0, 0)) := by
    intro k hk
    rcases hO.2 with ⟨h1, _⟩ | ⟨g, cap, cur, h1, h2, h3, _⟩
    · rw [h1] at hk; cases hk
    · rw [h1] at hk
      simp only [Value.ownBlock, Option.some.injEq] at hk
      subst hk
      exact ⟨h2, cur, h3⟩
  have old : ∀ k, k < x.heap.size → v.ownBlock ≠ some k → y.heap[k]? = x.heap[k]? := by
    intro k hk hne
    rw [hg.block k (by simp; omega) (fun e => hne e.symm)]
    exact Below.heap_alloc _ _ _ (by omega)
  refine ⟨⟨hg.os.trans hB.os, hg.tape.trans hB.tape, hg.output.trans hB.output, ?_, fun k hk => ?_⟩, ?_⟩
  · have := hg.size
    have := hB.size
    simp at *
    omega
  · rw [old k (by have := hB.size; omega) (fun e => by have := (own k e).1; omega)]
    exact hB.block k hk
  · obtain ⟨mb, iv, h⟩ := hN
    refine ⟨mb, iv, h.typed (old b h.blt (fun e => ?_)) (old mb h.mlt (fun e => ?_)) (fun k cur fr hk => old k (lt_of_block hk) (fun e => ?_))⟩
    · obtain ⟨_, cur, h3⟩ := own b e
      rw [h.blk] at h3
      simp only [Option.some.injEq, Obj.cells.injEq] at h3
      exact absurd h3.2.1 (by decide)
    · obtain ⟨_, cur, h3⟩ := own mb e
      obtain ⟨es, cl, hm⟩ := h.isMap
      rw [hm] at h3
      cases h3
    · obtain ⟨_, cur', h3⟩ := own k e
      rw [hk] at h3
      simp only [Option.some.injEq, Obj.cells.injEq] at h3
      exact absurd h3.2.1 (by decide)
theorem nth_wf {w : World} {B b : Nat} {room last : Int} {rs : List Mg} (h : Nt w B b room last rs) (i : Int) : (Lit.int .i64 (nthI rs i)).wf = true := by
  obtain ⟨mb, iv, h⟩ := h
  have : nthI rs i = 0 ∨ ∃ r ∈ rs, nthI rs i = r.id := by
    unfold nthI
    by_cases e : i < 0 ∨ rs = []
    · rw [if_pos e]
      exact .inl rfl
    · rw [if_neg e, List.getD_eq_getElem?_getD]
      cases hg : (rs.map Mg.id)[(i.tmod rs.length).toNat]? with
      | none => exact .inl rfl
      | some v =>
        obtain ⟨r, hr, rfl⟩ := List.mem_map.1 (List.mem_of_getElem? hg)
        exact .inr ⟨r, hr, rfl⟩
  rcases this with e | ⟨r, hr, e⟩
  · rw [e]; decide
  · rw [e]
    exact WalkArith.wf_i64 (by have := h.ids r hr; have := h.last1; omega)
/-- the net, and what was sent -/
structure CS (w : World) (b : Nat) (i : Nat) (put gone : Int) (v : Value) (S : List Mg) (x : World) : Prop where
  nt : ∃ last rs, Nt x w.heap.size b 40 last rs ∧ last ≤ i ∧ (rs.length : Int) = put - gone ∧ ∀ r ∈ rs, ∃ s ∈ S, gmSame s r
  own : OwnG x w.heap.size v S
  sl : S.length ≤ i
  be : Below w.heap.size w x
  pb : 0 ≤ put ∧ put ≤ i ∧ 0 ≤ gone ∧ gone ≤ i
theorem CS.up {w : World} {b i : Nat} {put gone : Int} {v : Value} {S : List Mg} {x y : World} (h : CS w b i put gone v S x) (hb : Below x.heap.size x y) : CS w b i put gone v S y := by
  obtain ⟨last, rs, h1, h2⟩ := h.nt
  exact ⟨⟨last, rs, h1.kept hb, h2⟩, h.own.below hb, h.sl, h.be.trans (hb.mono h.be.size), h.pb⟩
theorem CS.more {w : World} {b i : Nat} {put gone : Int} {v : Value} {S : List Mg} {x : World} (h : CS w b i put gone v S x) : CS w b (i + 1) put gone v S x := by
  obtain ⟨last, rs, h1, h2, h3⟩ := h.nt
  have h4 := h.pb
  exact ⟨⟨last, rs, h1, by omega, h3⟩, h.own, by have := h.sl; omega, h.be, by omega⟩
theorem nas_range {w x : World} {a0 : Option Addr} {l : List Na} (h : NasAt w a0 l) (hb : Below w.heap.size w x) {i : Nat} {p : Na} (hp : l[i]? = some p) : ∃ g o, a0 = some ⟨g, o, none⟩ ∧ g < w.heap.size ∧ x.rangeAt g (o + i * 5) p.cl := by
  obtain ⟨g, o, h1, h2, h3⟩ := h i p hp
  exact ⟨g, o, h1, h2, fun j v hv => (hb.cell (p := ⟨g, o + i * 5 + j, none⟩) h2).trans (h3 j v hv)⟩
/-- an act lies in a new block -/
structure NewAc (w : World) (p : Na) (x : World) : Prop where
  blk : x.heap[w.heap.size]? = some (.cells p.cl.toArray 32 (0, 0))
  be : Below w.heap.size w x
def zA : Na := ⟨0, 0, 0, 0, ⟨#[]⟩⟩
theorem newAc (w : World) (p : Na) : NewAc w p ((w.alloc (.cells zA.cl.toArray 32)).setRow w.heap.size p.cl.toArray) := by
  have h1 := heap_alloc_new w (.cells zA.cl.toArray 32)
  have h2 : Below w.heap.size w (w.alloc (.cells zA.cl.toArray 32)) := (Below.refl _ _).alloc (Nat.le_refl _) _
  exact ⟨setRow_heap _ _ _ _ _ _ h1, ⟨h2.os, h2.tape, h2.output, by simp [World.setRow], fun i hi => (setRow_other _ _ i _ (by omega)).trans (h2.block i hi)⟩⟩
theorem cells5 {w : World} {g : Nat} {a b c d e : Value} {t : TypeId} (hw : w.heap[g]? = some (.cells #[a, b, c, d, e] t (0, 0))) :
    w.cell? ⟨g, 0, none⟩ = some a ∧ w.cell? ⟨g, 1, none⟩ = some b ∧ w.cell? ⟨g, 2, none⟩ = some c ∧ w.cell? ⟨g, 3, none⟩ = some d ∧ w.cell? ⟨g, 4, none⟩ = some e :=
  ⟨by rw [cell_of_row _ _ 0 _ _ (0, 0) hw]; rfl, by rw [cell_of_row _ _ 1 _ _ (0, 0) hw]; rfl, by rw [cell_of_row _ _ 2 _ _ (0, 0) hw]; rfl, by rw [cell_of_row _ _ 3 _ _ (0, 0) hw]; rfl, by rw [cell_of_row _ _ 4 _ _ (0, 0) hw]; rfl⟩
set_option maxRecDepth 100000 in
set_option maxHeartbeats 8000000 in
theorem netCounts_any (a0 : Option Addr) (l : List Na) (c : Nat) (w : World) (hA : NasAt w a0 l) (hO : NasOk l c) :
    Calls Try.prog 4 #[.slice a0 l.length c] w fun e w' => e = .returned (.bool true) ∧ Below w.heap.size w w' := by
  have h1 := hide (nnew 40 w (by omega))
  have HA := hide hA
  have HOK := hide hO.2.2
  have hlm : (l.length : Int) ≤ 9223372036854775807 := by
    have := hO.1
    have := hO.2.1
    unfold maxLen at this
    omega
  generalize hn : l.length = n at *
  have HN := hide hn
  clear hA hO hn
  go_enter Try.func4, Try.ntmps4
  go_wp2_with fail
  refine (unhide h1).mono ?_
  rintro e w1 ⟨⟨b, rfl, n1⟩, b1⟩
  have N1 := hide n1
  have B1 := hide b1
  clear n1 b1 h1
  go_wp2_with fail
  refine (nawake_any _).mono ?_
  rintro e w2 ⟨rfl, b2⟩
  have HC0 : Hid (CS w b 0 0 0 (.slice none 0 0) [] w2) := ⟨⟨0, [], (unhide N1).kept b2, by omega, by simp, by simp⟩, World.ownsRow_nil _ _ _ _, by simp, (unhide B1).trans (b2.mono (unhide B1).size), by omega⟩
  clear b2 N1 B1
  go_wp2_with fail
  go_loopw [4, 5, 6, 7] (fun pv gv sv iv wr => ∃ (i : Nat) (put gone : Int) (S : List Mg), i ≤ n ∧ i ≤ 60 ∧ pv = .int .i64 put ∧ gv = .int .i64 gone ∧ iv = .int .i64 i ∧ CS w b i put gone sv S wr) (fun _ _ _ iv _ => n - (intOf iv).toNat)
  case atStart => exact ⟨0, 0, 0, [], by omega, by omega, rfl, rfl, rfl, unhide HC0⟩
  case round =>
    clear HC0
    obtain ⟨i, put, gone, S, hin, hi6, rfl, rfl, rfl, hcs⟩ := hrel
    obtain ⟨aS, cS, rfl, hgm⟩ := hcs.own.gms
    have HGM := hide hgm
    have hpb := hcs.pb
    have HC := hide hcs
    obtain ⟨ns, hns⟩ : ∃ ns, S.length = ns := ⟨_, rfl⟩
    have hsl := hcs.sl
    rw [hns] at hsl HC ⊢
    have HNS := hide hns
    clear hcs hgm hns
    by_cases hlt : i < n ∧ i < 60
    · have q1 : (i : Int) < n := by omega
      have q2 : (i : Int) < 60 := by omega
      obtain ⟨p, hp⟩ : ∃ p, l[i]? = some p := ⟨_, List.getElem?_eq_getElem (by rw [unhide HN]; exact hlt.1)⟩
      obtain ⟨gd, od, rfl, hgl, hra⟩ := nas_range (unhide HA) (unhide HC).be hp
      have hok := unhide HOK p (List.mem_of_getElem? hp)
      obtain ⟨kd, id, fr, to, tx⟩ := p
      have hz := hok.1
      unfold maxLen at hz
      have HWI := hide hok.2
      have k0 : wr.cell? ⟨gd, od + i * 5, none⟩ = some (.int .i64 kd) := hra 0 _ rfl
      have k1 : wr.cell? ⟨gd, od + i * 5 + 1, none⟩ = some (.int .i64 id) := hra 1 _ rfl
      have k2 : wr.cell? ⟨gd, od + i * 5 + 2, none⟩ = some (.int .i64 fr) := hra 2 _ rfl
      have k3 : wr.cell? ⟨gd, od + i * 5 + 3, none⟩ = some (.int .i64 to) := hra 3 _ rfl
      have k4 : wr.cell? ⟨gd, od + i * 5 + 4, none⟩ = some (.string tx) := hra 4 _ rfl
      have HZ := hide (heap_alloc_new wr (.cells zA.cl.toArray 32))
      have HG := hide (newAc wr ⟨kd, id, fr, to, tx⟩)
      unfold zA Na.cl at HZ
      dsimp only at HZ
      clear hp hgl hra hok
      go_wp2_with (refine wpList_store_row_to rfl 32 (.tmp 8) (.tmp 35) rfl wr.heap.size #[.int .i64 kd, .int .i64 id, .int .i64 fr, .int .i64 to, .string tx] rfl rfl 32 _ (unhide HZ) (by kernel_rfl) rfl (by simp [Value.oneCell']) (NewAc wr ⟨kd, id, fr, to, tx⟩) (unhide HG) ?_)
      intro w3 h3
      have HC3 := hide ((unhide HC).up h3.be)
      have HX3 := hide (show w3.heap[wr.heap.size]? = some (.cells #[.int .i64 kd, .int .i64 id, .int .i64 fr, .int .i64 to, .string tx] 32 (0, 0)) from h3.blk)
      have HGM3 := hide ((unhide HGM).up h3.be)
      obtain ⟨x0, x1, x2, x3, x4⟩ := cells5 (unhide HX3)
      generalize hxb : wr.heap.size = xb at *
      have HXB := hide hxb
      clear h3 hxb HZ HG HC HGM k0 k1 k2 k3 k4
      by_cases hs : 500 < tx.size
      · have q3 : (500 : Int) < tx.size := by omega
        go_wp2
        go_roundw
        case rel => exact ⟨i + 1, put, gone, S, by omega, by omega, rfl, rfl, by go_num, (unhide HC3).more⟩
        case measure => simp [intOf]; omega
      · have q3 : ¬ (500 : Int) < tx.size := by omega
        have hz2 : tx.size ≤ 500 := by omega
        have HZ2 := hide hz2
        clear hs hz2
        obtain ⟨last, rs, hnt, hla, hle, hme⟩ := (unhide HC3).nt
        obtain ⟨mb0, iv0, hnt0⟩ := hnt
        have HPW := hide hnt0.up
        have HRL := hide hnt0.len
        have HL0 := hide hnt0.last0
        have HNT := hide (show Nt w3 w.heap.size b 40 last rs from ⟨mb0, iv0, hnt0⟩)
        have HLE := hide hle
        have HME := hide hme
        have hl9 : last < 1000000000 := by omega
        have HLA := hide hla
        clear hnt0 hle hme hla
        by_cases c0 : kd = 0
        · subst c0
          have hsn := hide (nsend w.heap.size b 40 last rs ⟨0, fr, to, tx⟩ w3 (unhide HNT) (show tx.size ≤ maxLen by unfold maxLen; omega) hl9)
          have hways := snd_ways 40 last rs ⟨0, fr, to, tx⟩
          generalize sndI 40 last rs ⟨0, fr, to, tx⟩ = si at *
          generalize sndE 40 rs ⟨0, fr, to, tx⟩ = se at *
          generalize sndT 40 last rs ⟨0, fr, to, tx⟩ = st at *
          generalize sndL 40 last rs ⟨0, fr, to, tx⟩ = sl at *
          have HWY := hide hways
          clear hways
          go_wp2_with fail
          refine (unhide hsn).mono ?_
          rintro e w4 ⟨rfl, n4, k4⟩
          have N4 := hide n4
          have B4 := hide ((unhide HC3).be.trans (k4.below (unhide HC3).be.size))
          have O4 := hide ((unhide HC3).own.kn k4)
          have HX4 := hide ((k4.typ _ _ _ _ (unhide HX3) (by decide) (by decide)).trans (unhide HX3))
          clear n4 k4 hsn x0 x1 x2 x3 x4
          obtain ⟨x0, x1, x2, x3, x4⟩ := cells5 (unhide HX4)
          rcases unhide HWY with ⟨rfl, rfl, rfl⟩ | ⟨hse, rfl, rfl⟩
          · clear HWY
            obtain ⟨k0, hki, hkz0, hkz1, hkz2⟩ := info_parts Try.infoGm
            have hwx := (unhide B4).size
            have HO : Hid (w4.ownsRow w.heap.size 30 3 (.slice aS ns cS) ns (gmF S)) := by
              have := unhide O4
              unfold OwnG at this
              rw [unhide HNS] at this
              exact this
            go_wp2_with (refine wpList_append_lies _ rfl (.tmp 54) (.tmp 57) 57 rfl w.heap.size 30 k0 (.agg #[.int .i64 0, .int .i64 0, .string ⟨#[]⟩]) 3 32 Try.undGm hki hkz0 hkz1 hkz2 rfl (by decide) (.slice aS ns cS) ns _ (by rfl) (own_below_alloc (unhide HO) _) ⟨w4.heap.size, 0, none⟩ 1 1 [.int .i64 fr, .int .i64 to, .string tx] (by rfl) (by rfl) (World.news_of_block (heap_alloc_new w4 _)) (gmL_one ⟨0, fr, to, tx⟩) (by decide) (by unfold maxLen; omega) (by omega) (by simp; omega) _ rfl ?_)
            intro g2 cap2 w5 hown hgrow hat hlt2
            have hO5 : OwnG w5 w.heap.size (.slice (some ⟨g2, 0, none⟩) (ns + 1) cap2) (S ++ [⟨0, fr, to, tx⟩]) := by
              unfold OwnG
              rw [gmF_append, List.length_append, unhide HNS]
              exact hown
            obtain ⟨hb5, hn5⟩ := grown_net (unhide N4) (unhide O4) (unhide B4) hgrow (by rw [← unhide HNS])
            have N5 := hide hn5
            have B5 := hide hb5
            have O5 := hide hO5
            have LF : Hid (((rs ++ [({ id := last + 1, fr := fr, to := to, tx := tx } : Mg)]).length : Int) = put + 1 - gone) := by
              have := unhide HLE
              show _ = _
              simp
              omega
            have MF : Hid (∀ r ∈ rs ++ [({ id := last + 1, fr := fr, to := to, tx := tx } : Mg)], ∃ s ∈ S ++ [(⟨0, fr, to, tx⟩ : Mg)], gmSame s r) := by
              intro r hr
              rw [List.mem_append] at hr
              rcases hr with hr | hr
              · obtain ⟨s, hs, h⟩ := unhide HME r hr
                exact ⟨s, List.mem_append_left _ hs, h⟩
              · simp at hr
                subst hr
                exact ⟨⟨0, fr, to, tx⟩, List.mem_append_right _ (by simp), rfl, rfl, rfl⟩
            clear hown hgrow hat hlt2 hO5 hb5 hn5 HO N4 B4 O4
            have HCF : Hid (CS w b (i + 1) (put + 1) (gone) (.slice (some ⟨g2, 0, none⟩) (ns + 1) cap2) (S ++ [⟨0, fr, to, tx⟩]) w5) := ⟨⟨last + 1, rs ++ [({ id := last + 1, fr := fr, to := to, tx := tx } : Mg)], unhide N5, by have := unhide HLA; omega, unhide LF, unhide MF⟩, unhide O5, by have := unhide HNS; simp; omega, unhide B5, by omega⟩
            have hlen := hide (nlen w.heap.size b 40 (last + 1) (rs ++ [({ id := last + 1, fr := fr, to := to, tx := tx } : Mg)]) w5 (unhide N5))
            obtain ⟨m, hm⟩ : ∃ m : Int, m = ((rs ++ [({ id := last + 1, fr := fr, to := to, tx := tx } : Mg)]).length : Int) := ⟨_, rfl⟩
            rw [← hm] at hlen
            have hm1 : m = put + 1 - (gone) := by rw [hm]; exact unhide LF
            have d1 : (m != put + 1 - (gone)) = false := by rw [hm1]; simp
            have hm4 : ((rs ++ [({ id := last + 1, fr := fr, to := to, tx := tx } : Mg)]).length : Int) ≤ 40 := by obtain ⟨_, _, hq⟩ := unhide N5; exact hq.len
            have d2 : ¬ (40 : Int) < m := by omega
            have d3 : decide ((40 : Int) < m) = false := decide_eq_false d2
            clear hm hm1 hm4 x0 x1 x2 x3 x4
            go_wp2_with fail
            refine (unhide hlen).mono ?_
            rintro e wz ⟨rfl, rfl⟩
            go_wp2_with fail
            refine (unhide hlen).mono ?_
            rintro e wz ⟨rfl, rfl⟩
            go_wp2
            go_roundw
            case rel => exact ⟨i + 1, _, _, _, by omega, by omega, by go_num, by go_num, by go_num, unhide HCF⟩
            case measure => simp [intOf]; omega
          · clear HWY
            have q5 : ¬ se = 0 := by simpa using hse
            have HCF : Hid (CS w b (i + 1) (put) (gone) (.slice aS ns cS) (S) w4) := ⟨⟨st, sl, unhide N4, by have := unhide HLA; omega, unhide HLE, unhide HME⟩, (unhide O4), by have := unhide HNS; omega, unhide B4, by omega⟩
            have hlen := hide (nlen w.heap.size b 40 (st) (sl) w4 (unhide N4))
            obtain ⟨m, hm⟩ : ∃ m : Int, m = ((sl).length : Int) := ⟨_, rfl⟩
            rw [← hm] at hlen
            have hm1 : m = put - (gone) := by rw [hm]; exact unhide HLE
            have d1 : (m != put - (gone)) = false := by rw [hm1]; simp
            have hm4 : ((sl).length : Int) ≤ 40 := by obtain ⟨_, _, hq⟩ := unhide N4; exact hq.len
            have d2 : ¬ (40 : Int) < m := by omega
            have d3 : decide ((40 : Int) < m) = false := decide_eq_false d2
            clear hm hm1 hm4 x0 x1 x2 x3 x4
            go_wp2_with fail
            refine (unhide hlen).mono ?_
            rintro e wz ⟨rfl, rfl⟩
            go_wp2_with fail
            refine (unhide hlen).mono ?_
            rintro e wz ⟨rfl, rfl⟩
            go_wp2
            go_roundw
            case rel => exact ⟨i + 1, _, _, _, by omega, by omega, by go_num, by go_num, by go_num, unhide HCF⟩
            case measure => simp [intOf]; omega
        by_cases c1 : kd = 1
        · subst c1
          have B3 := hide (unhide HC3).be
          have O3 := hide (unhide HC3).own
          have htk := hide (ntake w.heap.size b 40 last rs id (unhide HWI) w3 (unhide HNT))
          have hways := tk_ways rs (unhide HPW) id
          generalize tkG rs id = tg at *
          generalize tkE rs id = te at *
          generalize tkL rs id = tl at *
          have HWY := hide hways
          clear hways
          go_wp2_with fail
          refine (unhide htk).mono ?_
          rintro e w6 ⟨rfl, n6, k6⟩
          have N6 := hide n6
          have B6 := hide ((unhide B3).trans (k6.below (unhide B3).size))
          have O6 := hide ((unhide O3).kn k6)
          have HX6 := hide ((k6.typ _ _ _ _ (unhide HX3) (by decide) (by decide)).trans (unhide HX3))
          have HZ := hide (heap_alloc_new w6 (.cells (gmC zM) 30))
          have HG := hide (newGm w6 zM tg)
          clear n6 k6 htk x0 x1 x2 x3 x4
          go_wp2_with (refine wpList_store_row_to rfl 30 (.tmp 11) (.tmp 77) rfl w6.heap.size (gmC tg) rfl rfl 30 (gmC zM) (unhide HZ) (gm_info tg) rfl (gm_all tg) (NewGm w6 tg) (unhide HG) ?_)
          intro w7 h7
          have N7 := hide ((unhide N6).kept h7.be)
          have B7 := hide ((unhide B6).trans (h7.be.mono (unhide B6).size))
          have O7 := hide ((unhide O6).below h7.be)
          have HX7 := hide ((h7.be.block _ (lt_of_block (unhide HX6))).trans (unhide HX6))
          obtain ⟨t0, t1, t2, tf⟩ := cells3 h7.blk
          obtain ⟨x0, x1, x2, x3, x4⟩ := cells5 (unhide HX7)
          clear h7 HZ HG N6 B6 O6 HX6
          rcases unhide HWY with ⟨rfl, htm, htl, htr⟩ | ⟨rfl, rfl⟩
          · clear HWY
            obtain ⟨ao, co, hvo, hgo⟩ := (unhide O7).gms
            have hvo' := hvo
            rw [unhide HNS] at hvo'
            simp only [Value.slice.injEq, true_and] at hvo'
            obtain ⟨rfl, rfl⟩ := hvo'
            have ham := hide (among_any aS S cS tg w7 hgo (by have := unhide HNS; omega) (unhide HME tg htm))
            rw [unhide HNS] at ham
            have LF : Hid ((tl.length : Int) = put - (gone + 1)) := by
              have := unhide HLE
              show _ = _
              omega
            have MF : Hid (∀ r ∈ tl, ∃ s ∈ S, gmSame s r) := fun r hr => unhide HME r (htr r hr)
            clear hvo hgo htm htl htr
            go_wp2_with fail
            refine (unhide ham).mono ?_
            rintro e w8 ⟨rfl, b8⟩
            have N8 := hide ((unhide N7).kept b8)
            have B8 := hide ((unhide B7).trans (b8.mono (unhide B7).size))
            have O8 := hide ((unhide O7).below b8)
            have HX8 := hide ((b8.block _ (lt_of_block (unhide HX7))).trans (unhide HX7))
            clear b8 ham N7 B7 O7 t0 t1 t2 tf
            have HCF : Hid (CS w b (i + 1) (put) (gone + 1) (.slice aS ns cS) (S) w8) := ⟨⟨last, tl, unhide N8, by have := unhide HLA; omega, unhide LF, unhide MF⟩, unhide O8, by have := unhide HNS; omega, unhide B8, by omega⟩
            have hlen := hide (nlen w.heap.size b 40 (last) (tl) w8 (unhide N8))
            obtain ⟨m, hm⟩ : ∃ m : Int, m = ((tl).length : Int) := ⟨_, rfl⟩
            rw [← hm] at hlen
            have hm1 : m = put - (gone + 1) := by rw [hm]; exact unhide LF
            have d1 : (m != put - (gone + 1)) = false := by rw [hm1]; simp
            have hm4 : ((tl).length : Int) ≤ 40 := by obtain ⟨_, _, hq⟩ := unhide N8; exact hq.len
            have d2 : ¬ (40 : Int) < m := by omega
            have d3 : decide ((40 : Int) < m) = false := decide_eq_false d2
            clear hm hm1 hm4 x0 x1 x2 x3 x4
            go_wp2_with fail
            refine (unhide hlen).mono ?_
            rintro e wz ⟨rfl, rfl⟩
            go_wp2_with fail
            refine (unhide hlen).mono ?_
            rintro e wz ⟨rfl, rfl⟩
            go_wp2
            go_roundw
            case rel => exact ⟨i + 1, _, _, _, by omega, by omega, by go_num, by go_num, by go_num, unhide HCF⟩
            case measure => simp [intOf]; omega
          · clear HWY
            clear t0 t1 t2 tf
            have HCF : Hid (CS w b (i + 1) (put) (gone) (.slice aS ns cS) (S) w7) := ⟨⟨last, tl, unhide N7, by have := unhide HLA; omega, unhide HLE, unhide HME⟩, unhide O7, by have := unhide HNS; omega, unhide B7, by omega⟩
            have hlen := hide (nlen w.heap.size b 40 (last) (tl) w7 (unhide N7))
            obtain ⟨m, hm⟩ : ∃ m : Int, m = ((tl).length : Int) := ⟨_, rfl⟩
            rw [← hm] at hlen
            have hm1 : m = put - (gone) := by rw [hm]; exact unhide HLE
            have d1 : (m != put - (gone)) = false := by rw [hm1]; simp
            have hm4 : ((tl).length : Int) ≤ 40 := by obtain ⟨_, _, hq⟩ := unhide N7; exact hq.len
            have d2 : ¬ (40 : Int) < m := by omega
            have d3 : decide ((40 : Int) < m) = false := decide_eq_false d2
            clear hm hm1 hm4 x0 x1 x2 x3 x4
            go_wp2_with fail
            refine (unhide hlen).mono ?_
            rintro e wz ⟨rfl, rfl⟩
            go_wp2_with fail
            refine (unhide hlen).mono ?_
            rintro e wz ⟨rfl, rfl⟩
            go_wp2
            go_roundw
            case rel => exact ⟨i + 1, _, _, _, by omega, by omega, by go_num, by go_num, by go_num, unhide HCF⟩
            case measure => simp [intOf]; omega
        by_cases c4 : kd = 4
        · subst c4
          have hid := wf64 (unhide HWI)
          have hnt := hide (nnth w.heap.size b 40 last rs id hid w3 (unhide HNT))
          have HWJ : Hid ((Lit.int .i64 (nthI rs id)).wf = true) := nth_wf (unhide HNT) id
          clear hid
          generalize nthI rs id = ix at *
          go_wp2_with fail
          refine (unhide hnt).mono ?_
          rintro e w5 ⟨rfl, b5⟩
          have N5 := hide ((unhide HNT).kept b5)
          have B5 := hide ((unhide HC3).be.trans (b5.mono (unhide HC3).be.size))
          have O5 := hide ((unhide HC3).own.below b5)
          have HX5 := hide ((b5.block _ (lt_of_block (unhide HX3))).trans (unhide HX3))
          clear b5 hnt x0 x1 x2 x3 x4
          obtain ⟨x0, x1, x2, x3, x4⟩ := cells5 (unhide HX5)
          have htk := hide (ntake w.heap.size b 40 last rs ix (unhide HWJ) w5 (unhide N5))
          have hways := tk_ways rs (unhide HPW) ix
          generalize tkG rs ix = tg at *
          generalize tkE rs ix = te at *
          generalize tkL rs ix = tl at *
          have HWY := hide hways
          clear hways
          go_wp2_with fail
          refine (unhide htk).mono ?_
          rintro e w6 ⟨rfl, n6, k6⟩
          have N6 := hide n6
          have B6 := hide ((unhide B5).trans (k6.below (unhide B5).size))
          have O6 := hide ((unhide O5).kn k6)
          have HX6 := hide ((k6.typ _ _ _ _ (unhide HX5) (by decide) (by decide)).trans (unhide HX5))
          have HZ := hide (heap_alloc_new w6 (.cells (gmC zM) 30))
          have HG := hide (newGm w6 zM tg)
          clear n6 k6 htk x0 x1 x2 x3 x4
          go_wp2_with (refine wpList_store_row_to rfl 30 (.tmp 11) (.tmp 77) rfl w6.heap.size (gmC tg) rfl rfl 30 (gmC zM) (unhide HZ) (gm_info tg) rfl (gm_all tg) (NewGm w6 tg) (unhide HG) ?_)
          intro w7 h7
          have N7 := hide ((unhide N6).kept h7.be)
          have B7 := hide ((unhide B6).trans (h7.be.mono (unhide B6).size))
          have O7 := hide ((unhide O6).below h7.be)
          have HX7 := hide ((h7.be.block _ (lt_of_block (unhide HX6))).trans (unhide HX6))
          obtain ⟨t0, t1, t2, tf⟩ := cells3 h7.blk
          obtain ⟨x0, x1, x2, x3, x4⟩ := cells5 (unhide HX7)
          clear h7 HZ HG N6 B6 O6 HX6
          rcases unhide HWY with ⟨rfl, htm, htl, htr⟩ | ⟨rfl, rfl⟩
          · clear HWY
            obtain ⟨ao, co, hvo, hgo⟩ := (unhide O7).gms
            have hvo' := hvo
            rw [unhide HNS] at hvo'
            simp only [Value.slice.injEq, true_and] at hvo'
            obtain ⟨rfl, rfl⟩ := hvo'
            have ham := hide (among_any aS S cS tg w7 hgo (by have := unhide HNS; omega) (unhide HME tg htm))
            rw [unhide HNS] at ham
            have LF : Hid ((tl.length : Int) = put - (gone + 1)) := by
              have := unhide HLE
              show _ = _
              omega
            have MF : Hid (∀ r ∈ tl, ∃ s ∈ S, gmSame s r) := fun r hr => unhide HME r (htr r hr)
            clear hvo hgo htm htl htr
            go_wp2_with fail
            refine (unhide ham).mono ?_
            rintro e w8 ⟨rfl, b8⟩
            have N8 := hide ((unhide N7).kept b8)
            have B8 := hide ((unhide B7).trans (b8.mono (unhide B7).size))
            have O8 := hide ((unhide O7).below b8)
            have HX8 := hide ((b8.block _ (lt_of_block (unhide HX7))).trans (unhide HX7))
            clear b8 ham N7 B7 O7 t0 t1 t2 tf
            have HCF : Hid (CS w b (i + 1) (put) (gone + 1) (.slice aS ns cS) (S) w8) := ⟨⟨last, tl, unhide N8, by have := unhide HLA; omega, unhide LF, unhide MF⟩, unhide O8, by have := unhide HNS; omega, unhide B8, by omega⟩
            have hlen := hide (nlen w.heap.size b 40 (last) (tl) w8 (unhide N8))
            obtain ⟨m, hm⟩ : ∃ m : Int, m = ((tl).length : Int) := ⟨_, rfl⟩
            rw [← hm] at hlen
            have hm1 : m = put - (gone + 1) := by rw [hm]; exact unhide LF
            have d1 : (m != put - (gone + 1)) = false := by rw [hm1]; simp
            have hm4 : ((tl).length : Int) ≤ 40 := by obtain ⟨_, _, hq⟩ := unhide N8; exact hq.len
            have d2 : ¬ (40 : Int) < m := by omega
            have d3 : decide ((40 : Int) < m) = false := decide_eq_false d2
            clear hm hm1 hm4 x0 x1 x2 x3 x4
            go_wp2_with fail
            refine (unhide hlen).mono ?_
            rintro e wz ⟨rfl, rfl⟩
            go_wp2_with fail
            refine (unhide hlen).mono ?_
            rintro e wz ⟨rfl, rfl⟩
            go_wp2
            go_roundw
            case rel => exact ⟨i + 1, _, _, _, by omega, by omega, by go_num, by go_num, by go_num, unhide HCF⟩
            case measure => simp [intOf]; omega
          · clear HWY
            clear t0 t1 t2 tf
            have HCF : Hid (CS w b (i + 1) (put) (gone) (.slice aS ns cS) (S) w7) := ⟨⟨last, tl, unhide N7, by have := unhide HLA; omega, unhide HLE, unhide HME⟩, unhide O7, by have := unhide HNS; omega, unhide B7, by omega⟩
            have hlen := hide (nlen w.heap.size b 40 (last) (tl) w7 (unhide N7))
            obtain ⟨m, hm⟩ : ∃ m : Int, m = ((tl).length : Int) := ⟨_, rfl⟩
            rw [← hm] at hlen
            have hm1 : m = put - (gone) := by rw [hm]; exact unhide HLE
            have d1 : (m != put - (gone)) = false := by rw [hm1]; simp
            have hm4 : ((tl).length : Int) ≤ 40 := by obtain ⟨_, _, hq⟩ := unhide N7; exact hq.len
            have d2 : ¬ (40 : Int) < m := by omega
            have d3 : decide ((40 : Int) < m) = false := decide_eq_false d2
            clear hm hm1 hm4 x0 x1 x2 x3 x4
            go_wp2_with fail
            refine (unhide hlen).mono ?_
            rintro e wz ⟨rfl, rfl⟩
            go_wp2_with fail
            refine (unhide hlen).mono ?_
            rintro e wz ⟨rfl, rfl⟩
            go_wp2
            go_roundw
            case rel => exact ⟨i + 1, _, _, _, by omega, by omega, by go_num, by go_num, by go_num, unhide HCF⟩
            case measure => simp [intOf]; omega
        by_cases c2 : kd = 2
        · subst c2
          have htk := hide (nlose w.heap.size b 40 last rs id (unhide HWI) w3 (unhide HNT))
          have hways := tk_ways rs (unhide HPW) id
          generalize tkG rs id = tg at *
          generalize tkE rs id = te at *
          generalize tkL rs id = tl at *
          have HWY := hide hways
          clear hways
          go_wp2_with fail
          refine (unhide htk).mono ?_
          rintro e w6 ⟨rfl, n6, k6⟩
          have N6 := hide n6
          have B6 := hide ((unhide HC3).be.trans (k6.below (unhide HC3).be.size))
          have O6 := hide ((unhide HC3).own.kn k6)
          have HX6 := hide ((k6.typ _ _ _ _ (unhide HX3) (by decide) (by decide)).trans (unhide HX3))
          clear n6 k6 htk x0 x1 x2 x3 x4
          obtain ⟨x0, x1, x2, x3, x4⟩ := cells5 (unhide HX6)
          rcases unhide HWY with ⟨rfl, htm, htl, htr⟩ | ⟨rfl, rfl⟩
          · clear HWY
            have LF : Hid ((tl.length : Int) = put - (gone + 1)) := by
              have := unhide HLE
              show _ = _
              omega
            have MF : Hid (∀ r ∈ tl, ∃ s ∈ S, gmSame s r) := fun r hr => unhide HME r (htr r hr)
            clear htm htl htr
            have HCF : Hid (CS w b (i + 1) (put) (gone + 1) (.slice aS ns cS) (S) w6) := ⟨⟨last, tl, unhide N6, by have := unhide HLA; omega, unhide LF, unhide MF⟩, unhide O6, by have := unhide HNS; omega, unhide B6, by omega⟩
            have hlen := hide (nlen w.heap.size b 40 (last) (tl) w6 (unhide N6))
            obtain ⟨m, hm⟩ : ∃ m : Int, m = ((tl).length : Int) := ⟨_, rfl⟩
            rw [← hm] at hlen
            have hm1 : m = put - (gone + 1) := by rw [hm]; exact unhide LF
            have d1 : (m != put - (gone + 1)) = false := by rw [hm1]; simp
            have hm4 : ((tl).length : Int) ≤ 40 := by obtain ⟨_, _, hq⟩ := unhide N6; exact hq.len
            have d2 : ¬ (40 : Int) < m := by omega
            have d3 : decide ((40 : Int) < m) = false := decide_eq_false d2
            clear hm hm1 hm4 x0 x1 x2 x3 x4
            go_wp2_with fail
            refine (unhide hlen).mono ?_
            rintro e wz ⟨rfl, rfl⟩
            go_wp2_with fail
            refine (unhide hlen).mono ?_
            rintro e wz ⟨rfl, rfl⟩
            go_wp2
            go_roundw
            case rel => exact ⟨i + 1, _, _, _, by omega, by omega, by go_num, by go_num, by go_num, unhide HCF⟩
            case measure => simp [intOf]; omega
          · clear HWY
            have HCF : Hid (CS w b (i + 1) (put) (gone) (.slice aS ns cS) (S) w6) := ⟨⟨last, tl, unhide N6, by have := unhide HLA; omega, unhide HLE, unhide HME⟩, unhide O6, by have := unhide HNS; omega, unhide B6, by omega⟩
            have hlen := hide (nlen w.heap.size b 40 (last) (tl) w6 (unhide N6))
            obtain ⟨m, hm⟩ : ∃ m : Int, m = ((tl).length : Int) := ⟨_, rfl⟩
            rw [← hm] at hlen
            have hm1 : m = put - (gone) := by rw [hm]; exact unhide HLE
            have d1 : (m != put - (gone)) = false := by rw [hm1]; simp
            have hm4 : ((tl).length : Int) ≤ 40 := by obtain ⟨_, _, hq⟩ := unhide N6; exact hq.len
            have d2 : ¬ (40 : Int) < m := by omega
            have d3 : decide ((40 : Int) < m) = false := decide_eq_false d2
            clear hm hm1 hm4 x0 x1 x2 x3 x4
            go_wp2_with fail
            refine (unhide hlen).mono ?_
            rintro e wz ⟨rfl, rfl⟩
            go_wp2_with fail
            refine (unhide hlen).mono ?_
            rintro e wz ⟨rfl, rfl⟩
            go_wp2
            go_roundw
            case rel => exact ⟨i + 1, _, _, _, by omega, by omega, by go_num, by go_num, by go_num, unhide HCF⟩
            case measure => simp [intOf]; omega
        by_cases c3 : kd = 3
        · subst c3
          have hid := wf64 (unhide HWI)
          have hnt := hide (nnth w.heap.size b 40 last rs id hid w3 (unhide HNT))
          have HWJ : Hid ((Lit.int .i64 (nthI rs id)).wf = true) := nth_wf (unhide HNT) id
          clear hid
          generalize nthI rs id = ix at *
          go_wp2_with fail
          refine (unhide hnt).mono ?_
          rintro e w5 ⟨rfl, b5⟩
          have N5 := hide ((unhide HNT).kept b5)
          have B5 := hide ((unhide HC3).be.trans (b5.mono (unhide HC3).be.size))
          have O5 := hide ((unhide HC3).own.below b5)
          have HX5 := hide ((b5.block _ (lt_of_block (unhide HX3))).trans (unhide HX3))
          clear b5 hnt x0 x1 x2 x3 x4
          obtain ⟨x0, x1, x2, x3, x4⟩ := cells5 (unhide HX5)
          have htw := hide (ntwice w.heap.size b 40 last rs ix (unhide HWJ) hl9 w5 (unhide N5))
          have hways := tw_ways 40 last rs ix
          generalize twI 40 last rs ix = ti at *
          generalize twE 40 rs ix = te at *
          generalize twT 40 last rs ix = tt at *
          generalize twL 40 last rs ix = tl at *
          have HWY := hide hways
          clear hways
          go_wp2_with fail
          refine (unhide htw).mono ?_
          rintro e w6 ⟨rfl, n6, k6⟩
          have N6 := hide n6
          have B6 := hide ((unhide B5).trans (k6.below (unhide B5).size))
          have O6 := hide ((unhide O5).kn k6)
          have HX6 := hide ((k6.typ _ _ _ _ (unhide HX5) (by decide) (by decide)).trans (unhide HX5))
          clear n6 k6 htw x0 x1 x2 x3 x4
          obtain ⟨x0, x1, x2, x3, x4⟩ := cells5 (unhide HX6)
          rcases unhide HWY with ⟨rfl, rfl, xm, hxm, rfl⟩ | ⟨hse, rfl, rfl⟩
          · clear HWY
            have LF : Hid (((rs ++ [({ xm with id := last + 1 } : Mg)]).length : Int) = put + 1 - gone) := by
              have := unhide HLE
              show _ = _
              simp
              omega
            have MF : Hid (∀ r ∈ rs ++ [({ xm with id := last + 1 } : Mg)], ∃ s ∈ S, gmSame s r) := by
              intro r hr
              rw [List.mem_append] at hr
              rcases hr with hr | hr
              · exact unhide HME r hr
              · simp at hr
                subst hr
                obtain ⟨s, hs, h1, h2, h3⟩ := unhide HME xm hxm
                exact ⟨s, hs, h1, h2, h3⟩
            clear hxm
            have HCF : Hid (CS w b (i + 1) (put + 1) (gone) (.slice aS ns cS) (S) w6) := ⟨⟨last + 1, rs ++ [({ xm with id := last + 1 } : Mg)], unhide N6, by have := unhide HLA; omega, unhide LF, unhide MF⟩, unhide O6, by have := unhide HNS; omega, unhide B6, by omega⟩
            have hlen := hide (nlen w.heap.size b 40 (last + 1) (rs ++ [({ xm with id := last + 1 } : Mg)]) w6 (unhide N6))
            obtain ⟨m, hm⟩ : ∃ m : Int, m = ((rs ++ [({ xm with id := last + 1 } : Mg)]).length : Int) := ⟨_, rfl⟩
            rw [← hm] at hlen
            have hm1 : m = put + 1 - (gone) := by rw [hm]; exact unhide LF
            have d1 : (m != put + 1 - (gone)) = false := by rw [hm1]; simp
            have hm4 : ((rs ++ [({ xm with id := last + 1 } : Mg)]).length : Int) ≤ 40 := by obtain ⟨_, _, hq⟩ := unhide N6; exact hq.len
            have d2 : ¬ (40 : Int) < m := by omega
            have d3 : decide ((40 : Int) < m) = false := decide_eq_false d2
            clear hm hm1 hm4 x0 x1 x2 x3 x4
            go_wp2_with fail
            refine (unhide hlen).mono ?_
            rintro e wz ⟨rfl, rfl⟩
            go_wp2_with fail
            refine (unhide hlen).mono ?_
            rintro e wz ⟨rfl, rfl⟩
            go_wp2
            go_roundw
            case rel => exact ⟨i + 1, _, _, _, by omega, by omega, by go_num, by go_num, by go_num, unhide HCF⟩
            case measure => simp [intOf]; omega
          · clear HWY
            have q5 : ¬ te = 0 := by simpa using hse
            have HCF : Hid (CS w b (i + 1) (put) (gone) (.slice aS ns cS) (S) w6) := ⟨⟨tt, tl, unhide N6, by have := unhide HLA; omega, unhide HLE, unhide HME⟩, unhide O6, by have := unhide HNS; omega, unhide B6, by omega⟩
            have hlen := hide (nlen w.heap.size b 40 (tt) (tl) w6 (unhide N6))
            obtain ⟨m, hm⟩ : ∃ m : Int, m = ((tl).length : Int) := ⟨_, rfl⟩
            rw [← hm] at hlen
            have hm1 : m = put - (gone) := by rw [hm]; exact unhide HLE
            have d1 : (m != put - (gone)) = false := by rw [hm1]; simp
            have hm4 : ((tl).length : Int) ≤ 40 := by obtain ⟨_, _, hq⟩ := unhide N6; exact hq.len
            have d2 : ¬ (40 : Int) < m := by omega
            have d3 : decide ((40 : Int) < m) = false := decide_eq_false d2
            clear hm hm1 hm4 x0 x1 x2 x3 x4
            go_wp2_with fail
            refine (unhide hlen).mono ?_
            rintro e wz ⟨rfl, rfl⟩
            go_wp2_with fail
            refine (unhide hlen).mono ?_
            rintro e wz ⟨rfl, rfl⟩
            go_wp2
            go_roundw
            case rel => exact ⟨i + 1, _, _, _, by omega, by omega, by go_num, by go_num, by go_num, unhide HCF⟩
            case measure => simp [intOf]; omega
        by_cases c5 : kd = 5
        · subst c5
          have hid := wf64 (unhide HWI)
          have hnt := hide (nnth w.heap.size b 40 last rs id hid w3 (unhide HNT))
          have HWJ : Hid ((Lit.int .i64 (nthI rs id)).wf = true) := nth_wf (unhide HNT) id
          clear hid
          generalize nthI rs id = ix at *
          go_wp2_with fail
          refine (unhide hnt).mono ?_
          rintro e w5 ⟨rfl, b5⟩
          have N5 := hide ((unhide HNT).kept b5)
          have B5 := hide ((unhide HC3).be.trans (b5.mono (unhide HC3).be.size))
          have O5 := hide ((unhide HC3).own.below b5)
          have HX5 := hide ((b5.block _ (lt_of_block (unhide HX3))).trans (unhide HX3))
          clear b5 hnt x0 x1 x2 x3 x4
          obtain ⟨x0, x1, x2, x3, x4⟩ := cells5 (unhide HX5)
          have htw := hide (ntwice w.heap.size b 40 last rs ix (unhide HWJ) hl9 w5 (unhide N5))
          have hways := tw_ways 40 last rs ix
          generalize twI 40 last rs ix = ti at *
          generalize twE 40 rs ix = te at *
          generalize twT 40 last rs ix = tt at *
          generalize twL 40 last rs ix = tl at *
          have HWY := hide hways
          clear hways
          go_wp2_with fail
          refine (unhide htw).mono ?_
          rintro e w6 ⟨rfl, n6, k6⟩
          have N6 := hide n6
          have B6 := hide ((unhide B5).trans (k6.below (unhide B5).size))
          have O6 := hide ((unhide O5).kn k6)
          have HX6 := hide ((k6.typ _ _ _ _ (unhide HX5) (by decide) (by decide)).trans (unhide HX5))
          clear n6 k6 htw x0 x1 x2 x3 x4
          obtain ⟨x0, x1, x2, x3, x4⟩ := cells5 (unhide HX6)
          rcases unhide HWY with ⟨rfl, rfl, xm, hxm, rfl⟩ | ⟨hse, rfl, rfl⟩
          · clear HWY
            have LF : Hid (((rs ++ [({ xm with id := last + 1 } : Mg)]).length : Int) = put + 1 - gone) := by
              have := unhide HLE
              show _ = _
              simp
              omega
            have MF : Hid (∀ r ∈ rs ++ [({ xm with id := last + 1 } : Mg)], ∃ s ∈ S, gmSame s r) := by
              intro r hr
              rw [List.mem_append] at hr
              rcases hr with hr | hr
              · exact unhide HME r hr
              · simp at hr
                subst hr
                obtain ⟨s, hs, h1, h2, h3⟩ := unhide HME xm hxm
                exact ⟨s, hs, h1, h2, h3⟩
            clear hxm
            have HCF : Hid (CS w b (i + 1) (put + 1) (gone) (.slice aS ns cS) (S) w6) := ⟨⟨last + 1, rs ++ [({ xm with id := last + 1 } : Mg)], unhide N6, by have := unhide HLA; omega, unhide LF, unhide MF⟩, unhide O6, by have := unhide HNS; omega, unhide B6, by omega⟩
            have hlen := hide (nlen w.heap.size b 40 (last + 1) (rs ++ [({ xm with id := last + 1 } : Mg)]) w6 (unhide N6))
            obtain ⟨m, hm⟩ : ∃ m : Int, m = ((rs ++ [({ xm with id := last + 1 } : Mg)]).length : Int) := ⟨_, rfl⟩
            rw [← hm] at hlen
            have hm1 : m = put + 1 - (gone) := by rw [hm]; exact unhide LF
            have d1 : (m != put + 1 - (gone)) = false := by rw [hm1]; simp
            have hm4 : ((rs ++ [({ xm with id := last + 1 } : Mg)]).length : Int) ≤ 40 := by obtain ⟨_, _, hq⟩ := unhide N6; exact hq.len
            have d2 : ¬ (40 : Int) < m := by omega
            have d3 : decide ((40 : Int) < m) = false := decide_eq_false d2
            clear hm hm1 hm4 x0 x1 x2 x3 x4
            go_wp2_with fail
            refine (unhide hlen).mono ?_
            rintro e wz ⟨rfl, rfl⟩
            go_wp2_with fail
            refine (unhide hlen).mono ?_
            rintro e wz ⟨rfl, rfl⟩
            go_wp2
            go_roundw
            case rel => exact ⟨i + 1, _, _, _, by omega, by omega, by go_num, by go_num, by go_num, unhide HCF⟩
            case measure => simp [intOf]; omega
          · clear HWY
            have q5 : ¬ te = 0 := by simpa using hse
            have HCF : Hid (CS w b (i + 1) (put) (gone) (.slice aS ns cS) (S) w6) := ⟨⟨tt, tl, unhide N6, by have := unhide HLA; omega, unhide HLE, unhide HME⟩, unhide O6, by have := unhide HNS; omega, unhide B6, by omega⟩
            have hlen := hide (nlen w.heap.size b 40 (tt) (tl) w6 (unhide N6))
            obtain ⟨m, hm⟩ : ∃ m : Int, m = ((tl).length : Int) := ⟨_, rfl⟩
            rw [← hm] at hlen
            have hm1 : m = put - (gone) := by rw [hm]; exact unhide HLE
            have d1 : (m != put - (gone)) = false := by rw [hm1]; simp
            have hm4 : ((tl).length : Int) ≤ 40 := by obtain ⟨_, _, hq⟩ := unhide N6; exact hq.len
            have d2 : ¬ (40 : Int) < m := by omega
            have d3 : decide ((40 : Int) < m) = false := decide_eq_false d2
            clear hm hm1 hm4 x0 x1 x2 x3 x4
            go_wp2_with fail
            refine (unhide hlen).mono ?_
            rintro e wz ⟨rfl, rfl⟩
            go_wp2_with fail
            refine (unhide hlen).mono ?_
            rintro e wz ⟨rfl, rfl⟩
            go_wp2
            go_roundw
            case rel => exact ⟨i + 1, _, _, _, by omega, by omega, by go_num, by go_num, by go_num, unhide HCF⟩
            case measure => simp [intOf]; omega
        have f0 : (kd == 0) = false := by simpa using c0
        have f1 : (kd == 1) = false := by simpa using c1
        have f2 : (kd == 2) = false := by simpa using c2
        have f3 : (kd == 3) = false := by simpa using c3
        have f4 : (kd == 4) = false := by simpa using c4
        have f5 : (kd == 5) = false := by simpa using c5
        clear c0 c1 c2 c3 c4 c5
        have N3 := HNT
        have B3 := hide (unhide HC3).be
        have O3 := hide (unhide HC3).own
        have HCF : Hid (CS w b (i + 1) (put) (gone) (.slice aS ns cS) (S) w3) := ⟨⟨last, rs, unhide N3, by have := unhide HLA; omega, unhide HLE, unhide HME⟩, unhide O3, by have := unhide HNS; omega, unhide B3, by omega⟩
        have hlen := hide (nlen w.heap.size b 40 (last) (rs) w3 (unhide N3))
        obtain ⟨m, hm⟩ : ∃ m : Int, m = ((rs).length : Int) := ⟨_, rfl⟩
        rw [← hm] at hlen
        have hm1 : m = put - (gone) := by rw [hm]; exact unhide HLE
        have d1 : (m != put - (gone)) = false := by rw [hm1]; simp
        have hm4 : ((rs).length : Int) ≤ 40 := by obtain ⟨_, _, hq⟩ := unhide N3; exact hq.len
        have d2 : ¬ (40 : Int) < m := by omega
        have d3 : decide ((40 : Int) < m) = false := decide_eq_false d2
        clear hm hm1 hm4
        go_wp2_with fail
        refine (unhide hlen).mono ?_
        rintro e wz ⟨rfl, rfl⟩
        go_wp2_with fail
        refine (unhide hlen).mono ?_
        rintro e wz ⟨rfl, rfl⟩
        go_wp2
        go_roundw
        case rel => exact ⟨i + 1, _, _, _, by omega, by omega, by go_num, by go_num, by go_num, unhide HCF⟩
        case measure => simp [intOf]; omega
    · have HB9 := hide (unhide HC).be
      clear HC
      by_cases hlt1 : i < n
      · have q1 : (i : Int) < n := by omega
        have q2 : ¬ (i : Int) < 60 := by omega
        go_wp2
        go_ret
        exact ⟨rfl, unhide HB9⟩
      · have q1 : ¬ (i : Int) < n := by omega
        go_wp2
        go_ret
        exact ⟨rfl, unhide HB9⟩
end Go.Proofs.Ytmnjngkdiinnfaa

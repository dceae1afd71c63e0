/- NetPlays. -/
import Derived.Test.YtmnjngkdiinnfaaNtV
import Derived.Test.YtmnjngkdiinnfaaOpenNa
import Derived.Deep.CutBlock
namespace Go.Proofs.Ytmnjngkdiinnfaa
open Go.RowKit
set_option linter.unusedVariables false
attribute [local go_sem] Oper.semAt_some

theorem nth_wf {w : World} {B b : Nat} {room last : Int} {rs : List Mg} (h : Nt w B b room last rs) (i : Int) : (Lit.int .i64 (nthI rs i)).wf = true := by
  obtain ⟨mb, iv, h⟩ := h
  have : nthI rs i = 0 ∨ ∃ r ∈ rs, nthI rs i = r.id := by
    unfold nthI
    by_cases e : i < 0 ∨ rs = []
    · rw [if_pos e]
      exact .inl rfl
    · rw [if_neg e, List.getD_eq_getElem?_getD]
      cases hg : (rs.map Mg.id)[(i.tmod rs.length).toNat]? with
      | none => exact .inl rfl
      | some v =>
        obtain ⟨r, hr, rfl⟩ := List.mem_map.1 (List.mem_of_getElem? hg)
        exact .inr ⟨r, hr, rfl⟩
  rcases this with e | ⟨r, hr, e⟩
  · rw [e]; decide
  · rw [e]
    exact WalkArith.wf_i64 (by have := h.ids r hr; have := h.last1; omega)
theorem nas_range {w x : World} {a0 : Option Addr} {l : List Na} (h : NasAt w a0 l) (hb : Below w.heap.size w x) {i : Nat} {p : Na} (hp : l[i]? = some p) : ∃ g o, a0 = some ⟨g, o, none⟩ ∧ g < w.heap.size ∧ x.rangeAt g (o + i * 5) p.cl := by
  obtain ⟨g, o, h1, h2, h3⟩ := h i p hp
  exact ⟨g, o, h1, h2, fun j v hv => (hb.cell (p := ⟨g, o + i * 5 + j, none⟩) h2).trans (h3 j v hv)⟩
/-- an act lies in a new block -/
structure NewAc (w : World) (p : Na) (x : World) : Prop where
  blk : x.heap[w.heap.size]? = some (.cells p.cl.toArray 32 (0, 0))
  be : Below w.heap.size w x
def zA : Na := ⟨0, 0, 0, 0, ⟨#[]⟩⟩
theorem newAc (w : World) (p : Na) : NewAc w p ((w.alloc (.cells zA.cl.toArray 32)).setRow w.heap.size p.cl.toArray) := by
  have h1 := heap_alloc_new w (.cells zA.cl.toArray 32)
  have h2 : Below w.heap.size w (w.alloc (.cells zA.cl.toArray 32)) := (Below.refl _ _).alloc (Nat.le_refl _) _
  exact ⟨setRow_heap _ _ _ _ _ _ h1, ⟨h2.os, h2.tape, h2.output, by simp [World.setRow], fun i hi => (setRow_other _ _ i _ (by omega)).trans (h2.block i hi)⟩⟩
theorem cells5 {w : World} {g : Nat} {a b c d e : Value} {t : TypeId} (hw : w.heap[g]? = some (.cells #[a, b, c, d, e] t (0, 0))) :
    w.cell? ⟨g, 0, none⟩ = some a ∧ w.cell? ⟨g, 1, none⟩ = some b ∧ w.cell? ⟨g, 2, none⟩ = some c ∧ w.cell? ⟨g, 3, none⟩ = some d ∧ w.cell? ⟨g, 4, none⟩ = some e :=
  ⟨by rw [cell_of_row _ _ 0 _ _ (0, 0) hw]; rfl, by rw [cell_of_row _ _ 1 _ _ (0, 0) hw]; rfl, by rw [cell_of_row _ _ 2 _ _ (0, 0) hw]; rfl, by rw [cell_of_row _ _ 3 _ _ (0, 0) hw]; rfl, by rw [cell_of_row _ _ 4 _ _ (0, 0) hw]; rfl⟩
/-- both nets, ahead of an act -/
structure NP (w : World) (b rb : Nat) (room : Int) (i : Nat) (x : World) : Prop where
  ex : ∃ last rs vL, Nt x w.heap.size b room last rs ∧ OwnR x w.heap.size vL rs ∧ x.heap[rb]? = some (.cells (dnC room last vL) 28 (0, 0)) ∧ last ≤ i
  be : Below w.heap.size w x
  lo : w.heap.size ≤ rb
theorem NP.up {w : World} {b rb : Nat} {room : Int} {i : Nat} {x y : World} (h : NP w b rb room i x) (hb : Below x.heap.size x y) : NP w b rb room i y := by
  obtain ⟨last, rs, vL, h1, h2, h3, h4⟩ := h.ex
  exact ⟨⟨last, rs, vL, h1.kept hb, h2.below hb, (hb.block _ (lt_of_block h3)).trans h3, h4⟩, h.be.trans (hb.mono h.be.size), h.lo⟩
theorem NP.more {w : World} {b rb : Nat} {room : Int} {i : Nat} {x : World} (h : NP w b rb room i x) : NP w b rb room (i + 1) x := by
  obtain ⟨last, rs, vL, h1, h2, h3, h4⟩ := h.ex
  exact ⟨⟨last, rs, vL, h1, h2, h3, by omega⟩, h.be, h.lo⟩
theorem mlV_oc (r : Mg) : (mlL r).toArray.all (·.oneCell') = true := ml_all r
/-- the store of an answer into the document's net -/
structure RbS (w : World) (b rb : Nat) (room last : Int) (rs : List Mg) (vL : Value) (last0 : Int) (rs0 : List Mg) (x : World) : Prop where
  nt : Nt x w.heap.size b room last0 rs0
  o : OwnR x w.heap.size vL rs
  r : x.heap[rb]? = some (.cells (dnC room last vL) 28 (0, 0))
  be : Below w.heap.size w x
  lo : w.heap.size ≤ rb
theorem RbS.up {w : World} {b rb : Nat} {room last : Int} {rs : List Mg} {vL : Value} {last0 : Int} {rs0 : List Mg} {x y : World} (h : RbS w b rb room last rs vL last0 rs0 x) (hb : Below x.heap.size x y) : RbS w b rb room last rs vL last0 rs0 y := ⟨h.nt.kept hb, h.o.below hb, (hb.block _ (lt_of_block h.r)).trans h.r, h.be.trans (hb.mono h.be.size), h.lo⟩
theorem RbS.kn {w : World} {b rb : Nat} {room last : Int} {rs : List Mg} {vL : Value} {last0 last1 : Int} {rs0 rs1 : List Mg} {x y : World} (h : RbS w b rb room last rs vL last0 rs0 x) (hb : KN w.heap.size x y) (hn : Nt y w.heap.size b room last1 rs1) : RbS w b rb room last rs vL last1 rs1 y := ⟨hn, h.o.kn hb (by decide) (by decide), (hb.typ _ _ _ _ h.r (by decide) (by decide)).trans h.r, h.be.trans (hb.below h.be.size), h.lo⟩
theorem RbS.set {w : World} {b rb : Nat} {room last last1 : Int} {rs rs1 : List Mg} {vL vL1 : Value} {last0 : Int} {rs0 : List Mg} {x : World} (h : RbS w b rb room last rs vL last0 rs0 x) (ho : OwnR x w.heap.size vL1 rs1) : RbS w b rb room last1 rs1 vL1 last0 rs0 (x.setRow rb (dnC room last1 vL1)) :=
  ⟨h.nt.set h.r (by decide) (by decide) _, ownR_row ho h.r (by decide) _, setRow_heap _ _ _ _ _ _ h.r, ⟨h.be.os, h.be.tape, h.be.output, by simpa [World.setRow] using h.be.size, fun i hi => (setRow_other _ _ i _ (by have := h.lo; omega)).trans (h.be.block i hi)⟩, h.lo⟩
theorem RbS.np {w : World} {b rb : Nat} {room last : Int} {rs : List Mg} {vL : Value} {i : Nat} {x : World} (h : RbS w b rb room last rs vL last rs x) (hi : last ≤ i) : NP w b rb room i x := ⟨⟨last, rs, vL, h.nt, h.o, h.r, hi⟩, h.be, h.lo⟩
/-- the same, and a block that is looked at -/
structure RbX (w : World) (b rb : Nat) (room last : Int) (rs : List Mg) (vL : Value) (last0 : Int) (rs0 : List Mg) (xb : Nat) (cx : Array Value) (x : World) : Prop where
  s : RbS w b rb room last rs vL last0 rs0 x
  x : x.heap[xb]? = some (.cells cx 32 (0, 0))
theorem RbX.up {w : World} {b rb : Nat} {room last : Int} {rs : List Mg} {vL : Value} {last0 : Int} {rs0 : List Mg} {xb : Nat} {cx : Array Value} {x y : World} (h : RbX w b rb room last rs vL last0 rs0 xb cx x) (hb : Below x.heap.size x y) : RbX w b rb room last rs vL last0 rs0 xb cx y := ⟨h.s.up hb, (hb.block _ (lt_of_block h.x)).trans h.x⟩
theorem RbX.kn {w : World} {b rb : Nat} {room last : Int} {rs : List Mg} {vL : Value} {last0 last1 : Int} {rs0 rs1 : List Mg} {xb : Nat} {cx : Array Value} {x y : World} (h : RbX w b rb room last rs vL last0 rs0 xb cx x) (hb : KN w.heap.size x y) (hn : Nt y w.heap.size b room last1 rs1) : RbX w b rb room last rs vL last1 rs1 xb cx y := ⟨h.s.kn hb hn, (hb.typ _ _ _ _ h.x (by decide) (by decide)).trans h.x⟩
theorem RbX.set {w : World} {b rb : Nat} {room last last1 : Int} {rs rs1 : List Mg} {vL vL1 : Value} {last0 : Int} {rs0 : List Mg} {xb : Nat} {cx : Array Value} {x : World} (h : RbX w b rb room last rs vL last0 rs0 xb cx x) (ho : OwnR x w.heap.size vL1 rs1) : RbX w b rb room last1 rs1 vL1 last0 rs0 xb cx (x.setRow rb (dnC room last1 vL1)) :=
  ⟨h.s.set ho, (setRow_other _ _ _ _ (fun e => by
    have h1 := h.x
    rw [e, h.s.r] at h1
    simp only [Option.some.injEq, Obj.cells.injEq] at h1
    exact absurd h1.2.1 (by decide))).trans h.x⟩
theorem RbX.setx {w : World} {b rb : Nat} {room last : Int} {rs : List Mg} {vL : Value} {last0 : Int} {rs0 : List Mg} {xb : Nat} {cx : Array Value} {x : World} (h : RbX w b rb room last rs vL last0 rs0 xb cx x) (hx : w.heap.size ≤ xb) (j : Nat) (v : Value) : RbX w b rb room last rs vL last0 rs0 xb (cx.setIfInBounds j v) (x.setCell ⟨xb, j, none⟩ v) := by
  have hrx : rb ≠ xb := fun e => by
    have h1 := h.x
    rw [← e, h.s.r] at h1
    simp only [Option.some.injEq, Obj.cells.injEq] at h1
    exact absurd h1.2.1 (by decide)
  refine ⟨⟨?_, h.s.o.up fun k cs hk => Below.heap_setCell _ _ _ _ (fun e => ?_), (Below.heap_setCell _ _ _ _ hrx).trans h.s.r, h.s.be.setCell (p := ⟨xb, j, none⟩) hx v, h.s.lo⟩, heap_setCell_same _ _ _ _ _ _ h.x⟩
  · obtain ⟨mb, iv, hn⟩ := h.s.nt
    refine ⟨mb, iv, hn.typed (Below.heap_setCell _ _ _ _ (fun e => ?_)) (Below.heap_setCell _ _ _ _ (fun e => ?_)) (fun k cu fr hk => Below.heap_setCell _ _ _ _ (fun e => ?_))⟩
    · have h1 := h.x
      rw [← (show b = xb from e), hn.blk] at h1
      simp only [Option.some.injEq, Obj.cells.injEq] at h1
      exact absurd h1.2.1 (by decide)
    · obtain ⟨es, cl, hm⟩ := hn.isMap
      rw [show mb = xb from e, h.x] at hm
      cases hm
    · rw [show k = xb from e, h.x] at hk
      simp only [Option.some.injEq, Obj.cells.injEq] at hk
      exact absurd hk.2.1 (by decide)
  · rw [show k = xb from e, h.x] at hk
    simp only [Option.some.injEq, Obj.cells.injEq] at hk
    exact absurd hk.2.1 (by decide)
/-- the same, and a mail's block -/
structure RbM (w : World) (b rb : Nat) (room last : Int) (rs : List Mg) (vL : Value) (last0 : Int) (rs0 : List Mg) (xb : Nat) (cx : Array Value) (g : Nat) (cm : Array Value) (x : World) : Prop where
  s : RbX w b rb room last rs vL last0 rs0 xb cx x
  m : x.heap[g]? = some (.cells cm 37 (0, 0))
/-- a net of the document's lies in a new block -/
structure NewDn (w : World) (c : Array Value) (x : World) : Prop where
  blk : x.heap[w.heap.size]? = some (.cells c 28 (0, 0))
  be : Below w.heap.size w x
theorem newDn (w : World) (c0 c : Array Value) : NewDn w c ((w.alloc (.cells c0 28)).setRow w.heap.size c) := by
  have h1 := heap_alloc_new w (.cells c0 28)
  have h2 : Below w.heap.size w (w.alloc (.cells c0 28)) := (Below.refl _ _).alloc (Nat.le_refl _) _
  exact ⟨setRow_heap _ _ _ _ _ _ h1, ⟨h2.os, h2.tape, h2.output, by simp [World.setRow], fun i hi => (setRow_other _ _ i _ (by omega)).trans (h2.block i hi)⟩⟩
theorem ownR_all {w : World} {B : Nat} {v : Value} {l : List Mg} (h : OwnR w B v l) (room last : Int) : (dnC room last v).all (·.oneCell') = true := by
  obtain ⟨a0, c, rfl, _⟩ := h.mls
  exact dn_all
def RS46 (rs : List Mg) (node : Int) (i : Nat) (v : Value) (x : World) : Prop :=
  if i = 1 then ∃ a0 c, v = .slice a0 rs.length c ∧ MlsAt x a0 rs
  else if i = 17 ∨ i = 20 then ∃ a0 c, v = .slice a0 (toI rs node).length c ∧ Ints x a0 (toI rs node)
  else v = .bool true
theorem RS46.stay {rs : List Mg} {node : Int} {i : Nat} {v : Value} {x y : World} (h : RS46 rs node i v x) (hb : Below x.heap.size x y) : RS46 rs node i v y := by
  unfold RS46 at h ⊢
  by_cases c1 : i = 1
  · rw [if_pos c1] at h ⊢
    obtain ⟨a0, c, h1, h2⟩ := h
    exact ⟨a0, c, h1, h2.up hb⟩
  · rw [if_neg c1] at h ⊢
    by_cases c2 : i = 17 ∨ i = 20
    · rw [if_pos c2] at h ⊢
      obtain ⟨a0, c, h1, h2⟩ := h
      exact ⟨a0, c, h1, h2.below hb⟩
    · rw [if_neg c2] at h ⊢
      exact h
def cls19 (i : Nat) : Nat := if i = 4 ∨ i = 5 then 0 else if i = 6 then 1 else if i = 7 ∨ i = 11 then 2 else if i = 8 ∨ i = 12 then 3 else if i = 9 then 4 else 9
set_option maxRecDepth 100000 in
set_option maxHeartbeats 1000000 in
theorem netPlays_bad (room node : Int) (v : Value) (w : World) (h : ¬ (1 ≤ room ∧ room ≤ 600)) :
    Calls Try.prog 3 #[.int .i64 room, v, .int .i64 node] w fun e w' => e = .returned (.bool true) ∧ Below w.heap.size w w' := by
  have g1 := hide (nnew_bad room w h)
  have hc : room < 1 ∨ (¬ room < 1 ∧ 600 < room) := by omega
  clear h
  rcases hc with h | ⟨h1, h2⟩
  all_goals
    go_enter Try.func3, Try.ntmps3
    go_wp2_with fail
    refine (unhide g1).mono ?_
    rintro e w1 ⟨rfl, rfl⟩
    go_wp2_with fail
    refine (nawake_any w).mono ?_
    rintro e w2 ⟨rfl, b2⟩
    have B2 := hide b2
    clear b2
    go_wp2
    go_ret
    exact ⟨rfl, unhide B2⟩
set_option maxRecDepth 100000 in
set_option maxHeartbeats 20000000 in
theorem netPlays_good (room node : Int) (a0 : Option Addr) (l : List Na) (c : Nat) (w : World) (hr : 1 ≤ room ∧ room ≤ 600) (hA : NasAt w a0 l) (hO : NasOk l c) :
    Calls Try.prog 3 #[.int .i64 room, .slice a0 l.length c, .int .i64 node] w fun e w' => e = .returned (.bool true) ∧ Below w.heap.size w w' := by
  have h1 := hide (nnew room w hr)
  have HA := hide hA
  have HOK := hide hO.2.2
  have HRM := hide hr
  have hlm : (l.length : Int) ≤ 9223372036854775807 := by
    have := hO.1
    have := hO.2.1
    unfold maxLen at this
    omega
  generalize hn : l.length = n at *
  have HN := hide hn
  have r1 : ¬ room < 1 := by omega
  have r2 : ¬ 600 < room := by omega
  clear hA hO hn hr
  go_enter Try.func3, Try.ntmps3
  go_wp2_with fail
  refine (unhide h1).mono ?_
  rintro e w1 ⟨⟨b, rfl, n1⟩, b1⟩
  have N1 := hide n1
  have B1 := hide b1
  have HZ := hide (heap_alloc_new w1 (.cells zDn 28))
  have HG := hide (newDn w1 zDn (dnC room 0 (.slice none 0 0)))
  have HI := hide (dn_info room 0 (.slice none 0 0))
  have HAL := hide (dn_all (room := room) (last := 0) (a0 := none) (n := 0) (c := 0))
  clear n1 b1 h1
  go_wp2_with (refine wpList_store_row_to rfl 28 (.tmp 8) (.tmp 43) rfl w1.heap.size (dnC room 0 (.slice none 0 0)) rfl rfl 28 zDn (unhide HZ) (unhide HI) rfl (unhide HAL) (NewDn w1 (dnC room 0 (.slice none 0 0))) (unhide HG) ?_)
  intro w2 h2
  have N2 := hide ((unhide N1).kept h2.be)
  have B2 := hide ((unhide B1).trans (h2.be.mono (unhide B1).size))
  have R2 := hide h2.blk
  have hlo : w.heap.size ≤ w1.heap.size := (unhide B1).size
  have HLO := hide hlo
  clear h2 HZ HG HI HAL N1 B1 hlo
  go_wp2_with fail
  refine (nawake_any _).mono ?_
  rintro e w3 ⟨rfl, b3⟩
  have HC0 : Hid (NP w b w1.heap.size room 0 w3) := ⟨⟨0, [], _, (unhide N2).kept b3, World.ownsRow_nil _ _ _ _, (b3.block _ (lt_of_block (unhide R2))).trans (unhide R2), by omega⟩, (unhide B2).trans (b3.mono (unhide B2).size), unhide HLO⟩
  clear b3 N2 B2 R2 HLO
  go_wp2_with fail
  generalize hrb : w1.heap.size = rb at *
  have HRBB := hide hrb
  clear hrb
  go_loopw [9] (fun iv wr => ∃ (i : Nat), i ≤ n ∧ i ≤ 60 ∧ iv = .int .i64 i ∧ NP w b rb room i wr) (fun iv _ => n - (intOf iv).toNat)
  case atStart => exact ⟨0, by omega, by omega, rfl, unhide HC0⟩
  case round =>
    clear HC0
    obtain ⟨i, hin, hi6, rfl, hcs⟩ := hrel
    have HC := hide hcs
    clear hcs
    by_cases hlt : i < n ∧ i < 60
    · have q1 : (i : Int) < n := by omega
      have q2 : (i : Int) < 60 := by omega
      obtain ⟨p, hp⟩ : ∃ p, l[i]? = some p := ⟨_, List.getElem?_eq_getElem (by rw [unhide HN]; exact hlt.1)⟩
      obtain ⟨gd, od, rfl, hgl, hra⟩ := nas_range (unhide HA) (unhide HC).be hp
      have hok := unhide HOK p (List.mem_of_getElem? hp)
      obtain ⟨kd, id, fr, tn, tx⟩ := p
      have hz := hok.1
      unfold maxLen at hz
      have HWI := hide hok.2
      have k0 : wr.cell? ⟨gd, od + i * 5, none⟩ = some (.int .i64 kd) := hra 0 _ rfl
      have k1 : wr.cell? ⟨gd, od + i * 5 + 1, none⟩ = some (.int .i64 id) := hra 1 _ rfl
      have k2 : wr.cell? ⟨gd, od + i * 5 + 2, none⟩ = some (.int .i64 fr) := hra 2 _ rfl
      have k3 : wr.cell? ⟨gd, od + i * 5 + 3, none⟩ = some (.int .i64 tn) := hra 3 _ rfl
      have k4 : wr.cell? ⟨gd, od + i * 5 + 4, none⟩ = some (.string tx) := hra 4 _ rfl
      have HZ := hide (heap_alloc_new wr (.cells zA.cl.toArray 32))
      have HG := hide (newAc wr ⟨kd, id, fr, tn, tx⟩)
      unfold zA Na.cl at HZ
      dsimp only at HZ
      clear hp hgl hra hok
      go_wp2_with (refine wpList_store_row_to rfl 32 (.tmp 10) (.tmp 63) rfl wr.heap.size #[.int .i64 kd, .int .i64 id, .int .i64 fr, .int .i64 tn, .string tx] rfl rfl 32 _ (unhide HZ) (by kernel_rfl) rfl (by simp [Value.oneCell']) (NewAc wr ⟨kd, id, fr, tn, tx⟩) (unhide HG) ?_)
      intro w3 h3
      have HC3 := hide ((unhide HC).up h3.be)
      have HX3 := hide (show w3.heap[wr.heap.size]? = some (.cells #[.int .i64 kd, .int .i64 id, .int .i64 fr, .int .i64 tn, .string tx] 32 (0, 0)) from h3.blk)
      obtain ⟨x0, x1, x2, x3, x4⟩ := cells5 (unhide HX3)
      have hxw : w.heap.size ≤ wr.heap.size := (unhide HC).be.size
      have HXW := hide hxw
      generalize hxb : wr.heap.size = xb at *
      have HXB := hide hxb
      clear h3 hxb HZ HG HC k0 k1 k2 k3 k4 hxw
      by_cases hs : 500 < tx.size
      · have q3 : (500 : Int) < tx.size := by omega
        go_wp2
        go_roundw
        case rel => exact ⟨i + 1, by omega, by omega, by go_num, (unhide HC3).more⟩
        case measure => simp [intOf]; omega
      · have q3 : ¬ (500 : Int) < tx.size := by omega
        have hz2 : tx.size ≤ 500 := by omega
        have HZ2 := hide hz2
        clear hs hz2
        obtain ⟨last, rs, vL, hnt, hor, hrb, hla⟩ := (unhide HC3).ex
        have hS3 : RbX w b rb room last rs vL last rs xb #[.int .i64 kd, .int .i64 id, .int .i64 fr, .int .i64 tn, .string tx] w3 := ⟨⟨hnt, hor, hrb, (unhide HC3).be, (unhide HC3).lo⟩, unhide HX3⟩
        have HS3 := hide hS3
        have hnt' := hnt
        obtain ⟨mb0, iv0, hnt0⟩ := hnt'
        have HPW := hide hnt0.up
        have HGO := hide hnt0.good
        have hl0 : 0 ≤ last := hnt0.last0
        have hlen6 : rs.length ≤ 600 := by have := hnt0.len; have := hnt0.room2; omega
        have HL6 := hide hlen6
        have hl9 : last < 1000000000 := by omega
        have HLA := hide hla
        clear hnt hor hrb hla hS3 hnt0 HC3 HX3 hlen6
        obtain ⟨cw, hcw⟩ : ∃ q, q = (decide (kd = 4) || decide (kd = 5)) := ⟨_, rfl⟩
        have HCW := hide hcw
        clear hcw
        go_upto_region 12 with fail
        clear x0 x1 x2 x3 x4
        go_cut [76] from 50 to 228 (fun c wx => c = .bool cw ∧ wx = w3)
        case first =>
          obtain ⟨x0, x1, x2, x3, x4⟩ := cells5 (unhide HS3).x
          by_cases c4k : kd = 4
          · subst c4k
            have ec : cw = true := by simp [unhide HCW]
            subst ec
            go_wp2
            go_meet
            exact ⟨rfl, rfl⟩
          · have f4 : (kd == 4) = false := by simpa using c4k
            by_cases c5k : kd = 5
            · subst c5k
              have ec : cw = true := by simp [unhide HCW]
              subst ec
              go_wp2
              go_meet
              exact ⟨rfl, rfl⟩
            · have f5 : (kd == 5) = false := by simpa using c5k
              have ec : cw = false := by simp [unhide HCW, c4k, c5k]
              subst ec
              go_wp2
              go_meet
              exact ⟨rfl, rfl⟩
        case rest =>
          obtain ⟨rfl, hc2⟩ := hcut
          have hc3 := hc2.symm
          subst hc3
          clear hc2
          go_upto_if 76 with fail
          go_cut [] from 50 to 228 (fun wx => ∃ kd' id', RbX w b rb room last rs vL last rs xb #[.int .i64 kd', .int .i64 id', .int .i64 fr, .int .i64 tn, .string tx] wx ∧ (Lit.int .i64 id').wf = true)
          case first =>
            by_cases c4k : kd = 4
            · subst c4k
              have ec : cw = true := by simp [unhide HCW]
              subst ec
              clear HCW
              as_aux_lemma =>
                have hid := wf64 (unhide HWI)
                have HWJ : Hid ((Lit.int .i64 (nthI rs id)).wf = true) := nth_wf (unhide HS3).s.nt id
                have hn1 := hide (fun y : Gb w3 => nnth w.heap.size b room last rs id hid y.w ((unhide HS3).s.nt.kept y.ok))
                have hn2 := hide (fun (y : World) (hy : Below w3.heap.size w3 y) => dnth_any w.heap.size room last id vL rs y ((unhide HS3).s.o.below hy) (unhide HL6) hid)
                clear hid
                obtain ⟨ix, hix⟩ : ∃ ix, ix = nthI rs id := ⟨_, rfl⟩
                rw [← hix] at hn1 hn2 HWJ
                have HIX := hide hix
                clear hix
                obtain ⟨x0, x1, x2, x3, x4⟩ := cells5 (unhide HS3).x
                obtain ⟨c0, c1, c2, cf⟩ := cells3 (unhide HS3).s.r
                go_wp2_with fail
                have hneX := gb_ne w3
                have e0 : ∀ y : Gb w3, y.w.cell? ⟨rb, 0, none⟩ = some (.int .i64 room) := fun y => gb_cell c0 y
                have e1 : ∀ y : Gb w3, y.w.cell? ⟨rb, 1, none⟩ = some (.int .i64 last) := fun y => gb_cell c1 y
                have e2 : ∀ y : Gb w3, y.w.cell? ⟨rb, 2, none⟩ = some vL := fun y => gb_cell c2 y
                have f1 : ∀ y : Gb w3, y.w.cell? ⟨xb, 1, none⟩ = some (.int .i64 id) := fun y => gb_cell x1 y
                have hn3 := hide (fun y : Gb w3 => unhide hn2 y.w y.ok)
                clear x0 x1 x2 x3 x4 c0 c1 c2 cf
                refine wp_region_grB (by kernel_rfl) (by kernel_rfl) ?_
                repeat (go_big_quiet_step (first | (go_at_call 9; exact gb_call (unhide hn1 _)) | (go_at_call 10; exact gb_call (unhide hn3 _))))
                refine wpQuiet_nil ?_
                rintro wz ⟨xz, rfl⟩
                have HSa := hide ((unhide HS3).up xz.ok)
                have hn4 := hide (fun (y : World) (hy : Below xz.w.heap.size xz.w y) => unhide hn2 y (xz.ok.trans (hy.mono xz.ok.size)))
                clear e0 e1 e2 f1 hn1 hn2 hn3 hneX HS3
                generalize xz.w = w4 at *
                obtain ⟨x0, x1, x2, x3, x4⟩ := cells5 (unhide HSa).x
                obtain ⟨c0, c1, c2, cf⟩ := cells3 (unhide HSa).s.r
                have xf : ∀ j, w4.frozen? ⟨xb, j, none⟩ = false := fun j => frozen_of_row _ _ j _ _ (unhide HSa).x
                have hSb := (unhide HSa).setx (unhide HXW) 0 (.int .i64 1)
                have HSb := hide hSb
                have hrx : rb ≠ xb := fun e => by
                  have h1 := (unhide HSa).x
                  rw [← e, (unhide HSa).s.r] at h1
                  simp only [Option.some.injEq, Obj.cells.injEq] at h1
                  exact absurd h1.2.1 (by decide)
                clear hSb
                go_wp2_with fail
                have hn5 := dnth_any w.heap.size room last id vL rs (w4.setCell ⟨xb, 0, none⟩ (.int .i64 1)) (unhide HSb).s.o (unhide HL6) (wf64 (unhide HWI))
                rw [← unhide HIX] at hn5
                refine hn5.mono ?_
                rintro e w5 ⟨rfl, b5⟩
                have HSc := hide ((unhide HSb).up b5)
                clear b5 hn5 x0 x1 x2 x3 x4 c0 c1 c2 cf xf HSa HSb hn4
                have hxc := (unhide HSc).x
                simp only [List.setIfInBounds_toArray, List.set_cons_zero] at hxc
                obtain ⟨x0, x1, x2, x3, x4⟩ := cells5 hxc
                have xf : ∀ j, w5.frozen? ⟨xb, j, none⟩ = false := fun j => frozen_of_row _ _ j _ _ hxc
                have hSd := (unhide HSc).setx (unhide HXW) 1 (.int .i64 ix)
                simp only [List.setIfInBounds_toArray, List.set_cons_succ, List.set_cons_zero] at hSd
                have HSd := hide hSd
                obtain ⟨c0, c1, c2, cf⟩ := cells3 (unhide HSc).s.r
                clear hxc hSd HSc
                go_wp2
                go_meet
                exact ⟨1, ix, unhide HSd, unhide HWJ⟩
            by_cases c5k : kd = 5
            · subst c5k
              have ec : cw = true := by simp [unhide HCW]
              subst ec
              clear HCW
              as_aux_lemma =>
                have hid := wf64 (unhide HWI)
                have HWJ : Hid ((Lit.int .i64 (nthI rs id)).wf = true) := nth_wf (unhide HS3).s.nt id
                have hn1 := hide (fun y : Gb w3 => nnth w.heap.size b room last rs id hid y.w ((unhide HS3).s.nt.kept y.ok))
                have hn2 := hide (fun (y : World) (hy : Below w3.heap.size w3 y) => dnth_any w.heap.size room last id vL rs y ((unhide HS3).s.o.below hy) (unhide HL6) hid)
                clear hid
                obtain ⟨ix, hix⟩ : ∃ ix, ix = nthI rs id := ⟨_, rfl⟩
                rw [← hix] at hn1 hn2 HWJ
                have HIX := hide hix
                clear hix
                obtain ⟨x0, x1, x2, x3, x4⟩ := cells5 (unhide HS3).x
                obtain ⟨c0, c1, c2, cf⟩ := cells3 (unhide HS3).s.r
                go_wp2_with fail
                have hneX := gb_ne w3
                have e0 : ∀ y : Gb w3, y.w.cell? ⟨rb, 0, none⟩ = some (.int .i64 room) := fun y => gb_cell c0 y
                have e1 : ∀ y : Gb w3, y.w.cell? ⟨rb, 1, none⟩ = some (.int .i64 last) := fun y => gb_cell c1 y
                have e2 : ∀ y : Gb w3, y.w.cell? ⟨rb, 2, none⟩ = some vL := fun y => gb_cell c2 y
                have f1 : ∀ y : Gb w3, y.w.cell? ⟨xb, 1, none⟩ = some (.int .i64 id) := fun y => gb_cell x1 y
                have hn3 := hide (fun y : Gb w3 => unhide hn2 y.w y.ok)
                clear x0 x1 x2 x3 x4 c0 c1 c2 cf
                refine wp_region_grB (by kernel_rfl) (by kernel_rfl) ?_
                repeat (go_big_quiet_step (first | (go_at_call 9; exact gb_call (unhide hn1 _)) | (go_at_call 10; exact gb_call (unhide hn3 _))))
                refine wpQuiet_nil ?_
                rintro wz ⟨xz, rfl⟩
                have HSa := hide ((unhide HS3).up xz.ok)
                have hn4 := hide (fun (y : World) (hy : Below xz.w.heap.size xz.w y) => unhide hn2 y (xz.ok.trans (hy.mono xz.ok.size)))
                clear e0 e1 e2 f1 hn1 hn2 hn3 hneX HS3
                generalize xz.w = w4 at *
                obtain ⟨x0, x1, x2, x3, x4⟩ := cells5 (unhide HSa).x
                obtain ⟨c0, c1, c2, cf⟩ := cells3 (unhide HSa).s.r
                have xf : ∀ j, w4.frozen? ⟨xb, j, none⟩ = false := fun j => frozen_of_row _ _ j _ _ (unhide HSa).x
                have hSb := (unhide HSa).setx (unhide HXW) 0 (.int .i64 3)
                have HSb := hide hSb
                have hrx : rb ≠ xb := fun e => by
                  have h1 := (unhide HSa).x
                  rw [← e, (unhide HSa).s.r] at h1
                  simp only [Option.some.injEq, Obj.cells.injEq] at h1
                  exact absurd h1.2.1 (by decide)
                clear hSb
                go_wp2_with fail
                have hn5 := dnth_any w.heap.size room last id vL rs (w4.setCell ⟨xb, 0, none⟩ (.int .i64 3)) (unhide HSb).s.o (unhide HL6) (wf64 (unhide HWI))
                rw [← unhide HIX] at hn5
                refine hn5.mono ?_
                rintro e w5 ⟨rfl, b5⟩
                have HSc := hide ((unhide HSb).up b5)
                clear b5 hn5 x0 x1 x2 x3 x4 c0 c1 c2 cf xf HSa HSb hn4
                have hxc := (unhide HSc).x
                simp only [List.setIfInBounds_toArray, List.set_cons_zero] at hxc
                obtain ⟨x0, x1, x2, x3, x4⟩ := cells5 hxc
                have xf : ∀ j, w5.frozen? ⟨xb, j, none⟩ = false := fun j => frozen_of_row _ _ j _ _ hxc
                have hSd := (unhide HSc).setx (unhide HXW) 1 (.int .i64 ix)
                simp only [List.setIfInBounds_toArray, List.set_cons_succ, List.set_cons_zero] at hSd
                have HSd := hide hSd
                obtain ⟨c0, c1, c2, cf⟩ := cells3 (unhide HSc).s.r
                clear hxc hSd HSc
                go_wp2
                go_meet
                exact ⟨3, ix, unhide HSd, unhide HWJ⟩
            have ec : cw = false := by simp [unhide HCW, c4k, c5k]
            subst ec
            clear HCW
            go_wp2
            go_meet
            exact ⟨kd, id, unhide HS3, unhide HWI⟩
          case rest =>
            clear HWI HS3 HCW
            obtain ⟨kd2, id2, hS, hwi⟩ := hcut
            have HS3 := hide hS
            have HWI := hide hwi
            obtain ⟨x0, x1, x2, x3, x4⟩ := cells5 hS.x
            clear hS hwi
            go_upto_block 2 with fail
            clear x0 x1 x2 x3 x4
            go_cut [] from 50 to 228 (fun wx => NP w b rb room (i + 1) wx)
            case first =>
              by_cases c0k : kd2 = 0
              · subst c0k
                as_aux_lemma =>
                  have hds := hide (fun (y : World) (ho : OwnR y w.heap.size vL rs) (hb : w.heap.size ≤ y.heap.size) => dsend_any w.heap.size room last vL rs ⟨0, fr, tn, tx⟩ y ho hb (unhide HRM).2 hl0 hl9 (show tx.size ≤ maxLen by unfold maxLen; omega))
                  have hsn := hide (fun (y : World) (hn : Nt y w.heap.size b room last rs) => nsend w.heap.size b room last rs ⟨0, fr, tn, tx⟩ y hn (show tx.size ≤ maxLen by unfold maxLen; omega) hl9)
                  have hst : sndT room last rs ⟨0, fr, tn, tx⟩ ≤ last + 1 := by unfold sndT; split <;> omega
                  have HST := hide hst
                  clear hst
                  obtain ⟨si, hsi⟩ : ∃ q, q = sndI room last rs ⟨0, fr, tn, tx⟩ := ⟨_, rfl⟩
                  obtain ⟨se, hse⟩ : ∃ q, q = sndE room rs ⟨0, fr, tn, tx⟩ := ⟨_, rfl⟩
                  obtain ⟨st, hst⟩ : ∃ q, q = sndT room last rs ⟨0, fr, tn, tx⟩ := ⟨_, rfl⟩
                  obtain ⟨sl, hsl⟩ : ∃ q, q = sndL room last rs ⟨0, fr, tn, tx⟩ := ⟨_, rfl⟩
                  rw [← hsi, ← hse, ← hst, ← hsl] at hds hsn
                  rw [← hst] at HST
                  clear hsi hse hst hsl
                  have hrf := hide (fun y : World => nref_any ⟨0, fr, tn, tx⟩ y)
                  obtain ⟨x0, x1, x2, x3, x4⟩ := cells5 (unhide HS3).x
                  obtain ⟨c0, c1, c2, cf⟩ := cells3 (unhide HS3).s.r
                  go_wp2_with fail
                  have hww : w.heap.size ≤ wc.heap.size := (unhide HS3).s.be.size
                  have HWW := hide hww
                  clear x0 x1 x2 x3 x4 c0 c1 c2 cf hww
                  refine wp_region_rst [false, false, false, false, true, true, true, true, true, true, true, true, true] [] [] [105, 100, 106, 107, 108, 11, 12, 13] _ ?A19 (Fz w.heap.size room st sl wc.heap.size) (fun i v x => RA w.heap.size room st si se sl wc.heap.size (cls19 i) v x) (fun i b x => i = 10 → ∃ g, b.eval (.tmp 11) = .pointer (some ⟨g, 0, none⟩) ∧ wc.heap.size ≤ g ∧ Gd w.heap.size room st sl x g) (by kernel_rfl) (by kernel_rfl) (fun x y z h1 h2 => h1.trans h2) (fun x y h => Fz.of_below h) (fun j v x y h hf => h.stay hf) ?hT1 ?hT2 (Off.refl _ _) (by simp) ?lex19 (by simp) ?st19 ?fin19
                  case hT1 =>
                    intro j bq x y h hf e
                    obtain ⟨g, h1, h2, h3⟩ := h e
                    exact ⟨g, h1, h2, hf.gd h3⟩
                  case hT2 =>
                    intro j o ho bq bq' x hop h e
                    subst e
                    simp only [List.getElem?_cons_succ, List.getElem?_cons_zero, Option.some.injEq] at ho
                    subst ho
                    obtain ⟨g, h1, h2⟩ := h rfl
                    exact ⟨g, (hop 11 (by simp [Op.operands])).trans h1, h2⟩
                  case lex19 =>
                    intro z hz
                    have hneX := gb_ne z
                    have hlo := hz.low (Nat.le_refl _)
                    have hS := (unhide HS3).up hlo
                    obtain ⟨x0, x1, x2, x3, x4⟩ := cells5 hS.x
                    obtain ⟨c0, c1, c2, cf⟩ := cells3 hS.s.r
                    have e0 : ∀ y : Gb z, y.w.cell? ⟨rb, 0, none⟩ = some (.int .i64 room) := fun y => gb_cell c0 y
                    have e1 : ∀ y : Gb z, y.w.cell? ⟨rb, 1, none⟩ = some (.int .i64 last) := fun y => gb_cell c1 y
                    have e2 : ∀ y : Gb z, y.w.cell? ⟨rb, 2, none⟩ = some vL := fun y => gb_cell c2 y
                    have f2 : ∀ y : Gb z, y.w.cell? ⟨xb, 2, none⟩ = some (.int .i64 fr) := fun y => gb_cell x2 y
                    have f3 : ∀ y : Gb z, y.w.cell? ⟨xb, 3, none⟩ = some (.int .i64 tn) := fun y => gb_cell x3 y
                    have f4 : ∀ y : Gb z, y.w.cell? ⟨xb, 4, none⟩ = some (.string tx) := fun y => gb_cell x4 y
                    clear hlo hS x0 x1 x2 x3 x4 c0 c1 c2 cf
                    dsimp only [restM]
                    repeat (go_big_quiet_step ((go_at_call 12; exact gb_call (unhide hrf _))))
                    refine wpQuiet_nil ?_
                    exact rfl
                  case st19 =>
                    intro j o ho hmj z bq hz hop
                    have hj : j ∈ [4, 5, 6, 7, 8, 9, 10, 11, 12] := mask_in hmj
                    simp only [List.mem_cons, List.not_mem_nil, or_false] at hj
                    rcases hj with rfl | rfl | rfl | rfl | rfl | rfl | rfl | rfl | rfl
                    all_goals
                      simp only [List.getElem?_cons_succ, List.getElem?_cons_zero, Option.some.injEq] at ho
                      subst ho
                    · have y0 : bq.eval (.tmp 101) = .agg #[.int .i64 room, .int .i64 last, vL] := hop 101 (by simp [Op.operands, Call.operands])
                      have y1 : bq.eval (.tmp 104) = .agg #[.int .i64 0, .int .i64 fr, .int .i64 tn, .string tx] := hop 104 (by simp [Op.operands, Call.operands])
                      refine wp_call 11 #[.tmp 101, .tmp 104] _ rfl Try.call11 #[.agg #[.int .i64 room, .int .i64 last, vL], .agg #[.int .i64 0, .int .i64 fr, .int .i64 tn, .string tx]] (by simp [y0, y1]) (unhide hds z (hz.own (unhide HS3).s.o) (Nat.le_trans (unhide HWW) hz.size)) ?_
                      rintro e w7 ⟨⟨v', rfl, ho⟩, b7⟩
                      exact ⟨_, rfl, _, rfl, fun _ => ⟨v', rfl, ho⟩, fun h => (by cases h), Fz.of_below b7⟩
                    · obtain ⟨v', y0, ho⟩ : ∃ v', bq.eval (.tmp 105) = .tuple #[dnV room st v', .int .i64 si, .int .i64 se] ∧ OwnR z w.heap.size v' sl := hop 105 (by simp [Op.operands])
                      refine Oper.wp_mono ?_ (?_ : Oper.wp _ _ _ _ (fun b' w' => b' = bq.put (some 100) (.tuple #[dnV room st v', .int .i64 si, .int .i64 se]) ∧ w' = z) _)
                      · rintro b' w' ⟨rfl, rfl⟩
                        exact ⟨_, rfl, fun _ => ⟨v', rfl, ho⟩, fun h => (by cases h), Fz.of_below (Below.refl _ _)⟩
                      · have y0' : bq.tmps[105]?.getD undef = .tuple #[dnV room st v', .int .i64 si, .int .i64 se] := by simpa [Act.eval] using y0
                        go_simp
                    · obtain ⟨v', y0, ho⟩ : ∃ v', bq.eval (.tmp 100) = .tuple #[dnV room st v', .int .i64 si, .int .i64 se] ∧ OwnR z w.heap.size v' sl := hop 100 (by simp [Op.operands])
                      refine Oper.wp_mono ?_ (?_ : Oper.wp _ _ _ _ (fun b' w' => b' = bq.put (some 106) (dnV room st v') ∧ w' = z) _)
                      · rintro b' w' ⟨rfl, rfl⟩
                        exact ⟨_, rfl, fun _ => ⟨v', rfl, ho⟩, fun h => (by cases h), Fz.of_below (Below.refl _ _)⟩
                      · have y0' : bq.tmps[100]?.getD undef = .tuple #[dnV room st v', .int .i64 si, .int .i64 se] := by simpa [Act.eval] using y0
                        go_simp
                    · obtain ⟨v', y0, ho⟩ : ∃ v', bq.eval (.tmp 100) = .tuple #[dnV room st v', .int .i64 si, .int .i64 se] ∧ OwnR z w.heap.size v' sl := hop 100 (by simp [Op.operands])
                      refine Oper.wp_mono ?_ (?_ : Oper.wp _ _ _ _ (fun b' w' => b' = bq.put (some 107) (.int .i64 si) ∧ w' = z) _)
                      · rintro b' w' ⟨rfl, rfl⟩
                        exact ⟨_, rfl, fun _ => rfl, fun h => (by cases h), Fz.of_below (Below.refl _ _)⟩
                      · have y0' : bq.tmps[100]?.getD undef = .tuple #[dnV room st v', .int .i64 si, .int .i64 se] := by simpa [Act.eval] using y0
                        go_simp
                    · obtain ⟨v', y0, ho⟩ : ∃ v', bq.eval (.tmp 100) = .tuple #[dnV room st v', .int .i64 si, .int .i64 se] ∧ OwnR z w.heap.size v' sl := hop 100 (by simp [Op.operands])
                      refine Oper.wp_mono ?_ (?_ : Oper.wp _ _ _ _ (fun b' w' => b' = bq.put (some 108) (.int .i64 se) ∧ w' = z) _)
                      · rintro b' w' ⟨rfl, rfl⟩
                        exact ⟨_, rfl, fun _ => rfl, fun h => (by cases h), Fz.of_below (Below.refl _ _)⟩
                      · have y0' : bq.tmps[100]?.getD undef = .tuple #[dnV room st v', .int .i64 si, .int .i64 se] := by simpa [Act.eval] using y0
                        go_simp
                    · refine Oper.wp_mono ?_ (?_ : Oper.wp _ _ _ _ (fun b' w' => b' = bq.put (some 11) (.pointer (some ⟨z.heap.size, 0, none⟩)) ∧ w' = z.alloc (.cells zDn 28)) _)
                      · rintro b' w' ⟨rfl, rfl⟩
                        exact ⟨_, rfl, fun _ => ⟨_, rfl, hz.size, _, heap_alloc_new z _, rfl⟩, fun h => (by cases h), Fz.of_below ((Below.refl _ _).alloc (Nat.le_refl _) _)⟩
                      · go_simp
                    · obtain ⟨g, y0, hm, hzb⟩ : ∃ g, bq.eval (.tmp 11) = .pointer (some ⟨g, 0, none⟩) ∧ wc.heap.size ≤ g ∧ Zb z g := hop 11 (by simp [Op.operands])
                      obtain ⟨v', y1, ho⟩ : ∃ v', bq.eval (.tmp 106) = dnV room st v' ∧ OwnR z w.heap.size v' sl := hop 106 (by simp [Op.operands])
                      obtain ⟨cs, hc, hcs⟩ := hzb
                      have hst := fz_store (room := room) (pt := st) hm ⟨cs, hc, hcs⟩ ho
                      refine wp_store_row 28 (.tmp 11) (.tmp 106) rfl g #[.int .i64 room, .int .i64 st, v'] y0 y1 28 cs hc (by kernel_rfl) hcs (ownR_all ho room st) ?_
                      exact ⟨undef, rfl, fun h => absurd rfl h, fun _ _ => ⟨_, y0, hm, hst.2⟩, hst.1⟩
                    · have y0 : bq.eval (.tmp 107) = .int .i64 si := hop 107 (by simp [Op.operands])
                      refine Oper.wp_mono ?_ (?_ : Oper.wp _ _ _ _ (fun b' w' => b' = bq.put (some 12) (.int .i64 si) ∧ w' = z) _)
                      · rintro b' w' ⟨rfl, rfl⟩
                        exact ⟨_, rfl, fun _ => rfl, fun h => (by cases h), Fz.of_below (Below.refl _ _)⟩
                      · have y0' : bq.tmps[107]?.getD undef = .int .i64 si := by simpa [Act.eval] using y0
                        go_simp
                    · have y0 : bq.eval (.tmp 108) = .int .i64 se := hop 108 (by simp [Op.operands])
                      refine Oper.wp_mono ?_ (?_ : Oper.wp _ _ _ _ (fun b' w' => b' = bq.put (some 13) (.int .i64 se) ∧ w' = z) _)
                      · rintro b' w' ⟨rfl, rfl⟩
                        exact ⟨_, rfl, fun _ => rfl, fun h => (by cases h), Fz.of_below (Below.refl _ _)⟩
                      · have y0' : bq.tmps[108]?.getD undef = .int .i64 se := by simpa [Act.eval] using y0
                        go_simp
                  case fin19 =>
                    intro bq z hz hoff hrel hT
                    obtain ⟨g8, yg, hm8, hgd8⟩ := hT 10 _ rfl rfl rfl rfl
                    have y12 : bq.eval (.tmp 12) = .int .i64 si := hrel 11 _ 12 rfl rfl rfl
                    have y13 : bq.eval (.tmp 13) = .int .i64 se := hrel 12 _ 13 rfl rfl rfl
                    have hall := Off.all _ _ hoff
                    simp only [List.foldl_cons, List.foldl_nil] at hall
                    rw [yg, y12, y13] at hall
                    obtain ⟨v', hc8, ho8⟩ := hgd8.ex
                    generalize bq.eval (.tmp 105) = v105 at hall
                    generalize bq.eval (.tmp 100) = v100 at hall
                    generalize bq.eval (.tmp 106) = v106 at hall
                    generalize bq.eval (.tmp 107) = v107 at hall
                    generalize bq.eval (.tmp 108) = v108 at hall
                    rw [hall]
                    have hS4 := (unhide HS3).up (hz.low (Nat.le_refl _))
                    have HS4 := hide hS4
                    have HS5 := hide (hS4.set (last1 := st) ho8)
                    have HRB := hide hS4.s.r
                    have HOC := hide (ownR_all ho8 room st)
                    obtain ⟨d0, d1, d2, df⟩ := cells3 hc8
                    clear hall hrel hT hoff y12 y13 yg hgd8 hc8 hS4 hz HS3
                    simp only [Act.put, List.setIfInBounds_toArray, List.set_cons_succ, List.set_cons_zero]
                    go_wp2_with (refine wpList_store_row_to rfl 28 (.tmp 8) (.tmp 109) rfl rb (dnC room st v') rfl rfl 28 _ (unhide HRB) (dn_info _ _ _) rfl (unhide HOC) (RbX w b rb room st sl v' last rs xb #[.int .i64 0, .int .i64 id2, .int .i64 fr, .int .i64 tn, .string tx]) (unhide HS5) ?_)
                    intro w5 h5
                    have H5 := hide h5
                    obtain ⟨x0, x1, x2, x3, x4⟩ := cells5 h5.x
                    clear h5 HS4 HS5 HRB HOC d0 d1 d2 df ho8
                    go_wp2_with fail
                    refine (unhide hsn w5 (unhide H5).s.nt).mono ?_
                    rintro e w6 ⟨rfl, n6, k6⟩
                    have H6 := hide ((unhide H5).kn k6 n6)
                    clear n6 k6 H5 hsn hds
                    have HNP := hide ((unhide H6).s.np (i := i + 1) (by have := unhide HLA; have := unhide HST; omega))
                    clear H6
                    try clear x0 x1 x2 x3 x4
                    go_wp2
                    go_meet
                    exact unhide HNP
              by_cases c1k : kd2 = 1
              · subst c1k
                as_aux_lemma =>
                  have hfd := hide (fun (y : World) (ho : OwnR y w.heap.size vL rs) => dfind_any w.heap.size room last id2 vL rs y ho (unhide HL6))
                  have hds := hide (fun (y : World) (ho : OwnR y w.heap.size vL rs) (hb : w.heap.size ≤ y.heap.size) => dlose_any w.heap.size room last id2 vL rs y ho hb (unhide HL6))
                  have hsn := hide (fun (y : World) (hn : Nt y w.heap.size b room last rs) => ntake w.heap.size b room last rs id2 (unhide HWI) y hn)
                  have HFW := hide (fI_ways rs id2)
                  have HTG : Hid (∀ x, fM rs id2 = some x → tkG rs id2 = x ∧ x.id = id2) := fun x hx => ⟨by unfold tkG; rw [hx]; rfl, (fM_some hx).2⟩
                  have HTN : Hid (fM rs id2 = none → tkG rs id2 = zM) := fun hx => by unfold tkG; rw [hx]; rfl
                  obtain ⟨tg, htg⟩ : ∃ q, q = tkG rs id2 := ⟨_, rfl⟩
                  obtain ⟨te, hte⟩ : ∃ q, q = tkE rs id2 := ⟨_, rfl⟩
                  obtain ⟨tl, htl⟩ : ∃ q, q = tkL rs id2 := ⟨_, rfl⟩
                  rw [← hte, ← htl] at hds hsn
                  rw [← htg] at hsn HTG HTN
                  clear htg hte htl
                  obtain ⟨x0, x1, x2, x3, x4⟩ := cells5 (unhide HS3).x
                  obtain ⟨c0, c1, c2, cf⟩ := cells3 (unhide HS3).s.r
                  go_wp2_with fail

                  refine (unhide hfd _ (unhide HS3).s.o).mono ?_
                  rintro e wa ⟨rfl, ba⟩
                  have HSA := hide ((unhide HS3).up ba)
                  clear ba hfd x0 x1 x2 x3 x4 c0 c1 c2 cf HS3
                  rcases unhide HFW with ⟨at1, xm, hf1, hf2, hf3⟩ | ⟨hf1, hf2⟩
                  · have hat : at1 < rs.length := (List.getElem?_eq_some_iff.1 hf2).1
                    obtain ⟨htg1, htg2⟩ := unhide HTG xm hf3
                    have HXM := hide htg2
                    rw [hf1]
                    obtain ⟨aR, cR, hvR, hmr⟩ := (unhide HSA).s.o.mls
                    obtain ⟨gM, hgM, hrg⟩ := hmr at1 xm hf2
                    subst hvR
                    subst hgM
                    obtain ⟨nR, hnR⟩ : ∃ nR, rs.length = nR := ⟨_, rfl⟩
                    have hrr := (unhide HSA).s.r
                    rw [hnR] at hrr hat
                    subst htg1
                    obtain ⟨ti, tf, tt, ts⟩ := tg
                    have y0 : wa.cell? ⟨gM, at1 * 4, none⟩ = some (.int .i64 ti) := hrg 0 _ rfl
                    have y1 : wa.cell? ⟨gM, at1 * 4 + 1, none⟩ = some (.int .i64 tf) := hrg 1 _ rfl
                    have y2 : wa.cell? ⟨gM, at1 * 4 + 2, none⟩ = some (.int .i64 tt) := hrg 2 _ rfl
                    have y3 : wa.cell? ⟨gM, at1 * 4 + 3, none⟩ = some (.string ts) := hrg 3 _ rfl
                    obtain ⟨c0, c1, c2, cf⟩ := cells3 hrr
                    have hrl : rb < wa.heap.size := lt_of_block hrr
                    have hxl : xb < wa.heap.size := lt_of_block (unhide HSA).x
                    have hgl : gM < wa.heap.size := cell_lt y0
                    have q6 : (at1 : Int) < nR := by omega
                    have q7 : ¬ (at1 : Int) < 0 := by omega
                    have HSC0 := hide ((unhide HSA).up ((Below.refl wa.heap.size wa).alloc (Nat.le_refl _) (.cells #[.int .i64 0, .int .i64 tf, .int .i64 tt, .string ts] 37)))
                    have HKC0 := hide (heap_alloc_new wa (.cells #[.int .i64 0, .int .i64 tf, .int .i64 tt, .string ts] 37))
                    obtain ⟨x0, x1, x2, x3, x4⟩ := cells5 (unhide HSA).x
                    have HNR := hide hnR
                    clear hf1 hf2 hf3 hmr hrg hrr hnR hat
                    go_wp2_with fail
                    have HSC := HSC0
                    have HKC := HKC0
                    generalize wa.alloc (.cells #[.int .i64 0, .int .i64 tf, .int .i64 tt, .string ts] 37) = wm9 at *
                    clear x0 x1 x2 x3 x4 c0 c1 c2 cf y0 y1 y2 y3 HSC0 HKC0
                    have hdl := hide (unhide hds wm9 (unhide HSC).s.o (unhide HSC).s.be.size)
                    rw [unhide HNR] at hdl
                    refine (unhide hdl).mono ?_
                    rintro e wd ⟨⟨v', rfl, hod⟩, bd⟩
                    have HSD := hide ((unhide HSC).up bd)
                    have HKD := hide ((bd.block _ (lt_of_block (unhide HKC))).trans (unhide HKC))
                    have HOD := hide hod
                    have HZ := hide (heap_alloc_new wd (.cells zDn 28))
                    have HG := hide (newDn wd zDn (dnC room last v'))
                    have HAL := hide (ownR_all hod room last)
                    clear bd hod hdl HSC HKC
                    go_wp2_with (refine wpList_store_row_to rfl 28 (.tmp 18) (.tmp 144) rfl wd.heap.size (dnC room last v') rfl rfl 28 zDn (unhide HZ) (dn_info _ _ _) rfl (unhide HAL) (NewDn wd (dnC room last v')) (unhide HG) ?_)
                    intro we hwe
                    have HSE := hide ((unhide HSD).up hwe.be)
                    have HKE := hide ((hwe.be.block _ (lt_of_block (unhide HKD))).trans (unhide HKD))
                    have hoe := (unhide HOD).below hwe.be
                    have HSF := hide ((unhide HSE).set (last1 := last) hoe)
                    have HKF : Hid ((we.setRow rb (dnC room last v')).heap[wa.heap.size]? = some (.cells #[.int .i64 0, .int .i64 tf, .int .i64 tt, .string ts] 37 (0, 0))) := (setRow_other _ _ _ _ (fun e => by
                      have h1 := unhide HKE
                      rw [e, (unhide HSE).s.r] at h1
                      simp only [Option.some.injEq, Obj.cells.injEq] at h1
                      exact absurd h1.2.1 (by decide))).trans (unhide HKE)
                    have HRB := hide (unhide HSE).s.r
                    have HGF : Hid (RbM w b rb room last tl v' last rs xb #[.int .i64 1, .int .i64 id2, .int .i64 fr, .int .i64 tn, .string tx] wa.heap.size #[.int .i64 0, .int .i64 tf, .int .i64 tt, .string ts] (we.setRow rb (dnC room last v'))) := ⟨unhide HSF, unhide HKF⟩
                    obtain ⟨c0, c1, c2, cf⟩ := cells3 hwe.blk
                    clear hwe hoe HZ HG HSD HKD HSE HKE HSF HKF HOD
                    go_wp2_with (refine wpList_store_row_to rfl 28 (.tmp 8) (.tmp 146) rfl rb (dnC room last v') rfl rfl 28 _ (unhide HRB) (dn_info _ _ _) rfl (unhide HAL) (RbM w b rb room last tl v' last rs xb #[.int .i64 1, .int .i64 id2, .int .i64 fr, .int .i64 tn, .string tx] wa.heap.size #[.int .i64 0, .int .i64 tf, .int .i64 tt, .string ts]) (unhide HGF) ?_)
                    intro wf hwf
                    have HSG := hide hwf.s
                    have HKG := hide hwf.m
                    obtain ⟨x0, x1, x2, x3, x4⟩ := cells5 hwf.s.x
                    clear hwf HGF HRB HAL c0 c1 c2 cf
                    go_wp2_with fail
                    refine (unhide hsn wf (unhide HSG).s.nt).mono ?_
                    rintro e wg ⟨rfl, ng, kg⟩
                    have HSH := hide ((unhide HSG).kn kg ng)
                    have HKH := hide ((kg.typ _ _ _ _ (unhide HKG) (by decide) (by decide)).trans (unhide HKG))
                    have HZ := hide (heap_alloc_new wg (.cells (gmC zM) 30))
                    have HG := hide (newGm wg zM ⟨ti, tf, tt, ts⟩)
                    have HI := hide (gm_info ⟨ti, tf, tt, ts⟩)
                    have HAL := hide (gm_all ⟨ti, tf, tt, ts⟩)
                    clear ng kg hsn hds HSG HKG x0 x1 x2 x3 x4
                    go_wp2_with (refine wpList_store_row_to rfl 30 (.tmp 20) (.tmp 152) rfl wg.heap.size (gmC ⟨ti, tf, tt, ts⟩) rfl rfl 30 (gmC zM) (unhide HZ) (unhide HI) rfl (unhide HAL) (NewGm wg ⟨ti, tf, tt, ts⟩) (unhide HG) ?_)
                    intro wh hwh
                    have HSI := hide ((unhide HSH).up hwh.be)
                    have hkm := (hwh.be.block _ (lt_of_block (unhide HKH))).trans (unhide HKH)
                    have hkg := hwh.blk
                    obtain ⟨m0, m1, m2, m3, mf⟩ := cells4 hkm
                    obtain ⟨t0, t1, t2, tfz⟩ := cells3 hkg
                    have hrf := hide (fun y : World => nref_any ⟨ti, tf, tt, ts⟩ y)
                    have hneX := gb_ne wh
                    have u0 : ∀ y : Gb wh, y.w.cell? ⟨wa.heap.size, 0, none⟩ = some _ := fun y => gb_cell m0 y
                    have u1 : ∀ y : Gb wh, y.w.cell? ⟨wa.heap.size, 1, none⟩ = some _ := fun y => gb_cell m1 y
                    have u2 : ∀ y : Gb wh, y.w.cell? ⟨wa.heap.size, 2, none⟩ = some _ := fun y => gb_cell m2 y
                    have u3 : ∀ y : Gb wh, y.w.cell? ⟨wa.heap.size, 3, none⟩ = some _ := fun y => gb_cell m3 y
                    have s0 : ∀ y : Gb wh, y.w.cell? ⟨wg.heap.size, 0, none⟩ = some _ := fun y => gb_cell t0 y
                    have s1 : ∀ y : Gb wh, y.w.cell? ⟨wg.heap.size, 1, none⟩ = some _ := fun y => gb_cell t1 y
                    have s2 : ∀ y : Gb wh, y.w.cell? ⟨wg.heap.size, 2, none⟩ = some _ := fun y => gb_cell t2 y
                    try unfold zM at s0 s1 s2 hrf
                    try dsimp only at s0 s1 s2 hrf
                    clear hwh hkm hkg m0 m1 m2 m3 mf t0 t1 t2 tfz HZ HG HI HAL HSH HKH
                    go_wp2_with fail
                    refine wp_region_grB (by kernel_rfl) (by kernel_rfl) ?_
                    repeat (go_big_quiet_step ((go_at_call 12; exact gb_call (unhide hrf _))))
                    refine wpQuiet_nil ?_
                    rintro wz ⟨xz, rfl⟩
                    have HSJ := hide ((unhide HSI).up xz.ok)
                    clear u0 u1 u2 u3 s0 s1 s2 hneX hrf HSI
                    generalize xz.w = wj at *
                    have HNP := hide ((unhide HSJ).s.np (i := i + 1) (by have := unhide HLA; omega))
                    clear HSJ
                    try clear x0 x1 x2 x3 x4
                    go_wp2
                    go_meet
                    exact unhide HNP
                  · have htg1 := unhide HTN hf2
                    subst htg1
                    rw [hf1]
                    have q7 : (-1 : Int) < 0 := by omega
                    have HSC0 := hide ((unhide HSA).up ((Below.refl wa.heap.size wa).alloc (Nat.le_refl _) (.cells (mlL zMl).toArray 37)))
                    have HKC0 := hide (heap_alloc_new wa (.cells (mlL zMl).toArray 37))
                    obtain ⟨x0, x1, x2, x3, x4⟩ := cells5 (unhide HSA).x
                    obtain ⟨c0, c1, c2, cf⟩ := cells3 (unhide HSA).s.r
                    have hrl : rb < wa.heap.size := lt_of_block (unhide HSA).s.r
                    have hxl : xb < wa.heap.size := lt_of_block (unhide HSA).x
                    unfold zMl mlL at HSC0 HKC0
                    dsimp only at HSC0 HKC0
                    clear hf1 hf2
                    go_wp2_with fail
                    have HSC := HSC0
                    have HKC := HKC0
                    generalize wa.alloc (.cells #[.int .i64 0, .int .i64 0, .int .i64 0, .string ⟨#[]⟩] 37) = wm9 at *
                    clear x0 x1 x2 x3 x4 c0 c1 c2 cf HSC0 HKC0
                    have hdl := hide (unhide hds wm9 (unhide HSC).s.o (unhide HSC).s.be.size)

                    refine (unhide hdl).mono ?_
                    rintro e wd ⟨⟨v', rfl, hod⟩, bd⟩
                    have HSD := hide ((unhide HSC).up bd)
                    have HKD := hide ((bd.block _ (lt_of_block (unhide HKC))).trans (unhide HKC))
                    have HOD := hide hod
                    have HZ := hide (heap_alloc_new wd (.cells zDn 28))
                    have HG := hide (newDn wd zDn (dnC room last v'))
                    have HAL := hide (ownR_all hod room last)
                    clear bd hod hdl HSC HKC
                    go_wp2_with (refine wpList_store_row_to rfl 28 (.tmp 18) (.tmp 144) rfl wd.heap.size (dnC room last v') rfl rfl 28 zDn (unhide HZ) (dn_info _ _ _) rfl (unhide HAL) (NewDn wd (dnC room last v')) (unhide HG) ?_)
                    intro we hwe
                    have HSE := hide ((unhide HSD).up hwe.be)
                    have HKE := hide ((hwe.be.block _ (lt_of_block (unhide HKD))).trans (unhide HKD))
                    have hoe := (unhide HOD).below hwe.be
                    have HSF := hide ((unhide HSE).set (last1 := last) hoe)
                    have HKF : Hid ((we.setRow rb (dnC room last v')).heap[wa.heap.size]? = some (.cells #[.int .i64 0, .int .i64 0, .int .i64 0, .string ⟨#[]⟩] 37 (0, 0))) := (setRow_other _ _ _ _ (fun e => by
                      have h1 := unhide HKE
                      rw [e, (unhide HSE).s.r] at h1
                      simp only [Option.some.injEq, Obj.cells.injEq] at h1
                      exact absurd h1.2.1 (by decide))).trans (unhide HKE)
                    have HRB := hide (unhide HSE).s.r
                    have HGF : Hid (RbM w b rb room last tl v' last rs xb #[.int .i64 1, .int .i64 id2, .int .i64 fr, .int .i64 tn, .string tx] wa.heap.size #[.int .i64 0, .int .i64 0, .int .i64 0, .string ⟨#[]⟩] (we.setRow rb (dnC room last v'))) := ⟨unhide HSF, unhide HKF⟩
                    obtain ⟨c0, c1, c2, cf⟩ := cells3 hwe.blk
                    clear hwe hoe HZ HG HSD HKD HSE HKE HSF HKF HOD
                    go_wp2_with (refine wpList_store_row_to rfl 28 (.tmp 8) (.tmp 146) rfl rb (dnC room last v') rfl rfl 28 _ (unhide HRB) (dn_info _ _ _) rfl (unhide HAL) (RbM w b rb room last tl v' last rs xb #[.int .i64 1, .int .i64 id2, .int .i64 fr, .int .i64 tn, .string tx] wa.heap.size #[.int .i64 0, .int .i64 0, .int .i64 0, .string ⟨#[]⟩]) (unhide HGF) ?_)
                    intro wf hwf
                    have HSG := hide hwf.s
                    have HKG := hide hwf.m
                    obtain ⟨x0, x1, x2, x3, x4⟩ := cells5 hwf.s.x
                    clear hwf HGF HRB HAL c0 c1 c2 cf
                    go_wp2_with fail
                    refine (unhide hsn wf (unhide HSG).s.nt).mono ?_
                    rintro e wg ⟨rfl, ng, kg⟩
                    have HSH := hide ((unhide HSG).kn kg ng)
                    have HKH := hide ((kg.typ _ _ _ _ (unhide HKG) (by decide) (by decide)).trans (unhide HKG))
                    have HZ := hide (heap_alloc_new wg (.cells (gmC zM) 30))
                    have HG := hide (newGm wg zM zM)
                    have HI := hide (gm_info zM)
                    have HAL := hide (gm_all zM)
                    clear ng kg hsn hds HSG HKG x0 x1 x2 x3 x4
                    go_wp2_with (refine wpList_store_row_to rfl 30 (.tmp 20) (.tmp 152) rfl wg.heap.size (gmC zM) rfl rfl 30 (gmC zM) (unhide HZ) (unhide HI) rfl (unhide HAL) (NewGm wg zM) (unhide HG) ?_)
                    intro wh hwh
                    have HSI := hide ((unhide HSH).up hwh.be)
                    have hkm := (hwh.be.block _ (lt_of_block (unhide HKH))).trans (unhide HKH)
                    have hkg := hwh.blk
                    obtain ⟨m0, m1, m2, m3, mf⟩ := cells4 hkm
                    obtain ⟨t0, t1, t2, tfz⟩ := cells3 hkg
                    have hrf := hide (fun y : World => nref_any zM y)
                    have hneX := gb_ne wh
                    have u0 : ∀ y : Gb wh, y.w.cell? ⟨wa.heap.size, 0, none⟩ = some _ := fun y => gb_cell m0 y
                    have u1 : ∀ y : Gb wh, y.w.cell? ⟨wa.heap.size, 1, none⟩ = some _ := fun y => gb_cell m1 y
                    have u2 : ∀ y : Gb wh, y.w.cell? ⟨wa.heap.size, 2, none⟩ = some _ := fun y => gb_cell m2 y
                    have u3 : ∀ y : Gb wh, y.w.cell? ⟨wa.heap.size, 3, none⟩ = some _ := fun y => gb_cell m3 y
                    have s0 : ∀ y : Gb wh, y.w.cell? ⟨wg.heap.size, 0, none⟩ = some _ := fun y => gb_cell t0 y
                    have s1 : ∀ y : Gb wh, y.w.cell? ⟨wg.heap.size, 1, none⟩ = some _ := fun y => gb_cell t1 y
                    have s2 : ∀ y : Gb wh, y.w.cell? ⟨wg.heap.size, 2, none⟩ = some _ := fun y => gb_cell t2 y
                    try unfold zM at s0 s1 s2 hrf
                    try dsimp only at s0 s1 s2 hrf
                    clear hwh hkm hkg m0 m1 m2 m3 mf t0 t1 t2 tfz HZ HG HI HAL HSH HKH
                    go_wp2_with fail
                    refine wp_region_grB (by kernel_rfl) (by kernel_rfl) ?_
                    repeat (go_big_quiet_step ((go_at_call 12; exact gb_call (unhide hrf _))))
                    refine wpQuiet_nil ?_
                    rintro wz ⟨xz, rfl⟩
                    have HSJ := hide ((unhide HSI).up xz.ok)
                    clear u0 u1 u2 u3 s0 s1 s2 hneX hrf HSI
                    generalize xz.w = wj at *
                    have HNP := hide ((unhide HSJ).s.np (i := i + 1) (by have := unhide HLA; omega))
                    clear HSJ
                    try clear x0 x1 x2 x3 x4
                    go_wp2
                    go_meet
                    exact unhide HNP
              by_cases c2k : kd2 = 2
              · subst c2k
                as_aux_lemma =>
                  have hds := hide (fun (y : World) (ho : OwnR y w.heap.size vL rs) (hb : w.heap.size ≤ y.heap.size) => dlose_any w.heap.size room last id2 vL rs y ho hb (unhide HL6))
                  have hsn := hide (fun (y : World) (hn : Nt y w.heap.size b room last rs) => nlose w.heap.size b room last rs id2 (unhide HWI) y hn)
                  obtain ⟨te, hte⟩ : ∃ q, q = tkE rs id2 := ⟨_, rfl⟩
                  obtain ⟨tl, htl⟩ : ∃ q, q = tkL rs id2 := ⟨_, rfl⟩
                  rw [← hte, ← htl] at hds hsn
                  clear hte htl
                  obtain ⟨x0, x1, x2, x3, x4⟩ := cells5 (unhide HS3).x
                  obtain ⟨c0, c1, c2, cf⟩ := cells3 (unhide HS3).s.r
                  go_wp2_with fail
                  refine (unhide hds wc (unhide HS3).s.o (unhide HS3).s.be.size).mono ?_
                  rintro e wd ⟨⟨v', rfl, hod⟩, bd⟩
                  have HSD := hide ((unhide HS3).up bd)
                  have HOD := hide hod
                  have HZ := hide (heap_alloc_new wd (.cells zDn 28))
                  have HG := hide (newDn wd zDn (dnC room last v'))
                  have HAL := hide (ownR_all hod room last)
                  clear bd hod hds x0 x1 x2 x3 x4 c0 c1 c2 cf HS3
                  go_wp2_with (refine wpList_store_row_to rfl 28 (.tmp 22) (.tmp 170) rfl wd.heap.size (dnC room last v') rfl rfl 28 zDn (unhide HZ) (dn_info _ _ _) rfl (unhide HAL) (NewDn wd (dnC room last v')) (unhide HG) ?_)
                  intro we hwe
                  have HSE := hide ((unhide HSD).up hwe.be)
                  have hoe := (unhide HOD).below hwe.be
                  have HSF := hide ((unhide HSE).set (last1 := last) hoe)
                  have HRB := hide (unhide HSE).s.r
                  obtain ⟨c0, c1, c2, cf⟩ := cells3 hwe.blk
                  clear hwe hoe HZ HG HSD HSE HOD
                  go_wp2_with (refine wpList_store_row_to rfl 28 (.tmp 8) (.tmp 172) rfl rb (dnC room last v') rfl rfl 28 _ (unhide HRB) (dn_info _ _ _) rfl (unhide HAL) (RbX w b rb room last tl v' last rs xb #[.int .i64 2, .int .i64 id2, .int .i64 fr, .int .i64 tn, .string tx]) (unhide HSF) ?_)
                  intro wf hwf
                  have HSG := hide hwf
                  obtain ⟨x0, x1, x2, x3, x4⟩ := cells5 hwf.x
                  clear hwf HSF HRB HAL c0 c1 c2 cf
                  go_wp2_with fail
                  refine (unhide hsn wf (unhide HSG).s.nt).mono ?_
                  rintro e wg ⟨rfl, ng, kg⟩
                  have HSH := hide ((unhide HSG).kn kg ng)
                  clear ng kg hsn HSG
                  have HNP := hide ((unhide HSH).s.np (i := i + 1) (by have := unhide HLA; omega))
                  clear HSH
                  try clear x0 x1 x2 x3 x4
                  go_wp2
                  go_meet
                  exact unhide HNP
              by_cases c3k : kd2 = 3
              · subst c3k
                as_aux_lemma =>
                  have hds := hide (fun (y : World) (ho : OwnR y w.heap.size vL rs) (hb : w.heap.size ≤ y.heap.size) => dtwice_any w.heap.size room last id2 vL rs y ho hb (unhide HL6) (unhide HRM).2 hl0 hl9 (unhide HGO))
                  have hsn := hide (fun (y : World) (hn : Nt y w.heap.size b room last rs) => ntwice w.heap.size b room last rs id2 (unhide HWI) hl9 y hn)
                  have hst : twT room last rs id2 ≤ last + 1 := by unfold twT sndT; split <;> (try split) <;> omega
                  have HST := hide hst
                  clear hst
                  obtain ⟨ti, hti⟩ : ∃ q, q = twI room last rs id2 := ⟨_, rfl⟩
                  obtain ⟨te, hte⟩ : ∃ q, q = twE room rs id2 := ⟨_, rfl⟩
                  obtain ⟨tt, htt⟩ : ∃ q, q = twT room last rs id2 := ⟨_, rfl⟩
                  obtain ⟨tl, htl⟩ : ∃ q, q = twL room last rs id2 := ⟨_, rfl⟩
                  rw [← hti, ← hte, ← htt, ← htl] at hds hsn
                  rw [← htt] at HST
                  clear hti hte htt htl
                  obtain ⟨x0, x1, x2, x3, x4⟩ := cells5 (unhide HS3).x
                  obtain ⟨c0, c1, c2, cf⟩ := cells3 (unhide HS3).s.r
                  go_wp2_with fail

                  refine (unhide hds _ (unhide HS3).s.o (unhide HS3).s.be.size).mono ?_
                  rintro e wd ⟨⟨v', rfl, hod⟩, bd⟩
                  have HSD := hide ((unhide HS3).up bd)
                  have HOD := hide hod
                  have HZ := hide (heap_alloc_new wd (.cells zDn 28))
                  have HG := hide (newDn wd zDn (dnC room tt v'))
                  have HAL := hide (ownR_all hod room tt)
                  clear bd hod hds x0 x1 x2 x3 x4 c0 c1 c2 cf HS3
                  go_wp2_with (refine wpList_store_row_to rfl 28 (.tmp 24) (.tmp 186) rfl wd.heap.size (dnC room tt v') rfl rfl 28 zDn (unhide HZ) (dn_info _ _ _) rfl (unhide HAL) (NewDn wd (dnC room tt v')) (unhide HG) ?_)
                  intro we hwe
                  have HSE := hide ((unhide HSD).up hwe.be)
                  have hoe := (unhide HOD).below hwe.be
                  have HSF := hide ((unhide HSE).set (last1 := tt) hoe)
                  have HRB := hide (unhide HSE).s.r
                  obtain ⟨c0, c1, c2, cf⟩ := cells3 hwe.blk
                  clear hwe hoe HZ HG HSD HSE HOD
                  go_wp2_with (refine wpList_store_row_to rfl 28 (.tmp 8) (.tmp 189) rfl rb (dnC room tt v') rfl rfl 28 _ (unhide HRB) (dn_info _ _ _) rfl (unhide HAL) (RbX w b rb room tt tl v' last rs xb #[.int .i64 3, .int .i64 id2, .int .i64 fr, .int .i64 tn, .string tx]) (unhide HSF) ?_)
                  intro wf hwf
                  have HSG := hide hwf
                  obtain ⟨x0, x1, x2, x3, x4⟩ := cells5 hwf.x
                  clear hwf HSF HRB HAL c0 c1 c2 cf
                  go_wp2_with fail
                  refine (unhide hsn wf (unhide HSG).s.nt).mono ?_
                  rintro e wg ⟨rfl, ng, kg⟩
                  have HSH := hide ((unhide HSG).kn kg ng)
                  clear ng kg hsn HSG
                  have HNP := hide ((unhide HSH).s.np (i := i + 1) (by have := unhide HLA; have := unhide HST; omega))
                  clear HSH
                  try clear x0 x1 x2 x3 x4
                  go_wp2
                  go_meet
                  exact unhide HNP
              have f0 : (kd2 == 0) = false := by simpa using c0k
              have f1 : (kd2 == 1) = false := by simpa using c1k
              have f2 : (kd2 == 2) = false := by simpa using c2k
              have f3 : (kd2 == 3) = false := by simpa using c3k
              obtain ⟨x0, x1, x2, x3, x4⟩ := cells5 (unhide HS3).x
              have HNP := hide ((unhide HS3).s.np (i := i + 1) (by have := unhide HLA; omega))
              go_wp2
              go_meet
              exact unhide HNP
            case rest =>
              as_aux_lemma =>
                obtain ⟨lastF, rsF, vF, hnF, hoF, hrF, hlF⟩ := hcut.ex
                have HSF : Hid (RbS w b rb room lastF rsF vF lastF rsF wc) := ⟨hnF, hoF, hrF, hcut.be, hcut.lo⟩
                have HLF := hide hlF
                clear hcut hnF hoF hrF hlF
                have HNP := hide ((unhide HSF).np (i := i + 1) (unhide HLF))
                have hns := hide (unhide HSF).nt
                have hol := (unhide HSF).o
                have hrr := (unhide HSF).r
                obtain ⟨aR, cR, hvR, hmr⟩ := hol.mls
                have hl6 : (rsF).length ≤ 600 := by obtain ⟨_, _, hq⟩ := unhide hns; have := hq.len; have := hq.room2; omega
                have HL6b := hide hl6
                have hdto := hide (fun (y : World) (hy : Below wc.heap.size wc y) => dto_any w.heap.size room (lastF) node vF (rsF) y (hol.below hy) hl6)
                rw [hvR] at hrr hdto
                have HRR := hide hrr
                have HMR := hide hmr
                obtain ⟨LZ, hLZ⟩ : ∃ LZ, LZ = (rsF) := ⟨_, rfl⟩
                rw [← hLZ] at hns HMR HRR hdto HL6b
                obtain ⟨nR, hnR⟩ : ∃ nR, LZ.length = nR := ⟨_, rfl⟩
                rw [hnR] at HRR hdto
                have HNR := hide hnR
                clear hol hrr hvR hmr hl6 hLZ hnR
                go_wp2_with fail
                refine wp_region_rel [false, true, false, false, true, false, false, false, false, false, false, false, false, false, false, false, false, true, false, false, true, true, false, false] [(211, false), (219, false)] [4, 21] [206, 209, 222, 225, 226] (Act.put (Act.put _ (some 209) (.bool true)) (some 226) (.bool true)) ?A461 (fun x y => Below x.heap.size x y) (RS46 LZ node) (by kernel_rfl) (by kernel_rfl) (fun x y z h1 h2 => h1.trans (h2.mono h1.size)) (fun x y h => h) (fun j v x y h hb => RS46.stay h hb) (((Off.refl _ _).put 209 _ (by simp)).put 226 _ (by simp)) ?det461 ?lex461 ?gA461 ?st461 ?fin461
                case lex461 =>
                  intro z hz
                  have hneX := gb_ne z
                  obtain ⟨c0, c1, c2, cf⟩ := cells3 ((hz.block _ (lt_of_block (unhide HRR))).trans (unhide HRR))
                  have g0 : ∀ y : Gb z, y.w.cell? ⟨rb, 0, none⟩ = some (.int .i64 room) := fun y => gb_cell c0 y
                  have g1 : ∀ y : Gb z, y.w.cell? ⟨rb, 1, none⟩ = some (.int .i64 (lastF)) := fun y => gb_cell c1 y
                  have g2 : ∀ y : Gb z, y.w.cell? ⟨rb, 2, none⟩ = some (.slice aR nR cR) := fun y => gb_cell c2 y
                  have hlen := hide (fun y : Gb z => nlen w.heap.size b room (lastF) LZ y.w (((unhide hns).kept hz).kept y.ok))
                  rw [unhide HNR] at hlen
                  clear c0 c1 c2 cf
                  dsimp only [restM]
                  simp only [Act.put, List.setIfInBounds_toArray, List.set_cons_succ, List.set_cons_zero]
                  repeat (go_big_quiet_step ((go_at_call 22; exact gb_same (unhide hlen _))))
                  refine wpQuiet_nil ?_
                  exact rfl
                case det461 =>
                  intro j hj o s ho hs v z hR
                  simp only [List.mem_cons, List.not_mem_nil, or_false] at hj
                  rcases hj with rfl | rfl
                  all_goals
                    simp only [List.getElem?_cons_succ, List.getElem?_cons_zero, Option.some.injEq] at ho
                    subst ho
                    simp only [Option.some.injEq] at hs
                    subst hs
                    exact hR.trans rfl
                case gA461 =>
                  intro g hg
                  simp only [List.mem_cons, List.not_mem_nil, or_false] at hg
                  rcases hg with rfl | rfl <;> rfl
                case st461 =>
                  intro j o ho hmj z bb hz hop
                  have hj : j ∈ [1, 4, 17, 20, 21] := mask_in hmj
                  simp only [List.mem_cons, List.not_mem_nil, or_false] at hj
                  rcases hj with rfl | rfl | rfl | rfl | rfl
                  all_goals
                    simp only [List.getElem?_cons_succ, List.getElem?_cons_zero, Option.some.injEq] at ho
                    subst ho
                  · have y0 : bb.eval (.tmp 205) = .pointer (some ⟨b, 0, none⟩) := hop 205 (by simp [Op.operands, Call.operands])
                    refine wp_call 21 #[.tmp 205] _ rfl Try.call21 #[.pointer (some ⟨b, 0, none⟩)] (by simp [y0]) (nlist_any w.heap.size b room (lastF) LZ z ((unhide hns).kept hz)) ?_
                    rintro e w7 ⟨v, rfl, ho7, b7⟩
                    obtain ⟨a7, c7, rfl, hm7⟩ := ho7.mls
                    exact ⟨_, rfl, _, rfl, ⟨a7, c7, rfl, hm7⟩, b7⟩
                  · obtain ⟨a7, c7, y0, hm7⟩ : ∃ a c, bb.eval (.tmp 206) = .slice a LZ.length c ∧ MlsAt z a LZ := hop 206 (by simp [Op.operands, Call.operands])
                    have y1 : bb.eval (.tmp 208) = .slice aR nR cR := hop 208 (by simp [Op.operands, Call.operands])
                    refine wp_call 20 #[.tmp 206, .tmp 208] _ rfl Try.call20 #[.slice a7 LZ.length c7, .slice aR LZ.length cR] (by rw [unhide HNR] at y0 ⊢; simp [y0, y1]) (nsame_any a7 aR LZ c7 cR z hm7 ((unhide HMR).up hz) (unhide HL6b)) ?_
                    rintro e w7 ⟨rfl, b7⟩
                    exact ⟨_, rfl, _, rfl, rfl, b7⟩
                  · have y0 : bb.eval (.tmp 220) = .pointer (some ⟨b, 0, none⟩) := hop 220 (by simp [Op.operands, Call.operands])
                    have y1 : bb.eval (.tmp 221) = .int .i64 node := hop 221 (by simp [Op.operands, Call.operands])
                    refine wp_call 24 #[.tmp 220, .tmp 221] _ rfl Try.call24 #[.pointer (some ⟨b, 0, none⟩), .int .i64 node] (by simp [y0, y1]) (nto_any w.heap.size b room (lastF) LZ node z ((unhide hns).kept hz)) ?_
                    rintro e w7 ⟨v, rfl, ho7, b7⟩
                    obtain ⟨a7, c7, rfl, hm7, _, _⟩ := OwnI.ints ho7
                    exact ⟨_, rfl, _, rfl, ⟨a7, c7, rfl, hm7⟩, b7⟩
                  · have y0 : bb.eval (.tmp 223) = .agg #[.int .i64 room, .int .i64 (lastF), .slice aR nR cR] := hop 223 (by simp [Op.operands, Call.operands])
                    have y1 : bb.eval (.tmp 224) = .int .i64 node := hop 224 (by simp [Op.operands, Call.operands])
                    refine wp_call 25 #[.tmp 223, .tmp 224] _ rfl Try.call25 #[.agg #[.int .i64 room, .int .i64 (lastF), .slice aR nR cR], .int .i64 node] (by simp [y0, y1]) (unhide hdto z hz) ?_
                    rintro e w7 ⟨v, rfl, ho7, b7⟩
                    obtain ⟨a7, c7, rfl, hm7, _, _⟩ := OwnI.ints ho7
                    exact ⟨_, rfl, _, rfl, ⟨a7, c7, rfl, hm7⟩, b7⟩
                  · obtain ⟨a7, c7, y0, hm7⟩ : ∃ a c, bb.eval (.tmp 222) = .slice a (toI LZ node).length c ∧ Ints z a (toI LZ node) := hop 222 (by simp [Op.operands, Call.operands])
                    obtain ⟨a8, c8, y1, hm8⟩ : ∃ a c, bb.eval (.tmp 225) = .slice a (toI LZ node).length c ∧ Ints z a (toI LZ node) := hop 225 (by simp [Op.operands, Call.operands])
                    refine wp_call 23 #[.tmp 222, .tmp 225] _ rfl Try.call23 #[.slice a7 (toI LZ node).length c7, .slice a8 (toI LZ node).length c8] (by simp [y0, y1]) (isame_any z (toI LZ node) a7 a8 c7 c8 (by have h1 := toI_len LZ node; have h2 := unhide HL6b; omega) hm7 hm8) ?_
                    rintro e w7 ⟨rfl, b7⟩
                    exact ⟨_, rfl, _, rfl, rfl, b7⟩
                case fin461 =>
                  intro bb z hz hoff hrel
                  have hall := Off.all _ _ hoff
                  simp only [List.foldl_cons, List.foldl_nil] at hall
                  generalize bb.eval (.tmp 206) = v206 at hall
                  generalize bb.eval (.tmp 209) = v209 at hall
                  generalize bb.eval (.tmp 222) = v222 at hall
                  generalize bb.eval (.tmp 225) = v225 at hall
                  generalize bb.eval (.tmp 226) = v226 at hall
                  rw [hall]
                  clear hall hrel hoff bb
                  have HBr := hide ((unhide HNP).up hz)
                  clear hz
                  simp only [Act.put, List.setIfInBounds_toArray, List.set_cons_succ, List.set_cons_zero]
                  go_wp2
                  go_roundw
                  case rel => exact ⟨i + 1, by omega, by omega, by go_num, unhide HBr⟩
                  case measure => simp [intOf]; omega
    · have HB9 := hide (unhide HC).be
      clear HC
      by_cases hlt1 : i < n
      · have q1 : (i : Int) < n := by omega
        have q2 : ¬ (i : Int) < 60 := by omega
        go_wp2
        go_ret
        exact ⟨rfl, unhide HB9⟩
      · have q1 : ¬ (i : Int) < n := by omega
        go_wp2
        go_ret
        exact ⟨rfl, unhide HB9⟩
end Go.Proofs.Ytmnjngkdiinnfaa

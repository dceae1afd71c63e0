/- net: find, Len, Nth; a nil net. -/
import Derived.Test.YtmnjngkdiinnfaaNtB
namespace Go.Proofs.Ytmnjngkdiinnfaa
open Go.RowKit
set_option linter.unusedVariables false
attribute [local go_sem] Oper.semAt_some

/-- two blocks of datagrams -/
structure GmS (w : World) (c1 c2 : Mg) (x : World) : Prop where
  a : x.heap[w.heap.size]? = some (.cells (gmC c1) 30 (0, 0))
  b : x.heap[w.heap.size + 1]? = some (.cells (gmC c2) 30 (0, 0))
  be : Below w.heap.size w x
theorem GmS.up {w : World} {c1 c2 : Mg} {x y : World} (h : GmS w c1 c2 x) (hb : Below x.heap.size x y) : GmS w c1 c2 y :=
  ⟨(hb.block _ (lt_of_block h.a)).trans h.a, (hb.block _ (lt_of_block h.b)).trans h.b, h.be.trans (hb.mono h.be.size)⟩
theorem GmS.seta {w : World} {c1 c2 : Mg} {x : World} (h : GmS w c1 c2 x) (c : Mg) : GmS w c c2 (x.setRow w.heap.size (gmC c)) :=
  ⟨setRow_heap _ _ _ _ _ _ h.a, (setRow_other _ _ _ _ (by omega)).trans h.b, ⟨h.be.os, h.be.tape, h.be.output, by simpa [World.setRow] using h.be.size, fun i hi => (setRow_other _ _ i _ (by omega)).trans (h.be.block i hi)⟩⟩
theorem GmS.setb {w : World} {c1 c2 : Mg} {x : World} (h : GmS w c1 c2 x) (c : Mg) : GmS w c1 c (x.setRow (w.heap.size + 1) (gmC c)) :=
  ⟨(setRow_other _ _ _ _ (by omega)).trans h.a, setRow_heap _ _ _ _ _ _ h.b, ⟨h.be.os, h.be.tape, h.be.output, by simpa [World.setRow] using h.be.size, fun i hi => (setRow_other _ _ i _ (by omega)).trans (h.be.block i hi)⟩⟩
theorem gm_all (c : Mg) : (gmC c).all (·.oneCell') = true := by simp [gmC, Value.oneCell']
theorem gm_info (c : Mg) : (Try.prog.info? 30).map (·.size) = some (gmC c).size := by
  show _ = some 3
  kernel_rfl
theorem gm_two (w : World) (c1 c2 : Mg) : GmS w c1 c2 ((w.alloc (.cells (gmC c1) 30)).alloc (.cells (gmC c2) 30)) := by
  have h1 := heap_alloc_new w (.cells (gmC c1) 30)
  refine ⟨?_, heap2_b _ _ _, ((Below.refl _ _).alloc (Nat.le_refl _) _).alloc (by simp) _⟩
  rw [Below.heap_alloc _ _ _ (by simp)]
  exact h1
theorem mg_uniq {rs : List Mg} (hp : rs.Pairwise fun a b => a.id < b.id) {a b : Mg} (ha : a ∈ rs) (hb : b ∈ rs) (h : a.id = b.id) : a = b := by
  obtain ⟨i, hi⟩ := List.getElem?_of_mem ha
  obtain ⟨j, hj⟩ := List.getElem?_of_mem hb
  obtain ⟨i1, i2⟩ := List.getElem?_eq_some_iff.1 hi
  obtain ⟨j1, j2⟩ := List.getElem?_eq_some_iff.1 hj
  rcases Nat.lt_trichotomy i j with h1 | h1 | h1
  · have := List.pairwise_iff_getElem.1 hp i j i1 j1 h1
    rw [i2, j2] at this
    omega
  · subst h1
    rw [hi] at hj
    exact Option.some.inj hj
  · have := List.pairwise_iff_getElem.1 hp j i j1 i1 h1
    rw [i2, j2] at this
    omega
/-- a datagram lies in a new block -/
structure NewGm (w : World) (c : Mg) (x : World) : Prop where
  blk : x.heap[w.heap.size]? = some (.cells (gmC c) 30 (0, 0))
  be : Below w.heap.size w x
theorem newGm (w : World) (c0 c : Mg) : NewGm w c ((w.alloc (.cells (gmC c0) 30)).setRow w.heap.size (gmC c)) := by
  have h1 := heap_alloc_new w (.cells (gmC c0) 30)
  have h2 : Below w.heap.size w (w.alloc (.cells (gmC c0) 30)) := (Below.refl _ _).alloc (Nat.le_refl _) _
  exact ⟨setRow_heap _ _ _ _ _ _ h1, ⟨h2.os, h2.tape, h2.output, by simp [World.setRow], fun i hi => (setRow_other _ _ i _ (by omega)).trans (h2.block i hi)⟩⟩
set_option maxRecDepth 100000 in
theorem find_nil (k : Int) (w : World) : Calls Try.prog 31 #[.pointer none, .int .i64 k] w fun e w' => e = .returned (.tuple #[zGm, .int .i64 1]) ∧ Below w.heap.size w w' := by
  have HZ := hide (heap_alloc_new w (.cells (gmC zM) 30))
  have HG := hide (newGm w zM zM)
  go_enter Try.func31, Try.ntmps31
  go_wp2_with (refine wpList_store_row_to rfl 30 (.tmp 4) (.tmp 10) rfl w.heap.size (gmC zM) rfl rfl 30 (gmC zM) (unhide HZ) (gm_info zM) rfl (gm_all zM) (NewGm w zM) (unhide HG) ?_)
  intro w1 h1
  have H1 := hide h1
  clear h1
  go_wp2
  exact ret_row2 (p := 4) (q := 5) (ty := 30) (by kernel_rfl) w.heap.size 30 (gmC zM) (0, 0) _ _ rfl rfl (unhide H1).blk rfl Try.underlying30 (gm_info zM) ⟨rfl, (unhide H1).be⟩
set_option maxRecDepth 100000 in
set_option maxHeartbeats 1000000 in
theorem find_none (B b mb : Nat) (iv : Value) (room last : Int) (rs : List Mg) (k : Int) (hk : (Lit.int .i64 k).wf = true) (w : World) (hS : NtAt w B b mb iv room last rs) (hn : ∀ r ∈ rs, r.id ≠ k) :
    Calls Try.prog 31 #[.pointer (some ⟨b, 0, none⟩), .int .i64 k] w fun e w' => e = .returned (.tuple #[zGm, .int .i64 4]) ∧ Below w.heap.size w w' := by
  obtain ⟨D, hM, hD⟩ := hS.map
  obtain ⟨p0, p1, p2, p3, fp⟩ := cells4 hS.blk
  have HM := hide hM
  have HD := hide hD
  have HN := hide hn
  have HK := hide hk
  have H2 := hide (gm_two w zM zM)
  have hblt := hS.blt
  clear hM hD hS hn hk
  go_enter Try.func31, Try.ntmps31
  go_wp2_with (at_lookup; refine wpList_look_st _ rfl _ _ rfl mb last.toNat D rs (unhide HD) rfl ((unhide HM).alloc _) k rfl (unhide HK) ?_ ?_)
  · intro _
    go_wp2_with (refine wpList_store_row_to rfl 30 (.tmp 6) (.tmp 18) rfl (w.heap.size + 1) (gmC zM) rfl rfl 30 (gmC zM) (unhide H2).b (gm_info zM) rfl (gm_all zM) (GmS w zM zM) ((unhide H2).setb zM) ?_)
    intro w1 h1
    have H1 := hide h1
    clear h1
    go_wp2_with (refine wpList_store_row_to rfl 30 (.tmp 4) (.tmp 22) rfl w.heap.size (gmC zM) rfl rfl 30 (gmC zM) (unhide H1).a (gm_info zM) rfl (gm_all zM) (GmS w zM zM) ((unhide H1).seta zM) ?_)
    intro w2 h2
    have H3 := hide h2
    clear h2
    go_wp2
    exact ret_row2 (p := 4) (q := 5) (ty := 30) (by kernel_rfl) w.heap.size 30 (gmC zM) (0, 0) _ _ rfl rfl (unhide H3).a rfl Try.underlying30 (gm_info zM) ⟨rfl, (unhide H3).be⟩
  · intro r hr he
    exact absurd he (unhide HN r hr)
set_option maxRecDepth 100000 in
set_option maxHeartbeats 1000000 in
theorem find_yes (B b mb : Nat) (iv : Value) (room last : Int) (rs : List Mg) (x : Mg) (hx : x ∈ rs) (w : World) (hS : NtAt w B b mb iv room last rs) :
    Calls Try.prog 31 #[.pointer (some ⟨b, 0, none⟩), .int .i64 x.id] w fun e w' => e = .returned (.tuple #[gmV x, .int .i64 0]) ∧ Below w.heap.size w w' := by
  obtain ⟨D, hM, hD⟩ := hS.map
  obtain ⟨p0, p1, p2, p3, fp⟩ := cells4 hS.blk
  have hkw : (Lit.int .i64 x.id).wf = true := WalkArith.wf_i64 (by have := hS.ids x hx; have := hS.last1; omega)
  have HM := hide hM
  have HD := hide hD
  have HK := hide hkw
  have HU := hide (fun r (hr : r ∈ rs) (he : r.id = x.id) => mg_uniq hS.up hr hx he)
  have HX := hide hx
  have H2 := hide (gm_two w zM zM)
  have hblt := hS.blt
  clear hM hD hS hx hkw
  go_enter Try.func31, Try.ntmps31
  go_wp2_with (at_lookup; refine wpList_look_st _ rfl _ _ rfl mb last.toNat D rs (unhide HD) rfl ((unhide HM).alloc _) x.id rfl (unhide HK) ?_ ?_)
  · intro hn
    exact absurd rfl (hn x (unhide HX))
  · intro r hr he
    obtain rfl := unhide HU r hr he
    clear hr he
    go_wp2_with (refine wpList_store_row_to rfl 30 (.tmp 6) (.tmp 18) rfl (w.heap.size + 1) (gmC r) rfl rfl 30 (gmC zM) (unhide H2).b (gm_info r) rfl (gm_all r) (GmS w zM r) ((unhide H2).setb r) ?_)
    intro w1 h1
    have H1 := hide h1
    obtain ⟨c0, c1, c2, cf⟩ := cells3 h1.b
    clear h1
    go_wp2_with (refine wpList_store_row_to rfl 30 (.tmp 4) (.tmp 23) rfl w.heap.size (gmC r) rfl rfl 30 (gmC zM) (unhide H1).a (gm_info r) rfl (gm_all r) (GmS w r r) ((unhide H1).seta r) ?_)
    intro w2 h2
    have H3 := hide h2
    clear h2
    go_wp2
    exact ret_row2 (p := 4) (q := 5) (ty := 30) (by kernel_rfl) w.heap.size 30 (gmC r) (0, 0) _ _ rfl rfl (unhide H3).a rfl Try.underlying30 (gm_info r) ⟨rfl, (unhide H3).be⟩
set_option maxRecDepth 100000 in
theorem nlen_nil (w : World) : Calls Try.prog 22 #[.pointer none] w fun e w' => e = .returned (.int .i64 0) ∧ w = w' := by
  go_enter Try.func22, Try.ntmps22
  go_wp2
  go_ret
  exact ⟨rfl, rfl⟩
set_option maxRecDepth 100000 in
theorem nlen_any (B b mb : Nat) (iv : Value) (room last : Int) (rs : List Mg) (w : World) (hS : NtAt w B b mb iv room last rs) :
    Calls Try.prog 22 #[.pointer (some ⟨b, 0, none⟩)] w fun e w' => e = .returned (.int .i64 rs.length) ∧ w = w' := by
  obtain ⟨p0, p1, p2, p3, fp⟩ := cells4 hS.blk
  obtain ⟨a0, c, rfl, hI, _, _⟩ := OwnI.ints hS.idv
  rw [List.length_map] at p3
  generalize rs.length = n at *
  clear hS hI p0 p1 p2 fp
  go_enter Try.func22, Try.ntmps22
  go_wp2
  go_ret
  exact ⟨rfl, rfl⟩
set_option maxRecDepth 100000 in
theorem nth_nil (i : Int) (w : World) : Calls Try.prog 9 #[.pointer none, .int .i64 i] w fun e w' => e = .returned (.int .i64 0) ∧ w = w' := by
  by_cases h : i < 0
  · have d1 : decide (i < 0) = true := decide_eq_true h
    go_enter Try.func9, Try.ntmps9
    go_wp2
    go_ret
    exact ⟨rfl, rfl⟩
  · have d1 : decide (i < 0) = false := decide_eq_false h
    go_enter Try.func9, Try.ntmps9
    go_wp2_with fail
    refine (nlen_nil w).mono ?_
    rintro e w1 ⟨rfl, rfl⟩
    go_wp2
    go_ret
    exact ⟨rfl, rfl⟩
/-- the number of one of them -/
def nthI (rs : List Mg) (i : Int) : Int := if i < 0 ∨ rs = [] then 0 else (rs.map Mg.id).getD (i.tmod rs.length).toNat 0
set_option maxRecDepth 100000 in
set_option maxHeartbeats 1000000 in
theorem nth_any (B b mb : Nat) (iv : Value) (room last : Int) (rs : List Mg) (i : Int) (hi : -9223372036854775808 ≤ i ∧ i ≤ 9223372036854775807) (w : World) (hS : NtAt w B b mb iv room last rs) :
    Calls Try.prog 9 #[.pointer (some ⟨b, 0, none⟩), .int .i64 i] w fun e w' => e = .returned (.int .i64 (nthI rs i)) ∧ Below w.heap.size w w' := by
  by_cases h : i < 0
  · have d1 : decide (i < 0) = true := decide_eq_true h
    have e1 : nthI rs i = 0 := by unfold nthI; rw [if_pos (.inl h)]
    rw [e1]
    clear e1 hS
    go_enter Try.func9, Try.ntmps9
    go_wp2
    go_ret
    exact ⟨rfl, Below.refl _ _⟩
  · have d1 : decide (i < 0) = false := decide_eq_false h
    have hL := hide (nlen_any B b mb iv room last rs w hS)
    obtain ⟨p0, p1, p2, p3, fp⟩ := cells4 hS.blk
    have hlen := hS.len
    have hroom := hS.room2
    obtain ⟨a0, c, rfl, hI, _, _⟩ := OwnI.ints hS.idv
    rw [List.length_map] at p3
    by_cases h0 : rs = []
    · subst h0
      have e1 : nthI [] i = 0 := by unfold nthI; rw [if_pos (.inr rfl)]
      rw [e1]
      clear hS hI p0 p1 p2 p3 fp e1
      go_enter Try.func9, Try.ntmps9
      go_wp2_with fail
      refine (unhide hL).mono ?_
      rintro e w1 ⟨rfl, rfl⟩
      go_wp2
      go_ret
      exact ⟨rfl, Below.refl _ _⟩
    · obtain ⟨n, hn⟩ : ∃ n, rs.length = n := ⟨_, rfl⟩
      have hn0 : 0 < n := by rw [← hn]; exact List.length_pos_iff.2 h0
      obtain ⟨j, hj⟩ : ∃ j : Nat, i.tmod n = j := ⟨(i.tmod n).toNat, by have := Int.tmod_nonneg (n : Int) (a := i) (by omega); omega⟩
      have hjn : j < n := by have := Int.tmod_lt_of_pos i (b := (n : Int)) (by omega); omega
      have hji : j < (rs.map Mg.id).length := by rw [List.length_map, hn]; exact hjn
      obtain ⟨g, o, rfl, cj⟩ := hI j hji
      have e1 : nthI rs i = (rs.map Mg.id)[j] := by
        unfold nthI
        rw [if_neg (by rintro (h1 | h1) <;> contradiction), hn, hj, Int.toNat_natCast, List.getD_eq_getElem?_getD, List.getElem?_eq_getElem hji]
        rfl
      rw [e1]
      rw [hn] at p3 hL
      generalize (rs.map Mg.id)[j] = v at *
      have q1 : (j : Int) < n := by omega
      have q2 : ((n : Int) == 0) = false := by simp; omega
      have q3 : (n == 0) = false := by simp; omega
      have q5 : ¬ (n : Int) = 0 := by omega
      have HJ := hide hj
      have hn6 : (n : Int) ≤ 600 := by omega
      clear hS hI hn e1 h0 hji hlen hj
      go_enter Try.func9, Try.ntmps9
      go_wp2_with fail
      refine (unhide hL).mono ?_
      rintro e w1 ⟨rfl, rfl⟩
      have hj := unhide HJ
      have hneX := gb_ne w
      have g3 : ∀ y : Gb w, y.w.cell? ⟨b, 3, none⟩ = some (.slice (some ⟨g, o, none⟩) n c) := fun y => gb_cell p3 y
      have gj : ∀ y : Gb w, y.w.cell? ⟨g, o + j, none⟩ = some (.int .i64 v) := fun y => gb_cell cj y
      clear p0 p1 p2 p3 fp cj hL
      go_wp2_with fail
      refine wp_region_grB (by kernel_rfl) (by kernel_rfl) ?_
      repeat (go_big_quiet_step (fail))
      refine wpQuiet_nil ?_
      rintro wz ⟨xz, rfl⟩
      have HB := hide xz.ok
      generalize xz.w = wz at *
      go_wp2
      go_ret
      exact ⟨rfl, unhide HB⟩
end Go.Proofs.Ytmnjngkdiinnfaa

/- net: the calls, whatever the arguments. -/
import Derived.Test.YtmnjngkdiinnfaaNtE
namespace Go.Proofs.Ytmnjngkdiinnfaa
open Go.RowKit
set_option linter.unusedVariables false
attribute [local go_sem] Oper.semAt_some

/-- a net, wherever its map and its numbers are -/
def Nt (w : World) (B b : Nat) (room last : Int) (rs : List Mg) : Prop := ∃ mb iv, NtAt w B b mb iv room last rs
theorem Nt.kept {w w' : World} {B b : Nat} {room last : Int} {rs : List Mg} (h : Nt w B b room last rs) (hb : Below w.heap.size w w') : Nt w' B b room last rs := by
  obtain ⟨mb, iv, h⟩ := h
  exact ⟨mb, iv, h.kept hb⟩
/-- kept where nothing but other blocks of cells than the net's and integers turn -/
theorem Nt.set {w : World} {B b : Nat} {room last : Int} {rs : List Mg} (h : Nt w B b room last rs) {g : Nat} {cs : Array Value} {T : TypeId} (hg : w.heap[g]? = some (.cells cs T (0, 0))) (h1 : T ≠ 66) (h2 : T ≠ 3) (vs : Array Value) : Nt (w.setRow g vs) B b room last rs := by
  obtain ⟨mb, iv, h⟩ := h
  refine ⟨mb, iv, h.typed (setRow_other _ _ _ _ (fun e => ?_)) (setRow_other _ _ _ _ (fun e => ?_)) (fun k cu fr hk => setRow_other _ _ _ _ (fun e => ?_))⟩
  · subst e
    rw [h.blk] at hg
    simp only [Option.some.injEq, Obj.cells.injEq] at hg
    exact h1 hg.2.1.symm
  · subst e
    obtain ⟨es, cl, hm⟩ := h.isMap
    rw [hm] at hg
    cases hg
  · subst e
    rw [hg] at hk
    simp only [Option.some.injEq, Obj.cells.injEq] at hk
    exact h2 hk.2.1
/-- the mail of a number -/
def fM (rs : List Mg) (k : Int) : Option Mg := rs.find? fun r => decide (r.id = k)
theorem fM_none {rs : List Mg} {k : Int} (h : fM rs k = none) : ∀ r ∈ rs, r.id ≠ k := by
  unfold fM at h
  rw [List.find?_eq_none] at h
  intro r hr
  simpa using h r hr
theorem fM_some {rs : List Mg} {k : Int} {x : Mg} (h : fM rs k = some x) : x ∈ rs ∧ x.id = k := by
  unfold fM at h
  exact ⟨List.mem_of_find?_eq_some h, by simpa using List.find?_some h⟩
/-- Send: the number, the error, the last number, what is under way -/
def sndI (room last : Int) (rs : List Mg) (r : Mg) : Int := if mayG r.fr r.to r.tx.size = true ∧ (rs.length : Int) < room then last + 1 else 0
def sndE (room : Int) (rs : List Mg) (r : Mg) : Int := if mayG r.fr r.to r.tx.size = true then (if (rs.length : Int) < room then 0 else 6) else 1
def sndT (room last : Int) (rs : List Mg) (r : Mg) : Int := if mayG r.fr r.to r.tx.size = true ∧ (rs.length : Int) < room then last + 1 else last
def sndL (room last : Int) (rs : List Mg) (r : Mg) : List Mg := if mayG r.fr r.to r.tx.size = true ∧ (rs.length : Int) < room then rs ++ [{ r with id := last + 1 }] else rs
theorem nsend (B b : Nat) (room last : Int) (rs : List Mg) (r : Mg) (w : World) (hS : Nt w B b room last rs) (hd : r.tx.size ≤ maxLen) (hl : last < 1000000000) :
    Calls Try.prog 13 #[.pointer (some ⟨b, 0, none⟩), gmV r] w fun e w' => e = .returned (.tuple #[.int .i64 (sndI room last rs r), .int .i64 (sndE room rs r)]) ∧ Nt w' B b room (sndT room last rs r) (sndL room last rs r) ∧ KN B w w' := by
  obtain ⟨mb, iv, h⟩ := hS
  unfold sndI sndE sndT sndL
  cases hm : mayG r.fr r.to r.tx.size with
  | false =>
    simp only [Bool.false_eq_true, false_and, if_false]
    refine (send_bad b r w hd hm).mono ?_
    rintro e w' ⟨rfl, hb⟩
    exact ⟨rfl, ⟨mb, iv, h.kept hb⟩, KN.of_below hb⟩
  | true =>
    simp only [true_and, if_true]
    by_cases hf : (rs.length : Int) < room
    · simp only [if_pos hf]
      refine (send_ok B b mb iv room last rs r w h hd hm hf hl).mono ?_
      rintro e w' ⟨rfl, ⟨iv', h1⟩, h2⟩
      exact ⟨rfl, ⟨mb, iv', h1⟩, h2⟩
    · simp only [if_neg hf]
      refine (send_full B b mb iv room last rs r w h hd hm (by have := h.len; omega)).mono ?_
      rintro e w' ⟨rfl, hb⟩
      exact ⟨rfl, ⟨mb, iv, h.kept hb⟩, KN.of_below hb⟩
/-- Take: the datagram, the error, what is left -/
def tkG (rs : List Mg) (k : Int) : Mg := (fM rs k).getD zM
def tkE (rs : List Mg) (k : Int) : Int := if (fM rs k).isSome then 0 else 4
def tkL (rs : List Mg) (k : Int) : List Mg := rs.filter fun r => decide (r.id ≠ k)
theorem ntake (B b : Nat) (room last : Int) (rs : List Mg) (k : Int) (hk : (Lit.int .i64 k).wf = true) (w : World) (hS : Nt w B b room last rs) :
    Calls Try.prog 16 #[.pointer (some ⟨b, 0, none⟩), .int .i64 k] w fun e w' => e = .returned (.tuple #[gmV (tkG rs k), .int .i64 (tkE rs k)]) ∧ Nt w' B b room last (tkL rs k) ∧ KN B w w' := by
  obtain ⟨mb, iv, h⟩ := hS
  unfold tkG tkE tkL
  cases hm : fM rs k with
  | none =>
    have hn := fM_none hm
    have hfl : rs.filter (fun r => decide (r.id ≠ k)) = rs := by
      rw [List.filter_eq_self]
      intro r hr
      simpa using hn r hr
    rw [hfl]
    refine (take_none B b mb iv room last rs k hk w h hn).mono ?_
    rintro e w' ⟨rfl, hb⟩
    exact ⟨rfl, ⟨mb, iv, h.kept hb⟩, KN.of_below hb⟩
  | some x =>
    obtain ⟨hx, rfl⟩ := fM_some hm
    refine (take_yes B b mb iv room last rs x hx w h).mono ?_
    rintro e w' ⟨rfl, ⟨iv', h1⟩, h2⟩
    exact ⟨rfl, ⟨mb, iv', h1⟩, h2⟩
theorem nfind (B b : Nat) (room last : Int) (rs : List Mg) (k : Int) (hk : (Lit.int .i64 k).wf = true) (w : World) (hS : Nt w B b room last rs) :
    Calls Try.prog 31 #[.pointer (some ⟨b, 0, none⟩), .int .i64 k] w fun e w' => e = .returned (.tuple #[gmV (tkG rs k), .int .i64 (tkE rs k)]) ∧ Below w.heap.size w w' := by
  obtain ⟨mb, iv, h⟩ := hS
  unfold tkG tkE
  cases hm : fM rs k with
  | none => exact find_none B b mb iv room last rs k hk w h (fM_none hm)
  | some x =>
    obtain ⟨hx, rfl⟩ := fM_some hm
    exact find_yes B b mb iv room last rs x hx w h
theorem tkG_good {w : World} {B b : Nat} {room last : Int} {rs : List Mg} (h : Nt w B b room last rs) (k : Int) : (tkG rs k).tx.size ≤ 400 := by
  obtain ⟨mb, iv, h⟩ := h
  unfold tkG
  cases hm : fM rs k with
  | none => exact Nat.zero_le _
  | some x =>
    have := h.good x (fM_some hm).1
    unfold mayG at this
    simp only [Bool.and_eq_true, decide_eq_true_eq] at this
    show x.tx.size ≤ 400
    omega
set_option maxRecDepth 100000 in
theorem nlose (B b : Nat) (room last : Int) (rs : List Mg) (k : Int) (hk : (Lit.int .i64 k).wf = true) (w : World) (hS : Nt w B b room last rs) :
    Calls Try.prog 17 #[.pointer (some ⟨b, 0, none⟩), .int .i64 k] w fun e w' => e = .returned (.int .i64 (tkE rs k)) ∧ Nt w' B b room last (tkL rs k) ∧ KN B w w' := by
  have ht := hide (ntake B b room last rs k hk w hS)
  generalize tkG rs k = x at *
  generalize tkE rs k = te at *
  generalize tkL rs k = tl at *
  clear hS hk
  go_enter Try.func17, Try.ntmps17
  go_wp2_with fail
  refine (unhide ht).mono ?_
  rintro e w1 ⟨rfl, n1, k1⟩
  have HZ := hide (heap_alloc_new w1 (.cells (gmC zM) 30))
  have HG := hide (newGm w1 zM x)
  have N1 := hide n1
  have K1 := hide k1
  clear n1 k1 ht
  go_wp2_with (refine wpList_store_row_to rfl 30 (.tmp 5) (.tmp 11) rfl w1.heap.size (gmC x) rfl rfl 30 (gmC zM) (unhide HZ) (gm_info x) rfl (gm_all x) (NewGm w1 x) (unhide HG) ?_)
  intro w2 h2
  have N2 := hide ((unhide N1).kept h2.be)
  have K2 := hide ((unhide K1).trans (KN.of_below h2.be))
  clear h2
  go_wp2
  go_ret
  exact ⟨rfl, unhide N2, unhide K2⟩
/-- Twice -/
def twI (room last : Int) (rs : List Mg) (k : Int) : Int := if (fM rs k).isSome then sndI room last rs (tkG rs k) else 0
def twE (room : Int) (rs : List Mg) (k : Int) : Int := if (fM rs k).isSome then sndE room rs (tkG rs k) else 4
def twT (room last : Int) (rs : List Mg) (k : Int) : Int := if (fM rs k).isSome then sndT room last rs (tkG rs k) else last
def twL (room last : Int) (rs : List Mg) (k : Int) : List Mg := if (fM rs k).isSome then sndL room last rs (tkG rs k) else rs
set_option maxRecDepth 100000 in
theorem ntwice (B b : Nat) (room last : Int) (rs : List Mg) (k : Int) (hk : (Lit.int .i64 k).wf = true) (hl : last < 1000000000) (w : World) (hS : Nt w B b room last rs) :
    Calls Try.prog 19 #[.pointer (some ⟨b, 0, none⟩), .int .i64 k] w fun e w' => e = .returned (.tuple #[.int .i64 (twI room last rs k), .int .i64 (twE room rs k)]) ∧ Nt w' B b room (twT room last rs k) (twL room last rs k) ∧ KN B w w' := by
  have ht := hide (nfind B b room last rs k hk w hS)
  have hsz := tkG_good hS k
  have hsd := hide (fun w' (h : Nt w' B b room last rs) => nsend B b room last rs (tkG rs k) w' h (by unfold maxLen; omega) hl)
  have HS := hide hS
  unfold twI twE twT twL
  cases hf : (fM rs k).isSome with
  | false =>
    have e4 : tkE rs k = 4 := by unfold tkE; rw [hf]; rfl
    rw [e4] at ht
    simp only [Bool.false_eq_true, if_false]
    generalize tkG rs k = x at *
    clear hS hk hl hsz hf e4 hsd
    go_enter Try.func19, Try.ntmps19
    go_wp2_with fail
    refine (unhide ht).mono ?_
    rintro e w1 ⟨rfl, b1⟩
    have HZ := hide (heap_alloc_new w1 (.cells (gmC zM) 30))
    have HG := hide (newGm w1 zM x)
    have B1 := hide b1
    clear b1 ht
    go_wp2_with (refine wpList_store_row_to rfl 30 (.tmp 6) (.tmp 12) rfl w1.heap.size (gmC x) rfl rfl 30 (gmC zM) (unhide HZ) (gm_info x) rfl (gm_all x) (NewGm w1 x) (unhide HG) ?_)
    intro w2 h2
    have B2 := hide ((unhide B1).trans (h2.be.mono (unhide B1).size))
    clear h2
    go_wp2
    go_ret2
    exact ⟨rfl, (unhide HS).kept (unhide B2), KN.of_below (unhide B2)⟩
  | true =>
    have e4 : tkE rs k = 0 := by unfold tkE; rw [hf]; rfl
    rw [e4] at ht
    simp only [if_true]
    generalize tkG rs k = x at *
    generalize sndI room last rs x = si at *
    generalize sndE room rs x = se at *
    generalize sndT room last rs x = st at *
    generalize sndL room last rs x = sl at *
    clear hS hk hl hsz hf e4
    go_enter Try.func19, Try.ntmps19
    go_wp2_with fail
    refine (unhide ht).mono ?_
    rintro e w1 ⟨rfl, b1⟩
    have HZ := hide (heap_alloc_new w1 (.cells (gmC zM) 30))
    have HG := hide (newGm w1 zM x)
    have B1 := hide b1
    have HI := hide (gm_info x)
    clear b1 ht
    go_wp2_with (refine wpList_store_row_to rfl 30 (.tmp 6) (.tmp 12) rfl w1.heap.size (gmC x) rfl rfl 30 (gmC zM) (unhide HZ) (gm_info x) rfl (gm_all x) (NewGm w1 x) (unhide HG) ?_)
    intro w2 h2
    have B2 := hide ((unhide B1).trans (h2.be.mono (unhide B1).size))
    obtain ⟨c0, c1, c2, cf⟩ := cells3 h2.blk
    clear h2
    go_wp2_with fail
    refine (unhide hsd w2 ((unhide HS).kept (unhide B2))).mono ?_
    rintro e w3 ⟨rfl, n3, k3⟩
    have N3 := hide n3
    have K3 := hide ((KN.of_below (unhide B2)).trans k3)
    clear n3 k3 hsd
    go_wp2
    go_ret2
    exact ⟨rfl, unhide N3, unhide K3⟩
theorem nnew (room : Int) (w : World) (h : 1 ≤ room ∧ room ≤ 600) : Calls Try.prog 7 #[.int .i64 room] w fun e w' => (∃ b, e = .returned (.pointer (some ⟨b, 0, none⟩)) ∧ Nt w' w.heap.size b room 0 []) ∧ Below w.heap.size w w' := by
  refine (nnew_any room w h).mono ?_
  rintro e w' ⟨⟨b, mb, rfl, h1⟩, h2⟩
  exact ⟨⟨b, rfl, mb, _, h1⟩, h2⟩
theorem nnth (B b : Nat) (room last : Int) (rs : List Mg) (i : Int) (hi : -9223372036854775808 ≤ i ∧ i ≤ 9223372036854775807) (w : World) (hS : Nt w B b room last rs) :
    Calls Try.prog 9 #[.pointer (some ⟨b, 0, none⟩), .int .i64 i] w fun e w' => e = .returned (.int .i64 (nthI rs i)) ∧ Below w.heap.size w w' := by
  obtain ⟨mb, iv, h⟩ := hS
  exact nth_any B b mb iv room last rs i hi w h
theorem nlen (B b : Nat) (room last : Int) (rs : List Mg) (w : World) (hS : Nt w B b room last rs) :
    Calls Try.prog 22 #[.pointer (some ⟨b, 0, none⟩)] w fun e w' => e = .returned (.int .i64 rs.length) ∧ w = w' := by
  obtain ⟨mb, iv, h⟩ := hS
  exact nlen_any B b mb iv room last rs w h
end Go.Proofs.Ytmnjngkdiinnfaa

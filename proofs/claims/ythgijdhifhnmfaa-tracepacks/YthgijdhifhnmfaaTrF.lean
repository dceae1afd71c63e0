/- trace: Pack. -/
import Derived.Test.YthgijdhifhnmfaaTrE
import Derived.Test.YthgijdhifhnmfaaOctWs
namespace Go.Proofs.Ythgijdhifhnmfaa
open Go.RowKit
set_option linter.unusedVariables false
attribute [local go_sem] Oper.semAt_some

abbrev Wr := List UInt8 × Int
/-- a writer behind an event more -/
def pkE (p : Wr) (e : Ev) : Wr := if e.k = 1 then wText (wNum (wNum p e.k 1) e.n 2) e.t.data.toList else wNum (wNum p e.k 1) e.n 2
def pk0 (n : Nat) : Wr := wNum (wRaw ([], 0) [116, 114, 99, 49]) n 2
def pkS (l : List Ev) (n : Nat) : Wr := l.foldl pkE (pk0 n)
theorem pk0_le (n : Nat) : (pk0 n).1.length ≤ 65536 := wNum_le (wRaw_le (by decide) _) _ _
theorem pkE_le {p : Wr} (h : p.1.length ≤ 65536) (e : Ev) : (pkE p e).1.length ≤ 65536 := by
  unfold pkE
  split
  · exact wText_le (wNum_le (wNum_le h _ _) _ _) _
  · exact wNum_le (wNum_le h _ _) _ _
theorem pkS_le (l : List Ev) (n : Nat) : (pkS l n).1.length ≤ 65536 := by
  unfold pkS
  have : ∀ (l : List Ev) (p : Wr), p.1.length ≤ 65536 → (l.foldl pkE p).1.length ≤ 65536 := by
    intro l
    induction l with
    | nil => intro p h; exact h
    | cons x l ih => intro p h; exact ih _ (pkE_le h x)
  exact this l _ (pk0_le n)
theorem pkS_snoc (l : List Ev) (e : Ev) (n : Nat) : pkS (l ++ [e]) n = pkE (pkS l n) e := by
  unfold pkS
  rw [List.foldl_append]
  rfl
/-- Pack in its midst -/
structure PkI (w : World) (b : Nat) (p : Wr) (wr : World) : Prop where
  wt : WriterAt wr b (b + 1) p.1 p.2
  be : Below w.heap.size w wr
  lt : b + 1 ≤ wr.heap.size
theorem PkI.up {w : World} {b : Nat} {p : Wr} {x y : World} (h : PkI w b p x) (hb : Below x.heap.size x y) : PkI w b p y :=
  ⟨h.wt.below hb, h.be.trans (hb.mono h.be.size), Nat.le_trans h.lt hb.size⟩
theorem PkI.kept {w : World} {b : Nat} {p q : Wr} {x y : World} (h : PkI w b p x) (hw : w.heap.size ≤ b) (hq : WriterAt y b (b + 1) q.1 q.2) (k : Kept (b + 1) b x y) : PkI w b q y :=
  ⟨hq, h.be.trans (k.below _ (by omega) hw), Nat.le_trans h.lt k.size⟩
set_option maxRecDepth 100000 in
theorem pack_bad (a0 : Option Addr) (l : List Ev) (c : Nat) (w : World) (hl : EvsAt w a0 l) (hm : l.length ≤ 100000) (hc : chkB l = false) :
    Calls Try.prog 8 #[.slice a0 l.length c] w fun e w' => e = .returned (.tuple #[.string ⟨#[]⟩, .int .i64 1]) ∧ Below w.heap.size w w' := by
  have h1 := hide (tcheck_any a0 l c w hl hm)
  rw [hc] at h1
  generalize l.length = n at *
  clear hl hc
  go_enter Try.func8, Try.ntmps8
  go_wp2_with fail
  refine (unhide h1).mono ?_
  rintro e w1 ⟨rfl, b1⟩
  have HB1 := hide b1
  clear b1
  go_wp2
  go_ret2
  exact ⟨rfl, unhide HB1⟩
set_option maxRecDepth 100000 in
set_option maxHeartbeats 4000000 in
theorem pack_any (a0 : Option Addr) (l : List Ev) (c : Nat) (w : World) (hl : EvsAt w a0 l) (hm : l.length ≤ 100000) (hc : chkB l = true) :
    Calls Try.prog 8 #[.slice a0 l.length c] w fun e w' => e = .returned (.tuple #[.string (if (pkS l l.length).2 = 0 then ⟨(pkS l l.length).1.toArray⟩ else ⟨#[]⟩), .int .i64 (pkS l l.length).2]) ∧ Below w.heap.size w w' := by
  have h1 := hide (tcheck_any a0 l c w hl hm)
  rw [hc] at h1
  have HL := hide hl
  have HMay : Hid (∀ e ∈ l, mayB e = true) := by
    unfold chkB at hc
    simp at hc
    exact hc.2
  obtain ⟨n, hn⟩ : ∃ n, n = l.length := ⟨_, rfl⟩
  rw [← hn] at hm h1 ⊢
  have HN := hide hn
  obtain ⟨Z, hZ⟩ : ∃ Z, Z = pkS l n := ⟨_, rfl⟩
  rw [← hZ]
  have HZ := hide hZ
  obtain ⟨S, hS⟩ : ∃ S, S = (if Z.2 = 0 then (⟨Z.1.toArray⟩ : ByteArray) else ⟨#[]⟩) := ⟨_, rfl⟩
  obtain ⟨E, hE⟩ : ∃ E, E = Z.2 := ⟨_, rfl⟩
  rw [← hS, ← hE]
  have HSS := hide hS
  have HEE := hide hE
  clear hl hc hn hZ hS hE
  go_enter Try.func8, Try.ntmps8
  go_wp2_with fail
  refine (unhide h1).mono ?_
  rintro e w1 ⟨rfl, b1⟩
  have HB1 := hide b1
  have hsz1 := b1.size
  clear b1 h1
  go_wp2_with fail
  refine (to_any w1).mono ?_
  rintro e w2 ⟨rfl, hw2, hal⟩
  obtain ⟨b, hb⟩ : ∃ b, b = w1.heap.size := ⟨_, rfl⟩
  have hs2 : w2.heap.size = b + 1 := by rw [hal, hb]; simp
  have HI2 : Hid (PkI w b ([], 0) w2) := ⟨by rw [hb]; exact hw2 (w1.heap.size + 1) (by omega), (unhide HB1).trans (by rw [hal]; exact (Below.refl _ _).alloc hsz1 _), by omega⟩
  rw [← hb]
  have hwb : w.heap.size ≤ b := by omega
  have HWB := hide hwb
  clear hw2 hal HB1 hs2 hb hsz1 hwb
  go_wp2_with fail
  refine (wraw_s w2 b (b + 1) [] 0 ⟨#[116, 114, 99, 49]⟩ (by decide) (by decide) (unhide HI2).lt (by omega) (unhide HI2).wt).mono ?_
  rintro e w3 ⟨rfl, t3, k3, _⟩
  have HI3 : Hid (PkI w b (wRaw ([], 0) [116, 114, 99, 49]) w3) := (unhide HI2).kept (unhide HWB) t3 k3
  clear t3 k3 HI2
  go_wp2_with fail
  refine (wnum_s w3 b (b + 1) _ _ n 2 (wRaw_le (by decide) _) (unhide HI3).lt (by omega) (unhide HI3).wt).mono ?_
  rintro e w4 ⟨rfl, t4, k4, _⟩
  have HI4 : Hid (PkI w b (pk0 n) w4) := (unhide HI3).kept (unhide HWB) t4 k4
  clear t4 k4 HI3
  go_wp2_with fail
  go_loopw [19] (fun v wr => ∃ k : Nat, k ≤ n ∧ v = .int .i64 k ∧ PkI w b (pkS (l.take k) n) wr) (fun v _ => n - (intOf v).toNat)
  case atStart => exact ⟨0, by omega, rfl, unhide HI4⟩
  case round =>
    clear HI4
    obtain ⟨k, hk, rfl, hI⟩ := hrel
    have HI := hide hI
    clear hI
    by_cases hlt : k < n
    · have hlt' : k < l.length := by rw [← unhide HN]; exact hlt
      obtain ⟨e, he⟩ : ∃ e, e = l[k] := ⟨_, rfl⟩
      obtain ⟨g, o, rfl, d0, d1, d2⟩ := unhide HL k e (by rw [he]; exact List.getElem?_eq_getElem hlt')
      have c0 := cell_below d0 (unhide HI).be
      have c1 := cell_below d1 (unhide HI).be
      have c2 := cell_below d2 (unhide HI).be
      have HE : Hid (pkS (l.take (k + 1)) n = pkE (pkS (l.take k) n) e) := by
        show _ = _
        rw [List.take_succ_eq_append_getElem hlt', ← he, pkS_snoc]
      have hmay := unhide HMay e (by rw [he]; exact List.getElem_mem _)
      have q1 : (k : Int) < n := by omega
      clear he hlt' d0 d1 d2
      obtain ⟨ek, en, et⟩ := e
      dsimp only at c0 c1 c2
      obtain ⟨W5, hW5⟩ : ∃ W5, W5 = wr.alloc (.cells #[.int .i64 ek, .int .i64 en, .string et] 47) := ⟨_, rfl⟩
      have HI5 : Hid (PkI w b (pkS (l.take k) n) W5) := by rw [hW5]; exact (unhide HI).up ((Below.refl _ _).alloc (Nat.le_refl _) _)
      have HX5 : Hid (W5.heap[wr.heap.size]? = some (.cells #[.int .i64 ek, .int .i64 en, .string et] 47 (0, 0))) := by rw [hW5]; exact heap_alloc_new wr _
      have hxb : wr.heap.size ≠ b := by have := (unhide HI).lt; omega
      have HP := hide (pkS_le (l.take k) n)
      generalize pkS (l.take k) n = P at *
      have hn1 := hide (wnum_s W5 b (b + 1) P.1 P.2 ek 1 (unhide HP) (unhide HI5).lt (by omega) (unhide HI5).wt)
      rw [hW5] at hn1
      go_wp2_with fail
      refine (unhide hn1).mono ?_
      rintro e w6 ⟨rfl, t6, k6, s6⟩
      rw [← hW5] at k6 s6
      have HI6 : Hid (PkI w b (wNum P ek 1) w6) := (unhide HI5).kept (unhide HWB) t6 k6
      have HX6 := hide (s6 _ _ _ _ hxb (by decide) (unhide HX5))
      have HP6 := hide (wNum_le (p := P) (unhide HP) ek 1)
      have x60 : w6.cell? ⟨wr.heap.size, 0, none⟩ = some (.int .i64 ek) := by rw [cell_of_row _ _ _ _ _ _ (unhide HX6)]; rfl
      have x61 : w6.cell? ⟨wr.heap.size, 1, none⟩ = some (.int .i64 en) := by rw [cell_of_row _ _ _ _ _ _ (unhide HX6)]; rfl
      clear t6 k6 s6 hn1 HI5 HX5 hW5 c0 c1 c2
      go_wp2_with fail
      refine (wnum_s w6 b (b + 1) _ _ en 2 (unhide HP6) (unhide HI6).lt (by omega) (unhide HI6).wt).mono ?_
      rintro e w7 ⟨rfl, t7, k7, s7⟩
      have HI7 : Hid (PkI w b (wNum (wNum P ek 1) en 2) w7) := (unhide HI6).kept (unhide HWB) t7 k7
      have HX7 := hide (s7 _ _ _ _ hxb (by decide) (unhide HX6))
      have HP7 := hide (wNum_le (unhide HP6) en 2)
      have x70 : w7.cell? ⟨wr.heap.size, 0, none⟩ = some (.int .i64 ek) := by rw [cell_of_row _ _ _ _ _ _ (unhide HX7)]; rfl
      have x72 : w7.cell? ⟨wr.heap.size, 2, none⟩ = some (.string et) := by rw [cell_of_row _ _ _ _ _ _ (unhide HX7)]; rfl
      clear t7 k7 s7 HI6 HX6 HP6 x60 x61 HX7
      by_cases hk1 : ek = 1
      · subst hk1
        have hts : et.size ≤ maxLen := by
          unfold mayB at hmay
          simp at hmay
          unfold maxLen
          omega
        have HF : Hid (∀ y, PkI w b (wText (wNum (wNum P 1 1) en 2) et.data.toList) y → PkI w b (pkS (l.take (k + 1)) n) y) := fun y hy => by
          rw [unhide HE]
          unfold pkE
          rw [if_pos rfl]
          exact hy
        clear hmay
        go_wp2_with fail
        refine (wtext_s w7 b (b + 1) _ _ et hts (unhide HP7) (unhide HI7).lt (by omega) (unhide HI7).wt).mono ?_
        rintro e w8 ⟨rfl, t8, k8, _⟩
        have HI8 := hide (unhide HF w8 ((unhide HI7).kept (unhide HWB) t8 k8))
        clear t8 k8 HI7 HP7 x70 x72
        go_wp2
        go_roundw
        case rel => exact ⟨k + 1, by omega, by go_num, unhide HI8⟩
        case measure => simp [intOf]; omega
      · have hk1' : (ek == 1) = false := by simp [hk1]
        have HI8 : Hid (PkI w b (pkS (l.take (k + 1)) n) w7) := by
          rw [unhide HE]
          unfold pkE
          rw [if_neg hk1]
          exact unhide HI7
        clear hmay HI7 HP7 HE
        go_wp2
        go_roundw
        case rel => exact ⟨k + 1, by omega, by go_num, unhide HI8⟩
        case measure => simp [intOf]; omega
    · have hkn : k = n := by omega
      have q1 : ¬ (k : Int) < n := by omega
      have HF : Hid (PkI w b Z wr) := by
        have h1 := unhide HI
        rw [hkn, unhide HN, List.take_length, ← unhide HN, ← unhide HZ] at h1
        exact h1
      have HBY := hide (bytes_any wr b (b + 1) Z.1 Z.2 (unhide HF).wt)
      have HBE := hide (unhide HF).be
      clear hkn HI HF
      rw [← unhide HSS, ← unhide HEE] at HBY
      go_wp2_with fail
      refine (unhide HBY).mono ?_
      rintro e w9 ⟨rfl, nn, hw9⟩
      have HB9 : Hid (Below w.heap.size w w9) := by
        rw [hw9]
        exact ⟨(unhide HBE).os, (unhide HBE).tape, (unhide HBE).output, (unhide HBE).size, (unhide HBE).block⟩
      clear hw9
      go_wp2
      go_ret2
      exact ⟨rfl, unhide HB9⟩
end Go.Proofs.Ythgijdhifhnmfaa

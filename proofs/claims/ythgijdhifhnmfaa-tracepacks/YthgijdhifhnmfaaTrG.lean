/- trace: Unpack. -/
import Derived.Test.YthgijdhifhnmfaaTrE
import Derived.Test.YthgijdhifhnmfaaOctR
import Derived.ScopeJumps
namespace Go.Proofs.Ythgijdhifhnmfaa
open Go.RowKit
set_option linter.unusedVariables false
attribute [local go_sem] Oper.semAt_some

abbrev Rd := ByteArray × Int
/-- what is read of an event -/
def upE (p : Rd) : Option Ev × Rd :=
  if (num p 1).1 = 1 then (some ⟨1, (num (num p 1).2 2).1, (text (num (num p 1).2 2).2).1⟩, (text (num (num p 1).2 2).2).2) else
  if (num p 1).1 = 2 ∨ (num p 1).1 = 3 then (some ⟨(num p 1).1, (num (num p 1).2 2).1, ⟨#[]⟩⟩, (num (num p 1).2 2).2) else (none, (num (num p 1).2 2).2)
def ups (p0 : Rd) : Nat → Option (List Ev × Rd)
  | 0 => some ([], p0)
  | k + 1 => match ups p0 k with
    | none => none
    | some x => match (upE x.2).1 with
      | some e => some (x.1 ++ [e], (upE x.2).2)
      | none => none
theorem ups_step {p0 : Rd} {k : Nat} {l : List Ev} {p : Rd} (h : ups p0 k = some (l, p)) : ups p0 (k + 1) = match (upE p).1 with | some e => some (l ++ [e], (upE p).2) | none => none := by
  show (match ups p0 k with | none => none | some x => match (upE x.2).1 with | some e => some (x.1 ++ [e], (upE x.2).2) | none => none) = _
  rw [h]
theorem ups_none {p0 : Rd} {k : Nat} (h : ups p0 k = none) : ∀ m, ups p0 (k + m) = none := by
  intro m
  induction m with
  | zero => exact h
  | succ m ih =>
    show (match ups p0 (k + m) with | none => none | some x => match (upE x.2).1 with | some e => some (x.1 ++ [e], (upE x.2).2) | none => none) = none
    rw [ih]
theorem num_bounds (p : Rd) (n : Int) (hn : n = 1 ∨ n = 2) : 0 ≤ (num p n).1 ∧ (num p n).1 ≤ 65535 := by
  unfold num
  split
  · exact ⟨Int.le_refl 0, by show (0 : Int) ≤ 65535; omega⟩
  · split
    · exact ⟨Int.le_refl 0, by show (0 : Int) ≤ 65535; omega⟩
    · have hs : (raw p n).1.data.toList.length ≤ 2 := by
        have : (raw p n).1.size ≤ n.toNat := by
          unfold raw
          have e0 : (⟨#[]⟩ : ByteArray).size = 0 := rfl
          split
          · rw [e0]; omega
          · split
            · rw [e0]; omega
            · split
              · rw [e0]; omega
              · simp [ByteArray.size_extract]
                omega
        simp
        have : (raw p n).1.size ≤ 2 := by omega
        exact this
      have h1 := getV_bounds (raw p n).1.data.toList
      have h2 : (256 : Int) ^ (raw p n).1.data.toList.length ≤ 256 ^ 2 := pow256_le hs
      exact ⟨h1.1, by omega⟩
theorem ownEv_keep {T : TypeId} {w w' : World} {B : Nat} {v : Value} {l : List Ev} (h : OwnEv T w B v l) (hk : ∀ k, v.ownBlock = some k → w'.heap[k]? = w.heap[k]?) : OwnEv T w' B v l := by
  refine ⟨h.1, ?_⟩
  rcases h.2 with h1 | ⟨g, cap, cur, h1, h2, h3, h4⟩
  · exact .inl h1
  · exact .inr ⟨g, cap, cur, h1, h2, (hk g (by rw [h1]; rfl)).trans h3, h4⟩
theorem OwnEv.lt {T : TypeId} {w : World} {B : Nat} {v : Value} {l : List Ev} (h : OwnEv T w B v l) (k : Nat) (hk : v.ownBlock = some k) : B ≤ k ∧ k < w.heap.size := by
  rcases h.2 with ⟨h1, _⟩ | ⟨g, cap, cur, h1, h2, h3, _⟩
  · rw [h1] at hk; cases hk
  · rw [h1] at hk
    simp [Value.ownBlock] at hk
    subst hk
    exact ⟨h2, lt_of_block h3⟩
/-- Unpack in its midst: its reader, and the events so far -/
structure UnI (w : World) (b : Nat) (p : Rd) (v : Value) (l : List Ev) (wr : World) : Prop where
  rd : RdAt wr b p
  own : OwnEv 47 wr (b + 1) v l
  be : Below w.heap.size w wr
  wb : w.heap.size ≤ b
  ps : p.1.size ≤ maxLen
theorem UnI.up {w : World} {b : Nat} {p : Rd} {v : Value} {l : List Ev} {x y : World} (h : UnI w b p v l x) (hb : Below x.heap.size x y) : UnI w b p v l y :=
  ⟨(hb.block b (lt_of_block h.rd)).trans h.rd, ownEv_keep h.own (fun k hk => hb.block k (h.own.lt k hk).2), h.be.trans (hb.mono h.be.size), h.wb, h.ps⟩
theorem UnI.read {w : World} {b : Nat} {p q : Rd} {v : Value} {l : List Ev} {x y : World} (h : UnI w b p v l x) (hq : RdAt y b q) (k : Kept x.heap.size b x y) (hs : q.1.size ≤ p.1.size) : UnI w b q v l y :=
  ⟨hq, ownEv_keep h.own (fun j hj => k.block j (h.own.lt j hj).2 (by have := (h.own.lt j hj).1; omega)), h.be.trans (k.below _ h.be.size h.wb), h.wb, Nat.le_trans hs h.ps⟩
theorem UnI.set {w : World} {b : Nat} {p : Rd} {v : Value} {l : List Ev} {x : World} (h : UnI w b p v l x) (X j : Nat) (u : Value) (hX : w.heap.size ≤ X) (hb : X ≠ b) (hv : v.ownBlock ≠ some X) : UnI w b p v l (x.setCell ⟨X, j, none⟩ u) :=
  ⟨(Below.heap_setCell _ _ _ _ (fun e => hb e.symm)).trans h.rd, ownEv_keep h.own (fun k hk => Below.heap_setCell _ _ _ _ (fun e => hv (by rw [hk, e]))), ⟨h.be.os, h.be.tape, h.be.output, by simpa using h.be.size, fun i hi => (Below.heap_setCell _ _ _ _ (by show i ≠ X; omega)).trans (h.be.block i hi)⟩, h.wb, h.ps⟩
/-- does it begin so? -/
def begB (s : ByteArray) : Bool := (raw (s, 0) 4).1.toList == [116, 114, 99, 49]
def cnt (s : ByteArray) : Int × Rd := num (raw (s, 0) 4).2 2
/-- which events bytes tell -/
def unp (s : ByteArray) : Option (List Ev) := match ups (cnt s).2 (cnt s).1.toNat with
  | none => none
  | some x => if begB s = true ∧ atEnd x.2 = 0 ∧ chkB x.1 = true then some x.1 else none
def unE (s : ByteArray) : Int := match unp s with | some _ => 0 | none => 3
/-- what Unpack answers -/
structure UnR (w : World) (s : ByteArray) (v : Value) (w' : World) : Prop where
  own : OwnEv 47 w' w.heap.size v ((unp s).getD [])
  be : Below w.heap.size w w'
set_option maxRecDepth 100000 in
set_option maxHeartbeats 4000000 in
theorem unpack_any (s : ByteArray) (w : World) (hs : s.size ≤ maxLen) :
    Calls Try.prog 11 #[.string s] w fun e w' => ∃ v, e = .returned (.tuple #[v, .int .i64 (unE s)]) ∧ UnR w s v w' := by
  obtain ⟨i0, hi, hz0, hz1, hz2⟩ := info_parts Try.infoEv
  have HF := hide (from_any s w)
  obtain ⟨b, hb⟩ : ∃ b, b = w.heap.size := ⟨_, rfl⟩
  have HS := hide hs
  have HBW := hide hb
  clear hs hb
  go_enter Try.func11, Try.ntmps11
  go_wp2_with fail
  refine wp_scope_jumps 0 (fun _ _ => False) (fun _ _ => 0) rfl ?_ (fun _ _ h => h.elim)
  go_wp2_with fail
  refine (unhide HF).mono ?_
  rintro e w1 ⟨rfl, r1, hw1⟩
  have HI1 : Hid (UnI w b (s, 0) (.slice none 0 0) [] w1) := ⟨by rw [unhide HBW]; exact r1, World.ownsRow_nil _ _ _ _, by rw [hw1]; exact (Below.refl _ _).alloc (Nat.le_refl _) _, by rw [unhide HBW]; exact Nat.le_refl _, unhide HS⟩
  rw [← unhide HBW]
  clear r1 hw1 HF
  go_wp2_with fail
  refine (rraw_any w1 b (s, 0) 4 (unhide HS) (unhide HI1).rd).mono ?_
  rintro e w2 ⟨rfl, r2, k2⟩
  have HI2 := hide ((unhide HI1).read r2 k2 (raw_le (s, 0) 4).2)
  obtain ⟨bg, hbg⟩ : ∃ bg, bg = begB s := ⟨_, rfl⟩
  have hbg' : ((raw (s, 0) 4).1.toList == [116, 114, 99, 49]) = bg := by rw [hbg]; rfl
  have HBG := hide hbg
  have hnum := hide (rnum_any w2 b (raw (s, 0) 4).2 2 (unhide HI2).ps (unhide HI2).rd)
  have HC : Hid (num (raw (s, 0) 4).2 2 = cnt s) := rfl
  generalize (raw (s, 0) 4).1 = A at *
  clear r2 k2 HI1 hbg
  go_wp2_with fail
  clear hbg'
  refine (unhide hnum).mono ?_
  rintro e w3 ⟨rfl, r3, k3⟩
  have hle3 := num_le (raw (s, 0) 4).2 2
  rw [unhide HC] at r3 hle3 ⊢
  have HI3 := hide ((unhide HI2).read r3 k3 hle3)
  have hcb : 0 ≤ (cnt s).1 ∧ (cnt s).1 ≤ 65535 := by rw [← unhide HC]; exact num_bounds _ _ (.inr rfl)
  obtain ⟨n, hn⟩ : ∃ n : Nat, (cnt s).1 = n := ⟨(cnt s).1.toNat, by omega⟩
  have hn16 : n ≤ 65535 := by omega
  obtain ⟨P0, hP0⟩ : ∃ P0, P0 = (cnt s).2 := ⟨_, rfl⟩
  rw [← hP0] at HI3
  rw [hn]
  have HCN := hide hn
  have HP0 := hide hP0
  clear r3 k3 hle3 HI2 hcb hn hP0 hnum HC
  go_wp2_with fail
  go_step3
  go_wp2_with fail
  go_loopw [4, 17] (fun lv kv wr => ∃ (k : Nat) (a : Option Addr) (c : Nat) (l : List Ev) (p : Rd), k ≤ n ∧ kv = .int .i64 k ∧ lv = .slice a k c ∧ l.length = k ∧ ups P0 k = some (l, p) ∧ UnI w b p lv l wr) (fun _ kv _ => n - (intOf kv).toNat)
  case atStart => exact ⟨0, none, 0, [], P0, by omega, rfl, rfl, rfl, rfl, unhide HI3⟩
  case round =>
    clear HI3
    obtain ⟨k, a, c2, l, p, hk, rfl, rfl, hlk, hups, hI⟩ := hrel
    have HI := hide hI
    have HLK := hide hlk
    have HUPS := hide hups
    clear hI hlk hups
    by_cases hlt : k < n
    · have q1 : (k : Int) < n := by omega
      have hnum1 := hide (rnum_any wr b p 1 (unhide HI).ps (unhide HI).rd)
      go_wp2_with fail
      refine (unhide hnum1).mono ?_
      rintro e w5 ⟨rfl, r5, k5⟩
      obtain ⟨ek, hek⟩ : ∃ ek, ek = (num p 1).1 := ⟨_, rfl⟩
      obtain ⟨p1, hp1⟩ : ∃ p1, p1 = (num p 1).2 := ⟨_, rfl⟩
      have hle5 := num_le p 1
      rw [← hp1] at r5 hle5
      rw [← hek]
      have HU5 := hide ((unhide HI).read r5 k5 hle5)
      obtain ⟨X, hX⟩ : ∃ X, X = w5.heap.size := ⟨_, rfl⟩
      have hXw : w.heap.size ≤ X := by rw [hX]; exact (unhide HU5).be.size
      have hXb : X ≠ b := by have := lt_of_block (unhide HU5).rd; omega
      have hXv : Value.ownBlock (.slice a k c2) ≠ some X := fun e => by have := ((unhide HU5).own.lt X e).2; omega
      have HU6 := hide ((unhide HU5).up ((Below.refl _ _).alloc (Nat.le_refl _) (.cells #[.int .i64 ek, .int .i64 0, .string ⟨#[]⟩] 47)))
      have HX6 : Hid ((w5.alloc (.cells #[.int .i64 ek, .int .i64 0, .string ⟨#[]⟩] 47)).heap[X]? = some (.cells #[.int .i64 ek, .int .i64 0, .string ⟨#[]⟩] 47 (0, 0))) := by rw [hX]; exact heap_alloc_new w5 _
      have HEK := hide hek
      have HP1 := hide hp1
      clear r5 k5 hle5 hnum1 hek hp1 HI HU5
      go_wp2_with fail
      rw [← hX]
      clear hX
      generalize w5.alloc (.cells #[.int .i64 ek, .int .i64 0, .string ⟨#[]⟩] 47) = W6 at *
      refine (rnum_any W6 b p1 2 (unhide HU6).ps (unhide HU6).rd).mono ?_
      rintro e w7 ⟨rfl, r7, k7⟩
      obtain ⟨en, hen⟩ : ∃ en, en = (num p1 2).1 := ⟨_, rfl⟩
      obtain ⟨p2, hp2⟩ : ∃ p2, p2 = (num p1 2).2 := ⟨_, rfl⟩
      have hle7 := num_le p1 2
      rw [← hp2] at r7 hle7
      rw [← hen]
      have HU7 := hide ((unhide HU6).read r7 k7 hle7)
      have HX7 := hide ((k7.block X (lt_of_block (unhide HX6)) hXb).trans (unhide HX6))
      have y0 : w7.cell? ⟨X, 0, none⟩ = some (.int .i64 ek) := by rw [cell_of_row _ _ _ _ _ _ (unhide HX7)]; rfl
      have y1 : w7.cell? ⟨X, 1, none⟩ = some (.int .i64 0) := by rw [cell_of_row _ _ _ _ _ _ (unhide HX7)]; rfl
      have y2 : w7.cell? ⟨X, 2, none⟩ = some (.string ⟨#[]⟩) := by rw [cell_of_row _ _ _ _ _ _ (unhide HX7)]; rfl
      have yf : w7.frozen? ⟨X, 1, none⟩ = false := by simp [World.frozen?, unhide HX7]
      have HU8 := hide ((unhide HU7).set X 1 (.int .i64 en) hXw hXb hXv)
      have HX8 : Hid ((w7.setCell ⟨X, 1, none⟩ (.int .i64 en)).heap[X]? = some (.cells #[.int .i64 ek, .int .i64 en, .string ⟨#[]⟩] 47 (0, 0))) := heap_setCell_same w7 X 1 _ _ _ (unhide HX7)
      have HEN := hide hen
      have HP2 := hide hp2
      clear r7 k7 hle7 hen hp2 HU6 HX6 HU7 HX7
      by_cases h1 : ek = 1
      · subst h1
        go_wp2_with fail
        obtain ⟨W8, hW8⟩ : ∃ W8, W8 = w7.setCell ⟨X, 1, none⟩ (.int .i64 en) := ⟨_, rfl⟩
        rw [← hW8]
        rw [← hW8] at HU8 HX8
        clear hW8
        refine (rtext_any W8 b p2 (unhide HU8).ps (unhide HU8).rd).mono ?_
        rintro e w9 ⟨rfl, r9, k9⟩
        obtain ⟨t, ht⟩ : ∃ t, t = (text p2).1 := ⟨_, rfl⟩
        obtain ⟨q, hq⟩ : ∃ q, q = (text p2).2 := ⟨_, rfl⟩
        have hle : (text p2).2.1.size ≤ p2.1.size := Nat.le_trans (raw_le _ _).2 (num_le _ _)
        rw [← hq] at r9 hle
        rw [← ht]
        have HU9 := hide ((unhide HU8).read r9 k9 hle)
        have HX9 := hide ((k9.block X (lt_of_block (unhide HX8)) hXb).trans (unhide HX8))
        have x0 : w9.cell? ⟨X, 0, none⟩ = some (.int .i64 1) := by rw [cell_of_row _ _ _ _ _ _ (unhide HX9)]; rfl
        have x1 : w9.cell? ⟨X, 1, none⟩ = some (.int .i64 en) := by rw [cell_of_row _ _ _ _ _ _ (unhide HX9)]; rfl
        have x2 : w9.cell? ⟨X, 2, none⟩ = some (.string ⟨#[]⟩) := by rw [cell_of_row _ _ _ _ _ _ (unhide HX9)]; rfl
        have xf : w9.frozen? ⟨X, 2, none⟩ = false := by simp [World.frozen?, unhide HX9]
        have HU10 := hide ((unhide HU9).set X 2 (.string t) hXw hXb hXv)
        have HUP : Hid (ups P0 (k + 1) = some (l ++ [⟨1, en, t⟩], q)) := by
          show _ = _
          rw [ups_step (unhide HUPS)]
          unfold upE
          rw [← unhide HEK, if_pos rfl, ← unhide HP1, ← unhide HEN, ← unhide HP2, ← ht, ← hq]
        clear r9 k9 hle HU8 HX8 HU9 HX9 hq ht y0 y1 y2 yf
        have HSZ : Hid ((w9.setCell ⟨X, 2, none⟩ (.string t)).heap.size = w9.heap.size) := by
          show _ = _
          simp
        have HO : Hid ((w9.setCell ⟨X, 2, none⟩ (.string t)).ownsRow (b + 1) 47 3 (.slice a k c2) k (evC l)) := by
          have := (unhide HU10).own
          unfold OwnEv at this
          rw [unhide HLK] at this
          exact this
        have HNW : Hid (∀ j u, [Value.int .i64 1, .int .i64 en, .string t][j]? = some u → ((w9.setCell ⟨X, 2, none⟩ (.string t)).alloc (.cells #[.int .i64 1, .int .i64 en, .string t] 47)).cell? ((⟨w9.heap.size, 0, none⟩ : Addr).add j) = some u) := by
          have := World.news_of_block (heap_alloc_new (w9.setCell ⟨X, 2, none⟩ (.string t)) (.cells #[.int .i64 1, .int .i64 en, .string t] 47))
          rw [unhide HSZ] at this
          exact this
        have hb1 : b + 1 ≤ w9.heap.size := by
          have h1 := lt_of_block (unhide HU10).rd
          rw [unhide HSZ] at h1
          omega
        go_wp2_with (refine wpList_append_lies _ rfl (.tmp 35) (.tmp 37) 22 rfl (b + 1) 47 i0 (.agg #[.int .i64 0, .int .i64 0, .string ⟨#[]⟩]) 3 32 Try.undEv hi hz0 hz1 hz2 rfl (by decide) (.slice a k c2) k _ (by rfl) ((unhide HO).alloc _) ⟨w9.heap.size, 0, none⟩ 1 1 [.int .i64 1, .int .i64 en, .string t] (by rfl) (by rfl) (unhide HNW) (Ev.one ⟨1, en, t⟩) (by decide) (by unfold maxLen; omega) (by omega) (by simp; omega) _ rfl ?_)
        intro g2 cap2 wz hown hgrow hat hlt2
        have HF : Hid (UnI w b q (.slice (some ⟨g2, 0, none⟩) (k + 1) cap2) (l ++ [⟨1, en, t⟩]) wz) := by
          have hu := (unhide HU10).up ((Below.refl _ _).alloc (Nat.le_refl _) (.cells #[.int .i64 1, .int .i64 en, .string t] 47))
          have hkeep : ∀ x, x < (w9.setCell ⟨X, 2, none⟩ (.string t)).heap.size → Value.ownBlock (.slice a k c2) ≠ some x → wz.heap[x]? = (w9.setCell ⟨X, 2, none⟩ (.string t)).heap[x]? := fun x hx hne => (hgrow.block x (by simp; rw [unhide HSZ] at hx; omega) (fun e => hne e.symm)).trans (Below.heap_alloc _ _ _ hx)
          have hltb := lt_of_block (unhide HU10).rd
          have hown0 := (unhide HU10).own
          refine ⟨(hkeep b hltb (fun e => by have := (hown0.lt b e).1; omega)).trans (unhide HU10).rd, ?_, hu.be.grown hgrow (by have := hu.be.size; exact this) (fun z hz => by have := (hown0.lt z hz).1; have := (unhide HU10).wb; omega), (unhide HU10).wb, (unhide HU10).ps⟩
          unfold OwnEv
          rw [evC_append, List.length_append, unhide HLK]
          exact hown
        have HU2 := hide (unhide HUP)
        have HL2 : Hid ((l ++ [(⟨1, en, t⟩ : Ev)]).length = k + 1) := by
          show _ = _
          rw [List.length_append, unhide HLK]
          rfl
        clear hown hgrow hat hlt2 HO HNW HSZ HU10 hb1
        go_wp2
        go_roundw
        case rel => exact ⟨k + 1, _, _, l ++ [⟨1, en, t⟩], q, by omega, by go_num, rfl, unhide HL2, unhide HU2, unhide HF⟩
        case measure => simp [intOf]; omega
      · by_cases h23 : ek = 2 ∨ ek = 3
        · have HUP : Hid (ups P0 (k + 1) = some (l ++ [⟨ek, en, ⟨#[]⟩⟩], p2)) := by
            show _ = _
            rw [ups_step (unhide HUPS)]
            unfold upE
            rw [← unhide HEK, if_neg h1, if_pos h23, ← unhide HP1, ← unhide HEN, ← unhide HP2]
          obtain ⟨q, hq⟩ : ∃ q, q = p2 := ⟨_, rfl⟩
          rw [← hq] at HUP HU8
          clear hq HX8
          rcases h23 with h2 | h2
          · subst h2
            clear h1
            have HSZ : Hid ((w7.setCell ⟨X, 1, none⟩ (.int .i64 en)).heap.size = w7.heap.size) := by
              show _ = _
              simp
            have HO : Hid ((w7.setCell ⟨X, 1, none⟩ (.int .i64 en)).ownsRow (b + 1) 47 3 (.slice a k c2) k (evC l)) := by
              have := (unhide HU8).own
              unfold OwnEv at this
              rw [unhide HLK] at this
              exact this
            have HNW : Hid (∀ j u, [Value.int .i64 2, .int .i64 en, .string ⟨#[]⟩][j]? = some u → ((w7.setCell ⟨X, 1, none⟩ (.int .i64 en)).alloc (.cells #[.int .i64 2, .int .i64 en, .string ⟨#[]⟩] 47)).cell? ((⟨w7.heap.size, 0, none⟩ : Addr).add j) = some u) := by
              have := World.news_of_block (heap_alloc_new (w7.setCell ⟨X, 1, none⟩ (.int .i64 en)) (.cells #[.int .i64 2, .int .i64 en, .string ⟨#[]⟩] 47))
              rw [unhide HSZ] at this
              exact this
            have hb1 : b + 1 ≤ w7.heap.size := by
              have h1 := lt_of_block (unhide HU8).rd
              rw [unhide HSZ] at h1
              omega
            go_wp2_with (refine wpList_append_lies _ rfl (.tmp 35) (.tmp 37) 22 rfl (b + 1) 47 i0 (.agg #[.int .i64 0, .int .i64 0, .string ⟨#[]⟩]) 3 32 Try.undEv hi hz0 hz1 hz2 rfl (by decide) (.slice a k c2) k _ (by rfl) ((unhide HO).alloc _) ⟨w7.heap.size, 0, none⟩ 1 1 [.int .i64 2, .int .i64 en, .string ⟨#[]⟩] (by rfl) (by rfl) (unhide HNW) (Ev.one ⟨2, en, ⟨#[]⟩⟩) (by decide) (by unfold maxLen; omega) (by omega) (by simp; omega) _ rfl ?_)
            intro g2 cap2 wz hown hgrow hat hlt2
            have HF : Hid (UnI w b q (.slice (some ⟨g2, 0, none⟩) (k + 1) cap2) (l ++ [⟨2, en, ⟨#[]⟩⟩]) wz) := by
              have hu := (unhide HU8).up ((Below.refl _ _).alloc (Nat.le_refl _) (.cells #[.int .i64 2, .int .i64 en, .string ⟨#[]⟩] 47))
              have hkeep : ∀ x, x < (w7.setCell ⟨X, 1, none⟩ (.int .i64 en)).heap.size → Value.ownBlock (.slice a k c2) ≠ some x → wz.heap[x]? = (w7.setCell ⟨X, 1, none⟩ (.int .i64 en)).heap[x]? := fun x hx hne => (hgrow.block x (by simp; rw [unhide HSZ] at hx; omega) (fun e => hne e.symm)).trans (Below.heap_alloc _ _ _ hx)
              have hltb := lt_of_block (unhide HU8).rd
              have hown0 := (unhide HU8).own
              refine ⟨(hkeep b hltb (fun e => by have := (hown0.lt b e).1; omega)).trans (unhide HU8).rd, ?_, hu.be.grown hgrow (by have := hu.be.size; exact this) (fun z hz => by have := (hown0.lt z hz).1; have := (unhide HU8).wb; omega), (unhide HU8).wb, (unhide HU8).ps⟩
              unfold OwnEv
              rw [evC_append, List.length_append, unhide HLK]
              exact hown
            have HU2 := hide (unhide HUP)
            have HL2 : Hid ((l ++ [(⟨2, en, ⟨#[]⟩⟩ : Ev)]).length = k + 1) := by
              show _ = _
              rw [List.length_append, unhide HLK]
              rfl
            clear hown hgrow hat hlt2 HO HNW HSZ HU8 hb1
            go_wp2
            go_roundw
            case rel => exact ⟨k + 1, _, _, l ++ [⟨2, en, ⟨#[]⟩⟩], q, by omega, by go_num, rfl, unhide HL2, unhide HU2, unhide HF⟩
            case measure => simp [intOf]; omega
          · subst h2
            clear h1
            have HSZ : Hid ((w7.setCell ⟨X, 1, none⟩ (.int .i64 en)).heap.size = w7.heap.size) := by
              show _ = _
              simp
            have HO : Hid ((w7.setCell ⟨X, 1, none⟩ (.int .i64 en)).ownsRow (b + 1) 47 3 (.slice a k c2) k (evC l)) := by
              have := (unhide HU8).own
              unfold OwnEv at this
              rw [unhide HLK] at this
              exact this
            have HNW : Hid (∀ j u, [Value.int .i64 3, .int .i64 en, .string ⟨#[]⟩][j]? = some u → ((w7.setCell ⟨X, 1, none⟩ (.int .i64 en)).alloc (.cells #[.int .i64 3, .int .i64 en, .string ⟨#[]⟩] 47)).cell? ((⟨w7.heap.size, 0, none⟩ : Addr).add j) = some u) := by
              have := World.news_of_block (heap_alloc_new (w7.setCell ⟨X, 1, none⟩ (.int .i64 en)) (.cells #[.int .i64 3, .int .i64 en, .string ⟨#[]⟩] 47))
              rw [unhide HSZ] at this
              exact this
            have hb1 : b + 1 ≤ w7.heap.size := by
              have h1 := lt_of_block (unhide HU8).rd
              rw [unhide HSZ] at h1
              omega
            go_wp2_with (refine wpList_append_lies _ rfl (.tmp 35) (.tmp 37) 22 rfl (b + 1) 47 i0 (.agg #[.int .i64 0, .int .i64 0, .string ⟨#[]⟩]) 3 32 Try.undEv hi hz0 hz1 hz2 rfl (by decide) (.slice a k c2) k _ (by rfl) ((unhide HO).alloc _) ⟨w7.heap.size, 0, none⟩ 1 1 [.int .i64 3, .int .i64 en, .string ⟨#[]⟩] (by rfl) (by rfl) (unhide HNW) (Ev.one ⟨3, en, ⟨#[]⟩⟩) (by decide) (by unfold maxLen; omega) (by omega) (by simp; omega) _ rfl ?_)
            intro g2 cap2 wz hown hgrow hat hlt2
            have HF : Hid (UnI w b q (.slice (some ⟨g2, 0, none⟩) (k + 1) cap2) (l ++ [⟨3, en, ⟨#[]⟩⟩]) wz) := by
              have hu := (unhide HU8).up ((Below.refl _ _).alloc (Nat.le_refl _) (.cells #[.int .i64 3, .int .i64 en, .string ⟨#[]⟩] 47))
              have hkeep : ∀ x, x < (w7.setCell ⟨X, 1, none⟩ (.int .i64 en)).heap.size → Value.ownBlock (.slice a k c2) ≠ some x → wz.heap[x]? = (w7.setCell ⟨X, 1, none⟩ (.int .i64 en)).heap[x]? := fun x hx hne => (hgrow.block x (by simp; rw [unhide HSZ] at hx; omega) (fun e => hne e.symm)).trans (Below.heap_alloc _ _ _ hx)
              have hltb := lt_of_block (unhide HU8).rd
              have hown0 := (unhide HU8).own
              refine ⟨(hkeep b hltb (fun e => by have := (hown0.lt b e).1; omega)).trans (unhide HU8).rd, ?_, hu.be.grown hgrow (by have := hu.be.size; exact this) (fun z hz => by have := (hown0.lt z hz).1; have := (unhide HU8).wb; omega), (unhide HU8).wb, (unhide HU8).ps⟩
              unfold OwnEv
              rw [evC_append, List.length_append, unhide HLK]
              exact hown
            have HU2 := hide (unhide HUP)
            have HL2 : Hid ((l ++ [(⟨3, en, ⟨#[]⟩⟩ : Ev)]).length = k + 1) := by
              show _ = _
              rw [List.length_append, unhide HLK]
              rfl
            clear hown hgrow hat hlt2 HO HNW HSZ HU8 hb1
            go_wp2
            go_roundw
            case rel => exact ⟨k + 1, _, _, l ++ [⟨3, en, ⟨#[]⟩⟩], q, by omega, by go_num, rfl, unhide HL2, unhide HU2, unhide HF⟩
            case measure => simp [intOf]; omega
        · have g1 : (ek == 1) = false := by simp [h1]
          have g2 : (ek == 2) = false := by simp; omega
          have g3 : (ek == 3) = false := by simp; omega
          have HUN : Hid (unp s = none) := by
            show _ = _
            have e1 : ups P0 (k + 1) = none := by
              rw [ups_step (unhide HUPS)]
              unfold upE
              rw [← unhide HEK, if_neg h1, if_neg h23]
            have e2 := ups_none e1 (n - (k + 1))
            rw [show k + 1 + (n - (k + 1)) = n by omega] at e2
            unfold unp
            rw [← unhide HP0, unhide HCN, Int.toNat_natCast, e2]
          have HE3 : Hid (3 = unE s) := by
            show _ = _
            unfold unE
            rw [unhide HUN]
          have HR : Hid (UnR w s (.slice none 0 0) (w7.setCell ⟨X, 1, none⟩ (.int .i64 en))) := ⟨by rw [unhide HUN]; exact World.ownsRow_nil _ _ _ _, (unhide HU8).be⟩
          have q2 : ((k : Int) != (n : Int)) = true := by simp; omega
          have q3 : ¬ (k : Int) = (n : Int) := by omega
          clear h1 h23 HU8 HX8
          cases bg with
          | false =>
            go_wp2
            simp only [Exit.jump]
            go_ret2
            exact ⟨.slice none 0 0, by rw [← unhide HE3]; rfl, unhide HR⟩
          | true =>
            go_wp2
            simp only [Exit.jump]
            go_ret2
            exact ⟨.slice none 0 0, by rw [← unhide HE3]; rfl, unhide HR⟩
    · have hkn : k = n := by omega
      subst hkn
      have q1 : ¬ (k : Int) < k := by omega
      have HUU : Hid (unp s = if bg = true ∧ atEnd p = 0 ∧ chkB l = true then some l else none) := by
        show _ = _
        unfold unp
        rw [← unhide HP0, unhide HCN, Int.toNat_natCast, unhide HUPS, unhide HBG]
      have HEND := hide (rend_any wr b p (unhide HI).ps (unhide HI).rd)
      obtain ⟨a9, c9, hv9, hev, hlc, hcm⟩ := (unhide HI).own.evs
      rw [unhide HLK] at hv9 hlc
      simp only [Value.slice.injEq, true_and] at hv9
      obtain ⟨rfl, rfl⟩ := hv9
      have hchk := tcheck_any a l c2 wr hev (by rw [unhide HLK]; omega)
      rw [unhide HLK] at hchk
      have HCHK := hide hchk
      have HBE := hide (unhide HI).be
      have HOW := hide ((unhide HI).own)
      have HWB := hide (unhide HI).wb
      clear hev hlc hcm hchk HI HUPS
      have HNO : Hid (unp s = none → 3 = unE s ∧ ∀ W, Below w.heap.size w W → UnR w s (.slice none 0 0) W) := fun h => by
        refine ⟨?_, fun W hW => ⟨by rw [h]; exact World.ownsRow_nil _ _ _ _, hW⟩⟩
        unfold unE
        rw [h]
      have HYES : Hid (unp s = some l → 0 = unE s ∧ ∀ W, Below wr.heap.size wr W → UnR w s (.slice a k c2) W) := fun h => by
        refine ⟨?_, fun W hW => ⟨?_, (unhide HBE).trans (hW.mono (unhide HBE).size)⟩⟩
        · unfold unE
          rw [h]
        · rw [h]
          have h1 := ownEv_keep (unhide HOW) (fun j hj => hW.block j ((unhide HOW).lt j hj).2)
          exact ⟨h1.1, h1.2.imp id fun ⟨g, cap, cur, e1, e2, e3⟩ => ⟨g, cap, cur, e1, by have := unhide HWB; omega, e3⟩⟩
      cases bg with
      | false =>
        obtain ⟨r1, r2⟩ := unhide HNO (by rw [unhide HUU, if_neg (by simp)])
        have HR := hide (r2 _ (unhide HBE))
        have HE := hide r1
        clear r1 r2 HNO HYES HUU
        go_wp2
        simp only [Exit.jump]
        go_ret2
        exact ⟨.slice none 0 0, by rw [← unhide HE]; rfl, unhide HR⟩
      | true =>
        by_cases hae : atEnd p = 0
        · rw [hae] at HEND
          cases hcb : chkB l with
          | false =>
            rw [hcb] at HCHK
            obtain ⟨r1, r2⟩ := unhide HNO (by rw [unhide HUU, if_neg (by simp [hcb])])
            have HE := hide r1
            have HR := hide r2
            clear r1 r2 HNO HYES HUU hcb hae
            go_wp2_with fail
            refine (unhide HEND).mono ?_
            rintro e wx ⟨rfl, rfl⟩
            go_wp2_with fail
            refine (unhide HCHK).mono ?_
            rintro e wy ⟨rfl, by1⟩
            have HRR := hide (unhide HR wy ((unhide HBE).trans (by1.mono (unhide HBE).size)))
            clear by1
            go_wp2
            simp only [Exit.jump]
            go_ret2
            exact ⟨.slice none 0 0, by rw [← unhide HE]; rfl, unhide HRR⟩
          | true =>
            rw [hcb] at HCHK
            obtain ⟨r1, r2⟩ := unhide HYES (by rw [unhide HUU, if_pos (by simp [hcb, hae])])
            have HE := hide r1
            have HR := hide r2
            clear r1 r2 HNO HYES HUU hcb hae
            go_wp2_with fail
            refine (unhide HEND).mono ?_
            rintro e wx ⟨rfl, rfl⟩
            go_wp2_with fail
            refine (unhide HCHK).mono ?_
            rintro e wy ⟨rfl, by1⟩
            have HRR := hide (unhide HR wy by1)
            clear by1
            go_wp2
            simp only [Exit.jump]
            go_ret2
            exact ⟨.slice a k c2, by rw [← unhide HE]; rfl, unhide HRR⟩
        · obtain ⟨r1, r2⟩ := unhide HNO (by rw [unhide HUU, if_neg (by simp [hae])])
          have HE := hide r1
          have HR := hide (r2 _ (unhide HBE))
          have hae' : (atEnd p != 0) = true := by simp [hae]
          generalize atEnd p = ae at *
          clear r1 r2 HNO HYES HUU
          go_wp2_with fail
          refine (unhide HEND).mono ?_
          rintro e wx ⟨rfl, rfl⟩
          go_wp2
          simp only [Exit.jump]
          go_ret2
          exact ⟨.slice none 0 0, by rw [← unhide HE]; rfl, unhide HR⟩
end Go.Proofs.Ythgijdhifhnmfaa

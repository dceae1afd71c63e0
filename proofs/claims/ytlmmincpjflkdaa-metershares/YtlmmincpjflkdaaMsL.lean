/- MeterShares. -/
import Derived.Test.YtlmmincpjflkdaaMsK
import Derived.Test.YtlmmincpjflkdaaOpenA
namespace Go.Proofs.Ytlmmincpjflkdaa
open Go.RowKit
set_option linter.unusedVariables false
attribute [local go_sem] Oper.semAt_some

/-- the state of the law: the share and the document's share -/
structure LS (w : World) (b rb : Nat) (Q : Int) (f f2 : Nat → Qu) (V : Nat → Value) (D : List Dr) (a : Option Addr) (c : Nat) (W : World) : Prop where
  be : Below w.heap.size w W
  sh : ShAt W w.heap.size b Q f V
  r : W.heap[rb]? = some (.cells #[.int .i64 Q, .slice a D.length c] 28 (0, 0))
  d : DrsAt W a D
  sim : Sim f2 D
  sep : Sep V D
  lo : w.heap.size ≤ rb
section
variable {w : World} {b rb : Nat} {Q : Int} {f f2 : Nat → Qu} {V : Nat → Value} {D : List Dr} {a : Option Addr} {c : Nat} {W : World}
theorem LS.up {W' : World} (h : LS w b rb Q f f2 V D a c W) (hb : Below W.heap.size W W') : LS w b rb Q f f2 V D a c W' :=
  ⟨h.be.trans (hb.mono h.be.size), h.sh.up hb, (hb.block _ (lt_of_block h.r)).trans h.r, h.d.up hb, h.sim, h.sep, h.lo⟩
theorem LS.store {W1 W3 : World} {f3 : Nat → Qu} {D2 : List Dr} {a2 : Option Addr} {c2 : Nat} (h : LS w b rb Q f f2 V D a c W) (hb : Below W.heap.size W W1) (hd : DrsAt W1 a2 D2) (hs : Sim f3 D2) (hp : Sep V D2) (h3 : StR W1 rb 28 #[.int .i64 Q, .slice a2 D2.length c2] W3) : LS w b rb Q f f3 V D2 a2 c2 W3 := by
  have hr := (hb.block _ (lt_of_block h.r)).trans h.r
  have hsh := h.sh.up hb
  obtain ⟨bc, hbc⟩ := hsh.blk
  have hbe := h.be.trans (hb.mono h.be.size)
  refine ⟨hbe.trans (h3.be.mono h.lo), hsh.keep (st_cell h3 hr hbc (by decide)) (fun p k hp hk => ?_), h3.at_, drs_st hd h3 hr (by decide) (by decide), hs, hp, h.lo⟩
  obtain ⟨cs2, h2⟩ := own_blk (hsh.own p hp) hk
  exact st_cell h3 hr h2 (by decide)
theorem LS.code {W' : World} {f3 : Nat → Qu} {V' : Nat → Value} (h : LS w b rb Q f f2 V D a c W) (hS : ShAt W' w.heap.size b Q f3 V') (hs : ShStep W W' b V V') : LS w b rb Q f3 f2 V' D a c W' := by
  refine ⟨h.be.trans (hs.below h.sh), hS, ?_, h.d.step h.sh hs h.sep, h.sim, h.sep.step h.d.ok hs, h.lo⟩
  obtain ⟨bc, hbc⟩ := h.sh.blk
  refine (hs.block _ (lt_of_block h.r) (fun e => ?_) (fun p hp e => ?_)).trans h.r
  · have hr := h.r
    rw [e, hbc] at hr
    simp at hr
  · obtain ⟨cs2, h2⟩ := own_blk (h.sh.own p hp) e
    rw [h.r] at h2
    simp at h2
theorem LS.other {W' : World} {V' : Nat → Value} {k : Nat} {cs : Array Value} {T : TypeId} (h : LS w b rb Q f f2 V D a c W) (hs : ShStep W W' b V V') (hk : W.heap[k]? = some (.cells cs T (0, 0))) (h1 : T ≠ 54) (h2 : T ≠ 3) : W'.heap[k]? = some (.cells cs T (0, 0)) := by
  obtain ⟨bc, hbc⟩ := h.sh.blk
  refine (hs.block _ (lt_of_block hk) (fun e => ?_) (fun p hp e => ?_)).trans hk
  · rw [e, hbc] at hk
    simp only [Option.some.injEq, Obj.cells.injEq] at hk
    exact h1 hk.2.1.symm
  · obtain ⟨cs2, h3⟩ := own_blk (h.sh.own p hp) e
    rw [hk] at h3
    simp only [Option.some.injEq, Obj.cells.injEq] at h3
    exact h2 h3.2.1
end
theorem ownSn_keep {w w' : World} {B : Nat} {v : Value} {l : List (Int × Int)} (h : OwnSn w B v l) (hk : ∀ k, v.ownBlock = some k → w'.heap[k]? = w.heap[k]?) : OwnSn w' B v l := by
  have h := show World.ownsRow _ _ _ _ _ _ _ from h
  refine ⟨h.1, ?_⟩
  rcases h.2 with h1 | ⟨g, cap, cur, h1, h2, h3, h4⟩
  · exact .inl h1
  · exact .inr ⟨g, cap, cur, h1, h2, (hk g (by rw [h1]; rfl)).trans h3, h4⟩
theorem row3 {W : World} {g : Nat} {u0 u1 u2 : Value} {t : TypeId} (h : W.heap[g]? = some (.cells #[u0, u1, u2] t (0, 0))) : (W.cell? ⟨g, 0, none⟩ = some u0 ∧ W.cell? ⟨g, 1, none⟩ = some u1 ∧ W.cell? ⟨g, 2, none⟩ = some u2) ∧ g < W.heap.size :=
  ⟨⟨cell_of_row _ _ 0 _ _ _ h, cell_of_row _ _ 1 _ _ _ h, cell_of_row _ _ 2 _ _ _ h⟩, lt_of_block h⟩
theorem range2 {W : World} {g : Nat} {x y : Value} (h0 : W.cell? ⟨g, 0, none⟩ = some x) (h1 : W.cell? ⟨g, 1, none⟩ = some y) : W.rangeAt g 0 [x, y] := fun j u hu => by
  rw [Nat.zero_add]
  rcases (show j = 0 ∨ j = 1 by have := (List.getElem?_eq_some_iff.1 hu).1; simp at this; omega) with rfl | rfl
  · rw [h0]; simpa using hu
  · rw [h1]; simpa using hu
theorem range3 {W : World} {g o : Nat} {x y z : Value} (h0 : W.cell? ⟨g, o, none⟩ = some x) (h1 : W.cell? ⟨g, o + 1, none⟩ = some y) (h2 : W.cell? ⟨g, o + 2, none⟩ = some z) : W.rangeAt g o [x, y, z] := fun j u hu => by
  rcases (show j = 0 ∨ j = 1 ∨ j = 2 by have := (List.getElem?_eq_some_iff.1 hu).1; simp at this; omega) with rfl | rfl | rfl
  · rw [Nat.add_zero, h0]; simpa using hu
  · rw [h1]; simpa using hu
  · rw [h2]; simpa using hu
theorem ls_start (w : World) (q : Int) (W1 : World) (h : W1 = (w.alloc (.cells (newC q) 54)).alloc (.cells #[.int .i64 q, .slice none 0 0] 28)) : LS w w.heap.size (w.heap.size + 1) q noQ noQ noV [] none 0 W1 := by
  have e1 : (w.alloc (.cells (newC q) 54)).heap.size = w.heap.size + 1 := by simp
  have hb : Below (w.alloc (.cells (newC q) 54)).heap.size (w.alloc (.cells (newC q) 54)) W1 := by rw [h]; exact (Below.refl _ _).alloc (Nat.le_refl _) _
  refine ⟨((Below.refl _ w).alloc (Nat.le_refl _) _).trans (hb.mono (by simp)), (newShare_at q w.heap.size w (Nat.le_refl _)).up hb, ?_, fun t x ht => by simp at ht, Sim.start, Sep.nil _, by omega⟩
  have := heap_alloc_new (w.alloc (.cells (newC q) 54)) (.cells #[.int .i64 q, .slice none 0 0] 28)
  rw [e1, ← h] at this
  exact this
set_option maxRecDepth 100000 in
theorem meterShares_bad (q : Int) (v : Value) (w : World) (h : ¬ (1 ≤ q ∧ q ≤ 65536)) : Calls Try.prog 3 #[.int .i64 q, v] w fun e w' => e = .returned (.bool true) ∧ Below w.heap.size w w' := by
  have h1 := hide (newShare_no q w h)
  have h2 := hide (mawake_any w)
  by_cases ha : q < 1
  · go_enter Try.func3, Try.ntmps3
    go_wp2_with fail
    refine (unhide h1).mono ?_
    rintro e w1 ⟨rfl, rfl⟩
    go_wp2_with fail
    refine (unhide h2).mono ?_
    rintro e w2 ⟨rfl, b2⟩
    have B2 := hide b2
    clear b2
    go_wp2
    go_ret
    exact ⟨rfl, unhide B2⟩
  · have hb : 65536 < q := by omega
    go_enter Try.func3, Try.ntmps3
    go_wp2_with fail
    refine (unhide h1).mono ?_
    rintro e w1 ⟨rfl, rfl⟩
    go_wp2_with fail
    refine (unhide h2).mono ?_
    rintro e w2 ⟨rfl, b2⟩
    have B2 := hide b2
    clear b2
    go_wp2
    go_ret
    exact ⟨rfl, unhide B2⟩
set_option maxRecDepth 100000 in
set_option maxHeartbeats 16000000 in
theorem meterShares_good (q : Int) (a0 : Option Addr) (n c0 : Nat) (F : Nat → Int × Int × Int) (w : World) (hq : 1 ≤ q ∧ q ≤ 65536) (hA : AsksAt w a0 n F) : Calls Try.prog 3 #[.int .i64 q, .slice a0 n c0] w fun e w' => e = .returned (.bool true) ∧ Below w.heap.size w w' := by
  have h1 := hide (newShare_yes q w hq)
  have h2 := hide (fun W => mawake_any W)
  have HA := hide hA
  have HQ := hide hq
  have hq1 : ¬ q < 1 := by omega
  have hq2 : ¬ 65536 < q := by omega
  have HNC : Hid (newC q = newC q) := rfl
  obtain ⟨NC, hNC⟩ : ∃ N, N = newC q := ⟨_, rfl⟩
  rw [← hNC] at h1
  obtain ⟨W1, hW1⟩ : ∃ W1, W1 = (w.alloc (.cells NC 54)).alloc (.cells #[.int .i64 q, .slice none 0 0] 28) := ⟨_, rfl⟩
  have HL := hide (ls_start w q W1 (by rw [hW1, hNC]))
  have HW := hide hW1
  clear hA hq hNC hW1 HNC
  go_enter Try.func3, Try.ntmps3
  go_wp2_with fail
  refine (unhide h1).mono ?_
  rintro e w1 ⟨rfl, rfl⟩
  go_wp2_with fail
  rw [← unhide HW]
  clear HW h1
  refine (unhide h2 _).mono ?_
  rintro e w2 ⟨rfl, b2⟩
  have HL2 := hide ((unhide HL).up b2)
  clear b2 HL
  go_wp2_with fail
  have hqq := unhide HQ
  simp only [show decide (q < 1) = false from decide_eq_false (by omega), show decide (65536 < q) = false from decide_eq_false (by omega), Bool.or_false]
  clear hq1 hq2 hqq
  go_loopw [7] (fun iv wr => ∃ (i : Nat) (f : Nat → Qu) (V : Nat → Value) (D : List Dr) (a : Option Addr) (c : Nat), i ≤ n ∧ i ≤ 80 ∧ iv = .int .i64 i ∧ LS w w.heap.size (w.heap.size + 1) q f f V D a c wr) (fun iv _ => n - (intOf iv).toNat)
  case atStart => exact ⟨0, _, _, _, _, _, by omega, by omega, rfl, unhide HL2⟩
  case round =>
    clear HL2
    obtain ⟨i, f, V, D, a, c, hi, hi8, rfl, hL⟩ := hrel
    have HL := hide hL
    clear hL
    by_cases hlt : i < n
    · have q1 : (i : Int) < n := by omega
      have q1b : decide ((i : Int) < n) = true := decide_eq_true q1
      by_cases h80 : i < 80
      · have q2 : (i : Int) < 80 := by omega
        have q2b : decide ((i : Int) < 80) = true := decide_eq_true q2
        obtain ⟨g, o, rfl, hg, ⟨k0, k1, k2⟩, -⟩ := (unhide HA) i hlt
        have hbe := (unhide HL).be
        have HK0 := hide ((hbe.cell (p := ⟨g, o + i * 3, none⟩) hg).trans k0)
        have HK1 := hide ((hbe.cell (p := ⟨g, o + i * 3 + 1, none⟩) hg).trans k1)
        have HK2 := hide ((hbe.cell (p := ⟨g, o + i * 3 + 2, none⟩) hg).trans k2)
        have k0 := unhide HK0
        have k1 := unhide HK1
        have k2 := unhide HK2
        clear hbe hg HK0 HK1 HK2
        obtain ⟨⟨fk, fp, fn⟩, hF⟩ : ∃ x, F i = x := ⟨_, rfl⟩
        rw [hF] at k0 k1 k2
        dsimp only at k0 k1 k2
        clear hF
        have bA : Below wr.heap.size wr (wr.alloc (.cells #[.int .i64 fk, .int .i64 fp, .int .i64 fn] 30)) := (Below.refl _ _).alloc (Nat.le_refl _) _
        have HLA := hide ((unhide HL).up bA)
        have HACT := hide (heap_alloc_new wr (.cells #[.int .i64 fk, .int .i64 fp, .int .i64 fn] 30))
        have hr := row2 (unhide HL).r
        obtain ⟨⟨r0, r1⟩, rf, rl⟩ := hr
        clear bA rf
        by_cases hk0 : fk = 0
        · subst hk0
          have HDC := hide (fun W (hd : DrsAt W a D) => dW q fp fn f V a D c W hd (unhide HL).sim (unhide HL).sep)
          have HCC := hide (fun W V2 (hs : ShAt W w.heap.size w.heap.size q f V2) => cW w.heap.size w.heap.size fp fn q f V2 W hs)
          obtain ⟨N, hN⟩ : ∃ m, m = D.length := ⟨_, rfl⟩
          rw [← hN] at HDC r1
          have HNN := hide hN
          clear hN
          obtain ⟨E, hE⟩ : ∃ E, E = weighE fp fn := ⟨_, rfl⟩
          rw [← hE] at HDC HCC
          obtain ⟨F2, hF2⟩ : ∃ F, F = weighF f fp fn := ⟨_, rfl⟩
          rw [← hF2] at HDC HCC
          clear hE hF2
          go_wp2_with (refine wpList_load_mid rfl 30 (.tmp 51) rfl g (o + i * 3) rfl [.int .i64 0, .int .i64 fp, .int .i64 fn] _ (range3 k0 k1 k2) Try.underlying30 rfl (by kernel_rfl) ?_)
          refine (unhide HDC _ (unhide HLA).d).mono ?_
          rintro e w5 ⟨D2, a2, c2, rfl, hd5, hs5, hp5, b5⟩
          have hL5 := (unhide HLA).up b5
          have hA5 := (b5.block _ (lt_of_block (unhide HACT))).trans (unhide HACT)
          obtain ⟨N2, hN2⟩ : ∃ m, m = D2.length := ⟨_, rfl⟩
          rw [← hN2]
          have HN2 := hide hN2
          clear hN2
          have bB : Below w5.heap.size w5 (w5.alloc (.cells #[.int .i64 q, .slice a2 N2 c2] 28)) := (Below.refl _ _).alloc (Nat.le_refl _) _
          have hr6 := hide ((bB.block _ (lt_of_block hL5.r)).trans hL5.r)
          have hA6 := (bB.block _ (lt_of_block hA5)).trans hA5
          have hd6 := hd5.up bB
          go_wp2_with (refine wpList_store_rowM rfl 28 (.tmp 6) (.tmp 66) rfl (w.heap.size + 1) #[.int .i64 q, .slice a2 N2 c2] rfl rfl 28 _ (unhide hr6) (by kernel_rfl) rfl (by simp [Value.oneCell']) (StR (w5.alloc (.cells #[.int .i64 q, .slice a2 N2 c2] 28)) (w.heap.size + 1) 28 #[.int .i64 q, .slice a2 N2 c2]) (stR (unhide hr6) _) ?_)
          intro w6 h6
          have hA7 := (st_cell h6 (unhide hr6) hA6 (by decide)).trans hA6
          rw [unhide HN2] at h6 bB hd6
          have hL6 := hL5.store bB hd6 hs5 hp5 h6
          obtain ⟨⟨x0, x1, x2⟩, xl⟩ := row3 hA7
          clear bB hr6 hA6 hd6 hd5 hs5 hp5 h6 hA7 hA5 b5 hL5
          have HCW := hide (unhide HCC w6 V hL6.sh)
          have HL6 := hide hL6
          clear hL6 HDC HCC HLA HACT HL k0 k1 k2 r0 r1 rl HNN
          go_wp2_with fail
          refine (unhide HCW).mono ?_
          rintro e w7 ⟨rfl, V7, hS7, hs7⟩
          have HL7 := hide ((unhide HL6).code hS7 hs7)
          clear hS7 hs7 HL6 HCW x0 x1 x2 xl
          have q5 : (E == E) = true := by simp
          go_wp2_with fail
          go_loopw [16] (fun pv wr => ∃ p : Nat, p ≤ 17 ∧ pv = .int .i64 p ∧ LS w w.heap.size (w.heap.size + 1) q F2 F2 V7 D2 a2 c2 wr) (fun pv _ => 17 - (intOf pv).toNat)
          case atStart => exact ⟨0, by omega, rfl, unhide HL7⟩
          case round =>
            clear HL7
            obtain ⟨p, hp, rfl, hL⟩ := hrel
            have HL := hide hL
            obtain ⟨⟨r0, r1⟩, -, rl⟩ := row2 hL.r
            have HFD := hide (dfind_any q (p : Int) a2 D2 c2 wr hL.d (by have := hL.sim.len; omega))
            obtain ⟨e1, e2⟩ := hL.sim.waits p
            rw [← unhide HN2] at HFD r1
            by_cases hp16 : p ≤ 16
            · have q2 : (p : Int) ≤ 16 := by omega
              have HWA : Hid (∀ W, Below wr.heap.size wr W → Calls Try.prog 14 #[.pointer (some ⟨w.heap.size, 0, none⟩), .int .i64 p] W fun e w' => e = .returned (.int .i64 ((findD D2 p).l.length : Int)) ∧ W = w') := fun W hW => by
                have := waits_any w.heap.size w.heap.size (p : Int) q F2 V7 W (hL.sh.up hW)
                rwa [e1] at this
              have HCR : Hid (∀ W, Below wr.heap.size wr W → Calls Try.prog 15 #[.pointer (some ⟨w.heap.size, 0, none⟩), .int .i64 p] W fun e w' => e = .returned (.int .i64 (findD D2 p).c) ∧ W = w') := fun W hW => by
                have := credit_any w.heap.size w.heap.size (p : Int) q F2 V7 W (hL.sh.up hW)
                rwa [e2] at this
              obtain ⟨X, hX⟩ : ∃ X, X = findD D2 p := ⟨_, rfl⟩
              rw [← hX] at HWA HCR HFD
              clear e1 e2 hL hX
              obtain ⟨xp, xw, xc, xl9, xa, xk⟩ := X
              unfold Dr.cl at HFD
              dsimp only at HWA HCR HFD
              generalize xl9.length = z at *
              go_wp2_with fail
              refine (unhide HFD).mono ?_
              rintro e w8 ⟨rfl, b8⟩
              have bC : Below w8.heap.size w8 (w8.alloc (.cells #[.int .i64 xp, .int .i64 xw, .int .i64 xc, .slice xa z xk] 45)) := (Below.refl _ _).alloc (Nat.le_refl _) _
              have HQB := hide (heap_alloc_new w8 (.cells #[.int .i64 xp, .int .i64 xw, .int .i64 xc, .slice xa z xk] 45))
              have B9 := hide (b8.trans (bC.mono b8.size))
              clear b8 bC HFD r0 r1 rl
              go_wp2_with fail
              generalize w8.alloc (.cells #[.int .i64 xp, .int .i64 xw, .int .i64 xc, .slice xa z xk] 45) = w9 at *
              refine wp_region_grB (by kernel_rfl) (by kernel_rfl) ?_
              have hneX := gb_ne w9
              have f1 : ∀ y : Gb w9, y.w.cell? ⟨w8.heap.size, 2, none⟩ = some (.int .i64 xc) := fun y => gb_cell (row4 (unhide HQB)).1.2.2.1 y
              have f2 : ∀ y : Gb w9, y.w.cell? ⟨w8.heap.size, 3, none⟩ = some (.slice xa z xk) := fun y => gb_cell (row4 (unhide HQB)).1.2.2.2 y
              have HWX : Hid (∀ x : Gb w9, Calls Try.prog 14 #[.pointer (some ⟨w.heap.size, 0, none⟩), .int .i64 p] x.w fun e w' => e = .returned (.int .i64 (z : Int)) ∧ x.w = w') := fun x => unhide HWA x.w ((unhide B9).trans (x.ok.mono (unhide B9).size))
              have HCX : Hid (∀ x : Gb w9, Calls Try.prog 15 #[.pointer (some ⟨w.heap.size, 0, none⟩), .int .i64 p] x.w fun e w' => e = .returned (.int .i64 xc) ∧ x.w = w') := fun x => unhide HCR x.w ((unhide B9).trans (x.ok.mono (unhide B9).size))
              clear HWA HCR
              repeat (go_big_quiet_step (first | (go_at_call 14; exact gb_same (unhide HWX _)) | (go_at_call 15; exact gb_same (unhide HCX _))))
              refine wpQuiet_nil ?_
              rintro w4 ⟨⟨_, b4⟩, rfl⟩
              have HL4 := hide ((unhide HL).up ((unhide B9).trans (b4.mono (unhide B9).size)))
              clear b4 hneX f1 f2 HWX HCX HL
              go_wp2
              go_roundw
              case rel => exact ⟨p + 1, by omega, by go_num, unhide HL4⟩
              case measure => simp [intOf]; omega
            · have q2 : ¬ (p : Int) ≤ 16 := by omega
              clear e1 e2 hL HFD r0 r1 rl
              go_wp2
              go_roundw
              case rel => exact ⟨i + 1, F2, V7, D2, a2, c2, by omega, by omega, by go_num, unhide HL⟩
              case measure => simp [intOf]; omega
        · have hk0b : (fk == 0) = false := by simpa using hk0
          by_cases hk1 : fk = 1
          · subst hk1
            have HDC := hide (fun (_ : True) => dA q fp fn f V a D c _ (unhide HLA).d (unhide HL).sim (unhide HL).sep (fun k hk z hz => (World.ownsRow.lt (show World.ownsRow _ _ _ _ _ _ _ from (unhide HLA).sh.own k hk) z hz).2))
            have HCC := hide (fun W V2 (hs : ShAt W w.heap.size w.heap.size q f V2) => add_any w.heap.size w.heap.size fp fn q f V2 W hs)
            obtain ⟨N, hN⟩ : ∃ m, m = D.length := ⟨_, rfl⟩
            rw [← hN] at HDC r1
            have HNN := hide hN
            clear hN
            obtain ⟨E, hE⟩ : ∃ E, E = addE f fp fn := ⟨_, rfl⟩
            rw [← hE] at HDC HCC
            obtain ⟨F2, hF2⟩ : ∃ F, F = addF f fp fn := ⟨_, rfl⟩
            rw [← hF2] at HDC HCC
            clear hE hF2
            go_wp2_with (refine wpList_load_mid rfl 30 (.tmp 51) rfl g (o + i * 3) rfl [.int .i64 1, .int .i64 fp, .int .i64 fn] _ (range3 k0 k1 k2) Try.underlying30 rfl (by kernel_rfl) ?_)
            refine (unhide HDC trivial).mono ?_
            rintro e w5 ⟨D2, a2, c2, rfl, hd5, hs5, hp5, b5⟩
            have hL5 := (unhide HLA).up b5
            have hA5 := (b5.block _ (lt_of_block (unhide HACT))).trans (unhide HACT)
            obtain ⟨N2, hN2⟩ : ∃ m, m = D2.length := ⟨_, rfl⟩
            rw [← hN2]
            have HN2 := hide hN2
            clear hN2
            have bB : Below w5.heap.size w5 (w5.alloc (.cells #[.int .i64 q, .slice a2 N2 c2] 28)) := (Below.refl _ _).alloc (Nat.le_refl _) _
            have hr6 := hide ((bB.block _ (lt_of_block hL5.r)).trans hL5.r)
            have hA6 := (bB.block _ (lt_of_block hA5)).trans hA5
            have hd6 := hd5.up bB
            go_wp2_with (refine wpList_store_rowM rfl 28 (.tmp 6) (.tmp 86) rfl (w.heap.size + 1) #[.int .i64 q, .slice a2 N2 c2] rfl rfl 28 _ (unhide hr6) (by kernel_rfl) rfl (by simp [Value.oneCell']) (StR (w5.alloc (.cells #[.int .i64 q, .slice a2 N2 c2] 28)) (w.heap.size + 1) 28 #[.int .i64 q, .slice a2 N2 c2]) (stR (unhide hr6) _) ?_)
            intro w6 h6
            have hA7 := (st_cell h6 (unhide hr6) hA6 (by decide)).trans hA6
            rw [unhide HN2] at h6 bB hd6
            have hL6 := hL5.store bB hd6 hs5 hp5 h6
            obtain ⟨⟨x0, x1, x2⟩, xl⟩ := row3 hA7
            clear bB hr6 hA6 hd6 hd5 hs5 hp5 h6 hA7 hA5 b5 hL5
            have HCW := hide (unhide HCC w6 V hL6.sh)
            have HL6 := hide hL6
            clear hL6 HDC HCC HLA HACT HL k0 k1 k2 r0 r1 rl HNN
            go_wp2_with fail
            refine (unhide HCW).mono ?_
            rintro e w7 ⟨rfl, V7, hS7, hs7⟩
            have HL7 := hide ((unhide HL6).code hS7 hs7)
            clear hS7 hs7 HL6 HCW x0 x1 x2 xl
            have q5 : (E == E) = true := by simp
            go_wp2_with fail
            go_loopw [16] (fun pv wr => ∃ p : Nat, p ≤ 17 ∧ pv = .int .i64 p ∧ LS w w.heap.size (w.heap.size + 1) q F2 F2 V7 D2 a2 c2 wr) (fun pv _ => 17 - (intOf pv).toNat)
            case atStart => exact ⟨0, by omega, rfl, unhide HL7⟩
            case round =>
              clear HL7
              obtain ⟨p, hp, rfl, hL⟩ := hrel
              have HL := hide hL
              obtain ⟨⟨r0, r1⟩, -, rl⟩ := row2 hL.r
              have HFD := hide (dfind_any q (p : Int) a2 D2 c2 wr hL.d (by have := hL.sim.len; omega))
              obtain ⟨e1, e2⟩ := hL.sim.waits p
              rw [← unhide HN2] at HFD r1
              by_cases hp16 : p ≤ 16
              · have q2 : (p : Int) ≤ 16 := by omega
                have HWA : Hid (∀ W, Below wr.heap.size wr W → Calls Try.prog 14 #[.pointer (some ⟨w.heap.size, 0, none⟩), .int .i64 p] W fun e w' => e = .returned (.int .i64 ((findD D2 p).l.length : Int)) ∧ W = w') := fun W hW => by
                  have := waits_any w.heap.size w.heap.size (p : Int) q F2 V7 W (hL.sh.up hW)
                  rwa [e1] at this
                have HCR : Hid (∀ W, Below wr.heap.size wr W → Calls Try.prog 15 #[.pointer (some ⟨w.heap.size, 0, none⟩), .int .i64 p] W fun e w' => e = .returned (.int .i64 (findD D2 p).c) ∧ W = w') := fun W hW => by
                  have := credit_any w.heap.size w.heap.size (p : Int) q F2 V7 W (hL.sh.up hW)
                  rwa [e2] at this
                obtain ⟨X, hX⟩ : ∃ X, X = findD D2 p := ⟨_, rfl⟩
                rw [← hX] at HWA HCR HFD
                clear e1 e2 hL hX
                obtain ⟨xp, xw, xc, xl9, xa, xk⟩ := X
                unfold Dr.cl at HFD
                dsimp only at HWA HCR HFD
                generalize xl9.length = z at *
                go_wp2_with fail
                refine (unhide HFD).mono ?_
                rintro e w8 ⟨rfl, b8⟩
                have bC : Below w8.heap.size w8 (w8.alloc (.cells #[.int .i64 xp, .int .i64 xw, .int .i64 xc, .slice xa z xk] 45)) := (Below.refl _ _).alloc (Nat.le_refl _) _
                have HQB := hide (heap_alloc_new w8 (.cells #[.int .i64 xp, .int .i64 xw, .int .i64 xc, .slice xa z xk] 45))
                have B9 := hide (b8.trans (bC.mono b8.size))
                clear b8 bC HFD r0 r1 rl
                go_wp2_with fail
                generalize w8.alloc (.cells #[.int .i64 xp, .int .i64 xw, .int .i64 xc, .slice xa z xk] 45) = w9 at *
                refine wp_region_grB (by kernel_rfl) (by kernel_rfl) ?_
                have hneX := gb_ne w9
                have f1 : ∀ y : Gb w9, y.w.cell? ⟨w8.heap.size, 2, none⟩ = some (.int .i64 xc) := fun y => gb_cell (row4 (unhide HQB)).1.2.2.1 y
                have f2 : ∀ y : Gb w9, y.w.cell? ⟨w8.heap.size, 3, none⟩ = some (.slice xa z xk) := fun y => gb_cell (row4 (unhide HQB)).1.2.2.2 y
                have HWX : Hid (∀ x : Gb w9, Calls Try.prog 14 #[.pointer (some ⟨w.heap.size, 0, none⟩), .int .i64 p] x.w fun e w' => e = .returned (.int .i64 (z : Int)) ∧ x.w = w') := fun x => unhide HWA x.w ((unhide B9).trans (x.ok.mono (unhide B9).size))
                have HCX : Hid (∀ x : Gb w9, Calls Try.prog 15 #[.pointer (some ⟨w.heap.size, 0, none⟩), .int .i64 p] x.w fun e w' => e = .returned (.int .i64 xc) ∧ x.w = w') := fun x => unhide HCR x.w ((unhide B9).trans (x.ok.mono (unhide B9).size))
                clear HWA HCR
                repeat (go_big_quiet_step (first | (go_at_call 14; exact gb_same (unhide HWX _)) | (go_at_call 15; exact gb_same (unhide HCX _))))
                refine wpQuiet_nil ?_
                rintro w4 ⟨⟨_, b4⟩, rfl⟩
                have HL4 := hide ((unhide HL).up ((unhide B9).trans (b4.mono (unhide B9).size)))
                clear b4 hneX f1 f2 HWX HCX HL
                go_wp2
                go_roundw
                case rel => exact ⟨p + 1, by omega, by go_num, unhide HL4⟩
                case measure => simp [intOf]; omega
              · have q2 : ¬ (p : Int) ≤ 16 := by omega
                clear e1 e2 hL HFD r0 r1 rl
                go_wp2
                go_roundw
                case rel => exact ⟨i + 1, F2, V7, D2, a2, c2, by omega, by omega, by go_num, unhide HL⟩
                case measure => simp [intOf]; omega
          · have hk1b : (fk == 1) = false := by simpa using hk1
            by_cases hk2 : fk = 2
            · subst hk2
              have HDC := hide (fun W (hd : DrsAt W a D) => dT q f V a D c W (unhide HQ) hd (unhide HL).sim (unhide HL).sep)
              have HCC := hide (fun W V2 (hs : ShAt W w.heap.size w.heap.size q f V2) => turns_any w.heap.size w.heap.size q f V2 W hs (unhide HQ) (unhide HL).sim.ok)
              have hsl := sentL_len (q := q) (fun p hp => ((unhide HL).sim.ok p hp).n) 16 (Nat.le_refl _)
              obtain ⟨N, hN⟩ : ∃ m, m = D.length := ⟨_, rfl⟩
              rw [← hN] at HDC r1
              have HNN := hide hN
              clear hN
              obtain ⟨E, hE⟩ : ∃ E, E = turnE f 16 := ⟨_, rfl⟩
              rw [← hE] at HDC HCC
              obtain ⟨F2, hF2⟩ : ∃ F, F = turnF f q 16 := ⟨_, rfl⟩
              rw [← hF2] at HDC HCC
              obtain ⟨SL, hSL⟩ : ∃ F, F = sentL f q 16 := ⟨_, rfl⟩
              rw [← hSL] at HDC HCC hsl
              clear hE hF2 hSL
              go_wp2_with (refine wpList_load_mid rfl 30 (.tmp 51) rfl g (o + i * 3) rfl [.int .i64 2, .int .i64 fp, .int .i64 fn] _ (range3 k0 k1 k2) Try.underlying30 rfl (by kernel_rfl) ?_)
              refine (unhide HDC _ (unhide HLA).d).mono ?_
              rintro e w5 ⟨D2, a2, c2, v5, rfl, hd5, hs5, hp5, ho5, b5⟩
              have hL5 := (unhide HLA).up b5
              obtain ⟨av, cv, rfl⟩ := ownSn_shape ho5
              obtain ⟨nl, hnl⟩ : ∃ m, m = SL.length := ⟨_, rfl⟩
              obtain ⟨N2, hN2⟩ : ∃ m, m = D2.length := ⟨_, rfl⟩
              rw [← hN2, ← hnl]
              rw [← hnl] at ho5 hsl
              have HNL := hide hnl
              have HN2 := hide hN2
              clear hN2 hnl
              have bB : Below w5.heap.size w5 (w5.alloc (.cells #[.int .i64 q, .slice a2 N2 c2, .slice av nl cv, .int .i64 E] 37)) := (Below.refl _ _).alloc (Nat.le_refl _) _
              have hTB := heap_alloc_new w5 (.cells #[.int .i64 q, .slice a2 N2 c2, .slice av nl cv, .int .i64 E] 37)
              have hr6 := hide ((bB.block _ (lt_of_block hL5.r)).trans hL5.r)
              have hd6 := hd5.up bB
              have ho6 := ownSn_up ho5 bB
              obtain ⟨tb, htb⟩ : ∃ t, t = w5.heap.size := ⟨_, rfl⟩
              rw [← htb] at hTB
              have HRG : Hid ((w5.alloc (.cells #[.int .i64 q, .slice a2 N2 c2, .slice av nl cv, .int .i64 E] 37)).rangeAt w5.heap.size 0 [.int .i64 q, .slice a2 N2 c2]) := by
                show World.rangeAt _ _ _ _
                rw [← htb]
                exact range2 (row4 hTB).1.1 (row4 hTB).1.2.1
              have HTBE := hide htb
              clear htb
              go_wp2_with (first | (refine wpList_load_mid rfl 28 (.tmp 99) rfl w5.heap.size 0 rfl [.int .i64 q, .slice a2 N2 c2] _ (unhide HRG) Try.underlying28 rfl (by kernel_rfl) ?_) | (refine wpList_store_rowM rfl 28 (.tmp 6) (.tmp 100) rfl (w.heap.size + 1) #[.int .i64 q, .slice a2 N2 c2] rfl rfl 28 _ (unhide hr6) (by kernel_rfl) rfl (by simp [Value.oneCell']) (StR (w5.alloc (.cells #[.int .i64 q, .slice a2 N2 c2, .slice av nl cv, .int .i64 E] 37)) (w.heap.size + 1) 28 #[.int .i64 q, .slice a2 N2 c2]) (stR (unhide hr6) _) ?_))
              intro w6 h6
              rw [← unhide HTBE]
              have hTB6 := (st_cell h6 (unhide hr6) hTB (by decide)).trans hTB
              have ho7 := ownSn_keep ho6 (fun k hk => by
                obtain ⟨_, cs9, h9⟩ := ownSn_ge ho6 hk
                exact st_cell h6 (unhide hr6) h9 (by decide))
              rw [unhide HN2] at h6 bB hd6
              have hL6 := hL5.store bB hd6 hs5 hp5 h6
              have HCW := hide (unhide HCC w6 V hL6.sh)
              have HL6 := hide hL6
              have HTB6 := hide hTB6
              have HO7 := hide ho7
              clear hL6 HDC HCC HLA HACT HL k0 k1 k2 r0 r1 rl HNN bB hr6 hd6 hd5 hs5 hp5 h6 b5 hL5 ho5 ho6 ho7 hTB hTB6 HRG HTBE
              go_wp2_with fail
              refine (unhide HCW).mono ?_
              rintro e w7 ⟨v7, rfl, hT7⟩
              obtain ⟨V7, hS7, hs7⟩ := hT7.sh
              obtain ⟨a7, c7, rfl, hP7⟩ := own_prs (show World.ownsRow _ _ _ _ _ _ _ from hT7.st)
              have hTB7 := hide ((unhide HL6).other hs7 (unhide HTB6) (by decide) (by decide))
              have hO8 : OwnSn w7 _ _ SL := ownSn_keep (unhide HO7) (fun k hk => by
                obtain ⟨_, cs9, h9⟩ := ownSn_ge (unhide HO7) hk
                rw [(unhide HL6).other hs7 h9 (by decide) (by decide), h9])
              obtain ⟨a8, c8, e8, hP8⟩ := own_prs (show World.ownsRow _ _ _ _ _ _ _ from hO8)
              rw [← unhide HNL] at e8
              rw [Value.slice.injEq] at e8
              obtain ⟨rfl, _, rfl⟩ := e8
              have HSM := hide (msame_any a7 av SL c7 cv w7 hP7 hP8 (by rw [← unhide HNL]; omega))
              have HL8 := hide ((unhide HL6).code hS7 hs7)
              rw [← unhide HNL] at HSM ⊢
              clear hT7 hS7 hs7 HL6 HCW hP7 hP8 hO8 HO7 HTB6
              obtain ⟨⟨x0, x1, x2, x3⟩, -, xl⟩ := row4 (unhide hTB7)
              go_wp2_with fail
              refine (unhide HSM).mono ?_
              rintro e w8 ⟨rfl, b8⟩
              have HL7 := hide ((unhide HL8).up b8)
              have HTB8 := hide ((b8.block _ (lt_of_block (unhide hTB7))).trans (unhide hTB7))
              clear b8 HL8 hTB7 HSM x0 x1 x2 x3 xl
              obtain ⟨⟨x0, x1, x2, x3⟩, -, xl⟩ := row4 (unhide HTB8)
              have q5 : (E == E) = true := by simp
              go_wp2_with fail
              clear HTB8 x0 x1 x2 x3 xl
              go_loopw [16] (fun pv wr => ∃ p : Nat, p ≤ 17 ∧ pv = .int .i64 p ∧ LS w w.heap.size (w.heap.size + 1) q F2 F2 V7 D2 a2 c2 wr) (fun pv _ => 17 - (intOf pv).toNat)
              case atStart => exact ⟨0, by omega, rfl, unhide HL7⟩
              case round =>
                clear HL7
                obtain ⟨p, hp, rfl, hL⟩ := hrel
                have HL := hide hL
                obtain ⟨⟨r0, r1⟩, -, rl⟩ := row2 hL.r
                have HFD := hide (dfind_any q (p : Int) a2 D2 c2 wr hL.d (by have := hL.sim.len; omega))
                obtain ⟨e1, e2⟩ := hL.sim.waits p
                rw [← unhide HN2] at HFD r1
                by_cases hp16 : p ≤ 16
                · have q2 : (p : Int) ≤ 16 := by omega
                  have HWA : Hid (∀ W, Below wr.heap.size wr W → Calls Try.prog 14 #[.pointer (some ⟨w.heap.size, 0, none⟩), .int .i64 p] W fun e w' => e = .returned (.int .i64 ((findD D2 p).l.length : Int)) ∧ W = w') := fun W hW => by
                    have := waits_any w.heap.size w.heap.size (p : Int) q F2 V7 W (hL.sh.up hW)
                    rwa [e1] at this
                  have HCR : Hid (∀ W, Below wr.heap.size wr W → Calls Try.prog 15 #[.pointer (some ⟨w.heap.size, 0, none⟩), .int .i64 p] W fun e w' => e = .returned (.int .i64 (findD D2 p).c) ∧ W = w') := fun W hW => by
                    have := credit_any w.heap.size w.heap.size (p : Int) q F2 V7 W (hL.sh.up hW)
                    rwa [e2] at this
                  obtain ⟨X, hX⟩ : ∃ X, X = findD D2 p := ⟨_, rfl⟩
                  rw [← hX] at HWA HCR HFD
                  clear e1 e2 hL hX
                  obtain ⟨xp, xw, xc, xl9, xa, xk⟩ := X
                  unfold Dr.cl at HFD
                  dsimp only at HWA HCR HFD
                  generalize xl9.length = z at *
                  go_wp2_with fail
                  refine (unhide HFD).mono ?_
                  rintro e w8 ⟨rfl, b8⟩
                  have bC : Below w8.heap.size w8 (w8.alloc (.cells #[.int .i64 xp, .int .i64 xw, .int .i64 xc, .slice xa z xk] 45)) := (Below.refl _ _).alloc (Nat.le_refl _) _
                  have HQB := hide (heap_alloc_new w8 (.cells #[.int .i64 xp, .int .i64 xw, .int .i64 xc, .slice xa z xk] 45))
                  have B9 := hide (b8.trans (bC.mono b8.size))
                  clear b8 bC HFD r0 r1 rl
                  go_wp2_with fail
                  generalize w8.alloc (.cells #[.int .i64 xp, .int .i64 xw, .int .i64 xc, .slice xa z xk] 45) = w9 at *
                  refine wp_region_grB (by kernel_rfl) (by kernel_rfl) ?_
                  have hneX := gb_ne w9
                  have f1 : ∀ y : Gb w9, y.w.cell? ⟨w8.heap.size, 2, none⟩ = some (.int .i64 xc) := fun y => gb_cell (row4 (unhide HQB)).1.2.2.1 y
                  have f2 : ∀ y : Gb w9, y.w.cell? ⟨w8.heap.size, 3, none⟩ = some (.slice xa z xk) := fun y => gb_cell (row4 (unhide HQB)).1.2.2.2 y
                  have HWX : Hid (∀ x : Gb w9, Calls Try.prog 14 #[.pointer (some ⟨w.heap.size, 0, none⟩), .int .i64 p] x.w fun e w' => e = .returned (.int .i64 (z : Int)) ∧ x.w = w') := fun x => unhide HWA x.w ((unhide B9).trans (x.ok.mono (unhide B9).size))
                  have HCX : Hid (∀ x : Gb w9, Calls Try.prog 15 #[.pointer (some ⟨w.heap.size, 0, none⟩), .int .i64 p] x.w fun e w' => e = .returned (.int .i64 xc) ∧ x.w = w') := fun x => unhide HCR x.w ((unhide B9).trans (x.ok.mono (unhide B9).size))
                  clear HWA HCR
                  repeat (go_big_quiet_step (first | (go_at_call 14; exact gb_same (unhide HWX _)) | (go_at_call 15; exact gb_same (unhide HCX _))))
                  refine wpQuiet_nil ?_
                  rintro w4 ⟨⟨_, b4⟩, rfl⟩
                  have HL4 := hide ((unhide HL).up ((unhide B9).trans (b4.mono (unhide B9).size)))
                  clear b4 hneX f1 f2 HWX HCX HL
                  go_wp2
                  go_roundw
                  case rel => exact ⟨p + 1, by omega, by go_num, unhide HL4⟩
                  case measure => simp [intOf]; omega
                · have q2 : ¬ (p : Int) ≤ 16 := by omega
                  clear e1 e2 hL HFD r0 r1 rl
                  go_wp2
                  go_roundw
                  case rel => exact ⟨i + 1, F2, V7, D2, a2, c2, by omega, by omega, by go_num, unhide HL⟩
                  case measure => simp [intOf]; omega
            · have hk2b : (fk == 2) = false := by simpa using hk2
              obtain ⟨N2, hN2⟩ : ∃ m, m = D.length := ⟨_, rfl⟩
              have HN2 := hide hN2
              have HL7 := HLA
              clear hN2 HLA HL r0 r1 rl HACT
              go_wp2_with (refine wpList_load_mid rfl 30 (.tmp 51) rfl g (o + i * 3) rfl [.int .i64 fk, .int .i64 fp, .int .i64 fn] _ (range3 k0 k1 k2) Try.underlying30 rfl (by kernel_rfl) ?_)
              go_loopw [16] (fun pv wr => ∃ p : Nat, p ≤ 17 ∧ pv = .int .i64 p ∧ LS w w.heap.size (w.heap.size + 1) q f f V D a c wr) (fun pv _ => 17 - (intOf pv).toNat)
              case atStart => exact ⟨0, by omega, rfl, unhide HL7⟩
              case round =>
                clear HL7
                obtain ⟨p, hp, rfl, hL⟩ := hrel
                have HL := hide hL
                obtain ⟨⟨r0, r1⟩, -, rl⟩ := row2 hL.r
                have HFD := hide (dfind_any q (p : Int) a D c wr hL.d (by have := hL.sim.len; omega))
                obtain ⟨e1, e2⟩ := hL.sim.waits p
                rw [← unhide HN2] at HFD r1
                by_cases hp16 : p ≤ 16
                · have q2 : (p : Int) ≤ 16 := by omega
                  have HWA : Hid (∀ W, Below wr.heap.size wr W → Calls Try.prog 14 #[.pointer (some ⟨w.heap.size, 0, none⟩), .int .i64 p] W fun e w' => e = .returned (.int .i64 ((findD D p).l.length : Int)) ∧ W = w') := fun W hW => by
                    have := waits_any w.heap.size w.heap.size (p : Int) q f V W (hL.sh.up hW)
                    rwa [e1] at this
                  have HCR : Hid (∀ W, Below wr.heap.size wr W → Calls Try.prog 15 #[.pointer (some ⟨w.heap.size, 0, none⟩), .int .i64 p] W fun e w' => e = .returned (.int .i64 (findD D p).c) ∧ W = w') := fun W hW => by
                    have := credit_any w.heap.size w.heap.size (p : Int) q f V W (hL.sh.up hW)
                    rwa [e2] at this
                  obtain ⟨X, hX⟩ : ∃ X, X = findD D p := ⟨_, rfl⟩
                  rw [← hX] at HWA HCR HFD
                  clear e1 e2 hL hX
                  obtain ⟨xp, xw, xc, xl9, xa, xk⟩ := X
                  unfold Dr.cl at HFD
                  dsimp only at HWA HCR HFD
                  generalize xl9.length = z at *
                  go_wp2_with fail
                  refine (unhide HFD).mono ?_
                  rintro e w8 ⟨rfl, b8⟩
                  have bC : Below w8.heap.size w8 (w8.alloc (.cells #[.int .i64 xp, .int .i64 xw, .int .i64 xc, .slice xa z xk] 45)) := (Below.refl _ _).alloc (Nat.le_refl _) _
                  have HQB := hide (heap_alloc_new w8 (.cells #[.int .i64 xp, .int .i64 xw, .int .i64 xc, .slice xa z xk] 45))
                  have B9 := hide (b8.trans (bC.mono b8.size))
                  clear b8 bC HFD r0 r1 rl
                  go_wp2_with fail
                  generalize w8.alloc (.cells #[.int .i64 xp, .int .i64 xw, .int .i64 xc, .slice xa z xk] 45) = w9 at *
                  refine wp_region_grB (by kernel_rfl) (by kernel_rfl) ?_
                  have hneX := gb_ne w9
                  have f1 : ∀ y : Gb w9, y.w.cell? ⟨w8.heap.size, 2, none⟩ = some (.int .i64 xc) := fun y => gb_cell (row4 (unhide HQB)).1.2.2.1 y
                  have f2 : ∀ y : Gb w9, y.w.cell? ⟨w8.heap.size, 3, none⟩ = some (.slice xa z xk) := fun y => gb_cell (row4 (unhide HQB)).1.2.2.2 y
                  have HWX : Hid (∀ x : Gb w9, Calls Try.prog 14 #[.pointer (some ⟨w.heap.size, 0, none⟩), .int .i64 p] x.w fun e w' => e = .returned (.int .i64 (z : Int)) ∧ x.w = w') := fun x => unhide HWA x.w ((unhide B9).trans (x.ok.mono (unhide B9).size))
                  have HCX : Hid (∀ x : Gb w9, Calls Try.prog 15 #[.pointer (some ⟨w.heap.size, 0, none⟩), .int .i64 p] x.w fun e w' => e = .returned (.int .i64 xc) ∧ x.w = w') := fun x => unhide HCR x.w ((unhide B9).trans (x.ok.mono (unhide B9).size))
                  clear HWA HCR
                  repeat (go_big_quiet_step (first | (go_at_call 14; exact gb_same (unhide HWX _)) | (go_at_call 15; exact gb_same (unhide HCX _))))
                  refine wpQuiet_nil ?_
                  rintro w4 ⟨⟨_, b4⟩, rfl⟩
                  have HL4 := hide ((unhide HL).up ((unhide B9).trans (b4.mono (unhide B9).size)))
                  clear b4 hneX f1 f2 HWX HCX HL
                  go_wp2
                  go_roundw
                  case rel => exact ⟨p + 1, by omega, by go_num, unhide HL4⟩
                  case measure => simp [intOf]; omega
                · have q2 : ¬ (p : Int) ≤ 16 := by omega
                  clear e1 e2 hL HFD r0 r1 rl
                  go_wp2
                  go_roundw
                  case rel => exact ⟨i + 1, f, V, D, a, c, by omega, by omega, by go_num, unhide HL⟩
                  case measure => simp [intOf]; omega
      · have q2 : ¬ (i : Int) < 80 := by omega
        have q2b : decide ((i : Int) < 80) = false := decide_eq_false q2
        have HB := hide (unhide HL).be
        go_wp2
        go_ret
        exact ⟨rfl, unhide HB⟩
    · have q1 : ¬ (i : Int) < n := by omega
      have q1b : decide ((i : Int) < n) = false := decide_eq_false q1
      have HB := hide (unhide HL).be
      go_wp2
      go_ret
      exact ⟨rfl, unhide HB⟩
end Go.Proofs.Ytlmmincpjflkdaa

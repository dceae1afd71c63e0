/- What the law OctBack does, whatever the world, the fields and the text: it answers true and changes nothing that was there. -/
import Derived.Test.YtahejlimdgniiabBkInv
import Derived.Test.YtahejlimdgniiabBkReg
namespace Go.Proofs.Ytahejlimdgniiab
open Go.RowKit
set_option linter.unusedVariables false

set_option maxHeartbeats 4000000 in
set_option maxRecDepth 100000 in
theorem octBack_any (a0 : Option Addr) (len cap : Nat) (F : Nat → Fld) (s : ByteArray) (w : World) (hF : FldsAt w a0 len F) (hlen : len ≤ maxLen) (hs0 : s.size ≤ maxLen) :
    Calls Try.prog 8 #[.slice a0 len cap, .string s] w fun e w' => e = .returned (.bool true) ∧ Below w.heap.size w w' := by
  unfold maxLen at hlen hs0
  have HF := hide hF
  clear hF
  obtain ⟨i0, hi, hz0, hz1, hz2⟩ := info_parts Try.infoF
  go_enter Try.func8, Try.ntmps8
  go_wp2_with fail
  refine (to_any w).mono ?_
  rintro e w1 ⟨rfl, hW, hw1⟩
  have hz1' : w1.heap.size = w.heap.size + 1 := by rw [hw1]; simp
  have b1 : Below w.heap.size w w1 := by rw [hw1]; exact (Below.refl _ _).alloc (Nat.le_refl _) _
  have HW1 := hide (fun base h => hW base h)
  have HZ1 := hide hz1'
  have B1 := hide b1
  clear hW hw1 hz1' b1
  go_wp2_with fail
  refine (awake_any w1).mono ?_
  rintro e w3 ⟨rfl, b3⟩
  have hI : BInv w w.heap.size w3.heap.size w3 [] (.slice none 0 0) := by
    have z := b3.size
    have z1 := unhide HZ1
    exact ⟨(unhide HW1 _ (by omega)).below b3, World.ownsRow_nil _ _ _ _, (by intro f hf; cases hf), Nat.le_refl _, (unhide B1).trans (b3.mono (by omega))⟩
  have hbb : w.heap.size < w3.heap.size := by have z := b3.size; have z1 := unhide HZ1; omega
  have B3 := hide ((unhide B1).trans (b3.mono (by have z1 := unhide HZ1; omega)))
  clear HW1 HZ1 B1 b3
  have HI := hide hI
  clear hI
  by_cases hl : (2000 : Int) < s.size
  · go_wp2_with fail
    refine (awake_any w3).mono ?_
    rintro e w4 ⟨rfl, b4⟩
    have B4 := hide ((unhide B3).trans (b4.mono (unhide B3).size))
    go_wp2
    go_ret
    exact ⟨rfl, unhide B4⟩
  · have hl2 : s.size ≤ 2000 := by omega
    clear B3
    generalize w3.heap.size = base at *
    obtain ⟨bw, hbwe⟩ : ∃ bw, bw = w.heap.size := ⟨_, rfl⟩
    have hbw : w.heap.size ≤ bw := by omega
    rw [← hbwe] at HI
    have hbb' : bw < base := by omega
    have HBW := hide hbwe
    go_wp2
    rw [← unhide HBW]
    clear hbwe HBW
    go_loopw [6, 7] (fun v i wr => ∃ (k : Nat) (K : List Fld), k ≤ 30 ∧ K.length ≤ k ∧ i = .int .i64 k ∧ BInv w bw base wr K v) (fun _ i _ => 30 - (intOf i).toNat)
    case atStart => exact ⟨0, [], by omega, by simp, rfl, unhide HI⟩
    case round =>
      clear HI
      obtain ⟨k, K, hk, hKk, rfl, hI⟩ := hrel
      obtain ⟨ao, cp, rfl⟩ := own_shape4 hI.kp
      have HI := hide hI
      have hel := encs_len K hI.gd
      clear hI
      have hbb := hbb'
      by_cases hlt : k < len ∧ k < 30
      · obtain ⟨hlt1, hlt2⟩ := hlt
        obtain ⟨b, off, rfl, hbl, ⟨c0, c1, c2, c3⟩, _, _, _, hs⟩ := unhide HF k hlt1
        rw [← (unhide HI).be.cell (p := ⟨b, off + k * 4, none⟩) hbl] at c0
        rw [← (unhide HI).be.cell (p := ⟨b, off + k * 4 + 1, none⟩) hbl] at c1
        rw [← (unhide HI).be.cell (p := ⟨b, off + k * 4 + 2, none⟩) hbl] at c2
        rw [← (unhide HI).be.cell (p := ⟨b, off + k * 4 + 3, none⟩) hbl] at c3
        generalize F k = f at *
        obtain ⟨fk, fn, fz, fs⟩ := f
        simp only at c0 c1 c2 c3 hs
        have q1 : (k : Int) < len := by omega
        have q2 : (k : Int) < 30 := by omega
        have xne : wr.heap.size ≠ bw := by have := (unhide HI).sz; omega
        have hs' := hs
        unfold maxLen at hs'
        by_cases hbig : (300 : Int) < fs.size
        · have I1 := hide ((unhide HI).below ((Below.refl wr.heap.size wr).alloc (Nat.le_refl _) (.cells #[.int .i64 fk, .int .i64 fn, .int .i64 fz, .string fs] 45)))
          clear HI
          go_wp2
          go_roundw
          case rel => exact ⟨k + 1, K, by omega, by omega, by go_num, unhide I1⟩
          case measure => simp [intOf]; omega
        · have h300 : fs.size ≤ 300 := by omega
          by_cases kneg : fk < 0
          · have I1 := hide ((unhide HI).below ((Below.refl wr.heap.size wr).alloc (Nat.le_refl _) (.cells #[.int .i64 fk, .int .i64 fn, .int .i64 fz, .string fs] 45)))
            clear HI
            go_wp2
            go_roundw
            case rel => exact ⟨k + 1, K, by omega, by omega, by go_num, unhide I1⟩
            case measure => simp [intOf]; omega
          · by_cases kbig : (2 : Int) < fk
            · have I1 := hide ((unhide HI).below ((Below.refl wr.heap.size wr).alloc (Nat.le_refl _) (.cells #[.int .i64 fk, .int .i64 fn, .int .i64 fz, .string fs] 45)))
              clear HI
              go_wp2
              go_roundw
              case rel => exact ⟨k + 1, K, by omega, by omega, by go_num, unhide I1⟩
              case measure => simp [intOf]; omega
            · rcases (show fk = 0 ∨ fk = 1 ∨ fk = 2 by omega) with rfl | rfl | rfl
              · have I1 := hide ((unhide HI).below ((Below.refl wr.heap.size wr).alloc (Nat.le_refl _) (.cells #[.int .i64 0, .int .i64 fn, .int .i64 fz, .string fs] 45)))
                have X1 : Hid (FldAt (wr.alloc (.cells #[.int .i64 0, .int .i64 fn, .int .i64 fz, .string fs] 45)) wr.heap.size ⟨0, fn, fz, fs⟩) := heap_alloc_new _ _
                have hput := hide (put_any fn fz (wr.alloc (.cells #[.int .i64 0, .int .i64 fn, .int .i64 fz, .string fs] 45)))
                by_cases hpe : (putS fn fz).2 = 0
                · rw [hpe] at hput
                  go_wp2_with fail
                  refine (unhide hput).mono ?_
                  rintro e w2 ⟨rfl, b2⟩
                  have I2 := hide ((unhide I1).below b2)
                  have X2 := hide ((unhide X1).below b2)
                  clear I1 X1 HI b2 hput
                  have I1 := I2
                  have X1 := X2
                  clear I2 X2
                  obtain ⟨x0, x1, x2, x3⟩ := (unhide X1).cells
                  go_wp2_with fail
                  clear x0 x1 x2 x3
                  refine (wnum_s w2 bw base (encs K) 0 fn fz (by omega) (unhide I1).sz hbb (unhide I1).wr).mono ?_
                  rintro e w3 ⟨rfl, hw3, k3, s3⟩
                  rw [wnum_good _ _ _ hpe (by omega)] at hw3
                  have HW3 : Hid (WriterAt w3 bw base (encs (K ++ [⟨0, fn, fz, fs⟩])) 0) := by show WriterAt _ _ _ _ _; rw [encs_snoc, show encF ⟨0, fn, fz, fs⟩ = (putS fn fz).1 by unfold encF; rw [if_pos rfl]]; exact hw3
                  have KP3 := hide (own_spares (unhide I1).kp s3 (by decide) hbb)
                  have X3 : Hid (FldAt w3 wr.heap.size ⟨0, fn, fz, fs⟩) := s3 _ _ _ _ xne (by decide) (unhide X1)
                  have SZ3 := hide (Nat.le_trans (unhide I1).sz k3.size)
                  have BE3 := hide ((unhide I1).be.trans (k3.below _ (by omega) hbw))
                  have GD3 := hide (unhide I1).gd
                  clear hw3 k3 s3 I1 X1
                  obtain ⟨x0, x1, x2, x3⟩ := (unhide X3).cells
                  have z3 := unhide SZ3
                  go_wp2_with (at_builtin; refine wpList_append_own _ rfl _ _ 39 rfl base 45 i0 (.agg #[.int .i64 0, .int .i64 0, .int .i64 0, .string ⟨#[]⟩]) 4 40 Try.undF hi hz0 hz1 hz2 rfl (by decide) _ _ _ rfl ((unhide KP3).alloc _) ⟨w3.heap.size, 0, none⟩ 1 1 (fc ⟨0, fn, fz, fs⟩) rfl rfl (news_lit' _ _ _) (by intro u hu; simp [fc] at hu; rcases hu with rfl | rfl | rfl | rfl <;> rfl) (by unfold maxLen; omega) (by omega) (by simp; omega) ?_)
                  intro v' w4 hown' hgrow _
                  have BN : Hid (BInv w bw base w4 (K ++ [⟨0, fn, fz, fs⟩]) v') := by
                    have hal : Below w3.heap.size w3 (w3.alloc (.cells #[.int .i64 0, .int .i64 fn, .int .i64 fz, .string fs] 45)) := (Below.refl _ _).alloc (Nat.le_refl _) _
                    refine ⟨((unhide HW3).below hal).grown ((unhide KP3).alloc _) hgrow, ?_, ?_, ?_, ?_⟩
                    · rw [List.length_append, fcs_snoc]; exact hown'
                    · intro g hg
                      rcases List.mem_append.1 hg with hg | hg
                      · exact unhide GD3 g hg
                      · simp at hg; subst hg; exact (.inl ⟨rfl, hpe⟩)
                    · exact Nat.le_trans (unhide SZ3) (Nat.le_trans hal.size hgrow.size)
                    · exact ((unhide BE3).trans (hal.mono (unhide BE3).size)).grown hgrow (Nat.le_trans (unhide BE3).size hal.size) (fun k hk => Nat.le_trans (by omega) ((unhide KP3).lt k hk).1)
                  obtain ⟨ao', cap', rfl⟩ := own_shape4 hown'
                  clear hown' hgrow x0 x1 x2 x3 HW3 KP3 X3 SZ3 BE3 GD3 z3
                  go_wp2
                  go_roundw
                  case rel => exact ⟨k + 1, K ++ [⟨0, fn, fz, fs⟩], by omega, by rw [List.length_append]; simp; omega, by go_num, unhide BN⟩
                  case measure => simp [intOf]; omega
                · have hpe' : ((putS fn fz).2 != 0) = true := by simpa using hpe
                  generalize (putS fn fz).2 = er at *
                  generalize (putS fn fz).1 = pb at *
                  go_wp2_with fail
                  refine (unhide hput).mono ?_
                  rintro e w2 ⟨rfl, b2⟩
                  have I2 := hide ((unhide I1).below b2)
                  clear I1 X1 HI b2 hput
                  go_wp2
                  go_roundw
                  case rel => exact ⟨k + 1, K, by omega, by omega, by go_num, unhide I2⟩
                  case measure => simp [intOf]; omega
              · have I1 := hide ((unhide HI).below ((Below.refl wr.heap.size wr).alloc (Nat.le_refl _) (.cells #[.int .i64 1, .int .i64 fn, .int .i64 fz, .string fs] 45)))
                have X1 : Hid (FldAt (wr.alloc (.cells #[.int .i64 1, .int .i64 fn, .int .i64 fz, .string fs] 45)) wr.heap.size ⟨1, fn, fz, fs⟩) := heap_alloc_new _ _
                go_wp2_with fail
                refine (wtext_s (wr.alloc (.cells #[.int .i64 1, .int .i64 fn, .int .i64 fz, .string fs] 45)) bw base (encs K) 0 fs hs (by omega) (unhide I1).sz hbb (unhide I1).wr).mono ?_
                rintro e w3 ⟨rfl, hw3, k3, s3⟩
                rw [wtext_good _ _ (by rw [blen]; omega) (by omega)] at hw3
                have HW3 : Hid (WriterAt w3 bw base (encs (K ++ [⟨1, fn, fz, fs⟩])) 0) := by show WriterAt _ _ _ _ _; rw [encs_snoc, show encF ⟨1, fn, fz, fs⟩ = (putS fs.size 2).1 ++ fs.data.toList by unfold encF; rw [if_neg (by simp), if_pos rfl], ← blen]; exact hw3
                have KP3 := hide (own_spares (unhide I1).kp s3 (by decide) hbb)
                have X3 : Hid (FldAt w3 wr.heap.size ⟨1, fn, fz, fs⟩) := s3 _ _ _ _ xne (by decide) (unhide X1)
                have SZ3 := hide (Nat.le_trans (unhide I1).sz k3.size)
                have BE3 := hide ((unhide I1).be.trans (k3.below _ (by omega) hbw))
                have GD3 := hide (unhide I1).gd
                clear hw3 k3 s3 I1 X1 HI
                obtain ⟨x0, x1, x2, x3⟩ := (unhide X3).cells
                have z3 := unhide SZ3
                go_wp2_with (at_builtin; refine wpList_append_own _ rfl _ _ 39 rfl base 45 i0 (.agg #[.int .i64 0, .int .i64 0, .int .i64 0, .string ⟨#[]⟩]) 4 40 Try.undF hi hz0 hz1 hz2 rfl (by decide) _ _ _ rfl ((unhide KP3).alloc _) ⟨w3.heap.size, 0, none⟩ 1 1 (fc ⟨1, fn, fz, fs⟩) rfl rfl (news_lit' _ _ _) (by intro u hu; simp [fc] at hu; rcases hu with rfl | rfl | rfl | rfl <;> rfl) (by unfold maxLen; omega) (by omega) (by simp; omega) ?_)
                intro v' w4 hown' hgrow _
                have BN : Hid (BInv w bw base w4 (K ++ [⟨1, fn, fz, fs⟩]) v') := by
                  have hal : Below w3.heap.size w3 (w3.alloc (.cells #[.int .i64 1, .int .i64 fn, .int .i64 fz, .string fs] 45)) := (Below.refl _ _).alloc (Nat.le_refl _) _
                  refine ⟨((unhide HW3).below hal).grown ((unhide KP3).alloc _) hgrow, ?_, ?_, ?_, ?_⟩
                  · rw [List.length_append, fcs_snoc]; exact hown'
                  · intro g hg
                    rcases List.mem_append.1 hg with hg | hg
                    · exact unhide GD3 g hg
                    · simp at hg; subst hg; exact (.inr (.inl ⟨rfl, h300⟩))
                  · exact Nat.le_trans (unhide SZ3) (Nat.le_trans hal.size hgrow.size)
                  · exact ((unhide BE3).trans (hal.mono (unhide BE3).size)).grown hgrow (Nat.le_trans (unhide BE3).size hal.size) (fun k hk => Nat.le_trans (by omega) ((unhide KP3).lt k hk).1)
                obtain ⟨ao', cap', rfl⟩ := own_shape4 hown'
                clear hown' hgrow x0 x1 x2 x3 HW3 KP3 X3 SZ3 BE3 GD3 z3
                go_wp2
                go_roundw
                case rel => exact ⟨k + 1, K ++ [⟨1, fn, fz, fs⟩], by omega, by rw [List.length_append]; simp; omega, by go_num, unhide BN⟩
                case measure => simp [intOf]; omega
              · have I1 := hide ((unhide HI).below ((Below.refl wr.heap.size wr).alloc (Nat.le_refl _) (.cells #[.int .i64 2, .int .i64 fn, .int .i64 fz, .string fs] 45)))
                have X1 : Hid (FldAt (wr.alloc (.cells #[.int .i64 2, .int .i64 fn, .int .i64 fz, .string fs] 45)) wr.heap.size ⟨2, fn, fz, fs⟩) := heap_alloc_new _ _
                go_wp2_with fail
                refine (wraw_s (wr.alloc (.cells #[.int .i64 2, .int .i64 fn, .int .i64 fz, .string fs] 45)) bw base (encs K) 0 fs hs (by omega) (unhide I1).sz hbb (unhide I1).wr).mono ?_
                rintro e w3 ⟨rfl, hw3, k3, s3⟩
                rw [wraw_good _ _ (by rw [blen]; omega)] at hw3
                have HW3 : Hid (WriterAt w3 bw base (encs (K ++ [⟨2, fn, fz, fs⟩])) 0) := by show WriterAt _ _ _ _ _; rw [encs_snoc, show encF ⟨2, fn, fz, fs⟩ = fs.data.toList by unfold encF; rw [if_neg (by simp), if_neg (by simp)]]; exact hw3
                have KP3 := hide (own_spares (unhide I1).kp s3 (by decide) hbb)
                have X3 : Hid (FldAt w3 wr.heap.size ⟨2, fn, fz, fs⟩) := s3 _ _ _ _ xne (by decide) (unhide X1)
                have SZ3 := hide (Nat.le_trans (unhide I1).sz k3.size)
                have BE3 := hide ((unhide I1).be.trans (k3.below _ (by omega) hbw))
                have GD3 := hide (unhide I1).gd
                clear hw3 k3 s3 I1 X1 HI
                obtain ⟨x0, x1, x2, x3⟩ := (unhide X3).cells
                have z3 := unhide SZ3
                go_wp2_with (at_builtin; refine wpList_append_own _ rfl _ _ 39 rfl base 45 i0 (.agg #[.int .i64 0, .int .i64 0, .int .i64 0, .string ⟨#[]⟩]) 4 40 Try.undF hi hz0 hz1 hz2 rfl (by decide) _ _ _ rfl ((unhide KP3).alloc _) ⟨w3.heap.size, 0, none⟩ 1 1 (fc ⟨2, fn, fz, fs⟩) rfl rfl (news_lit' _ _ _) (by intro u hu; simp [fc] at hu; rcases hu with rfl | rfl | rfl | rfl <;> rfl) (by unfold maxLen; omega) (by omega) (by simp; omega) ?_)
                intro v' w4 hown' hgrow _
                have BN : Hid (BInv w bw base w4 (K ++ [⟨2, fn, fz, fs⟩]) v') := by
                  have hal : Below w3.heap.size w3 (w3.alloc (.cells #[.int .i64 2, .int .i64 fn, .int .i64 fz, .string fs] 45)) := (Below.refl _ _).alloc (Nat.le_refl _) _
                  refine ⟨((unhide HW3).below hal).grown ((unhide KP3).alloc _) hgrow, ?_, ?_, ?_, ?_⟩
                  · rw [List.length_append, fcs_snoc]; exact hown'
                  · intro g hg
                    rcases List.mem_append.1 hg with hg | hg
                    · exact unhide GD3 g hg
                    · simp at hg; subst hg; exact (.inr (.inr ⟨rfl, h300⟩))
                  · exact Nat.le_trans (unhide SZ3) (Nat.le_trans hal.size hgrow.size)
                  · exact ((unhide BE3).trans (hal.mono (unhide BE3).size)).grown hgrow (Nat.le_trans (unhide BE3).size hal.size) (fun k hk => Nat.le_trans (by omega) ((unhide KP3).lt k hk).1)
                obtain ⟨ao', cap', rfl⟩ := own_shape4 hown'
                clear hown' hgrow x0 x1 x2 x3 HW3 KP3 X3 SZ3 BE3 GD3 z3
                go_wp2
                go_roundw
                case rel => exact ⟨k + 1, K ++ [⟨2, fn, fz, fs⟩], by omega, by rw [List.length_append]; simp; omega, by go_num, unhide BN⟩
                case measure => simp [intOf]; omega
      · have hx : (¬ (k : Int) < len) ∨ ((k : Int) < len ∧ ¬ (k : Int) < 30) := by omega
        have hby := hide (bytes_any wr bw base (encs K) 0 (unhide HI).wr)
        rw [if_pos rfl] at hby
        obtain ⟨T, hT⟩ : ∃ T : ByteArray, T = ⟨(encs K).toArray⟩ := ⟨_, rfl⟩
        have hTl : T.data.toList = encs K := by rw [hT]
        have hTs : T.size ≤ 9060 := by rw [← blen, hTl]; omega
        rw [← hT] at hby
        obtain ⟨D, hD⟩ : ∃ D : ByteArray, D = T ++ s := ⟨_, rfl⟩
        have HD := hide hD
        have HDL : Hid (D.data.toList = encs (K.drop 0) ++ s.data.toList) := by show _ = _; rw [hD, ByteArray.data_append, Array.toList_append, hTl]; rfl
        clear hT hTl hD hlt HF
        have B5 := hide (unhide HI).be
        have KP := hide (unhide HI).kp
        have GD := hide (unhide HI).gd
        have SZ := (unhide HI).be.size
        clear HI hel
        rcases hx with q | ⟨q, q'⟩
        all_goals
          go_wp2_with fail
          refine (unhide hby).mono ?_
          rintro e w6 ⟨rfl, nd, rfl⟩
          go_wp2_with fail
          rw [← unhide HD]
          refine (from_new' D _).mono ?_
          rintro e w7 ⟨br, rfl, rd7, hbr, b7⟩
          have B7 := hide ((below_drewN (unhide B5) nd).trans (b7.mono (by exact SZ)))
          have KP7 : Hid (w7.ownsRow base 45 4 (.slice ao K.length cp) K.length (fcs K)) := own_below4 (w := wr.drewN nd) (unhide KP) b7
          have hbrs : wr.heap.size ≤ br := hbr
          have KG : Hid (∀ g, ao = some ⟨g, 0, none⟩ → g < wr.heap.size) := by
            intro g hg
            exact ((unhide KP).lt g (by rw [hg]; rfl)).2
          have RD7 := hide rd7
          clear rd7 b7 hbr B5 KP hby HD
          go_wp2
          clear q
          try clear q'
          generalize wr.heap.size = wz at *
          go_loopw [14] (fun i wr => ∃ (j : Nat) (P : ByteArray), j ≤ K.length ∧ i = .int .i64 j ∧ P.data.toList = encs (K.drop j) ++ s.data.toList ∧ RdAt wr br (P, 0) ∧ Kept w7.heap.size br w7 wr) (fun i _ => K.length - (intOf i).toNat)
          case atStart => exact ⟨0, D, by omega, rfl, unhide HDL, unhide RD7, Kept.refl _ _ _⟩
          case round =>
            clear HDL RD7
            obtain ⟨j, P, hj, rfl, hen, hrd, hkb⟩ := hrel
            have HRD := hide hrd
            have HKB := hide hkb
            have hdl : (encs (K.drop j)).length ≤ 302 * (K.drop j).length := encs_len _ (fun f hf => unhide GD f (List.mem_of_mem_drop hf))
            have hdd : (K.drop j).length ≤ 30 := by rw [List.length_drop]; omega
            have HPS : Hid (P.size ≤ 11060) := by show _ ≤ _; rw [← blen, hen, List.length_append, blen]; omega
            clear hrd hkb hdl hdd
            by_cases hlj : j < K.length
            · rw [encs_drop K j hlj, List.append_assoc] at hen
              obtain ⟨e0, e1, e2, e3⟩ := fcs_at K j hlj
              have hgf := unhide GD K[j] (List.getElem_mem hlj)
              obtain ⟨g, cpg, hvv, hcell, hgg⟩ : ∃ g cpg, Value.slice ao K.length cp = .slice (some ⟨g, 0, none⟩) K.length cpg ∧ (∀ i, i < K.length * 4 → wr.cell? ⟨g, i, none⟩ = (fcs K)[i]?) ∧ True := by
                rcases (unhide KP7).2 with ⟨_, h0⟩ | ⟨g, cpg, cur, hv, hg, hh, r⟩
                · omega
                · refine ⟨g, cpg, hv, fun i hi => ?_, trivial⟩
                  have hao : ao = some ⟨g, 0, none⟩ := by cases hv; rfl
                  have hgl := unhide KG g hao
                  have hk := unhide KP7
                  rw [hv] at hk
                  rw [← hk.cellAt i hi]
                  exact World.cell?_of_block ((unhide HKB).block g (lt_of_block hh) (by omega))
              cases hvv
              have c0 := (hcell (j * 4) (by omega)).trans e0
              have c1 := (hcell (j * 4 + 1) (by omega)).trans e1
              have c2 := (hcell (j * 4 + 2) (by omega)).trans e2
              have c3 := (hcell (j * 4 + 3) (by omega)).trans e3
              have q1 : (j : Int) < K.length := by omega
              clear e0 e1 e2 e3 hcell
              generalize K[j] = f at *
              obtain ⟨fk, fn, fz, fs⟩ := f
              simp only at c0 c1 c2 c3
              rcases hgf with ⟨hk0, hgd⟩ | ⟨hk0, hgd⟩ | ⟨hk0, hgd⟩
              · simp only at hk0 hgd
                subst hk0
                have HEN : Hid (P.data.toList = (putS fn fz).1 ++ (encs (K.drop (j + 1)) ++ s.data.toList)) := by show _ = _; rw [hen]; unfold encF; rw [if_pos rfl]
                clear hen
                go_wp2
                obtain ⟨W0, hW0⟩ : ∃ W0, W0 = (wr.alloc (.cells #[.int .i64 0, .int .i64 fn, .int .i64 fz, .string fs] 45)).drew := ⟨_, rfl⟩
                have HX0 : Hid (FldAt W0 wr.heap.size ⟨0, fn, fz, fs⟩) := by show FldAt _ _ _; rw [hW0]; exact heap_alloc_new _ _
                have HR0 : Hid (RdAt W0 br (P, 0)) := by show RdAt _ _ _; rw [hW0]; exact (Below.heap_alloc _ _ _ (lt_of_block (unhide HRD))).trans (unhide HRD)
                have HB0 : Hid (Below wr.heap.size wr W0) := by show Below _ _ _; rw [hW0]; exact ((Below.refl _ _).alloc (Nat.le_refl _) _).drew
                have hxr : wr.heap.size ≠ br := Nat.ne_of_gt (lt_of_block (unhide HRD))
                have hcall := hide (rnum_any W0 br (P, 0) fz (show P.size ≤ maxLen by unfold maxLen; have := unhide HPS; omega) (unhide HR0))
                obtain ⟨hb1, P2, hb2, hb3⟩ := num_back P fn fz _ hgd (unhide HEN)
                rw [hb1, hb2] at hcall
                have HP2 := hide hb3
                have hW0s : Hid (W0 = (wr.alloc (.cells #[.int .i64 0, .int .i64 fn, .int .i64 fz, .string fs] 45)).drew) := hW0
                clear hb1 hb2 hb3 hW0
                generalize hA : Act.mk _ _ = A
                have hA13 : A.eval (.tmp 13) = .pointer (some ⟨br, 0, none⟩) := by rw [← hA]; rfl
                have hA15 : A.eval (.tmp 15) = .pointer (some ⟨wr.heap.size, 0, none⟩) := by rw [← hA]; rfl
                have hAs : A.tmps.size = 172 := by rw [← hA]; rfl
                obtain ⟨V, hVe⟩ : ∃ V : List (Nat × Nat × Value), V = [(0, 112, .pointer (some ⟨wr.heap.size, 0, none⟩)), (1, 113, .int .i64 0), (2, 114, .bool true), (3, 115, .bool true), (4, 116, .pointer (some ⟨br, 0, none⟩)), (5, 117, .pointer (some ⟨wr.heap.size, 2, none⟩)), (6, 118, .int .i64 fz), (7, 119, .int .i64 fn), (8, 120, .pointer (some ⟨wr.heap.size, 1, none⟩)), (9, 121, .int .i64 fn), (10, 122, .bool false), (11, 123, .bool false), (12, 124, .bool false), (13, 125, .pointer (some ⟨wr.heap.size, 0, none⟩)), (14, 126, .int .i64 0), (15, 127, .bool false), (16, 128, .bool false), (22, 134, .bool false), (23, 135, .bool false), (24, 136, .bool false), (25, 137, .pointer (some ⟨wr.heap.size, 0, none⟩)), (26, 138, .int .i64 0), (27, 139, .bool false), (28, 140, .bool false), (37, 149, .bool false), (38, 150, .bool false)] := ⟨_, rfl⟩
                refine wp_region_invS (by kernel_rfl) (by kernel_rfl) (fun f a wx => Off [150, 112, 113, 114, 115, 116, 117, 118, 119, 120, 121, 122, 123, 124, 125, 126, 127, 128, 129, 130, 131, 132, 133, 134, 135, 136, 137, 138, 139, 140, 141, 142, 143, 144, 145, 146, 147, 148, 149] A a ∧ ValsOk V f a ∧ (f 7 = false → wx = W0) ∧ (f 7 = true → RdAt wx br (P2, 0) ∧ Kept W0.heap.size br W0 wx)) ?start ?step ?fin
                case start => exact ⟨Off.refl _ _, vals_start _ _, fun _ => (unhide hW0s).symm, by simp⟩
                case step =>
                  rintro f a wx i o ⟨hoff, hV, n0, n1⟩ ho hfi hdep
                  have has : a.tmps.size = 172 := hoff.size.trans hAs
                  have hX : FldAt wx wr.heap.size ⟨0, fn, fz, fs⟩ := by
                    cases hf : f 7 with
                    | false => rw [n0 hf]; exact unhide HX0
                    | true => exact ((n1 hf).2.block _ (lt_of_block (unhide HX0)) hxr).trans (unhide HX0)
                  have hv := fun (i d : Nat) (v : Value) (hm : (i, d, v) ∈ V) (hf : f i = true) => hV (i, d, v) hm hf
                  rcases i with _ | _ | _ | _ | _ | _ | _ | _ | _ | _ | _ | _ | _ | _ | _ | _ | _ | _ | _ | _ | _ | _ | _ | _ | _ | _ | _ | _ | _ | _ | _ | _ | _ | _ | _ | _ | _ | _ | _ | i
                  · obtain rfl := Option.some.inj ho
                    refine .inl ⟨rfl, ?_⟩
                    refine wp_field 45 (.tmp 15) 0 rfl _ _ ((hoff.eval 15 (by simp)).trans hA15) (fa_fld0 _) ?_
                    exact ⟨hoff.put 112 _ (by simp), vals_put hV 0 112 _ (by omega) (by rw [hVe]; simp) (by rw [hVe]; simp), n0, n1⟩
                  · obtain rfl := Option.some.inj ho
                    have d0 : f 0 = true := hdep ⟨0, .data⟩ (by simp) rfl
                    refine .inl ⟨rfl, ?_⟩
                    refine wp_load1 3 (.tmp 112) rfl _ _ (hv 0 112 (.pointer (some ⟨wr.heap.size, 0, none⟩)) (by rw [hVe]; simp) d0) (loadI _ _ _ hX.cells.1) ?_
                    exact ⟨hoff.put 113 _ (by simp), vals_put hV 1 113 _ (by omega) (by rw [hVe]; simp) (by rw [hVe]; simp), n0, n1⟩
                  · obtain rfl := Option.some.inj ho
                    have d1 : f 1 = true := hdep ⟨1, .data⟩ (by simp) rfl
                    refine .inl ⟨rfl, ?_⟩
                    refine wp_eq64T 3 3 (.tmp 113) (.const (.int .i64 0)) rfl Try.underlying3 0 (hv 1 113 (.int .i64 0) (by rw [hVe]; simp) d1) rfl ?_
                    exact ⟨hoff.put 114 _ (by simp), vals_put hV 2 114 _ (by omega) (by rw [hVe]; simp) (by rw [hVe]; simp), n0, n1⟩
                  · obtain rfl := Option.some.inj ho
                    have d2 : f 2 = true := hdep ⟨2, .data⟩ (by simp) rfl
                    refine .inl ⟨rfl, ?_⟩
                    refine wp_move (.tmp 114) rfl ?_
                    rw [(hv 2 114 (.bool true) (by rw [hVe]; simp) d2)]
                    exact ⟨hoff.put 115 _ (by simp), vals_put hV 3 115 _ (by omega) (by rw [hVe]; simp) (by rw [hVe]; simp), n0, n1⟩
                  · obtain rfl := Option.some.inj ho
                    have d3 : f 3 = true := hdep ⟨3, .guard⟩ (by simp) rfl
                    refine .inl ⟨wanted_of 3 115 true rfl rfl (hv 3 115 (.bool true) (by rw [hVe]; simp) d3), ?_⟩
                    refine wp_move (.tmp 13) rfl ?_
                    rw [((hoff.eval 13 (by simp)).trans hA13)]
                    exact ⟨hoff.put 116 _ (by simp), vals_put hV 4 116 _ (by omega) (by rw [hVe]; simp) (by rw [hVe]; simp), n0, n1⟩
                  · obtain rfl := Option.some.inj ho
                    have d3 : f 3 = true := hdep ⟨3, .guard⟩ (by simp) rfl
                    refine .inl ⟨wanted_of 3 115 true rfl rfl (hv 3 115 (.bool true) (by rw [hVe]; simp) d3), ?_⟩
                    refine wp_field 45 (.tmp 15) 2 rfl _ _ ((hoff.eval 15 (by simp)).trans hA15) (fa_fld2 _) ?_
                    exact ⟨hoff.put 117 _ (by simp), vals_put hV 5 117 _ (by omega) (by rw [hVe]; simp) (by rw [hVe]; simp), n0, n1⟩
                  · obtain rfl := Option.some.inj ho
                    have d3 : f 3 = true := hdep ⟨3, .guard⟩ (by simp) rfl
                    have d5 : f 5 = true := hdep ⟨5, .data⟩ (by simp) rfl
                    refine .inl ⟨wanted_of 3 115 true rfl rfl (hv 3 115 (.bool true) (by rw [hVe]; simp) d3), ?_⟩
                    refine wp_load1 3 (.tmp 117) rfl _ _ (hv 5 117 (.pointer (some ⟨wr.heap.size, 2, none⟩)) (by rw [hVe]; simp) d5) (loadI _ _ _ hX.cells.2.2.1) ?_
                    exact ⟨hoff.put 118 _ (by simp), vals_put hV 6 118 _ (by omega) (by rw [hVe]; simp) (by rw [hVe]; simp), n0, n1⟩
                  · obtain rfl := Option.some.inj ho
                    have d3 : f 3 = true := hdep ⟨3, .guard⟩ (by simp) rfl
                    have d4 : f 4 = true := hdep ⟨4, .data⟩ (by simp) rfl
                    have d6 : f 6 = true := hdep ⟨6, .data⟩ (by simp) rfl
                    refine .inl ⟨wanted_of 3 115 true rfl rfl (hv 3 115 (.bool true) (by rw [hVe]; simp) d3), ?_⟩
                    have hW := n0 hfi
                    subst hW
                    refine wp_call 29 #[.tmp 116, .tmp 118] #[52, 3] rfl Try.call29 #[.pointer (some ⟨br, 0, none⟩), .int .i64 fz] (by simp [(hv 4 116 (.pointer (some ⟨br, 0, none⟩)) (by rw [hVe]; simp) d4), (hv 6 118 (.int .i64 fz) (by rw [hVe]; simp) d6)]) (unhide hcall) ?_
                    rintro e w3 ⟨rfl, rd3, k3⟩
                    exact ⟨_, rfl, hoff.put 119 _ (by simp), vals_put hV 7 119 _ (by omega) (by rw [hVe]; simp) (by rw [hVe]; simp), fun h => absurd h (by show ¬ upd f 7 7 = false; simp [upd]), fun _ => ⟨rd3, k3⟩⟩
                  · obtain rfl := Option.some.inj ho
                    have d3 : f 3 = true := hdep ⟨3, .guard⟩ (by simp) rfl
                    refine .inl ⟨wanted_of 3 115 true rfl rfl (hv 3 115 (.bool true) (by rw [hVe]; simp) d3), ?_⟩
                    refine wp_field 45 (.tmp 15) 1 rfl _ _ ((hoff.eval 15 (by simp)).trans hA15) (fa_fld1 _) ?_
                    exact ⟨hoff.put 120 _ (by simp), vals_put hV 8 120 _ (by omega) (by rw [hVe]; simp) (by rw [hVe]; simp), n0, n1⟩
                  · obtain rfl := Option.some.inj ho
                    have d3 : f 3 = true := hdep ⟨3, .guard⟩ (by simp) rfl
                    have d8 : f 8 = true := hdep ⟨8, .data⟩ (by simp) rfl
                    refine .inl ⟨wanted_of 3 115 true rfl rfl (hv 3 115 (.bool true) (by rw [hVe]; simp) d3), ?_⟩
                    refine wp_load1 3 (.tmp 120) rfl _ _ (hv 8 120 (.pointer (some ⟨wr.heap.size, 1, none⟩)) (by rw [hVe]; simp) d8) (loadI _ _ _ hX.cells.2.1) ?_
                    exact ⟨hoff.put 121 _ (by simp), vals_put hV 9 121 _ (by omega) (by rw [hVe]; simp) (by rw [hVe]; simp), n0, n1⟩
                  · obtain rfl := Option.some.inj ho
                    have d3 : f 3 = true := hdep ⟨3, .guard⟩ (by simp) rfl
                    have d7 : f 7 = true := hdep ⟨7, .data⟩ (by simp) rfl
                    have d9 : f 9 = true := hdep ⟨9, .data⟩ (by simp) rfl
                    refine .inl ⟨wanted_of 3 115 true rfl rfl (hv 3 115 (.bool true) (by rw [hVe]; simp) d3), ?_⟩
                    refine wp_ne64F 3 3 (.tmp 119) (.tmp 121) rfl Try.underlying3 _ (hv 7 119 (.int .i64 fn) (by rw [hVe]; simp) d7) (hv 9 121 (.int .i64 fn) (by rw [hVe]; simp) d9) ?_
                    exact ⟨hoff.put 122 _ (by simp), vals_put hV 10 122 _ (by omega) (by rw [hVe]; simp) (by rw [hVe]; simp), n0, n1⟩
                  · obtain rfl := Option.some.inj ho
                    have d3 : f 3 = true := hdep ⟨3, .data⟩ (by simp) rfl
                    have d10 : f 10 = true := hdep ⟨10, .data⟩ (by simp) rfl
                    refine .inl ⟨rfl, ?_⟩
                    refine wp_pickT (.tmp 115) (.tmp 122) (.const (.bool false)) rfl _ (hv 3 115 (.bool true) (by rw [hVe]; simp) d3) (hv 10 122 (.bool false) (by rw [hVe]; simp) d10) ?_
                    exact ⟨hoff.put 123 _ (by simp), vals_put hV 11 123 _ (by omega) (by rw [hVe]; simp) (by rw [hVe]; simp), n0, n1⟩
                  · obtain rfl := Option.some.inj ho
                    have d11 : f 11 = true := hdep ⟨11, .data⟩ (by simp) rfl
                    refine .inl ⟨rfl, ?_⟩
                    refine wp_move (.tmp 123) rfl ?_
                    rw [(hv 11 123 (.bool false) (by rw [hVe]; simp) d11)]
                    exact ⟨hoff.put 124 _ (by simp), vals_put hV 12 124 _ (by omega) (by rw [hVe]; simp) (by rw [hVe]; simp), n0, n1⟩
                  · obtain rfl := Option.some.inj ho
                    have d12 : f 12 = true := hdep ⟨12, .guard⟩ (by simp) rfl
                    refine .inl ⟨wanted_of 12 124 false rfl rfl (hv 12 124 (.bool false) (by rw [hVe]; simp) d12), ?_⟩
                    refine wp_field 45 (.tmp 15) 0 rfl _ _ ((hoff.eval 15 (by simp)).trans hA15) (fa_fld0 _) ?_
                    exact ⟨hoff.put 125 _ (by simp), vals_put hV 13 125 _ (by omega) (by rw [hVe]; simp) (by rw [hVe]; simp), n0, n1⟩
                  · obtain rfl := Option.some.inj ho
                    have d12 : f 12 = true := hdep ⟨12, .guard⟩ (by simp) rfl
                    have d13 : f 13 = true := hdep ⟨13, .data⟩ (by simp) rfl
                    refine .inl ⟨wanted_of 12 124 false rfl rfl (hv 12 124 (.bool false) (by rw [hVe]; simp) d12), ?_⟩
                    refine wp_load1 3 (.tmp 125) rfl _ _ (hv 13 125 (.pointer (some ⟨wr.heap.size, 0, none⟩)) (by rw [hVe]; simp) d13) (loadI _ _ _ hX.cells.1) ?_
                    exact ⟨hoff.put 126 _ (by simp), vals_put hV 14 126 _ (by omega) (by rw [hVe]; simp) (by rw [hVe]; simp), n0, n1⟩
                  · obtain rfl := Option.some.inj ho
                    have d12 : f 12 = true := hdep ⟨12, .guard⟩ (by simp) rfl
                    have d14 : f 14 = true := hdep ⟨14, .data⟩ (by simp) rfl
                    refine .inl ⟨wanted_of 12 124 false rfl rfl (hv 12 124 (.bool false) (by rw [hVe]; simp) d12), ?_⟩
                    refine wp_eq64F 3 3 (.tmp 126) (.const (.int .i64 1)) rfl Try.underlying3 0 1 (by decide) (hv 14 126 (.int .i64 0) (by rw [hVe]; simp) d14) rfl ?_
                    exact ⟨hoff.put 127 _ (by simp), vals_put hV 15 127 _ (by omega) (by rw [hVe]; simp) (by rw [hVe]; simp), n0, n1⟩
                  · obtain rfl := Option.some.inj ho
                    have d12 : f 12 = true := hdep ⟨12, .guard⟩ (by simp) rfl
                    have d15 : f 15 = true := hdep ⟨15, .data⟩ (by simp) rfl
                    refine .inl ⟨wanted_of 12 124 false rfl rfl (hv 12 124 (.bool false) (by rw [hVe]; simp) d12), ?_⟩
                    refine wp_move (.tmp 127) rfl ?_
                    rw [(hv 15 127 (.bool false) (by rw [hVe]; simp) d15)]
                    exact ⟨hoff.put 128 _ (by simp), vals_put hV 16 128 _ (by omega) (by rw [hVe]; simp) (by rw [hVe]; simp), n0, n1⟩
                  · obtain rfl := Option.some.inj ho
                    have d16 : f 16 = true := hdep ⟨16, .guard⟩ (by simp) rfl
                    exact .inr ⟨unwanted_of 16 128 true rfl rfl (hv 16 128 (.bool false) (by rw [hVe]; simp) d16), hoff.put 129 _ (by simp), vals_put hV 17 129 _ (by omega) (by rw [hVe]; simp) (by rw [hVe]; simp), n0, n1⟩
                  · obtain rfl := Option.some.inj ho
                    have d16 : f 16 = true := hdep ⟨16, .guard⟩ (by simp) rfl
                    exact .inr ⟨unwanted_of 16 128 true rfl rfl (hv 16 128 (.bool false) (by rw [hVe]; simp) d16), hoff.put 130 _ (by simp), vals_put hV 18 130 _ (by omega) (by rw [hVe]; simp) (by rw [hVe]; simp), n0, n1⟩
                  · obtain rfl := Option.some.inj ho
                    have d16 : f 16 = true := hdep ⟨16, .guard⟩ (by simp) rfl
                    exact .inr ⟨unwanted_of 16 128 true rfl rfl (hv 16 128 (.bool false) (by rw [hVe]; simp) d16), hoff.put 131 _ (by simp), vals_put hV 19 131 _ (by omega) (by rw [hVe]; simp) (by rw [hVe]; simp), n0, n1⟩
                  · obtain rfl := Option.some.inj ho
                    have d16 : f 16 = true := hdep ⟨16, .guard⟩ (by simp) rfl
                    exact .inr ⟨unwanted_of 16 128 true rfl rfl (hv 16 128 (.bool false) (by rw [hVe]; simp) d16), hoff.put 132 _ (by simp), vals_put hV 20 132 _ (by omega) (by rw [hVe]; simp) (by rw [hVe]; simp), n0, n1⟩
                  · obtain rfl := Option.some.inj ho
                    have d16 : f 16 = true := hdep ⟨16, .guard⟩ (by simp) rfl
                    exact .inr ⟨unwanted_of 16 128 true rfl rfl (hv 16 128 (.bool false) (by rw [hVe]; simp) d16), hoff.put 133 _ (by simp), vals_put hV 21 133 _ (by omega) (by rw [hVe]; simp) (by rw [hVe]; simp), n0, n1⟩
                  · obtain rfl := Option.some.inj ho
                    have d12 : f 12 = true := hdep ⟨12, .guard⟩ (by simp) rfl
                    have d16 : f 16 = true := hdep ⟨16, .data⟩ (by simp) rfl
                    refine .inl ⟨wanted_of 12 124 false rfl rfl (hv 12 124 (.bool false) (by rw [hVe]; simp) d12), ?_⟩
                    refine wp_pickF (.tmp 128) (.tmp 133) (.const (.bool false)) rfl (.bool false) (hv 16 128 (.bool false) (by rw [hVe]; simp) d16) rfl ?_
                    exact ⟨hoff.put 134 _ (by simp), vals_put hV 22 134 _ (by omega) (by rw [hVe]; simp) (by rw [hVe]; simp), n0, n1⟩
                  · obtain rfl := Option.some.inj ho
                    have d12 : f 12 = true := hdep ⟨12, .data⟩ (by simp) rfl
                    have d22 : f 22 = true := hdep ⟨22, .data⟩ (by simp) rfl
                    refine .inl ⟨rfl, ?_⟩
                    refine wp_pickF (.tmp 124) (.const (.bool true)) (.tmp 134) rfl _ (hv 12 124 (.bool false) (by rw [hVe]; simp) d12) (hv 22 134 (.bool false) (by rw [hVe]; simp) d22) ?_
                    exact ⟨hoff.put 135 _ (by simp), vals_put hV 23 135 _ (by omega) (by rw [hVe]; simp) (by rw [hVe]; simp), n0, n1⟩
                  · obtain rfl := Option.some.inj ho
                    have d23 : f 23 = true := hdep ⟨23, .data⟩ (by simp) rfl
                    refine .inl ⟨rfl, ?_⟩
                    refine wp_move (.tmp 135) rfl ?_
                    rw [(hv 23 135 (.bool false) (by rw [hVe]; simp) d23)]
                    exact ⟨hoff.put 136 _ (by simp), vals_put hV 24 136 _ (by omega) (by rw [hVe]; simp) (by rw [hVe]; simp), n0, n1⟩
                  · obtain rfl := Option.some.inj ho
                    have d24 : f 24 = true := hdep ⟨24, .guard⟩ (by simp) rfl
                    refine .inl ⟨wanted_of 24 136 false rfl rfl (hv 24 136 (.bool false) (by rw [hVe]; simp) d24), ?_⟩
                    refine wp_field 45 (.tmp 15) 0 rfl _ _ ((hoff.eval 15 (by simp)).trans hA15) (fa_fld0 _) ?_
                    exact ⟨hoff.put 137 _ (by simp), vals_put hV 25 137 _ (by omega) (by rw [hVe]; simp) (by rw [hVe]; simp), n0, n1⟩
                  · obtain rfl := Option.some.inj ho
                    have d24 : f 24 = true := hdep ⟨24, .guard⟩ (by simp) rfl
                    have d25 : f 25 = true := hdep ⟨25, .data⟩ (by simp) rfl
                    refine .inl ⟨wanted_of 24 136 false rfl rfl (hv 24 136 (.bool false) (by rw [hVe]; simp) d24), ?_⟩
                    refine wp_load1 3 (.tmp 137) rfl _ _ (hv 25 137 (.pointer (some ⟨wr.heap.size, 0, none⟩)) (by rw [hVe]; simp) d25) (loadI _ _ _ hX.cells.1) ?_
                    exact ⟨hoff.put 138 _ (by simp), vals_put hV 26 138 _ (by omega) (by rw [hVe]; simp) (by rw [hVe]; simp), n0, n1⟩
                  · obtain rfl := Option.some.inj ho
                    have d24 : f 24 = true := hdep ⟨24, .guard⟩ (by simp) rfl
                    have d26 : f 26 = true := hdep ⟨26, .data⟩ (by simp) rfl
                    refine .inl ⟨wanted_of 24 136 false rfl rfl (hv 24 136 (.bool false) (by rw [hVe]; simp) d24), ?_⟩
                    refine wp_eq64F 3 3 (.tmp 138) (.const (.int .i64 2)) rfl Try.underlying3 0 2 (by decide) (hv 26 138 (.int .i64 0) (by rw [hVe]; simp) d26) rfl ?_
                    exact ⟨hoff.put 139 _ (by simp), vals_put hV 27 139 _ (by omega) (by rw [hVe]; simp) (by rw [hVe]; simp), n0, n1⟩
                  · obtain rfl := Option.some.inj ho
                    have d24 : f 24 = true := hdep ⟨24, .guard⟩ (by simp) rfl
                    have d27 : f 27 = true := hdep ⟨27, .data⟩ (by simp) rfl
                    refine .inl ⟨wanted_of 24 136 false rfl rfl (hv 24 136 (.bool false) (by rw [hVe]; simp) d24), ?_⟩
                    refine wp_move (.tmp 139) rfl ?_
                    rw [(hv 27 139 (.bool false) (by rw [hVe]; simp) d27)]
                    exact ⟨hoff.put 140 _ (by simp), vals_put hV 28 140 _ (by omega) (by rw [hVe]; simp) (by rw [hVe]; simp), n0, n1⟩
                  · obtain rfl := Option.some.inj ho
                    have d28 : f 28 = true := hdep ⟨28, .guard⟩ (by simp) rfl
                    exact .inr ⟨unwanted_of 28 140 true rfl rfl (hv 28 140 (.bool false) (by rw [hVe]; simp) d28), hoff.put 141 _ (by simp), vals_put hV 29 141 _ (by omega) (by rw [hVe]; simp) (by rw [hVe]; simp), n0, n1⟩
                  · obtain rfl := Option.some.inj ho
                    have d28 : f 28 = true := hdep ⟨28, .guard⟩ (by simp) rfl
                    exact .inr ⟨unwanted_of 28 140 true rfl rfl (hv 28 140 (.bool false) (by rw [hVe]; simp) d28), hoff.put 142 _ (by simp), vals_put hV 30 142 _ (by omega) (by rw [hVe]; simp) (by rw [hVe]; simp), n0, n1⟩
                  · obtain rfl := Option.some.inj ho
                    have d28 : f 28 = true := hdep ⟨28, .guard⟩ (by simp) rfl
                    exact .inr ⟨unwanted_of 28 140 true rfl rfl (hv 28 140 (.bool false) (by rw [hVe]; simp) d28), hoff.put 143 _ (by simp), vals_put hV 31 143 _ (by omega) (by rw [hVe]; simp) (by rw [hVe]; simp), n0, n1⟩
                  · obtain rfl := Option.some.inj ho
                    have d28 : f 28 = true := hdep ⟨28, .guard⟩ (by simp) rfl
                    exact .inr ⟨unwanted_of 28 140 true rfl rfl (hv 28 140 (.bool false) (by rw [hVe]; simp) d28), hoff.put 144 _ (by simp), vals_put hV 32 144 _ (by omega) (by rw [hVe]; simp) (by rw [hVe]; simp), n0, n1⟩
                  · obtain rfl := Option.some.inj ho
                    have d28 : f 28 = true := hdep ⟨28, .guard⟩ (by simp) rfl
                    exact .inr ⟨unwanted_of 28 140 true rfl rfl (hv 28 140 (.bool false) (by rw [hVe]; simp) d28), hoff.put 145 _ (by simp), vals_put hV 33 145 _ (by omega) (by rw [hVe]; simp) (by rw [hVe]; simp), n0, n1⟩
                  · obtain rfl := Option.some.inj ho
                    have d28 : f 28 = true := hdep ⟨28, .guard⟩ (by simp) rfl
                    exact .inr ⟨unwanted_of 28 140 true rfl rfl (hv 28 140 (.bool false) (by rw [hVe]; simp) d28), hoff.put 146 _ (by simp), vals_put hV 34 146 _ (by omega) (by rw [hVe]; simp) (by rw [hVe]; simp), n0, n1⟩
                  · obtain rfl := Option.some.inj ho
                    have d28 : f 28 = true := hdep ⟨28, .guard⟩ (by simp) rfl
                    exact .inr ⟨unwanted_of 28 140 true rfl rfl (hv 28 140 (.bool false) (by rw [hVe]; simp) d28), hoff.put 147 _ (by simp), vals_put hV 35 147 _ (by omega) (by rw [hVe]; simp) (by rw [hVe]; simp), n0, n1⟩
                  · obtain rfl := Option.some.inj ho
                    have d28 : f 28 = true := hdep ⟨28, .guard⟩ (by simp) rfl
                    exact .inr ⟨unwanted_of 28 140 true rfl rfl (hv 28 140 (.bool false) (by rw [hVe]; simp) d28), hoff.put 148 _ (by simp), vals_put hV 36 148 _ (by omega) (by rw [hVe]; simp) (by rw [hVe]; simp), n0, n1⟩
                  · obtain rfl := Option.some.inj ho
                    have d24 : f 24 = true := hdep ⟨24, .guard⟩ (by simp) rfl
                    have d28 : f 28 = true := hdep ⟨28, .data⟩ (by simp) rfl
                    refine .inl ⟨wanted_of 24 136 false rfl rfl (hv 24 136 (.bool false) (by rw [hVe]; simp) d24), ?_⟩
                    refine wp_pickF (.tmp 140) (.tmp 148) (.const (.bool false)) rfl (.bool false) (hv 28 140 (.bool false) (by rw [hVe]; simp) d28) rfl ?_
                    exact ⟨hoff.put 149 _ (by simp), vals_put hV 37 149 _ (by omega) (by rw [hVe]; simp) (by rw [hVe]; simp), n0, n1⟩
                  · obtain rfl := Option.some.inj ho
                    have d24 : f 24 = true := hdep ⟨24, .data⟩ (by simp) rfl
                    have d37 : f 37 = true := hdep ⟨37, .data⟩ (by simp) rfl
                    refine .inl ⟨rfl, ?_⟩
                    refine wp_pickF (.tmp 136) (.const (.bool true)) (.tmp 149) rfl _ (hv 24 136 (.bool false) (by rw [hVe]; simp) d24) (hv 37 149 (.bool false) (by rw [hVe]; simp) d37) ?_
                    exact ⟨hoff.put 150 _ (by simp), vals_put hV 38 150 _ (by omega) (by rw [hVe]; simp) (by rw [hVe]; simp), n0, n1⟩
                  · simp at ho
                case fin =>
                  rintro f a wx ⟨hoff, hV, n0, n1⟩ hall
                  have e := Off.all _ _ hoff
                  have e150 : a.eval (.tmp 150) = .bool false := hV (38, 150, .bool false) (by rw [hVe]; simp) (hall 38 (by decide))
                  obtain ⟨rd9, k9⟩ := n1 (hall 7 (by decide))
                  have RD9 := hide rd9
                  have K9 := hide ((unhide HKB).trans ((Kept.of_below ((unhide HB0).mono (unhide HKB).size)).trans (k9.mono (Nat.le_trans (unhide HKB).size (unhide HB0).size))))
                  simp only [List.foldl_cons, List.foldl_nil] at e
                  rw [← hA, e150] at e
                  generalize a.eval (.tmp 112) = y112, a.eval (.tmp 113) = y113, a.eval (.tmp 114) = y114, a.eval (.tmp 115) = y115, a.eval (.tmp 116) = y116, a.eval (.tmp 117) = y117, a.eval (.tmp 118) = y118, a.eval (.tmp 119) = y119, a.eval (.tmp 120) = y120, a.eval (.tmp 121) = y121, a.eval (.tmp 122) = y122, a.eval (.tmp 123) = y123, a.eval (.tmp 124) = y124, a.eval (.tmp 125) = y125, a.eval (.tmp 126) = y126, a.eval (.tmp 127) = y127, a.eval (.tmp 128) = y128, a.eval (.tmp 129) = y129, a.eval (.tmp 130) = y130, a.eval (.tmp 131) = y131, a.eval (.tmp 132) = y132, a.eval (.tmp 133) = y133, a.eval (.tmp 134) = y134, a.eval (.tmp 135) = y135, a.eval (.tmp 136) = y136, a.eval (.tmp 137) = y137, a.eval (.tmp 138) = y138, a.eval (.tmp 139) = y139, a.eval (.tmp 140) = y140, a.eval (.tmp 141) = y141, a.eval (.tmp 142) = y142, a.eval (.tmp 143) = y143, a.eval (.tmp 144) = y144, a.eval (.tmp 145) = y145, a.eval (.tmp 146) = y146, a.eval (.tmp 147) = y147, a.eval (.tmp 148) = y148, a.eval (.tmp 149) = y149 at e
                  simp only [Act.put, List.setIfInBounds_toArray, List.set_cons_succ, List.set_cons_zero] at e
                  subst e
                  clear hoff hV hA hA13 hA15 hVe e150 n0 n1 rd9 k9 hcall HX0 HR0 HB0 hW0s
                  go_wp2
                  go_roundw
                  case rel => exact ⟨j + 1, P2, by omega, by go_num, unhide HP2, unhide RD9, unhide K9⟩
                  case measure => simp [intOf]; omega
              · simp only at hk0 hgd
                subst hk0
                have HEN : Hid (P.data.toList = ((putS fs.size 2).1 ++ fs.data.toList) ++ (encs (K.drop (j + 1)) ++ s.data.toList)) := by show _ = _; rw [hen]; unfold encF; rw [if_neg (by simp), if_pos rfl]
                clear hen
                go_wp2
                obtain ⟨W0, hW0⟩ : ∃ W0, W0 = (wr.alloc (.cells #[.int .i64 1, .int .i64 fn, .int .i64 fz, .string fs] 45)).drew := ⟨_, rfl⟩
                have HX0 : Hid (FldAt W0 wr.heap.size ⟨1, fn, fz, fs⟩) := by show FldAt _ _ _; rw [hW0]; exact heap_alloc_new _ _
                have HR0 : Hid (RdAt W0 br (P, 0)) := by show RdAt _ _ _; rw [hW0]; exact (Below.heap_alloc _ _ _ (lt_of_block (unhide HRD))).trans (unhide HRD)
                have HB0 : Hid (Below wr.heap.size wr W0) := by show Below _ _ _; rw [hW0]; exact ((Below.refl _ _).alloc (Nat.le_refl _) _).drew
                have hxr : wr.heap.size ≠ br := Nat.ne_of_gt (lt_of_block (unhide HRD))
                have hcall := hide (rtext_any W0 br (P, 0) (show P.size ≤ maxLen by unfold maxLen; have := unhide HPS; omega) (unhide HR0))
                obtain ⟨hb1, P2, hb2, hb3⟩ := text_back P fs _ hgd (unhide HEN)
                rw [hb1, hb2] at hcall
                have HP2 := hide hb3
                have hW0s : Hid (W0 = (wr.alloc (.cells #[.int .i64 1, .int .i64 fn, .int .i64 fz, .string fs] 45)).drew) := hW0
                clear hb1 hb2 hb3 hW0
                generalize hA : Act.mk _ _ = A
                have hA13 : A.eval (.tmp 13) = .pointer (some ⟨br, 0, none⟩) := by rw [← hA]; rfl
                have hA15 : A.eval (.tmp 15) = .pointer (some ⟨wr.heap.size, 0, none⟩) := by rw [← hA]; rfl
                have hAs : A.tmps.size = 172 := by rw [← hA]; rfl
                obtain ⟨V, hVe⟩ : ∃ V : List (Nat × Nat × Value), V = [(0, 112, .pointer (some ⟨wr.heap.size, 0, none⟩)), (1, 113, .int .i64 1), (2, 114, .bool false), (3, 115, .bool false), (11, 123, .bool false), (12, 124, .bool false), (13, 125, .pointer (some ⟨wr.heap.size, 0, none⟩)), (14, 126, .int .i64 1), (15, 127, .bool true), (16, 128, .bool true), (17, 129, .pointer (some ⟨br, 0, none⟩)), (18, 130, .string fs), (19, 131, .pointer (some ⟨wr.heap.size, 3, none⟩)), (20, 132, .string fs), (21, 133, .bool false), (22, 134, .bool false), (23, 135, .bool false), (24, 136, .bool false), (25, 137, .pointer (some ⟨wr.heap.size, 0, none⟩)), (26, 138, .int .i64 1), (27, 139, .bool false), (28, 140, .bool false), (37, 149, .bool false), (38, 150, .bool false)] := ⟨_, rfl⟩
                refine wp_region_invS (by kernel_rfl) (by kernel_rfl) (fun f a wx => Off [150, 112, 113, 114, 115, 116, 117, 118, 119, 120, 121, 122, 123, 124, 125, 126, 127, 128, 129, 130, 131, 132, 133, 134, 135, 136, 137, 138, 139, 140, 141, 142, 143, 144, 145, 146, 147, 148, 149] A a ∧ ValsOk V f a ∧ (f 18 = false → wx = W0) ∧ (f 18 = true → RdAt wx br (P2, 0) ∧ Kept W0.heap.size br W0 wx)) ?start ?step ?fin
                case start => exact ⟨Off.refl _ _, vals_start _ _, fun _ => (unhide hW0s).symm, by simp⟩
                case step =>
                  rintro f a wx i o ⟨hoff, hV, n0, n1⟩ ho hfi hdep
                  have has : a.tmps.size = 172 := hoff.size.trans hAs
                  have hX : FldAt wx wr.heap.size ⟨1, fn, fz, fs⟩ := by
                    cases hf : f 18 with
                    | false => rw [n0 hf]; exact unhide HX0
                    | true => exact ((n1 hf).2.block _ (lt_of_block (unhide HX0)) hxr).trans (unhide HX0)
                  have hv := fun (i d : Nat) (v : Value) (hm : (i, d, v) ∈ V) (hf : f i = true) => hV (i, d, v) hm hf
                  rcases i with _ | _ | _ | _ | _ | _ | _ | _ | _ | _ | _ | _ | _ | _ | _ | _ | _ | _ | _ | _ | _ | _ | _ | _ | _ | _ | _ | _ | _ | _ | _ | _ | _ | _ | _ | _ | _ | _ | _ | i
                  · obtain rfl := Option.some.inj ho
                    refine .inl ⟨rfl, ?_⟩
                    refine wp_field 45 (.tmp 15) 0 rfl _ _ ((hoff.eval 15 (by simp)).trans hA15) (fa_fld0 _) ?_
                    exact ⟨hoff.put 112 _ (by simp), vals_put hV 0 112 _ (by omega) (by rw [hVe]; simp) (by rw [hVe]; simp), n0, n1⟩
                  · obtain rfl := Option.some.inj ho
                    have d0 : f 0 = true := hdep ⟨0, .data⟩ (by simp) rfl
                    refine .inl ⟨rfl, ?_⟩
                    refine wp_load1 3 (.tmp 112) rfl _ _ (hv 0 112 (.pointer (some ⟨wr.heap.size, 0, none⟩)) (by rw [hVe]; simp) d0) (loadI _ _ _ hX.cells.1) ?_
                    exact ⟨hoff.put 113 _ (by simp), vals_put hV 1 113 _ (by omega) (by rw [hVe]; simp) (by rw [hVe]; simp), n0, n1⟩
                  · obtain rfl := Option.some.inj ho
                    have d1 : f 1 = true := hdep ⟨1, .data⟩ (by simp) rfl
                    refine .inl ⟨rfl, ?_⟩
                    refine wp_eq64F 3 3 (.tmp 113) (.const (.int .i64 0)) rfl Try.underlying3 1 0 (by decide) (hv 1 113 (.int .i64 1) (by rw [hVe]; simp) d1) rfl ?_
                    exact ⟨hoff.put 114 _ (by simp), vals_put hV 2 114 _ (by omega) (by rw [hVe]; simp) (by rw [hVe]; simp), n0, n1⟩
                  · obtain rfl := Option.some.inj ho
                    have d2 : f 2 = true := hdep ⟨2, .data⟩ (by simp) rfl
                    refine .inl ⟨rfl, ?_⟩
                    refine wp_move (.tmp 114) rfl ?_
                    rw [(hv 2 114 (.bool false) (by rw [hVe]; simp) d2)]
                    exact ⟨hoff.put 115 _ (by simp), vals_put hV 3 115 _ (by omega) (by rw [hVe]; simp) (by rw [hVe]; simp), n0, n1⟩
                  · obtain rfl := Option.some.inj ho
                    have d3 : f 3 = true := hdep ⟨3, .guard⟩ (by simp) rfl
                    exact .inr ⟨unwanted_of 3 115 true rfl rfl (hv 3 115 (.bool false) (by rw [hVe]; simp) d3), hoff.put 116 _ (by simp), vals_put hV 4 116 _ (by omega) (by rw [hVe]; simp) (by rw [hVe]; simp), n0, n1⟩
                  · obtain rfl := Option.some.inj ho
                    have d3 : f 3 = true := hdep ⟨3, .guard⟩ (by simp) rfl
                    exact .inr ⟨unwanted_of 3 115 true rfl rfl (hv 3 115 (.bool false) (by rw [hVe]; simp) d3), hoff.put 117 _ (by simp), vals_put hV 5 117 _ (by omega) (by rw [hVe]; simp) (by rw [hVe]; simp), n0, n1⟩
                  · obtain rfl := Option.some.inj ho
                    have d3 : f 3 = true := hdep ⟨3, .guard⟩ (by simp) rfl
                    exact .inr ⟨unwanted_of 3 115 true rfl rfl (hv 3 115 (.bool false) (by rw [hVe]; simp) d3), hoff.put 118 _ (by simp), vals_put hV 6 118 _ (by omega) (by rw [hVe]; simp) (by rw [hVe]; simp), n0, n1⟩
                  · obtain rfl := Option.some.inj ho
                    have d3 : f 3 = true := hdep ⟨3, .guard⟩ (by simp) rfl
                    exact .inr ⟨unwanted_of 3 115 true rfl rfl (hv 3 115 (.bool false) (by rw [hVe]; simp) d3), hoff.put 119 _ (by simp), vals_put hV 7 119 _ (by omega) (by rw [hVe]; simp) (by rw [hVe]; simp), n0, n1⟩
                  · obtain rfl := Option.some.inj ho
                    have d3 : f 3 = true := hdep ⟨3, .guard⟩ (by simp) rfl
                    exact .inr ⟨unwanted_of 3 115 true rfl rfl (hv 3 115 (.bool false) (by rw [hVe]; simp) d3), hoff.put 120 _ (by simp), vals_put hV 8 120 _ (by omega) (by rw [hVe]; simp) (by rw [hVe]; simp), n0, n1⟩
                  · obtain rfl := Option.some.inj ho
                    have d3 : f 3 = true := hdep ⟨3, .guard⟩ (by simp) rfl
                    exact .inr ⟨unwanted_of 3 115 true rfl rfl (hv 3 115 (.bool false) (by rw [hVe]; simp) d3), hoff.put 121 _ (by simp), vals_put hV 9 121 _ (by omega) (by rw [hVe]; simp) (by rw [hVe]; simp), n0, n1⟩
                  · obtain rfl := Option.some.inj ho
                    have d3 : f 3 = true := hdep ⟨3, .guard⟩ (by simp) rfl
                    exact .inr ⟨unwanted_of 3 115 true rfl rfl (hv 3 115 (.bool false) (by rw [hVe]; simp) d3), hoff.put 122 _ (by simp), vals_put hV 10 122 _ (by omega) (by rw [hVe]; simp) (by rw [hVe]; simp), n0, n1⟩
                  · obtain rfl := Option.some.inj ho
                    have d3 : f 3 = true := hdep ⟨3, .data⟩ (by simp) rfl
                    refine .inl ⟨rfl, ?_⟩
                    refine wp_pickF (.tmp 115) (.tmp 122) (.const (.bool false)) rfl (.bool false) (hv 3 115 (.bool false) (by rw [hVe]; simp) d3) rfl ?_
                    exact ⟨hoff.put 123 _ (by simp), vals_put hV 11 123 _ (by omega) (by rw [hVe]; simp) (by rw [hVe]; simp), n0, n1⟩
                  · obtain rfl := Option.some.inj ho
                    have d11 : f 11 = true := hdep ⟨11, .data⟩ (by simp) rfl
                    refine .inl ⟨rfl, ?_⟩
                    refine wp_move (.tmp 123) rfl ?_
                    rw [(hv 11 123 (.bool false) (by rw [hVe]; simp) d11)]
                    exact ⟨hoff.put 124 _ (by simp), vals_put hV 12 124 _ (by omega) (by rw [hVe]; simp) (by rw [hVe]; simp), n0, n1⟩
                  · obtain rfl := Option.some.inj ho
                    have d12 : f 12 = true := hdep ⟨12, .guard⟩ (by simp) rfl
                    refine .inl ⟨wanted_of 12 124 false rfl rfl (hv 12 124 (.bool false) (by rw [hVe]; simp) d12), ?_⟩
                    refine wp_field 45 (.tmp 15) 0 rfl _ _ ((hoff.eval 15 (by simp)).trans hA15) (fa_fld0 _) ?_
                    exact ⟨hoff.put 125 _ (by simp), vals_put hV 13 125 _ (by omega) (by rw [hVe]; simp) (by rw [hVe]; simp), n0, n1⟩
                  · obtain rfl := Option.some.inj ho
                    have d12 : f 12 = true := hdep ⟨12, .guard⟩ (by simp) rfl
                    have d13 : f 13 = true := hdep ⟨13, .data⟩ (by simp) rfl
                    refine .inl ⟨wanted_of 12 124 false rfl rfl (hv 12 124 (.bool false) (by rw [hVe]; simp) d12), ?_⟩
                    refine wp_load1 3 (.tmp 125) rfl _ _ (hv 13 125 (.pointer (some ⟨wr.heap.size, 0, none⟩)) (by rw [hVe]; simp) d13) (loadI _ _ _ hX.cells.1) ?_
                    exact ⟨hoff.put 126 _ (by simp), vals_put hV 14 126 _ (by omega) (by rw [hVe]; simp) (by rw [hVe]; simp), n0, n1⟩
                  · obtain rfl := Option.some.inj ho
                    have d12 : f 12 = true := hdep ⟨12, .guard⟩ (by simp) rfl
                    have d14 : f 14 = true := hdep ⟨14, .data⟩ (by simp) rfl
                    refine .inl ⟨wanted_of 12 124 false rfl rfl (hv 12 124 (.bool false) (by rw [hVe]; simp) d12), ?_⟩
                    refine wp_eq64T 3 3 (.tmp 126) (.const (.int .i64 1)) rfl Try.underlying3 1 (hv 14 126 (.int .i64 1) (by rw [hVe]; simp) d14) rfl ?_
                    exact ⟨hoff.put 127 _ (by simp), vals_put hV 15 127 _ (by omega) (by rw [hVe]; simp) (by rw [hVe]; simp), n0, n1⟩
                  · obtain rfl := Option.some.inj ho
                    have d12 : f 12 = true := hdep ⟨12, .guard⟩ (by simp) rfl
                    have d15 : f 15 = true := hdep ⟨15, .data⟩ (by simp) rfl
                    refine .inl ⟨wanted_of 12 124 false rfl rfl (hv 12 124 (.bool false) (by rw [hVe]; simp) d12), ?_⟩
                    refine wp_move (.tmp 127) rfl ?_
                    rw [(hv 15 127 (.bool true) (by rw [hVe]; simp) d15)]
                    exact ⟨hoff.put 128 _ (by simp), vals_put hV 16 128 _ (by omega) (by rw [hVe]; simp) (by rw [hVe]; simp), n0, n1⟩
                  · obtain rfl := Option.some.inj ho
                    have d16 : f 16 = true := hdep ⟨16, .guard⟩ (by simp) rfl
                    refine .inl ⟨wanted_of 16 128 true rfl rfl (hv 16 128 (.bool true) (by rw [hVe]; simp) d16), ?_⟩
                    refine wp_move (.tmp 13) rfl ?_
                    rw [((hoff.eval 13 (by simp)).trans hA13)]
                    exact ⟨hoff.put 129 _ (by simp), vals_put hV 17 129 _ (by omega) (by rw [hVe]; simp) (by rw [hVe]; simp), n0, n1⟩
                  · obtain rfl := Option.some.inj ho
                    have d16 : f 16 = true := hdep ⟨16, .guard⟩ (by simp) rfl
                    have d17 : f 17 = true := hdep ⟨17, .data⟩ (by simp) rfl
                    refine .inl ⟨wanted_of 16 128 true rfl rfl (hv 16 128 (.bool true) (by rw [hVe]; simp) d16), ?_⟩
                    have hW := n0 hfi
                    subst hW
                    refine wp_call 31 #[.tmp 129] #[52] rfl Try.call31 #[.pointer (some ⟨br, 0, none⟩)] (by simp [(hv 17 129 (.pointer (some ⟨br, 0, none⟩)) (by rw [hVe]; simp) d17)]) (unhide hcall) ?_
                    rintro e w3 ⟨rfl, rd3, k3⟩
                    exact ⟨_, rfl, hoff.put 130 _ (by simp), vals_put hV 18 130 _ (by omega) (by rw [hVe]; simp) (by rw [hVe]; simp), fun h => absurd h (by show ¬ upd f 18 18 = false; simp [upd]), fun _ => ⟨rd3, k3⟩⟩
                  · obtain rfl := Option.some.inj ho
                    have d16 : f 16 = true := hdep ⟨16, .guard⟩ (by simp) rfl
                    refine .inl ⟨wanted_of 16 128 true rfl rfl (hv 16 128 (.bool true) (by rw [hVe]; simp) d16), ?_⟩
                    refine wp_field 45 (.tmp 15) 3 rfl _ _ ((hoff.eval 15 (by simp)).trans hA15) (fa_fld3 _) ?_
                    exact ⟨hoff.put 131 _ (by simp), vals_put hV 19 131 _ (by omega) (by rw [hVe]; simp) (by rw [hVe]; simp), n0, n1⟩
                  · obtain rfl := Option.some.inj ho
                    have d16 : f 16 = true := hdep ⟨16, .guard⟩ (by simp) rfl
                    have d19 : f 19 = true := hdep ⟨19, .data⟩ (by simp) rfl
                    refine .inl ⟨wanted_of 16 128 true rfl rfl (hv 16 128 (.bool true) (by rw [hVe]; simp) d16), ?_⟩
                    refine wp_load1 9 (.tmp 131) rfl _ _ (hv 19 131 (.pointer (some ⟨wr.heap.size, 3, none⟩)) (by rw [hVe]; simp) d19) (loadS _ _ _ hX.cells.2.2.2) ?_
                    exact ⟨hoff.put 132 _ (by simp), vals_put hV 20 132 _ (by omega) (by rw [hVe]; simp) (by rw [hVe]; simp), n0, n1⟩
                  · obtain rfl := Option.some.inj ho
                    have d16 : f 16 = true := hdep ⟨16, .guard⟩ (by simp) rfl
                    have d18 : f 18 = true := hdep ⟨18, .data⟩ (by simp) rfl
                    have d20 : f 20 = true := hdep ⟨20, .data⟩ (by simp) rfl
                    refine .inl ⟨wanted_of 16 128 true rfl rfl (hv 16 128 (.bool true) (by rw [hVe]; simp) d16), ?_⟩
                    refine wp_neStrF 9 9 (.tmp 130) (.tmp 132) rfl Try.underlying9 _ (hv 18 130 (.string fs) (by rw [hVe]; simp) d18) (hv 20 132 (.string fs) (by rw [hVe]; simp) d20) ?_
                    exact ⟨hoff.put 133 _ (by simp), vals_put hV 21 133 _ (by omega) (by rw [hVe]; simp) (by rw [hVe]; simp), n0, n1⟩
                  · obtain rfl := Option.some.inj ho
                    have d12 : f 12 = true := hdep ⟨12, .guard⟩ (by simp) rfl
                    have d16 : f 16 = true := hdep ⟨16, .data⟩ (by simp) rfl
                    have d21 : f 21 = true := hdep ⟨21, .data⟩ (by simp) rfl
                    refine .inl ⟨wanted_of 12 124 false rfl rfl (hv 12 124 (.bool false) (by rw [hVe]; simp) d12), ?_⟩
                    refine wp_pickT (.tmp 128) (.tmp 133) (.const (.bool false)) rfl _ (hv 16 128 (.bool true) (by rw [hVe]; simp) d16) (hv 21 133 (.bool false) (by rw [hVe]; simp) d21) ?_
                    exact ⟨hoff.put 134 _ (by simp), vals_put hV 22 134 _ (by omega) (by rw [hVe]; simp) (by rw [hVe]; simp), n0, n1⟩
                  · obtain rfl := Option.some.inj ho
                    have d12 : f 12 = true := hdep ⟨12, .data⟩ (by simp) rfl
                    have d22 : f 22 = true := hdep ⟨22, .data⟩ (by simp) rfl
                    refine .inl ⟨rfl, ?_⟩
                    refine wp_pickF (.tmp 124) (.const (.bool true)) (.tmp 134) rfl _ (hv 12 124 (.bool false) (by rw [hVe]; simp) d12) (hv 22 134 (.bool false) (by rw [hVe]; simp) d22) ?_
                    exact ⟨hoff.put 135 _ (by simp), vals_put hV 23 135 _ (by omega) (by rw [hVe]; simp) (by rw [hVe]; simp), n0, n1⟩
                  · obtain rfl := Option.some.inj ho
                    have d23 : f 23 = true := hdep ⟨23, .data⟩ (by simp) rfl
                    refine .inl ⟨rfl, ?_⟩
                    refine wp_move (.tmp 135) rfl ?_
                    rw [(hv 23 135 (.bool false) (by rw [hVe]; simp) d23)]
                    exact ⟨hoff.put 136 _ (by simp), vals_put hV 24 136 _ (by omega) (by rw [hVe]; simp) (by rw [hVe]; simp), n0, n1⟩
                  · obtain rfl := Option.some.inj ho
                    have d24 : f 24 = true := hdep ⟨24, .guard⟩ (by simp) rfl
                    refine .inl ⟨wanted_of 24 136 false rfl rfl (hv 24 136 (.bool false) (by rw [hVe]; simp) d24), ?_⟩
                    refine wp_field 45 (.tmp 15) 0 rfl _ _ ((hoff.eval 15 (by simp)).trans hA15) (fa_fld0 _) ?_
                    exact ⟨hoff.put 137 _ (by simp), vals_put hV 25 137 _ (by omega) (by rw [hVe]; simp) (by rw [hVe]; simp), n0, n1⟩
                  · obtain rfl := Option.some.inj ho
                    have d24 : f 24 = true := hdep ⟨24, .guard⟩ (by simp) rfl
                    have d25 : f 25 = true := hdep ⟨25, .data⟩ (by simp) rfl
                    refine .inl ⟨wanted_of 24 136 false rfl rfl (hv 24 136 (.bool false) (by rw [hVe]; simp) d24), ?_⟩
                    refine wp_load1 3 (.tmp 137) rfl _ _ (hv 25 137 (.pointer (some ⟨wr.heap.size, 0, none⟩)) (by rw [hVe]; simp) d25) (loadI _ _ _ hX.cells.1) ?_
                    exact ⟨hoff.put 138 _ (by simp), vals_put hV 26 138 _ (by omega) (by rw [hVe]; simp) (by rw [hVe]; simp), n0, n1⟩
                  · obtain rfl := Option.some.inj ho
                    have d24 : f 24 = true := hdep ⟨24, .guard⟩ (by simp) rfl
                    have d26 : f 26 = true := hdep ⟨26, .data⟩ (by simp) rfl
                    refine .inl ⟨wanted_of 24 136 false rfl rfl (hv 24 136 (.bool false) (by rw [hVe]; simp) d24), ?_⟩
                    refine wp_eq64F 3 3 (.tmp 138) (.const (.int .i64 2)) rfl Try.underlying3 1 2 (by decide) (hv 26 138 (.int .i64 1) (by rw [hVe]; simp) d26) rfl ?_
                    exact ⟨hoff.put 139 _ (by simp), vals_put hV 27 139 _ (by omega) (by rw [hVe]; simp) (by rw [hVe]; simp), n0, n1⟩
                  · obtain rfl := Option.some.inj ho
                    have d24 : f 24 = true := hdep ⟨24, .guard⟩ (by simp) rfl
                    have d27 : f 27 = true := hdep ⟨27, .data⟩ (by simp) rfl
                    refine .inl ⟨wanted_of 24 136 false rfl rfl (hv 24 136 (.bool false) (by rw [hVe]; simp) d24), ?_⟩
                    refine wp_move (.tmp 139) rfl ?_
                    rw [(hv 27 139 (.bool false) (by rw [hVe]; simp) d27)]
                    exact ⟨hoff.put 140 _ (by simp), vals_put hV 28 140 _ (by omega) (by rw [hVe]; simp) (by rw [hVe]; simp), n0, n1⟩
                  · obtain rfl := Option.some.inj ho
                    have d28 : f 28 = true := hdep ⟨28, .guard⟩ (by simp) rfl
                    exact .inr ⟨unwanted_of 28 140 true rfl rfl (hv 28 140 (.bool false) (by rw [hVe]; simp) d28), hoff.put 141 _ (by simp), vals_put hV 29 141 _ (by omega) (by rw [hVe]; simp) (by rw [hVe]; simp), n0, n1⟩
                  · obtain rfl := Option.some.inj ho
                    have d28 : f 28 = true := hdep ⟨28, .guard⟩ (by simp) rfl
                    exact .inr ⟨unwanted_of 28 140 true rfl rfl (hv 28 140 (.bool false) (by rw [hVe]; simp) d28), hoff.put 142 _ (by simp), vals_put hV 30 142 _ (by omega) (by rw [hVe]; simp) (by rw [hVe]; simp), n0, n1⟩
                  · obtain rfl := Option.some.inj ho
                    have d28 : f 28 = true := hdep ⟨28, .guard⟩ (by simp) rfl
                    exact .inr ⟨unwanted_of 28 140 true rfl rfl (hv 28 140 (.bool false) (by rw [hVe]; simp) d28), hoff.put 143 _ (by simp), vals_put hV 31 143 _ (by omega) (by rw [hVe]; simp) (by rw [hVe]; simp), n0, n1⟩
                  · obtain rfl := Option.some.inj ho
                    have d28 : f 28 = true := hdep ⟨28, .guard⟩ (by simp) rfl
                    exact .inr ⟨unwanted_of 28 140 true rfl rfl (hv 28 140 (.bool false) (by rw [hVe]; simp) d28), hoff.put 144 _ (by simp), vals_put hV 32 144 _ (by omega) (by rw [hVe]; simp) (by rw [hVe]; simp), n0, n1⟩
                  · obtain rfl := Option.some.inj ho
                    have d28 : f 28 = true := hdep ⟨28, .guard⟩ (by simp) rfl
                    exact .inr ⟨unwanted_of 28 140 true rfl rfl (hv 28 140 (.bool false) (by rw [hVe]; simp) d28), hoff.put 145 _ (by simp), vals_put hV 33 145 _ (by omega) (by rw [hVe]; simp) (by rw [hVe]; simp), n0, n1⟩
                  · obtain rfl := Option.some.inj ho
                    have d28 : f 28 = true := hdep ⟨28, .guard⟩ (by simp) rfl
                    exact .inr ⟨unwanted_of 28 140 true rfl rfl (hv 28 140 (.bool false) (by rw [hVe]; simp) d28), hoff.put 146 _ (by simp), vals_put hV 34 146 _ (by omega) (by rw [hVe]; simp) (by rw [hVe]; simp), n0, n1⟩
                  · obtain rfl := Option.some.inj ho
                    have d28 : f 28 = true := hdep ⟨28, .guard⟩ (by simp) rfl
                    exact .inr ⟨unwanted_of 28 140 true rfl rfl (hv 28 140 (.bool false) (by rw [hVe]; simp) d28), hoff.put 147 _ (by simp), vals_put hV 35 147 _ (by omega) (by rw [hVe]; simp) (by rw [hVe]; simp), n0, n1⟩
                  · obtain rfl := Option.some.inj ho
                    have d28 : f 28 = true := hdep ⟨28, .guard⟩ (by simp) rfl
                    exact .inr ⟨unwanted_of 28 140 true rfl rfl (hv 28 140 (.bool false) (by rw [hVe]; simp) d28), hoff.put 148 _ (by simp), vals_put hV 36 148 _ (by omega) (by rw [hVe]; simp) (by rw [hVe]; simp), n0, n1⟩
                  · obtain rfl := Option.some.inj ho
                    have d24 : f 24 = true := hdep ⟨24, .guard⟩ (by simp) rfl
                    have d28 : f 28 = true := hdep ⟨28, .data⟩ (by simp) rfl
                    refine .inl ⟨wanted_of 24 136 false rfl rfl (hv 24 136 (.bool false) (by rw [hVe]; simp) d24), ?_⟩
                    refine wp_pickF (.tmp 140) (.tmp 148) (.const (.bool false)) rfl (.bool false) (hv 28 140 (.bool false) (by rw [hVe]; simp) d28) rfl ?_
                    exact ⟨hoff.put 149 _ (by simp), vals_put hV 37 149 _ (by omega) (by rw [hVe]; simp) (by rw [hVe]; simp), n0, n1⟩
                  · obtain rfl := Option.some.inj ho
                    have d24 : f 24 = true := hdep ⟨24, .data⟩ (by simp) rfl
                    have d37 : f 37 = true := hdep ⟨37, .data⟩ (by simp) rfl
                    refine .inl ⟨rfl, ?_⟩
                    refine wp_pickF (.tmp 136) (.const (.bool true)) (.tmp 149) rfl _ (hv 24 136 (.bool false) (by rw [hVe]; simp) d24) (hv 37 149 (.bool false) (by rw [hVe]; simp) d37) ?_
                    exact ⟨hoff.put 150 _ (by simp), vals_put hV 38 150 _ (by omega) (by rw [hVe]; simp) (by rw [hVe]; simp), n0, n1⟩
                  · simp at ho
                case fin =>
                  rintro f a wx ⟨hoff, hV, n0, n1⟩ hall
                  have e := Off.all _ _ hoff
                  have e150 : a.eval (.tmp 150) = .bool false := hV (38, 150, .bool false) (by rw [hVe]; simp) (hall 38 (by decide))
                  obtain ⟨rd9, k9⟩ := n1 (hall 18 (by decide))
                  have RD9 := hide rd9
                  have K9 := hide ((unhide HKB).trans ((Kept.of_below ((unhide HB0).mono (unhide HKB).size)).trans (k9.mono (Nat.le_trans (unhide HKB).size (unhide HB0).size))))
                  simp only [List.foldl_cons, List.foldl_nil] at e
                  rw [← hA, e150] at e
                  generalize a.eval (.tmp 112) = y112, a.eval (.tmp 113) = y113, a.eval (.tmp 114) = y114, a.eval (.tmp 115) = y115, a.eval (.tmp 116) = y116, a.eval (.tmp 117) = y117, a.eval (.tmp 118) = y118, a.eval (.tmp 119) = y119, a.eval (.tmp 120) = y120, a.eval (.tmp 121) = y121, a.eval (.tmp 122) = y122, a.eval (.tmp 123) = y123, a.eval (.tmp 124) = y124, a.eval (.tmp 125) = y125, a.eval (.tmp 126) = y126, a.eval (.tmp 127) = y127, a.eval (.tmp 128) = y128, a.eval (.tmp 129) = y129, a.eval (.tmp 130) = y130, a.eval (.tmp 131) = y131, a.eval (.tmp 132) = y132, a.eval (.tmp 133) = y133, a.eval (.tmp 134) = y134, a.eval (.tmp 135) = y135, a.eval (.tmp 136) = y136, a.eval (.tmp 137) = y137, a.eval (.tmp 138) = y138, a.eval (.tmp 139) = y139, a.eval (.tmp 140) = y140, a.eval (.tmp 141) = y141, a.eval (.tmp 142) = y142, a.eval (.tmp 143) = y143, a.eval (.tmp 144) = y144, a.eval (.tmp 145) = y145, a.eval (.tmp 146) = y146, a.eval (.tmp 147) = y147, a.eval (.tmp 148) = y148, a.eval (.tmp 149) = y149 at e
                  simp only [Act.put, List.setIfInBounds_toArray, List.set_cons_succ, List.set_cons_zero] at e
                  subst e
                  clear hoff hV hA hA13 hA15 hVe e150 n0 n1 rd9 k9 hcall HX0 HR0 HB0 hW0s
                  go_wp2
                  go_roundw
                  case rel => exact ⟨j + 1, P2, by omega, by go_num, unhide HP2, unhide RD9, unhide K9⟩
                  case measure => simp [intOf]; omega
              · simp only at hk0 hgd
                subst hk0
                have HEN : Hid (P.data.toList = fs.data.toList ++ (encs (K.drop (j + 1)) ++ s.data.toList)) := by show _ = _; rw [hen]; unfold encF; rw [if_neg (by simp), if_neg (by simp)]
                clear hen
                go_wp2
                obtain ⟨W0, hW0⟩ : ∃ W0, W0 = (wr.alloc (.cells #[.int .i64 2, .int .i64 fn, .int .i64 fz, .string fs] 45)).drew := ⟨_, rfl⟩
                have HX0 : Hid (FldAt W0 wr.heap.size ⟨2, fn, fz, fs⟩) := by show FldAt _ _ _; rw [hW0]; exact heap_alloc_new _ _
                have HR0 : Hid (RdAt W0 br (P, 0)) := by show RdAt _ _ _; rw [hW0]; exact (Below.heap_alloc _ _ _ (lt_of_block (unhide HRD))).trans (unhide HRD)
                have HB0 : Hid (Below wr.heap.size wr W0) := by show Below _ _ _; rw [hW0]; exact ((Below.refl _ _).alloc (Nat.le_refl _) _).drew
                have hxr : wr.heap.size ≠ br := Nat.ne_of_gt (lt_of_block (unhide HRD))
                have hcall := hide (rraw_any W0 br (P, 0) fs.size (show P.size ≤ maxLen by unfold maxLen; have := unhide HPS; omega) (unhide HR0))
                obtain ⟨hb1, P2, hb2, hb3⟩ := raw_back P fs _ (unhide HEN)
                rw [hb1, hb2] at hcall
                have HP2 := hide hb3
                have hW0s : Hid (W0 = (wr.alloc (.cells #[.int .i64 2, .int .i64 fn, .int .i64 fz, .string fs] 45)).drew) := hW0
                clear hb1 hb2 hb3 hW0
                generalize hA : Act.mk _ _ = A
                have hA13 : A.eval (.tmp 13) = .pointer (some ⟨br, 0, none⟩) := by rw [← hA]; rfl
                have hA15 : A.eval (.tmp 15) = .pointer (some ⟨wr.heap.size, 0, none⟩) := by rw [← hA]; rfl
                have hAs : A.tmps.size = 172 := by rw [← hA]; rfl
                obtain ⟨V, hVe⟩ : ∃ V : List (Nat × Nat × Value), V = [(0, 112, .pointer (some ⟨wr.heap.size, 0, none⟩)), (1, 113, .int .i64 2), (2, 114, .bool false), (3, 115, .bool false), (11, 123, .bool false), (12, 124, .bool false), (13, 125, .pointer (some ⟨wr.heap.size, 0, none⟩)), (14, 126, .int .i64 2), (15, 127, .bool false), (16, 128, .bool false), (22, 134, .bool false), (23, 135, .bool false), (24, 136, .bool false), (25, 137, .pointer (some ⟨wr.heap.size, 0, none⟩)), (26, 138, .int .i64 2), (27, 139, .bool true), (28, 140, .bool true), (29, 141, .pointer (some ⟨br, 0, none⟩)), (30, 142, .pointer (some ⟨wr.heap.size, 3, none⟩)), (31, 143, .string fs), (32, 144, .int .i64 fs.size), (33, 145, .string fs), (34, 146, .pointer (some ⟨wr.heap.size, 3, none⟩)), (35, 147, .string fs), (36, 148, .bool false), (37, 149, .bool false), (38, 150, .bool false)] := ⟨_, rfl⟩
                refine wp_region_invS (by kernel_rfl) (by kernel_rfl) (fun f a wx => Off [150, 112, 113, 114, 115, 116, 117, 118, 119, 120, 121, 122, 123, 124, 125, 126, 127, 128, 129, 130, 131, 132, 133, 134, 135, 136, 137, 138, 139, 140, 141, 142, 143, 144, 145, 146, 147, 148, 149] A a ∧ ValsOk V f a ∧ (f 33 = false → wx = W0) ∧ (f 33 = true → RdAt wx br (P2, 0) ∧ Kept W0.heap.size br W0 wx)) ?start ?step ?fin
                case start => exact ⟨Off.refl _ _, vals_start _ _, fun _ => (unhide hW0s).symm, by simp⟩
                case step =>
                  rintro f a wx i o ⟨hoff, hV, n0, n1⟩ ho hfi hdep
                  have has : a.tmps.size = 172 := hoff.size.trans hAs
                  have hX : FldAt wx wr.heap.size ⟨2, fn, fz, fs⟩ := by
                    cases hf : f 33 with
                    | false => rw [n0 hf]; exact unhide HX0
                    | true => exact ((n1 hf).2.block _ (lt_of_block (unhide HX0)) hxr).trans (unhide HX0)
                  have hv := fun (i d : Nat) (v : Value) (hm : (i, d, v) ∈ V) (hf : f i = true) => hV (i, d, v) hm hf
                  rcases i with _ | _ | _ | _ | _ | _ | _ | _ | _ | _ | _ | _ | _ | _ | _ | _ | _ | _ | _ | _ | _ | _ | _ | _ | _ | _ | _ | _ | _ | _ | _ | _ | _ | _ | _ | _ | _ | _ | _ | i
                  · obtain rfl := Option.some.inj ho
                    refine .inl ⟨rfl, ?_⟩
                    refine wp_field 45 (.tmp 15) 0 rfl _ _ ((hoff.eval 15 (by simp)).trans hA15) (fa_fld0 _) ?_
                    exact ⟨hoff.put 112 _ (by simp), vals_put hV 0 112 _ (by omega) (by rw [hVe]; simp) (by rw [hVe]; simp), n0, n1⟩
                  · obtain rfl := Option.some.inj ho
                    have d0 : f 0 = true := hdep ⟨0, .data⟩ (by simp) rfl
                    refine .inl ⟨rfl, ?_⟩
                    refine wp_load1 3 (.tmp 112) rfl _ _ (hv 0 112 (.pointer (some ⟨wr.heap.size, 0, none⟩)) (by rw [hVe]; simp) d0) (loadI _ _ _ hX.cells.1) ?_
                    exact ⟨hoff.put 113 _ (by simp), vals_put hV 1 113 _ (by omega) (by rw [hVe]; simp) (by rw [hVe]; simp), n0, n1⟩
                  · obtain rfl := Option.some.inj ho
                    have d1 : f 1 = true := hdep ⟨1, .data⟩ (by simp) rfl
                    refine .inl ⟨rfl, ?_⟩
                    refine wp_eq64F 3 3 (.tmp 113) (.const (.int .i64 0)) rfl Try.underlying3 2 0 (by decide) (hv 1 113 (.int .i64 2) (by rw [hVe]; simp) d1) rfl ?_
                    exact ⟨hoff.put 114 _ (by simp), vals_put hV 2 114 _ (by omega) (by rw [hVe]; simp) (by rw [hVe]; simp), n0, n1⟩
                  · obtain rfl := Option.some.inj ho
                    have d2 : f 2 = true := hdep ⟨2, .data⟩ (by simp) rfl
                    refine .inl ⟨rfl, ?_⟩
                    refine wp_move (.tmp 114) rfl ?_
                    rw [(hv 2 114 (.bool false) (by rw [hVe]; simp) d2)]
                    exact ⟨hoff.put 115 _ (by simp), vals_put hV 3 115 _ (by omega) (by rw [hVe]; simp) (by rw [hVe]; simp), n0, n1⟩
                  · obtain rfl := Option.some.inj ho
                    have d3 : f 3 = true := hdep ⟨3, .guard⟩ (by simp) rfl
                    exact .inr ⟨unwanted_of 3 115 true rfl rfl (hv 3 115 (.bool false) (by rw [hVe]; simp) d3), hoff.put 116 _ (by simp), vals_put hV 4 116 _ (by omega) (by rw [hVe]; simp) (by rw [hVe]; simp), n0, n1⟩
                  · obtain rfl := Option.some.inj ho
                    have d3 : f 3 = true := hdep ⟨3, .guard⟩ (by simp) rfl
                    exact .inr ⟨unwanted_of 3 115 true rfl rfl (hv 3 115 (.bool false) (by rw [hVe]; simp) d3), hoff.put 117 _ (by simp), vals_put hV 5 117 _ (by omega) (by rw [hVe]; simp) (by rw [hVe]; simp), n0, n1⟩
                  · obtain rfl := Option.some.inj ho
                    have d3 : f 3 = true := hdep ⟨3, .guard⟩ (by simp) rfl
                    exact .inr ⟨unwanted_of 3 115 true rfl rfl (hv 3 115 (.bool false) (by rw [hVe]; simp) d3), hoff.put 118 _ (by simp), vals_put hV 6 118 _ (by omega) (by rw [hVe]; simp) (by rw [hVe]; simp), n0, n1⟩
                  · obtain rfl := Option.some.inj ho
                    have d3 : f 3 = true := hdep ⟨3, .guard⟩ (by simp) rfl
                    exact .inr ⟨unwanted_of 3 115 true rfl rfl (hv 3 115 (.bool false) (by rw [hVe]; simp) d3), hoff.put 119 _ (by simp), vals_put hV 7 119 _ (by omega) (by rw [hVe]; simp) (by rw [hVe]; simp), n0, n1⟩
                  · obtain rfl := Option.some.inj ho
                    have d3 : f 3 = true := hdep ⟨3, .guard⟩ (by simp) rfl
                    exact .inr ⟨unwanted_of 3 115 true rfl rfl (hv 3 115 (.bool false) (by rw [hVe]; simp) d3), hoff.put 120 _ (by simp), vals_put hV 8 120 _ (by omega) (by rw [hVe]; simp) (by rw [hVe]; simp), n0, n1⟩
                  · obtain rfl := Option.some.inj ho
                    have d3 : f 3 = true := hdep ⟨3, .guard⟩ (by simp) rfl
                    exact .inr ⟨unwanted_of 3 115 true rfl rfl (hv 3 115 (.bool false) (by rw [hVe]; simp) d3), hoff.put 121 _ (by simp), vals_put hV 9 121 _ (by omega) (by rw [hVe]; simp) (by rw [hVe]; simp), n0, n1⟩
                  · obtain rfl := Option.some.inj ho
                    have d3 : f 3 = true := hdep ⟨3, .guard⟩ (by simp) rfl
                    exact .inr ⟨unwanted_of 3 115 true rfl rfl (hv 3 115 (.bool false) (by rw [hVe]; simp) d3), hoff.put 122 _ (by simp), vals_put hV 10 122 _ (by omega) (by rw [hVe]; simp) (by rw [hVe]; simp), n0, n1⟩
                  · obtain rfl := Option.some.inj ho
                    have d3 : f 3 = true := hdep ⟨3, .data⟩ (by simp) rfl
                    refine .inl ⟨rfl, ?_⟩
                    refine wp_pickF (.tmp 115) (.tmp 122) (.const (.bool false)) rfl (.bool false) (hv 3 115 (.bool false) (by rw [hVe]; simp) d3) rfl ?_
                    exact ⟨hoff.put 123 _ (by simp), vals_put hV 11 123 _ (by omega) (by rw [hVe]; simp) (by rw [hVe]; simp), n0, n1⟩
                  · obtain rfl := Option.some.inj ho
                    have d11 : f 11 = true := hdep ⟨11, .data⟩ (by simp) rfl
                    refine .inl ⟨rfl, ?_⟩
                    refine wp_move (.tmp 123) rfl ?_
                    rw [(hv 11 123 (.bool false) (by rw [hVe]; simp) d11)]
                    exact ⟨hoff.put 124 _ (by simp), vals_put hV 12 124 _ (by omega) (by rw [hVe]; simp) (by rw [hVe]; simp), n0, n1⟩
                  · obtain rfl := Option.some.inj ho
                    have d12 : f 12 = true := hdep ⟨12, .guard⟩ (by simp) rfl
                    refine .inl ⟨wanted_of 12 124 false rfl rfl (hv 12 124 (.bool false) (by rw [hVe]; simp) d12), ?_⟩
                    refine wp_field 45 (.tmp 15) 0 rfl _ _ ((hoff.eval 15 (by simp)).trans hA15) (fa_fld0 _) ?_
                    exact ⟨hoff.put 125 _ (by simp), vals_put hV 13 125 _ (by omega) (by rw [hVe]; simp) (by rw [hVe]; simp), n0, n1⟩
                  · obtain rfl := Option.some.inj ho
                    have d12 : f 12 = true := hdep ⟨12, .guard⟩ (by simp) rfl
                    have d13 : f 13 = true := hdep ⟨13, .data⟩ (by simp) rfl
                    refine .inl ⟨wanted_of 12 124 false rfl rfl (hv 12 124 (.bool false) (by rw [hVe]; simp) d12), ?_⟩
                    refine wp_load1 3 (.tmp 125) rfl _ _ (hv 13 125 (.pointer (some ⟨wr.heap.size, 0, none⟩)) (by rw [hVe]; simp) d13) (loadI _ _ _ hX.cells.1) ?_
                    exact ⟨hoff.put 126 _ (by simp), vals_put hV 14 126 _ (by omega) (by rw [hVe]; simp) (by rw [hVe]; simp), n0, n1⟩
                  · obtain rfl := Option.some.inj ho
                    have d12 : f 12 = true := hdep ⟨12, .guard⟩ (by simp) rfl
                    have d14 : f 14 = true := hdep ⟨14, .data⟩ (by simp) rfl
                    refine .inl ⟨wanted_of 12 124 false rfl rfl (hv 12 124 (.bool false) (by rw [hVe]; simp) d12), ?_⟩
                    refine wp_eq64F 3 3 (.tmp 126) (.const (.int .i64 1)) rfl Try.underlying3 2 1 (by decide) (hv 14 126 (.int .i64 2) (by rw [hVe]; simp) d14) rfl ?_
                    exact ⟨hoff.put 127 _ (by simp), vals_put hV 15 127 _ (by omega) (by rw [hVe]; simp) (by rw [hVe]; simp), n0, n1⟩
                  · obtain rfl := Option.some.inj ho
                    have d12 : f 12 = true := hdep ⟨12, .guard⟩ (by simp) rfl
                    have d15 : f 15 = true := hdep ⟨15, .data⟩ (by simp) rfl
                    refine .inl ⟨wanted_of 12 124 false rfl rfl (hv 12 124 (.bool false) (by rw [hVe]; simp) d12), ?_⟩
                    refine wp_move (.tmp 127) rfl ?_
                    rw [(hv 15 127 (.bool false) (by rw [hVe]; simp) d15)]
                    exact ⟨hoff.put 128 _ (by simp), vals_put hV 16 128 _ (by omega) (by rw [hVe]; simp) (by rw [hVe]; simp), n0, n1⟩
                  · obtain rfl := Option.some.inj ho
                    have d16 : f 16 = true := hdep ⟨16, .guard⟩ (by simp) rfl
                    exact .inr ⟨unwanted_of 16 128 true rfl rfl (hv 16 128 (.bool false) (by rw [hVe]; simp) d16), hoff.put 129 _ (by simp), vals_put hV 17 129 _ (by omega) (by rw [hVe]; simp) (by rw [hVe]; simp), n0, n1⟩
                  · obtain rfl := Option.some.inj ho
                    have d16 : f 16 = true := hdep ⟨16, .guard⟩ (by simp) rfl
                    exact .inr ⟨unwanted_of 16 128 true rfl rfl (hv 16 128 (.bool false) (by rw [hVe]; simp) d16), hoff.put 130 _ (by simp), vals_put hV 18 130 _ (by omega) (by rw [hVe]; simp) (by rw [hVe]; simp), n0, n1⟩
                  · obtain rfl := Option.some.inj ho
                    have d16 : f 16 = true := hdep ⟨16, .guard⟩ (by simp) rfl
                    exact .inr ⟨unwanted_of 16 128 true rfl rfl (hv 16 128 (.bool false) (by rw [hVe]; simp) d16), hoff.put 131 _ (by simp), vals_put hV 19 131 _ (by omega) (by rw [hVe]; simp) (by rw [hVe]; simp), n0, n1⟩
                  · obtain rfl := Option.some.inj ho
                    have d16 : f 16 = true := hdep ⟨16, .guard⟩ (by simp) rfl
                    exact .inr ⟨unwanted_of 16 128 true rfl rfl (hv 16 128 (.bool false) (by rw [hVe]; simp) d16), hoff.put 132 _ (by simp), vals_put hV 20 132 _ (by omega) (by rw [hVe]; simp) (by rw [hVe]; simp), n0, n1⟩
                  · obtain rfl := Option.some.inj ho
                    have d16 : f 16 = true := hdep ⟨16, .guard⟩ (by simp) rfl
                    exact .inr ⟨unwanted_of 16 128 true rfl rfl (hv 16 128 (.bool false) (by rw [hVe]; simp) d16), hoff.put 133 _ (by simp), vals_put hV 21 133 _ (by omega) (by rw [hVe]; simp) (by rw [hVe]; simp), n0, n1⟩
                  · obtain rfl := Option.some.inj ho
                    have d12 : f 12 = true := hdep ⟨12, .guard⟩ (by simp) rfl
                    have d16 : f 16 = true := hdep ⟨16, .data⟩ (by simp) rfl
                    refine .inl ⟨wanted_of 12 124 false rfl rfl (hv 12 124 (.bool false) (by rw [hVe]; simp) d12), ?_⟩
                    refine wp_pickF (.tmp 128) (.tmp 133) (.const (.bool false)) rfl (.bool false) (hv 16 128 (.bool false) (by rw [hVe]; simp) d16) rfl ?_
                    exact ⟨hoff.put 134 _ (by simp), vals_put hV 22 134 _ (by omega) (by rw [hVe]; simp) (by rw [hVe]; simp), n0, n1⟩
                  · obtain rfl := Option.some.inj ho
                    have d12 : f 12 = true := hdep ⟨12, .data⟩ (by simp) rfl
                    have d22 : f 22 = true := hdep ⟨22, .data⟩ (by simp) rfl
                    refine .inl ⟨rfl, ?_⟩
                    refine wp_pickF (.tmp 124) (.const (.bool true)) (.tmp 134) rfl _ (hv 12 124 (.bool false) (by rw [hVe]; simp) d12) (hv 22 134 (.bool false) (by rw [hVe]; simp) d22) ?_
                    exact ⟨hoff.put 135 _ (by simp), vals_put hV 23 135 _ (by omega) (by rw [hVe]; simp) (by rw [hVe]; simp), n0, n1⟩
                  · obtain rfl := Option.some.inj ho
                    have d23 : f 23 = true := hdep ⟨23, .data⟩ (by simp) rfl
                    refine .inl ⟨rfl, ?_⟩
                    refine wp_move (.tmp 135) rfl ?_
                    rw [(hv 23 135 (.bool false) (by rw [hVe]; simp) d23)]
                    exact ⟨hoff.put 136 _ (by simp), vals_put hV 24 136 _ (by omega) (by rw [hVe]; simp) (by rw [hVe]; simp), n0, n1⟩
                  · obtain rfl := Option.some.inj ho
                    have d24 : f 24 = true := hdep ⟨24, .guard⟩ (by simp) rfl
                    refine .inl ⟨wanted_of 24 136 false rfl rfl (hv 24 136 (.bool false) (by rw [hVe]; simp) d24), ?_⟩
                    refine wp_field 45 (.tmp 15) 0 rfl _ _ ((hoff.eval 15 (by simp)).trans hA15) (fa_fld0 _) ?_
                    exact ⟨hoff.put 137 _ (by simp), vals_put hV 25 137 _ (by omega) (by rw [hVe]; simp) (by rw [hVe]; simp), n0, n1⟩
                  · obtain rfl := Option.some.inj ho
                    have d24 : f 24 = true := hdep ⟨24, .guard⟩ (by simp) rfl
                    have d25 : f 25 = true := hdep ⟨25, .data⟩ (by simp) rfl
                    refine .inl ⟨wanted_of 24 136 false rfl rfl (hv 24 136 (.bool false) (by rw [hVe]; simp) d24), ?_⟩
                    refine wp_load1 3 (.tmp 137) rfl _ _ (hv 25 137 (.pointer (some ⟨wr.heap.size, 0, none⟩)) (by rw [hVe]; simp) d25) (loadI _ _ _ hX.cells.1) ?_
                    exact ⟨hoff.put 138 _ (by simp), vals_put hV 26 138 _ (by omega) (by rw [hVe]; simp) (by rw [hVe]; simp), n0, n1⟩
                  · obtain rfl := Option.some.inj ho
                    have d24 : f 24 = true := hdep ⟨24, .guard⟩ (by simp) rfl
                    have d26 : f 26 = true := hdep ⟨26, .data⟩ (by simp) rfl
                    refine .inl ⟨wanted_of 24 136 false rfl rfl (hv 24 136 (.bool false) (by rw [hVe]; simp) d24), ?_⟩
                    refine wp_eq64T 3 3 (.tmp 138) (.const (.int .i64 2)) rfl Try.underlying3 2 (hv 26 138 (.int .i64 2) (by rw [hVe]; simp) d26) rfl ?_
                    exact ⟨hoff.put 139 _ (by simp), vals_put hV 27 139 _ (by omega) (by rw [hVe]; simp) (by rw [hVe]; simp), n0, n1⟩
                  · obtain rfl := Option.some.inj ho
                    have d24 : f 24 = true := hdep ⟨24, .guard⟩ (by simp) rfl
                    have d27 : f 27 = true := hdep ⟨27, .data⟩ (by simp) rfl
                    refine .inl ⟨wanted_of 24 136 false rfl rfl (hv 24 136 (.bool false) (by rw [hVe]; simp) d24), ?_⟩
                    refine wp_move (.tmp 139) rfl ?_
                    rw [(hv 27 139 (.bool true) (by rw [hVe]; simp) d27)]
                    exact ⟨hoff.put 140 _ (by simp), vals_put hV 28 140 _ (by omega) (by rw [hVe]; simp) (by rw [hVe]; simp), n0, n1⟩
                  · obtain rfl := Option.some.inj ho
                    have d28 : f 28 = true := hdep ⟨28, .guard⟩ (by simp) rfl
                    refine .inl ⟨wanted_of 28 140 true rfl rfl (hv 28 140 (.bool true) (by rw [hVe]; simp) d28), ?_⟩
                    refine wp_move (.tmp 13) rfl ?_
                    rw [((hoff.eval 13 (by simp)).trans hA13)]
                    exact ⟨hoff.put 141 _ (by simp), vals_put hV 29 141 _ (by omega) (by rw [hVe]; simp) (by rw [hVe]; simp), n0, n1⟩
                  · obtain rfl := Option.some.inj ho
                    have d28 : f 28 = true := hdep ⟨28, .guard⟩ (by simp) rfl
                    refine .inl ⟨wanted_of 28 140 true rfl rfl (hv 28 140 (.bool true) (by rw [hVe]; simp) d28), ?_⟩
                    refine wp_field 45 (.tmp 15) 3 rfl _ _ ((hoff.eval 15 (by simp)).trans hA15) (fa_fld3 _) ?_
                    exact ⟨hoff.put 142 _ (by simp), vals_put hV 30 142 _ (by omega) (by rw [hVe]; simp) (by rw [hVe]; simp), n0, n1⟩
                  · obtain rfl := Option.some.inj ho
                    have d28 : f 28 = true := hdep ⟨28, .guard⟩ (by simp) rfl
                    have d30 : f 30 = true := hdep ⟨30, .data⟩ (by simp) rfl
                    refine .inl ⟨wanted_of 28 140 true rfl rfl (hv 28 140 (.bool true) (by rw [hVe]; simp) d28), ?_⟩
                    refine wp_load1 9 (.tmp 142) rfl _ _ (hv 30 142 (.pointer (some ⟨wr.heap.size, 3, none⟩)) (by rw [hVe]; simp) d30) (loadS _ _ _ hX.cells.2.2.2) ?_
                    exact ⟨hoff.put 143 _ (by simp), vals_put hV 31 143 _ (by omega) (by rw [hVe]; simp) (by rw [hVe]; simp), n0, n1⟩
                  · obtain rfl := Option.some.inj ho
                    have d28 : f 28 = true := hdep ⟨28, .guard⟩ (by simp) rfl
                    have d31 : f 31 = true := hdep ⟨31, .data⟩ (by simp) rfl
                    refine .inl ⟨wanted_of 28 140 true rfl rfl (hv 28 140 (.bool true) (by rw [hVe]; simp) d28), ?_⟩
                    refine wp_lenS 9 (.tmp 143) rfl Try.underlying9 fs (hv 31 143 (.string fs) (by rw [hVe]; simp) d31) ?_
                    exact ⟨hoff.put 144 _ (by simp), vals_put hV 32 144 _ (by omega) (by rw [hVe]; simp) (by rw [hVe]; simp), n0, n1⟩
                  · obtain rfl := Option.some.inj ho
                    have d28 : f 28 = true := hdep ⟨28, .guard⟩ (by simp) rfl
                    have d29 : f 29 = true := hdep ⟨29, .data⟩ (by simp) rfl
                    have d32 : f 32 = true := hdep ⟨32, .data⟩ (by simp) rfl
                    refine .inl ⟨wanted_of 28 140 true rfl rfl (hv 28 140 (.bool true) (by rw [hVe]; simp) d28), ?_⟩
                    have hW := n0 hfi
                    subst hW
                    refine wp_call 33 #[.tmp 141, .tmp 144] #[52, 3] rfl Try.call33 #[.pointer (some ⟨br, 0, none⟩), .int .i64 fs.size] (by simp [(hv 29 141 (.pointer (some ⟨br, 0, none⟩)) (by rw [hVe]; simp) d29), (hv 32 144 (.int .i64 fs.size) (by rw [hVe]; simp) d32)]) (unhide hcall) ?_
                    rintro e w3 ⟨rfl, rd3, k3⟩
                    exact ⟨_, rfl, hoff.put 145 _ (by simp), vals_put hV 33 145 _ (by omega) (by rw [hVe]; simp) (by rw [hVe]; simp), fun h => absurd h (by show ¬ upd f 33 33 = false; simp [upd]), fun _ => ⟨rd3, k3⟩⟩
                  · obtain rfl := Option.some.inj ho
                    have d28 : f 28 = true := hdep ⟨28, .guard⟩ (by simp) rfl
                    refine .inl ⟨wanted_of 28 140 true rfl rfl (hv 28 140 (.bool true) (by rw [hVe]; simp) d28), ?_⟩
                    refine wp_field 45 (.tmp 15) 3 rfl _ _ ((hoff.eval 15 (by simp)).trans hA15) (fa_fld3 _) ?_
                    exact ⟨hoff.put 146 _ (by simp), vals_put hV 34 146 _ (by omega) (by rw [hVe]; simp) (by rw [hVe]; simp), n0, n1⟩
                  · obtain rfl := Option.some.inj ho
                    have d28 : f 28 = true := hdep ⟨28, .guard⟩ (by simp) rfl
                    have d34 : f 34 = true := hdep ⟨34, .data⟩ (by simp) rfl
                    refine .inl ⟨wanted_of 28 140 true rfl rfl (hv 28 140 (.bool true) (by rw [hVe]; simp) d28), ?_⟩
                    refine wp_load1 9 (.tmp 146) rfl _ _ (hv 34 146 (.pointer (some ⟨wr.heap.size, 3, none⟩)) (by rw [hVe]; simp) d34) (loadS _ _ _ hX.cells.2.2.2) ?_
                    exact ⟨hoff.put 147 _ (by simp), vals_put hV 35 147 _ (by omega) (by rw [hVe]; simp) (by rw [hVe]; simp), n0, n1⟩
                  · obtain rfl := Option.some.inj ho
                    have d28 : f 28 = true := hdep ⟨28, .guard⟩ (by simp) rfl
                    have d33 : f 33 = true := hdep ⟨33, .data⟩ (by simp) rfl
                    have d35 : f 35 = true := hdep ⟨35, .data⟩ (by simp) rfl
                    refine .inl ⟨wanted_of 28 140 true rfl rfl (hv 28 140 (.bool true) (by rw [hVe]; simp) d28), ?_⟩
                    refine wp_neStrF 9 9 (.tmp 145) (.tmp 147) rfl Try.underlying9 _ (hv 33 145 (.string fs) (by rw [hVe]; simp) d33) (hv 35 147 (.string fs) (by rw [hVe]; simp) d35) ?_
                    exact ⟨hoff.put 148 _ (by simp), vals_put hV 36 148 _ (by omega) (by rw [hVe]; simp) (by rw [hVe]; simp), n0, n1⟩
                  · obtain rfl := Option.some.inj ho
                    have d24 : f 24 = true := hdep ⟨24, .guard⟩ (by simp) rfl
                    have d28 : f 28 = true := hdep ⟨28, .data⟩ (by simp) rfl
                    have d36 : f 36 = true := hdep ⟨36, .data⟩ (by simp) rfl
                    refine .inl ⟨wanted_of 24 136 false rfl rfl (hv 24 136 (.bool false) (by rw [hVe]; simp) d24), ?_⟩
                    refine wp_pickT (.tmp 140) (.tmp 148) (.const (.bool false)) rfl _ (hv 28 140 (.bool true) (by rw [hVe]; simp) d28) (hv 36 148 (.bool false) (by rw [hVe]; simp) d36) ?_
                    exact ⟨hoff.put 149 _ (by simp), vals_put hV 37 149 _ (by omega) (by rw [hVe]; simp) (by rw [hVe]; simp), n0, n1⟩
                  · obtain rfl := Option.some.inj ho
                    have d24 : f 24 = true := hdep ⟨24, .data⟩ (by simp) rfl
                    have d37 : f 37 = true := hdep ⟨37, .data⟩ (by simp) rfl
                    refine .inl ⟨rfl, ?_⟩
                    refine wp_pickF (.tmp 136) (.const (.bool true)) (.tmp 149) rfl _ (hv 24 136 (.bool false) (by rw [hVe]; simp) d24) (hv 37 149 (.bool false) (by rw [hVe]; simp) d37) ?_
                    exact ⟨hoff.put 150 _ (by simp), vals_put hV 38 150 _ (by omega) (by rw [hVe]; simp) (by rw [hVe]; simp), n0, n1⟩
                  · simp at ho
                case fin =>
                  rintro f a wx ⟨hoff, hV, n0, n1⟩ hall
                  have e := Off.all _ _ hoff
                  have e150 : a.eval (.tmp 150) = .bool false := hV (38, 150, .bool false) (by rw [hVe]; simp) (hall 38 (by decide))
                  obtain ⟨rd9, k9⟩ := n1 (hall 33 (by decide))
                  have RD9 := hide rd9
                  have K9 := hide ((unhide HKB).trans ((Kept.of_below ((unhide HB0).mono (unhide HKB).size)).trans (k9.mono (Nat.le_trans (unhide HKB).size (unhide HB0).size))))
                  simp only [List.foldl_cons, List.foldl_nil] at e
                  rw [← hA, e150] at e
                  generalize a.eval (.tmp 112) = y112, a.eval (.tmp 113) = y113, a.eval (.tmp 114) = y114, a.eval (.tmp 115) = y115, a.eval (.tmp 116) = y116, a.eval (.tmp 117) = y117, a.eval (.tmp 118) = y118, a.eval (.tmp 119) = y119, a.eval (.tmp 120) = y120, a.eval (.tmp 121) = y121, a.eval (.tmp 122) = y122, a.eval (.tmp 123) = y123, a.eval (.tmp 124) = y124, a.eval (.tmp 125) = y125, a.eval (.tmp 126) = y126, a.eval (.tmp 127) = y127, a.eval (.tmp 128) = y128, a.eval (.tmp 129) = y129, a.eval (.tmp 130) = y130, a.eval (.tmp 131) = y131, a.eval (.tmp 132) = y132, a.eval (.tmp 133) = y133, a.eval (.tmp 134) = y134, a.eval (.tmp 135) = y135, a.eval (.tmp 136) = y136, a.eval (.tmp 137) = y137, a.eval (.tmp 138) = y138, a.eval (.tmp 139) = y139, a.eval (.tmp 140) = y140, a.eval (.tmp 141) = y141, a.eval (.tmp 142) = y142, a.eval (.tmp 143) = y143, a.eval (.tmp 144) = y144, a.eval (.tmp 145) = y145, a.eval (.tmp 146) = y146, a.eval (.tmp 147) = y147, a.eval (.tmp 148) = y148, a.eval (.tmp 149) = y149 at e
                  simp only [Act.put, List.setIfInBounds_toArray, List.set_cons_succ, List.set_cons_zero] at e
                  subst e
                  clear hoff hV hA hA13 hA15 hVe e150 n0 n1 rd9 k9 hcall HX0 HR0 HB0 hW0s
                  go_wp2
                  go_roundw
                  case rel => exact ⟨j + 1, P2, by omega, by go_num, unhide HP2, unhide RD9, unhide K9⟩
                  case measure => simp [intOf]; omega
            · have hje : j = K.length := by omega
              have hPs : P = s := by
                rw [hje, List.drop_length] at hen
                exact bytes_inj hen
              subst hPs
              have q1 : ¬ (j : Int) < K.length := by omega
              have he := hide (rerr_any wr br (P, 0) (unhide HRD))
              have hle := hide (rleft_any wr br (P, 0) (unhide HRD))
              have e1 : left (P, 0) = P.size := by unfold left; rw [if_neg (by simp)]
              rw [e1] at hle
              have hre := hide (rrest_any wr br (P, 0) (by unfold maxLen; omega) (unhide HRD))
              rw [e1] at hre
              obtain ⟨r1, P3, r2, r3⟩ := raw_back P P [] (by simp)
              rw [r1, r2] at hre
              have hP3 : P3.size = 0 := by rw [← blen, r3]; rfl
              have hen3 : atEnd (P3, 0) = 0 := by unfold atEnd; rw [if_neg (by simp only; omega)]
              have BF := hide ((unhide B7).trans ((unhide HKB).below _ (unhide B7).size (by omega)))
              clear hen hje r1 r2 r3 HKB
              go_wp2_with fail
              refine (unhide he).mono ?_
              rintro e w8 ⟨rfl, rfl⟩
              go_wp2_with fail
              refine (unhide hle).mono ?_
              rintro e w8 ⟨rfl, rfl⟩
              go_wp2_with fail
              refine (unhide hre).mono ?_
              rintro e w8 ⟨rfl, rd8, k8⟩
              have hend := hide (rend_any w8 br (P3, 0) (show P3.size ≤ maxLen by unfold maxLen; omega) rd8)
              rw [hen3] at hend
              have BF8 := hide ((unhide BF).trans (k8.below _ (unhide BF).size (by omega)))
              clear rd8 k8 BF
              go_wp2_with fail
              refine (unhide hend).mono ?_
              rintro e w9 ⟨rfl, rfl⟩
              go_wp2
              go_ret
              exact ⟨rfl, unhide BF8⟩

end Go.Proofs.Ytahejlimdgniiab

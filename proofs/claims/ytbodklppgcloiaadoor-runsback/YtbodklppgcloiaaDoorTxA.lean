/- Contracts of number, span, written, Read; what they ask of the library's variables. -/
import Derived.Test.YtbodklppgcloiaaDoorTxR
import Derived.Lib.LaidTab
import Derived.Stop.LaidErr
namespace Go.Proofs.YtbodklppgcloiaaDoor
open Go.RowKit Go.Shelf
set_option linter.unusedVariables false
attribute [local go_sem] Oper.semAt_some

/-- the library's variables hold what they were laid with -/
structure Glob (W : World) : Prop where
  tab : Lib.TabIs Tryd.prog W "internal/strconv.uint64pow10" .u64 Lib.pow10Tab
  len : ∃ m, W.cell? ⟨0, 0, none⟩ = some (.int .i64 m)
  syn : ∃ tp p, W.var? Tryd.prog "strconv.ErrSyntax" = some #[.iface tp p]
  ran : ∃ tp p, W.var? Tryd.prog "strconv.ErrRange" = some #[.iface tp p]
/-- all cells that were there are as they were -/
def Old (w W : World) : Prop := ∀ (k : Nat) (cs : Array Value) (t : TypeId) (fr : Nat × Nat), w.heap[k]? = some (.cells cs t fr) → W.heap[k]? = some (.cells cs t fr)
theorem Old.refl (w : World) : Old w w := fun _ _ _ _ h => h
theorem Old.below {w A B : World} (h : Old w A) (hb : Below A.heap.size A B) : Old w B := fun k cs t fr h1 => (hb.block k (lt_of_block (h k cs t fr h1))).trans (h k cs t fr h1)
theorem Old.kp {w A B : World} {n0 : Nat} (h : Old w A) (hn : w.heap.size ≤ n0) (hk : KpG n0 A B) : Old w B := fun k cs t fr h1 => hk k cs t fr (h k cs t fr h1) (.inl (Nat.lt_of_lt_of_le (lt_of_block h1) hn))
theorem Old.of_below {w A : World} (hb : Below w.heap.size w A) : Old w A := (Old.refl w).below hb
theorem var_old {w W : World} {n : String} {cs : Array Value} (h : w.var? Tryd.prog n = some cs) (ho : Old w W) : W.var? Tryd.prog n = some cs := by
  unfold World.var? at h ⊢
  cases hg : Tryd.prog.globalNamed n with
  | none => simp [hg] at h
  | some g =>
    simp only [hg, Option.bind_some] at h ⊢
    cases hb : w.heap[g]? with
    | none => simp [hb] at h
    | some o =>
      cases o with
      | cells c t fr =>
        rw [hb] at h
        rw [ho g c t fr hb]
        exact h
      | _ => simp [hb] at h
theorem Glob.old {w W : World} (h : Glob w) (ho : Old w W) : Glob W := by
  refine ⟨var_old h.tab ho, ?_, ?_, ?_⟩
  · obtain ⟨m, hm⟩ := h.len
    refine ⟨m, ?_⟩
    unfold World.cell? at hm ⊢
    cases hb : w.heap[(0 : Nat)]? with
    | none => simp [hb] at hm
    | some o =>
      cases o with
      | cells c t fr =>
        simp only [hb] at hm
        simp only [ho 0 c t fr hb]
        exact hm
      | _ => simp [hb] at hm
  · obtain ⟨tp, p, h1⟩ := h.syn; exact ⟨tp, p, var_old h1 ho⟩
  · obtain ⟨tp, p, h1⟩ := h.ran; exact ⟨tp, p, var_old h1 ho⟩
theorem Glob.below {w W : World} (h : Glob w) (hb : Below w.heap.size w W) : Glob W := h.old (Old.of_below hb)
theorem below_grow (w : World) (k : Nat) (os : Array Obj) : Below w.heap.size w (Sort.grow (w.drewN k) os) :=
  ⟨rfl, rfl, rfl, by simp [Sort.grow], fun i hi => by show (w.heap ++ os)[i]? = _; rw [Array.getElem?_append_left hi]⟩
theorem below_dn (w : World) (k : Nat) : Below w.heap.size w (w.drewN k) := ⟨rfl, rfl, rfl, Nat.le_refl _, fun _ _ => rfl⟩
theorem itoa_glob {w : World} (h : Glob w) (k : Nat) (hk : k < 1000) : Calls Tryd.prog 73 #[.int .i64 k] w fun e w' => e = .returned (.string (bs (Lib.decDigits k))) ∧ Below w.heap.size w w' :=
  (Tryd.strconv_Itoa k (by omega) (by omega) w h.tab).mono fun e w' ⟨h1, n, os, h2⟩ => ⟨by rw [h1]; unfold Lib.itoa; rw [if_neg (by omega), Int.toNat_natCast]; rfl, by rw [h2]; exact below_grow _ _ _⟩
theorem itoaOk_glob {w : World} (h : Glob w) : ItoaOk w 161 := fun k hk w' hb => itoa_glob (h.below hb) k (by omega)
theorem cut_any (c : UInt8) (s : By) (hs : s.length ≤ 100000) (w : World) (hG : Glob w) : Calls Tryd.prog 78 #[.string (bs s), .string (bs [c])] w fun e w' => e = .returned (.tuple #[.string (bs (cutC c s).1), .string (bs (cutC c s).2.1), .bool (cutC c s).2.2]) ∧ Below w.heap.size w w' := by
  obtain ⟨m, hm⟩ := hG.len
  refine (Tryd.strings_Cut (bs s) (bs [c]) m w (by rw [bs_size]; omega) hm).mono ?_
  rintro e w' ⟨rfl, n, rfl⟩
  rw [bs_list, bs_list, cut_eq]
  exact ⟨rfl, below_dn w n⟩
/-- how Atoi ends -/
theorem atoi_any (d : By) (hd : d.length ≤ 100000) (w : World) (hG : Glob w) : Calls Tryd.prog 98 #[.string (bs d)] w fun e w' => (∃ x y, e = .returned (.tuple #[.int .i64 x, y]) ∧ ((∃ v, Lib.atoiAll d = .ok v ∧ x = v ∧ y = .nilIface) ∨ ((∀ v, Lib.atoiAll d ≠ .ok v) ∧ ∃ N, y = .iface 133 (.pointer (some ⟨N, 0, none⟩))))) ∧ Below w.heap.size w w' := by
  have hsz : (bs d).size = d.length := bs_size d
  cases h : Lib.atoiAll d with
  | ok v =>
    refine (Tryd.strconv_Atoi_ok (bs d) (by omega) v h w).mono ?_
    rintro e w' ⟨rfl, hw⟩
    refine ⟨⟨_, _, rfl, .inl ⟨v, rfl, rfl, rfl⟩⟩, ?_⟩
    rcases hw with rfl | ⟨t, rfl⟩
    · exact Below.refl _ _
    · exact Lib.bytesWorld_below _ _ _
  | «syntax» =>
    obtain ⟨tp, p, hv⟩ := hG.syn
    refine (Tryd.strconv_Atoi_syntax_var (bs d) (by omega) h tp p w hv).mono ?_
    rintro e w' ⟨N, rfl, _, _, hb⟩
    exact ⟨⟨_, _, rfl, .inr ⟨fun v hv => (by cases hv), N, rfl⟩⟩, hb⟩
  | range =>
    obtain ⟨tp, p, hv⟩ := hG.ran
    refine (Tryd.strconv_Atoi_range_var (bs d) (by omega) h tp p w hv).mono ?_
    rintro e w' ⟨N, rfl, _, _, hb⟩
    exact ⟨⟨_, _, rfl, .inr ⟨fun v hv => (by cases hv), N, rfl⟩⟩, hb⟩
theorem atoi_range {d : By} {v : Int} (h : Lib.atoiAll d = .ok v) : -9223372036854775808 ≤ v ∧ v ≤ 9223372036854775807 := by
  unfold Lib.atoiAll at h
  split at h
  · cases h
  · simp only at h
    split at h
    · cases h
    · cases h
    · split at h
      · cases h
      · split at h
        · cases h
        · rename_i h1 h2
          simp only [Lib.NumEnd.ok.injEq] at h
          subst h
          split
          · rename_i h3; simp only [h3, true_and] at h2; omega
          · rename_i h3; simp only [h3, not_false_eq_true, true_and] at h1; omega
set_option maxRecDepth 100000 in
set_option maxHeartbeats 1000000 in
theorem number_any (d : By) (hd : d.length ≤ 100000) (w : World) (hG : Glob w) : Calls Tryd.prog 92 #[.string (bs d)] w fun e w' => e = .returned (.int .i64 (numB d)) ∧ Below w.heap.size w w' := by
  have hA := hide (atoi_any d hd w hG)
  have hno : Hid ((∀ v, Lib.atoiAll d ≠ .ok v) → numB d = -1) := by
    intro h
    unfold numB
    split
    · rename_i v hv; exact absurd hv (h v)
    · rfl
  have hsz : (bs d).size ≤ 100000 := by rw [bs_size]; exact hd
  have hI := hide (fun w' (hb : Below w.heap.size w w') (k : Nat) (hk : k < 160) => itoa_glob (hG.below hb) k (by omega))
  obtain ⟨D, hD⟩ : ∃ D, D = bs d := ⟨_, rfl⟩
  have HD := hide hD
  rw [← hD] at hA hsz ⊢
  clear hD
  go_enter Tryd.func92, Tryd.ntmps92
  go_wp2_with fail
  refine (unhide hA).mono ?_
  rintro e w1 ⟨⟨x, y, rfl, ⟨v, hv, rfl, rfl⟩ | ⟨hne, N, rfl⟩⟩, b1⟩
  · have B1 := hide b1
    have hr := atoi_range hv
    have hN : Hid (numB d = if 0 ≤ x ∧ x < 160 ∧ Lib.itoa x = d then x else -1) := by
      show _ = _
      unfold numB
      rw [hv]
    have HV := hide hv
    clear b1 hv hno hA
    by_cases h1 : x < 0
    · have hN2 : Hid (numB d = -1) := by
        show _ = _
        rw [unhide hN, if_neg (by omega)]
      go_wp2
      go_ret
      exact ⟨by rw [unhide hN2]; rfl, unhide B1⟩
    · by_cases h2 : 160 ≤ x
      · have hN2 : Hid (numB d = -1) := by
          show _ = _
          rw [unhide hN, if_neg (by omega)]
        go_wp2
        go_ret
        exact ⟨by rw [unhide hN2]; rfl, unhide B1⟩
      · obtain ⟨k, rfl⟩ : ∃ k : Nat, x = k := ⟨x.toNat, by omega⟩
        have hi := hide (unhide hI w1 (unhide B1) k (by omega))
        have hit : Lib.itoa (k : Int) = Lib.decDigits k := by unfold Lib.itoa; rw [if_neg (by omega), Int.toNat_natCast]
        rw [hit] at hN
        have hcmp : Hid (((bs (Lib.decDigits k)).toList == D.toList) = decide (Lib.decDigits k = d)) := by
          show _ = _
          rw [unhide HD, ByteArray.toList_eq, ByteArray.toList_eq, bs_list, bs_list]
          by_cases h : Lib.decDigits k = d
          · rw [decide_eq_true h, h]; simp
          · rw [decide_eq_false h]; simpa using h
        by_cases h3 : Lib.decDigits k = d
        · have hN2 : Hid (numB d = (k : Int)) := by
            show _ = _
            rw [unhide hN, if_pos ⟨by omega, by omega, h3⟩]
          have hc : ((bs (Lib.decDigits k)).toList == D.toList) = true := by rw [unhide hcmp, decide_eq_true h3]
          clear hcmp hit h3
          generalize bs (Lib.decDigits k) = DK at *
          go_wp2_with fail
          refine (unhide hi).mono ?_
          rintro e w2 ⟨rfl, b2⟩
          have B2 := hide ((unhide B1).trans (b2.mono (unhide B1).size))
          clear b2
          go_wp2
          go_ret
          exact ⟨by rw [unhide hN2]; rfl, unhide B2⟩
        · have hN2 : Hid (numB d = -1) := by
            show _ = _
            rw [unhide hN, if_neg (fun h => h3 h.2.2)]
          have hc : ((bs (Lib.decDigits k)).toList == D.toList) = false := by rw [unhide hcmp, decide_eq_false h3]
          clear hcmp hit h3
          generalize bs (Lib.decDigits k) = DK at *
          go_wp2_with fail
          refine (unhide hi).mono ?_
          rintro e w2 ⟨rfl, b2⟩
          have B2 := hide ((unhide B1).trans (b2.mono (unhide B1).size))
          clear b2
          go_wp2
          go_ret
          exact ⟨by rw [unhide hN2]; rfl, unhide B2⟩
  · have B1 := hide b1
    have hN2 : Hid (numB d = -1) := unhide hno hne
    clear b1 hne hA hno
    go_wp2
    go_ret
    exact ⟨by rw [unhide hN2]; rfl, unhide B1⟩
end Go.Proofs.YtbodklppgcloiaaDoor

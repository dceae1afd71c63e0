/- Contracts of merkle's witness and Witness. -/
import Derived.Test.YtiaohpkcncbdnabMkL
import Derived.Test.YtiaohpkcncbdnabWit
import Derived.Maps.OwnSet
import Derived.Maps.OwnOps
import Derived.BigRegion
namespace Go.Proofs.Ytiaohpkcncbdnab
open Go.RowKit
set_option linter.unusedVariables false

/-- what is told of the left one and the right one -/
def witG (T : List By) (l i : Nat) : By := if l < T.length then T.getD i [] else []
theorem witG_in {T : List By} {l i : Nat} (h : l < T.length) (hi : i < T.length) : witG T l i = T[i] := by
  unfold witG
  rw [if_pos h]
  simp [List.getD, hi]
theorem map_below {w w' : World} {k : TypeId} {P : Program} {R : Value → Option (DataW Unit × List MemPlace)} {b n : Nat} {D : DataW Unit} (h : w.ownsMap P k R b n D) (hb : Below w.heap.size w w') : w'.ownsMap P k R b n D := by
  have hl := h.lt
  obtain ⟨es, cl, h1, h2⟩ := h
  exact ⟨es, cl, (hb.block b hl).trans h1, h2⟩
theorem zeroI (w : World) : (zeroValue 3).run Try.prog w = .ok (.int .i64 0) w := by kernel_rfl
theorem wf_nat (j : Nat) (h : j ≤ 100000) : (Lit.int .i64 (j : Int)).wf = true := by
  have h1 : IntKind.min .i64 ≤ (j : Int) := by show (-9223372036854775808 : Int) ≤ j; omega
  have h2 : (j : Int) ≤ IntKind.max .i64 := by show (j : Int) ≤ 9223372036854775807; omega
  simp only [Lit.wf, decide_eq_true h1, decide_eq_true h2, Bool.and_self]
theorem bl_neq {A B : ByteArray} (h : A ≠ B) : (A.toList == B.toList) = false := by
  rw [beq_eq_false_iff_ne]
  intro e
  rw [ByteArray.toList_eq, ByteArray.toList_eq] at e
  cases A
  cases B
  simp at e h
  exact h e
theorem bs_full (x : By) (h : x.length = 32) : (bs x).toList.isEmpty = false := by
  rw [ByteArray.toList_eq]
  show x.isEmpty = false
  cases x with
  | nil => simp at h
  | cons => rfl

theorem lit_of {x : DataW Unit} {c : Int} {a : Nat} (h : x = .lit (.int .i64 c)) (h' : x = .lit (.int .i64 (a : Int))) : c = (a : Int) := by
  rw [h] at h'
  cases h'
  rfl
set_option maxRecDepth 100000 in
set_option maxHeartbeats 4000000 in
theorem witness_any (T : List By) (a0 : Option Addr) (c : Nat) (w : World) (hT : Txts w a0 T) (hn : T.length ≤ 100000) (hl : ∀ t ∈ T, t.length ≤ 65536) :
    Calls Try.prog 24 #[.slice a0 T.length c, .func (.func 22) #[] #[]] w fun e w' => ∃ l r, WitAt T T.length l r ∧ e = .returned (.tuple #[.string (bs (witG T l l)), .string (bs (witG T l r)), .bool (decide (l < T.length))]) ∧ Below w.heap.size w w' := by
  have hmm := @run_makeMap Try.prog
  have HT := hide hT
  have HL := hide hl
  clear hT hl
  generalize hnn : T.length = n at *
  have HN := hide hnn
  clear hnn
  go_enter Try.func24, Try.ntmps24
  go_wp2_with fail
  go_loopw [8, 9, 20] (fun lv rv iv wr => ∃ (j l r : Nat) (D : DataW Unit), j ≤ n ∧ iv = .int .i64 j ∧ lv = .int .i64 l ∧ rv = .int .i64 r ∧ WitAt T j l r ∧ MapAt T j D ∧ wr.ownsMap Try.prog 9 (plainElem Try.prog 3) w.heap.size j D ∧ l ≤ n ∧ r ≤ n ∧ Below w.heap.size w wr) (fun _ _ iv _ => n - (intOf iv).toNat)
  case atStart => exact ⟨0, n, 0, .map [], Nat.zero_le _, rfl, rfl, rfl, by rw [← unhide HN]; exact witAt_zero T, mapAt_zero T, World.ownsMap_made _ _ _ _, Nat.le_refl _, Nat.zero_le _, (Below.refl _ _).alloc (Nat.le_refl _) _⟩
  case round =>
    obtain ⟨j, l, r, D, hj, rfl, rfl, rfl, hW, hM, hown, hln, hrn, hb⟩ := hrel
    have hzs := hb.size
    by_cases hlt : j < n
    · have hlt' : j < T.length := by rw [unhide HN]; exact hlt
      obtain ⟨g, o, rfl, hc0⟩ := (unhide HT).below hb j hlt'
      have qi : (j : Int) < n := by omega
      have hsm := hide (fun w => msum_any T[j] w (unhide HL _ (List.getElem_mem hlt')))
      have h32 := shaSum_length T[j]
      have hem := bs_full _ h32
      have hkey : keyOf Try.prog 9 (.string (bs (shaSum T[j]))) = some (.string (shaSum T[j])) := WideMaps.keyOf_string_mk (P := Try.prog) Try.underlying9 (s := bs (shaSum T[j])) (by rw [bs_size]; unfold maxLen; omega)
      have hgt : Hid (∀ (i : Nat) (hi : i < T.length) (w' : World), Below w.heap.size w w' → w'.cell? ⟨g, o + i, none⟩ = some (.string (bs T[i]))) := by
        intro i hi w' hb'
        obtain ⟨g', o', eg, hcc⟩ := (unhide HT).below hb' i hi
        simp only [Option.some.injEq, Addr.mk.injEq, and_true] at eg
        obtain ⟨rfl, rfl⟩ := eg
        exact hcc
      rcases first_of T (shaSum T[j]) j with hnew | ⟨a, haT, haj, hae, haf⟩
      · -- a sum that was not seen
        have hhas : Maps.has D (.string (shaSum T[j])) = false := hM.2.1 _ hnew
        have HW := hide (witAt_new hW hlt' hnew)
        have HM := hide (mapAt_new hM hlt' hnew)
        have hpe := plainElem_int (H := Unit) (P := Try.prog) Try.underlying3 (wf_nat j (by omega))
        generalize bs T[j] = S at *
        generalize shaSum T[j] = d at *
        have HO := hide hown
        have HB := hide hb
        clear hW hM hown hb hnew h32 hlt'
        go_wp2_with fail
        refine (unhide hsm _).mono ?_
        rintro e w2 ⟨rfl, b2⟩
        have hown2 := map_below (unhide HO) b2
        have HB2 := hide ((unhide HB).trans (b2.mono (unhide HB).size))
        clear b2 HO HB hsm hc0
        go_wp2_with (first
          | (at_lookup; refine wpList_lookup_own_ok_int _ rfl _ _ 72 rfl 9 3 .i64 (Maps.string_keyed Try.underlying9) Try.underlying72 Try.underlying3 (zeroI _) w.heap.size j D rfl hown2 _ _ rfl hkey ?_; intro cx hat hwc; clear hat)
          | (at_mapUpdate; refine wpList_mapUpdate_own _ rfl _ _ _ 72 rfl 9 3 (Maps.string_keyed Try.underlying9) Try.underlying72 _ w.heap.size j D rfl hown2 (by unfold maxLen; omega) _ _ _ rfl rfl hkey _ [] hpe ?_; intro w3 hown3 hgrow3))
        have HO3 := hide hown3
        have HB3 := hide ((unhide HB2).grown hgrow3 (unhide HB2).size (fun q hq => by cases hq; exact Nat.le_refl _))
        clear hown2 hown3 hgrow3
        go_wp2
        go_roundw
        case rel => exact ⟨j + 1, l, r, _, by omega, by go_num, rfl, rfl, unhide HW, unhide HM, unhide HO3, hln, hrn, unhide HB3⟩
        case measure => simp [intOf]; omega
      · -- one that was seen
        obtain ⟨hhas0, hat0⟩ := hM.2.2 a haT haj (fun i' hi' h => by rw [hae]; exact haf i' hi' h)
        rw [hae] at hhas0
        have hatk : Hid (∀ z, D.atKey (.string (shaSum T[j])) z = .lit (.int .i64 a)) := fun z => by rw [← hae]; exact hat0 z
        have HM2 := hide (mapAt_old hM hlt' haj hae)
        have HO := hide hown
        have HB := hide hb
        clear hat0
        by_cases hal : a < l
        · by_cases hau : T[a] = T[j]
          · skip
            have HW := hide (witAt_keep hW hlt' haj hae haf (.inr hau))
            have ya := unhide hgt a haT
            rw [hau] at ya
            generalize bs T[j] = S at *
            generalize shaSum T[j] = d at *
            have HYA : True := trivial
            clear hW hM hown hb h32 hlt' hae haf hau hgt
            have qa : (a : Int) < l := by omega
            go_wp2_with fail
            refine (unhide hsm _).mono ?_
            rintro e w2 ⟨rfl, b2⟩
            have hown2 := map_below (unhide HO) b2
            have HB2 := hide ((unhide HB).trans (b2.mono (unhide HB).size))
            have y2 := ya _ (unhide HB2)
            clear b2 HO HB hsm hc0 ya 
            go_wp2_with (at_lookup; refine wpList_lookup_own_ok_int _ rfl _ _ 72 rfl 9 3 .i64 (Maps.string_keyed Try.underlying9) Try.underlying72 Try.underlying3 (zeroI _) w.heap.size j D rfl hown2 _ _ rfl hkey ?_; intro cx hat hwc; obtain rfl := lit_of hat (unhide hatk _); clear hat hwc)
            have HO2 := hide (hown2.mono (Nat.le_succ j))
            clear hown2
            go_wp2
            go_roundw
            case rel => exact ⟨j + 1, l, r, D, by omega, by go_num, rfl, rfl, unhide HW, unhide HM2, unhide HO2, hln, hrn, unhide HB2⟩
            case measure => simp [intOf]; omega
          · skip
            have HW := hide (witAt_set hW hlt' haj hae haf hal hau)
            have hne := bl_neq (fun h : bs T[a] = bs T[j] => hau (bs_inj h))
            have ya := unhide hgt a haT
            generalize bs T[a] = Sa at *
            generalize bs T[j] = S at *
            generalize shaSum T[j] = d at *
            have HYA : True := trivial
            clear hW hM hown hb h32 hlt' hae haf hau hgt
            have qa : (a : Int) < l := by omega
            go_wp2_with fail
            refine (unhide hsm _).mono ?_
            rintro e w2 ⟨rfl, b2⟩
            have hown2 := map_below (unhide HO) b2
            have HB2 := hide ((unhide HB).trans (b2.mono (unhide HB).size))
            have y2 := ya _ (unhide HB2)
            clear b2 HO HB hsm hc0 ya 
            go_wp2_with (at_lookup; refine wpList_lookup_own_ok_int _ rfl _ _ 72 rfl 9 3 .i64 (Maps.string_keyed Try.underlying9) Try.underlying72 Try.underlying3 (zeroI _) w.heap.size j D rfl hown2 _ _ rfl hkey ?_; intro cx hat hwc; obtain rfl := lit_of hat (unhide hatk _); clear hat hwc)
            have HO2 := hide (hown2.mono (Nat.le_succ j))
            clear hown2
            go_wp2
            go_roundw
            case rel => exact ⟨j + 1, a, j, D, by omega, by go_num, rfl, rfl, unhide HW, unhide HM2, unhide HO2, by omega, by omega, unhide HB2⟩
            case measure => simp [intOf]; omega
        · skip
          have HW := hide (witAt_keep hW hlt' haj hae haf (.inl hal))
          generalize bs T[j] = S at *
          generalize shaSum T[j] = d at *
          have HYA : True := trivial
          clear hW hM hown hb h32 hlt' hae haf hgt
          have qa : ¬ (a : Int) < l := by omega
          have qa' : decide (a < l) = false := decide_eq_false hal
          go_wp2_with fail
          refine (unhide hsm _).mono ?_
          rintro e w2 ⟨rfl, b2⟩
          have hown2 := map_below (unhide HO) b2
          have HB2 := hide ((unhide HB).trans (b2.mono (unhide HB).size))
          clear b2 HO HB hsm hc0 
          go_wp2_with (at_lookup; refine wpList_lookup_own_ok_int _ rfl _ _ 72 rfl 9 3 .i64 (Maps.string_keyed Try.underlying9) Try.underlying72 Try.underlying3 (zeroI _) w.heap.size j D rfl hown2 _ _ rfl hkey ?_; intro cx hat hwc; obtain rfl := lit_of hat (unhide hatk _); clear hat hwc)
          have HO2 := hide (hown2.mono (Nat.le_succ j))
          clear hown2
          go_wp2
          go_roundw
          case rel => exact ⟨j + 1, l, r, D, by omega, by go_num, rfl, rfl, unhide HW, unhide HM2, unhide HO2, hln, hrn, unhide HB2⟩
          case measure => simp [intOf]; omega
    · have hjn : j = n := by omega
      subst hjn
      have qi : ¬ (j : Int) < j := by omega
      have HB := hide hb
      by_cases hlj : l < j
      · have hrj : r < j := by
          rcases hW with ⟨h1, _⟩ | ⟨_, h2, _⟩
          · have := unhide HN; omega
          · exact h2
        have hlT : l < T.length := by rw [unhide HN]; exact hlj
        have hrT : r < T.length := by rw [unhide HN]; exact hrj
        obtain ⟨g, o, rfl, y1⟩ := (unhide HT).below hb l hlT
        have y2 : wr.cell? ⟨g, o + r, none⟩ = some (.string (bs T[r])) := by
          obtain ⟨g', o', eg, hcc⟩ := (unhide HT).below hb r hrT
          simp only [Option.some.injEq, Addr.mk.injEq, and_true] at eg
          obtain ⟨rfl, rfl⟩ := eg
          exact hcc
        have HW := hide hW
        have e1 := hide (witG_in hlT hlT)
        have e2 := hide (witG_in hlT hrT)
        have q1 : (l : Int) < j := by omega
        have q2 : (r : Int) < j := by omega
        have q3 : ¬ (l : Int) = j := by omega
        have HD : Hid (decide (l < T.length) = true) := decide_eq_true hlT
        clear hW hM hown hb HT HL hmm
        go_wp2_with fail
        go_region
        all_goals (try go_wp2)
        all_goals go_ret3
        all_goals exact ⟨l, r, unhide HW, by rw [unhide e1, unhide e2, decide_eq_true hlj]; rfl, by first | exact unhide HB | exact (unhide HB).drew⟩
      · have hlj' : l = j := by omega
        subst hlj'
        have HW := hide hW
        have e0 : Hid (∀ i, witG T l i = []) := fun i => by unfold witG; rw [if_neg (by rw [unhide HN]; exact hlj)]
        clear hW hM hown hb HT HL hmm
        go_wp2
        go_ret3
        exact ⟨l, r, unhide HW, by rw [unhide e0, unhide e0, decide_eq_false hlj]; rfl, unhide HB⟩

end Go.Proofs.Ytiaohpkcncbdnab

/- The iterator of texts; Read. -/
import Derived.Test.YtbodklppgcloiaaDoorTxB
namespace Go.Proofs.YtbodklppgcloiaaDoor
open Go.RowKit Go.Shelf
set_option linter.unusedVariables false
attribute [local go_sem] Oper.semAt_some

def lenOf : Value → Nat | .string b => b.size | _ => 0
def boolOf : Value → Nat | .bool b => if b then 1 else 0 | _ => 0
set_option maxRecDepth 100000 in
set_option maxHeartbeats 8000000 in
theorem written1_in (m : Nat) (hm : 1 ≤ m) (l n0 b1 : Nat) (t : By) (ht : t.length ≤ 100000) (J Jx : List (Int × Int) → World → Prop)
    (w0 : World) (hG : Glob w0) (hn0 : w0.heap.size ≤ n0)
    (hA : ∀ pre A B, J pre A → Below A.heap.size A B → J pre B)
    (hY : ∀ pre (x : Int × Int) W, J pre W → pre.length < t.length + 1 → YieldAt Fence.wide (m - 1) Tryd.prog l #[spI x] W fun e W' =>
      (e = .returned (.bool true) ∧ J (pre ++ [x]) W' ∧ KpG n0 W W') ∨ (e = .returned (.bool false) ∧ Jx (pre ++ [x]) W'))
    (W : World) (hO : Old w0 W) (hW : W.cell? ⟨b1, 0, none⟩ = some (.string (bs t))) (h0 : J [] W) :
    CallsIn Fence.wide m Tryd.prog 77 #[.func (.yield l) #[] #[], .pointer (some ⟨b1, 0, none⟩)] W fun e W' => (∃ v, e = .returned v) ∧
      ((∃ xs, xs = wrB t ∧ J xs W') ∨ (∃ pre, pre <+: wrB t ∧ Jx pre W')) := by
  have hmx : Tryd.prog.follows .mixedOrders = true := by kernel_rfl
  have hWB : Hid (wrB t = if t = [45] then [] else wrL (t.length + 1) t) := rfl
  have hcmp : Hid (((bs t).toList == [45]) = decide (t = [45])) := by
    show _ = _
    rw [ByteArray.toList_eq, bs_list]
    by_cases h : t = [45]
    · rw [decide_eq_true h, h]; rfl
    · rw [decide_eq_false h]; simpa using h
  obtain ⟨T, hT⟩ : ∃ T, T = bs t := ⟨_, rfl⟩
  have HT := hide hT
  rw [← hT] at hW hcmp
  clear hT
  refine callsIn_of_wp Tryd.func77 rfl trivial ?_ rfl
  simp only [Tryd.ntmps77, List.size_toArray, List.length_cons, List.length_nil, Nat.reduceAdd, Nat.reduceSub, Array.replicate_succ, Array.replicate_zero, List.push_toArray, List.append_toArray, List.nil_append, List.cons_append]
  gi_wp2_with (fail)
  have hWd : W.drew.cell? ⟨b1, 0, none⟩ = some (.string T) := hW
  have HJ0 := hide (hA [] W W.drew h0 ((Below.refl _ W).drew))
  have HOd : Hid (Old w0 W.drew) := hO
  refine wpIn_region_any hmx ?_
  change wpAnyIn _ _ _ _ _ _ _ _ _ (World.drew _)
  clear hO h0 hW
  generalize W.drew = W at *
  by_cases h45 : t = [45]
  · have hcc := unhide hcmp
    rw [decide_eq_true h45] at hcc
    refine wpAnyIn_ready (rs := [0, 1]) (by kernel_rfl) (by simp) ?_
    refine AllReadyIn.cons rfl (fun K hK => ?_) (AllReadyIn.cons rfl (fun K hK => ?_) AllReadyIn.nil)
    · go_simp
      refine hK _ _ ?_
      clear hK K
      refine wpAnyIn_ready (rs := [1, 3]) (by kernel_rfl) (by simp) ?_
      refine AllReadyIn.cons rfl (fun K hK => ?_) (AllReadyIn.cons rfl (fun K hK => ?_) AllReadyIn.nil)
      · go_simp
        refine hK _ _ ?_
        clear hK K
        refine wpAnyIn_ready (rs := [2, 3]) (by kernel_rfl) (by simp) ?_
        refine AllReadyIn.cons rfl (fun K hK => ?_) (AllReadyIn.cons rfl (fun K hK => ?_) AllReadyIn.nil)
        · go_simp
          refine hK _ _ ?_
          clear hK K
          refine wpAnyIn_ready (rs := [3]) (by kernel_rfl) (by simp) ?_
          refine AllReadyIn.cons rfl (fun K hK => ?_) AllReadyIn.nil
          go_simp
          refine hK _ _ ?_
          clear hK K
          refine wpAnyIn_ready (rs := [4]) (by kernel_rfl) (by simp) ?_
          refine AllReadyIn.cons rfl (fun K hK => ?_) AllReadyIn.nil
          go_simp
          refine hK _ _ ?_
          clear hK K
          refine wpAnyIn_done (by kernel_rfl) ?_ _
          gi_wp2_with (fail)
          gi_loopw [3, 4, 5] (fun lf mo _ wr => ∃ (pre : List (Int × Int)) (s : By) (b : Bool), lf = .string (bs s) ∧ mo = .bool b ∧ J pre wr ∧ Old w0 wr ∧ s.length ≤ t.length ∧ (b = true → pre.length + s.length ≤ t.length) ∧ (b = true → wrB t = pre ++ wrL (s.length + 1) s) ∧ (b = false → wrB t = pre) ∧ True) (fun lf mo _ _ => lenOf lf + boolOf mo)
          case atStart => exact ⟨[], t, false, by rw [unhide HT], rfl, unhide HJ0, unhide HOd, Nat.le_refl _, fun h => (by cases h), fun h => (by cases h), fun _ => by rw [unhide hWB, if_pos h45], trivial⟩
          case round =>
            obtain ⟨pre, s, b, rfl, rfl, hJ, hO, hs1, hs2, hb1, hb2, _⟩ := hrel
            cases b with
            | false =>
              have HE := hide (hb2 rfl)
              have HJ := hide hJ
              clear hb1 hb2 hJ
              gi_wp2
              go_end0
              exact ⟨⟨_, rfl⟩, .inl ⟨_, (unhide HE).symm, unhide HJ⟩⟩
            | true =>
              have hw := hb1 rfl
              have hs3 := hs2 rfl
              clear hs2
              clear hb1 hb2
              have hc := hide (cut_any 44 s (by omega) wr (hG.old hO))
              rw [show bs [44] = (⟨#[44]⟩ : ByteArray) from rfl] at hc
              obtain ⟨l1, l2, l3⟩ := cut_len s
              obtain ⟨⟨p, r, b2⟩, hcut⟩ : ∃ x, cutC 44 s = x := ⟨_, rfl⟩
              rw [hcut] at hc l1 l2 l3
              simp only at hc l1 l2 l3
              have HW := hide hw
              have HCUT := hide hcut
              have HJ := hide hJ
              have HO := hide hO
              clear hw hcut hJ hO
              have HSP := hide (fun w' (hb : Old w0 w') => span_any p (by omega) w' (hG.old hb))
              have HL3 := hide l3
              clear l3
              gi_wp2_with (fail)
              refine ⟨trivial, ?_⟩
              refine (callsIn_wide.2 (unhide hc)).mono ?_
              rintro e w1 ⟨rfl, bw1⟩
              have HJ1 := hide (hA _ _ _ (unhide HJ) bw1)
              have HO1 := hide ((unhide HO).below bw1)
              clear bw1 hc
              have hsp := hide (unhide HSP w1 (unhide HO1))
              gi_wp2_with (fail)
              refine ⟨trivial, ?_⟩
              refine (callsIn_wide.2 (unhide hsp)).mono ?_
              rintro e w2 ⟨rfl, bw2⟩
              have hJ2 := hA _ _ _ (unhide HJ1) bw2
              have HO2 := hide ((unhide HO1).below bw2)
              obtain ⟨fn, tmps, assign, body, hy, hRn⟩ := hY pre (spanB p) w2 hJ2 (by omega)
              have hst : Hid ((b2 = true → wrB t = (pre ++ [spanB p]) ++ wrL (r.length + 1) r) ∧ (b2 = false → wrB t = pre ++ [spanB p])) := by
                constructor
                · rintro rfl
                  rw [unhide HW, wrL_cut (unhide HCUT)]; simp
                · rintro rfl
                  rw [unhide HW, wrL_end (unhide HCUT)]
              have hpre : Hid (pre ++ [spanB p] <+: wrB t) := by
                show _ <+: _
                cases b2 with
                | true => rw [(unhide hst).1 rfl]; exact List.prefix_append _ _
                | false => rw [(unhide hst).2 rfl]; exact List.prefix_refl _
              generalize spanB p = sp at *
              clear bw2 hJ2 hsp HSP HJ1 HO1
              gi_wp2
              refine hRn.mono ?_
              rintro e W3 (⟨rfl, hJ4, hk4⟩ | ⟨rfl, hJx4⟩)
              · have HO4 := hide ((unhide HO2).kp hn0 hk4)
                have HJ4 := hide hJ4
                clear hJ4 hk4 hRn hy
                gi_wp2
                go_roundw
                case rel =>
                  refine ⟨pre ++ [sp], r, b2, rfl, rfl, unhide HJ4, unhide HO4, by omega, ?_, (unhide hst).1, (unhide hst).2, trivial⟩
                  rintro rfl
                  have := unhide HL3 rfl
                  simp; omega
                case measure =>
                  simp only [lenOf, boolOf, bs_size]
                  cases b2 with
                  | true => have := unhide HL3 rfl; simp; omega
                  | false => simp; omega
              · have HJ4 := hide hJx4
                clear hJx4 hRn hy
                gi_wp2
                refine bodyPost_ret (results_none rfl _ _ _) rfl ?_
                exact ⟨⟨_, rfl⟩, .inr ⟨_, unhide hpre, unhide HJ4⟩⟩
        · go_simp
          refine hK _ _ ?_
          clear hK K
          refine wpAnyIn_ready (rs := [2]) (by kernel_rfl) (by simp) ?_
          refine AllReadyIn.cons rfl (fun K hK => ?_) AllReadyIn.nil
          go_simp
          refine hK _ _ ?_
          clear hK K
          refine wpAnyIn_ready (rs := [4]) (by kernel_rfl) (by simp) ?_
          refine AllReadyIn.cons rfl (fun K hK => ?_) AllReadyIn.nil
          go_simp
          refine hK _ _ ?_
          clear hK K
          refine wpAnyIn_done (by kernel_rfl) ?_ _
          gi_wp2_with (fail)
          gi_loopw [3, 4, 5] (fun lf mo _ wr => ∃ (pre : List (Int × Int)) (s : By) (b : Bool), lf = .string (bs s) ∧ mo = .bool b ∧ J pre wr ∧ Old w0 wr ∧ s.length ≤ t.length ∧ (b = true → pre.length + s.length ≤ t.length) ∧ (b = true → wrB t = pre ++ wrL (s.length + 1) s) ∧ (b = false → wrB t = pre) ∧ True) (fun lf mo _ _ => lenOf lf + boolOf mo)
          case atStart => exact ⟨[], t, false, by rw [unhide HT], rfl, unhide HJ0, unhide HOd, Nat.le_refl _, fun h => (by cases h), fun h => (by cases h), fun _ => by rw [unhide hWB, if_pos h45], trivial⟩
          case round =>
            obtain ⟨pre, s, b, rfl, rfl, hJ, hO, hs1, hs2, hb1, hb2, _⟩ := hrel
            cases b with
            | false =>
              have HE := hide (hb2 rfl)
              have HJ := hide hJ
              clear hb1 hb2 hJ
              gi_wp2
              go_end0
              exact ⟨⟨_, rfl⟩, .inl ⟨_, (unhide HE).symm, unhide HJ⟩⟩
            | true =>
              have hw := hb1 rfl
              have hs3 := hs2 rfl
              clear hs2
              clear hb1 hb2
              have hc := hide (cut_any 44 s (by omega) wr (hG.old hO))
              rw [show bs [44] = (⟨#[44]⟩ : ByteArray) from rfl] at hc
              obtain ⟨l1, l2, l3⟩ := cut_len s
              obtain ⟨⟨p, r, b2⟩, hcut⟩ : ∃ x, cutC 44 s = x := ⟨_, rfl⟩
              rw [hcut] at hc l1 l2 l3
              simp only at hc l1 l2 l3
              have HW := hide hw
              have HCUT := hide hcut
              have HJ := hide hJ
              have HO := hide hO
              clear hw hcut hJ hO
              have HSP := hide (fun w' (hb : Old w0 w') => span_any p (by omega) w' (hG.old hb))
              have HL3 := hide l3
              clear l3
              gi_wp2_with (fail)
              refine ⟨trivial, ?_⟩
              refine (callsIn_wide.2 (unhide hc)).mono ?_
              rintro e w1 ⟨rfl, bw1⟩
              have HJ1 := hide (hA _ _ _ (unhide HJ) bw1)
              have HO1 := hide ((unhide HO).below bw1)
              clear bw1 hc
              have hsp := hide (unhide HSP w1 (unhide HO1))
              gi_wp2_with (fail)
              refine ⟨trivial, ?_⟩
              refine (callsIn_wide.2 (unhide hsp)).mono ?_
              rintro e w2 ⟨rfl, bw2⟩
              have hJ2 := hA _ _ _ (unhide HJ1) bw2
              have HO2 := hide ((unhide HO1).below bw2)
              obtain ⟨fn, tmps, assign, body, hy, hRn⟩ := hY pre (spanB p) w2 hJ2 (by omega)
              have hst : Hid ((b2 = true → wrB t = (pre ++ [spanB p]) ++ wrL (r.length + 1) r) ∧ (b2 = false → wrB t = pre ++ [spanB p])) := by
                constructor
                · rintro rfl
                  rw [unhide HW, wrL_cut (unhide HCUT)]; simp
                · rintro rfl
                  rw [unhide HW, wrL_end (unhide HCUT)]
              have hpre : Hid (pre ++ [spanB p] <+: wrB t) := by
                show _ <+: _
                cases b2 with
                | true => rw [(unhide hst).1 rfl]; exact List.prefix_append _ _
                | false => rw [(unhide hst).2 rfl]; exact List.prefix_refl _
              generalize spanB p = sp at *
              clear bw2 hJ2 hsp HSP HJ1 HO1
              gi_wp2
              refine hRn.mono ?_
              rintro e W3 (⟨rfl, hJ4, hk4⟩ | ⟨rfl, hJx4⟩)
              · have HO4 := hide ((unhide HO2).kp hn0 hk4)
                have HJ4 := hide hJ4
                clear hJ4 hk4 hRn hy
                gi_wp2
                go_roundw
                case rel =>
                  refine ⟨pre ++ [sp], r, b2, rfl, rfl, unhide HJ4, unhide HO4, by omega, ?_, (unhide hst).1, (unhide hst).2, trivial⟩
                  rintro rfl
                  have := unhide HL3 rfl
                  simp; omega
                case measure =>
                  simp only [lenOf, boolOf, bs_size]
                  cases b2 with
                  | true => have := unhide HL3 rfl; simp; omega
                  | false => simp; omega
              · have HJ4 := hide hJx4
                clear hJx4 hRn hy
                gi_wp2
                refine bodyPost_ret (results_none rfl _ _ _) rfl ?_
                exact ⟨⟨_, rfl⟩, .inr ⟨_, unhide hpre, unhide HJ4⟩⟩
      · go_simp
        refine hK _ _ ?_
        clear hK K
        refine wpAnyIn_ready (rs := [1]) (by kernel_rfl) (by simp) ?_
        refine AllReadyIn.cons rfl (fun K hK => ?_) AllReadyIn.nil
        go_simp
        refine hK _ _ ?_
        clear hK K
        refine wpAnyIn_ready (rs := [2]) (by kernel_rfl) (by simp) ?_
        refine AllReadyIn.cons rfl (fun K hK => ?_) AllReadyIn.nil
        go_simp
        refine hK _ _ ?_
        clear hK K
        refine wpAnyIn_ready (rs := [4]) (by kernel_rfl) (by simp) ?_
        refine AllReadyIn.cons rfl (fun K hK => ?_) AllReadyIn.nil
        go_simp
        refine hK _ _ ?_
        clear hK K
        refine wpAnyIn_done (by kernel_rfl) ?_ _
        gi_wp2_with (fail)
        gi_loopw [3, 4, 5] (fun lf mo _ wr => ∃ (pre : List (Int × Int)) (s : By) (b : Bool), lf = .string (bs s) ∧ mo = .bool b ∧ J pre wr ∧ Old w0 wr ∧ s.length ≤ t.length ∧ (b = true → pre.length + s.length ≤ t.length) ∧ (b = true → wrB t = pre ++ wrL (s.length + 1) s) ∧ (b = false → wrB t = pre) ∧ True) (fun lf mo _ _ => lenOf lf + boolOf mo)
        case atStart => exact ⟨[], t, false, by rw [unhide HT], rfl, unhide HJ0, unhide HOd, Nat.le_refl _, fun h => (by cases h), fun h => (by cases h), fun _ => by rw [unhide hWB, if_pos h45], trivial⟩
        case round =>
          obtain ⟨pre, s, b, rfl, rfl, hJ, hO, hs1, hs2, hb1, hb2, _⟩ := hrel
          cases b with
          | false =>
            have HE := hide (hb2 rfl)
            have HJ := hide hJ
            clear hb1 hb2 hJ
            gi_wp2
            go_end0
            exact ⟨⟨_, rfl⟩, .inl ⟨_, (unhide HE).symm, unhide HJ⟩⟩
          | true =>
            have hw := hb1 rfl
            have hs3 := hs2 rfl
            clear hs2
            clear hb1 hb2
            have hc := hide (cut_any 44 s (by omega) wr (hG.old hO))
            rw [show bs [44] = (⟨#[44]⟩ : ByteArray) from rfl] at hc
            obtain ⟨l1, l2, l3⟩ := cut_len s
            obtain ⟨⟨p, r, b2⟩, hcut⟩ : ∃ x, cutC 44 s = x := ⟨_, rfl⟩
            rw [hcut] at hc l1 l2 l3
            simp only at hc l1 l2 l3
            have HW := hide hw
            have HCUT := hide hcut
            have HJ := hide hJ
            have HO := hide hO
            clear hw hcut hJ hO
            have HSP := hide (fun w' (hb : Old w0 w') => span_any p (by omega) w' (hG.old hb))
            have HL3 := hide l3
            clear l3
            gi_wp2_with (fail)
            refine ⟨trivial, ?_⟩
            refine (callsIn_wide.2 (unhide hc)).mono ?_
            rintro e w1 ⟨rfl, bw1⟩
            have HJ1 := hide (hA _ _ _ (unhide HJ) bw1)
            have HO1 := hide ((unhide HO).below bw1)
            clear bw1 hc
            have hsp := hide (unhide HSP w1 (unhide HO1))
            gi_wp2_with (fail)
            refine ⟨trivial, ?_⟩
            refine (callsIn_wide.2 (unhide hsp)).mono ?_
            rintro e w2 ⟨rfl, bw2⟩
            have hJ2 := hA _ _ _ (unhide HJ1) bw2
            have HO2 := hide ((unhide HO1).below bw2)
            obtain ⟨fn, tmps, assign, body, hy, hRn⟩ := hY pre (spanB p) w2 hJ2 (by omega)
            have hst : Hid ((b2 = true → wrB t = (pre ++ [spanB p]) ++ wrL (r.length + 1) r) ∧ (b2 = false → wrB t = pre ++ [spanB p])) := by
              constructor
              · rintro rfl
                rw [unhide HW, wrL_cut (unhide HCUT)]; simp
              · rintro rfl
                rw [unhide HW, wrL_end (unhide HCUT)]
            have hpre : Hid (pre ++ [spanB p] <+: wrB t) := by
              show _ <+: _
              cases b2 with
              | true => rw [(unhide hst).1 rfl]; exact List.prefix_append _ _
              | false => rw [(unhide hst).2 rfl]; exact List.prefix_refl _
            generalize spanB p = sp at *
            clear bw2 hJ2 hsp HSP HJ1 HO1
            gi_wp2
            refine hRn.mono ?_
            rintro e W3 (⟨rfl, hJ4, hk4⟩ | ⟨rfl, hJx4⟩)
            · have HO4 := hide ((unhide HO2).kp hn0 hk4)
              have HJ4 := hide hJ4
              clear hJ4 hk4 hRn hy
              gi_wp2
              go_roundw
              case rel =>
                refine ⟨pre ++ [sp], r, b2, rfl, rfl, unhide HJ4, unhide HO4, by omega, ?_, (unhide hst).1, (unhide hst).2, trivial⟩
                rintro rfl
                have := unhide HL3 rfl
                simp; omega
              case measure =>
                simp only [lenOf, boolOf, bs_size]
                cases b2 with
                | true => have := unhide HL3 rfl; simp; omega
                | false => simp; omega
            · have HJ4 := hide hJx4
              clear hJx4 hRn hy
              gi_wp2
              refine bodyPost_ret (results_none rfl _ _ _) rfl ?_
              exact ⟨⟨_, rfl⟩, .inr ⟨_, unhide hpre, unhide HJ4⟩⟩
    · go_simp
      refine hK _ _ ?_
      clear hK K
      refine wpAnyIn_ready (rs := [0, 2]) (by kernel_rfl) (by simp) ?_
      refine AllReadyIn.cons rfl (fun K hK => ?_) (AllReadyIn.cons rfl (fun K hK => ?_) AllReadyIn.nil)
      · go_simp
        refine hK _ _ ?_
        clear hK K
        refine wpAnyIn_ready (rs := [2, 3]) (by kernel_rfl) (by simp) ?_
        refine AllReadyIn.cons rfl (fun K hK => ?_) (AllReadyIn.cons rfl (fun K hK => ?_) AllReadyIn.nil)
        · go_simp
          refine hK _ _ ?_
          clear hK K
          refine wpAnyIn_ready (rs := [3]) (by kernel_rfl) (by simp) ?_
          refine AllReadyIn.cons rfl (fun K hK => ?_) AllReadyIn.nil
          go_simp
          refine hK _ _ ?_
          clear hK K
          refine wpAnyIn_ready (rs := [4]) (by kernel_rfl) (by simp) ?_
          refine AllReadyIn.cons rfl (fun K hK => ?_) AllReadyIn.nil
          go_simp
          refine hK _ _ ?_
          clear hK K
          refine wpAnyIn_done (by kernel_rfl) ?_ _
          gi_wp2_with (fail)
          gi_loopw [3, 4, 5] (fun lf mo _ wr => ∃ (pre : List (Int × Int)) (s : By) (b : Bool), lf = .string (bs s) ∧ mo = .bool b ∧ J pre wr ∧ Old w0 wr ∧ s.length ≤ t.length ∧ (b = true → pre.length + s.length ≤ t.length) ∧ (b = true → wrB t = pre ++ wrL (s.length + 1) s) ∧ (b = false → wrB t = pre) ∧ True) (fun lf mo _ _ => lenOf lf + boolOf mo)
          case atStart => exact ⟨[], t, false, by rw [unhide HT], rfl, unhide HJ0, unhide HOd, Nat.le_refl _, fun h => (by cases h), fun h => (by cases h), fun _ => by rw [unhide hWB, if_pos h45], trivial⟩
          case round =>
            obtain ⟨pre, s, b, rfl, rfl, hJ, hO, hs1, hs2, hb1, hb2, _⟩ := hrel
            cases b with
            | false =>
              have HE := hide (hb2 rfl)
              have HJ := hide hJ
              clear hb1 hb2 hJ
              gi_wp2
              go_end0
              exact ⟨⟨_, rfl⟩, .inl ⟨_, (unhide HE).symm, unhide HJ⟩⟩
            | true =>
              have hw := hb1 rfl
              have hs3 := hs2 rfl
              clear hs2
              clear hb1 hb2
              have hc := hide (cut_any 44 s (by omega) wr (hG.old hO))
              rw [show bs [44] = (⟨#[44]⟩ : ByteArray) from rfl] at hc
              obtain ⟨l1, l2, l3⟩ := cut_len s
              obtain ⟨⟨p, r, b2⟩, hcut⟩ : ∃ x, cutC 44 s = x := ⟨_, rfl⟩
              rw [hcut] at hc l1 l2 l3
              simp only at hc l1 l2 l3
              have HW := hide hw
              have HCUT := hide hcut
              have HJ := hide hJ
              have HO := hide hO
              clear hw hcut hJ hO
              have HSP := hide (fun w' (hb : Old w0 w') => span_any p (by omega) w' (hG.old hb))
              have HL3 := hide l3
              clear l3
              gi_wp2_with (fail)
              refine ⟨trivial, ?_⟩
              refine (callsIn_wide.2 (unhide hc)).mono ?_
              rintro e w1 ⟨rfl, bw1⟩
              have HJ1 := hide (hA _ _ _ (unhide HJ) bw1)
              have HO1 := hide ((unhide HO).below bw1)
              clear bw1 hc
              have hsp := hide (unhide HSP w1 (unhide HO1))
              gi_wp2_with (fail)
              refine ⟨trivial, ?_⟩
              refine (callsIn_wide.2 (unhide hsp)).mono ?_
              rintro e w2 ⟨rfl, bw2⟩
              have hJ2 := hA _ _ _ (unhide HJ1) bw2
              have HO2 := hide ((unhide HO1).below bw2)
              obtain ⟨fn, tmps, assign, body, hy, hRn⟩ := hY pre (spanB p) w2 hJ2 (by omega)
              have hst : Hid ((b2 = true → wrB t = (pre ++ [spanB p]) ++ wrL (r.length + 1) r) ∧ (b2 = false → wrB t = pre ++ [spanB p])) := by
                constructor
                · rintro rfl
                  rw [unhide HW, wrL_cut (unhide HCUT)]; simp
                · rintro rfl
                  rw [unhide HW, wrL_end (unhide HCUT)]
              have hpre : Hid (pre ++ [spanB p] <+: wrB t) := by
                show _ <+: _
                cases b2 with
                | true => rw [(unhide hst).1 rfl]; exact List.prefix_append _ _
                | false => rw [(unhide hst).2 rfl]; exact List.prefix_refl _
              generalize spanB p = sp at *
              clear bw2 hJ2 hsp HSP HJ1 HO1
              gi_wp2
              refine hRn.mono ?_
              rintro e W3 (⟨rfl, hJ4, hk4⟩ | ⟨rfl, hJx4⟩)
              · have HO4 := hide ((unhide HO2).kp hn0 hk4)
                have HJ4 := hide hJ4
                clear hJ4 hk4 hRn hy
                gi_wp2
                go_roundw
                case rel =>
                  refine ⟨pre ++ [sp], r, b2, rfl, rfl, unhide HJ4, unhide HO4, by omega, ?_, (unhide hst).1, (unhide hst).2, trivial⟩
                  rintro rfl
                  have := unhide HL3 rfl
                  simp; omega
                case measure =>
                  simp only [lenOf, boolOf, bs_size]
                  cases b2 with
                  | true => have := unhide HL3 rfl; simp; omega
                  | false => simp; omega
              · have HJ4 := hide hJx4
                clear hJx4 hRn hy
                gi_wp2
                refine bodyPost_ret (results_none rfl _ _ _) rfl ?_
                exact ⟨⟨_, rfl⟩, .inr ⟨_, unhide hpre, unhide HJ4⟩⟩
        · go_simp
          refine hK _ _ ?_
          clear hK K
          refine wpAnyIn_ready (rs := [2]) (by kernel_rfl) (by simp) ?_
          refine AllReadyIn.cons rfl (fun K hK => ?_) AllReadyIn.nil
          go_simp
          refine hK _ _ ?_
          clear hK K
          refine wpAnyIn_ready (rs := [4]) (by kernel_rfl) (by simp) ?_
          refine AllReadyIn.cons rfl (fun K hK => ?_) AllReadyIn.nil
          go_simp
          refine hK _ _ ?_
          clear hK K
          refine wpAnyIn_done (by kernel_rfl) ?_ _
          gi_wp2_with (fail)
          gi_loopw [3, 4, 5] (fun lf mo _ wr => ∃ (pre : List (Int × Int)) (s : By) (b : Bool), lf = .string (bs s) ∧ mo = .bool b ∧ J pre wr ∧ Old w0 wr ∧ s.length ≤ t.length ∧ (b = true → pre.length + s.length ≤ t.length) ∧ (b = true → wrB t = pre ++ wrL (s.length + 1) s) ∧ (b = false → wrB t = pre) ∧ True) (fun lf mo _ _ => lenOf lf + boolOf mo)
          case atStart => exact ⟨[], t, false, by rw [unhide HT], rfl, unhide HJ0, unhide HOd, Nat.le_refl _, fun h => (by cases h), fun h => (by cases h), fun _ => by rw [unhide hWB, if_pos h45], trivial⟩
          case round =>
            obtain ⟨pre, s, b, rfl, rfl, hJ, hO, hs1, hs2, hb1, hb2, _⟩ := hrel
            cases b with
            | false =>
              have HE := hide (hb2 rfl)
              have HJ := hide hJ
              clear hb1 hb2 hJ
              gi_wp2
              go_end0
              exact ⟨⟨_, rfl⟩, .inl ⟨_, (unhide HE).symm, unhide HJ⟩⟩
            | true =>
              have hw := hb1 rfl
              have hs3 := hs2 rfl
              clear hs2
              clear hb1 hb2
              have hc := hide (cut_any 44 s (by omega) wr (hG.old hO))
              rw [show bs [44] = (⟨#[44]⟩ : ByteArray) from rfl] at hc
              obtain ⟨l1, l2, l3⟩ := cut_len s
              obtain ⟨⟨p, r, b2⟩, hcut⟩ : ∃ x, cutC 44 s = x := ⟨_, rfl⟩
              rw [hcut] at hc l1 l2 l3
              simp only at hc l1 l2 l3
              have HW := hide hw
              have HCUT := hide hcut
              have HJ := hide hJ
              have HO := hide hO
              clear hw hcut hJ hO
              have HSP := hide (fun w' (hb : Old w0 w') => span_any p (by omega) w' (hG.old hb))
              have HL3 := hide l3
              clear l3
              gi_wp2_with (fail)
              refine ⟨trivial, ?_⟩
              refine (callsIn_wide.2 (unhide hc)).mono ?_
              rintro e w1 ⟨rfl, bw1⟩
              have HJ1 := hide (hA _ _ _ (unhide HJ) bw1)
              have HO1 := hide ((unhide HO).below bw1)
              clear bw1 hc
              have hsp := hide (unhide HSP w1 (unhide HO1))
              gi_wp2_with (fail)
              refine ⟨trivial, ?_⟩
              refine (callsIn_wide.2 (unhide hsp)).mono ?_
              rintro e w2 ⟨rfl, bw2⟩
              have hJ2 := hA _ _ _ (unhide HJ1) bw2
              have HO2 := hide ((unhide HO1).below bw2)
              obtain ⟨fn, tmps, assign, body, hy, hRn⟩ := hY pre (spanB p) w2 hJ2 (by omega)
              have hst : Hid ((b2 = true → wrB t = (pre ++ [spanB p]) ++ wrL (r.length + 1) r) ∧ (b2 = false → wrB t = pre ++ [spanB p])) := by
                constructor
                · rintro rfl
                  rw [unhide HW, wrL_cut (unhide HCUT)]; simp
                · rintro rfl
                  rw [unhide HW, wrL_end (unhide HCUT)]
              have hpre : Hid (pre ++ [spanB p] <+: wrB t) := by
                show _ <+: _
                cases b2 with
                | true => rw [(unhide hst).1 rfl]; exact List.prefix_append _ _
                | false => rw [(unhide hst).2 rfl]; exact List.prefix_refl _
              generalize spanB p = sp at *
              clear bw2 hJ2 hsp HSP HJ1 HO1
              gi_wp2
              refine hRn.mono ?_
              rintro e W3 (⟨rfl, hJ4, hk4⟩ | ⟨rfl, hJx4⟩)
              · have HO4 := hide ((unhide HO2).kp hn0 hk4)
                have HJ4 := hide hJ4
                clear hJ4 hk4 hRn hy
                gi_wp2
                go_roundw
                case rel =>
                  refine ⟨pre ++ [sp], r, b2, rfl, rfl, unhide HJ4, unhide HO4, by omega, ?_, (unhide hst).1, (unhide hst).2, trivial⟩
                  rintro rfl
                  have := unhide HL3 rfl
                  simp; omega
                case measure =>
                  simp only [lenOf, boolOf, bs_size]
                  cases b2 with
                  | true => have := unhide HL3 rfl; simp; omega
                  | false => simp; omega
              · have HJ4 := hide hJx4
                clear hJx4 hRn hy
                gi_wp2
                refine bodyPost_ret (results_none rfl _ _ _) rfl ?_
                exact ⟨⟨_, rfl⟩, .inr ⟨_, unhide hpre, unhide HJ4⟩⟩
      · go_simp
        refine hK _ _ ?_
        clear hK K
        refine wpAnyIn_ready (rs := [0]) (by kernel_rfl) (by simp) ?_
        refine AllReadyIn.cons rfl (fun K hK => ?_) AllReadyIn.nil
        go_simp
        refine hK _ _ ?_
        clear hK K
        refine wpAnyIn_ready (rs := [3]) (by kernel_rfl) (by simp) ?_
        refine AllReadyIn.cons rfl (fun K hK => ?_) AllReadyIn.nil
        go_simp
        refine hK _ _ ?_
        clear hK K
        refine wpAnyIn_ready (rs := [4]) (by kernel_rfl) (by simp) ?_
        refine AllReadyIn.cons rfl (fun K hK => ?_) AllReadyIn.nil
        go_simp
        refine hK _ _ ?_
        clear hK K
        refine wpAnyIn_done (by kernel_rfl) ?_ _
        gi_wp2_with (fail)
        gi_loopw [3, 4, 5] (fun lf mo _ wr => ∃ (pre : List (Int × Int)) (s : By) (b : Bool), lf = .string (bs s) ∧ mo = .bool b ∧ J pre wr ∧ Old w0 wr ∧ s.length ≤ t.length ∧ (b = true → pre.length + s.length ≤ t.length) ∧ (b = true → wrB t = pre ++ wrL (s.length + 1) s) ∧ (b = false → wrB t = pre) ∧ True) (fun lf mo _ _ => lenOf lf + boolOf mo)
        case atStart => exact ⟨[], t, false, by rw [unhide HT], rfl, unhide HJ0, unhide HOd, Nat.le_refl _, fun h => (by cases h), fun h => (by cases h), fun _ => by rw [unhide hWB, if_pos h45], trivial⟩
        case round =>
          obtain ⟨pre, s, b, rfl, rfl, hJ, hO, hs1, hs2, hb1, hb2, _⟩ := hrel
          cases b with
          | false =>
            have HE := hide (hb2 rfl)
            have HJ := hide hJ
            clear hb1 hb2 hJ
            gi_wp2
            go_end0
            exact ⟨⟨_, rfl⟩, .inl ⟨_, (unhide HE).symm, unhide HJ⟩⟩
          | true =>
            have hw := hb1 rfl
            have hs3 := hs2 rfl
            clear hs2
            clear hb1 hb2
            have hc := hide (cut_any 44 s (by omega) wr (hG.old hO))
            rw [show bs [44] = (⟨#[44]⟩ : ByteArray) from rfl] at hc
            obtain ⟨l1, l2, l3⟩ := cut_len s
            obtain ⟨⟨p, r, b2⟩, hcut⟩ : ∃ x, cutC 44 s = x := ⟨_, rfl⟩
            rw [hcut] at hc l1 l2 l3
            simp only at hc l1 l2 l3
            have HW := hide hw
            have HCUT := hide hcut
            have HJ := hide hJ
            have HO := hide hO
            clear hw hcut hJ hO
            have HSP := hide (fun w' (hb : Old w0 w') => span_any p (by omega) w' (hG.old hb))
            have HL3 := hide l3
            clear l3
            gi_wp2_with (fail)
            refine ⟨trivial, ?_⟩
            refine (callsIn_wide.2 (unhide hc)).mono ?_
            rintro e w1 ⟨rfl, bw1⟩
            have HJ1 := hide (hA _ _ _ (unhide HJ) bw1)
            have HO1 := hide ((unhide HO).below bw1)
            clear bw1 hc
            have hsp := hide (unhide HSP w1 (unhide HO1))
            gi_wp2_with (fail)
            refine ⟨trivial, ?_⟩
            refine (callsIn_wide.2 (unhide hsp)).mono ?_
            rintro e w2 ⟨rfl, bw2⟩
            have hJ2 := hA _ _ _ (unhide HJ1) bw2
            have HO2 := hide ((unhide HO1).below bw2)
            obtain ⟨fn, tmps, assign, body, hy, hRn⟩ := hY pre (spanB p) w2 hJ2 (by omega)
            have hst : Hid ((b2 = true → wrB t = (pre ++ [spanB p]) ++ wrL (r.length + 1) r) ∧ (b2 = false → wrB t = pre ++ [spanB p])) := by
              constructor
              · rintro rfl
                rw [unhide HW, wrL_cut (unhide HCUT)]; simp
              · rintro rfl
                rw [unhide HW, wrL_end (unhide HCUT)]
            have hpre : Hid (pre ++ [spanB p] <+: wrB t) := by
              show _ <+: _
              cases b2 with
              | true => rw [(unhide hst).1 rfl]; exact List.prefix_append _ _
              | false => rw [(unhide hst).2 rfl]; exact List.prefix_refl _
            generalize spanB p = sp at *
            clear bw2 hJ2 hsp HSP HJ1 HO1
            gi_wp2
            refine hRn.mono ?_
            rintro e W3 (⟨rfl, hJ4, hk4⟩ | ⟨rfl, hJx4⟩)
            · have HO4 := hide ((unhide HO2).kp hn0 hk4)
              have HJ4 := hide hJ4
              clear hJ4 hk4 hRn hy
              gi_wp2
              go_roundw
              case rel =>
                refine ⟨pre ++ [sp], r, b2, rfl, rfl, unhide HJ4, unhide HO4, by omega, ?_, (unhide hst).1, (unhide hst).2, trivial⟩
                rintro rfl
                have := unhide HL3 rfl
                simp; omega
              case measure =>
                simp only [lenOf, boolOf, bs_size]
                cases b2 with
                | true => have := unhide HL3 rfl; simp; omega
                | false => simp; omega
            · have HJ4 := hide hJx4
              clear hJx4 hRn hy
              gi_wp2
              refine bodyPost_ret (results_none rfl _ _ _) rfl ?_
              exact ⟨⟨_, rfl⟩, .inr ⟨_, unhide hpre, unhide HJ4⟩⟩
  · have hcc := unhide hcmp
    rw [decide_eq_false h45] at hcc
    refine wpAnyIn_ready (rs := [0, 1]) (by kernel_rfl) (by simp) ?_
    refine AllReadyIn.cons rfl (fun K hK => ?_) (AllReadyIn.cons rfl (fun K hK => ?_) AllReadyIn.nil)
    · go_simp
      refine hK _ _ ?_
      clear hK K
      refine wpAnyIn_ready (rs := [1, 3]) (by kernel_rfl) (by simp) ?_
      refine AllReadyIn.cons rfl (fun K hK => ?_) (AllReadyIn.cons rfl (fun K hK => ?_) AllReadyIn.nil)
      · go_simp
        refine hK _ _ ?_
        clear hK K
        refine wpAnyIn_ready (rs := [2, 3]) (by kernel_rfl) (by simp) ?_
        refine AllReadyIn.cons rfl (fun K hK => ?_) (AllReadyIn.cons rfl (fun K hK => ?_) AllReadyIn.nil)
        · go_simp
          refine hK _ _ ?_
          clear hK K
          refine wpAnyIn_ready (rs := [3]) (by kernel_rfl) (by simp) ?_
          refine AllReadyIn.cons rfl (fun K hK => ?_) AllReadyIn.nil
          go_simp
          refine hK _ _ ?_
          clear hK K
          refine wpAnyIn_ready (rs := [4]) (by kernel_rfl) (by simp) ?_
          refine AllReadyIn.cons rfl (fun K hK => ?_) AllReadyIn.nil
          go_simp
          refine hK _ _ ?_
          clear hK K
          refine wpAnyIn_done (by kernel_rfl) ?_ _
          gi_wp2_with (fail)
          gi_loopw [3, 4, 5] (fun lf mo _ wr => ∃ (pre : List (Int × Int)) (s : By) (b : Bool), lf = .string (bs s) ∧ mo = .bool b ∧ J pre wr ∧ Old w0 wr ∧ s.length ≤ t.length ∧ (b = true → pre.length + s.length ≤ t.length) ∧ (b = true → wrB t = pre ++ wrL (s.length + 1) s) ∧ (b = false → wrB t = pre) ∧ True) (fun lf mo _ _ => lenOf lf + boolOf mo)
          case atStart => exact ⟨[], t, true, by rw [unhide HT], rfl, unhide HJ0, unhide HOd, Nat.le_refl _, fun _ => by simp, fun _ => by rw [unhide hWB, if_neg h45]; rfl, fun h => (by cases h), trivial⟩
          case round =>
            obtain ⟨pre, s, b, rfl, rfl, hJ, hO, hs1, hs2, hb1, hb2, _⟩ := hrel
            cases b with
            | false =>
              have HE := hide (hb2 rfl)
              have HJ := hide hJ
              clear hb1 hb2 hJ
              gi_wp2
              go_end0
              exact ⟨⟨_, rfl⟩, .inl ⟨_, (unhide HE).symm, unhide HJ⟩⟩
            | true =>
              have hw := hb1 rfl
              have hs3 := hs2 rfl
              clear hs2
              clear hb1 hb2
              have hc := hide (cut_any 44 s (by omega) wr (hG.old hO))
              rw [show bs [44] = (⟨#[44]⟩ : ByteArray) from rfl] at hc
              obtain ⟨l1, l2, l3⟩ := cut_len s
              obtain ⟨⟨p, r, b2⟩, hcut⟩ : ∃ x, cutC 44 s = x := ⟨_, rfl⟩
              rw [hcut] at hc l1 l2 l3
              simp only at hc l1 l2 l3
              have HW := hide hw
              have HCUT := hide hcut
              have HJ := hide hJ
              have HO := hide hO
              clear hw hcut hJ hO
              have HSP := hide (fun w' (hb : Old w0 w') => span_any p (by omega) w' (hG.old hb))
              have HL3 := hide l3
              clear l3
              gi_wp2_with (fail)
              refine ⟨trivial, ?_⟩
              refine (callsIn_wide.2 (unhide hc)).mono ?_
              rintro e w1 ⟨rfl, bw1⟩
              have HJ1 := hide (hA _ _ _ (unhide HJ) bw1)
              have HO1 := hide ((unhide HO).below bw1)
              clear bw1 hc
              have hsp := hide (unhide HSP w1 (unhide HO1))
              gi_wp2_with (fail)
              refine ⟨trivial, ?_⟩
              refine (callsIn_wide.2 (unhide hsp)).mono ?_
              rintro e w2 ⟨rfl, bw2⟩
              have hJ2 := hA _ _ _ (unhide HJ1) bw2
              have HO2 := hide ((unhide HO1).below bw2)
              obtain ⟨fn, tmps, assign, body, hy, hRn⟩ := hY pre (spanB p) w2 hJ2 (by omega)
              have hst : Hid ((b2 = true → wrB t = (pre ++ [spanB p]) ++ wrL (r.length + 1) r) ∧ (b2 = false → wrB t = pre ++ [spanB p])) := by
                constructor
                · rintro rfl
                  rw [unhide HW, wrL_cut (unhide HCUT)]; simp
                · rintro rfl
                  rw [unhide HW, wrL_end (unhide HCUT)]
              have hpre : Hid (pre ++ [spanB p] <+: wrB t) := by
                show _ <+: _
                cases b2 with
                | true => rw [(unhide hst).1 rfl]; exact List.prefix_append _ _
                | false => rw [(unhide hst).2 rfl]; exact List.prefix_refl _
              generalize spanB p = sp at *
              clear bw2 hJ2 hsp HSP HJ1 HO1
              gi_wp2
              refine hRn.mono ?_
              rintro e W3 (⟨rfl, hJ4, hk4⟩ | ⟨rfl, hJx4⟩)
              · have HO4 := hide ((unhide HO2).kp hn0 hk4)
                have HJ4 := hide hJ4
                clear hJ4 hk4 hRn hy
                gi_wp2
                go_roundw
                case rel =>
                  refine ⟨pre ++ [sp], r, b2, rfl, rfl, unhide HJ4, unhide HO4, by omega, ?_, (unhide hst).1, (unhide hst).2, trivial⟩
                  rintro rfl
                  have := unhide HL3 rfl
                  simp; omega
                case measure =>
                  simp only [lenOf, boolOf, bs_size]
                  cases b2 with
                  | true => have := unhide HL3 rfl; simp; omega
                  | false => simp; omega
              · have HJ4 := hide hJx4
                clear hJx4 hRn hy
                gi_wp2
                refine bodyPost_ret (results_none rfl _ _ _) rfl ?_
                exact ⟨⟨_, rfl⟩, .inr ⟨_, unhide hpre, unhide HJ4⟩⟩
        · go_simp
          refine hK _ _ ?_
          clear hK K
          refine wpAnyIn_ready (rs := [2]) (by kernel_rfl) (by simp) ?_
          refine AllReadyIn.cons rfl (fun K hK => ?_) AllReadyIn.nil
          go_simp
          refine hK _ _ ?_
          clear hK K
          refine wpAnyIn_ready (rs := [4]) (by kernel_rfl) (by simp) ?_
          refine AllReadyIn.cons rfl (fun K hK => ?_) AllReadyIn.nil
          go_simp
          refine hK _ _ ?_
          clear hK K
          refine wpAnyIn_done (by kernel_rfl) ?_ _
          gi_wp2_with (fail)
          gi_loopw [3, 4, 5] (fun lf mo _ wr => ∃ (pre : List (Int × Int)) (s : By) (b : Bool), lf = .string (bs s) ∧ mo = .bool b ∧ J pre wr ∧ Old w0 wr ∧ s.length ≤ t.length ∧ (b = true → pre.length + s.length ≤ t.length) ∧ (b = true → wrB t = pre ++ wrL (s.length + 1) s) ∧ (b = false → wrB t = pre) ∧ True) (fun lf mo _ _ => lenOf lf + boolOf mo)
          case atStart => exact ⟨[], t, true, by rw [unhide HT], rfl, unhide HJ0, unhide HOd, Nat.le_refl _, fun _ => by simp, fun _ => by rw [unhide hWB, if_neg h45]; rfl, fun h => (by cases h), trivial⟩
          case round =>
            obtain ⟨pre, s, b, rfl, rfl, hJ, hO, hs1, hs2, hb1, hb2, _⟩ := hrel
            cases b with
            | false =>
              have HE := hide (hb2 rfl)
              have HJ := hide hJ
              clear hb1 hb2 hJ
              gi_wp2
              go_end0
              exact ⟨⟨_, rfl⟩, .inl ⟨_, (unhide HE).symm, unhide HJ⟩⟩
            | true =>
              have hw := hb1 rfl
              have hs3 := hs2 rfl
              clear hs2
              clear hb1 hb2
              have hc := hide (cut_any 44 s (by omega) wr (hG.old hO))
              rw [show bs [44] = (⟨#[44]⟩ : ByteArray) from rfl] at hc
              obtain ⟨l1, l2, l3⟩ := cut_len s
              obtain ⟨⟨p, r, b2⟩, hcut⟩ : ∃ x, cutC 44 s = x := ⟨_, rfl⟩
              rw [hcut] at hc l1 l2 l3
              simp only at hc l1 l2 l3
              have HW := hide hw
              have HCUT := hide hcut
              have HJ := hide hJ
              have HO := hide hO
              clear hw hcut hJ hO
              have HSP := hide (fun w' (hb : Old w0 w') => span_any p (by omega) w' (hG.old hb))
              have HL3 := hide l3
              clear l3
              gi_wp2_with (fail)
              refine ⟨trivial, ?_⟩
              refine (callsIn_wide.2 (unhide hc)).mono ?_
              rintro e w1 ⟨rfl, bw1⟩
              have HJ1 := hide (hA _ _ _ (unhide HJ) bw1)
              have HO1 := hide ((unhide HO).below bw1)
              clear bw1 hc
              have hsp := hide (unhide HSP w1 (unhide HO1))
              gi_wp2_with (fail)
              refine ⟨trivial, ?_⟩
              refine (callsIn_wide.2 (unhide hsp)).mono ?_
              rintro e w2 ⟨rfl, bw2⟩
              have hJ2 := hA _ _ _ (unhide HJ1) bw2
              have HO2 := hide ((unhide HO1).below bw2)
              obtain ⟨fn, tmps, assign, body, hy, hRn⟩ := hY pre (spanB p) w2 hJ2 (by omega)
              have hst : Hid ((b2 = true → wrB t = (pre ++ [spanB p]) ++ wrL (r.length + 1) r) ∧ (b2 = false → wrB t = pre ++ [spanB p])) := by
                constructor
                · rintro rfl
                  rw [unhide HW, wrL_cut (unhide HCUT)]; simp
                · rintro rfl
                  rw [unhide HW, wrL_end (unhide HCUT)]
              have hpre : Hid (pre ++ [spanB p] <+: wrB t) := by
                show _ <+: _
                cases b2 with
                | true => rw [(unhide hst).1 rfl]; exact List.prefix_append _ _
                | false => rw [(unhide hst).2 rfl]; exact List.prefix_refl _
              generalize spanB p = sp at *
              clear bw2 hJ2 hsp HSP HJ1 HO1
              gi_wp2
              refine hRn.mono ?_
              rintro e W3 (⟨rfl, hJ4, hk4⟩ | ⟨rfl, hJx4⟩)
              · have HO4 := hide ((unhide HO2).kp hn0 hk4)
                have HJ4 := hide hJ4
                clear hJ4 hk4 hRn hy
                gi_wp2
                go_roundw
                case rel =>
                  refine ⟨pre ++ [sp], r, b2, rfl, rfl, unhide HJ4, unhide HO4, by omega, ?_, (unhide hst).1, (unhide hst).2, trivial⟩
                  rintro rfl
                  have := unhide HL3 rfl
                  simp; omega
                case measure =>
                  simp only [lenOf, boolOf, bs_size]
                  cases b2 with
                  | true => have := unhide HL3 rfl; simp; omega
                  | false => simp; omega
              · have HJ4 := hide hJx4
                clear hJx4 hRn hy
                gi_wp2
                refine bodyPost_ret (results_none rfl _ _ _) rfl ?_
                exact ⟨⟨_, rfl⟩, .inr ⟨_, unhide hpre, unhide HJ4⟩⟩
      · go_simp
        refine hK _ _ ?_
        clear hK K
        refine wpAnyIn_ready (rs := [1]) (by kernel_rfl) (by simp) ?_
        refine AllReadyIn.cons rfl (fun K hK => ?_) AllReadyIn.nil
        go_simp
        refine hK _ _ ?_
        clear hK K
        refine wpAnyIn_ready (rs := [2]) (by kernel_rfl) (by simp) ?_
        refine AllReadyIn.cons rfl (fun K hK => ?_) AllReadyIn.nil
        go_simp
        refine hK _ _ ?_
        clear hK K
        refine wpAnyIn_ready (rs := [4]) (by kernel_rfl) (by simp) ?_
        refine AllReadyIn.cons rfl (fun K hK => ?_) AllReadyIn.nil
        go_simp
        refine hK _ _ ?_
        clear hK K
        refine wpAnyIn_done (by kernel_rfl) ?_ _
        gi_wp2_with (fail)
        gi_loopw [3, 4, 5] (fun lf mo _ wr => ∃ (pre : List (Int × Int)) (s : By) (b : Bool), lf = .string (bs s) ∧ mo = .bool b ∧ J pre wr ∧ Old w0 wr ∧ s.length ≤ t.length ∧ (b = true → pre.length + s.length ≤ t.length) ∧ (b = true → wrB t = pre ++ wrL (s.length + 1) s) ∧ (b = false → wrB t = pre) ∧ True) (fun lf mo _ _ => lenOf lf + boolOf mo)
        case atStart => exact ⟨[], t, true, by rw [unhide HT], rfl, unhide HJ0, unhide HOd, Nat.le_refl _, fun _ => by simp, fun _ => by rw [unhide hWB, if_neg h45]; rfl, fun h => (by cases h), trivial⟩
        case round =>
          obtain ⟨pre, s, b, rfl, rfl, hJ, hO, hs1, hs2, hb1, hb2, _⟩ := hrel
          cases b with
          | false =>
            have HE := hide (hb2 rfl)
            have HJ := hide hJ
            clear hb1 hb2 hJ
            gi_wp2
            go_end0
            exact ⟨⟨_, rfl⟩, .inl ⟨_, (unhide HE).symm, unhide HJ⟩⟩
          | true =>
            have hw := hb1 rfl
            have hs3 := hs2 rfl
            clear hs2
            clear hb1 hb2
            have hc := hide (cut_any 44 s (by omega) wr (hG.old hO))
            rw [show bs [44] = (⟨#[44]⟩ : ByteArray) from rfl] at hc
            obtain ⟨l1, l2, l3⟩ := cut_len s
            obtain ⟨⟨p, r, b2⟩, hcut⟩ : ∃ x, cutC 44 s = x := ⟨_, rfl⟩
            rw [hcut] at hc l1 l2 l3
            simp only at hc l1 l2 l3
            have HW := hide hw
            have HCUT := hide hcut
            have HJ := hide hJ
            have HO := hide hO
            clear hw hcut hJ hO
            have HSP := hide (fun w' (hb : Old w0 w') => span_any p (by omega) w' (hG.old hb))
            have HL3 := hide l3
            clear l3
            gi_wp2_with (fail)
            refine ⟨trivial, ?_⟩
            refine (callsIn_wide.2 (unhide hc)).mono ?_
            rintro e w1 ⟨rfl, bw1⟩
            have HJ1 := hide (hA _ _ _ (unhide HJ) bw1)
            have HO1 := hide ((unhide HO).below bw1)
            clear bw1 hc
            have hsp := hide (unhide HSP w1 (unhide HO1))
            gi_wp2_with (fail)
            refine ⟨trivial, ?_⟩
            refine (callsIn_wide.2 (unhide hsp)).mono ?_
            rintro e w2 ⟨rfl, bw2⟩
            have hJ2 := hA _ _ _ (unhide HJ1) bw2
            have HO2 := hide ((unhide HO1).below bw2)
            obtain ⟨fn, tmps, assign, body, hy, hRn⟩ := hY pre (spanB p) w2 hJ2 (by omega)
            have hst : Hid ((b2 = true → wrB t = (pre ++ [spanB p]) ++ wrL (r.length + 1) r) ∧ (b2 = false → wrB t = pre ++ [spanB p])) := by
              constructor
              · rintro rfl
                rw [unhide HW, wrL_cut (unhide HCUT)]; simp
              · rintro rfl
                rw [unhide HW, wrL_end (unhide HCUT)]
            have hpre : Hid (pre ++ [spanB p] <+: wrB t) := by
              show _ <+: _
              cases b2 with
              | true => rw [(unhide hst).1 rfl]; exact List.prefix_append _ _
              | false => rw [(unhide hst).2 rfl]; exact List.prefix_refl _
            generalize spanB p = sp at *
            clear bw2 hJ2 hsp HSP HJ1 HO1
            gi_wp2
            refine hRn.mono ?_
            rintro e W3 (⟨rfl, hJ4, hk4⟩ | ⟨rfl, hJx4⟩)
            · have HO4 := hide ((unhide HO2).kp hn0 hk4)
              have HJ4 := hide hJ4
              clear hJ4 hk4 hRn hy
              gi_wp2
              go_roundw
              case rel =>
                refine ⟨pre ++ [sp], r, b2, rfl, rfl, unhide HJ4, unhide HO4, by omega, ?_, (unhide hst).1, (unhide hst).2, trivial⟩
                rintro rfl
                have := unhide HL3 rfl
                simp; omega
              case measure =>
                simp only [lenOf, boolOf, bs_size]
                cases b2 with
                | true => have := unhide HL3 rfl; simp; omega
                | false => simp; omega
            · have HJ4 := hide hJx4
              clear hJx4 hRn hy
              gi_wp2
              refine bodyPost_ret (results_none rfl _ _ _) rfl ?_
              exact ⟨⟨_, rfl⟩, .inr ⟨_, unhide hpre, unhide HJ4⟩⟩
    · go_simp
      refine hK _ _ ?_
      clear hK K
      refine wpAnyIn_ready (rs := [0, 2]) (by kernel_rfl) (by simp) ?_
      refine AllReadyIn.cons rfl (fun K hK => ?_) (AllReadyIn.cons rfl (fun K hK => ?_) AllReadyIn.nil)
      · go_simp
        refine hK _ _ ?_
        clear hK K
        refine wpAnyIn_ready (rs := [2, 3]) (by kernel_rfl) (by simp) ?_
        refine AllReadyIn.cons rfl (fun K hK => ?_) (AllReadyIn.cons rfl (fun K hK => ?_) AllReadyIn.nil)
        · go_simp
          refine hK _ _ ?_
          clear hK K
          refine wpAnyIn_ready (rs := [3]) (by kernel_rfl) (by simp) ?_
          refine AllReadyIn.cons rfl (fun K hK => ?_) AllReadyIn.nil
          go_simp
          refine hK _ _ ?_
          clear hK K
          refine wpAnyIn_ready (rs := [4]) (by kernel_rfl) (by simp) ?_
          refine AllReadyIn.cons rfl (fun K hK => ?_) AllReadyIn.nil
          go_simp
          refine hK _ _ ?_
          clear hK K
          refine wpAnyIn_done (by kernel_rfl) ?_ _
          gi_wp2_with (fail)
          gi_loopw [3, 4, 5] (fun lf mo _ wr => ∃ (pre : List (Int × Int)) (s : By) (b : Bool), lf = .string (bs s) ∧ mo = .bool b ∧ J pre wr ∧ Old w0 wr ∧ s.length ≤ t.length ∧ (b = true → pre.length + s.length ≤ t.length) ∧ (b = true → wrB t = pre ++ wrL (s.length + 1) s) ∧ (b = false → wrB t = pre) ∧ True) (fun lf mo _ _ => lenOf lf + boolOf mo)
          case atStart => exact ⟨[], t, true, by rw [unhide HT], rfl, unhide HJ0, unhide HOd, Nat.le_refl _, fun _ => by simp, fun _ => by rw [unhide hWB, if_neg h45]; rfl, fun h => (by cases h), trivial⟩
          case round =>
            obtain ⟨pre, s, b, rfl, rfl, hJ, hO, hs1, hs2, hb1, hb2, _⟩ := hrel
            cases b with
            | false =>
              have HE := hide (hb2 rfl)
              have HJ := hide hJ
              clear hb1 hb2 hJ
              gi_wp2
              go_end0
              exact ⟨⟨_, rfl⟩, .inl ⟨_, (unhide HE).symm, unhide HJ⟩⟩
            | true =>
              have hw := hb1 rfl
              have hs3 := hs2 rfl
              clear hs2
              clear hb1 hb2
              have hc := hide (cut_any 44 s (by omega) wr (hG.old hO))
              rw [show bs [44] = (⟨#[44]⟩ : ByteArray) from rfl] at hc
              obtain ⟨l1, l2, l3⟩ := cut_len s
              obtain ⟨⟨p, r, b2⟩, hcut⟩ : ∃ x, cutC 44 s = x := ⟨_, rfl⟩
              rw [hcut] at hc l1 l2 l3
              simp only at hc l1 l2 l3
              have HW := hide hw
              have HCUT := hide hcut
              have HJ := hide hJ
              have HO := hide hO
              clear hw hcut hJ hO
              have HSP := hide (fun w' (hb : Old w0 w') => span_any p (by omega) w' (hG.old hb))
              have HL3 := hide l3
              clear l3
              gi_wp2_with (fail)
              refine ⟨trivial, ?_⟩
              refine (callsIn_wide.2 (unhide hc)).mono ?_
              rintro e w1 ⟨rfl, bw1⟩
              have HJ1 := hide (hA _ _ _ (unhide HJ) bw1)
              have HO1 := hide ((unhide HO).below bw1)
              clear bw1 hc
              have hsp := hide (unhide HSP w1 (unhide HO1))
              gi_wp2_with (fail)
              refine ⟨trivial, ?_⟩
              refine (callsIn_wide.2 (unhide hsp)).mono ?_
              rintro e w2 ⟨rfl, bw2⟩
              have hJ2 := hA _ _ _ (unhide HJ1) bw2
              have HO2 := hide ((unhide HO1).below bw2)
              obtain ⟨fn, tmps, assign, body, hy, hRn⟩ := hY pre (spanB p) w2 hJ2 (by omega)
              have hst : Hid ((b2 = true → wrB t = (pre ++ [spanB p]) ++ wrL (r.length + 1) r) ∧ (b2 = false → wrB t = pre ++ [spanB p])) := by
                constructor
                · rintro rfl
                  rw [unhide HW, wrL_cut (unhide HCUT)]; simp
                · rintro rfl
                  rw [unhide HW, wrL_end (unhide HCUT)]
              have hpre : Hid (pre ++ [spanB p] <+: wrB t) := by
                show _ <+: _
                cases b2 with
                | true => rw [(unhide hst).1 rfl]; exact List.prefix_append _ _
                | false => rw [(unhide hst).2 rfl]; exact List.prefix_refl _
              generalize spanB p = sp at *
              clear bw2 hJ2 hsp HSP HJ1 HO1
              gi_wp2
              refine hRn.mono ?_
              rintro e W3 (⟨rfl, hJ4, hk4⟩ | ⟨rfl, hJx4⟩)
              · have HO4 := hide ((unhide HO2).kp hn0 hk4)
                have HJ4 := hide hJ4
                clear hJ4 hk4 hRn hy
                gi_wp2
                go_roundw
                case rel =>
                  refine ⟨pre ++ [sp], r, b2, rfl, rfl, unhide HJ4, unhide HO4, by omega, ?_, (unhide hst).1, (unhide hst).2, trivial⟩
                  rintro rfl
                  have := unhide HL3 rfl
                  simp; omega
                case measure =>
                  simp only [lenOf, boolOf, bs_size]
                  cases b2 with
                  | true => have := unhide HL3 rfl; simp; omega
                  | false => simp; omega
              · have HJ4 := hide hJx4
                clear hJx4 hRn hy
                gi_wp2
                refine bodyPost_ret (results_none rfl _ _ _) rfl ?_
                exact ⟨⟨_, rfl⟩, .inr ⟨_, unhide hpre, unhide HJ4⟩⟩
        · go_simp
          refine hK _ _ ?_
          clear hK K
          refine wpAnyIn_ready (rs := [2]) (by kernel_rfl) (by simp) ?_
          refine AllReadyIn.cons rfl (fun K hK => ?_) AllReadyIn.nil
          go_simp
          refine hK _ _ ?_
          clear hK K
          refine wpAnyIn_ready (rs := [4]) (by kernel_rfl) (by simp) ?_
          refine AllReadyIn.cons rfl (fun K hK => ?_) AllReadyIn.nil
          go_simp
          refine hK _ _ ?_
          clear hK K
          refine wpAnyIn_done (by kernel_rfl) ?_ _
          gi_wp2_with (fail)
          gi_loopw [3, 4, 5] (fun lf mo _ wr => ∃ (pre : List (Int × Int)) (s : By) (b : Bool), lf = .string (bs s) ∧ mo = .bool b ∧ J pre wr ∧ Old w0 wr ∧ s.length ≤ t.length ∧ (b = true → pre.length + s.length ≤ t.length) ∧ (b = true → wrB t = pre ++ wrL (s.length + 1) s) ∧ (b = false → wrB t = pre) ∧ True) (fun lf mo _ _ => lenOf lf + boolOf mo)
          case atStart => exact ⟨[], t, true, by rw [unhide HT], rfl, unhide HJ0, unhide HOd, Nat.le_refl _, fun _ => by simp, fun _ => by rw [unhide hWB, if_neg h45]; rfl, fun h => (by cases h), trivial⟩
          case round =>
            obtain ⟨pre, s, b, rfl, rfl, hJ, hO, hs1, hs2, hb1, hb2, _⟩ := hrel
            cases b with
            | false =>
              have HE := hide (hb2 rfl)
              have HJ := hide hJ
              clear hb1 hb2 hJ
              gi_wp2
              go_end0
              exact ⟨⟨_, rfl⟩, .inl ⟨_, (unhide HE).symm, unhide HJ⟩⟩
            | true =>
              have hw := hb1 rfl
              have hs3 := hs2 rfl
              clear hs2
              clear hb1 hb2
              have hc := hide (cut_any 44 s (by omega) wr (hG.old hO))
              rw [show bs [44] = (⟨#[44]⟩ : ByteArray) from rfl] at hc
              obtain ⟨l1, l2, l3⟩ := cut_len s
              obtain ⟨⟨p, r, b2⟩, hcut⟩ : ∃ x, cutC 44 s = x := ⟨_, rfl⟩
              rw [hcut] at hc l1 l2 l3
              simp only at hc l1 l2 l3
              have HW := hide hw
              have HCUT := hide hcut
              have HJ := hide hJ
              have HO := hide hO
              clear hw hcut hJ hO
              have HSP := hide (fun w' (hb : Old w0 w') => span_any p (by omega) w' (hG.old hb))
              have HL3 := hide l3
              clear l3
              gi_wp2_with (fail)
              refine ⟨trivial, ?_⟩
              refine (callsIn_wide.2 (unhide hc)).mono ?_
              rintro e w1 ⟨rfl, bw1⟩
              have HJ1 := hide (hA _ _ _ (unhide HJ) bw1)
              have HO1 := hide ((unhide HO).below bw1)
              clear bw1 hc
              have hsp := hide (unhide HSP w1 (unhide HO1))
              gi_wp2_with (fail)
              refine ⟨trivial, ?_⟩
              refine (callsIn_wide.2 (unhide hsp)).mono ?_
              rintro e w2 ⟨rfl, bw2⟩
              have hJ2 := hA _ _ _ (unhide HJ1) bw2
              have HO2 := hide ((unhide HO1).below bw2)
              obtain ⟨fn, tmps, assign, body, hy, hRn⟩ := hY pre (spanB p) w2 hJ2 (by omega)
              have hst : Hid ((b2 = true → wrB t = (pre ++ [spanB p]) ++ wrL (r.length + 1) r) ∧ (b2 = false → wrB t = pre ++ [spanB p])) := by
                constructor
                · rintro rfl
                  rw [unhide HW, wrL_cut (unhide HCUT)]; simp
                · rintro rfl
                  rw [unhide HW, wrL_end (unhide HCUT)]
              have hpre : Hid (pre ++ [spanB p] <+: wrB t) := by
                show _ <+: _
                cases b2 with
                | true => rw [(unhide hst).1 rfl]; exact List.prefix_append _ _
                | false => rw [(unhide hst).2 rfl]; exact List.prefix_refl _
              generalize spanB p = sp at *
              clear bw2 hJ2 hsp HSP HJ1 HO1
              gi_wp2
              refine hRn.mono ?_
              rintro e W3 (⟨rfl, hJ4, hk4⟩ | ⟨rfl, hJx4⟩)
              · have HO4 := hide ((unhide HO2).kp hn0 hk4)
                have HJ4 := hide hJ4
                clear hJ4 hk4 hRn hy
                gi_wp2
                go_roundw
                case rel =>
                  refine ⟨pre ++ [sp], r, b2, rfl, rfl, unhide HJ4, unhide HO4, by omega, ?_, (unhide hst).1, (unhide hst).2, trivial⟩
                  rintro rfl
                  have := unhide HL3 rfl
                  simp; omega
                case measure =>
                  simp only [lenOf, boolOf, bs_size]
                  cases b2 with
                  | true => have := unhide HL3 rfl; simp; omega
                  | false => simp; omega
              · have HJ4 := hide hJx4
                clear hJx4 hRn hy
                gi_wp2
                refine bodyPost_ret (results_none rfl _ _ _) rfl ?_
                exact ⟨⟨_, rfl⟩, .inr ⟨_, unhide hpre, unhide HJ4⟩⟩
      · go_simp
        refine hK _ _ ?_
        clear hK K
        refine wpAnyIn_ready (rs := [0]) (by kernel_rfl) (by simp) ?_
        refine AllReadyIn.cons rfl (fun K hK => ?_) AllReadyIn.nil
        go_simp
        refine hK _ _ ?_
        clear hK K
        refine wpAnyIn_ready (rs := [3]) (by kernel_rfl) (by simp) ?_
        refine AllReadyIn.cons rfl (fun K hK => ?_) AllReadyIn.nil
        go_simp
        refine hK _ _ ?_
        clear hK K
        refine wpAnyIn_ready (rs := [4]) (by kernel_rfl) (by simp) ?_
        refine AllReadyIn.cons rfl (fun K hK => ?_) AllReadyIn.nil
        go_simp
        refine hK _ _ ?_
        clear hK K
        refine wpAnyIn_done (by kernel_rfl) ?_ _
        gi_wp2_with (fail)
        gi_loopw [3, 4, 5] (fun lf mo _ wr => ∃ (pre : List (Int × Int)) (s : By) (b : Bool), lf = .string (bs s) ∧ mo = .bool b ∧ J pre wr ∧ Old w0 wr ∧ s.length ≤ t.length ∧ (b = true → pre.length + s.length ≤ t.length) ∧ (b = true → wrB t = pre ++ wrL (s.length + 1) s) ∧ (b = false → wrB t = pre) ∧ True) (fun lf mo _ _ => lenOf lf + boolOf mo)
        case atStart => exact ⟨[], t, true, by rw [unhide HT], rfl, unhide HJ0, unhide HOd, Nat.le_refl _, fun _ => by simp, fun _ => by rw [unhide hWB, if_neg h45]; rfl, fun h => (by cases h), trivial⟩
        case round =>
          obtain ⟨pre, s, b, rfl, rfl, hJ, hO, hs1, hs2, hb1, hb2, _⟩ := hrel
          cases b with
          | false =>
            have HE := hide (hb2 rfl)
            have HJ := hide hJ
            clear hb1 hb2 hJ
            gi_wp2
            go_end0
            exact ⟨⟨_, rfl⟩, .inl ⟨_, (unhide HE).symm, unhide HJ⟩⟩
          | true =>
            have hw := hb1 rfl
            have hs3 := hs2 rfl
            clear hs2
            clear hb1 hb2
            have hc := hide (cut_any 44 s (by omega) wr (hG.old hO))
            rw [show bs [44] = (⟨#[44]⟩ : ByteArray) from rfl] at hc
            obtain ⟨l1, l2, l3⟩ := cut_len s
            obtain ⟨⟨p, r, b2⟩, hcut⟩ : ∃ x, cutC 44 s = x := ⟨_, rfl⟩
            rw [hcut] at hc l1 l2 l3
            simp only at hc l1 l2 l3
            have HW := hide hw
            have HCUT := hide hcut
            have HJ := hide hJ
            have HO := hide hO
            clear hw hcut hJ hO
            have HSP := hide (fun w' (hb : Old w0 w') => span_any p (by omega) w' (hG.old hb))
            have HL3 := hide l3
            clear l3
            gi_wp2_with (fail)
            refine ⟨trivial, ?_⟩
            refine (callsIn_wide.2 (unhide hc)).mono ?_
            rintro e w1 ⟨rfl, bw1⟩
            have HJ1 := hide (hA _ _ _ (unhide HJ) bw1)
            have HO1 := hide ((unhide HO).below bw1)
            clear bw1 hc
            have hsp := hide (unhide HSP w1 (unhide HO1))
            gi_wp2_with (fail)
            refine ⟨trivial, ?_⟩
            refine (callsIn_wide.2 (unhide hsp)).mono ?_
            rintro e w2 ⟨rfl, bw2⟩
            have hJ2 := hA _ _ _ (unhide HJ1) bw2
            have HO2 := hide ((unhide HO1).below bw2)
            obtain ⟨fn, tmps, assign, body, hy, hRn⟩ := hY pre (spanB p) w2 hJ2 (by omega)
            have hst : Hid ((b2 = true → wrB t = (pre ++ [spanB p]) ++ wrL (r.length + 1) r) ∧ (b2 = false → wrB t = pre ++ [spanB p])) := by
              constructor
              · rintro rfl
                rw [unhide HW, wrL_cut (unhide HCUT)]; simp
              · rintro rfl
                rw [unhide HW, wrL_end (unhide HCUT)]
            have hpre : Hid (pre ++ [spanB p] <+: wrB t) := by
              show _ <+: _
              cases b2 with
              | true => rw [(unhide hst).1 rfl]; exact List.prefix_append _ _
              | false => rw [(unhide hst).2 rfl]; exact List.prefix_refl _
            generalize spanB p = sp at *
            clear bw2 hJ2 hsp HSP HJ1 HO1
            gi_wp2
            refine hRn.mono ?_
            rintro e W3 (⟨rfl, hJ4, hk4⟩ | ⟨rfl, hJx4⟩)
            · have HO4 := hide ((unhide HO2).kp hn0 hk4)
              have HJ4 := hide hJ4
              clear hJ4 hk4 hRn hy
              gi_wp2
              go_roundw
              case rel =>
                refine ⟨pre ++ [sp], r, b2, rfl, rfl, unhide HJ4, unhide HO4, by omega, ?_, (unhide hst).1, (unhide hst).2, trivial⟩
                rintro rfl
                have := unhide HL3 rfl
                simp; omega
              case measure =>
                simp only [lenOf, boolOf, bs_size]
                cases b2 with
                | true => have := unhide HL3 rfl; simp; omega
                | false => simp; omega
            · have HJ4 := hide hJx4
              clear hJx4 hRn hy
              gi_wp2
              refine bodyPost_ret (results_none rfl _ _ _) rfl ?_
              exact ⟨⟨_, rfl⟩, .inr ⟨_, unhide hpre, unhide HJ4⟩⟩
theorem written_any (t : By) (w : World) : Calls Tryd.prog 49 #[.string (bs t)] w fun e w' => e = .returned (.func (.func 77) #[] #[.pointer (some ⟨w.heap.size, 0, none⟩)]) ∧ w' = w.alloc (.cells #[.string (bs t)] 9) := by
  generalize bs t = T at *
  go_enter Tryd.func49, Tryd.ntmps49
  go_wp2
  go_ret
  exact ⟨rfl, rfl⟩
theorem written_stops (m : Nat) (hm : 1 ≤ m) (n0 b1 : Nat) (t : By) (ht : t.length ≤ 100000) (w0 : World) (hG : Glob w0) (hn0 : w0.heap.size ≤ n0) (w : World) (hO : Old w0 w) (hW : Boxed w b1 9 (.string (bs t))) :
    SeqStopsK Fence.wide m Tryd.prog 77 #[.pointer (some ⟨b1, 0, none⟩)] (fun x : Int × Int => #[spI x]) (KpG n0) (fun xs => xs = wrB t) (fun pre => pre <+: wrB t) (t.length + 1) w := fun l J Jx W hb hJ hJx hY h0 => by
  have hB : Boxed W b1 9 (.string (bs t)) := (hb.block _ hW.lt).trans hW
  exact written1_in m hm l n0 b1 t ht J Jx w0 hG hn0 (fun pre A B hA hB => hJ pre A B none hA (grown_of_below hB) (fun r e => by cases e)) hY W (fun k cs t fr h => (hb.block k (lt_of_block (hO k cs t fr h))).trans (hO k cs t fr h)) hB.cell h0
noncomputable def redE (n : Int) (t : By) : Int := gatE n 3 (wrB t)
noncomputable def redR (n : Int) (t : By) : By := gatR n (wrB t)
theorem read_any (n : Int) (t : By) (ht : t.length ≤ 100000) (w : World) (hG : Glob w) : Calls Tryd.prog 23 #[.int .i64 n, .string (bs t)] w fun e w' => e = .returned (.tuple #[.string (bs (redR n t)), .int .i64 (redE n t)]) ∧ Below w.heap.size w w' := by
  have hv := hide (written_any t w)
  have b1 : Below w.heap.size w (w.alloc (.cells #[.string (bs t)] 9)) := (Below.refl _ w).alloc (Nat.le_refl _) _
  have hbx := Boxed.new w 9 (.string (bs t))
  have hg := hide (gather_any 9 (by decide) 77 #[.pointer (some ⟨w.heap.size, 0, none⟩)] (enters_of Tryd.func77 (by kernel_rfl) rfl) (wrB t) (t.length + 1) n 3 (w.alloc (.cells #[.string (bs t)] 9))
    (fun W0 hb => seqTurns_of_stops (written_stops 4 (by omega) _ w.heap.size t ht w hG b1.size W0 ((Old.of_below b1).below hb) ((hb.block _ hbx.lt).trans hbx))))
  change Hid (Calls Tryd.prog _ _ _ fun e w' => e = .returned (.tuple #[.string (bs (redR n t)), .int .i64 (redE n t)]) ∧ _) at hg
  have B1 := hide b1
  generalize bs (redR n t) = GR at *
  generalize redE n t = GE at *
  clear b1 hbx
  generalize w.alloc (.cells #[.string (bs t)] 9) = W1 at *
  generalize bs t = T at *
  go_enter Tryd.func23, Tryd.ntmps23
  go_wp2_with fail
  refine (unhide hv).mono ?_
  rintro e w1 ⟨rfl, rfl⟩
  go_wp2_with fail
  refine (unhide hg).mono ?_
  rintro e w2 ⟨rfl, b2⟩
  have B2 := hide ((unhide B1).trans (b2.mono (unhide B1).size))
  clear b2
  go_wp2
  go_ret2
  exact ⟨rfl, unhide B2⟩
end Go.Proofs.YtbodklppgcloiaaDoor

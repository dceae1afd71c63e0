/- trace: Part. -/
import Derived.Test.YthgijdhifhnmfaaTrC
namespace Go.Proofs.Ythgijdhifhnmfaa
open Go.RowKit
set_option linter.unusedVariables false
attribute [local go_sem] Oper.semAt_some

theorem Try.infoEv : (Try.prog.info? 47).map (fun i => (i.zero, i.size, i.bytes)) = some (some (.agg #[.int .i64 0, .int .i64 0, .string ⟨#[]⟩]), 3, 32) := by kernel_rfl
theorem Try.undEv : Try.prog.underlying 22 = some (.slice 47) := by kernel_rfl
theorem evC_length (l : List Ev) : (evC l).length = l.length * 3 := by
  induction l with
  | nil => rfl
  | cons x l ih =>
    have : evC (x :: l) = x.cl ++ evC l := rfl
    rw [this, List.length_append, ih, List.length_cons]
    have : x.cl.length = 3 := rfl
    omega
theorem evC_one (l : List Ev) : ∀ u ∈ evC l, u.oneCell' = true := by
  intro u hu
  simp only [evC, List.mem_flatMap] at hu
  obtain ⟨x, _, hx⟩ := hu
  exact Ev.one x u hx
theorem evs_news {w : World} {g o : Nat} {l : List Ev} (h : EvsAt w (some ⟨g, o, none⟩) l) : ∀ j u, (evC l)[j]? = some u → w.cell? ((⟨g, o, none⟩ : Addr).add j) = some u := by
  intro j u hu
  have hj : j < l.length * 3 := by
    have := (List.getElem?_eq_some_iff.1 hu).1
    rwa [evC_length] at this
  have ht : j / 3 < l.length := by omega
  obtain ⟨g', o', e1, c0, c1, c2⟩ := h (j / 3) l[j / 3] (List.getElem?_eq_getElem ht)
  simp only [Option.some.injEq, Addr.mk.injEq, and_true] at e1
  obtain ⟨rfl, rfl⟩ := e1
  have he := evC_get l (j / 3) (j % 3) l[j / 3] (List.getElem?_eq_getElem ht) (by omega)
  rw [show j / 3 * 3 + j % 3 = j by omega, hu] at he
  have ha : (⟨g, o, none⟩ : Addr).add j = ⟨g, o + j, none⟩ := by simp [Addr.add]
  rw [ha]
  rcases (show j % 3 = 0 ∨ j % 3 = 1 ∨ j % 3 = 2 by omega) with hr | hr | hr
  · rw [hr] at he
    rw [show o + j = o + j / 3 * 3 by omega, c0]
    exact he.symm
  · rw [hr] at he
    rw [show o + j = o + j / 3 * 3 + 1 by omega, c1]
    exact he.symm
  · rw [hr] at he
    rw [show o + j = o + j / 3 * 3 + 2 by omega, c2]
    exact he.symm
theorem EvsAt.part {w : World} {g o : Nat} {l : List Ev} (h : EvsAt w (some ⟨g, o, none⟩) l) (F T : Nat) : EvsAt w (some ⟨g, o + F * 3, none⟩) ((l.take T).drop F) := fun t c ht => by
  have hl : l[F + t]? = some c := by
    rw [List.getElem?_drop, List.getElem?_take] at ht
    split at ht
    · exact ht
    · cases ht
  obtain ⟨g', o', e1, c0, c1, c2⟩ := h (F + t) c hl
  simp only [Option.some.injEq, Addr.mk.injEq, and_true] at e1
  obtain ⟨rfl, rfl⟩ := e1
  have e : o + (F + t) * 3 = o + F * 3 + t * 3 := by omega
  rw [e] at c0 c1 c2
  exact ⟨g, o + F * 3, rfl, c0, c1, c2⟩
/-- a row of events, new -/
structure EvR (w : World) (v : Value) (l : List Ev) (w' : World) : Prop where
  own : OwnEv 47 w' w.heap.size v l
  be : Below w.heap.size w w'
theorem eq_nil_slice (g o n c : Nat) (w : World) : (binOp .eql 22 (.slice (some ⟨g, o, none⟩) n c) (.slice none 0 0)).run Try.prog w = .ok (.bool false) w := by
  first
    | rfl
    | (simp [binOp, go_sem]; done)
theorem own_empty (w : World) : (w.alloc (.cells #[] 47)).ownsRow w.heap.size 47 3 (.slice (some ⟨w.heap.size, 0, none⟩) 0 0) 0 [] :=
  ⟨rfl, .inr ⟨w.heap.size, 0, #[], rfl, Nat.le_refl _, heap_alloc_new w _, Nat.le_refl _, by unfold maxLen; omega, rfl, rfl⟩⟩
set_option maxRecDepth 100000 in
set_option maxHeartbeats 2000000 in
theorem clone_any (g o n c : Nat) (l : List Ev) (w : World) (hl : EvsAt w (some ⟨g, o, none⟩) l) (hn : l.length = n) (h1 : 1 ≤ n) (hm : n ≤ 100000) :
    Calls Try.prog 39 #[.slice (some ⟨g, o, none⟩) n c] w fun e w' => ∃ v, e = .returned v ∧ EvR w v l w' := by
  obtain ⟨i0, hi, hz0, hz1, hz2⟩ := info_parts Try.infoEv
  have HNW := hide (evs_news (hl.below ((Below.refl _ w).alloc (Nat.le_refl _) (.cells #[] 47))))
  have HLN : Hid ((evC l).length = n * 3) := by
    show _ = _
    rw [evC_length, hn]
  have HN := hide hn
  have HO := hide (own_empty w)
  have hnl : ∀ w, (binOp .eql 22 (.slice (some ⟨g, o, none⟩) n c) (.slice none 0 0)).run Try.prog w = .ok (.bool false) w := fun w => eq_nil_slice g o n c w
  clear hl hn
  go_enter Try.func39, Try.ntmps39
  go_wp2_with (refine wpList_append_own _ rfl (.tmp 5) (.tmp 6) 22 rfl w.heap.size 47 i0 (.agg #[.int .i64 0, .int .i64 0, .string ⟨#[]⟩]) 3 32 Try.undEv hi hz0 hz1 hz2 rfl (by decide) (.slice (some ⟨w.heap.size, 0, none⟩) 0 0) 0 [] (by rfl) (unhide HO) ⟨g, o, none⟩ n c (evC l) (by rfl) (unhide HLN) (unhide HNW) (evC_one l) (by unfold maxLen; omega) (by omega) (by simp) ?_)
  intro v' w' hown hgrow hnil
  have HF : Hid (EvR w v' l w') := by
    refine ⟨?_, ((Below.refl _ w).alloc (Nat.le_refl _) (.cells #[] 47)).grown hgrow (by simp) (fun z hz => ((unhide HO).lt z hz).1)⟩
    unfold OwnEv
    rw [unhide HN]
    try rw [Nat.zero_add] at hown
    try rw [List.nil_append] at hown
    exact hown
  clear hown hgrow hnil
  go_wp2
  go_ret
  exact ⟨_, rfl, unhide HF⟩
theorem pt_none (l : List Ev) (f t : Int) (h : min t l.length ≤ max f 0) : pt l f t l.length = [] := by
  unfold pt
  rw [List.take_length, List.drop_eq_nil_of_le]
  rw [List.length_take]
  omega

set_option maxRecDepth 100000 in
set_option maxHeartbeats 2000000 in
theorem part_none (a0 : Option Addr) (l : List Ev) (c : Nat) (f t : Int) (w : World) (hl : EvsAt w a0 l) (hm : l.length ≤ 100000) (hc : l.length ≤ c ∧ c ≤ maxLen) (h : min t l.length ≤ max f 0) :
    Calls Try.prog 18 #[.slice a0 l.length c, .int .i64 f, .int .i64 t] w fun e w' => ∃ v, e = .returned v ∧ EvR w v (pt l f t l.length) w' := by
  rw [pt_none l f t h]
  obtain ⟨n, hn⟩ : ∃ n, n = l.length := ⟨_, rfl⟩
  rw [← hn]
  rw [← hn] at hm hc h
  clear hl hn hc
  have HF : Hid (EvR w (.slice none 0 0) [] w) := ⟨World.ownsRow_nil _ _ _ _, Below.refl _ _⟩
  by_cases h1 : f < 0
  · by_cases h2 : t ≤ n
    · have q : t ≤ 0 := by omega
      go_enter Try.func18, Try.ntmps18
      go_wp2
      go_ret
      exact ⟨_, rfl, unhide HF⟩
    · have q : (n : Int) ≤ 0 := by omega
      go_enter Try.func18, Try.ntmps18
      go_wp2
      go_ret
      exact ⟨_, rfl, unhide HF⟩
  · by_cases h2 : t ≤ n
    · have q : t ≤ f := by omega
      go_enter Try.func18, Try.ntmps18
      go_wp2
      go_ret
      exact ⟨_, rfl, unhide HF⟩
    · have q : (n : Int) ≤ f := by omega
      go_enter Try.func18, Try.ntmps18
      go_wp2
      go_ret
      exact ⟨_, rfl, unhide HF⟩
set_option maxRecDepth 100000 in
set_option maxHeartbeats 2000000 in
theorem part_some (a0 : Option Addr) (l : List Ev) (c : Nat) (f t : Int) (w : World) (hl : EvsAt w a0 l) (hm : l.length ≤ 100000) (hc : l.length ≤ c ∧ c ≤ maxLen) (h : ¬ min t l.length ≤ max f 0) :
    Calls Try.prog 18 #[.slice a0 l.length c, .int .i64 f, .int .i64 t] w fun e w' => ∃ v, e = .returned v ∧ EvR w v (pt l f t l.length) w' := by
  obtain ⟨n, hn⟩ : ∃ n, n = l.length := ⟨_, rfl⟩
  obtain ⟨e0, he0⟩ : ∃ e0, l[0]? = some e0 := ⟨_, List.getElem?_eq_getElem (by omega)⟩
  obtain ⟨g, o, hgo, hrest⟩ := hl 0 e0 he0
  subst hgo
  clear hrest he0 e0
  have HL := hide hl
  have hpt : pt l f t l.length = (l.take (min t l.length).toNat).drop (max f 0).toNat := by
    unfold pt
    rw [List.take_length]
    by_cases e : t ≤ l.length
    · rw [show min t (l.length : Int) = t by omega, show (max f 0).toNat = f.toNat by omega]
    · rw [show (min t (l.length : Int)).toNat = l.length by omega, show (max f 0).toNat = f.toNat by omega, List.take_length, List.take_of_length_le (by omega)]
  have HPT := hide hpt
  have HN := hide hn
  rw [← hn]
  rw [← hn] at hm hc h
  obtain ⟨hc1, hc2⟩ := hc
  clear hl hn hpt
  by_cases h1 : f < 0
  · by_cases h2 : t ≤ n
    · obtain ⟨T, rfl⟩ : ∃ T : Nat, t = T := ⟨t.toNat, by omega⟩
      have HC := hide (clone_any g (o + 0 * 3) (T - 0) (c - 0) ((l.take T).drop 0) w ((unhide HL).part 0 T) (by rw [List.length_drop, List.length_take, ← unhide HN]; omega) (by omega) (by omega))
      have HQ : Hid (pt l f (T : Int) n = (l.take T).drop 0) := by
        show _ = _
        have := unhide HPT
        rw [← unhide HN] at this
        rw [this]
        congr 1
        · omega
        · congr 1
          omega
      rw [unhide HQ]
      clear HL HPT HN HQ
      go_enter Try.func18, Try.ntmps18
      go_wp2_with fail
      refine (unhide HC).mono ?_
      rintro e w1 ⟨v, rfl, hR⟩
      have HR := hide hR
      clear hR
      go_wp2
      go_ret
      exact ⟨_, rfl, unhide HR⟩
    · have HC := hide (clone_any g (o + 0 * 3) (n - 0) (c - 0) ((l.take n).drop 0) w ((unhide HL).part 0 n) (by rw [List.length_drop, List.length_take, ← unhide HN]; omega) (by omega) (by omega))
      have HQ : Hid (pt l f t n = (l.take n).drop 0) := by
        show _ = _
        have := unhide HPT
        rw [← unhide HN] at this
        rw [this]
        congr 1
        · omega
        · congr 1
          omega
      rw [unhide HQ]
      clear HL HPT HN HQ
      go_enter Try.func18, Try.ntmps18
      go_wp2_with fail
      refine (unhide HC).mono ?_
      rintro e w1 ⟨v, rfl, hR⟩
      have HR := hide hR
      clear hR
      go_wp2
      go_ret
      exact ⟨_, rfl, unhide HR⟩
  · obtain ⟨F, rfl⟩ : ∃ F : Nat, f = F := ⟨f.toNat, by omega⟩
    by_cases h2 : t ≤ n
    · obtain ⟨T, rfl⟩ : ∃ T : Nat, t = T := ⟨t.toNat, by omega⟩
      have HC := hide (clone_any g (o + F * 3) (T - F) (c - F) ((l.take T).drop F) w ((unhide HL).part F T) (by rw [List.length_drop, List.length_take, ← unhide HN]; omega) (by omega) (by omega))
      have HQ : Hid (pt l (F : Int) (T : Int) n = (l.take T).drop F) := by
        show _ = _
        have := unhide HPT
        rw [← unhide HN] at this
        rw [this]
        congr 1
        · omega
        · congr 1
          omega
      rw [unhide HQ]
      clear HL HPT HN HQ
      go_enter Try.func18, Try.ntmps18
      go_wp2_with fail
      refine (unhide HC).mono ?_
      rintro e w1 ⟨v, rfl, hR⟩
      have HR := hide hR
      clear hR
      go_wp2
      go_ret
      exact ⟨_, rfl, unhide HR⟩
    · have HC := hide (clone_any g (o + F * 3) (n - F) (c - F) ((l.take n).drop F) w ((unhide HL).part F n) (by rw [List.length_drop, List.length_take, ← unhide HN]; omega) (by omega) (by omega))
      have HQ : Hid (pt l (F : Int) t n = (l.take n).drop F) := by
        show _ = _
        have := unhide HPT
        rw [← unhide HN] at this
        rw [this]
        congr 1
        · omega
        · congr 1
          omega
      rw [unhide HQ]
      clear HL HPT HN HQ
      go_enter Try.func18, Try.ntmps18
      go_wp2_with fail
      refine (unhide HC).mono ?_
      rintro e w1 ⟨v, rfl, hR⟩
      have HR := hide hR
      clear hR
      go_wp2
      go_ret
      exact ⟨_, rfl, unhide HR⟩
theorem part_any (a0 : Option Addr) (l : List Ev) (c : Nat) (f t : Int) (w : World) (hl : EvsAt w a0 l) (hm : l.length ≤ 100000) (hc : l.length ≤ c ∧ c ≤ maxLen) :
    Calls Try.prog 18 #[.slice a0 l.length c, .int .i64 f, .int .i64 t] w fun e w' => ∃ v, e = .returned v ∧ EvR w v (pt l f t l.length) w' := by
  by_cases h : min t l.length ≤ max f 0
  · exact part_none a0 l c f t w hl hm hc h
  · exact part_some a0 l c f t w hl hm hc h
end Go.Proofs.Ythgijdhifhnmfaa

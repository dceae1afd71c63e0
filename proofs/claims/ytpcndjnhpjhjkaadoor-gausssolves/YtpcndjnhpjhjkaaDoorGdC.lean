/- gauss: the document's Sides. -/
import Derived.Test.YtpcndjnhpjhjkaaDoorGdY
import Derived.Test.YtpcndjnhpjhjkaaDoorGmT
namespace Go.Proofs.YtpcndjnhpjhjkaaDoor
open Go.RowKit
set_option linter.unusedVariables false
attribute [local go_sem] Oper.semAt_some

theorem Tryd.infoSd : (Tryd.prog.info? 78).map (fun i => (i.zero, i.size, i.bytes)) = some (some (.agg #[.slice none 0 0, .string ⟨#[]⟩]), 2, 40) := by kernel_rfl
theorem Tryd.undSd : Tryd.prog.underlying 72 = some (.slice 78) := by kernel_rfl
set_option maxRecDepth 100000 in
set_option maxHeartbeats 1000000 in
theorem dsides_any (n : Nat) (Rs : List (List Int)) (R : List (List Nat)) (hR : Rws n Rs R) (a0 : Option Addr) (c : Nat) (w : World) (hI : RowsA w a0 Rs) :
    Calls Tryd.prog 34 #[.slice a0 Rs.length c] w fun e w' => ∃ v, e = .returned v ∧ ∃ Cs, w'.ownsRow w.heap.size 78 2 v R.length Cs ∧ EqC w R (fun _ => []) R.length Cs ∧ Below w.heap.size w w' := by
  have hlen : Rs.length = R.length := by rw [hR.eq, List.length_map]
  have h400 := hR.m400
  have HROW : Hid (∀ k, k < R.length → ∃ g o, a0 = some ⟨g, o, none⟩ ∧ ∃ b cc, w.cell? ⟨g, o + k, none⟩ = some (.slice b (R.getD k []).length cc) ∧ Ints w b (zs (R.getD k []))) := fun k hk => by
    obtain ⟨g, o, e0, b, cc, e1, e2⟩ := hI k (by omega)
    have er : Rs[k]'(by omega) = zs (R.getD k []) := by
      have := hR.eq
      subst this
      simp [List.getD, hk]
    rw [er] at e1 e2
    rw [zs_length] at e1
    exact ⟨g, o, e0, b, cc, e1, e2⟩
  rw [hlen]
  generalize hM : R.length = M at *
  obtain ⟨i0, hi0, hz0, hz1, hz2⟩ : ∃ i, Tryd.prog.info? 78 = some i ∧ i.zero = some (.agg #[.slice none 0 0, .string ⟨#[]⟩]) ∧ i.size = 2 ∧ i.bytes = 40 := by
    have h := Tryd.infoSd
    cases hh : Tryd.prog.info? 78 with
    | none => rw [hh] at h; cases h
    | some i =>
      rw [hh] at h
      simp only [Option.map_some, Option.some.injEq, Prod.mk.injEq] at h
      exact ⟨i, rfl, h.1, h.2.1, h.2.2⟩
  clear hI hR hlen hM
  go_enter Tryd.func34, Tryd.ntmps34
  go_wp2_with fail
  go_loopw [3, 4] (fun v u wr => ∃ (k : Nat) (Cs : List Value), k ≤ M ∧ u = .int .i64 k ∧ wr.ownsRow w.heap.size 78 2 v k Cs ∧ EqC w R (fun _ => []) k Cs ∧ Below w.heap.size w wr) (fun _ u _ => M - (intOf u).toNat)
  case atStart => exact ⟨0, [], by omega, rfl, World.ownsRow_nil _ _ _ _, fun j hj => absurd hj (by omega), Below.refl _ _⟩
  case round =>
    obtain ⟨k, Cs, hk, rfl, hO, hC, hB⟩ := hrel
    obtain ⟨ao, cap, rfl⟩ := own_shape4 hO
    have HO := hide hO
    have HC := hide hC
    have HB := hide hB
    have hzw := hB.size
    by_cases hlt : k < M
    · obtain ⟨g, o, rfl, b, cc, c0, hIk⟩ := unhide HROW k hlt
      have d0 := cell_below c0 hB
      have q1 : (k : Int) < M := by omega
      have HCN := hide (hC.snoc (by have := hO.1; omega) (c := cc) hIk)
      generalize (R.getD k []).length = rl at *
      clear hO hB hC c0 hIk
      go_wp2_with (at_builtin; refine wpList_append_own _ rfl _ _ 72 rfl w.heap.size 78 i0 _ 2 40 Tryd.undSd hi0 hz0 hz1 hz2 rfl (by decide) _ _ _ rfl ((unhide HO).alloc _) ⟨wr.heap.size, 0, none⟩ 1 1 [.slice b rl cc, .string ⟨#[]⟩] rfl rfl (news_lit _ [_, _] _) ?d2 ?d3 ?d4 ?d5 ?_)
      case d2 => intro u hu; simp at hu; rcases hu with rfl | rfl <;> rfl
      case d3 => unfold maxLen; omega
      case d4 => omega
      case d5 => first | omega | (simp; omega)
      intro v' w3 hown' hgrow _
      have hb' := hide ((((unhide HB).alloc (by omega) _)).grown hgrow (by simp; omega) (fun k hk => (((unhide HO).lt k hk).1)))
      have ho2 := hide hown'
      obtain ⟨ao', cap', rfl⟩ := own_shape4 hown'
      clear hown' hgrow
      go_wp2
      go_roundw
      case rel => exact ⟨k + 1, _, by omega, by go_num, unhide ho2, unhide HCN, unhide hb'⟩
      case measure => simp [intOf]; omega
    · have hkm : k = M := by omega
      subst hkm
      have q1 : ¬ (k : Int) < k := by omega
      clear hO hB hC
      go_wp2
      go_ret
      exact ⟨_, rfl, _, unhide HO, unhide HC, unhide HB⟩
end Go.Proofs.YtpcndjnhpjhjkaaDoor

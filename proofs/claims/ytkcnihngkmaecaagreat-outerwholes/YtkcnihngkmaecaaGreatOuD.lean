/- Contracts of outer: absent, sum, areAlike. -/
import Derived.Test.YtkcnihngkmaecaaGreatOuC
namespace Go.Proofs.YtkcnihngkmaecaaGreat
open Go.RowKit
set_option linter.unusedVariables false
attribute [local go_sem] Oper.semAt_some

/-- numbers that lie in a row -/
def NumsAt (w : World) (b0 : Option Addr) (ns : List Nat) : Prop := ∀ k (h : k < ns.length), ∃ g o, b0 = some ⟨g, o, none⟩ ∧ w.cell? ⟨g, o + k, none⟩ = some (.int .i64 (ns[k] : Int))
theorem NumsAt.below {w w' : World} {b0 : Option Addr} {ns : List Nat} (h : NumsAt w b0 ns) (hb : Below w.heap.size w w') : NumsAt w' b0 ns := fun k hk => by
  obtain ⟨g, o, e, hc⟩ := h k hk
  exact ⟨g, o, e, cell_below hc hb⟩
theorem nums_of_own {w : World} {base : Nat} {v : Value} {ns : List Nat} (h : w.ownsRow base 3 1 v ns.length (ic ns)) : ∃ b0 c, v = .slice b0 ns.length c ∧ NumsAt w b0 ns := by
  rcases h.2 with ⟨rfl, h0⟩ | ⟨g, cap, cur, rfl, hb, hg, hnc, hcm, hcs, htk⟩
  · exact ⟨none, 0, by rw [h0], fun k hk => by omega⟩
  · refine ⟨some ⟨g, 0, none⟩, cap, rfl, fun k hk => ⟨g, 0, rfl, ?_⟩⟩
    rw [Nat.zero_add]
    exact (h.cellAt k (by omega)).trans (ic_get _ _ hk)
/-- the texts of numbers -/
def atN (ss : List By) (ns : List Nat) : List By := ns.map fun i => ss.getD i []
theorem atN_append (ss : List By) (a b : List Nat) : atN ss (a ++ b) = atN ss a ++ atN ss b := by simp [atN]
set_option maxRecDepth 100000 in
set_option maxHeartbeats 2000000 in
theorem osum_any (ss : List By) (a0 : Option Addr) (c : Nat) (ns : List Nat) (b0 : Option Addr) (d : Nat) (size : Int) (w : World) (hT : Txts w a0 ss) (hN : NumsAt w b0 ns) (h2 : ss.length ≤ 100000) (h3 : ∀ s ∈ ss, s.length ≤ 100000) (h4 : ns.length ≤ 10000) (h5 : ∀ i ∈ ns, i < ss.length) :
    Calls Tryz.prog 37 #[.slice a0 ss.length c, .slice b0 ns.length d, .int .i64 size] w fun e w' => e = .returned (.string (bs (sumR (pres (atN ss ns)) size))) ∧ Below w.heap.size w w' := by
  obtain ⟨i0, hi, hz0, hz1, hz2⟩ := info_parts Tryz.infoS
  have hal : ∀ s ∈ pres (atN ss ns), s.length ≤ 100000 := by
    intro s hs
    have h6 := (List.mem_filter.1 hs).1
    obtain ⟨i, hi', rfl⟩ := List.mem_map.1 h6
    have h7 := h5 i hi'
    rw [show ss.getD i [] = ss[i] by simp [List.getD, h7]]
    exact h3 _ (List.getElem_mem h7)
  have hpl : (pres (atN ss ns)).length ≤ 10000 := Nat.le_trans (pres_len _) (by simp [atN]; exact h4)
  have hpr := hide (fun a c w hT => present_any (atN ss ns) a c w hT (by simp [atN]; omega))
  have hsm := hide (fun a c w hT => bsum_any (pres (atN ss ns)) a c size w hT (by omega) hal)
  have hl0 : (atN ss ns).length = ns.length := by simp [atN]
  obtain ⟨m, hm⟩ : ∃ m, m = ns.length := ⟨_, rfl⟩
  have HM := hide hm
  rw [← hm]
  rw [hl0, ← hm] at hpr
  have hmb : m ≤ 10000 := by omega
  have HT := hide hT
  have HN := hide hN
  obtain ⟨l, hl⟩ : ∃ l, l = ss.length := ⟨_, rfl⟩
  have HL := hide hl
  rw [← hl]
  have hlb : l ≤ 100000 := by omega
  generalize hSR : bs (sumR (pres (atN ss ns)) size) = SR at *
  generalize sumE (pres (atN ss ns)) size = SE at *
  generalize hPL : (pres (atN ss ns)).length = PL at *
  have HSR := hide hSR
  clear hT hN hm hl hal hpl hl0 hSR hPL
  go_enter Tryz.func37, Tryz.ntmps37
  go_wp2_with fail
  go_loopw [7, 14] (fun v iv wr => ∃ k : Nat, k ≤ m ∧ iv = .int .i64 k ∧ OwnS wr w.heap.size v (atN ss (ns.take k)) ∧ Below w.heap.size w wr) (fun _ iv _ => m - (intOf iv).toNat)
  case atStart => exact ⟨0, Nat.zero_le _, rfl, World.ownsRow_nil _ _ _ _, Below.refl _ _⟩
  case round =>
    obtain ⟨k, hk, rfl, hO, hB⟩ := hrel
    have hkl : (atN ss (ns.take k)).length = k := by simp [atN]; have := unhide HM; omega
    by_cases hlt : k < m
    · have hlt' : k < ns.length := by rw [← unhide HM]; exact hlt
      have q1 : (k : Int) < (m : Int) := by omega
      obtain ⟨g, o, rfl, c1⟩ := unhide HN k hlt'
      have c1 := cell_below c1 hB
      have hn5 := h5 ns[k] (List.getElem_mem hlt')
      obtain ⟨g2, o2, rfl, c2⟩ := unhide HT ns[k] hn5
      have c2 := cell_below c2 hB
      have q2 : (ns[k] : Int) < (l : Int) := by have := unhide HL; omega
      have HTK : Hid (atN ss (ns.take (k + 1)) = atN ss (ns.take k) ++ [ss[ns[k]]]) := by
        show _ = _
        rw [List.take_succ_eq_append_getElem hlt', atN_append]
        congr 1
        simp [atN, List.getD, hn5]
      have hOo : wr.ownsRow w.heap.size 9 1 u7 k (sc (atN ss (ns.take k))) := by
        have h := hO
        unfold OwnS at h
        rw [hkl] at h
        exact h
      obtain ⟨ao, cap, rfl⟩ := own_shape' hOo
      have HO := hide hOo
      have HB := hide hB
      have hzz := hB.size
      generalize hI : ns[k] = I at *
      generalize hS : bs ss[I] = S at *
      have HS := hide hS
      have hI0 : (0 : Int) ≤ (I : Int) := by omega
      clear hO hOo hB hkl hI hS
      go_wp2_with (at_builtin; refine wpList_append_own _ rfl _ _ 41 rfl w.heap.size 9 i0 (.string ⟨#[]⟩) 1 16 Tryz.undS hi hz0 hz1 hz2 rfl (by decide) _ _ _ rfl ((unhide HO).alloc _) ⟨wr.heap.size, 0, none⟩ 1 1 [.string S] rfl rfl (news_lit _ [_] _) ?d2 ?d3 ?d4 ?d5 ?_)
      case d2 => intro u hu; simp at hu; subst hu; rfl
      case d3 => unfold maxLen; omega
      case d4 => omega
      case d5 => first | omega | (simp; omega)
      intro v' w3 hown' hgrow _
      have hb' := hide ((((unhide HB).alloc (by omega) _)).grown hgrow (by simp; omega) (fun k hk => (((unhide HO).lt k hk).1)))
      have ho2 : Hid (OwnS w3 w.heap.size v' (atN ss (ns.take (k + 1)))) := by
        show World.ownsRow _ _ _ _ _ _ _
        rw [unhide HTK, sc_append, List.length_append, show (atN ss (ns.take k)).length = k by simp [atN]; have := unhide HM; omega]
        have hsc : sc [ss[I]] = [.string S] := by simp [sc, unhide HS]
        rw [hsc]
        exact hown'
      obtain ⟨ao', cap', rfl⟩ := own_shape' hown'
      clear hown' hgrow HO HB
      go_wp2
      go_roundw
      case rel => exact ⟨k + 1, by omega, by go_num, unhide ho2, unhide hb'⟩
      case measure => simp [intOf]; omega
    · have hke : k = ns.length := by have := unhide HM; omega
      have q1 : ¬ (k : Int) < (m : Int) := by omega
      rw [hke, List.take_length] at hO
      obtain ⟨a1, d1, rfl, hT1, _, _⟩ := hO.txts
      have hl1 : (atN ss ns).length = m := by simp [atN]; exact (unhide HM).symm
      rw [hl1]
      have hp1 := hide (unhide hpr a1 d1 wr hT1)
      have HB := hide hB
      clear hT1 hO hB hkl hke hl1
      go_wp2_with fail
      refine (unhide hp1).mono ?_
      rintro e w2 ⟨b1, dd, rfl, hT2, b2⟩
      have hs1 := hide (unhide hsm b1 dd w2 hT2)
      have HB2 := hide ((unhide HB).trans (b2.mono (unhide HB).size))
      clear hT2 b2
      go_wp2_with fail
      refine (unhide hs1).mono ?_
      rintro e w4 ⟨rfl, b4⟩
      have HB4 := hide ((unhide HB2).trans (b4.mono (unhide HB2).size))
      clear b4
      go_wp2
      go_ret
      exact ⟨rfl, unhide HB4⟩
end Go.Proofs.YtkcnihngkmaecaaGreat

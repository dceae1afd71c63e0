/- Contract of link's Base32. -/
import Derived.Test.YtgcfmgkhbenooaaLkH
import Derived.Test.YtgcfmgkhbenooaaBrow
namespace Go.Proofs.Ytgcfmgkhbenooaa
open Go.RowKit
set_option linter.unusedVariables false

/-- the first k groups are letters -/
def mapK (G : List UInt8) (k : Nat) : List UInt8 := (List.range G.length).map fun j => if j < k then letD (G.getD j 0).toNat else G.getD j 0
theorem mapK_len (G : List UInt8) (k : Nat) : (mapK G k).length = G.length := by simp [mapK]
theorem mapK_zero (G : List UInt8) : mapK G 0 = G := by
  apply List.ext_getElem
  · rw [mapK_len]
  · intro i h1 h2
    simp [mapK, List.getD_eq_getElem?_getD, List.getElem?_eq_getElem h2]
theorem mapK_all (G : List UInt8) : mapK G G.length = G.map fun g => letD g.toNat := by
  apply List.ext_getElem
  · rw [mapK_len]; simp
  · intro i h1 h2
    have h3 : i < G.length := by simpa using h2
    simp [mapK, List.getD_eq_getElem?_getD, h3]
theorem mapK_get (G : List UInt8) (k : Nat) (h : k < G.length) : (mapK G k)[k]'(by rw [mapK_len]; exact h) = G[k] := by
  simp [mapK, List.getD_eq_getElem?_getD, List.getElem?_eq_getElem h]
theorem mapK_step (G : List UInt8) (k : Nat) (h : k < G.length) : (mapK G k).set k (letD G[k].toNat) = mapK G (k + 1) := by
  apply List.ext_getElem
  · rw [List.length_set, mapK_len, mapK_len]
  · intro i h1 h2
    have h3 : i < G.length := by rw [mapK_len] at h2; exact h2
    rw [List.getElem_set]
    by_cases e : k = i
    · subst e
      simp [mapK, List.getD_eq_getElem?_getD, List.getElem?_eq_getElem h3]
    · rw [if_neg e]
      have e2 : (i < k) = (i < k + 1) := propext ⟨fun _ => by omega, fun _ => by omega⟩
      simp only [mapK, List.getElem_map, List.getElem_range, e2]
theorem shlG (h c : Nat) (hc : 0 < c) (hc5 : c < 5) (hh : h < 2 ^ c) : h * 2 ^ (5 - c) < 32 := by
  have := Nat.mul_lt_mul_of_pos_right hh (Nat.two_pow_pos (5 - c))
  rwa [← Nat.pow_add, show c + (5 - c) = 5 by omega] at this

set_option maxRecDepth 100000 in
set_option maxHeartbeats 1000000 in
theorem base32_any (l : List UInt8) (w : World) (hl : l.length ≤ 20000) : Calls Try.prog 8 #[.string (bs l)] w fun e w' => e = .returned (.string (bs (b32 l))) ∧ Below w.heap.size w w' := by
  obtain ⟨i0, hi, hz0, hz1, hz2⟩ := info_parts Try.infoU
  obtain ⟨cap, w1, hcv, hbw, hbl⟩ := run_bytes w l
  have hrg := hide (regroup85 l w.heap.size cap w1 (by omega) (fun j hj => hbw.cell j hj) (u8_all l))
  obtain ⟨r1, r2, r3, r4⟩ := rg85 l
  obtain ⟨q1, q2, q3⟩ := grp32_facts l
  have hgr : Hid (grp32 l = if (rgA 8 5 l).2.2 = 0 then (rgA 8 5 l).1 else (rgA 8 5 l).1 ++ [UInt8.ofNat ((rgA 8 5 l).2.1 * 2 ^ (5 - (rgA 8 5 l).2.2))]) := rfl
  have HB1 := hide hbl
  have hb32 : Hid (b32 l = (grp32 l).map fun g => letD g.toNat) := rfl
  clear hbw hbl q3
  generalize b32 l = RES at *
  generalize grp32 l = G at *
  generalize rgA 8 5 l = RG at *
  obtain ⟨O, h, c⟩ := RG
  dsimp only at *
  have HQ := hide (And.intro q1 (And.intro q2 r4))
  generalize l.length = ll at *
  clear q1 q2 r4
  go_enter Try.func8, Try.ntmps8
  go_wp2_with (simp only [hcv])
  refine (unhide hrg).mono ?_
  rintro e w2 ⟨vo, h', rfl, hh, HO, b2⟩
  obtain rfl := unhide hh
  have HB2 := hide ((unhide HB1).trans (b2.mono (unhide HB1).size))
  have HO2 := hide (own_mono (unhide HO) (unhide HB1).size)
  clear HO hh b2 hrg
  have hol : O.length ≤ 40000 := by have := (unhide HQ).2.2; omega
  have hG : Hid (∀ g ∈ G, g.toNat < 32) := (unhide HQ).2.1
  by_cases hc0 : c = 0
  · subst hc0
    have hGO : G = O := by have := unhide hgr; rwa [if_pos rfl] at this
    subst hGO
    obtain ⟨n, hn⟩ : ∃ n, n = G.length := ⟨_, rfl⟩
    rw [← hn] at HO2 hol
    have Hn := hide hn
    have HO := HO2
    have HB := HB2
    clear hn HO2 HB2 hgr HQ HB1 r3 r1
    obtain ⟨ao, cap2, rfl⟩ := own_shape' (unhide HO)
    go_wp2
    go_loopw [26] (fun i wr => ∃ (k : Nat), k ≤ n ∧ i = .int .i64 (k : Nat) ∧ Hid (wr.ownsRow w.heap.size 5 1 (.slice ao n cap2) n (bc (mapK G k))) ∧ Hid (Below w.heap.size w wr)) (fun i _ => n - (intOf i).toNat)
    case atStart => exact ⟨0, Nat.zero_le _, rfl, by rw [mapK_zero]; exact HO, HB⟩
    case round =>
      clear HO HB
      obtain ⟨k, hk, rfl, HO, HB⟩ := hrel
      have hz := (unhide HB).size
      by_cases hlt : k < n
      · have hkG : k < G.length := by rw [← unhide Hn]; exact hlt
        have hg32 := unhide hG G[k] (List.getElem_mem hkG)
        have hix := run_letTab 9 .u8 G[k].toNat hg32 (by kernel_rfl)
        obtain ⟨g, rfl, hgb⟩ : ∃ g, ao = some ⟨g, 0, none⟩ ∧ w.heap.size ≤ g := by
          rcases (unhide HO).2 with ⟨hv, h0⟩ | ⟨g, cap, cur, hv, hb, _⟩
          · injection hv; omega
          · injection hv with h1 h2 h3; exact ⟨g, h1, hb⟩
        have hc : wr.cell? ⟨g, k, none⟩ = some (.int .u8 (G[k].toNat : Nat)) := by
          rw [(unhide HO).cellAt k (by omega), bc_get _ _ (by rw [mapK_len]; exact hkG), mapK_get]
        have hfz := (unhide HO).frozenAt k
        have hst := ((unhide HO).stored k (.int .u8 ((letD G[k].toNat).toNat : Nat))).1
        have HS : Hid ((wr.setCell ⟨g, k, none⟩ (.int .u8 ((letD G[k].toNat).toNat : Nat))).ownsRow w.heap.size 5 1 (.slice (some ⟨g, 0, none⟩) n cap2) n (bc (mapK G (k + 1)))) := by
          show World.ownsRow _ _ _ _ _ _ _
          rw [← mapK_step G k hkG]
          simp only [bc, List.map_set] at hst ⊢
          exact hst
        have HB2 := hide ((unhide HB).setCell (p := ⟨g, k, none⟩) hgb (.int .u8 ((letD G[k].toNat).toNat : Nat)))
        have hlk : (((k : Nat) : Int) < ((n : Nat) : Int)) := by omega
        generalize (letD G[k].toNat).toNat = lv at *
        generalize G[k].toNat = gv at *
        clear hst HO HB
        go_wp2
        go_roundw
        case rel => exact ⟨k + 1, by omega, by go_num, HS, HB2⟩
        case measure => simp [intOf]; omega
      · have hke : k = n := by omega
        subst hke
        have hcv := run_string_own (P := Try.prog) 30 9 Try.undB (by kernel_rfl) (by kernel_rfl) (unhide HO)
        have HR : Hid (RES = mapK G k) := by show RES = _; rw [unhide Hn, mapK_all]; exact unhide hb32
        have q1 : ¬ ((k : Nat) : Int) < ((k : Nat) : Int) := by omega
        generalize hD : (mapK G k).toArray = D at *
        have HD := hide hD
        clear hD HO
        go_wp2
        go_ret
        exact ⟨by rw [unhide HR]; show _ = Ending.returned (.string ⟨(mapK G k).toArray⟩); rw [unhide HD]; rfl, unhide HB⟩
  · have hcc : c = 1 ∨ c = 2 ∨ c = 3 ∨ c = 4 := by omega
    have hshl := shlG h' c (by omega) r1 r2
    have hGO : Hid (G = O ++ [UInt8.ofNat (h' * 2 ^ (5 - c))]) := by have := unhide hgr; rwa [if_neg hc0] at this
    obtain ⟨no, hno⟩ : ∃ n, n = O.length := ⟨_, rfl⟩
    rw [← hno] at HO2 hol
    have Hno := hide hno
    obtain ⟨ao, cap1, rfl⟩ := own_shape' (unhide HO2)
    have hzz := (unhide HB2).size
    clear hno hgr HQ HB1 r3 hc0
    rcases hcc with rfl | rfl | rfl | rfl
    · have hbc : Hid (bc [UInt8.ofNat (h' * 2 ^ (5 - 1))] = [.int .u8 ((h' : Nat) * 16 : Int)]) := by
        show bc _ = _
        simp only [bc, List.map_cons, List.map_nil, UInt8.toNat_ofNat']
        rw [Nat.mod_eq_of_lt (by simpa using (show h' * 2 ^ (5 - 1) < 256 from by omega))]
        simp
      have hw : IntKind.u8.wrap ((h' : Int) * 16) = (h' : Int) * 16 := by
        have e : (h' : Int) * 16 = ((h' * 16 : Nat) : Int) := by simp
        rw [e]; exact wrap256 _ (by omega)
      clear hshl r2
      go_wp2_with (at_builtin; refine wpList_append_own _ rfl _ _ 30 rfl w.heap.size 5 i0 (.int .u8 0) 1 1 Try.undB hi hz0 hz1 hz2 rfl (by decide) _ _ _ rfl ((unhide HO2).alloc _) ⟨w2.heap.size, 0, none⟩ 1 1 [.int .u8 ((h' : Nat) * 16 : Int)] rfl rfl (news_lit _ [_] _) ?c21 ?c31 ?c41 ?c51 ?_)
      case c21 => intro u hu; simp at hu; subst hu; rfl
      case c31 => unfold maxLen; omega
      case c41 => omega
      case c51 => simp; omega
      intro v' w3 hown2 hgrow2 _
      have HB : Hid (Below w.heap.size w w3) := ((unhide HB2).alloc (by omega) _).grown hgrow2 (by simp; omega) (fun k hk => ((unhide HO2).lt k hk).1)
      obtain ⟨n, hn⟩ : ∃ n, n = no + 1 := ⟨_, rfl⟩
      have Hn : Hid (n = G.length) := by show n = _; rw [unhide hGO, List.length_append, List.length_singleton, ← unhide Hno]; exact hn
      have HO : Hid (w3.ownsRow w.heap.size 5 1 v' n (bc G)) := by
        show World.ownsRow _ _ _ _ _ _ _
        rw [unhide hGO, bc_append, unhide hbc, hn]
        exact hown2
      have hol : n ≤ 40001 := by omega
      clear hown2 hgrow2 HO2 HB2 hn hw
      obtain ⟨ao, cap2, rfl⟩ := own_shape' (unhide HO)
      go_wp2
      go_loopw [26] (fun i wr => ∃ (k : Nat), k ≤ n ∧ i = .int .i64 (k : Nat) ∧ Hid (wr.ownsRow w.heap.size 5 1 (.slice ao n cap2) n (bc (mapK G k))) ∧ Hid (Below w.heap.size w wr)) (fun i _ => n - (intOf i).toNat)
      case atStart => exact ⟨0, Nat.zero_le _, rfl, by rw [mapK_zero]; exact HO, HB⟩
      case round =>
        clear HO HB
        obtain ⟨k, hk, rfl, HO, HB⟩ := hrel
        have hz := (unhide HB).size
        by_cases hlt : k < n
        · have hkG : k < G.length := by rw [← unhide Hn]; exact hlt
          have hg32 := unhide hG G[k] (List.getElem_mem hkG)
          have hix := run_letTab 9 .u8 G[k].toNat hg32 (by kernel_rfl)
          obtain ⟨g, rfl, hgb⟩ : ∃ g, ao = some ⟨g, 0, none⟩ ∧ w.heap.size ≤ g := by
            rcases (unhide HO).2 with ⟨hv, h0⟩ | ⟨g, cap, cur, hv, hb, _⟩
            · injection hv; omega
            · injection hv with h1 h2 h3; exact ⟨g, h1, hb⟩
          have hc : wr.cell? ⟨g, k, none⟩ = some (.int .u8 (G[k].toNat : Nat)) := by
            rw [(unhide HO).cellAt k (by omega), bc_get _ _ (by rw [mapK_len]; exact hkG), mapK_get]
          have hfz := (unhide HO).frozenAt k
          have hst := ((unhide HO).stored k (.int .u8 ((letD G[k].toNat).toNat : Nat))).1
          have HS : Hid ((wr.setCell ⟨g, k, none⟩ (.int .u8 ((letD G[k].toNat).toNat : Nat))).ownsRow w.heap.size 5 1 (.slice (some ⟨g, 0, none⟩) n cap2) n (bc (mapK G (k + 1)))) := by
            show World.ownsRow _ _ _ _ _ _ _
            rw [← mapK_step G k hkG]
            simp only [bc, List.map_set] at hst ⊢
            exact hst
          have HB2 := hide ((unhide HB).setCell (p := ⟨g, k, none⟩) hgb (.int .u8 ((letD G[k].toNat).toNat : Nat)))
          have hlk : (((k : Nat) : Int) < ((n : Nat) : Int)) := by omega
          generalize (letD G[k].toNat).toNat = lv at *
          generalize G[k].toNat = gv at *
          clear hst HO HB
          go_wp2
          go_roundw
          case rel => exact ⟨k + 1, by omega, by go_num, HS, HB2⟩
          case measure => simp [intOf]; omega
        · have hke : k = n := by omega
          subst hke
          have hcv := run_string_own (P := Try.prog) 30 9 Try.undB (by kernel_rfl) (by kernel_rfl) (unhide HO)
          have HR : Hid (RES = mapK G k) := by show RES = _; rw [unhide Hn, mapK_all]; exact unhide hb32
          have q1 : ¬ ((k : Nat) : Int) < ((k : Nat) : Int) := by omega
          generalize hD : (mapK G k).toArray = D at *
          have HD := hide hD
          clear hD HO
          go_wp2
          go_ret
          exact ⟨by rw [unhide HR]; show _ = Ending.returned (.string ⟨(mapK G k).toArray⟩); rw [unhide HD]; rfl, unhide HB⟩
    · have hbc : Hid (bc [UInt8.ofNat (h' * 2 ^ (5 - 2))] = [.int .u8 ((h' : Nat) * 8 : Int)]) := by
        show bc _ = _
        simp only [bc, List.map_cons, List.map_nil, UInt8.toNat_ofNat']
        rw [Nat.mod_eq_of_lt (by simpa using (show h' * 2 ^ (5 - 2) < 256 from by omega))]
        simp
      have hw : IntKind.u8.wrap ((h' : Int) * 8) = (h' : Int) * 8 := by
        have e : (h' : Int) * 8 = ((h' * 8 : Nat) : Int) := by simp
        rw [e]; exact wrap256 _ (by omega)
      clear hshl r2
      go_wp2_with (at_builtin; refine wpList_append_own _ rfl _ _ 30 rfl w.heap.size 5 i0 (.int .u8 0) 1 1 Try.undB hi hz0 hz1 hz2 rfl (by decide) _ _ _ rfl ((unhide HO2).alloc _) ⟨w2.heap.size, 0, none⟩ 1 1 [.int .u8 ((h' : Nat) * 8 : Int)] rfl rfl (news_lit _ [_] _) ?c22 ?c32 ?c42 ?c52 ?_)
      case c22 => intro u hu; simp at hu; subst hu; rfl
      case c32 => unfold maxLen; omega
      case c42 => omega
      case c52 => simp; omega
      intro v' w3 hown2 hgrow2 _
      have HB : Hid (Below w.heap.size w w3) := ((unhide HB2).alloc (by omega) _).grown hgrow2 (by simp; omega) (fun k hk => ((unhide HO2).lt k hk).1)
      obtain ⟨n, hn⟩ : ∃ n, n = no + 1 := ⟨_, rfl⟩
      have Hn : Hid (n = G.length) := by show n = _; rw [unhide hGO, List.length_append, List.length_singleton, ← unhide Hno]; exact hn
      have HO : Hid (w3.ownsRow w.heap.size 5 1 v' n (bc G)) := by
        show World.ownsRow _ _ _ _ _ _ _
        rw [unhide hGO, bc_append, unhide hbc, hn]
        exact hown2
      have hol : n ≤ 40001 := by omega
      clear hown2 hgrow2 HO2 HB2 hn hw
      obtain ⟨ao, cap2, rfl⟩ := own_shape' (unhide HO)
      go_wp2
      go_loopw [26] (fun i wr => ∃ (k : Nat), k ≤ n ∧ i = .int .i64 (k : Nat) ∧ Hid (wr.ownsRow w.heap.size 5 1 (.slice ao n cap2) n (bc (mapK G k))) ∧ Hid (Below w.heap.size w wr)) (fun i _ => n - (intOf i).toNat)
      case atStart => exact ⟨0, Nat.zero_le _, rfl, by rw [mapK_zero]; exact HO, HB⟩
      case round =>
        clear HO HB
        obtain ⟨k, hk, rfl, HO, HB⟩ := hrel
        have hz := (unhide HB).size
        by_cases hlt : k < n
        · have hkG : k < G.length := by rw [← unhide Hn]; exact hlt
          have hg32 := unhide hG G[k] (List.getElem_mem hkG)
          have hix := run_letTab 9 .u8 G[k].toNat hg32 (by kernel_rfl)
          obtain ⟨g, rfl, hgb⟩ : ∃ g, ao = some ⟨g, 0, none⟩ ∧ w.heap.size ≤ g := by
            rcases (unhide HO).2 with ⟨hv, h0⟩ | ⟨g, cap, cur, hv, hb, _⟩
            · injection hv; omega
            · injection hv with h1 h2 h3; exact ⟨g, h1, hb⟩
          have hc : wr.cell? ⟨g, k, none⟩ = some (.int .u8 (G[k].toNat : Nat)) := by
            rw [(unhide HO).cellAt k (by omega), bc_get _ _ (by rw [mapK_len]; exact hkG), mapK_get]
          have hfz := (unhide HO).frozenAt k
          have hst := ((unhide HO).stored k (.int .u8 ((letD G[k].toNat).toNat : Nat))).1
          have HS : Hid ((wr.setCell ⟨g, k, none⟩ (.int .u8 ((letD G[k].toNat).toNat : Nat))).ownsRow w.heap.size 5 1 (.slice (some ⟨g, 0, none⟩) n cap2) n (bc (mapK G (k + 1)))) := by
            show World.ownsRow _ _ _ _ _ _ _
            rw [← mapK_step G k hkG]
            simp only [bc, List.map_set] at hst ⊢
            exact hst
          have HB2 := hide ((unhide HB).setCell (p := ⟨g, k, none⟩) hgb (.int .u8 ((letD G[k].toNat).toNat : Nat)))
          have hlk : (((k : Nat) : Int) < ((n : Nat) : Int)) := by omega
          generalize (letD G[k].toNat).toNat = lv at *
          generalize G[k].toNat = gv at *
          clear hst HO HB
          go_wp2
          go_roundw
          case rel => exact ⟨k + 1, by omega, by go_num, HS, HB2⟩
          case measure => simp [intOf]; omega
        · have hke : k = n := by omega
          subst hke
          have hcv := run_string_own (P := Try.prog) 30 9 Try.undB (by kernel_rfl) (by kernel_rfl) (unhide HO)
          have HR : Hid (RES = mapK G k) := by show RES = _; rw [unhide Hn, mapK_all]; exact unhide hb32
          have q1 : ¬ ((k : Nat) : Int) < ((k : Nat) : Int) := by omega
          generalize hD : (mapK G k).toArray = D at *
          have HD := hide hD
          clear hD HO
          go_wp2
          go_ret
          exact ⟨by rw [unhide HR]; show _ = Ending.returned (.string ⟨(mapK G k).toArray⟩); rw [unhide HD]; rfl, unhide HB⟩
    · have hbc : Hid (bc [UInt8.ofNat (h' * 2 ^ (5 - 3))] = [.int .u8 ((h' : Nat) * 4 : Int)]) := by
        show bc _ = _
        simp only [bc, List.map_cons, List.map_nil, UInt8.toNat_ofNat']
        rw [Nat.mod_eq_of_lt (by simpa using (show h' * 2 ^ (5 - 3) < 256 from by omega))]
        simp
      have hw : IntKind.u8.wrap ((h' : Int) * 4) = (h' : Int) * 4 := by
        have e : (h' : Int) * 4 = ((h' * 4 : Nat) : Int) := by simp
        rw [e]; exact wrap256 _ (by omega)
      clear hshl r2
      go_wp2_with (at_builtin; refine wpList_append_own _ rfl _ _ 30 rfl w.heap.size 5 i0 (.int .u8 0) 1 1 Try.undB hi hz0 hz1 hz2 rfl (by decide) _ _ _ rfl ((unhide HO2).alloc _) ⟨w2.heap.size, 0, none⟩ 1 1 [.int .u8 ((h' : Nat) * 4 : Int)] rfl rfl (news_lit _ [_] _) ?c23 ?c33 ?c43 ?c53 ?_)
      case c23 => intro u hu; simp at hu; subst hu; rfl
      case c33 => unfold maxLen; omega
      case c43 => omega
      case c53 => simp; omega
      intro v' w3 hown2 hgrow2 _
      have HB : Hid (Below w.heap.size w w3) := ((unhide HB2).alloc (by omega) _).grown hgrow2 (by simp; omega) (fun k hk => ((unhide HO2).lt k hk).1)
      obtain ⟨n, hn⟩ : ∃ n, n = no + 1 := ⟨_, rfl⟩
      have Hn : Hid (n = G.length) := by show n = _; rw [unhide hGO, List.length_append, List.length_singleton, ← unhide Hno]; exact hn
      have HO : Hid (w3.ownsRow w.heap.size 5 1 v' n (bc G)) := by
        show World.ownsRow _ _ _ _ _ _ _
        rw [unhide hGO, bc_append, unhide hbc, hn]
        exact hown2
      have hol : n ≤ 40001 := by omega
      clear hown2 hgrow2 HO2 HB2 hn hw
      obtain ⟨ao, cap2, rfl⟩ := own_shape' (unhide HO)
      go_wp2
      go_loopw [26] (fun i wr => ∃ (k : Nat), k ≤ n ∧ i = .int .i64 (k : Nat) ∧ Hid (wr.ownsRow w.heap.size 5 1 (.slice ao n cap2) n (bc (mapK G k))) ∧ Hid (Below w.heap.size w wr)) (fun i _ => n - (intOf i).toNat)
      case atStart => exact ⟨0, Nat.zero_le _, rfl, by rw [mapK_zero]; exact HO, HB⟩
      case round =>
        clear HO HB
        obtain ⟨k, hk, rfl, HO, HB⟩ := hrel
        have hz := (unhide HB).size
        by_cases hlt : k < n
        · have hkG : k < G.length := by rw [← unhide Hn]; exact hlt
          have hg32 := unhide hG G[k] (List.getElem_mem hkG)
          have hix := run_letTab 9 .u8 G[k].toNat hg32 (by kernel_rfl)
          obtain ⟨g, rfl, hgb⟩ : ∃ g, ao = some ⟨g, 0, none⟩ ∧ w.heap.size ≤ g := by
            rcases (unhide HO).2 with ⟨hv, h0⟩ | ⟨g, cap, cur, hv, hb, _⟩
            · injection hv; omega
            · injection hv with h1 h2 h3; exact ⟨g, h1, hb⟩
          have hc : wr.cell? ⟨g, k, none⟩ = some (.int .u8 (G[k].toNat : Nat)) := by
            rw [(unhide HO).cellAt k (by omega), bc_get _ _ (by rw [mapK_len]; exact hkG), mapK_get]
          have hfz := (unhide HO).frozenAt k
          have hst := ((unhide HO).stored k (.int .u8 ((letD G[k].toNat).toNat : Nat))).1
          have HS : Hid ((wr.setCell ⟨g, k, none⟩ (.int .u8 ((letD G[k].toNat).toNat : Nat))).ownsRow w.heap.size 5 1 (.slice (some ⟨g, 0, none⟩) n cap2) n (bc (mapK G (k + 1)))) := by
            show World.ownsRow _ _ _ _ _ _ _
            rw [← mapK_step G k hkG]
            simp only [bc, List.map_set] at hst ⊢
            exact hst
          have HB2 := hide ((unhide HB).setCell (p := ⟨g, k, none⟩) hgb (.int .u8 ((letD G[k].toNat).toNat : Nat)))
          have hlk : (((k : Nat) : Int) < ((n : Nat) : Int)) := by omega
          generalize (letD G[k].toNat).toNat = lv at *
          generalize G[k].toNat = gv at *
          clear hst HO HB
          go_wp2
          go_roundw
          case rel => exact ⟨k + 1, by omega, by go_num, HS, HB2⟩
          case measure => simp [intOf]; omega
        · have hke : k = n := by omega
          subst hke
          have hcv := run_string_own (P := Try.prog) 30 9 Try.undB (by kernel_rfl) (by kernel_rfl) (unhide HO)
          have HR : Hid (RES = mapK G k) := by show RES = _; rw [unhide Hn, mapK_all]; exact unhide hb32
          have q1 : ¬ ((k : Nat) : Int) < ((k : Nat) : Int) := by omega
          generalize hD : (mapK G k).toArray = D at *
          have HD := hide hD
          clear hD HO
          go_wp2
          go_ret
          exact ⟨by rw [unhide HR]; show _ = Ending.returned (.string ⟨(mapK G k).toArray⟩); rw [unhide HD]; rfl, unhide HB⟩
    · have hbc : Hid (bc [UInt8.ofNat (h' * 2 ^ (5 - 4))] = [.int .u8 ((h' : Nat) * 2 : Int)]) := by
        show bc _ = _
        simp only [bc, List.map_cons, List.map_nil, UInt8.toNat_ofNat']
        rw [Nat.mod_eq_of_lt (by simpa using (show h' * 2 ^ (5 - 4) < 256 from by omega))]
        simp
      have hw : IntKind.u8.wrap ((h' : Int) * 2) = (h' : Int) * 2 := by
        have e : (h' : Int) * 2 = ((h' * 2 : Nat) : Int) := by simp
        rw [e]; exact wrap256 _ (by omega)
      clear hshl r2
      go_wp2_with (at_builtin; refine wpList_append_own _ rfl _ _ 30 rfl w.heap.size 5 i0 (.int .u8 0) 1 1 Try.undB hi hz0 hz1 hz2 rfl (by decide) _ _ _ rfl ((unhide HO2).alloc _) ⟨w2.heap.size, 0, none⟩ 1 1 [.int .u8 ((h' : Nat) * 2 : Int)] rfl rfl (news_lit _ [_] _) ?c24 ?c34 ?c44 ?c54 ?_)
      case c24 => intro u hu; simp at hu; subst hu; rfl
      case c34 => unfold maxLen; omega
      case c44 => omega
      case c54 => simp; omega
      intro v' w3 hown2 hgrow2 _
      have HB : Hid (Below w.heap.size w w3) := ((unhide HB2).alloc (by omega) _).grown hgrow2 (by simp; omega) (fun k hk => ((unhide HO2).lt k hk).1)
      obtain ⟨n, hn⟩ : ∃ n, n = no + 1 := ⟨_, rfl⟩
      have Hn : Hid (n = G.length) := by show n = _; rw [unhide hGO, List.length_append, List.length_singleton, ← unhide Hno]; exact hn
      have HO : Hid (w3.ownsRow w.heap.size 5 1 v' n (bc G)) := by
        show World.ownsRow _ _ _ _ _ _ _
        rw [unhide hGO, bc_append, unhide hbc, hn]
        exact hown2
      have hol : n ≤ 40001 := by omega
      clear hown2 hgrow2 HO2 HB2 hn hw
      obtain ⟨ao, cap2, rfl⟩ := own_shape' (unhide HO)
      go_wp2
      go_loopw [26] (fun i wr => ∃ (k : Nat), k ≤ n ∧ i = .int .i64 (k : Nat) ∧ Hid (wr.ownsRow w.heap.size 5 1 (.slice ao n cap2) n (bc (mapK G k))) ∧ Hid (Below w.heap.size w wr)) (fun i _ => n - (intOf i).toNat)
      case atStart => exact ⟨0, Nat.zero_le _, rfl, by rw [mapK_zero]; exact HO, HB⟩
      case round =>
        clear HO HB
        obtain ⟨k, hk, rfl, HO, HB⟩ := hrel
        have hz := (unhide HB).size
        by_cases hlt : k < n
        · have hkG : k < G.length := by rw [← unhide Hn]; exact hlt
          have hg32 := unhide hG G[k] (List.getElem_mem hkG)
          have hix := run_letTab 9 .u8 G[k].toNat hg32 (by kernel_rfl)
          obtain ⟨g, rfl, hgb⟩ : ∃ g, ao = some ⟨g, 0, none⟩ ∧ w.heap.size ≤ g := by
            rcases (unhide HO).2 with ⟨hv, h0⟩ | ⟨g, cap, cur, hv, hb, _⟩
            · injection hv; omega
            · injection hv with h1 h2 h3; exact ⟨g, h1, hb⟩
          have hc : wr.cell? ⟨g, k, none⟩ = some (.int .u8 (G[k].toNat : Nat)) := by
            rw [(unhide HO).cellAt k (by omega), bc_get _ _ (by rw [mapK_len]; exact hkG), mapK_get]
          have hfz := (unhide HO).frozenAt k
          have hst := ((unhide HO).stored k (.int .u8 ((letD G[k].toNat).toNat : Nat))).1
          have HS : Hid ((wr.setCell ⟨g, k, none⟩ (.int .u8 ((letD G[k].toNat).toNat : Nat))).ownsRow w.heap.size 5 1 (.slice (some ⟨g, 0, none⟩) n cap2) n (bc (mapK G (k + 1)))) := by
            show World.ownsRow _ _ _ _ _ _ _
            rw [← mapK_step G k hkG]
            simp only [bc, List.map_set] at hst ⊢
            exact hst
          have HB2 := hide ((unhide HB).setCell (p := ⟨g, k, none⟩) hgb (.int .u8 ((letD G[k].toNat).toNat : Nat)))
          have hlk : (((k : Nat) : Int) < ((n : Nat) : Int)) := by omega
          generalize (letD G[k].toNat).toNat = lv at *
          generalize G[k].toNat = gv at *
          clear hst HO HB
          go_wp2
          go_roundw
          case rel => exact ⟨k + 1, by omega, by go_num, HS, HB2⟩
          case measure => simp [intOf]; omega
        · have hke : k = n := by omega
          subst hke
          have hcv := run_string_own (P := Try.prog) 30 9 Try.undB (by kernel_rfl) (by kernel_rfl) (unhide HO)
          have HR : Hid (RES = mapK G k) := by show RES = _; rw [unhide Hn, mapK_all]; exact unhide hb32
          have q1 : ¬ ((k : Nat) : Int) < ((k : Nat) : Int) := by omega
          generalize hD : (mapK G k).toArray = D at *
          have HD := hide hD
          clear hD HO
          go_wp2
          go_ret
          exact ⟨by rw [unhide HR]; show _ = Ending.returned (.string ⟨(mapK G k).toArray⟩); rw [unhide HD]; rfl, unhide HB⟩

end Go.Proofs.Ytgcfmgkhbenooaa

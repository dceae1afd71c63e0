/- choke: Top. -/
import Derived.Test.YtjndgglbapghhaaCkQ
import Derived.Test.YtjndgglbapghhaaCkR
namespace Go.Proofs.Ytjndgglbapghhaa
open Go.RowKit Go.Sort
set_option linter.unusedVariables false
attribute [local go_sem] Oper.semAt_some

theorem two_oth {w W : World} {g : Nat} {x y : Value} {t : TypeId} (hT : Two w g x y t) (h : Oth w none W) : Two W g x y t := (h.2 g hT.lt (by simp)).trans hT
theorem PrsAt.take {w : World} {a0 : Option Addr} {l : List Pr} (h : PrsAt w a0 l) (k : Nat) : PrsAt w a0 (l.take k) := fun t c ht => by
  rw [List.getElem?_take] at ht
  by_cases hk : t < k
  · rw [if_pos hk] at ht; exact h t c ht
  · rw [if_neg hk] at ht; cases ht
theorem ownPt_cap {T : TypeId} {w : World} {B : Nat} {v : Value} {l : List Pr} (h : OwnPt T w B v l) : ∃ a0 c, v = .slice a0 l.length c ∧ l.length ≤ c ∧ PrsAt w a0 l := by
  obtain ⟨a0, c, h1, h2⟩ := h.prs
  refine ⟨a0, c, h1, ?_, h2⟩
  rcases h.2 with ⟨h3, h4⟩ | ⟨g, cap, cur, h3, h4, h5, h6, h7⟩
  · omega
  · rw [h1] at h3
    cases h3
    exact h6
set_option maxRecDepth 100000 in
theorem stand_any (x y : Int) (w : World) : Calls Try.prog 30 #[rv x y] w fun e w' => e = .returned (.func (.func 45) #[] #[.pointer (some ⟨w.heap.size, 0, none⟩)]) ∧ w' = w.alloc (.cells #[.int .i64 x, .int .i64 y] 24) := by
  unfold rv
  go_enter Try.func30, Try.ntmps30
  go_wp2
  go_ret
  exact ⟨rfl, rfl⟩
def badTop : Ending := .returned (.tuple #[.slice none 0 0, .int .i64 1])
set_option maxRecDepth 100000 in
set_option maxHeartbeats 4000000 in
theorem top_bad (a0 : Option Addr) (l : List Pr) (c : Nat) (s x y : Int) (w : World) (hl : PrsAt w a0 l) (hm : l.length ≤ maxLen) (hb : (decide (0 ≤ s ∧ s ≤ 8) && okP x y && arP 1 l) = false) :
    Calls Try.prog 13 #[.slice a0 l.length c, .int .i64 s, rv x y] w fun e w' => e = badTop ∧ Below w.heap.size w w' := by
  have HC := hide (fun W => check_any x y W)
  have HA := hide (fun W (h : Below w.heap.size w W) => arePeers_any a0 l c W (hl.up h) hm)
  have B0 : Hid (Below w.heap.size w (w.alloc (.cells #[.int .i64 x, .int .i64 y] 24))) := (Below.refl _ w).alloc (Nat.le_refl _) _
  have T0 := hide (two_alloc w (.int .i64 x) (.int .i64 y) 24)
  have f0 := (unhide T0).c0
  have f1 := (unhide T0).c1
  clear hl hm
  generalize l.length = m at *
  generalize okP x y = P at *
  generalize arP 1 l = A at *
  unfold rv at *
  by_cases q0 : s < 0
  · clear hb
    go_enter Try.func13, Try.ntmps13
    go_wp2
    go_ret2
    exact ⟨rfl, unhide B0⟩
  by_cases q1 : 8 < s
  · clear hb
    go_enter Try.func13, Try.ntmps13
    go_wp2
    go_ret2
    exact ⟨rfl, unhide B0⟩
  rw [show decide (0 ≤ s ∧ s ≤ 8) = true from decide_eq_true ⟨by omega, by omega⟩, Bool.true_and] at hb
  cases P with
  | false =>
    clear hb
    go_enter Try.func13, Try.ntmps13
    go_wp2_with fail
    refine (unhide HC _).mono ?_
    rintro e w1 ⟨rfl, b1⟩
    have B1 := hide ((unhide B0).trans (b1.mono (unhide B0).size))
    clear b1
    go_wp2
    go_ret2
    exact ⟨rfl, unhide B1⟩
  | true =>
    rw [Bool.true_and] at hb
    subst hb
    go_enter Try.func13, Try.ntmps13
    go_wp2_with fail
    refine (unhide HC _).mono ?_
    rintro e w1 ⟨rfl, b1⟩
    have B1 := hide ((unhide B0).trans (b1.mono (unhide B0).size))
    clear b1 f0 f1 T0
    go_wp2_with fail
    refine (unhide HA _ (unhide B1)).mono ?_
    rintro e w2 ⟨rfl, b2⟩
    have B2 := hide ((unhide B1).trans (b2.mono (unhide B1).size))
    clear b2
    go_wp2
    go_ret2
    exact ⟨rfl, unhide B2⟩
structure TopR (w : World) (v : Value) (t : List Int) (w' : World) : Prop where
  own : OwnI w' w.heap.size v t
  be : Below w.heap.size w w'
set_option maxRecDepth 100000 in
set_option maxHeartbeats 4000000 in
theorem top_good (a0 : Option Addr) (l : List Pr) (c s : Nat) (x y : Int) (w : World) (hl : PrsAt w a0 l) (hm : l.length ≤ 1000) (hs : s ≤ 8) (hp : okP x y = true) (ha : arP 1 l = true) :
    Calls Try.prog 13 #[.slice a0 l.length c, .int .i64 s, rv x y] w fun e w' => ∃ v, e = .returned (.tuple #[v, .int .i64 0]) ∧ TopR w v (ndL (dTop x y s l)) w' := by
  have hc : ∀ W, Calls Try.prog 26 #[rv x y] W fun e w' => e = .returned (.bool true) ∧ Below W.heap.size W w' := fun W => by have := check_any x y W; rwa [hp] at this
  have har : ∀ W, Below w.heap.size w W → Calls Try.prog 27 #[.slice a0 l.length c] W fun e w' => e = .returned (.bool true) ∧ Below W.heap.size W w' := fun W h => by have := arePeers_any a0 l c W (hl.up h) (by unfold maxLen; omega); rwa [ha] at this
  have HC := hide hc
  have HA := hide har
  have HTh := hide (fun W (h : Below w.heap.size w W) => those_top a0 l c (fun p => p.wa) W (hl.up h) (by omega) (fun p _ W' _ => top1_any p W'))
  have HS := hide (fun W => stand_any x y W)
  have HBy := hide (fun (a1 : Option Addr) (F : List Pr) (c1 : Nat) (W : World) (g : Nat) (hT : Two W g (.int .i64 x) (.int .i64 y) 24) (h : PrsAt W a1 F) (hF : F.length ≤ 100000) =>
    by_any 45 #[.pointer (some ⟨g, 0, none⟩)] (stC x y) (swo_st x y) (enters_of Try.func45 (by kernel_rfl) rfl) a1 F c1 W h hF (fun W' hW p q => standing_any g x y p q W' (two_oth hT hW)))
  have HNm := hide (fun (a1 : Option Addr) (F : List Pr) (c1 : Nat) (W : World) (h : PrsAt W a1 F) (hF : F.length ≤ 100000) =>
    by_any 31 #[] nmC swo_nm (enters_of Try.func31 (by kernel_rfl) rfl) a1 F c1 W h hF (fun W' hW p q => numbers_any p q W'))
  have B0 : Hid (Below w.heap.size w (w.alloc (.cells #[.int .i64 x, .int .i64 y] 24))) := (Below.refl _ w).alloc (Nat.le_refl _) _
  have T0 := hide (two_alloc w (.int .i64 x) (.int .i64 y) 24)
  have f0 := (unhide T0).c0
  have f1 := (unhide T0).c1
  have HE := hide (fun L S h1 h2 h3 h4 => top_eq x y s l (arP_ris ha).1 L S h1 h2 h3 h4)
  have hFl : (l.filter fun p => p.wa).length ≤ l.length := List.length_filter_le _ _
  have HFL := hide hFl
  have HM := hide hm
  have q0 : ¬ (s : Int) < 0 := by omega
  have q1 : ¬ (8 : Int) < s := by omega
  clear hl hc har hFl hm ha hp
  obtain ⟨F, hF⟩ : ∃ F, F = l.filter fun p => p.wa := ⟨_, rfl⟩
  rw [← hF] at HTh HE HFL
  clear hF
  obtain ⟨m, hmm⟩ : ∃ m, m = l.length := ⟨_, rfl⟩
  rw [← hmm] at HTh HA HFL HM ⊢
  clear hmm
  unfold rv at *
  go_enter Try.func13, Try.ntmps13
  go_wp2_with fail
  refine (unhide HC _).mono ?_
  rintro e w1 ⟨rfl, b1⟩
  have T1 := hide ((unhide T0).up b1)
  have B1 := hide ((unhide B0).trans (b1.mono (unhide B0).size))
  clear b1 f0 f1 T0 B0
  go_wp2_with fail
  refine (unhide HA _ (unhide B1)).mono ?_
  rintro e w2 ⟨rfl, b2⟩
  have T2 := hide ((unhide T1).up b2)
  have B2 := hide ((unhide B1).trans (b2.mono (unhide B1).size))
  clear b2 T1 B1
  go_wp2_with fail
  refine (unhide HTh _ (unhide B2)).mono ?_
  rintro e w3 ⟨v3, rfl, o3, b3⟩
  obtain ⟨a3, c3, rfl, hc3, p3⟩ := ownPt_cap o3
  have T3 := hide ((unhide T2).up b3)
  have B3 := hide ((unhide B2).trans (b3.mono (unhide B2).size))
  have P3 := hide p3
  clear b3 T2 B2 o3 p3 hc3 HTh HA HC
  have f0 := (unhide T3).c0
  have f1 := (unhide T3).c1
  go_wp2_with fail
  refine (unhide HS _).mono ?_
  rintro e w4 ⟨rfl, rfl⟩
  have T4 := hide (two_alloc w3 (.int .i64 x) (.int .i64 y) 24)
  have b4 : Below w3.heap.size w3 (w3.alloc (.cells #[.int .i64 x, .int .i64 y] 24)) := (Below.refl _ w3).alloc (Nat.le_refl _) _
  have P4 := hide ((unhide P3).up b4)
  have B4 := hide ((unhide B3).trans (b4.mono (unhide B3).size))
  have hfl := unhide HFL
  have hm0 := unhide HM
  have HX := hide (unhide HBy a3 F c3 _ _ (unhide T4) (unhide P4) (by omega))
  clear b4 f0 f1 T3 B3 P3 T4 P4 HS
  obtain ⟨n, hn⟩ : ∃ n, n = F.length := ⟨_, rfl⟩
  rw [← hn] at HX hfl ⊢
  have HN := hide hn
  clear hn
  go_wp2_with fail
  refine (unhide HX).mono ?_
  rintro e w5 ⟨v5, rfl, h5⟩
  obtain ⟨L, l1, l2, l3⟩ := h5.own
  obtain ⟨a5, c5, rfl, hc5, p5⟩ := ownPt_cap l3
  have B5 := hide ((unhide B4).trans (h5.be.mono (unhide B4).size))
  have hLn : L.length = n := l1.length_eq.trans (unhide HN).symm
  rw [hLn] at hc5 ⊢
  have HLN := hide hLn
  have P5 := hide p5
  have L1 := hide l1
  have L2 := hide l2
  clear h5 l1 l2 l3 p5 hLn HX B4
  rcases Nat.lt_or_ge n s with hns | hns
  · have q2 :  (n : Int) < s := by omega
    have q3 : (n : Nat) ≤ c5 := by omega
    have HTK : Hid (L.take s = L.take n) := by
      show _ = _
      rw [List.take_of_length_le (by rw [unhide HLN]; omega), List.take_of_length_le (by rw [unhide HLN]; exact Nat.le_refl _)]
    have HTN : Hid ((L.take n).length = n) := by
      show _ = _
      rw [List.length_take, unhide HLN]
      omega
    have HP6 := hide ((unhide P5).take n)
    have HX := hide (unhide HNm a5 (L.take n) c5 w5 (unhide HP6) (by rw [unhide HTN]; omega))
    rw [unhide HTN] at HX
    go_wp2_with fail
    rw [show (min (s : Int) (n : Int)).toNat = n by omega]
    refine (unhide HX).mono ?_
    rintro e w6 ⟨v6, rfl, h6⟩
    obtain ⟨S, s1, s2, s3⟩ := h6.own
    obtain ⟨a6, c6, rfl, hc6, p6⟩ := ownPt_cap s3
    have B6 := hide ((unhide B5).trans (h6.be.mono (unhide B5).size))
    have hS := unhide HE L S (by have := unhide L1; exact this) (unhide L2) (by rw [unhide HTK]; exact s1) s2
    have hSn : S.length = n := s1.length_eq.trans (unhide HTN)
    have HND := hide (nodes_any a6 S c6 w6 p6 (by omega))
    rw [hSn] at HND ⊢
    rw [hS] at HND
    clear h6 s1 s2 s3 p6 hSn hS HX HP6 HTK HTN B5 hc6
    go_wp2_with fail
    refine (unhide HND).mono ?_
    rintro e w7 ⟨v7, rfl, o7, b7⟩
    have HR := hide (show TopR w v7 (ndL (dTop x y s l)) w7 from ⟨own_i_le o7 (unhide B6).size, (unhide B6).trans (b7.mono (unhide B6).size)⟩)
    clear o7 b7
    go_wp2
    go_ret2
    exact ⟨_, rfl, unhide HR⟩
  · have q2 : ¬ (n : Int) < s := by omega
    have q3 : (s : Nat) ≤ c5 := by omega
    have HTN : Hid ((L.take s).length = s) := by
      show _ = _
      rw [List.length_take, unhide HLN]
      omega
    have HP6 := hide ((unhide P5).take s)
    have HX := hide (unhide HNm a5 (L.take s) c5 w5 (unhide HP6) (by rw [unhide HTN]; omega))
    rw [unhide HTN] at HX
    go_wp2_with fail
    rw [show (min (s : Int) (n : Int)).toNat = s by omega]
    refine (unhide HX).mono ?_
    rintro e w6 ⟨v6, rfl, h6⟩
    obtain ⟨S, s1, s2, s3⟩ := h6.own
    obtain ⟨a6, c6, rfl, hc6, p6⟩ := ownPt_cap s3
    have B6 := hide ((unhide B5).trans (h6.be.mono (unhide B5).size))
    have hS := unhide HE L S (by have := unhide L1; exact this) (unhide L2) s1 s2
    have hSn : S.length = s := s1.length_eq.trans (unhide HTN)
    have HND := hide (nodes_any a6 S c6 w6 p6 (by omega))
    rw [hSn] at HND ⊢
    rw [hS] at HND
    clear h6 s1 s2 s3 p6 hSn hS HX HP6 HTN B5 hc6
    go_wp2_with fail
    refine (unhide HND).mono ?_
    rintro e w7 ⟨v7, rfl, o7, b7⟩
    have HR := hide (show TopR w v7 (ndL (dTop x y s l)) w7 from ⟨own_i_le o7 (unhide B6).size, (unhide B6).trans (b7.mono (unhide B6).size)⟩)
    clear o7 b7
    go_wp2
    go_ret2
    exact ⟨_, rfl, unhide HR⟩
end Go.Proofs.Ytjndgglbapghhaa
